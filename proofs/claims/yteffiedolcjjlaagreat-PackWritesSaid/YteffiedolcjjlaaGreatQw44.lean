/- Texts put together: YShDl3, YShDl4, YShDm7, YShDm8. -/
import Derived.Test.YteffiedolcjjlaaGreatQw32
import Derived.Test.YteffiedolcjjlaaGreatQw31
/- The document's own Sizes, num, step, Apply of a delta. -/
set_option linter.unusedVariables false
set_option linter.unusedSimpArgs false
namespace Go.Proofs.YteffiedolcjjlaaGreat.Sh
open Go.RowKit

set_option maxRecDepth 100000 in
set_option maxHeartbeats 800000 in
theorem rnum_any (n : Nat) (w : World) (h : n ≤ 72057594037927936) : Calls Tryz.prog 51 #[.int .i64 (n : Int)] w (OwnPost w (putL n)) := by
  have HP := Lib.hid (rput_any n w h)
  clear h
  go_enter Tryz.func51, Tryz.ntmps51
  go_wp2_with fail
  refine HP.out.mono ?_
  rintro x w1 ⟨v, rfl, ho, hb⟩
  have HO := Lib.hid ho
  have HB := Lib.hid hb
  clear ho hb
  go_wp2
  go_ret
  exact ⟨v, rfl, HO.out, HB.out⟩

/-- The document's step: what goes beyond the target is refused there. -/
def stepR (base d : List UInt8) (k : Nat) (left : Int) : List UInt8 × Int × Int := if (stepD base d k).2.2 ≠ 0 then stepD base d k else if left < ((stepD base d k).1.length : Int) then ([], 0, 3) else stepD base d k
def StepRPost (w : World) (s : List UInt8 × Int × Int) (e : Ending) (w' : World) : Prop := ∃ v, e = .returned (.tuple #[v, .int .i64 s.2.1, .int .i64 s.2.2]) ∧ Sl w' v s.1 ∧ Below w.heap.size w w'

end Go.Proofs.YteffiedolcjjlaaGreat.Sh
/- The document's step (inserts, others), its Apply. -/
set_option linter.unusedVariables false
set_option linter.unusedSimpArgs false
namespace Go.Proofs.YteffiedolcjjlaaGreat.Sh
open Go.RowKit

end Go.Proofs.YteffiedolcjjlaaGreat.Sh
/- The document's own match. -/
set_option linter.unusedVariables false
set_option linter.unusedSimpArgs false
namespace Go.Proofs.YteffiedolcjjlaaGreat.Sh
open Go.RowKit

set_option maxRecDepth 100000 in
set_option maxHeartbeats 3200000 in
theorem rmatch_any (vb vt : Value) (base target : List UInt8) (k : Nat) (w : World) (hb : Sl w vb base) (ht : Sl w vt target) (hk : k ≤ target.length) (hb20 : base.length ≤ 20000) (ht20 : target.length ≤ 20000) :
    Calls Tryz.prog 86 #[vb, vt, .int .i64 (k : Int)] w fun e w' => e = .returned (.tuple #[.int .i64 (((bestK base (target.drop k) base.length).1 : Nat) : Int), .int .i64 (((bestK base (target.drop k) base.length).2 : Nat) : Int)]) ∧ Below w.heap.size w w' := by
  obtain ⟨B, cb, rfl, hlb, hcb, hIb⟩ := hb.len
  obtain ⟨T, c, rfl, hl, hcm, hI⟩ := ht.len
  unfold maxLen at hcb hcm
  obtain ⟨bl, hBL⟩ : ∃ l, base.length = l := ⟨_, rfl⟩
  obtain ⟨tl, hTL⟩ : ∃ l, target.length = l := ⟨_, rfl⟩
  rw [hBL] at hlb hb20 ⊢
  rw [hTL] at hl ht20 hk ⊢
  have HBL := Lib.hid hBL
  have HTL := Lib.hid hTL
  have HIB := Lib.hid hIb
  have HIT := Lib.hid hI
  have hk0 : (0 : Int) ≤ (k : Int) := by omega
  have hkt : (k : Int) ≤ (tl : Int) := by omega
  clear hb ht hIb hI hBL hTL
  go_enter Tryz.func86, Tryz.ntmps86
  go_wp2_with fail
  go_loopw [8, 9, 10, 11] (fun pl sz i _ wr => ∃ j : Nat, j ≤ bl ∧ i = .int .i64 (j : Int) ∧ pl = .int .i64 (((bestK base (target.drop k) j).1 : Nat) : Int) ∧ sz = .int .i64 (((bestK base (target.drop k) j).2 : Nat) : Int) ∧ Below w.heap.size w wr) (fun _ _ i _ _ => bl - (intOf i).toNat)
  case atStart => exact ⟨0, Nat.zero_le _, rfl, rfl, rfl, Below.refl _ _⟩
  case round =>
    obtain ⟨j, hj, rfl, rfl, rfl, hbw⟩ := hrel
    by_cases hjb : j < bl
    · have hjb2 : (j : Int) < (bl : Int) := by omega
      have hj0 : (0 : Int) ≤ (j : Int) := by omega
      have hle := lcp_le (base.drop j) (target.drop k)
      rw [List.length_drop, List.length_drop, HBL.out, HTL.out] at hle
      have HAT : Hid (∀ i, i < lcp (base.drop j) (target.drop k) → base.getD (j + i) 0 = target.getD (k + i) 0) := fun i hi => by
        have := lcp_at hi
        simpa [List.getD_eq_getElem?_getD, List.getElem?_drop] using this
      have HEN : Hid (lcp (base.drop j) (target.drop k) < bl - j → lcp (base.drop j) (target.drop k) < tl - k → base.getD (j + lcp (base.drop j) (target.drop k)) 0 ≠ target.getD (k + lcp (base.drop j) (target.drop k)) 0) := fun h1 h2 => by
        have := lcp_end (base.drop j) (target.drop k) (by rw [List.length_drop, HBL.out]; exact h1) (by rw [List.length_drop, HTL.out]; exact h2)
        simpa [List.getD_eq_getElem?_getD, List.getElem?_drop] using this
      have HNX : Hid (bestK base (target.drop k) (j + 1) = if (bestK base (target.drop k) j).2 < lcp (base.drop j) (target.drop k) then (j, lcp (base.drop j) (target.drop k)) else bestK base (target.drop k) j) := rfl
      obtain ⟨m, hm⟩ : ∃ m, lcp (base.drop j) (target.drop k) = m := ⟨_, rfl⟩
      rw [hm] at hle HAT HEN HNX
      obtain ⟨r, hr⟩ : ∃ r, bestK base (target.drop k) j = r := ⟨_, rfl⟩
      rw [hr] at HNX ⊢
      obtain ⟨wl, hwl⟩ : ∃ wl, wl = wr := ⟨_, rfl⟩
      subst hwl
      have HBW := Lib.hid hbw
      clear hm hr hbw
      go_wp2_with fail
      go_loopw [11] (fun n wr => ∃ i : Nat, i ≤ m ∧ n = .int .i64 (i : Int) ∧ Below w.heap.size w wr) (fun n _ => bl - (intOf n).toNat)
      case atStart => exact ⟨0, Nat.zero_le _, rfl, HBW.out⟩
      case round =>
        clear HBW
        obtain ⟨i, hi, rfl, hbw⟩ := hrel
        have HBW := Lib.hid hbw
        clear hbw
        obtain ⟨ji, hji⟩ : ∃ x, j + i = x := ⟨_, rfl⟩
        obtain ⟨ki, hki⟩ : ∃ x, k + i = x := ⟨_, rfl⟩
        have e1 : (j : Int) + (i : Int) = (ji : Int) := by omega
        have e2 : (k : Int) + (i : Int) = (ki : Int) := by omega
        have w1 : IntKind.i64.wrap ((j : Int) + (i : Int)) = (ji : Int) := by rw [e1]; exact IntWalk.i64_in _ (by omega)
        have w2 : IntKind.i64.wrap ((k : Int) + (i : Int)) = (ki : Int) := by rw [e2]; exact IntWalk.i64_in _ (by omega)
        have hji0 : (0 : Int) ≤ (ji : Int) := by omega
        have hki0 : (0 : Int) ≤ (ki : Int) := by omega
        have hwb := HBW.out
        go_upto_region 6 with (fail)
        go_cut [46] (fun cx wx => cx = .bool (decide (i < m)) ∧ Below w.heap.size w wx)
        case first =>
          by_cases h1 : ji < bl
          · have h1i : (ji : Int) < (bl : Int) := by omega
            by_cases h2 : ki < tl
            · have h2i : (ki : Int) < (tl : Int) := by omega
              obtain ⟨ab, rfl, hc1⟩ := (HIB.out.below hwb).at_ ji (by rw [HBL.out]; exact h1)
              obtain ⟨at', rfl, hc2⟩ := (HIT.out.below hwb).at_ ki (by rw [HTL.out]; exact h2)
              have HEQ : Hid ((bi (base.getD ji 0) == bi (target.getD ki 0)) = decide (i < m)) := by
                unfold Hid
                by_cases him : i < m
                · have := HAT.out i him
                  rw [hji, hki] at this
                  rw [this, beq_self_eq_true, decide_eq_true him]
                · have e : i = m := by omega
                  have := HEN.out (by omega) (by omega)
                  rw [← e, hji, hki] at this
                  rw [decide_eq_false him, beq_eq_false_iff_ne]
                  exact fun h => this (bi_inj h)
              obtain ⟨x, hx⟩ : ∃ x, bi (base.getD ji 0) = x := ⟨_, rfl⟩
              obtain ⟨y, hy⟩ : ∃ x, bi (target.getD ki 0) = x := ⟨_, rfl⟩
              obtain ⟨q, hq⟩ : ∃ q, decide (i < m) = q := ⟨_, rfl⟩
              rw [hx] at hc1
              rw [hy] at hc2
              rw [hx, hy, hq] at HEQ
              have heq : (x == y) = q := HEQ.out
              have HQ := Lib.hid hq
              clear hx hy hji hki e1 e2 hi hq HEQ
              go_quiet (fail)
              go_wp2_with fail
              go_meet
              exact ⟨by rw [HQ.out], below_drewN HBW.out _⟩
            · have h2i : (tl : Int) ≤ (ki : Int) := by omega
              have d2 : decide (ki < tl) = false := decide_eq_false h2
              have him : decide (i < m) = false := decide_eq_false (by omega)
              have HQ := Lib.hid him
              clear hji hki e1 e2 hi h1 h2 him
              go_quiet (fail)
              go_wp2_with fail
              go_meet
              exact ⟨by rw [HQ.out], below_drewN HBW.out _⟩
          · have h1i : (bl : Int) ≤ (ji : Int) := by omega
            have d1 : decide (ji < bl) = false := decide_eq_false h1
            have him : decide (i < m) = false := decide_eq_false (by omega)
            have HQ := Lib.hid him
            clear hji hki e1 e2 hi h1 him
            go_quiet (fail)
            go_wp2_with fail
            go_meet
            exact ⟨by rw [HQ.out], below_drewN HBW.out _⟩
        case rest =>
          obtain ⟨rfl, hbc⟩ := hcut
          have HBC := Lib.hid hbc
          clear hbc hwb HBW w1 w2 e1 e2 hji hki
          by_cases him : i < m
          · rw [decide_eq_true him]
            have hi0 : (0 : Int) ≤ (i : Int) := by omega
            have hi1 : (i : Int) ≤ 20000 := by omega
            go_wp2_with fail
            go_roundw
            case rel => exact ⟨i + 1, by omega, by go_num, HBC.out⟩
            case measure => simp [intOf]; omega
          · have e : i = m := by omega
            subst e
            rw [decide_eq_false him]
            have hi0 : (0 : Int) ≤ (i : Int) := by omega
            by_cases hsz : r.2 < i
            · have hsz2 : ((r.2 : Nat) : Int) < (i : Int) := by omega
              have hn := HNX.out
              rw [if_pos hsz] at hn
              have HN2 := Lib.hid hn
              obtain ⟨p, q⟩ := r
              clear him hi hn hsz
              go_wp2_with fail
              go_roundw
              case rel => exact ⟨j + 1, by omega, by go_num, by rw [HN2.out], by rw [HN2.out], HBC.out⟩
              case measure => simp [intOf]; omega
            · have hsz2 : (i : Int) ≤ ((r.2 : Nat) : Int) := by omega
              have hn := HNX.out
              rw [if_neg hsz] at hn
              have HN2 := Lib.hid hn
              obtain ⟨p, q⟩ := r
              clear him hi hn hsz
              go_wp2_with fail
              go_roundw
              case rel => exact ⟨j + 1, by omega, by go_num, by rw [HN2.out], by rw [HN2.out], HBC.out⟩
              case measure => simp [intOf]; omega
    · obtain rfl : j = bl := by omega
      have hjj : ¬ (j : Int) < (j : Int) := by omega
      obtain ⟨r, hr⟩ : ∃ r, bestK base (target.drop k) j = r := ⟨_, rfl⟩
      rw [hr]
      have HRR := Lib.hid hr
      have HBW := Lib.hid hbw
      clear hr hbw hjb
      go_wp2_with fail
      go_ret2
      exact ⟨by rw [HRR.out]; rfl, HBW.out⟩
end Go.Proofs.YteffiedolcjjlaaGreat.Sh
/- The document's own Make. -/
set_option linter.unusedVariables false
set_option linter.unusedSimpArgs false
namespace Go.Proofs.YteffiedolcjjlaaGreat.Sh
open Go.RowKit

/-- Two rows of one's own, apart. -/
def Two2 (w : World) (B : Nat) (v : Value) (bs : List UInt8) (u : Value) (cs : List UInt8) : Prop := Own w B v bs ∧ Own w B u cs ∧ (u.ownBlock = none ∨ u.ownBlock ≠ v.ownBlock)
section
variable {w w' : World} {B : Nat} {v u : Value} {bs cs : List UInt8}
theorem Two2.swap (h : Two2 w B v bs u cs) : Two2 w B u cs v bs := by
  refine ⟨h.2.1, h.1, ?_⟩
  rcases h.2.2 with h0 | h0
  · rw [h0]
    cases v.ownBlock with
    | none => exact .inl rfl
    | some k => exact .inr (by simp)
  · exact .inr fun e => h0 e.symm
theorem Two2.below (h : Two2 w B v bs u cs) (hb : Below w.heap.size w w') : Two2 w' B v bs u cs := ⟨h.1.below hb, h.2.1.below hb, h.2.2⟩
theorem Two2.alloc (h : Two2 w B v bs u cs) (o : Obj) : Two2 (w.alloc o) B v bs u cs := ⟨h.1.alloc o, h.2.1.alloc o, h.2.2⟩
theorem Two2.reads {A : Option Addr} {l c : Nat} (h : Two2 w B v bs (.slice A l c) cs) (hl : cs.length = l) : Reads w w.heap.size 1 A l (cs.map bv) := by
  obtain ⟨A', c', hv, _, _, hI, _⟩ := h.2.1.sl
  injection hv with e1 e2 e3
  subst e1
  have := hI.reads
  rwa [hl] at this
theorem Two2.nil_ (h : Own w B v bs) : Two2 w B v bs (.slice none 0 0) [] := ⟨h, Own.nil_ _ _, .inl rfl⟩
end
theorem append_two {ops : Array Oper} {rest : List Oper} {o : Oper} {a : Act} {Q : Exit → Act → World → Prop} (hgd : o.guard = none) (s x : Operand)
    (ho : o.op = .call { callee := .builtin .append, args := #[s, x], argTypes := #[51, 51] }) (w : World) (B : Nat) (v u : Value) (bs cs : List UInt8) (hs : a.eval s = v) (h2 : Two2 w B v bs u cs)
    (B' : Nat) (A : Option Addr) (m c : Nat) (news : List UInt8) (hx : a.eval x = .slice A m c) (hr : Reads w B' 1 A m (news.map bv)) (hsmall : bs.length + m ≤ 140737488355328) (hB : B ≤ w.heap.size)
    (h : ∀ v' w', Two2 w' B v' (bs ++ news) u cs → Below B w w' → wpList Tryz.prog ops Q rest (a.put o.dst v') w') : wpList Tryz.prog ops Q (o :: rest) a w := by
  obtain ⟨i0, hi, hz0, hz1, hz2⟩ := info_parts info5
  have hm : news.length = m := by have := hr.1; simpa using this
  obtain ⟨hown, hu, hap⟩ := h2
  refine wpList_append_any w hgd s x 51 ho B 5 i0 (.int .u8 0) 1 1 Tryz.underlying51 hi hz0 hz1 hz2 rfl (by decide) v bs.length _ hs hown B' A m c _ hx hr (bv_one news) (by unfold maxLen; omega) (by omega) hB ?_
  intro v' w' h1 h2 h3
  refine h v' w' ⟨?_, (hu.ownV.kept h2 hap).own, ?_⟩ ((Below.refl _ _).grown h2 hB (fun k hk => (hown.lt k hk).1))
  · unfold Own
    rw [List.length_append, hm, List.map_append]
    exact h1
  · rcases h3 with h3 | h3
    · rw [h3]; exact hap
    · rw [h3]
      cases hk : u.ownBlock with
      | none => exact .inl rfl
      | some k =>
        right
        intro e
        injection e with e
        have := (hu.ownV.lt k hk).2
        omega
theorem append_byte2 {ops : Array Oper} {rest : List Oper} {o : Oper} {a : Act} {Q : Exit → Act → World → Prop} (hgd : o.guard = none) (s x : Operand)
    (ho : o.op = .call { callee := .builtin .append, args := #[s, x], argTypes := #[51, 51] }) (w : World) (B : Nat) (v u : Value) (bs cs : List UInt8) (hs : a.eval s = v) (h2 : Two2 w B v bs u cs)
    (k : Int) (b : UInt8) (hb : bi b = k) (hx : a.eval x = .slice (some ⟨w.heap.size, 0, none⟩) 1 1) (hsmall : bs.length + 1 ≤ 140737488355328) (hB : B ≤ w.heap.size)
    (h : ∀ v' w', Two2 w' B v' (bs ++ [b]) u cs → Below B w w' → wpList Tryz.prog ops Q rest (a.put o.dst v') w') : wpList Tryz.prog ops Q (o :: rest) a (w.alloc (.cells #[.int .u8 k] 5)) := by
  subst hb
  refine append_two hgd s x ho _ B v u bs cs hs (h2.alloc _) _ _ 1 1 [b] hx (reads_new _ [b] _ rfl 1 rfl) hsmall (by simp; omega) ?_
  intro v' w' h1 h3
  exact h v' w' h1 (((Below.refl _ _).alloc hB _).trans h3)
theorem bestK_nil (base : List UInt8) : ∀ k, bestK base [] k = (0, 0)
  | 0 => rfl
  | k + 1 => by rw [bestK, lcp_nil_r, if_neg (by omega), bestK_nil base k]
theorem flush_cons {p : List UInt8} (h : p ≠ []) : encs (flushS p) = 2 :: (putL p.length ++ p) := by rw [encs_flush, if_neg h]

set_option maxRecDepth 100000 in
set_option maxHeartbeats 6400000 in
theorem rmake_any (vb vt : Value) (base target : List UInt8) (w : World) (hb : Sl w vb base) (ht : Sl w vt target) (hb20 : base.length ≤ 20000) (ht20 : target.length ≤ 20000) :
    Calls Tryz.prog 52 #[vb, vt] w (OwnPost w (makeD base target)) := by
  have HMT := Lib.hid (fun (W : World) (k : Nat) (hk : k ≤ target.length) (hW : Below w.heap.size w W) => rmatch_any vb vt base target k W (hb.below hW) (ht.below hW) hk hb20 ht20)
  have HDL := Lib.hid (make_len base target hb20 ht20)
  have HDE : Hid (makeD base target = putL base.length ++ putL target.length ++ encs (stepsD (m8 base) target.length target [])) := rfl
  have HMO := Lib.hid (m8_ok base)
  have H8 : Hid (∀ t, m8 base t = if 8 ≤ (bestK base t base.length).2 then bestK base t base.length else (0, 0)) := fun t => best8_eq base t base.length
  obtain ⟨B, cb, rfl, hlb, hcb, hIb⟩ := hb.len
  obtain ⟨T, c, rfl, hl, hcm, hI⟩ := ht.len
  unfold maxLen at hcb hcm
  obtain ⟨D, hD⟩ : ∃ D, makeD base target = D := ⟨_, rfl⟩
  rw [hD] at HDL HDE ⊢
  obtain ⟨bl, hBL⟩ : ∃ l, base.length = l := ⟨_, rfl⟩
  obtain ⟨tl, hTL⟩ : ∃ l, target.length = l := ⟨_, rfl⟩
  rw [hBL] at hlb hb20 HDE H8 HMT ⊢
  rw [hTL] at hl ht20 HDE HMT ⊢
  have HBL := Lib.hid hBL
  have HTL := Lib.hid hTL
  have HIT := Lib.hid hI
  have g1 : (bl : Int) ≤ 20000 := by omega
  have g2 : (tl : Int) ≤ 20000 := by omega
  have hp1 := putL_len9 (show bl ≤ 72057594037927936 by omega)
  have hp2 := putL_len9 (show tl ≤ 72057594037927936 by omega)
  have HP1 := Lib.hid hp1
  clear hb ht hIb hI hD hBL hTL hp1
  go_enter Tryz.func52, Tryz.ntmps52
  go_wp2_with fail
  refine (rnum_any bl w (by omega)).mono ?_
  rintro e w1 ⟨v1, rfl, ho1, hb1⟩
  have HO1 := Lib.hid ho1
  have HB1 := Lib.hid hb1
  clear ho1 hb1
  go_wp2_with fail
  refine (rnum_any tl w1 (by omega)).mono ?_
  rintro e w2 ⟨v2, rfl, ho2, hb2⟩
  have HO2 := Lib.hid (HO1.out.below hb2)
  have HB2 := Lib.hid (HB1.out.trans (hb2.mono HB1.out.size))
  obtain ⟨A2, c2, rfl, hl2, hm2, hI2, _⟩ := ho2.sl
  have HR2 := Lib.hid hI2.reads
  obtain ⟨l2, hll2⟩ : ∃ l, (putL tl).length = l := ⟨_, rfl⟩
  rw [hll2] at HR2 hl2 hp2 ⊢
  have hs2 : (putL bl).length + l2 ≤ 140737488355328 := by have := HP1.out; omega
  have hz2 := HB2.out.size
  clear ho2 hb2 hI2 hll2
  go_wp2_with (at_builtin; refine append_bytes rfl (.tmp 20) (.tmp 23) rfl w2 w.heap.size v1 _ rfl HO2.out _ A2 l2 c2 (putL tl) rfl HR2.out hs2 hz2 ?_; intro v3 w3 ho3 hb3; have HO3 := Lib.hid ho3; have HB3 := Lib.hid (HB2.out.trans hb3); clear ho3 hb3)
  go_loopw [5, 6, 7, 8, 9] (fun v u at_ _ _ wr => ∃ (dl il : List UInt8) (k f : Nat), at_ = .int .i64 (k : Int) ∧ il.length ≤ k ∧ Two2 wr w.heap.size v dl u il ∧ Below w.heap.size w wr ∧ (k ≤ tl ∧ tl - k ≤ f ∧ D = dl ++ encs (stepsD (m8 base) f (target.drop k) il) ∨ k = tl + 1 ∧ D = dl)) (fun _ _ at_ _ _ _ => tl + 1 - (intOf at_).toNat)
  case atStart => exact ⟨_, [], 0, tl, rfl, by simp, Two2.nil_ HO3.out, HB3.out, .inl ⟨Nat.zero_le _, by omega, by rw [HDE.out]; rfl⟩⟩
  case round =>
    clear HO3 HB3 HR2 HO1 HO2 HB1 HB2
    obtain ⟨dl, il, k, f, rfl, hilk, htw, hbw, hst⟩ := hrel
    have HBW := Lib.hid hbw
    have hwz := hbw.size
    clear hbw
    rcases hst with ⟨hk, hf, hDeq⟩ | ⟨rfl, hDeq⟩
    · have hkt : (k : Int) ≤ (tl : Int) := by omega
      have hk0 : (0 : Int) ≤ (k : Int) := by omega
      have hdl : dl.length ≤ 700000 := by
        have := HDL.out
        rw [hDeq, List.length_append] at this
        omega
      obtain ⟨Ai, ci, rfl, hli, hci⟩ := htw.2.1.length
      unfold maxLen at hci
      have HTW := Lib.hid htw
      have HDQ := Lib.hid hDeq
      obtain ⟨ll, hll⟩ : ∃ l, il.length = l := ⟨_, rfl⟩
      rw [hll] at hilk hli HTW ⊢
      have HLL := Lib.hid hll
      have h8 := H8.out (target.drop k)
      have hmo := HMO.out (target.drop k)
      rw [HBL.out, List.length_drop, HTL.out] at hmo
      obtain ⟨r, hr⟩ : ∃ r, bestK base (target.drop k) bl = r := ⟨_, rfl⟩
      have hnil : k = tl → r = (0, 0) := fun e => by
        rw [← hr, e, List.drop_of_length_le (by rw [HTL.out]; exact Nat.le_refl _), bestK_nil]
      rw [hr] at h8
      obtain ⟨p, n⟩ := r
      have HMK := Lib.hid (HMT.out wr k hk HBW.out)
      rw [hr] at HMK
      simp only at HMK h8
      clear htw hDeq hll hr
      go_wp2_with fail
      refine HMK.out.mono ?_
      rintro e w4 ⟨rfl, hb4⟩
      have HB4 := Lib.hid (HBW.out.trans (hb4.mono hwz))
      have HT4 := Lib.hid (HTW.out.below hb4)
      have hwz4 := HB4.out.size
      clear hb4 HTW HBW hwz
      obtain ⟨q, hq⟩ : ∃ q, (decide (8 ≤ n) || decide (k = tl)) = q := ⟨_, rfl⟩
      obtain ⟨tt, htt⟩ : ∃ tt, (q && decide (0 < ll)) = tt := ⟨_, rfl⟩
      have HQ := Lib.hid hq
      have HTT := Lib.hid htt
      go_upto_region 8 with (fail)
      go_cut [48] (fun cx wx => cx = .bool tt ∧ w4 = wx)
      case first =>
        by_cases h8n : 8 ≤ n
        · have h8i : (8 : Int) ≤ (n : Int) := by omega
          have hqt : q = true := by rw [← hq, decide_eq_true h8n]; rfl
          have HD : Hid (tt = decide (0 < ll)) := by unfold Hid; rw [← htt, hqt, Bool.true_and]
          clear hq h8n htt hqt hnil
          go_wp2_with fail
          go_meet
          exact ⟨by rw [HD.out], rfl⟩
        · have h8i : (n : Int) < (8 : Int) := by omega
          by_cases hkl : k = tl
          · have hqt : q = true := by rw [← hq, decide_eq_true hkl, Bool.or_true]
            have hkl2 : ((k : Int) == (tl : Int)) = true := by rw [hkl]; exact beq_self_eq_true _
            have HD : Hid (tt = decide (0 < ll)) := by unfold Hid; rw [← htt, hqt, Bool.true_and]
            clear hq h8n hkl hnil htt hqt
            go_wp2_with fail
            go_meet
            exact ⟨by rw [HD.out], rfl⟩
          · have hqt : q = false := by rw [← hq, decide_eq_false h8n, decide_eq_false hkl]; rfl
            have hkl2 : ((k : Int) == (tl : Int)) = false := beq_eq_false_iff_ne.2 (by omega)
            have HD : Hid (tt = false) := by unfold Hid; rw [← htt, hqt]; rfl
            clear hq h8n hkl hnil htt hqt
            go_wp2_with fail
            go_meet
            exact ⟨by rw [HD.out], rfl⟩
      case rest =>
        obtain ⟨rfl, rfl⟩ := hcut
        obtain ⟨dl', hdl'⟩ : ∃ x, (if q = true then dl ++ encs (flushS il) else dl) = x := ⟨_, rfl⟩
        obtain ⟨il', hil'⟩ : ∃ x, (if q = true then [] else il) = x := ⟨_, rfl⟩
        have HDL' := Lib.hid hdl'
        have HIL' := Lib.hid hil'
        have HLE : Hid (dl'.length ≤ 1000000 ∧ il'.length ≤ k) := by
          have hf := flush_len il (by have := HLL.out; omega)
          have := HLL.out
          cases q
          · rw [if_neg (by decide)] at hdl' hil'
            rw [← hdl', ← hil']; exact ⟨by omega, by omega⟩
          · rw [if_pos rfl] at hdl' hil'
            rw [← hdl', ← hil', List.length_append]; exact ⟨by omega, by simp⟩
        have HSET : Hid (tt = false → dl' = dl ∧ il' = il) := fun ht => by
          rw [ht] at htt
          cases q
          · rw [if_neg (by decide)] at hdl' hil'
            exact ⟨hdl'.symm, hil'.symm⟩
          · rw [if_pos rfl] at hdl' hil'
            have h0 : ¬ 0 < ll := by simpa using htt
            have hn : il = [] := List.eq_nil_of_length_eq_zero (by have := HLL.out; omega)
            rw [← hdl', ← hil', hn]
            exact ⟨by simp [flushS, encs], rfl⟩
        have HSET2 : Hid (tt = true → dl' = dl ++ [2] ++ putL ll ++ il ∧ il' = []) := fun ht => by
          rw [ht] at htt
          rw [Bool.and_eq_true, decide_eq_true_eq] at htt
          have hne : il ≠ [] := fun e => by have := HLL.out; rw [e] at this; simp at this; omega
          rw [htt.1, if_pos rfl] at hdl' hil'
          rw [← hdl', ← hil', flush_cons hne, HLL.out]
          exact ⟨by simp, rfl⟩
        clear hdl' hil' htt
        go_upto_if 48 with (fail)
        go_cut [5, 6] (fun v u wx => Two2 wx w.heap.size v dl' u il' ∧ Below w.heap.size w wx)
        case first =>
          cases tt with
          | false =>
            have E1 := Lib.hid (HSET.out rfl)
            clear hq
            go_wp2_with fail
            go_meet
            exact ⟨by rw [E1.out.1, E1.out.2]; exact HT4.out, HB4.out⟩
          | true =>
            have E1 := Lib.hid (HSET2.out rfl)
            have h9 := putL_len9 (show ll ≤ 72057594037927936 by omega)
            have hs1 : dl.length + 1 ≤ 140737488355328 := by omega
            have hll56 : ll ≤ 72057594037927936 := by omega
            clear hq
            go_wp2_with (at_builtin; refine append_byte2 rfl (.tmp 49) (.tmp 50) rfl w4 w.heap.size u5 _ dl il rfl HT4.out _ 2 bi2 rfl hs1 hwz4 ?_; intro v5 w5 ht5 hb5; have HT5 := Lib.hid ht5; have HB5 := Lib.hid (HB4.out.trans hb5); clear ht5 hb5)
            refine (rnum_any ll w5 hll56).mono ?_
            rintro e w6 ⟨v6, rfl, ho6, hb6⟩
            have HT6 := Lib.hid (HT5.out.below hb6)
            have HB6 := Lib.hid (HB5.out.trans (hb6.mono HB5.out.size))
            obtain ⟨A6, c6, rfl, hl6, hm6, hI6, _⟩ := ho6.sl
            have HR6 := Lib.hid hI6.reads
            obtain ⟨l6, hl6e⟩ : ∃ l, (putL ll).length = l := ⟨_, rfl⟩
            rw [hl6e] at h9 HR6 hl6 ⊢
            have hs2 : (dl ++ [2]).length + l6 ≤ 140737488355328 := by simp; omega
            have hs3 : (dl ++ [2] ++ putL ll).length + ll ≤ 140737488355328 := by simp [hl6e]; omega
            have hwz6 := HB6.out.size
            clear ho6 hb6 hI6 hl6e
            go_wp2_with (first
              | (at_builtin; refine append_two rfl (.tmp 55) (.tmp 56) rfl w7 w.heap.size v7 _ _ il rfl HT7.out _ Ai ll ci il rfl HR7.out hs3 hwz7 ?_; intro v8 w8 ht8 hb8; have HT8 := Lib.hid ht8; have HB8 := Lib.hid (HB7.out.trans hb8); clear ht8 hb8)
              | (at_builtin; refine append_two rfl (.tmp 51) (.tmp 54) rfl w6 w.heap.size v5 _ _ il rfl HT6.out _ A6 l6 c6 (putL ll) rfl HR6.out hs2 hwz6 ?_; intro v7 w7 ht7 hb7; have HT7 := Lib.hid ht7; have HB7 := Lib.hid (HB6.out.trans hb7); have hwz7 := HB7.out.size; have HR7 := Lib.hid (HT7.out.reads HLL.out); clear ht7 hb7))
            go_meet
            exact ⟨by rw [E1.out.1, E1.out.2]; exact Two2.nil_ HT8.out.1, HB8.out⟩
        case rest =>
          obtain ⟨htw, hbc⟩ := hcut
          have HTW := Lib.hid htw
          have HBC := Lib.hid hbc
          have hwzc := hbc.size
          clear htw hbc HT4 HB4 hwz4
          have hle := HLE.out
          obtain ⟨hle1, hle2⟩ := hle
          by_cases hkl : k = tl
          · subst hkl
            have hqt : q = true := by rw [← hq, decide_eq_true rfl, Bool.or_true]
            have hfin : D = dl' := by
              rw [HDQ.out, List.drop_of_length_le (by rw [HTL.out]; exact Nat.le_refl _), steps_end, ← HDL'.out, hqt, if_pos rfl]
            have HFIN := Lib.hid hfin
            have hkk : ((k : Int) == (k : Int)) = true := beq_self_eq_true _
            clear hq hqt hfin hnil
            go_wp2_with fail
            go_roundw
            case rel => exact ⟨dl', il', k + 1, f, by go_num, by omega, HTW.out, HBC.out, .inr ⟨rfl, HFIN.out⟩⟩
            case measure => simp [intOf]
          · have hkl2 : ((k : Int) == (tl : Int)) = false := beq_eq_false_iff_ne.2 (by omega)
            have hklt : k < tl := by omega
            have htpos : 0 < (target.drop k).length := by rw [List.length_drop, HTL.out]; omega
            obtain ⟨f, rfl⟩ : ∃ f', f = f' + 1 := ⟨f - 1, by omega⟩
            by_cases h8n : 8 ≤ n
            · have h8i : (8 : Int) ≤ (n : Int) := by omega
              have hqt : q = true := by rw [← hq, decide_eq_true h8n]; rfl
              rw [if_pos h8n] at h8
              rw [h8] at hmo
              have hmo2 : p + n ≤ bl ∧ n ≤ tl - k := by
                rcases hmo with h | ⟨_, h2, h3, _⟩
                · injection h with _ h; omega
                · exact ⟨h2, h3⟩
              have hfin : D = dl' ++ [1] ++ putL p ++ putL n ++ encs (stepsD (m8 base) f (target.drop (k + n)) il') := by
                rw [HDQ.out, steps_cop htpos (by rw [h8]; show n ≠ 0; omega), h8, encs_append, encs_cons, List.drop_drop, ← HDL'.out, ← HIL'.out, hqt, if_pos rfl, if_pos rfl]
                simp [encS]
              have HFIN := Lib.hid hfin
              have hil0 : il'.length = 0 := by rw [← HIL'.out, hqt, if_pos rfl]; rfl
              have h9p := putL_len9 (show p ≤ 72057594037927936 by omega)
              have h9n := putL_len9 (show n ≤ 72057594037927936 by omega)
              have hs1 : dl'.length + 1 ≤ 140737488355328 := by omega
              have hp56 : p ≤ 72057594037927936 := by omega
              have hn56 : n ≤ 72057594037927936 := by omega
              have hkn : (k : Int) + (n : Int) ≤ 40000 := by omega
              obtain ⟨hmo3, hmo4⟩ := hmo2
              have hn0 : (0 : Int) ≤ (n : Int) := by omega
              clear hq hqt hfin hnil h8n h8 hmo htpos
              go_wp2_with (at_builtin; refine append_byte2 rfl (.tmp 77) (.tmp 78) rfl wc w.heap.size u5 u6 dl' il' rfl HTW.out _ 1 bi1 rfl hs1 hwzc ?_; intro v5 w5 ht5 hb5; have HT5 := Lib.hid ht5; have HB5 := Lib.hid (HBC.out.trans hb5); clear ht5 hb5)
              refine (rnum_any p w5 hp56).mono ?_
              rintro e w6 ⟨v6, rfl, ho6, hb6⟩
              have HT6 := Lib.hid (HT5.out.below hb6)
              have HB6 := Lib.hid (HB5.out.trans (hb6.mono HB5.out.size))
              obtain ⟨A6, c6, rfl, hl6, hm6, hI6, _⟩ := ho6.sl
              have HR6 := Lib.hid hI6.reads
              obtain ⟨l6, hl6e⟩ : ∃ l, (putL p).length = l := ⟨_, rfl⟩
              rw [hl6e] at h9p HR6 hl6 ⊢
              have hs2 : (dl' ++ [1]).length + l6 ≤ 140737488355328 := by simp; omega
              have hs3 : (dl' ++ [1] ++ putL p).length + 9 ≤ 140737488355328 := by simp [hl6e]; omega
              have hwz6 := HB6.out.size
              clear ho6 hb6 hI6 hl6e
              go_wp2_with (at_builtin; refine append_two rfl (.tmp 79) (.tmp 81) rfl w6 w.heap.size v5 _ _ il' rfl HT6.out _ A6 l6 c6 (putL p) rfl HR6.out hs2 hwz6 ?_; intro v7 w7 ht7 hb7; have HT7 := Lib.hid ht7; have HB7 := Lib.hid (HB6.out.trans hb7); clear ht7 hb7)
              refine (rnum_any n w7 hn56).mono ?_
              rintro e w8 ⟨v8, rfl, ho8, hb8⟩
              have HT8 := Lib.hid (HT7.out.below hb8)
              have HB8 := Lib.hid (HB7.out.trans (hb8.mono HB7.out.size))
              obtain ⟨A8, c8, rfl, hl8, hm8, hI8, _⟩ := ho8.sl
              have HR8 := Lib.hid hI8.reads
              obtain ⟨l8, hl8e⟩ : ∃ l, (putL n).length = l := ⟨_, rfl⟩
              rw [hl8e] at h9n HR8 hl8 ⊢
              have hs4 : (dl' ++ [1] ++ putL p).length + l8 ≤ 140737488355328 := by omega
              have hwz8 := HB8.out.size
              clear ho8 hb8 hI8 hl8e
              go_wp2_with (at_builtin; refine append_two rfl (.tmp 82) (.tmp 84) rfl w8 w.heap.size v7 _ _ il' rfl HT8.out _ A8 l8 c8 (putL n) rfl HR8.out hs4 hwz8 ?_; intro v9 w9 ht9 hb9; have HT9 := Lib.hid ht9; have HB9 := Lib.hid (HB8.out.trans hb9); clear ht9 hb9)
              go_roundw
              case rel => exact ⟨_, il', k + n, f, by go_num, by omega, HT9.out, HB9.out, .inl ⟨by omega, by omega, HFIN.out⟩⟩
              case measure => simp [intOf]; omega
            · have h8i : (n : Int) < (8 : Int) := by omega
              have hqt : q = false := by rw [← hq, decide_eq_false h8n, decide_eq_false hkl]; rfl
              rw [if_neg h8n] at h8
              have hkl3 : (k : Int) < (tl : Int) := by omega
              have hcell := HIT.out.below HBC.out
              obtain ⟨at', rfl, hc1⟩ := hcell.at_ k (by rw [HTL.out]; exact hklt)
              have htk1 : (target.drop k).take 1 = [target.getD k 0] := by
                have h : k < target.length := by rw [HTL.out]; exact hklt
                rw [List.drop_eq_getElem_cons h, List.getD_eq_getElem?_getD, List.getElem?_eq_getElem h]
                rfl
              have hfin : D = dl' ++ encs (stepsD (m8 base) f (target.drop (k + 1)) (il' ++ [target.getD k 0])) := by
                rw [HDQ.out, steps_in htpos (by rw [h8]), List.drop_drop, htk1, ← HDL'.out, ← HIL'.out, hqt, if_neg (by decide), if_neg (by decide)]
              have HFIN := Lib.hid hfin
              have hs1 : il'.length + 1 ≤ 140737488355328 := by omega
              obtain ⟨x, hx⟩ : ∃ x, bi (target.getD k 0) = x := ⟨_, rfl⟩
              have HX := Lib.hid hx
              rw [hx] at hc1
              have HSW := Lib.hid HTW.out.swap
              clear hq hqt hfin hnil h8n h8 hmo htpos htk1 hx hcell
              go_wp2_with (at_builtin; refine append_byte2 rfl (.tmp 58) (.tmp 63) rfl wc w.heap.size u6 u5 il' dl' rfl HSW.out _ (target.getD k 0) HX.out rfl hs1 hwzc ?_; intro v5 w5 ht5 hb5; have HT5 := Lib.hid ht5; have HB5 := Lib.hid (HBC.out.trans hb5); clear ht5 hb5)
              go_roundw
              case rel => exact ⟨dl', _, k + 1, f, by go_num, by simp; omega, HT5.out.swap, HB5.out, .inl ⟨by omega, by omega, HFIN.out⟩⟩
              case measure => simp [intOf]; omega
    · have hkk : (tl : Int) < ((tl + 1 : Nat) : Int) := by omega
      have HDQ := Lib.hid hDeq
      have HTW := Lib.hid htw
      clear hDeq htw
      go_wp2_with fail
      go_ret
      exact ⟨_, rfl, by rw [HDQ.out]; exact HTW.out.1, HBW.out⟩
end Go.Proofs.YteffiedolcjjlaaGreat.Sh
