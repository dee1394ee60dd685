/- Texts put together: VTn9, VTq1, VTq3. -/
import Derived.Test.YtbenkmihkbjgeaaGreatQv04
import Derived.Test.YtbenkmihkbjgeaaGreatQv03
import GoSem.Op.String
/- The reference's Ignored. -/
namespace Go.Proofs.YtbenkmihkbjgeaaGreat.Tx
open Go.RowKit Go.Proofs.YtbenkmihkbjgeaaGreat.Sh
def namesL (s : List UInt8) : List (List UInt8) := if pathB s = true then splitL 47 s else []
def hitTo (f : List UInt8) (st : Bool) (b : List UInt8) (d : Bool) (l : List (List UInt8)) (k : Nat) : Bool := (List.range k).any fun j => (!d || decide (j + 1 < l.length)) && takesB f st b (l.getD j [])
def hitP (l : List (List UInt8)) (p : List UInt8) : Bool := match patL p with
 | none => false
 | some (f, st, b, d) => hitTo f st b d l l.length
def ignoredB (ps : List (List UInt8)) (s : List UInt8) : Bool := ps.any (hitP (namesL s))
theorem hitTo_succ (f : List UInt8) (st : Bool) (b : List UInt8) (d : Bool) (l : List (List UInt8)) (k : Nat) : hitTo f st b d l (k + 1) = (hitTo f st b d l k || ((!d || decide (k + 1 < l.length)) && takesB f st b (l.getD k []))) := by
 unfold hitTo
 rw [List.range_succ, List.any_append]
 simp
theorem hitTo_more {f : List UInt8} {st : Bool} {b : List UInt8} {d : Bool} {l : List (List UInt8)} {k n : Nat} (hk : k ≤ n) (h : hitTo f st b d l k = true) : hitTo f st b d l n = true := by
 induction n with
 | zero => rw [show k = 0 by omega] at h; exact h
 | succ n ih =>
  by_cases e : k = n + 1
  ·rw [← e]; exact h
  ·rw [hitTo_succ, ih (by omega), Bool.true_or]
theorem patCore_len (p : List UInt8) : (patCore p).length ≤ p.length := by
 unfold patCore
 split
 ·rw [List.length_take]; omega
 ·exact Nat.le_refl _
theorem patL_len {p f b : List UInt8} {st d : Bool} (h : patL p = some (f, st, b, d)) : f.length ≤ p.length ∧ b.length ≤ p.length := by
 have hc := patCore_len p
 unfold patL at h
 split at h
 ·split at h
  ·injection h with h
   injection h with h1 h
   injection h with _ h
   injection h with h2 _
   subst h1 h2
   exact ⟨hc, by simp⟩
  ·rename_i a c hs
   split at h
   ·cases h
   ·injection h with h
    injection h with h1 h
    injection h with _ h
    injection h with h2 _
    subst h1 h2
    have g1 := piece_len (g := 42) (s := patCore p) (p := a) (by rw [hs]; simp)
    have g2 := piece_len (g := 42) (s := patCore p) (p := c) (by rw [hs]; simp)
    omega
  ·cases h
 ·cases h
theorem namesL_len {s p : List UInt8} (h : p ∈ namesL s) : p.length ≤ s.length := by
 unfold namesL at h
 split at h
 ·exact piece_len h
 ·cases h
theorem namesL_few (s : List UInt8) : (namesL s).length ≤ s.length + 1 := by
 unfold namesL
 split
 ·exact splitL_length_le 47 s
 ·simp
theorem rnames_post {w : World} {s : List UInt8} {e : Ending} {w' : World} (h : TextsPost w (if pathB s = true then (splitL 47 s).map str else []) e w') : TextsPost w ((namesL s).map str) e w' := by
 have : (namesL s).map str = if pathB s = true then (splitL 47 s).map str else [] := by
  unfold namesL
  split <;> rfl
 rw [this]
 exact h
set_option maxRecDepth 100000 in
set_option maxHeartbeats 6400000 in
theorem rignored_any (v : Value) (ps : List (List UInt8)) (cs : List UInt8) (w : World) (h : SlV w v ((ps.map str).map sv)) (hn : ps.length ≤ 1000000) (hsz : ∀ p ∈ ps, p.length ≤ 1000000) (hc : cs.length ≤ 1000000) :
  Calls Tryz.prog 39 #[v, .string (str cs)] w (BoolPost w (ignoredB ps cs)) := by
 have H := Lib.hid h
 obtain ⟨A, c, rfl, hlc, hcm, _⟩ := h.len
 rw [List.length_map, List.length_map] at hlc H ⊢
 unfold maxLen at hcm
 obtain ⟨n, hN⟩ : ∃ n, ps.length = n := ⟨_, rfl⟩
 rw [hN] at hlc hn H ⊢
 have HN := Lib.hid hN
 have HSZ := Lib.hid hsz
 clear h hN hsz
 go_enter Tryz.func39, Tryz.ntmps39
 go_wp2_with fail
 refine (rnames_any cs _ hc).mono ?_
 intro e w1 hp
 obtain ⟨vl, rfl, ho, hb⟩ := rnames_post hp
 obtain ⟨ls, hls⟩ : ∃ ls, namesL cs = ls := ⟨_, rfl⟩
 have hll := namesL_few cs
 have hpl : ∀ p ∈ ls, p.length ≤ 1000000 := fun p hp => by rw [← hls] at hp; have := namesL_len hp; omega
 rw [hls] at ho hll
 obtain ⟨Al, cl, rfl, hlc2, hlm2⟩ := ho.length
 rw [List.length_map, List.length_map] at ho hlc2 ⊢
 obtain ⟨m, hM⟩ : ∃ m, ls.length = m := ⟨_, rfl⟩
 rw [hM] at ho hlc2 hll ⊢
 unfold maxLen at hlm2
 have HLS := Lib.hid hls
 have HM := Lib.hid hM
 have HO := Lib.hid ho
 have HB := Lib.hid hb
 have HPL := Lib.hid hpl
 have m1 : (m : Int) ≤ 1000001 := by omega
 have m0 : (0 : Int) ≤ (m : Int) := by omega
 clear hp hls hM ho hb hpl
 go_wp2_with fail
 go_loopw [6] (fun i wr => ∃ k : Nat, k ≤ n ∧ i = .int .i64 k ∧ (∀ (j : Nat) (hj : j < ps.length), j < k → hitP ls ps[j] = false) ∧ Below w.heap.size w wr ∧ OwnV 9 wr w.heap.size (.slice Al m cl) ((ls.map str).map sv)) (fun i _ => n - (intOf i).toNat)
 case atStart => exact ⟨0, by omega, rfl, fun j _ hj => by omega, HB.out, HO.out⟩
 case round =>
  clear HB HO
  obtain ⟨k, hk, rfl, hno, hb, ho⟩ := hrel
  have HNO := Lib.hid hno
  have HB := Lib.hid hb
  have HO := Lib.hid ho
  have hwz := hb.size
  clear hno hb ho
  have k0 : (0 : Int) ≤ (k : Int) := by omega
  by_cases hlt : k < n
  ·have k1 : (k : Int) < (n : Int) := by omega
   have hkp : k < ps.length := by rw [HN.out]; exact hlt
   obtain ⟨_, _, hve, _, _, hR⟩ := (H.out.below HB.out).len
   injection hve with g1 g2 g3
   subst g1
   obtain ⟨ad, hA, hcell⟩ := reads_at hR k (sv (str ps[k])) (by rw [List.map_map, List.getElem?_map, List.getElem?_eq_getElem hkp]; rfl)
   have hcell' : wr.cell? (ad.add k) = some (.string (str ps[k])) := hcell
   subst hA
   have hpk := HSZ.out ps[k] (List.getElem_mem hkp)
   obtain ⟨p, hp⟩ : ∃ p, ps[k] = p := ⟨_, rfl⟩
   rw [hp] at hcell' hpk
   have HP := Lib.hid hp
   obtain ⟨r, hr⟩ : ∃ r, patL p = r := ⟨_, rfl⟩
   have HR := Lib.hid hr
   clear hp hr hcell hR g2 g3
   go_wp2_with fail
   refine (pattern_any p _ hpk).mono ?_
   rintro e w2 ⟨rfl, hb2⟩
   rw [HR.out]
   have HB2 := Lib.hid (HB.out.trans (hb2.mono hwz))
   have HO2 := Lib.hid (HO.out.below hb2)
   clear hb2 HB HO
   cases r with
   | none =>
    have hh : hitP ls p = false := by unfold hitP; rw [HR.out]
    have HH := Lib.hid hh
    clear hh
    unfold patV
    go_wp2_with fail
    refine wp_loop_rounds 1 ?_
    rw [rounds_succ]
    go_wp2
    go_roundw
    case rel =>
     refine ⟨k + 1, by omega, by go_num, fun j hj hjk => ?_, HB2.out, HO2.out⟩
     by_cases e : j = k
     ·subst e; rw [HP.out]; exact HH.out
     ·exact HNO.out j hj (by omega)
    case measure => simp [intOf]; omega
   | some x =>
    obtain ⟨f, st, b, d⟩ := x
    have hfb := patL_len HR.out
    have hh : hitP ls p = hitTo f st b d ls m := by unfold hitP; rw [HR.out, HM.out]
    have HH := Lib.hid hh
    clear hh
    unfold patV
    go_wp2_with fail
    obtain ⟨wo, hwo⟩ : ∃ wo, wo = wr := ⟨_, rfl⟩
    subst hwo
    go_loop [12] (fun q => ∃ j : Nat, j ≤ m ∧ q = .int .i64 j ∧ hitTo f st b d ls j = false) (fun q => m - (intOf q).toNat)
    case atStart => exact ⟨0, Nat.zero_le _, rfl, rfl⟩
    case round =>
     obtain ⟨j, hj, rfl, hno⟩ := hrel
     have HNH := Lib.hid hno
     clear hno
     have j0 : (0 : Int) ≤ (j : Int) := by omega
     by_cases hjm : j < m
     ·have j1 : (j : Int) < (m : Int) := by omega
      have hjl : j < ls.length := by rw [HM.out]; exact hjm
      obtain ⟨al, rfl, hcl⟩ := piece_at HO2.out j hjl
      have hyl := HPL.out ls[j] (List.getElem_mem hjl)
      have hgd : ls.getD j [] = ls[j] := by rw [List.getD_eq_getElem?_getD, List.getElem?_eq_getElem hjl]; rfl
      have hsu := hitTo_succ f st b d ls j
      rw [HNH.out, Bool.false_or, hgd, HM.out] at hsu
      obtain ⟨y, hy⟩ : ∃ y, ls[j] = y := ⟨_, rfl⟩
      rw [hy] at hcl hyl hsu
      obtain ⟨t, ht⟩ : ∃ t, takesB f st b y = t := ⟨_, rfl⟩
      rw [ht] at hsu
      have HT := Lib.hid ht
      have HSU := Lib.hid hsu
      clear hy hgd ht hsu
      have hcase : (d = false ∨ (d = true ∧ j + 1 < m)) ∨ (d = true ∧ ¬ j + 1 < m) := by
       by_cases e : j + 1 < m
       ·cases d
        ·exact .inl (.inl rfl)
        ·exact .inl (.inr ⟨rfl, e⟩)
       ·cases d
        ·exact .inl (.inl rfl)
        ·exact .inr ⟨rfl, e⟩
      rcases hcase with hcase | ⟨rfl, e⟩
      ·have HSU2 : Hid (hitTo f st b d ls (j + 1) = t) := by
        unfold Hid
        rw [HSU.out]
        rcases hcase with rfl | ⟨rfl, e⟩
        ·simp
        ·simp [e]
       rcases hcase with rfl | ⟨rfl, e⟩
       ·cases t with
        | true =>
         have hyes : ignoredB ps cs = true := by
          unfold ignoredB
          rw [HLS.out, List.any_eq_true]
          exact ⟨p, by rw [← HP.out]; exact List.getElem_mem hkp, by rw [HH.out]; exact hitTo_more (by omega) HSU2.out⟩
         have HY := Lib.hid hyes
         clear hyes
         go_wp2_with fail
         refine (rtakes_any f b y st _ (by omega) (by omega) hyl).mono ?_
         rintro e3 w3 ⟨rfl, rfl⟩
         rw [HT.out]
         go_wp2
         go_ret
         exact ⟨by rw [HY.out]; rfl, HB2.out⟩
        | false =>
         go_wp2_with fail
         refine (rtakes_any f b y st _ (by omega) (by omega) hyl).mono ?_
         rintro e3 w3 ⟨rfl, rfl⟩
         rw [HT.out]
         go_wp2
         go_round
         case rel => exact ⟨j + 1, by omega, by go_num, HSU2.out⟩
         case measure => simp [intOf]; omega
       ·have e1 : (j : Int) < (m : Int) - 1 := by omega
        cases t with
        | true =>
         have hyes : ignoredB ps cs = true := by
          unfold ignoredB
          rw [HLS.out, List.any_eq_true]
          exact ⟨p, by rw [← HP.out]; exact List.getElem_mem hkp, by rw [HH.out]; exact hitTo_more (by omega) HSU2.out⟩
         have HY := Lib.hid hyes
         clear hyes
         go_wp2_with fail
         refine (rtakes_any f b y st _ (by omega) (by omega) hyl).mono ?_
         rintro e3 w3 ⟨rfl, rfl⟩
         rw [HT.out]
         go_wp2
         go_ret
         exact ⟨by rw [HY.out]; rfl, HB2.out⟩
        | false =>
         go_wp2_with fail
         refine (rtakes_any f b y st _ (by omega) (by omega) hyl).mono ?_
         rintro e3 w3 ⟨rfl, rfl⟩
         rw [HT.out]
         go_wp2
         go_round
         case rel => exact ⟨j + 1, by omega, by go_num, HSU2.out⟩
         case measure => simp [intOf]; omega
      ·have HSU2 : Hid (hitTo f st b true ls (j + 1) = false) := by unfold Hid; rw [HSU.out]; simp [e]
       have e1 : (m : Int) - 1 ≤ (j : Int) := by omega
       go_wp2
       go_round
       case rel => exact ⟨j + 1, by omega, by go_num, HSU2.out⟩
       case measure => simp [intOf]; omega
     ·obtain rfl : j = m := by omega
      go_wp2
      go_roundw
      case rel =>
       refine ⟨k + 1, by omega, by go_num, fun i hi hik => ?_, HB2.out, HO2.out⟩
       by_cases e : i = k
       ·subst e; rw [HP.out, HH.out]; exact HNH.out
       ·exact HNO.out i hi (by omega)
      case measure => simp [intOf]; omega
  ·have hall : ignoredB ps cs = false := by
    unfold ignoredB
    rw [HLS.out, List.any_eq_false]
    intro x hx
    obtain ⟨i, hi, rfl⟩ := List.getElem_of_mem hx
    rw [HNO.out i hi (by rw [HN.out] at hi; omega)]
    decide
   have HALL := Lib.hid hall
   clear hall
   obtain rfl : k = n := by omega
   go_wp2
   go_ret
   exact ⟨by rw [HALL.out]; rfl, HB.out⟩
end Go.Proofs.YtbenkmihkbjgeaaGreat.Tx
/- Names and paths: what follows of their definitions. Plain lists. -/
namespace Go.Proofs.YtbenkmihkbjgeaaGreat.Tx
theorem splitL_app (g : UInt8) : ∀ (a b : List UInt8), splitL g (a ++ g :: b) = splitL g a ++ splitL g b
 | [], b => splitL_sign g b
 | c :: r, b => by
  by_cases hc : c = g
  ·subst hc
   rw [List.cons_append, splitL_sign, splitL_sign, splitL_app c r b]
   rfl
  ·obtain ⟨p, ps, e1, e2⟩ := splitL_cons_ne hc (r ++ g :: b)
   obtain ⟨q, qs, e3, e4⟩ := splitL_cons_ne hc r
   rw [splitL_app g r b, e3] at e1
   injection e1 with e5 e6
   rw [List.cons_append, e2, e4, ← e5, ← e6]
   rfl
theorem pathB_iff (s : List UInt8) : pathB s = true ↔ s.length ≤ 200 ∧ (∀ p ∈ splitL 47 s, nameB p = true) ∧ (splitL 47 s).length ≤ 8 := by
 unfold pathB
 simp [and_assoc]
theorem nameB_sign {p : List UInt8} (h : nameB p = true) : 47 ∉ p := by
 intro hm
 rw [nameB_eq] at h
 simp only [Bool.and_eq_true, List.all_eq_true] at h
 have := h.2 47 hm
 exact absurd this (by decide)
theorem nameB_one {p : List UInt8} (h : nameB p = true) : 1 ≤ p.length := by
 rw [nameB_eq] at h
 simp only [Bool.and_eq_true, decide_eq_true_eq] at h
 exact h.1.1.1.1
/-! Parents. -/
theorem parP_mem {s x : List UInt8} : ∀ {n : Nat}, x ∈ parP s n ↔ ∃ k, k < n ∧ s[k]? = some 47 ∧ x = s.take k
 | 0 => by simp [parP]
 | n + 1 => by
  unfold parP
  split
  ·rename_i h
   rw [List.mem_append, parP_mem, List.mem_singleton]
   constructor
   ·rintro (⟨k, h1, h2, h3⟩ | h3)
    ·exact ⟨k, by omega, h2, h3⟩
    ·exact ⟨n, by omega, h, h3⟩
   ·rintro ⟨k, h1, h2, h3⟩
    by_cases e : k = n
    ·subst e; exact .inr h3
    ·exact .inl ⟨k, by omega, h2, h3⟩
  ·rename_i h
   rw [parP_mem]
   constructor
   ·rintro ⟨k, h1, h2, h3⟩; exact ⟨k, by omega, h2, h3⟩
   ·rintro ⟨k, h1, h2, h3⟩
    by_cases e : k = n
    ·subst e; exact absurd h2 h
    ·exact ⟨k, by omega, h2, h3⟩
theorem cut_at {s : List UInt8} {k : Nat} (h : s[k]? = some 47) : s = s.take k ++ 47 :: s.drop (k + 1) := by
 obtain ⟨hk, e⟩ := List.getElem?_eq_some_iff.1 h
 rw [← e, ← List.drop_eq_getElem_cons hk, List.take_append_drop]
theorem cut_split {s : List UInt8} {k : Nat} (h : s[k]? = some 47) : splitL 47 s = splitL 47 (s.take k) ++ splitL 47 (s.drop (k + 1)) := by
 conv => lhs; rw [cut_at h]
 exact splitL_app 47 _ _
theorem pathB_cut {s : List UInt8} {k : Nat} (hp : pathB s = true) (h : s[k]? = some 47) : pathB (s.take k) = true ∧ k + 1 < s.length := by
 obtain ⟨h1, h2, h3⟩ := (pathB_iff s).1 hp
 have hs := cut_split h
 obtain ⟨hk, _⟩ := List.getElem?_eq_some_iff.1 h
 refine ⟨(pathB_iff _).2 ⟨by rw [List.length_take]; omega, fun p hp => h2 p (by rw [hs]; exact List.mem_append_left _ hp), by rw [hs, List.length_append] at h3; omega⟩, ?_⟩
 rcases Nat.lt_or_ge (k + 1) s.length with e | e
 ·exact e
 ·have hd : s.drop (k + 1) = [] := List.drop_eq_nil_of_le e
  have := h2 [] (by rw [hs, hd]; exact List.mem_append_right _ (by simp [splitL]))
  exact absurd this (by decide)
theorem under_iff (t s : List UInt8) : underB t s = true ↔ t ∈ parentsL s := by
 unfold parentsL
 constructor
 ·intro h
  unfold underB at h
  simp only [Bool.and_eq_true, decide_eq_true_eq, beq_iff_eq] at h
  obtain ⟨⟨⟨⟨_, h2⟩, h3⟩, h4⟩, h5⟩ := h
  rw [if_pos h2, parP_mem]
  exact ⟨t.length, by omega, h5, h4.symm⟩
 ·intro h
  split at h
  ·rename_i hp
   obtain ⟨k, h1, h2, h3⟩ := parP_mem.1 h
   obtain ⟨g1, g2⟩ := pathB_cut hp h2
   have hl : t.length = k := by rw [h3, List.length_take]; omega
   unfold underB
   simp only [Bool.and_eq_true, decide_eq_true_eq, beq_iff_eq]
   rw [hl]
   exact ⟨⟨⟨⟨by rw [h3]; exact g1, hp⟩, g2⟩, h3.symm⟩, h2⟩
  ·cases h
theorem parents_path {s x : List UInt8} (h : x ∈ parentsL s) : pathB x = true := by
 have := (under_iff x s).2 h
 unfold underB at this
 simp only [Bool.and_eq_true] at this
 exact this.1.1.1.1
theorem parP_count (s : List UInt8) : ∀ n, n ≤ s.length → (parP s n).length = (s.take n).count 47
 | 0, _ => by simp [parP]
 | n + 1, h => by
  have ih := parP_count s n (by omega)
  rw [List.take_succ_eq_append_getElem (by omega), List.count_append]
  by_cases e : s[n]? = some 47
  ·have e2 : s[n] = 47 := by rw [List.getElem?_eq_getElem (by omega)] at e; injection e
   rw [parP, if_pos e, List.length_append, ih, e2]
   rfl
  ·have e2 : s[n] ≠ 47 := fun h => e (by rw [List.getElem?_eq_getElem (by omega), h])
   rw [parP, if_neg e, ih, List.count_cons_of_ne e2]
   rfl
theorem parents_len {s : List UInt8} (hp : pathB s = true) : (parentsL s).length + 1 = (namesL s).length := by
 unfold parentsL namesL
 rw [if_pos hp, if_pos hp, splitL_length, parP_count s _ (Nat.le_refl _), List.take_length]
end Go.Proofs.YtbenkmihkbjgeaaGreat.Tx
/- Texts in order: plain lists. -/
namespace Go.Proofs.YtbenkmihkbjgeaaGreat.Tx
abbrev bl (a b : List UInt8) : Bool := Op.bytesLess a b
theorem bl_nil (b : List UInt8) : bl b [] = false := by cases b <;> rfl
theorem bl_cons (x y : UInt8) (a b : List UInt8) : bl (x :: a) (y :: b) = (decide (x < y) || (x == y && bl a b)) := by
 show Op.bytesLess _ _ = _
 rw [Op.bytesLess]
theorem bl_irr (a : List UInt8) : bl a a = false := by
 induction a with
 | nil => rfl
 | cons x a ih => rw [bl_cons, ih]; simp
theorem u8_tri (x y : UInt8) : x < y ∨ x = y ∨ y < x := by
 rcases Nat.lt_trichotomy x.toNat y.toNat with h | h | h
 ·exact .inl h
 ·exact .inr (.inl (UInt8.toNat_inj.1 h))
 ·exact .inr (.inr h)
theorem u8_nlt {x y : UInt8} (h : x < y) : ¬ y < x ∧ x ≠ y := by
 have h' : x.toNat < y.toNat := h
 exact ⟨fun h2 => by have : y.toNat < x.toNat := h2; omega, fun e => by subst e; omega⟩
theorem bl_tri (a : List UInt8) : ∀ b : List UInt8, bl a b = true ∨ a = b ∨ bl b a = true := by
 induction a with
 | nil => intro b; cases b with | nil => exact .inr (.inl rfl) | cons y b => exact .inl rfl
 | cons x a ih =>
  intro b
  cases b with
  | nil => exact .inr (.inr rfl)
  | cons y b =>
   rw [bl_cons, bl_cons]
   rcases u8_tri x y with h | h | h
   ·left; simp [h]
   ·subst h
    rcases ih b with h | h | h
    ·left; rw [h]; simp
    ·right; left; rw [h]
    ·right; right; rw [h]; simp
   ·right; right; simp [h]
theorem bl_trans (a : List UInt8) : ∀ b c : List UInt8, bl a b = true → bl b c = true → bl a c = true := by
 induction a with
 | nil =>
  intro b c h1 h2
  cases c with
  | nil => rw [bl_nil] at h2; cases h2
  | cons z c => rfl
 | cons x a ih =>
  intro b c h1 h2
  cases b with
  | nil => rw [bl_nil] at h1; cases h1
  | cons y b =>
   cases c with
   | nil => rw [bl_nil] at h2; cases h2
   | cons z c =>
    rw [bl_cons] at h1 h2 ⊢
    rcases u8_tri x y with g1 | g1 | g1
    ·rcases u8_tri y z with g2 | g2 | g2
     ·have : x < z := by have a1 : x.toNat < y.toNat := g1; have a2 : y.toNat < z.toNat := g2; show x.toNat < z.toNat; omega
      simp [this]
     ·subst g2; simp [g1]
     ·have := u8_nlt g2
      simp [this.1, this.2.symm] at h2
    ·subst g1
     rcases u8_tri x z with g2 | g2 | g2
     ·simp [g2]
     ·subst g2
      have hb1 : bl a b = true := by simpa using h1
      have hb2 : bl b c = true := by simpa using h2
      rw [ih b c hb1 hb2]
      simp
     ·have := u8_nlt g2
      simp [this.1, this.2.symm] at h2
    ·have := u8_nlt g1
     simp [this.1, this.2.symm] at h1
def cmpL (a b : List UInt8) : Int := if bl a b then -1 else if a = b then 0 else 1
end Go.Proofs.YtbenkmihkbjgeaaGreat.Tx
