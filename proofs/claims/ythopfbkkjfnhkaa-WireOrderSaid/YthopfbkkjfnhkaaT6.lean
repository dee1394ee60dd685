/- The reference's Sort and Unique: texts put where they belong. -/
import Derived.Test.YthopfbkkjfnhkaaT5
namespace Go.Proofs.Ythopfbkkjfnhkaa
open Go.RowKit

/-- A front of a slice of one's own is one's own. -/
theorem OwnV.front {E : TypeId} {w : World} {B n c : Nat} {A : Option Addr} {vs : List Value} (h : OwnV E w B (.slice A n c) vs) (k : Nat) (hk : k ≤ vs.length) (hA : A ≠ none) : OwnV E w B (.slice A k c) (vs.take k) := by
  rcases h.blk with ⟨he, _⟩ | ⟨g, c', cur, he, hb, _, hg, hc, hm, hs, ht⟩
  · injection he with e1 _ _; exact absurd e1 hA
  · injection he with e1 e2 e3
    subst e1 e3
    have el : k = (vs.take k).length := by rw [List.length_take]; omega
    conv => arg 4; rw [el]
    refine OwnV.mk hb hg (by rw [List.length_take]; omega) hm hs ?_
    rw [List.length_take, Nat.min_eq_left hk, ← ht, List.take_take, Nat.min_eq_left hk]
theorem ins_sorted {out : List ByteArray} {x : ByteArray} {k : Nat} (h : Sorted out) (hk : k ≤ out.length) (h1 : ∀ j, j < k → ∀ (hj : j < out.length), tle out[j] x = true) (h2 : ∀ j, k ≤ j → ∀ (hj : j < out.length), tle x out[j] = true) : Sorted (out.take k ++ ([x] ++ out.drop k)) := by
  refine List.pairwise_append.2 ⟨h.sublist (List.take_sublist _ _), List.pairwise_append.2 ⟨List.pairwise_singleton _ _, h.sublist (List.drop_sublist _ _), fun y hy z hz => ?_⟩, fun y hy z hz => ?_⟩
  · obtain rfl := List.mem_singleton.1 hy
    obtain ⟨i, hi, rfl⟩ := List.mem_iff_getElem.1 hz
    rw [List.length_drop] at hi
    rw [List.getElem_drop]
    exact h2 _ (by omega) _
  · obtain ⟨i, hi, rfl⟩ := List.mem_iff_getElem.1 hy
    rw [List.length_take] at hi
    rw [List.getElem_take]
    rcases List.mem_append.1 hz with hz | hz
    · obtain rfl := List.mem_singleton.1 hz
      exact h1 i (by omega) _
    · obtain ⟨j, hj, rfl⟩ := List.mem_iff_getElem.1 hz
      rw [List.length_drop] at hj
      rw [List.getElem_drop]
      exact List.pairwise_iff_getElem.1 h i (k + j) (by omega) (by omega) (by omega)
theorem ins_perm (out : List ByteArray) (x : ByteArray) (k : Nat) : (out.take k ++ ([x] ++ out.drop k)).Perm (out ++ [x]) := by
  have h1 : (out.take k ++ ([x] ++ out.drop k)).Perm ([x] ++ (out.take k ++ out.drop k)) := by
    rw [← List.append_assoc, ← List.append_assoc]
    exact (List.perm_append_comm (l₁ := out.take k) (l₂ := [x])).append_right _
  rw [List.take_append_drop] at h1
  exact h1.trans List.perm_append_comm

theorem texts_front (A : Option Addr) (l c k : Nat) (hkc : k ≤ c) (w : World) : (Instr.slice 36 (.slice A l c) none (some (.int .i64 (k : Int))) none).run Try.prog w = .ok (.slice A k c) w := by
  rw [run_slice_h w 36 A l c Try.underlying36 .i64 k (by omega) (by omega), size_str]
  simp only [Result.andThen_ok, sliced, Int.toNat_natCast]
  by_cases h : c = 0
  · subst h; simp
  · have e : A.map (fun a => a.add 0) = A := by cases A <;> simp [Addr.add]
    simp [h, e]
theorem texts_back (A : Option Addr) (l c k : Nat) (hkl : k ≤ l) (w : World) : (Instr.slice 36 (.slice A l c) (some (.int .i64 (k : Int))) none none).run Try.prog w = .ok (.slice (if c = k then A else A.map (·.add (k * 1))) (l - k) (c - k)) w := by
  rw [run_slice_l w 36 A l c Try.underlying36 .i64 k (by omega) (by omega), size_str]
  rfl
theorem ins_cases {out : List ByteArray} {x : ByteArray} {p : Nat} (hp : p ≤ out.length) (hso : Sorted out) (hge : ∀ j, p ≤ j → ∀ (hj : j < out.length), tle x out[j] = true) :
    p = 0 ∨ ∃ (r : Nat) (y : ByteArray), p = r + 1 ∧ out[r]? = some y ∧ ((tle y x = true ∧ ∀ j, j < p → ∀ (hj : j < out.length), tle out[j] x = true) ∨ (tle y x = false ∧ ∀ j, r ≤ j → ∀ (hj : j < out.length), tle x out[j] = true)) := by
  cases p with
  | zero => exact .inl rfl
  | succ r =>
    refine .inr ⟨r, out[r], rfl, List.getElem?_eq_getElem (by omega), ?_⟩
    cases h : tle out[r] x with
    | true =>
      refine .inl ⟨rfl, fun j h1 hj => ?_⟩
      rcases Nat.lt_or_ge j r with h2 | h2
      · exact tle_trans (List.pairwise_iff_getElem.1 hso j r hj (by omega) h2) h
      · obtain rfl : j = r := by omega
        exact h
    | false =>
      refine .inr ⟨rfl, fun j h1 hj => ?_⟩
      rcases Nat.lt_or_ge r j with h2 | h2
      · exact hge j (by omega) hj
      · obtain rfl : j = r := by omega
        exact (tle_not h).2
/-- What stands when a text has been put where it belongs. -/
theorem ins_own {W W1 : World} {B p co n : Nat} {Ao : Option Addr} {out : List ByteArray} (ho : OwnV 9 W B (.slice Ao n co) (out.map sv)) (hn : out.length = n) (hp : p ≤ n) (hW1 : Below W.heap.size W W1) :
    OwnV 9 W1 B (.slice Ao p co) ((out.take p).map sv) := by
  have h1 := ho.below hW1
  cases Ao with
  | none =>
    have hn0 : n = 0 ∧ co = 0 := by
      rcases ho.blk with ⟨he, _⟩ | ⟨_, _, _, he, _⟩
      · injection he with _ e2 e3; exact ⟨e2, e3⟩
      · injection he with e1 _ _; cases e1
    obtain ⟨rfl, rfl⟩ := hn0
    obtain rfl : p = 0 := by omega
    rw [List.take_zero]
    exact OwnV.nil_ _ _
  | some a =>
    have := h1.front p (by rw [List.length_map]; omega) (by intro e; cases e)
    rwa [List.map_take]

theorem one_more (x : ByteArray) (l : List ByteArray) : ∀ u ∈ [sv x] ++ l.map sv, u.oneCell' = true := fun u hu => sv_one (x :: l) u (by rw [List.map_cons]; exact hu)
theorem row_one (W : World) (x : ByteArray) : (W.alloc (.cells #[.string x] 9)).ownsRow W.heap.size 9 1 (.slice (some ⟨W.heap.size, 0, none⟩) 1 1) 1 [sv x] :=
  ⟨rfl, Or.inr ⟨W.heap.size, 1, #[.string x], rfl, Nat.le_refl _, heap_alloc_new W _, Nat.le_refl _, by unfold maxLen; omega, by simp, by simp [sv]⟩⟩
theorem row_of {w : World} {B : Nat} {v : Value} {ts : List ByteArray} (h : OwnV 9 w B v (ts.map sv)) (n : Nat) (hn : ts.length = n) : w.ownsRow B 9 1 v n (ts.map sv) := by unfold OwnV at h; rwa [List.length_map, hn] at h
theorem row_slice {w : World} {B n : Nat} {v : Value} {vs : List Value} (h : w.ownsRow B 9 1 v n vs) : ∃ A c, v = .slice A n c ∧ Reads w w.heap.size 1 A n vs := by
  have hl : vs.length = n := by have := h.1; omega
  subst hl
  have h' : OwnV 9 w B v vs := h
  obtain ⟨A, c, hv, _, _, hr⟩ := h'.slv.len
  exact ⟨A, c, hv, hr⟩
theorem row_done {w : World} {B p m : Nat} {v : Value} {out : List ByteArray} {x : ByteArray} (hp : (out.take p).length = p) (hm : 1 + (out.drop p).length = m) (h : w.ownsRow B 9 1 v (p + m) ((out.take p).map sv ++ ([sv x] ++ (out.drop p).map sv))) : OwnV 9 w B v ((out.take p ++ ([x] ++ out.drop p)).map sv) := by
  unfold OwnV
  rw [List.length_map, List.length_append, hp, List.length_append, List.length_singleton, hm, List.map_append, List.map_append]
  exact h

set_option maxRecDepth 100000 in
set_option maxHeartbeats 1600000 in
theorem rsort_any (v : Value) (xs : List ByteArray) (w : World) (h : SlV w v (xs.map sv)) (hn : xs.length ≤ 400000) : Calls Try.prog 26 #[v] w (TextsPost w (sortT xs)) := by
  obtain ⟨A, c, rfl, hlc, hcm, hR⟩ := h.len
  rw [List.length_map] at hlc hR ⊢
  have HR := Lib.hid hR
  unfold maxLen at hcm
  obtain ⟨l, hl⟩ : ∃ l, xs.length = l := ⟨_, rfl⟩
  rw [hl] at hlc hn ⊢
  have HL := Lib.hid hl
  clear h hR hl
  go_enter Try.func26, Try.ntmps26
  go_wp2
  go_loopw [3, 4, 5] (fun v i _ wr => ∃ (k : Nat) (out : List ByteArray), k ≤ l ∧ i = .int .i64 k ∧ Sorted out ∧ out.Perm (xs.take k) ∧ OwnV 9 wr w.heap.size v (out.map sv) ∧ Below w.heap.size w wr) (fun _ i _ _ => l - (intOf i).toNat)
  case atStart => exact ⟨0, [], Nat.zero_le _, rfl, List.Pairwise.nil, by simp, OwnV.nil_ _ _, Below.refl _ _⟩
  case round =>
    obtain ⟨k, out, hk, rfl, hso, hpe, ho, hbw⟩ := hrel
    have hwz := hbw.size
    have hol := hpe.length_eq
    rw [List.length_take, HL.out] at hol
    have HO := Lib.hid ho
    have HBW := Lib.hid hbw
    have HSO := Lib.hid hso
    have HPE := Lib.hid hpe
    obtain ⟨Ao, co, hv, hoc, hom, hRo⟩ := ho.slv.len
    rw [List.length_map] at hv hoc hRo
    obtain ⟨n, hN⟩ : ∃ n, out.length = n := ⟨_, rfl⟩
    rw [hN] at hol hv hoc
    have HN := Lib.hid hN
    have HRO := Lib.hid hRo
    subst hv
    unfold maxLen at hom
    clear ho hbw hso hpe hRo hN
    by_cases hlt : k < l
    · have hkl : k < xs.length := by rw [HL.out]; exact hlt
      obtain ⟨ad, rfl, hcell⟩ := texts_at ((HR.out.below HBW.out).more HBW.out.size) k hkl
      have hct : ∀ W1, Below w.heap.size w W1 → W1.cell? (ad.add k) = some (.string xs[k]) := fun W1 hW1 => by
        obtain ⟨ad2, he, h2⟩ := texts_at ((HR.out.below hW1).more hW1.size) k hkl
        injection he with he
        subst he
        exact h2
      have HTK := Lib.hid (show xs.take (k + 1) = xs.take k ++ [xs[k]] from List.take_succ_eq_append_getElem hkl)
      generalize xs[k] = x at *
      have z0 : (0 : Int) ≤ (k : Int) := by omega
      have z1 : (k : Int) < (l : Int) := by omega
      have z2 : (n : Int) ≤ 400000 := by omega
      clear hkl hol
      go_wp2_with fail
      obtain ⟨wo, rfl⟩ : ∃ wo : World, wo = wr := ⟨_, rfl⟩
      go_loopw [5] (fun i wr => ∃ p q : Nat, p ≤ n ∧ i = .int .i64 p ∧ wr = wo.drewN q ∧ ∀ j, p ≤ j → ∀ (hj : j < out.length), tle x out[j] = true) (fun i _ => (intOf i).toNat)
      case atStart => exact ⟨n, 0, Nat.le_refl _, rfl, rfl, fun j h1 h2 => by have := HN.out; omega⟩
      case round =>
        obtain ⟨p, q, hp, rfl, rfl, hge⟩ := hrel
        have HGE := Lib.hid hge
        clear hge
        have hca := ins_cases (by rw [HN.out]; exact hp) HSO.out HGE.out
        have hfin : (decide (0 < p) = false ∧ Hid (∀ j, j < p → ∀ (hj : j < out.length), tle out[j] x = true)) ∨ ∃ (r : Nat) (y : ByteArray) (a : Addr), (p : Int) - 1 = (r : Int) ∧ 0 < (p : Int) ∧ r < n ∧ p = r + 1 ∧ Ao = some a ∧ wo.cell? (a.add r) = some (.string y) ∧
            (((Op.bytesLess y.toList x.toList || y.toList == x.toList) = true ∧ Hid (∀ j, j < p → ∀ (hj : j < out.length), tle out[j] x = true)) ∨ ((Op.bytesLess y.toList x.toList || y.toList == x.toList) = false ∧ Hid (∀ j, r ≤ j → ∀ (hj : j < out.length), tle x out[j] = true))) := by
          rcases hca with h0 | ⟨r, y, h1, h2, h3⟩
          · exact .inl ⟨decide_eq_false (by omega), fun j hj => by omega⟩
          · obtain ⟨a, ha, hcl⟩ := reads_at HRO.out r (sv y) (by rw [List.getElem?_map, h2]; rfl)
            exact .inr ⟨r, y, a, by omega, by omega, by omega, h1, ha, hcl, h3⟩
        have HGE2 := HGE
        clear hca HGE
        have hz8 : w.heap.size ≤ wo.heap.size := hwz
        have hback := texts_back Ao n co p hp
        have hfront := texts_front Ao n co p (by omega)
        obtain ⟨A2, hA2⟩ : ∃ A2, (if co = p then Ao else Ao.map (·.add (p * 1))) = A2 := ⟨_, rfl⟩
        rw [hA2] at hback
        have hrd2 : Reads wo wo.heap.size 1 A2 (n - p) ((out.drop p).map sv) := by
          have hh : Reads wo wo.heap.size 1 Ao n (out.map sv) := by have := HRO.out; rwa [HN.out] at this
          have := Reads.cut (cap := co) hh hp hoc
          rw [hA2, Nat.mul_one] at this
          rwa [List.map_drop]
        have HRD2 := Lib.hid hrd2
        have HA2 := Lib.hid hA2
        clear hA2 hrd2
        obtain ⟨i0, hi, hz0, hz1, hz2⟩ := info_parts info_str
        have HFR : ∀ W1, Below wo.heap.size wo W1 → OwnV 9 W1 w.heap.size (.slice Ao p co) ((out.take p).map sv) := fun W1 hW1 => ins_own HO.out HN.out hp hW1
        rcases hfin with ⟨p0, hle⟩ | ⟨r, y, a, hpr, p0, hrn, hpr1, rfl, hcl, ⟨t1, hle⟩ | ⟨t1, hge⟩⟩
        · have HFR' := Lib.hid HFR
          clear HFR hback hfront
          go_wp2_with fail
          go_quiet (fail)
          have hW0 : Below wo.heap.size wo ((wo.drewN q).drewN nq) := below_drewN (below_drewN (Below.refl _ _) _) _
          generalize (wo.drewN q).drewN nq = W at *
          have hback := texts_back Ao n co p hp
          have hfront := texts_front Ao n co p (by omega)
          rw [HA2.out] at hback
          have hWz := hW0.size
          have FB0 := Lib.hid hW0
          have FB1 := Lib.hid (hW0.alloc hWz (.cells #[.string x] 9))
          have FO1 := Lib.hid (row_one W x)
          have FR1 := Lib.hid (HRD2.out.below FB1.out)
          have HCX : Hid (∀ W1, Below wo.heap.size wo W1 → W1.cell? (ad.add k) = some (.string x)) := fun W1 hW1 => (hW1.cell (p := ad.add k) (by rw [block_of_add]; exact World.block_lt_of_cell? wo _ hcell |> fun h => by rwa [block_of_add] at h)).trans hcell
          have HLE := Lib.hid hle
          have HCT := Lib.hid hct
          have hpt : (out.take p).length = p := by rw [List.length_take, HN.out]; omega
          have hpd : 1 + (out.drop p).length = 1 + (n - p) := by rw [List.length_drop, HN.out]
          have HPT := Lib.hid hpt
          have HPD := Lib.hid hpd
          have s1 : 1 + (n - p) ≤ maxLen := by unfold maxLen; omega
          have s2 : (1 + (n - p)) * 16 ≤ 140737488355328 := by omega
          have s3 : p + (1 + (n - p)) ≤ maxLen := by unfold maxLen; omega
          have s4 : (p + (1 + (n - p))) * 16 ≤ 140737488355328 := by omega
          clear hW0 hle hpt hpd p0
          go_wp2_with fail
          go_region_held3 (fun w' => w'.cell? (ad.add k) = some (.string x)) (first | exact HCX.out _ FB0.out | exact HCX.out _ FB0.out.drew | exact HCX.out _ FB1.out | exact HCX.out _ FB1.out.drew | exact HCX.out _ FB41.out | exact hcx42) (first
            | (refine step_append_any _ rfl (.tmp 32) (.tmp 41) 36 rfl w.heap.size 9 i0 (.string ⟨#[]⟩) 1 16 Try.underlying36 hi hz0 hz1 hz2 rfl (by decide) (.slice Ao p co) p ((out.take p).map sv) rfl (by exact F42.out) _ A41 (1 + (n - p)) c41 ([sv x] ++ (out.drop p).map sv) rfl (by exact FR41.out) (one_more x _) s3 s4 (by exact hz42) ?_; intro v42 w42 ho42 hg42 hk42; have hg42' : w41.grownBy w42 (Value.slice Ao p co).ownBlock := ⟨hg42.os, hg42.tape, hg42.output, hg42.size, hg42.block⟩; have FB42' := Lib.hid ((HBW.out.trans (FB41.out.mono hz8)).grown hg42' hz42 (fun q hq => (World.ownsRow.lt F42.out q hq).1)); have HJ := Lib.hid (row_done HPT.out HPD.out ho42); have hcx42 : w42.cell? (ad.add k) = some (.string x) := (HCT.out w42 FB42'.out); clear ho42 hg42 hg42' hk42)
            | (refine step_append_any _ rfl (.tmp 37) (.tmp 40) 36 rfl W.heap.size 9 i0 (.string ⟨#[]⟩) 1 16 Try.underlying36 hi hz0 hz1 hz2 rfl (by decide) (.slice (some ⟨W.heap.size, 0, none⟩) 1 1) 1 [sv x] rfl (by exact FO1.out) _ A2 (n - p) (co - p) ((out.drop p).map sv) rfl (by exact FR1.out) (sv_one _) s1 s2 (by simp) ?_; intro v41 w41 ho41 hg41 hk41; obtain ⟨A41, c41, hv41, hr41⟩ := row_slice ho41; subst hv41; have FR41 := Lib.hid hr41; have hg41' : (W.alloc (.cells #[.string x] 9)).grownBy w41 (some W.heap.size) := ⟨hg41.os, hg41.tape, hg41.output, hg41.size, hg41.block⟩; have FB41 := Lib.hid (FB1.out.grown hg41' FB1.out.size (fun q hq => by injection hq with hq; omega)); have F42 := Lib.hid (row_of (HFR'.out w41 FB41.out) p HPT.out); have hz42 : w.heap.size ≤ w41.heap.size := Nat.le_trans hz8 FB41.out.size; clear ho41 hg41 hg41' hk41 hr41))
          all_goals
            have hso2 := ins_sorted (x := x) HSO.out (by rw [HN.out]; exact hp) HLE.out HGE2.out
            have hpe2 : (out.take p ++ ([x] ++ out.drop p)).Perm (xs.take (k + 1)) := by
              rw [HTK.out]
              exact (ins_perm out x p).trans (HPE.out.append_right [x])
            have HS2 := Lib.hid hso2
            have HP2 := Lib.hid hpe2
            clear hso2 hpe2
            go_wp2
            go_roundw
            case rel => exact ⟨k + 1, _, by omega, by go_num, HS2.out, HP2.out, HJ.out, FB42'.out⟩
            case measure => simp [intOf]; omega
        · have HFR' := Lib.hid HFR
          clear HFR hback hfront
          have HPR1 := Lib.hid hpr1
          have p0n : 0 < p := by omega
          clear hpr1
          have r0 : (0 : Int) ≤ (r : Int) := by omega
          have r1 : (r : Int) < (n : Int) := by omega
          go_wp2_with fail
          go_quiet (fail)
          have hW0 : Below wo.heap.size wo ((wo.drewN q).drewN nq) := below_drewN (below_drewN (Below.refl _ _) _) _
          clear hpr p0 p0n hcl t1
          generalize (some a : Option Addr) = Ao at *
          generalize (wo.drewN q).drewN nq = W at *
          have hback := texts_back Ao n co p hp
          have hfront := texts_front Ao n co p (by omega)
          rw [HA2.out] at hback
          have hWz := hW0.size
          have FB0 := Lib.hid hW0
          have FB1 := Lib.hid (hW0.alloc hWz (.cells #[.string x] 9))
          have FO1 := Lib.hid (row_one W x)
          have FR1 := Lib.hid (HRD2.out.below FB1.out)
          have HCX : Hid (∀ W1, Below wo.heap.size wo W1 → W1.cell? (ad.add k) = some (.string x)) := fun W1 hW1 => (hW1.cell (p := ad.add k) (by rw [block_of_add]; exact World.block_lt_of_cell? wo _ hcell |> fun h => by rwa [block_of_add] at h)).trans hcell
          have HLE := Lib.hid hle
          have HCT := Lib.hid hct
          have hpt : (out.take p).length = p := by rw [List.length_take, HN.out]; omega
          have hpd : 1 + (out.drop p).length = 1 + (n - p) := by rw [List.length_drop, HN.out]
          have HPT := Lib.hid hpt
          have HPD := Lib.hid hpd
          have s1 : 1 + (n - p) ≤ maxLen := by unfold maxLen; omega
          have s2 : (1 + (n - p)) * 16 ≤ 140737488355328 := by omega
          have s3 : p + (1 + (n - p)) ≤ maxLen := by unfold maxLen; omega
          have s4 : (p + (1 + (n - p))) * 16 ≤ 140737488355328 := by omega
          clear hW0 hle hpt hpd
          go_wp2_with fail
          go_region_held3 (fun w' => w'.cell? (ad.add k) = some (.string x)) (first | exact HCX.out _ FB0.out | exact HCX.out _ FB0.out.drew | exact HCX.out _ FB1.out | exact HCX.out _ FB1.out.drew | exact HCX.out _ FB41.out | exact hcx42) (first
            | (refine step_append_any _ rfl (.tmp 32) (.tmp 41) 36 rfl w.heap.size 9 i0 (.string ⟨#[]⟩) 1 16 Try.underlying36 hi hz0 hz1 hz2 rfl (by decide) (.slice Ao p co) p ((out.take p).map sv) rfl (by exact F42.out) _ A41 (1 + (n - p)) c41 ([sv x] ++ (out.drop p).map sv) rfl (by exact FR41.out) (one_more x _) s3 s4 (by exact hz42) ?_; intro v42 w42 ho42 hg42 hk42; have hg42' : w41.grownBy w42 (Value.slice Ao p co).ownBlock := ⟨hg42.os, hg42.tape, hg42.output, hg42.size, hg42.block⟩; have FB42' := Lib.hid ((HBW.out.trans (FB41.out.mono hz8)).grown hg42' hz42 (fun q hq => (World.ownsRow.lt F42.out q hq).1)); have HJ := Lib.hid (row_done HPT.out HPD.out ho42); have hcx42 : w42.cell? (ad.add k) = some (.string x) := (HCT.out w42 FB42'.out); clear ho42 hg42 hg42' hk42)
            | (refine step_append_any _ rfl (.tmp 37) (.tmp 40) 36 rfl W.heap.size 9 i0 (.string ⟨#[]⟩) 1 16 Try.underlying36 hi hz0 hz1 hz2 rfl (by decide) (.slice (some ⟨W.heap.size, 0, none⟩) 1 1) 1 [sv x] rfl (by exact FO1.out) _ A2 (n - p) (co - p) ((out.drop p).map sv) rfl (by exact FR1.out) (sv_one _) s1 s2 (by simp) ?_; intro v41 w41 ho41 hg41 hk41; obtain ⟨A41, c41, hv41, hr41⟩ := row_slice ho41; subst hv41; have FR41 := Lib.hid hr41; have hg41' : (W.alloc (.cells #[.string x] 9)).grownBy w41 (some W.heap.size) := ⟨hg41.os, hg41.tape, hg41.output, hg41.size, hg41.block⟩; have FB41 := Lib.hid (FB1.out.grown hg41' FB1.out.size (fun q hq => by injection hq with hq; omega)); have F42 := Lib.hid (row_of (HFR'.out w41 FB41.out) p HPT.out); have hz42 : w.heap.size ≤ w41.heap.size := Nat.le_trans hz8 FB41.out.size; clear ho41 hg41 hg41' hk41 hr41))
          all_goals
            have hso2 := ins_sorted (x := x) HSO.out (by rw [HN.out]; exact hp) HLE.out HGE2.out
            have hpe2 : (out.take p ++ ([x] ++ out.drop p)).Perm (xs.take (k + 1)) := by
              rw [HTK.out]
              exact (ins_perm out x p).trans (HPE.out.append_right [x])
            have HS2 := Lib.hid hso2
            have HP2 := Lib.hid hpe2
            clear hso2 hpe2
            go_wp2
            go_roundw
            case rel => exact ⟨k + 1, _, by omega, by go_num, HS2.out, HP2.out, HJ.out, FB42'.out⟩
            case measure => simp [intOf]; omega
        · clear HFR hback hfront
          have HPR1 := Lib.hid hpr1
          have p0n : 0 < p := by omega
          clear hpr1
          have r0 : (0 : Int) ≤ (r : Int) := by omega
          have r1 : (r : Int) < (n : Int) := by omega
          go_wp2_with fail
          go_quiet (fail)
          go_wp2
          go_roundw
          case rel => exact ⟨r, _, by omega, rfl, rfl, hge⟩
          case measure => have := HPR1.out; simp [intOf]; omega
    · obtain rfl : k = l := by omega
      have hfin : out = sortT xs := by
        refine sortT_eq HSO.out ?_
        have := HPE.out
        rwa [List.take_of_length_le (by rw [HL.out]; omega)] at this
      have hres : OwnV 9 wr w.heap.size (.slice Ao n co) ((sortT xs).map sv) := by rw [← hfin]; exact HO.out
      have HRES := Lib.hid hres
      clear hfin hres hol
      go_wp2
      go_ret
      exact ⟨_, rfl, HRES.out, HBW.out⟩
end Go.Proofs.Ythopfbkkjfnhkaa
