/- Texts put together: Ro2. -/
import Derived.Test.YtcmlofgkcalhnaaQo10
import Derived.Test.YtcmlofgkcalhnaaQo13
import Derived.Test.YtcmlofgkcalhnaaQo24
import Derived.Deep.RegionHeld3
/- The document's Valid, valid, Rises, Msg. -/
namespace Go.Proofs.Ytcmlofgkcalhnaa.Ob
open Go.RowKit Go.Proofs.Ytcmlofgkcalhnaa.Sh
open Go.Proofs.Ytcmlofgkcalhnaa.Tx (OwnV SlV sv bl nameB reads_at texts_at toList_ne')

/-- 'wpAnyH_take' with the op's target told as a number, so that the frame behind it is a plain one. -/
theorem take_at {P : Program} {md : Region.Mode} {ops : Array Oper} {Q : Exit → Act → World → Prop} {S : World → Prop} {i d : Nat} {oi : Oper} {v : Value} {fuel : Nat} {listed : Array Bool} {a : Act} {w : World} (hi : ops[i]? = some oi) (hd : oi.dst = some d)
    (hs : Region.noSelect ops = true) (hf : Region.free md ops listed i = true) (hr : (Region.ready md ops listed).contains i = true)
    (hQ : ∀ c a w, Q (.panic c) (a.put (some d) v) w → Q (.panic c) a w) (hy : YieldsIf P ops S oi v a) (hS : S w)
    (h : wpAnyH P md ops Q S fuel (listed.setIfInBounds i true) (a.put (some d) v) w) : wpAnyH P md ops Q S (fuel + 1) listed a w :=
  wpAnyH_take hi hs hf hr (by rw [hd]; exact hQ) hy hS (by rw [hd]; exact h)
theorem rvalid_all (cs : List UInt8) (w : World) (hl : cs.length ≤ 140737488351232) : Calls Try.prog 45 #[.string (str cs)] w (BoolPost w (validB cs)) := rvalid_any cs (validB cs) rfl w hl
theorem rname_all (cs : List UInt8) (w : World) : Calls Try.prog 70 #[.string (str cs)] w fun e w' => e = .returned (.bool (nameB cs)) ∧ w = w' := Tx.rname_all cs w
def validsB (ids : List (List UInt8)) : Bool := (List.range ids.length).all fun j => validB (ids.getD j [])
def risesB (ids : List (List UInt8)) : Bool := (List.range (ids.length - 1)).all fun j => bl (ids.getD j []) (ids.getD (j + 1) [])
theorem leq_not (x y : List UInt8) : (bl x y || x == y) = !bl y x := by
  rcases Tx.bl_tri x y with h | h | h
  · rw [h, Tx.bl_asymm x y h]; rfl
  · subst h; rw [Tx.bl_irr]; simp
  · rw [h, Tx.bl_asymm y x h]
    have : x ≠ y := fun e => by rw [e, Tx.bl_irr] at h; cases h
    simp [this]
theorem parB_eq (ids : List (List UInt8)) : parB ids = (decide (ids.length ≤ 2) && (validsB ids && risesB ids)) := by
  unfold parB validsB risesB
  rw [Bool.eq_iff_iff]
  simp only [Bool.and_eq_true, decide_eq_true_eq, List.all_eq_true, List.mem_range, Bool.or_eq_true]
  constructor
  · rintro ⟨h1, h2⟩
    refine ⟨h1, fun j hj => (h2 j hj).1, fun j hj => ?_⟩
    have := (h2 (j + 1) (by omega)).2
    rcases this with h | h
    · omega
    · simpa using h
  · rintro ⟨h1, h2, h3⟩
    refine ⟨h1, fun j hj => ⟨h2 j hj, ?_⟩⟩
    cases j with
    | zero => exact .inl rfl
    | succ j => exact .inr (by simpa using h3 j (by omega))
set_option maxRecDepth 100000 in
set_option maxHeartbeats 800000 in
theorem rvalids_any (v : Value) (ids : List (List UInt8)) (w : World) (h : SlV w v ((ids.map str).map sv)) (hs : ∀ x ∈ ids, x.length ≤ 140737488351232) : Calls Try.prog 46 #[v] w (BoolPost w (validsB ids)) := by
  obtain ⟨A, c, rfl, hlc, hcm, hR⟩ := h.len
  rw [List.length_map, List.length_map] at hlc hR ⊢
  have HR := Lib.hid hR
  have HS := Lib.hid hs
  unfold maxLen at hcm
  obtain ⟨l, hL⟩ : ∃ l, ids.length = l := ⟨_, rfl⟩
  obtain ⟨t, ht⟩ : ∃ t, validsB ids = t := ⟨_, rfl⟩
  rw [ht]
  unfold validsB at ht
  rw [hL] at hlc ht ⊢
  have HL := Lib.hid hL
  have HT := Lib.hid ht
  clear hL ht h hR hs
  go_enter Try.func46, Try.ntmps46
  go_wp2
  go_loopw [3] (fun i wr => ∃ k : Nat, k ≤ l ∧ i = .int .i64 k ∧ Below w.heap.size w wr ∧ (List.range k).all (fun j => validB (ids.getD j [])) = true) (fun i _ => l - (intOf i).toNat)
  case atStart => exact ⟨0, by omega, rfl, Below.refl _ _, rfl⟩
  case round =>
    obtain ⟨k, hk, rfl, hb, hok⟩ := hrel
    have HB := Lib.hid hb
    have HOK := Lib.hid hok
    clear hb hok
    have k0 : (0 : Int) ≤ (k : Int) := by omega
    by_cases hlt : k < l
    · have k1 : (k : Int) < (l : Int) := by omega
      have hkl : k < ids.length := by rw [HL.out]; exact hlt
      obtain ⟨ad, rfl, hcell⟩ := par_at (HR.out.below HB.out) k hkl
      have hxs : (ids.getD k []).length ≤ 140737488351232 := by
        rw [List.getD_eq_getElem?_getD, List.getElem?_eq_getElem hkl]
        exact HS.out _ (List.getElem_mem hkl)
      obtain ⟨x, hx⟩ : ∃ x, ids.getD k [] = x := ⟨_, rfl⟩
      rw [hx] at hcell hxs
      have HX := Lib.hid hx
      have HXS := Lib.hid hxs
      obtain ⟨b, hbv⟩ : ∃ b, validB x = b := ⟨_, rfl⟩
      have HBV := Lib.hid hbv
      clear hx hxs hbv hkl
      cases b with
      | false =>
        have htt : t = false := by rw [← HT.out, all_bad hlt (by rw [HX.out, HBV.out])]
        subst htt
        go_wp2_with fail
        refine (rvalid_all x _ HXS.out).mono ?_
        rw [HBV.out]
        rintro e w' ⟨rfl, hb'⟩
        have HB' := Lib.hid (Below.after HB.out hb')
        clear hb' hcell
        go_wp2_with fail
        go_ret
        exact ⟨rfl, HB'.out⟩
      | true =>
        have HO := Lib.hid (all_next HOK.out (show validB (ids.getD k []) = true from by rw [HX.out, HBV.out]))
        go_wp2_with fail
        refine (rvalid_all x _ HXS.out).mono ?_
        rw [HBV.out]
        rintro e w' ⟨rfl, hb'⟩
        have HB' := Lib.hid (Below.after HB.out hb')
        clear hb' hcell
        go_wp2_with fail
        go_roundw
        case rel => exact ⟨k + 1, by omega, by go_num, HB'.out, HO.out⟩
        case measure => simp [intOf]; omega
    · obtain rfl : k = l := by omega
      have htt : t = true := by rw [← HT.out, HOK.out]
      subst htt
      go_wp2
      go_ret
      exact ⟨rfl, HB.out⟩
set_option maxRecDepth 100000 in
set_option maxHeartbeats 800000 in
theorem rrises_any (v : Value) (ids : List (List UInt8)) (w : World) (h : SlV w v ((ids.map str).map sv)) : Calls Try.prog 47 #[v] w (BoolPost w (risesB ids)) := by
  obtain ⟨A, c, rfl, hlc, hcm, hR⟩ := h.len
  rw [List.length_map, List.length_map] at hlc hR ⊢
  have HR := Lib.hid hR
  unfold maxLen at hcm
  obtain ⟨l, hL⟩ : ∃ l, ids.length = l := ⟨_, rfl⟩
  obtain ⟨t, ht⟩ : ∃ t, risesB ids = t := ⟨_, rfl⟩
  rw [ht]
  unfold risesB at ht
  rw [hL] at hlc ht ⊢
  have HL := Lib.hid hL
  have HT := Lib.hid ht
  clear hL ht h hR
  go_enter Try.func47, Try.ntmps47
  go_wp2
  go_loopw [3] (fun i wr => ∃ k : Nat, (k + 1 ≤ l ∨ k = 0) ∧ i = .int .i64 ((k : Int) + 1) ∧ Below w.heap.size w wr ∧ (List.range k).all (fun j => bl (ids.getD j []) (ids.getD (j + 1) [])) = true) (fun i _ => l - (intOf i).toNat)
  case atStart => exact ⟨0, .inr rfl, rfl, Below.refl _ _, rfl⟩
  case round =>
    obtain ⟨k, hk, rfl, hb, hok⟩ := hrel
    have HB := Lib.hid hb
    have HOK := Lib.hid hok
    have HK := Lib.hid hk
    clear hb hok hk
    have k0 : (0 : Int) ≤ (k : Int) := by omega
    by_cases hlt : k + 1 < l
    · obtain ⟨m, hm⟩ : ∃ m : Nat, k + 1 = m := ⟨_, rfl⟩
      have hmi : (k : Int) + 1 = (m : Int) := by omega
      rw [hmi]
      have m0 : (0 : Int) ≤ (m : Int) := by omega
      have m1 : (m : Int) < (l : Int) := by omega
      have k1 : (k : Int) < (l : Int) := by omega
      have hml : m < ids.length := by rw [HL.out]; omega
      have hkl : k < ids.length := by rw [HL.out]; omega
      obtain ⟨ad, rfl, hcell⟩ := par_at (HR.out.below HB.out) m hml
      obtain ⟨ad', had, hcell'⟩ := par_at (HR.out.below HB.out) k hkl
      injection had with had
      subst had
      obtain ⟨x, hx⟩ : ∃ x, ids.getD m [] = x := ⟨_, rfl⟩
      obtain ⟨y, hy⟩ : ∃ y, ids.getD k [] = y := ⟨_, rfl⟩
      rw [hx] at hcell
      rw [hy] at hcell'
      have hj : (m : Int) - 1 = (k : Int) := by omega
      have hw : IntKind.i64.wrap ((m : Int) - 1) = (k : Int) := by rw [IntKind.wrap_i64]; omega
      have hl2 : m ≤ 9223372036854775807 := by omega
      obtain ⟨r, hr⟩ : ∃ r, bl y x = r := ⟨_, rfl⟩
      have hle : (Op.bytesLess (str x).toList (str y).toList || (str x).toList == (str y).toList) = !r := by
        rw [str_toList, str_toList, ← hr]
        exact leq_not x y
      have HR2 := Lib.hid hr
      have HX := Lib.hid hx
      have HY := Lib.hid hy
      have HM := Lib.hid hm
      clear hr hx hy hml hkl hmi hm
      have HLT := Lib.hid hlt
      clear hlt
      cases r with
      | false =>
        have htt : t = false := by
          rw [← HT.out]
          exact all_bad (k := k) (by have := HLT.out; omega) (by rw [HM.out, HX.out, HY.out, HR2.out])
        subst htt
        have hle2 : (Op.bytesLess (str x).toList (str y).toList || (str x).toList == (str y).toList) = true := hle
        clear hle
        go_wp2_with fail
        go_quiet (fail)
        go_wp2_with fail
        go_ret
        exact ⟨rfl, below_drewN HB.out _⟩
      | true =>
        have hle2 : (Op.bytesLess (str x).toList (str y).toList || (str x).toList == (str y).toList) = false := hle
        clear hle
        have HO := Lib.hid (all_next HOK.out (show bl (ids.getD k []) (ids.getD (k + 1) []) = true from by rw [HM.out, HX.out, HY.out, HR2.out]))
        go_wp2_with fail
        go_quiet (fail)
        go_wp2_with fail
        go_roundw
        case rel => exact ⟨k + 1, .inl (by have := HLT.out; omega), by have := HM.out; congr 1; omega, below_drewN HB.out _, HO.out⟩
        case measure => have := HM.out; have := HLT.out; simp [intOf]; omega
    · have htt : t = true := by
        rw [← HT.out]
        have e : l - 1 = k := by have := HK.out; omega
        rw [e, HOK.out]
      subst htt
      have hge : (l : Int) ≤ (k : Int) + 1 := by omega
      have HLT := Lib.hid hlt
      clear hlt
      go_wp2
      go_ret
      exact ⟨rfl, HB.out⟩
set_option maxRecDepth 100000 in
set_option maxHeartbeats 800000 in
theorem rmsg_any (cs : List UInt8) (w : World) (hln : cs.length ≤ 140737488351232) : Calls Try.prog 48 #[.string (str cs)] w fun e w' => e = .returned (.bool (msgB cs)) ∧ w = w' := by
  have hsz := str_size cs
  obtain ⟨l, hL⟩ : ∃ l, cs.length = l := ⟨_, rfl⟩
  obtain ⟨t, ht⟩ : ∃ t, msgB cs = t := ⟨_, rfl⟩
  rw [ht]
  unfold msgB at ht
  rw [hL] at hsz ht hln
  have HL := Lib.hid hL
  have HT := Lib.hid ht
  have n0 : (0 : Int) ≤ (l : Int) := by omega
  clear hL ht
  go_enter Try.func48, Try.ntmps48
  go_wp2
  go_loop [3] (fun i => ∃ k : Nat, k ≤ l ∧ i = .int .i64 k ∧ (List.range k).all (fun j => okm (cs.getD j 0)) = true) (fun i => l - (intOf i).toNat)
  case atStart => exact ⟨0, by omega, rfl, rfl⟩
  case round =>
    obtain ⟨k, hk, rfl, hok⟩ := hrel
    have HOK := Lib.hid hok
    clear hok
    have k0 : (0 : Int) ≤ (k : Int) := by omega
    by_cases hlt : k < l
    · have k1 : (k : Int) < (l : Int) := by omega
      have hix := index_str cs k (by rw [HL.out]; exact hlt)
      obtain ⟨x, hx⟩ : ∃ x, cs.getD k 0 = x := ⟨_, rfl⟩
      rw [hx] at hix
      have HX := Lib.hid hx
      clear hx
      by_cases c1 : bi x < 32
      · have htt : t = false := by
          rw [← HT.out, all_bad hlt (by rw [HX.out]; unfold okm; simp [show ¬ (32 ≤ bi x) from by omega])]
          simp
        subst htt
        generalize bi x = y at *
        go_wp2
        go_ret
        exact ⟨rfl, rfl⟩
      · have c1' : 32 ≤ bi x := by omega
        clear c1
        by_cases c2 : 126 < bi x
        · have htt : t = false := by
            rw [← HT.out, all_bad hlt (by rw [HX.out]; unfold okm; simp [show ¬ (bi x ≤ 126) from by omega])]
            simp
          subst htt
          generalize bi x = y at *
          go_wp2
          go_ret
          exact ⟨rfl, rfl⟩
        · have c2' : bi x ≤ 126 := by omega
          have HO := Lib.hid (all_next HOK.out (show okm (cs.getD k 0) = true from by rw [HX.out]; unfold okm; simp [c1', c2']))
          clear c2
          generalize bi x = y at *
          go_wp2
          go_round
          case rel => exact ⟨k + 1, by omega, by go_num, HO.out⟩
          case measure => simp [intOf]; omega
    · obtain rfl : k = l := by omega
      by_cases h2 : k ≤ 200
      · have h2' : (k : Int) ≤ 200 := by omega
        have htt : t = true := by
          rw [← HT.out, HOK.out]
          simp [h2]
        subst htt
        clear h2
        go_wp2
        go_ret
        have HD : decide ((k : Int) ≤ 200) = true := by simp; omega
        refine ⟨?_, rfl⟩
        first | rfl | (show Ending.returned (.bool (decide ((k : Int) ≤ 200))) = _; rw [HD])
      · have h2' : (200 : Int) < (k : Int) := by omega
        have htt : t = false := by
          rw [← HT.out]
          simp [h2]
        subst htt
        clear h2
        go_wp2
        go_ret
        have HD : decide ((k : Int) ≤ 200) = false := by simp; omega
        refine ⟨?_, rfl⟩
        show Ending.returned (.bool (decide ((k : Int) ≤ 200))) = _
        rw [HD]
end Go.Proofs.Ytcmlofgkcalhnaa.Ob
