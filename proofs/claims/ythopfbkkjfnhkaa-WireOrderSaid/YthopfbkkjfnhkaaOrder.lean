/- The walk of WireOrder. -/
import Derived.Test.YthopfbkkjfnhkaaSorts
namespace Go.Proofs.Ythopfbkkjfnhkaa
open Go.RowKit

theorem quiet_left {P : Program} {f : FuncId} {args : Array Value} {w : World} {n : Nat} {v : Value}
    (h : Calls P f args (w.drewN n) fun e w' => e = .returned v ∧ w.drewN n = w') : Calls P f args (w.drewN n) fun e w'' => e = .returned v ∧ ∃ m, w'' = w.drewN m :=
  h.mono fun _ _ ⟨he, hm⟩ => ⟨he, n, hm.symm⟩
theorem quiet_add_left {P : Program} {f : FuncId} {args : Array Value} {w : World} {a n : Nat} {v : Value}
    (h : Calls P f args (w.drewN (a + n)) fun e w' => e = .returned v ∧ w.drewN (a + n) = w') : Calls P f args (w.drewN (a + n)) fun e w'' => e = .returned v ∧ ∃ m, w'' = w.drewN (a + m) :=
  h.mono fun _ _ ⟨he, hm⟩ => ⟨he, n, hm.symm⟩
def flg (b : Bool) : Nat := if b then 1 else 0
theorem flg_le (b : Bool) : flg b ≤ 1 := by cases b <;> decide
theorem flag_nat (b : Bool) (w : World) : Calls Try.prog 32 #[.bool b] w fun e w' => e = .returned (.int .i64 ((flg b : Nat) : Int)) ∧ w = w' := by
  have := flag_any b w
  cases b <;> exact this
theorem flag_no (w : World) : Calls Try.prog 32 #[.bool false] w fun e w' => e = .returned (.int .i64 0) ∧ w = w' := flag_any false w
/-- How often is s there? -/
def cntT (l : List ByteArray) (s : ByteArray) : Nat := (l.filter (fun t => t.toList == s.toList)).length
theorem cntT_snoc (l : List ByteArray) (x s : ByteArray) : cntT (l ++ [x]) s = cntT l s + flg (x.toList == s.toList) := by
  unfold cntT flg
  rw [List.filter_append, List.length_append]
  by_cases h : (x.toList == s.toList) = true <;> simp [h]
theorem cntT_next (l : List ByteArray) (s : ByteArray) (k : Nat) (hk : k < l.length) : cntT (l.take (k + 1)) s = cntT (l.take k) s + flg (l[k].toList == s.toList) := by
  rw [List.take_succ_eq_append_getElem hk, cntT_snoc]
theorem cntT_le (l : List ByteArray) (s : ByteArray) (k : Nat) : cntT (l.take k) s ≤ k := Nat.le_trans (List.length_filter_le _ _) (List.length_take_le _ _)
theorem cntT_perm {a b : List ByteArray} (h : a.Perm b) (s : ByteArray) : cntT a s = cntT b s := (h.filter _).length_eq
theorem cntT_cons (x : ByteArray) (l : List ByteArray) (s : ByteArray) : cntT (x :: l) s = flg (x.toList == s.toList) + cntT l s := by
  unfold cntT flg
  by_cases h : (x.toList == s.toList) = true <;> simp [h, Nat.add_comm]
theorem cntT_none {l : List ByteArray} {s : ByteArray} (h : s ∉ l) : cntT l s = 0 := by
  unfold cntT
  rw [List.length_eq_zero_iff, List.filter_eq_nil_iff]
  intro t ht e
  exact h (by rw [← ba_ext (beq_iff_eq.1 e)]; exact ht)
theorem cntT_some {l : List ByteArray} {s : ByteArray} (h : s ∈ l) : 0 < cntT l s := by
  unfold cntT
  exact List.length_pos_of_mem (List.mem_filter.2 ⟨h, beq_self_eq_true _⟩)
theorem cntT_strict {l : List ByteArray} {s : ByteArray} (hs : Strict l) (h : s ∈ l) : cntT l s = 1 := by
  induction l with
  | nil => cases h
  | cons x l ih =>
    obtain ⟨h1, h2⟩ := List.pairwise_cons.1 hs
    rw [cntT_cons]
    by_cases e : x = s
    · subst e
      have hno : x ∉ l := fun hm => by have := h1 x hm; rw [bl_irr] at this; cases this
      rw [cntT_none hno, beq_self_eq_true]
      rfl
    · rw [toList_ne e, ih h2 ((List.mem_cons.1 h).resolve_left (fun e2 => e e2.symm))]
      rfl
theorem cmp_sorted {l : List ByteArray} (h : Sorted l) (j : Nat) (hj : j + 1 < l.length) : cmpL l[j].toList l[j + 1].toList ≤ 0 := by
  rcases tle_cases (List.pairwise_iff_getElem.1 h j (j + 1) (by omega) hj (by omega)) with h1 | h1
  · rw [cmpL_lt h1]; decide
  · rw [h1, cmpL_eq]; decide
theorem cmp_strict {l : List ByteArray} (h : Strict l) (j : Nat) (hj : j + 1 < l.length) : cmpL l[j].toList l[j + 1].toList < 0 := by
  rw [cmpL_lt (List.pairwise_iff_getElem.1 h j (j + 1) (by omega) hj (by omega))]; decide

set_option maxRecDepth 100000 in
set_option maxHeartbeats 3200000 in
theorem order_any (v0 : Value) (xs : List ByteArray) (s : ByteArray) (w : World) (h0 : SlV w v0 (xs.map sv)) (z0 : ∀ t ∈ xs, t.size ≤ maxLen) :
    Calls Try.prog 7 #[v0, .string s] w (Yes w) := by
  have H0 := Lib.hid h0
  have Z0 := Lib.hid z0
  obtain ⟨A0, c0, e0, n0, m0, hR0⟩ := h0.len
  rw [List.length_map] at e0 n0 hR0
  obtain ⟨l, hl⟩ : ∃ l, xs.length = l := ⟨_, rfl⟩
  rw [hl] at e0 n0
  have HL := Lib.hid hl
  have HR0 := Lib.hid hR0
  unfold maxLen at m0
  subst e0
  clear h0 z0 hl hR0
  go_enter Try.func7, Try.ntmps7
  go_wp2_with fail
  refine (first_then (Below.refl _ _)).mono ?_
  rintro e w1 ⟨rfl, hb1⟩
  have HB1 := Lib.hid hb1
  clear hb1
  go_wp2_with fail
  have hfew := few_any _ xs _ (H0.out.below HB1.out) Z0.out
  rw [HL.out] at hfew
  refine hfew.mono ?_
  rintro e w2 ⟨t0, rfl, hf0, rfl⟩
  have HF0 := Lib.hid hf0
  clear hf0 hfew
  cases t0 with
  | false =>
    go_wp2_with fail
    refine (first_then HB1.out).mono ?_
    rintro e w3 ⟨rfl, hb3⟩
    go_wp2
    go_ret
    exact ⟨rfl, hb3⟩
  | true =>
    have n400 := HF0.out (by first | rfl | trivial)
    go_wp2_with fail
    refine (sort_any _ xs _ (H0.out.below HB1.out) (by rw [HL.out]; omega)).mono ?_
    rintro e w3 ⟨v3, rfl, ho3, hb3⟩
    have HB3 := Lib.hid (HB1.out.trans (hb3.mono HB1.out.size))
    have HA3 := Lib.hid ho3.slv
    clear ho3 hb3
    go_wp2_with fail
    refine (uniq_any _ xs _ (H0.out.below HB3.out) (by rw [HL.out]; omega)).mono ?_
    rintro e w4 ⟨v4, rfl, ho4, hb4⟩
    have HB4 := Lib.hid (HB3.out.trans (hb4.mono HB3.out.size))
    have HA4 := Lib.hid (HA3.out.below hb4)
    have HU4 := Lib.hid ho4.slv
    clear ho4 hb4
    have hss := sortT_sorted xs
    have hus := (uniqT_spec xs).1
    have hum := (uniqT_spec xs).2
    have hsl : (sortT xs).length = l := by rw [sortT_length, HL.out]
    have hul := uniqT_len xs
    rw [HL.out] at hul
    have hcs : cntT (sortT xs) s = cntT xs s := cntT_perm (sortT_perm xs) s
    have hss2 : sortT (sortT xs) = sortT xs := (sortT_eq (sortT_sorted xs) (List.Perm.refl _)).symm
    have huu : uniqT (sortT xs) = uniqT xs := uniqT_same (fun z => (sortT_perm xs).mem_iff)
    obtain ⟨ts, hts⟩ : ∃ ts, sortT xs = ts := ⟨_, rfl⟩
    obtain ⟨us, hus2⟩ : ∃ us, uniqT xs = us := ⟨_, rfl⟩
    rw [hts] at hss hsl hcs hss2 huu HA4
    rw [hus2] at hus hum hul huu HU4
    have HSS := Lib.hid hss
    have HUS := Lib.hid hus
    have HUM := Lib.hid hum
    have HCS := Lib.hid hcs
    have HSS2 := Lib.hid hss2
    have HUU := Lib.hid huu
    have HTL := Lib.hid hsl
    obtain ⟨A3, c3, e3, n3, m3, hR3⟩ := HA4.out.len
    obtain ⟨A4, c4, e4, n4, m4, hR4⟩ := HU4.out.len
    rw [List.length_map] at e3 n3 hR3 e4 n4 hR4
    obtain ⟨lu, hlu⟩ : ∃ lu, us.length = lu := ⟨_, rfl⟩
    rw [hsl] at e3 n3
    rw [hlu] at e4 n4 hul
    have HR3 := Lib.hid hR3
    have HR4 := Lib.hid hR4
    have HLU := Lib.hid hlu
    subst e3 e4
    unfold maxLen at m3 m4
    clear hss hus hum hsl hcs hss2 huu hts hus2 hR3 hR4 hlu
    have q0 : (l : Int) ≤ 400 := by omega
    have q1 : (lu : Int) ≤ (l : Int) := by omega
    go_wp2_with fail
    go_loopw [7] (fun i wr => ∃ k : Nat, 1 ≤ k ∧ k ≤ l + 1 ∧ i = .int .i64 k ∧ Below w4.heap.size w4 wr) (fun i _ => l - (intOf i).toNat)
    case atStart => exact ⟨1, by omega, by omega, rfl, Below.refl _ _⟩
    case round =>
      obtain ⟨k, hk1, hk2, rfl, hbw⟩ := hrel
      have HBW := Lib.hid hbw
      clear hbw
      by_cases hlt : k < l
      · obtain ⟨j, hj⟩ : ∃ j, k = j + 1 := ⟨k - 1, by omega⟩
        have hjl : j + 1 < ts.length := by rw [HTL.out]; omega
        obtain ⟨ad, rfl, hc1⟩ := texts_at ((HR3.out.below HBW.out).more HBW.out.size) j (by omega)
        obtain ⟨ad', he, hc2⟩ := texts_at ((HR3.out.below HBW.out).more HBW.out.size) (j + 1) hjl
        injection he with he
        subst he
        have hcm := cmp_sorted HSS.out j hjl
        have hcl := fun w => cmp_any (ts[j]'(by omega)) ts[j + 1] w
        obtain ⟨c, hc⟩ : ∃ c, cmpL (ts[j]'(by omega)).toList ts[j + 1].toList = c := ⟨_, rfl⟩
        rw [hc] at hcm
        rw [hc] at hcl
        generalize ts[j]'(by omega) = x1 at *
        generalize ts[j + 1] = x2 at *
        have hidx : (k : Int) - 1 = (j : Int) := by omega
        rw [← hj] at hc2
        have z0 : (0 : Int) ≤ (j : Int) := by omega
        have z1 : (j : Int) < (l : Int) := by omega
        have z2 : (0 : Int) ≤ (k : Int) := by omega
        have z3 : (k : Int) < (l : Int) := by omega
        have HCL := Lib.hid hcl
        have HJ := Lib.hid hj
        clear hc hcl hjl hj
        go_wp2_with fail
        go_quiet ((go_at_call 20; first | exact quiet_left (HCL.out _) | exact quiet_add_left (HCL.out _)))
        go_wp2
        go_roundw
        case rel => exact ⟨k + 1, by omega, by omega, by go_num, below_drewN HBW.out _⟩
        case measure => simp [intOf]; omega
      · have z3 : (l : Int) ≤ (k : Int) := by omega
        have HB5 := Lib.hid (HB4.out.trans (HBW.out.mono HB4.out.size))
        have HA5 := Lib.hid (HA4.out.below HBW.out)
        have HU5 := Lib.hid (HU4.out.below HBW.out)
        have HR03 := Lib.hid ((HR3.out.below HBW.out).more HBW.out.size)
        have HR04 := Lib.hid ((HR4.out.below HBW.out).more HBW.out.size)
        obtain ⟨wo, hwo⟩ : ∃ wo, wo = wr := ⟨_, rfl⟩
        clear HR3 HR4 HA4 HU4 HBW
        subst hwo
        go_wp2_with fail
        go_loopw [8] (fun i wr => ∃ k : Nat, 1 ≤ k ∧ k ≤ lu + 1 ∧ i = .int .i64 k ∧ Below wo.heap.size wo wr) (fun i _ => lu - (intOf i).toNat)
        case atStart => exact ⟨1, by omega, by omega, rfl, Below.refl _ _⟩
        case round =>
          obtain ⟨k, hk1, hk2, rfl, hbw⟩ := hrel
          have HBW := Lib.hid hbw
          clear hbw
          by_cases hlt : k < lu
          · obtain ⟨j, hj⟩ : ∃ j, k = j + 1 := ⟨k - 1, by omega⟩
            have hjl : j + 1 < us.length := by rw [HLU.out]; omega
            obtain ⟨ad, rfl, hc1⟩ := texts_at ((HR04.out.below HBW.out).more HBW.out.size) j (by omega)
            obtain ⟨ad', he, hc2⟩ := texts_at ((HR04.out.below HBW.out).more HBW.out.size) (j + 1) hjl
            injection he with he
            subst he
            have hcm := cmp_strict HUS.out j hjl
            have hcl := fun w => cmp_any (us[j]'(by omega)) us[j + 1] w
            obtain ⟨c, hc⟩ : ∃ c, cmpL (us[j]'(by omega)).toList us[j + 1].toList = c := ⟨_, rfl⟩
            rw [hc] at hcm
            rw [hc] at hcl
            generalize us[j]'(by omega) = x1 at *
            generalize us[j + 1] = x2 at *
            have hidx : (k : Int) - 1 = (j : Int) := by omega
            rw [← hj] at hc2
            have z0 : (0 : Int) ≤ (j : Int) := by omega
            have z1 : (j : Int) < (lu : Int) := by omega
            have z2 : (0 : Int) ≤ (k : Int) := by omega
            have z3 : (k : Int) < (lu : Int) := by omega
            have HCL := Lib.hid hcl
            have HJ := Lib.hid hj
            clear hc hcl hjl hj
            go_wp2_with fail
            go_quiet ((go_at_call 20; first | exact quiet_left (HCL.out _) | exact quiet_add_left (HCL.out _)))
            go_wp2
            go_roundw
            case rel => exact ⟨k + 1, by omega, by omega, by go_num, below_drewN HBW.out _⟩
            case measure => simp [intOf]; omega
          · have z3 : (lu : Int) ≤ (k : Int) := by omega
            have HB6 := Lib.hid (HB5.out.trans (HBW.out.mono HB5.out.size))
            have HA6 := Lib.hid (HA5.out.below HBW.out)
            have HU6 := Lib.hid (HU5.out.below HBW.out)
            have HS3 := Lib.hid ((HR03.out.below HBW.out).more HBW.out.size)
            have HS4 := Lib.hid ((HR04.out.below HBW.out).more HBW.out.size)
            obtain ⟨wp, hwp⟩ : ∃ wp, wp = wr := ⟨_, rfl⟩
            clear HR03 HR04 HA5 HU5 HBW
            subst hwp
            go_wp2_with fail
            have c0 := cntT_none (l := []) (s := s) (by simp)
            go_loopw [9, 10, 11, 12] (fun x y z i wr => ∃ k : Nat, k ≤ l ∧ i = .int .i64 k ∧ x = .int .i64 (cntT (xs.take k) s : Nat) ∧ y = .int .i64 (cntT (ts.take k) s : Nat) ∧ z = .int .i64 (cntT (us.take k) s : Nat) ∧ Below wp.heap.size wp wr) (fun _ _ _ i _ => l - (intOf i).toNat)
            case atStart => exact ⟨0, by omega, rfl, by rw [List.take_zero, c0]; rfl, by rw [List.take_zero, c0]; rfl, by rw [List.take_zero, c0]; rfl, Below.refl _ _⟩
            case round =>
              obtain ⟨k, hk, rfl, rfl, rfl, rfl, hbw⟩ := hrel
              have HBW := Lib.hid hbw
              clear hbw
              by_cases hlt : k < l
              · have hk0 : k < xs.length := by rw [HL.out]; exact hlt
                have hk3 : k < ts.length := by rw [HTL.out]; exact hlt
                obtain ⟨ad0, rfl, hc0⟩ := texts_at (HR0.out.below (HB6.out.trans (HBW.out.mono HB6.out.size)) |>.more (HB6.out.trans (HBW.out.mono HB6.out.size)).size) k hk0
                obtain ⟨ad3, rfl, hc3⟩ := texts_at ((HS3.out.below HBW.out).more HBW.out.size) k hk3
                have hx := cntT_next xs s k hk0
                have hy := cntT_next ts s k hk3
                have bx := cntT_le xs s k
                have byy := cntT_le ts s k
                have bz := cntT_le us s k
                generalize xs[k] = e0 at *
                generalize ts[k] = e3 at *
                generalize cntT (xs.take k) s = nx at *
                generalize cntT (ts.take k) s = ny at *
                obtain ⟨b0, hb0⟩ : ∃ b, (e0.toList == s.toList) = b := ⟨_, rfl⟩
                obtain ⟨b3, hb3⟩ : ∃ b, (e3.toList == s.toList) = b := ⟨_, rfl⟩
                rw [hb0] at hx
                rw [hb3] at hy
                have fx := flg_le b0
                have fy := flg_le b3
                have hfl0 := fun w => flag_nat b0 w
                have hfl3 := fun w => flag_nat b3 w
                generalize flg b0 = f0 at *
                generalize flg b3 = f3 at *
                have HF0 := Lib.hid hfl0
                have HF3 := Lib.hid hfl3
                have HX := Lib.hid hx
                have HY := Lib.hid hy
                have z0 : (0 : Int) ≤ (k : Int) := by omega
                have z1 : (k : Int) < (l : Int) := by omega
                clear hx hy hfl0 hfl3 hk0 hk3
                by_cases hu : k < lu
                · have hk4 : k < us.length := by rw [HLU.out]; exact hu
                  obtain ⟨ad4, rfl, hc4⟩ := texts_at ((HS4.out.below HBW.out).more HBW.out.size) k hk4
                  have hz := cntT_next us s k hk4
                  generalize us[k] = e4 at *
                  generalize cntT (us.take k) s = nz at *
                  obtain ⟨b4, hb4⟩ : ∃ b, (e4.toList == s.toList) = b := ⟨_, rfl⟩
                  rw [hb4] at hz
                  have fz := flg_le b4
                  have hfl4 := fun w => flag_nat b4 w
                  generalize flg b4 = f4 at *
                  have HF4 := Lib.hid hfl4
                  have HZ := Lib.hid hz
                  have z4 : (k : Int) < (lu : Int) := by omega
                  clear hz hfl4 hk4
                  go_wp2_with fail
                  refine (HF0.out _).mono ?_
                  rintro e w6 ⟨rfl, rfl⟩
                  go_wp2_with fail
                  refine (HF3.out _).mono ?_
                  rintro e w6 ⟨rfl, rfl⟩
                  go_wp2_with fail
                  refine (HF4.out _).mono ?_
                  rintro e w6 ⟨rfl, rfl⟩
                  go_wp2
                  go_roundw
                  case rel => exact ⟨k + 1, by omega, by go_num, by rw [HX.out]; go_num, by rw [HY.out]; go_num, by rw [HZ.out]; go_num, HBW.out⟩
                  case measure => simp [intOf]; omega
                · have hz : cntT (us.take (k + 1)) s = cntT (us.take k) s := by rw [List.take_of_length_le (by rw [HLU.out]; omega), List.take_of_length_le (by rw [HLU.out]; omega)]
                  generalize cntT (us.take k) s = nz at *
                  have HZ := Lib.hid hz
                  have z4 : (lu : Int) ≤ (k : Int) := by omega
                  clear hz
                  go_wp2_with fail
                  refine (HF0.out _).mono ?_
                  rintro e w6 ⟨rfl, rfl⟩
                  go_wp2_with fail
                  refine (HF3.out _).mono ?_
                  rintro e w6 ⟨rfl, rfl⟩
                  go_wp2_with fail
                  refine (flag_no _).mono ?_
                  rintro e w6 ⟨rfl, rfl⟩
                  go_wp2
                  go_roundw
                  case rel => exact ⟨k + 1, by omega, by go_num, by rw [HX.out]; go_num, by rw [HY.out]; go_num, by rw [HZ.out], HBW.out⟩
                  case measure => simp [intOf]; omega
              · have z3 : (l : Int) ≤ (k : Int) := by omega
                have hx : xs.take k = xs := List.take_of_length_le (by rw [HL.out]; omega)
                have hy : ts.take k = ts := List.take_of_length_le (by rw [HTL.out]; omega)
                have hz : us.take k = us := List.take_of_length_le (by rw [HLU.out]; omega)
                rw [hx, hy, hz, HCS.out]
                clear hx hy hz
                have bx := cntT_le xs s xs.length
                rw [List.take_length, HL.out] at bx
                obtain ⟨nx, hnx⟩ : ∃ n, cntT xs s = n := ⟨_, rfl⟩
                obtain ⟨nz, hnz⟩ : ∃ n, cntT us s = n := ⟨_, rfl⟩
                rw [hnx] at bx ⊢
                rw [hnz]
                have HNX := Lib.hid hnx
                have HNZ := Lib.hid hnz
                clear hnx hnz
                have HB7 := Lib.hid (HB6.out.trans (HBW.out.mono HB6.out.size))
                have HA7 := Lib.hid (HA6.out.below HBW.out)
                have HU7 := Lib.hid (HU6.out.below HBW.out)
                clear HS3 HS4 HBW HA6 HU6 HB6
                have hcase : (hasT xs s = true ∧ 0 < nx ∧ nz = 1) ∨ (hasT xs s = false ∧ nx = 0 ∧ nz = 0) := by
                  rcases Classical.em (s ∈ xs) with hm | hm
                  · exact Or.inl ⟨hasT_yes hm, by rw [← HNX.out]; exact cntT_some hm, by rw [← HNZ.out]; exact cntT_strict HUS.out ((HUM.out s).2 hm)⟩
                  · exact Or.inr ⟨hasT_no hm, by rw [← HNX.out]; exact cntT_none hm, by rw [← HNZ.out]; exact cntT_none (fun h => hm ((HUM.out s).1 h))⟩
                rcases hcase with ⟨hh, hpos, rfl⟩ | ⟨hh, rfl, rfl⟩
                · have hp1 : (1 : Int) ≤ (nx : Int) := by omega
                  have hp0 : (0 : Int) < (nx : Int) := by omega
                  go_wp2_with fail
                  refine (first_any _).mono ?_
                  rintro e w8 ⟨rfl, hb8⟩
                  have HB8 := Lib.hid (HB7.out.trans (hb8.mono HB7.out.size))
                  have HA8 := Lib.hid (HA7.out.below hb8)
                  have HU8 := Lib.hid (HU7.out.below hb8)
                  clear hb8
                  go_wp2_with fail
                  all_goals
                    refine (has_any _ xs s _ (H0.out.below HB8.out)).mono ?_
                    rintro e w9 ⟨rfl, rfl⟩
                    rw [hh]
                    go_wp2_with fail
                    refine (sort_any _ ts _ HA8.out (by rw [HTL.out]; omega)).mono ?_
                    rintro e w9 ⟨v9, rfl, ho9, hb9⟩
                    rw [HSS2.out] at ho9
                    have HB9 := Lib.hid (HB8.out.trans (hb9.mono HB8.out.size))
                    have HA9 := Lib.hid (HA8.out.below hb9)
                    have HU9 := Lib.hid (HU8.out.below hb9)
                    have HV9 := Lib.hid ho9.slv
                    clear ho9 hb9
                    go_wp2_with fail
                    refine (texts_same v9 _ ts _ HV9.out HA9.out).mono ?_
                    rintro e w10 ⟨rfl, hb10⟩
                    have HB10 := Lib.hid (HB9.out.trans (hb10.mono HB9.out.size))
                    have HA10 := Lib.hid (HA9.out.below hb10)
                    have HU10 := Lib.hid (HU9.out.below hb10)
                    clear hb10
                    go_wp2_with fail
                    refine (uniq_any _ ts _ HA10.out (by rw [HTL.out]; omega)).mono ?_
                    rintro e w11 ⟨v11, rfl, ho11, hb11⟩
                    rw [HUU.out] at ho11
                    have HB11 := Lib.hid (HB10.out.trans (hb11.mono HB10.out.size))
                    have HU11 := Lib.hid (HU10.out.below hb11)
                    have HV11 := Lib.hid ho11.slv
                    clear ho11 hb11
                    go_wp2_with fail
                    refine (texts_same v11 _ us _ HV11.out HU11.out).mono ?_
                    rintro e w12 ⟨rfl, hb12⟩
                    have HB12 := Lib.hid (HB11.out.trans (hb12.mono HB11.out.size))
                    clear hb12
                    go_wp2
                    go_ret
                    exact ⟨rfl, HB12.out⟩
                · skip
                  go_wp2_with fail
                  refine (first_any _).mono ?_
                  rintro e w8 ⟨rfl, hb8⟩
                  have HB8 := Lib.hid (HB7.out.trans (hb8.mono HB7.out.size))
                  have HA8 := Lib.hid (HA7.out.below hb8)
                  have HU8 := Lib.hid (HU7.out.below hb8)
                  clear hb8
                  go_wp2_with fail
                  all_goals
                    refine (has_any _ xs s _ (H0.out.below HB8.out)).mono ?_
                    rintro e w9 ⟨rfl, rfl⟩
                    rw [hh]
                    go_wp2_with fail
                    refine (sort_any _ ts _ HA8.out (by rw [HTL.out]; omega)).mono ?_
                    rintro e w9 ⟨v9, rfl, ho9, hb9⟩
                    rw [HSS2.out] at ho9
                    have HB9 := Lib.hid (HB8.out.trans (hb9.mono HB8.out.size))
                    have HA9 := Lib.hid (HA8.out.below hb9)
                    have HU9 := Lib.hid (HU8.out.below hb9)
                    have HV9 := Lib.hid ho9.slv
                    clear ho9 hb9
                    go_wp2_with fail
                    refine (texts_same v9 _ ts _ HV9.out HA9.out).mono ?_
                    rintro e w10 ⟨rfl, hb10⟩
                    have HB10 := Lib.hid (HB9.out.trans (hb10.mono HB9.out.size))
                    have HA10 := Lib.hid (HA9.out.below hb10)
                    have HU10 := Lib.hid (HU9.out.below hb10)
                    clear hb10
                    go_wp2_with fail
                    refine (uniq_any _ ts _ HA10.out (by rw [HTL.out]; omega)).mono ?_
                    rintro e w11 ⟨v11, rfl, ho11, hb11⟩
                    rw [HUU.out] at ho11
                    have HB11 := Lib.hid (HB10.out.trans (hb11.mono HB10.out.size))
                    have HU11 := Lib.hid (HU10.out.below hb11)
                    have HV11 := Lib.hid ho11.slv
                    clear ho11 hb11
                    go_wp2_with fail
                    refine (texts_same v11 _ us _ HV11.out HU11.out).mono ?_
                    rintro e w12 ⟨rfl, hb12⟩
                    have HB12 := Lib.hid (HB11.out.trans (hb12.mono HB11.out.size))
                    clear hb12
                    go_wp2
                    go_ret
                    exact ⟨rfl, HB12.out⟩

theorem wireOrder_walk (a0 : Option Addr) (len0 cap0 : Nat) (z0 : List ByteArray) (a1 : ByteArray) (w : World) (w0 : IsTexts w a0 len0 cap0 z0) (_ : a1.size ≤ maxLen) :
    Calls Try.prog 7 #[.slice a0 len0 cap0, .string a1] w (Yes w) := by
  obtain ⟨xs, _, h0, s0⟩ := w0.slv
  exact order_any _ xs a1 w h0 s0
end Go.Proofs.Ythopfbkkjfnhkaa
