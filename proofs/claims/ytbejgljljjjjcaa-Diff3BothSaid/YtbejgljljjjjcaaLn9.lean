/- Chapter 14: the table that is filled from the back, the document's. -/
import Derived.Test.YtbejgljljjjjcaaLn8
set_option linter.unusedVariables false
set_option linter.unusedSimpArgs false
namespace Go.Proofs.Ytbejgljljjjjcaa.Ln
open Go.RowKit Go.Proofs.Ytbejgljljjjjcaa.Sh Go.Proofs.Ytbejgljljjjjcaa.Tx

theorem tab_set2 {a b : List ByteArray} {n m i j v u : Nat} {w0 w : World} {g : Nat} {r : Nat → Nat} (h : Mat w0 w g n m i r (fun q k => if q = i then (if k = j then u else tabF a b i (j + 1) i k) else tabF a b i (j + 1) q k)) (hi : i ≤ n) (hv : v = lenL (a.drop i) (b.drop j)) : Mat w0 (w.setCell ⟨r i, j, none⟩ (.int .i64 (v : Int))) g n m i r (tabF a b i j) :=
  (h.set i j v (Nat.le_refl _) hi).congr fun q k h1 h2 h3 => by
    unfold tabF
    by_cases e : q = i
    · subst e
      rw [if_pos rfl]
      by_cases e2 : k = j
      · subst e2
        rw [if_pos rfl, if_neg (show ¬ (q = q ∧ k < k) from fun h => by omega), hv]
      · rw [if_neg e2, if_pos rfl, if_neg e2]
        by_cases h4 : k < j
        · rw [if_pos (show q = q ∧ k < j + 1 from ⟨rfl, by omega⟩), if_pos (show q = q ∧ k < j from ⟨rfl, h4⟩)]
        · rw [if_neg (show ¬ (q = q ∧ k < j + 1) from fun h => by omega), if_neg (show ¬ (q = q ∧ k < j) from fun h => h4 h.2)]
    · rw [if_neg e, if_neg e, if_neg (show ¬ (q = i ∧ k < j + 1) from fun h => e h.1), if_neg (show ¬ (q = i ∧ k < j) from fun h => e h.1)]
theorem tab_set1 {a b : List ByteArray} {n m i j v : Nat} {w0 w : World} {g : Nat} {r : Nat → Nat} (h : Mat w0 w g n m i r (fun q k => if q = i then (if k = j then v else tabF a b i (j + 1) i k) else tabF a b i (j + 1) q k)) (hi : i ≤ n) (hv : v = lenL (a.drop i) (b.drop j)) : Mat w0 w g n m i r (tabF a b i j) :=
  h.congr fun q k h1 h2 h3 => by
    unfold tabF
    by_cases e : q = i
    · subst e
      rw [if_pos rfl]
      by_cases e2 : k = j
      · subst e2
        rw [if_pos rfl, if_neg (show ¬ (q = q ∧ k < k) from fun h => by omega), hv]
      · rw [if_neg e2]
        by_cases h4 : k < j
        · rw [if_pos (show q = q ∧ k < j + 1 from ⟨rfl, by omega⟩), if_pos (show q = q ∧ k < j from ⟨rfl, h4⟩)]
        · rw [if_neg (show ¬ (q = q ∧ k < j + 1) from fun h => by omega), if_neg (show ¬ (q = q ∧ k < j) from fun h => h4 h.2)]
    · rw [if_neg e, if_neg (show ¬ (q = i ∧ k < j + 1) from fun h => e h.1), if_neg (show ¬ (q = i ∧ k < j) from fun h => e h.1)]
set_option maxRecDepth 100000 in
set_option maxHeartbeats 3200000 in
theorem rtable_any (v1 v2 : Value) (a b : List ByteArray) (w : World) (h1 : SlV w v1 (a.map sv)) (h2 : SlV w v2 (b.map sv)) (ha : a.length ≤ 200) (hb : b.length ≤ 200) :
    Calls Try.prog 38 #[v1, v2] w (TabPost w a b) := by
  obtain ⟨A1, c1, rfl, hl1, hm1, _⟩ := h1.len
  obtain ⟨A2, c2, rfl, hl2, hm2, _⟩ := h2.len
  rw [List.length_map] at h1 h2 hl1 hl2 ⊢
  rw [List.length_map]
  have H1 := Lib.hid h1
  have H2 := Lib.hid h2
  unfold maxLen at hm1 hm2
  unfold TabPost
  obtain ⟨n, hn⟩ : ∃ n, a.length = n := ⟨_, rfl⟩
  obtain ⟨m, hm⟩ : ∃ m, b.length = m := ⟨_, rfl⟩
  rw [hn] at H1 hl1 ha ⊢
  rw [hm] at H2 hl2 hb ⊢
  have HN := Lib.hid hn
  have HM := Lib.hid hm
  clear h1 h2 hn hm
  have k2 : ∀ W, (Instr.makeSlice 60 (.int .i64 ((m : Int) + 1)) (.int .i64 ((m : Int) + 1))).run Try.prog W = .ok (.slice (some ⟨W.heap.size, 0, none⟩) (m + 1) (m + 1)) (W.alloc (.cells (madeCells #[.int .i64 0] (m + 1)) 3)) := fun W => make_ints (m + 1) (by omega) W
  have HK2 := Lib.hid k2
  have k1 := make_rows (n + 1) (by omega) w
  have hmat := Mat.made w w n m (Below.refl _ _)
  obtain ⟨g, hg⟩ : ∃ g, w.heap.size = g := ⟨_, rfl⟩
  obtain ⟨w1, hw1⟩ : ∃ W, w.alloc (.cells (madeCells #[.slice none 0 0] (n + 1)) 60) = W := ⟨_, rfl⟩
  rw [hg, hw1] at k1 hmat
  rw [show (((n + 1 : Nat) : Int)) = (n : Int) + 1 by omega] at k1
  have HMAT : Hid (Mat w w1 g n m (n + 1) (fun _ => 0) (tabF a b (n + 1) 0)) := hmat.congr (fun i k h1 h2 h3 => by omega)
  clear hmat hw1 hg k2
  go_enter Try.func38, Try.ntmps38
  go_wp2_with fail
  go_loopw [6] (fun x wr => ∃ (k : Nat) (r : Nat → Nat), k ≤ n + 1 ∧ x = .int .i64 ((k : Int) - 1) ∧ Mat w wr g n m k r (tabF a b k 0)) (fun x _ => (intOf x + 1).toNat)
  case atStart => exact ⟨n + 1, _, Nat.le_refl _, by go_num, HMAT.out⟩
  case round =>
    clear HMAT k1
    obtain ⟨k, r, hk, rfl, hmat⟩ := hrel
    by_cases h0 : k = 0
    · subst h0
      have HMAT := Lib.hid hmat
      clear hmat
      go_wp2_with fail
      go_ret
      exact ⟨g, r, rfl, HMAT.out⟩
    · obtain ⟨i, rfl⟩ : ∃ i, k = i + 1 := ⟨k - 1, by omega⟩
      rw [show (((i + 1 : Nat) : Int) - 1) = (i : Int) by omega]
      have z0 : (0 : Int) ≤ (i : Int) := by omega
      have z1 : (i : Int) ≤ (n : Int) := by omega
      have k3 := HK2.out wr
      have hmat2 := tab_row (a := a) (b := b) HN.out HM.out hmat (by omega)
      obtain ⟨u0, e0⟩ := (hmat.alloc (.cells (madeCells #[.int .i64 0] (m + 1)) 3)).some_ i (by omega)
      have f0 := (hmat.alloc (.cells (madeCells #[.int .i64 0] (m + 1)) 3)).frozen i
      obtain ⟨w2, hw2⟩ : ∃ W, wr.alloc (.cells (madeCells #[.int .i64 0] (m + 1)) 3) = W := ⟨_, rfl⟩
      obtain ⟨q, hq⟩ : ∃ q, wr.heap.size = q := ⟨_, rfl⟩
      rw [hw2] at e0 f0 k3 hmat2
      rw [hq] at k3 hmat2
      have HMAT := Lib.hid hmat2
      clear hmat hmat2 hw2 hq
      go_wp2_with fail
      go_loopw [7] (fun y wx => ∃ (j : Nat) (r : Nat → Nat), j ≤ m ∧ (i = n → j = m) ∧ y = .int .i64 ((j : Int) - 1) ∧ Mat w wx g n m i r (tabF a b i j)) (fun y _ => (intOf y + 1).toNat)
      case atStart => obtain ⟨r', h⟩ := HMAT.out; exact ⟨m, r', Nat.le_refl _, fun _ => rfl, rfl, h⟩
      case round =>
        clear HMAT k3 e0 f0
        obtain ⟨j', r, hj, hjm, rfl, hmat⟩ := hrel
        by_cases hin : i < n
        · have z2 : (i : Int) < (n : Int) := by omega
          by_cases h0 : j' = 0
          · subst h0
            have HMAT := Lib.hid hmat
            clear hmat
            go_wp2_with fail
            go_roundw
            case rel => exact ⟨i, r, by omega, by go_num, HMAT.out⟩
            case measure => simp [intOf]
          · obtain ⟨j, rfl⟩ : ∃ i, j' = i + 1 := ⟨j' - 1, by omega⟩
            rw [show (((j + 1 : Nat) : Int) - 1) = (j : Int) by omega]
            have y0 : (0 : Int) ≤ (j : Int) := by omega
            have y1 : (j : Int) < (m : Int) := by omega
            have hjl : j < b.length := by rw [HM.out]; omega
            obtain ⟨y, hy⟩ : ∃ y, b[j]? = some y := ⟨_, List.getElem?_eq_getElem hjl⟩
            have hil : i < a.length := by rw [HN.out]; omega
            obtain ⟨x, hx⟩ : ∃ x, a[i]? = some x := ⟨_, List.getElem?_eq_getElem hil⟩
            have HX := Lib.hid hx
            obtain ⟨ad1, rfl, x1⟩ := texts_cell (H1.out.below hmat.bel) i x HX.out
            obtain ⟨ad2, rfl, x2⟩ := texts_cell (H2.out.below hmat.bel) j y hy
            have s0 := hmat.cell i (Nat.le_refl _) (by omega)
            have s1 := hmat.cell (i + 1) (by omega) (by omega)
            have s2 := (hmat.row i (Nat.le_refl _) (by omega)).cell j (by omega)
            have s3 := (hmat.row i (Nat.le_refl _) (by omega)).cell (j + 1) (by omega)
            have s4 := (hmat.row (i + 1) (by omega) (by omega)).cell j (by omega)
            have s5 := (hmat.row (i + 1) (by omega) (by omega)).cell (j + 1) (by omega)
            have s6 := (hmat.row i (Nat.le_refl _) (by omega)).frozen j
            have t3 : tabF a b i (j + 1) i (j + 1) = lenL (a.drop i) (b.drop (j + 1)) := by unfold tabF; rw [if_neg (fun h => by omega)]
            have t4 : tabF a b i (j + 1) (i + 1) j = lenL (a.drop (i + 1)) (b.drop j) := by unfold tabF; rw [if_neg (fun h => by omega)]
            have t5 : tabF a b i (j + 1) (i + 1) (j + 1) = lenL (a.drop (i + 1)) (b.drop (j + 1)) := by unfold tabF; rw [if_neg (fun h => by omega)]
            rw [t3] at s3
            rw [t4] at s4
            rw [t5] at s5
            have hst := table_step a b i j hil hjl
            rw [show a[i] = x by have := HX.out; rw [List.getElem?_eq_getElem hil] at this; injection this, show b[j] = y by rw [List.getElem?_eq_getElem hjl] at hy; injection hy] at hst
            have l5 : lenL (a.drop (i + 1)) (b.drop (j + 1)) ≤ 200 := by have := lenL_le _ (a.drop (i + 1)) (b.drop (j + 1)) (Nat.le_refl _); rw [List.length_drop, HN.out] at this; omega
            obtain ⟨v3, e3⟩ : ∃ v, lenL (a.drop i) (b.drop (j + 1)) = v := ⟨_, rfl⟩
            obtain ⟨v4, e4⟩ : ∃ v, lenL (a.drop (i + 1)) (b.drop j) = v := ⟨_, rfl⟩
            obtain ⟨v5, e5⟩ : ∃ v, lenL (a.drop (i + 1)) (b.drop (j + 1)) = v := ⟨_, rfl⟩
            rw [e3] at s3 hst
            rw [e4] at s4 hst
            rw [e5] at s5 hst l5
            have HMAT := Lib.hid hmat
            have HY := Lib.hid hy
            have hv45 := hst
            have T5 : Hid (tabF a b i (j + 1) (i + 1) (j + 1) = v5) := t5.trans e5
            clear hst hmat hil hjl t3 t4 t5 e3 e4 e5 hy hx
            have HV := Lib.hid hv45
            clear hv45
            by_cases hlt : v4 < v3
            · rw [show max v4 v3 = v3 by omega] at HV
              go_wp2_with fail
              go_region
              all_goals
                go_wp2_with fail
                have hm1 := (HMAT.out.set i j v3 (Nat.le_refl _) (by omega)).drew
                generalize World.drew (World.setCell wr ⟨r i, j, none⟩ (.int .i64 (v3 : Int))) = wn at hm1 ⊢
                have y1 := (H1.out.below hm1.bel)
                have y2 := (H2.out.below hm1.bel)
                obtain ⟨_, ea1, x1⟩ := texts_cell y1 i x HX.out
                injection ea1 with ea1
                subst ea1
                obtain ⟨_, ea2, x2⟩ := texts_cell y2 j y HY.out
                injection ea2 with ea2
                subst ea2
                have s0 := hm1.cell i (Nat.le_refl _) (by omega)
                have s1 := hm1.cell (i + 1) (by omega) (by omega)
                have s2 := (hm1.row i (Nat.le_refl _) (by omega)).cell j (by omega)
                have s5 := (hm1.row (i + 1) (by omega) (by omega)).cell (j + 1) (by omega)
                have s6 := (hm1.row i (Nat.le_refl _) (by omega)).frozen j
                rw [if_neg (show ¬ i + 1 = i by omega), T5.out] at s5
                have HM1 := Lib.hid hm1
                clear hm1 y1 y2
                by_cases he : x = y
                · subst he
                  have HV1 := Lib.hid ((HV.out.trans (if_pos rfl)).symm)
                  go_quiet (fail)
                  go_wp2_with fail
                  go_region
                  all_goals
                    go_wp2_with fail
                    go_roundw
                    case rel => exact ⟨j, r, by omega, fun h => by omega, by go_num, (by rw [show (v5 : Int) + 1 = ((v5 + 1 : Nat) : Int) by omega]; exact tab_set2 (HM1.out.drewN (nq + 1)) (by omega) HV1.out)⟩
                    case measure => simp [intOf]
                · have HV1 := Lib.hid ((HV.out.trans (if_neg he)).symm)
                  have hne := toList_ne he
                  go_quiet (fail)
                  go_wp2_with fail
                  go_roundw
                  case rel => exact ⟨j, r, by omega, fun h => by omega, by go_num, (tab_set1 HM1.out (by omega) HV1.out).drewN _⟩
                  case measure => simp [intOf]
            · rw [show max v4 v3 = v4 by omega] at HV
              go_wp2_with fail
              go_region
              all_goals
                go_wp2_with fail
                have hm1 := (HMAT.out.set i j v4 (Nat.le_refl _) (by omega)).drew
                generalize World.drew (World.setCell wr ⟨r i, j, none⟩ (.int .i64 (v4 : Int))) = wn at hm1 ⊢
                have y1 := (H1.out.below hm1.bel)
                have y2 := (H2.out.below hm1.bel)
                obtain ⟨_, ea1, x1⟩ := texts_cell y1 i x HX.out
                injection ea1 with ea1
                subst ea1
                obtain ⟨_, ea2, x2⟩ := texts_cell y2 j y HY.out
                injection ea2 with ea2
                subst ea2
                have s0 := hm1.cell i (Nat.le_refl _) (by omega)
                have s1 := hm1.cell (i + 1) (by omega) (by omega)
                have s2 := (hm1.row i (Nat.le_refl _) (by omega)).cell j (by omega)
                have s5 := (hm1.row (i + 1) (by omega) (by omega)).cell (j + 1) (by omega)
                have s6 := (hm1.row i (Nat.le_refl _) (by omega)).frozen j
                rw [if_neg (show ¬ i + 1 = i by omega), T5.out] at s5
                have HM1 := Lib.hid hm1
                clear hm1 y1 y2
                by_cases he : x = y
                · subst he
                  have HV1 := Lib.hid ((HV.out.trans (if_pos rfl)).symm)
                  go_quiet (fail)
                  go_wp2_with fail
                  go_region
                  all_goals
                    go_wp2_with fail
                    go_roundw
                    case rel => exact ⟨j, r, by omega, fun h => by omega, by go_num, (by rw [show (v5 : Int) + 1 = ((v5 + 1 : Nat) : Int) by omega]; exact tab_set2 (HM1.out.drewN (nq + 1)) (by omega) HV1.out)⟩
                    case measure => simp [intOf]
                · have HV1 := Lib.hid ((HV.out.trans (if_neg he)).symm)
                  have hne := toList_ne he
                  go_quiet (fail)
                  go_wp2_with fail
                  go_roundw
                  case rel => exact ⟨j, r, by omega, fun h => by omega, by go_num, (tab_set1 HM1.out (by omega) HV1.out).drewN _⟩
                  case measure => simp [intOf]
        · obtain rfl : i = n := by omega
          obtain rfl := hjm rfl
          have z2 : ¬ (i : Int) < (i : Int) := by omega
          have HMAT := Lib.hid (tab_last HN.out hmat)
          clear hmat
          by_cases h0 : j' = 0
          · subst h0
            go_wp2_with fail
            go_roundw
            case rel => exact ⟨i, r, by omega, by go_num, HMAT.out⟩
            case measure => simp [intOf]
          · have z3 : (0 : Int) ≤ (j' : Int) - 1 := by omega
            go_wp2_with fail
            go_roundw
            case rel => exact ⟨i, r, by omega, by go_num, HMAT.out⟩
            case measure => simp [intOf]
end Go.Proofs.Ytbejgljljjjjcaa.Ln
