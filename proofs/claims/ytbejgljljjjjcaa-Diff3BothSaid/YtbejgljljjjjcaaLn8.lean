/- Chapter 14: the table that is filled from the back, the program's. -/
import Derived.Test.YtbejgljljjjjcaaLn7
set_option linter.unusedVariables false
set_option linter.unusedSimpArgs false
namespace Go.Proofs.Ytbejgljljjjjcaa.Ln
open Go.RowKit Go.Proofs.Ytbejgljljjjjcaa.Sh Go.Proofs.Ytbejgljljjjjcaa.Tx

theorem texts_cell {w : World} {A : Option Addr} {n c : Nat} {xs : List ByteArray} (h : SlV w (.slice A n c) (xs.map sv)) (k : Nat) (x : ByteArray) (hk : xs[k]? = some x) : ∃ ad, A = some ad ∧ w.cell? (ad.add k) = some (.string x) := by
  obtain ⟨A', c', he, _, _, hR⟩ := h.len
  injection he with e1 e2 e3
  subst e1
  rw [List.length_map] at hR
  exact reads_at hR k _ (by rw [List.getElem?_map, hk]; rfl)
theorem lenL_le {α : Type} [DecidableEq α] : ∀ (n : Nat) (a b : List α), a.length + b.length ≤ n → lenL a b ≤ a.length
  | n, [], b, _ => by rw [lenL_nil]; exact Nat.zero_le _
  | n, x :: a, [], _ => by rw [lenL_nil']; exact Nat.zero_le _
  | 0, x :: a, y :: b, h => by simp at h
  | n + 1, x :: a, y :: b, h => by
    rw [List.length_cons, List.length_cons] at h
    rw [lenL_cons, List.length_cons]
    have h1 := lenL_le n a b (by omega)
    have h2 := lenL_le n a (y :: b) (by rw [List.length_cons]; omega)
    have h3 := lenL_le n (x :: a) b (by rw [List.length_cons]; omega)
    rw [List.length_cons] at h3
    split <;> omega
set_option maxRecDepth 100000 in
set_option maxHeartbeats 3200000 in
theorem table_any (v1 v2 : Value) (a b : List ByteArray) (w : World) (h1 : SlV w v1 (a.map sv)) (h2 : SlV w v2 (b.map sv)) (ha : a.length ≤ 200) (hb : b.length ≤ 200) :
    Calls Try.prog 36 #[v1, v2] w (TabPost w a b) := by
  obtain ⟨A1, c1, rfl, hl1, hm1, _⟩ := h1.len
  obtain ⟨A2, c2, rfl, hl2, hm2, _⟩ := h2.len
  rw [List.length_map] at h1 h2 hl1 hl2 ⊢
  rw [List.length_map]
  have H1 := Lib.hid h1
  have H2 := Lib.hid h2
  unfold maxLen at hm1 hm2
  unfold TabPost
  obtain ⟨n, hn⟩ : ∃ n, a.length = n := ⟨_, rfl⟩
  obtain ⟨m, hm⟩ : ∃ m, b.length = m := ⟨_, rfl⟩
  rw [hn] at H1 hl1 ha ⊢
  rw [hm] at H2 hl2 hb ⊢
  have HN := Lib.hid hn
  have HM := Lib.hid hm
  clear h1 h2 hn hm
  have k2 : ∀ W, (Instr.makeSlice 60 (.int .i64 ((m : Int) + 1)) (.int .i64 ((m : Int) + 1))).run Try.prog W = .ok (.slice (some ⟨W.heap.size, 0, none⟩) (m + 1) (m + 1)) (W.alloc (.cells (madeCells #[.int .i64 0] (m + 1)) 3)) := fun W => make_ints (m + 1) (by omega) W
  have HK2 := Lib.hid k2
  have k1 := make_rows (n + 1) (by omega) w
  have hmat := Mat.made w w n m (Below.refl _ _)
  obtain ⟨g, hg⟩ : ∃ g, w.heap.size = g := ⟨_, rfl⟩
  obtain ⟨w1, hw1⟩ : ∃ W, w.alloc (.cells (madeCells #[.slice none 0 0] (n + 1)) 60) = W := ⟨_, rfl⟩
  rw [hg, hw1] at k1 hmat
  rw [show (((n + 1 : Nat) : Int)) = (n : Int) + 1 by omega] at k1
  have k3 := k2 w1
  have hmat2 := tab_row (a := a) (b := b) HN.out HM.out (hmat.congr (F' := tabF a b (n + 1) 0) (fun i k h1 h2 h3 => by omega)) (Nat.le_refl n)
  obtain ⟨u0, e0⟩ := (hmat.alloc (.cells (madeCells #[.int .i64 0] (m + 1)) 3)).some_ n (Nat.le_refl n)
  have f0 := (hmat.alloc (.cells (madeCells #[.int .i64 0] (m + 1)) 3)).frozen n
  obtain ⟨w2, hw2⟩ : ∃ W, w1.alloc (.cells (madeCells #[.int .i64 0] (m + 1)) 3) = W := ⟨_, rfl⟩
  obtain ⟨q, hq⟩ : ∃ q, w1.heap.size = q := ⟨_, rfl⟩
  rw [hw2] at e0 f0 k3 hmat2
  rw [hq] at k3 hmat2
  have HMAT : Hid (∃ r', Mat w (w2.setCell ⟨g, n, none⟩ (.slice (some ⟨q, 0, none⟩) (m + 1) (m + 1))) g n m n r' (tabF a b n 0)) := by
    obtain ⟨r', h⟩ := hmat2
    exact ⟨r', tab_last HN.out h⟩
  clear hmat hmat2 hw1 hw2 hq hg k2
  go_enter Try.func36, Try.ntmps36
  go_wp2_with fail
  go_loopw [6] (fun x wr => ∃ (k : Nat) (r : Nat → Nat), k ≤ n ∧ x = .int .i64 ((k : Int) - 1) ∧ Mat w wr g n m k r (tabF a b k 0)) (fun x _ => (intOf x + 1).toNat)
  case atStart => obtain ⟨r', h⟩ := HMAT.out; exact ⟨n, r', Nat.le_refl _, rfl, h⟩
  case round =>
    clear HMAT k1 k3 e0 f0
    obtain ⟨k, r, hk, rfl, hmat⟩ := hrel
    by_cases h0 : k = 0
    · subst h0
      have HMAT := Lib.hid hmat
      clear hmat
      go_wp2_with fail
      go_ret
      exact ⟨g, r, rfl, HMAT.out⟩
    · obtain ⟨i, rfl⟩ : ∃ i, k = i + 1 := ⟨k - 1, by omega⟩
      rw [show (((i + 1 : Nat) : Int) - 1) = (i : Int) by omega]
      have z0 : (0 : Int) ≤ (i : Int) := by omega
      have z1 : (i : Int) < (n : Int) := by omega
      have hil : i < a.length := by rw [HN.out]; omega
      obtain ⟨x, hx⟩ : ∃ x, a[i]? = some x := ⟨_, List.getElem?_eq_getElem hil⟩
      have HX := Lib.hid hx
      have k3 := HK2.out wr
      have hmat2 := tab_row (a := a) (b := b) HN.out HM.out hmat (by omega)
      obtain ⟨u0, e0⟩ := (hmat.alloc (.cells (madeCells #[.int .i64 0] (m + 1)) 3)).some_ i (by omega)
      have f0 := (hmat.alloc (.cells (madeCells #[.int .i64 0] (m + 1)) 3)).frozen i
      obtain ⟨w2, hw2⟩ : ∃ W, wr.alloc (.cells (madeCells #[.int .i64 0] (m + 1)) 3) = W := ⟨_, rfl⟩
      obtain ⟨q, hq⟩ : ∃ q, wr.heap.size = q := ⟨_, rfl⟩
      rw [hw2] at e0 f0 k3 hmat2
      rw [hq] at k3 hmat2
      have HMAT := Lib.hid hmat2
      clear hmat hmat2 hw2 hq hx hil
      go_wp2_with fail
      go_loopw [7] (fun y wx => ∃ (j : Nat) (r : Nat → Nat), j ≤ m ∧ y = .int .i64 ((j : Int) - 1) ∧ Mat w wx g n m i r (tabF a b i j)) (fun y _ => (intOf y + 1).toNat)
      case atStart => obtain ⟨r', h⟩ := HMAT.out; exact ⟨m, r', Nat.le_refl _, rfl, h⟩
      case round =>
        clear HMAT k3 e0 f0
        obtain ⟨j', r, hj, rfl, hmat⟩ := hrel
        by_cases h0 : j' = 0
        · subst h0
          have HMAT := Lib.hid hmat
          clear hmat
          go_wp2_with fail
          go_roundw
          case rel => exact ⟨i, r, by omega, by go_num, HMAT.out⟩
          case measure => simp [intOf]
        · obtain ⟨j, rfl⟩ : ∃ i, j' = i + 1 := ⟨j' - 1, by omega⟩
          rw [show (((j + 1 : Nat) : Int) - 1) = (j : Int) by omega]
          have y0 : (0 : Int) ≤ (j : Int) := by omega
          have y1 : (j : Int) < (m : Int) := by omega
          have hjl : j < b.length := by rw [HM.out]; omega
          obtain ⟨y, hy⟩ : ∃ y, b[j]? = some y := ⟨_, List.getElem?_eq_getElem hjl⟩
          obtain ⟨ad1, rfl, x1⟩ := texts_cell (H1.out.below hmat.bel) i x HX.out
          obtain ⟨ad2, rfl, x2⟩ := texts_cell (H2.out.below hmat.bel) j y hy
          have s0 := hmat.cell i (Nat.le_refl _) (by omega)
          have s1 := hmat.cell (i + 1) (by omega) (by omega)
          have s2 := (hmat.row i (Nat.le_refl _) (by omega)).cell j (by omega)
          have s3 := (hmat.row i (Nat.le_refl _) (by omega)).cell (j + 1) (by omega)
          have s4 := (hmat.row (i + 1) (by omega) (by omega)).cell j (by omega)
          have s5 := (hmat.row (i + 1) (by omega) (by omega)).cell (j + 1) (by omega)
          have s6 := (hmat.row i (Nat.le_refl _) (by omega)).frozen j
          have hil : i < a.length := by rw [HN.out]; omega
          have t3 : tabF a b i (j + 1) i (j + 1) = lenL (a.drop i) (b.drop (j + 1)) := by unfold tabF; rw [if_neg (fun h => by omega)]
          have t4 : tabF a b i (j + 1) (i + 1) j = lenL (a.drop (i + 1)) (b.drop j) := by unfold tabF; rw [if_neg (fun h => by omega)]
          have t5 : tabF a b i (j + 1) (i + 1) (j + 1) = lenL (a.drop (i + 1)) (b.drop (j + 1)) := by unfold tabF; rw [if_neg (fun h => by omega)]
          rw [t3] at s3
          rw [t4] at s4
          rw [t5] at s5
          have hst := table_step a b i j hil hjl
          rw [show a[i] = x by have := HX.out; rw [List.getElem?_eq_getElem hil] at this; injection this, show b[j] = y by rw [List.getElem?_eq_getElem hjl] at hy; injection hy] at hst
          have l5 : lenL (a.drop (i + 1)) (b.drop (j + 1)) ≤ 200 := by have := lenL_le _ (a.drop (i + 1)) (b.drop (j + 1)) (Nat.le_refl _); rw [List.length_drop, HN.out] at this; omega
          obtain ⟨v3, e3⟩ : ∃ v, lenL (a.drop i) (b.drop (j + 1)) = v := ⟨_, rfl⟩
          obtain ⟨v4, e4⟩ : ∃ v, lenL (a.drop (i + 1)) (b.drop j) = v := ⟨_, rfl⟩
          obtain ⟨v5, e5⟩ : ∃ v, lenL (a.drop (i + 1)) (b.drop (j + 1)) = v := ⟨_, rfl⟩
          rw [e3] at s3 hst
          rw [e4] at s4 hst
          rw [e5] at s5 hst l5
          have HST := Lib.hid hst
          have HMAT := Lib.hid hmat
          clear hst hmat hil hjl t3 t4 t5 e3 e4 e5 hy
          by_cases he : x = y
          · subst he
            have HV := Lib.hid ((HST.out.trans (if_pos rfl)).symm)
            go_wp2_with fail
            go_quiet (fail)
            go_wp2_with fail
            go_region
            all_goals
              go_wp2_with fail
              go_roundw
              case rel => exact ⟨j, r, by omega, by go_num, by have h := tab_set (HMAT.out.drewN (nq + 1)) (by omega) HV.out; rwa [show ((v5 + 1 : Nat) : Int) = (v5 : Int) + 1 by omega] at h⟩
              case measure => simp [intOf]
          · have HV := Lib.hid ((HST.out.trans (if_neg he)).symm)
            have hne := toList_ne he
            go_wp2_with fail
            go_quiet (fail)
            go_wp2_with fail
            go_region
            all_goals
              go_wp2_with fail
              go_roundw
              case rel => exact ⟨j, r, by omega, by go_num, by have h := tab_set (HMAT.out.drewN (nq + 1)) (by omega) HV.out; rwa [show ((max v4 v3 : Nat) : Int) = if v4 < v3 then (v3 : Int) else (v4 : Int) by split <;> omega] at h⟩
              case measure => simp [intOf]
end Go.Proofs.Ytbejgljljjjjcaa.Ln
