/- Package lines, as plain data: what two lists have in common. (No Go in it.) -/
import Derived.Test.YtbejgljljjjjcaaTx0
set_option linter.unusedVariables false
set_option linter.unusedSimpArgs false
namespace Go.Proofs.Ytbejgljljjjjcaa.Ln

variable {α : Type} [DecidableEq α]
/-- The length of a longest common subsequence. -/
def lenL : List α → List α → Nat
  | [], _ => 0
  | _ :: _, [] => 0
  | x :: a, y :: b => if x = y then lenL a b + 1 else max (lenL a (y :: b)) (lenL (x :: a) b)
termination_by a b => a.length + b.length
theorem lenL_nil (b : List α) : lenL ([] : List α) b = 0 := by rw [lenL]
theorem lenL_nil' (a : List α) : lenL a [] = 0 := by cases a <;> rw [lenL]
theorem lenL_cons (x y : α) (a b : List α) : lenL (x :: a) (y :: b) = if x = y then lenL a b + 1 else max (lenL a (y :: b)) (lenL (x :: a) b) := by rw [lenL]
/-- A line ahead makes it no shorter, and by one at most longer. -/
theorem lenL_step : ∀ (n : Nat) (a b : List α), a.length + b.length ≤ n → (∀ x, lenL a b ≤ lenL (x :: a) b ∧ lenL (x :: a) b ≤ lenL a b + 1) ∧ ∀ y, lenL a b ≤ lenL a (y :: b) ∧ lenL a (y :: b) ≤ lenL a b + 1
  | 0, a, b, h => by
    have ha : a = [] := List.eq_nil_of_length_eq_zero (by omega)
    have hb : b = [] := List.eq_nil_of_length_eq_zero (by omega)
    subst ha hb
    exact ⟨fun x => by rw [lenL_nil', lenL_nil']; omega, fun y => by rw [lenL_nil, lenL_nil]; omega⟩
  | n + 1, a, b, h => by
    refine ⟨fun x => ?_, fun y => ?_⟩
    · cases b with
      | nil => rw [lenL_nil', lenL_nil']; omega
      | cons y b =>
        rw [lenL_cons]
        rw [List.length_cons] at h
        have h1 := (lenL_step n a b (by omega)).2 y
        have h2 := (lenL_step n a b (by omega)).1 x
        split
        · omega
        · omega
    · cases a with
      | nil => rw [lenL_nil, lenL_nil]; omega
      | cons x a =>
        rw [lenL_cons]
        rw [List.length_cons] at h
        have h1 := (lenL_step n a b (by omega)).1 x
        have h2 := (lenL_step n a b (by omega)).2 y
        split
        · omega
        · omega
/-- None is longer. -/
theorem sub_le : ∀ (n : Nat) {s a b : List α}, a.length + b.length ≤ n → s.Sublist a → s.Sublist b → s.length ≤ lenL a b
  | n, s, [], b, _, ha, _ => by rw [List.sublist_nil.1 ha]; exact Nat.zero_le _
  | n, s, x :: a, [], _, _, hb => by rw [List.sublist_nil.1 hb]; exact Nat.zero_le _
  | 0, s, x :: a, y :: b, h, _, _ => by simp at h
  | n + 1, s, x :: a, y :: b, h, ha, hb => by
    rw [List.length_cons, List.length_cons] at h
    rw [lenL_cons]
    split
    · cases s with
      | nil => exact Nat.zero_le _
      | cons z s =>
        have h1 := sub_le n (a := a) (b := b) (by omega) ha.of_cons_cons hb.of_cons_cons
        rw [List.length_cons]
        omega
    · rename_i hxy
      rcases List.sublist_cons_iff.1 ha with h1 | ⟨r, rfl, h1⟩
      · have h2 := sub_le n (a := a) (b := y :: b) (by rw [List.length_cons]; omega) h1 hb
        omega
      · rcases List.sublist_cons_iff.1 hb with h3 | ⟨r', e, h3⟩
        · have h2 := sub_le n (a := x :: a) (b := b) (by rw [List.length_cons]; omega) ha h3
          omega
        · injection e with e1 e2
          exact absurd e1 hxy
/-- The document's way through: the pairs of places, from i and j on. -/
def prsL (i j : Nat) : List α → List α → List (Nat × Nat)
  | [], _ => []
  | _ :: _, [] => []
  | x :: a, y :: b => if x = y then (i, j) :: prsL (i + 1) (j + 1) a b else if lenL (x :: a) b ≤ lenL a (y :: b) then prsL (i + 1) j a (y :: b) else prsL i (j + 1) (x :: a) b
termination_by a b => a.length + b.length
theorem prsL_nil (i j : Nat) (b : List α) : prsL i j ([] : List α) b = [] := by rw [prsL]
theorem prsL_nil' (i j : Nat) (a : List α) : prsL i j a [] = [] := by cases a <;> rw [prsL]
theorem prsL_cons (i j : Nat) (x y : α) (a b : List α) : prsL i j (x :: a) (y :: b) = if x = y then (i, j) :: prsL (i + 1) (j + 1) a b else if lenL (x :: a) b ≤ lenL a (y :: b) then prsL (i + 1) j a (y :: b) else prsL i (j + 1) (x :: a) b := by rw [prsL]
/-- As many pairs as the longest has lines. -/
theorem prs_len : ∀ (n i j : Nat) {a b : List α}, a.length + b.length ≤ n → (prsL i j a b).length = lenL a b
  | n, i, j, [], b, _ => by rw [prsL_nil, lenL_nil]; rfl
  | n, i, j, x :: a, [], _ => by rw [prsL_nil', lenL_nil']; rfl
  | 0, i, j, x :: a, y :: b, h => by simp at h
  | n + 1, i, j, x :: a, y :: b, h => by
    rw [List.length_cons, List.length_cons] at h
    rw [prsL_cons, lenL_cons]
    split
    · rw [List.length_cons, prs_len n _ _ (by omega)]
    · split
      · rw [prs_len n _ _ (by rw [List.length_cons]; omega)]; omega
      · rw [prs_len n _ _ (by rw [List.length_cons]; omega)]; omega
/-- Each pair's places bear one line; they rise. -/
theorem prs_at : ∀ (n i j : Nat) {a b : List α}, a.length + b.length ≤ n → (∀ p ∈ prsL i j a b, i ≤ p.1 ∧ j ≤ p.2 ∧ p.1 < i + a.length ∧ p.2 < j + b.length ∧ a[p.1 - i]? = b[p.2 - j]?) ∧ (prsL i j a b).Pairwise fun p q => p.1 < q.1 ∧ p.2 < q.2
  | n, i, j, [], b, _ => by rw [prsL_nil]; exact ⟨fun p hp => (by cases hp), List.Pairwise.nil⟩
  | n, i, j, x :: a, [], _ => by rw [prsL_nil']; exact ⟨fun p hp => (by cases hp), List.Pairwise.nil⟩
  | 0, i, j, x :: a, y :: b, h => by simp at h
  | n + 1, i, j, x :: a, y :: b, h => by
    rw [List.length_cons, List.length_cons] at h
    rw [prsL_cons]
    have up : ∀ (k m : Nat) (z : α) (l : List α), m + 1 ≤ k → (z :: l)[k - m]? = l[k - (m + 1)]? := fun k m z l hk => by
      rw [show k - m = (k - (m + 1)) + 1 by omega]
      rfl
    split
    · rename_i e
      subst e
      obtain ⟨h1, h2⟩ := prs_at n (i + 1) (j + 1) (a := a) (b := b) (by omega)
      refine ⟨fun p hp => ?_, List.pairwise_cons.2 ⟨fun q hq => ?_, h2⟩⟩
      · rcases List.mem_cons.1 hp with rfl | hp
        · exact ⟨Nat.le_refl _, Nat.le_refl _, by simp, by simp, by simp⟩
        · obtain ⟨g1, g2, g3, g4, g5⟩ := h1 p hp
          refine ⟨by omega, by omega, by rw [List.length_cons]; omega, by rw [List.length_cons]; omega, ?_⟩
          rw [up _ _ _ _ g1, up _ _ _ _ g2]
          exact g5
      · obtain ⟨g1, g2, _⟩ := h1 q hq
        exact ⟨g1, g2⟩
    · split
      · obtain ⟨h1, h2⟩ := prs_at n (i + 1) j (a := a) (b := y :: b) (by rw [List.length_cons]; omega)
        refine ⟨fun p hp => ?_, h2⟩
        obtain ⟨g1, g2, g3, g4, g5⟩ := h1 p hp
        refine ⟨by omega, g2, by rw [List.length_cons]; omega, g4, ?_⟩
        rw [up _ _ _ _ g1]
        exact g5
      · obtain ⟨h1, h2⟩ := prs_at n i (j + 1) (a := x :: a) (b := b) (by rw [List.length_cons]; omega)
        refine ⟨fun p hp => ?_, h2⟩
        obtain ⟨g1, g2, g3, g4, g5⟩ := h1 p hp
        refine ⟨g1, by omega, g3, by rw [List.length_cons]; omega, ?_⟩
        rw [up _ _ _ _ g2]
        exact g5
end Go.Proofs.Ytbejgljljjjjcaa.Ln
