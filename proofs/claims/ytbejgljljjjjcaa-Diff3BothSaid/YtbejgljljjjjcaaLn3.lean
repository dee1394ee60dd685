/- Package lines, as plain data: turned round; of itself; any common subsequence. (No Go in it.) -/
import Derived.Test.YtbejgljljjjjcaaLn2
set_option linter.unusedVariables false
set_option linter.unusedSimpArgs false
namespace Go.Proofs.Ytbejgljljjjjcaa.Ln

section
variable {α : Type} [DecidableEq α]
theorem lenL_comm : ∀ (n : Nat) {a b : List α}, a.length + b.length ≤ n → lenL a b = lenL b a
  | n, [], b, _ => by rw [lenL_nil, lenL_nil']
  | n, x :: a, [], _ => by rw [lenL_nil, lenL_nil']
  | 0, x :: a, y :: b, h => by simp at h
  | n + 1, x :: a, y :: b, h => by
    rw [List.length_cons, List.length_cons] at h
    rw [lenL_cons, lenL_cons]
    by_cases e : x = y
    · rw [if_pos e, if_pos e.symm, lenL_comm n (by omega)]
    · rw [if_neg e, if_neg (fun h => e h.symm), lenL_comm n (a := a) (b := y :: b) (by rw [List.length_cons]; omega), lenL_comm n (a := x :: a) (b := b) (by rw [List.length_cons]; omega), Nat.max_comm]
/-- Of itself nothing differs. -/
theorem dif_self (m : Nat) (B : List α) (hm : m = B.length) : ∀ {a : List α} {i : Nat}, i + a.length = m → difL m B i i (prsL i i a a) = []
  | [], i, h => by
    rw [prsL_nil]
    show gapL B i i m B.length = []
    unfold gapL
    rw [if_pos ⟨by simpa using h.symm, by rw [← hm]; simpa using h.symm⟩]
  | x :: a, i, h => by
    rw [prsL_cons, if_pos rfl]
    show gapL B i i i i ++ difL m B (i + 1) (i + 1) _ = []
    rw [dif_self m B hm (by rw [List.length_cons] at h; omega)]
    unfold gapL
    rw [if_pos ⟨rfl, rfl⟩]
    rfl
/-- A common subsequence, however taken, is no longer. -/
theorem common_le {s a b : List α} {k j : Nat} (ha : s.Sublist (a.take k)) (hb : s.Sublist (b.take j)) : s.length ≤ lenL a b :=
  sub_le _ (Nat.le_refl _) (ha.trans (List.take_sublist _ _)) (hb.trans (List.take_sublist _ _))
end
/-- One line more, each taken as early as may be. -/
theorem sub_more {α : Type} {s a : List α} {k i : Nat} {x : α} (h : s.Sublist (a.take k)) (hk : k ≤ i) (hx : a[i]? = some x) : (s ++ [x]).Sublist (a.take (i + 1)) := by
  rw [List.take_add_one, hx]
  refine List.Sublist.append (h.trans ?_) (List.Sublist.refl _)
  rw [show a.take k = (a.take i).take k by rw [List.take_take, Nat.min_eq_left hk]]
  exact List.take_sublist _ _
/-- The table, filled from the back: a row's places. -/
def rowL {α : Type} [DecidableEq α] (a b : List α) : List Nat := (List.range (b.length + 1)).map fun j => lenL a (b.drop j)
theorem rowL_at {α : Type} [DecidableEq α] (a b : List α) (j : Nat) (hj : j ≤ b.length) : (rowL a b)[j]? = some (lenL a (b.drop j)) := by
  unfold rowL
  rw [List.getElem?_map, List.getElem?_range (by omega)]
  rfl
theorem table_step {α : Type} [DecidableEq α] (a b : List α) (i j : Nat) (hi : i < a.length) (hj : j < b.length) : lenL (a.drop i) (b.drop j) = if a[i] = b[j] then lenL (a.drop (i + 1)) (b.drop (j + 1)) + 1 else max (lenL (a.drop (i + 1)) (b.drop j)) (lenL (a.drop i) (b.drop (j + 1))) := by
  rw [List.drop_eq_getElem_cons hi, List.drop_eq_getElem_cons hj, lenL_cons]
theorem table_end {α : Type} [DecidableEq α] (a b : List α) (i j : Nat) (h : a.length ≤ i ∨ b.length ≤ j) : lenL (a.drop i) (b.drop j) = 0 := by
  rcases h with h | h
  · rw [List.drop_of_length_le h, lenL_nil]
  · rw [List.drop_of_length_le h, lenL_nil']
theorem prs_step {α : Type} [DecidableEq α] (a b : List α) (i j : Nat) (hi : i < a.length) (hj : j < b.length) : prsL i j (a.drop i) (b.drop j) = if a[i] = b[j] then (i, j) :: prsL (i + 1) (j + 1) (a.drop (i + 1)) (b.drop (j + 1)) else if lenL (a.drop i) (b.drop (j + 1)) ≤ lenL (a.drop (i + 1)) (b.drop j) then prsL (i + 1) j (a.drop (i + 1)) (b.drop j) else prsL i (j + 1) (a.drop i) (b.drop (j + 1)) := by
  rw [List.drop_eq_getElem_cons hi, List.drop_eq_getElem_cons hj, prsL_cons]
theorem prs_end {α : Type} [DecidableEq α] (a b : List α) (i j : Nat) (h : a.length ≤ i ∨ b.length ≤ j) : prsL i j (a.drop i) (b.drop j) = [] := by
  rcases h with h | h
  · rw [List.drop_of_length_le h, prsL_nil]
  · rw [List.drop_of_length_le h, prsL_nil']
end Go.Proofs.Ytbejgljljjjjcaa.Ln
