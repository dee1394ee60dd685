/- Package lines, as plain data: differences, and what they make. (No Go in it.) -/
import Derived.Test.YtbejgljljjjjcaaLn0
set_option linter.unusedVariables false
set_option linter.unusedSimpArgs false
namespace Go.Proofs.Ytbejgljljjjjcaa.Ln

/-- An edit that may be done. -/
structure Ed (α : Type) where
  at_ : Nat
  del : Nat
  ins : List α
variable {α : Type}
/-- What is to do between two pairs. -/
def gapL (b : List α) (i j p q : Nat) : List (Ed α) := if p = i ∧ q = j then [] else [⟨i, p - i, (b.drop j).take (q - j)⟩]
/-- The edits from i and j on, by the pairs. -/
def difL (m : Nat) (b : List α) : Nat → Nat → List (Nat × Nat) → List (Ed α)
  | i, j, [] => gapL b i j m b.length
  | i, j, (p, q) :: ps => gapL b i j p q ++ difL m b (p + 1) (q + 1) ps
/-- All edits done, from i on. -/
def patL (a : List α) : Nat → List (Ed α) → List α
  | i, [] => a.drop i
  | i, e :: l => (a.drop i).take (e.at_ - i) ++ e.ins ++ patL a (e.at_ + e.del) l
/-- They may be done. -/
def OkL (m : Nat) : Nat → List (Ed α) → Prop
  | _, [] => True
  | i, e :: l => i ≤ e.at_ ∧ e.at_ + e.del ≤ m ∧ OkL m (e.at_ + e.del) l
theorem OkL.less {m i k : Nat} {l : List (Ed α)} (h : OkL m i l) (hk : k ≤ i) : OkL m k l := by
  cases l with
  | nil => trivial
  | cons e l => exact ⟨Nat.le_trans hk h.1, h.2⟩
/-- The pairs rise from i and j on, within the lists, and bear one line. -/
def PrsOk (a b : List α) : Nat → Nat → List (Nat × Nat) → Prop
  | i, j, [] => i ≤ a.length ∧ j ≤ b.length
  | i, j, (p, q) :: ps => i ≤ p ∧ j ≤ q ∧ p < a.length ∧ q < b.length ∧ a[p]? = b[q]? ∧ PrsOk a b (p + 1) (q + 1) ps
theorem pat_step {a : List α} {i : Nat} {l : List (Ed α)} (h : OkL a.length (i + 1) l) (hi : i < a.length) : patL a i l = a[i] :: patL a (i + 1) l := by
  cases l with
  | nil => exact List.drop_eq_getElem_cons hi
  | cons e l =>
    have h1 := h.1
    show (a.drop i).take (e.at_ - i) ++ e.ins ++ _ = a[i] :: ((a.drop (i + 1)).take (e.at_ - (i + 1)) ++ e.ins ++ _)
    rw [List.drop_eq_getElem_cons hi, show e.at_ - i = (e.at_ - (i + 1)) + 1 by omega, List.take_succ_cons]
    rfl
theorem gap_ok {m : Nat} {b : List α} {i j p q : Nat} {l : List (Ed α)} (hi : i ≤ p) (hp : p ≤ m) (h : OkL m p l) : OkL m i (gapL b i j p q ++ l) := by
  unfold gapL
  split
  · exact h.less hi
  · refine ⟨Nat.le_refl _, ?_, ?_⟩
    · show i + (p - i) ≤ m
      omega
    · show OkL m (i + (p - i)) l
      rw [show i + (p - i) = p by omega]
      exact h
theorem dif_ok {a b : List α} : ∀ {ps : List (Nat × Nat)} {i j : Nat}, PrsOk a b i j ps → OkL a.length i (difL a.length b i j ps)
  | [], i, j, h => by
    have := gap_ok (b := b) (j := j) (q := b.length) (l := []) h.1 (Nat.le_refl a.length) trivial
    rw [List.append_nil] at this
    exact this
  | (p, q) :: ps, i, j, h => gap_ok h.1 (Nat.le_of_lt h.2.2.1) ((dif_ok h.2.2.2.2.2).less (Nat.le_succ _))
/-- Patch of Diff makes b. -/
theorem pat_dif {a b : List α} : ∀ {ps : List (Nat × Nat)} {i j : Nat}, PrsOk a b i j ps → patL a i (difL a.length b i j ps) = b.drop j
  | [], i, j, h => by
    obtain ⟨h1, h2⟩ := h
    show patL a i (gapL b i j a.length b.length) = _
    unfold gapL
    split
    · rename_i e
      show a.drop i = _
      rw [List.drop_of_length_le (by omega), List.drop_of_length_le (by omega)]
    · show (a.drop i).take (i - i) ++ (b.drop j).take (b.length - j) ++ a.drop (i + (a.length - i)) = _
      rw [Nat.sub_self, List.take_zero, List.nil_append, List.take_of_length_le (by rw [List.length_drop]; exact Nat.le_refl _), List.drop_of_length_le (l := a) (by omega), List.append_nil]
  | (p, q) :: ps, i, j, h => by
    obtain ⟨h1, h2, h3, h4, h5, h6⟩ := h
    have hr := pat_dif h6
    have hs : patL a p (difL a.length b (p + 1) (q + 1) ps) = b.drop q := by
      rw [pat_step (dif_ok h6) h3, hr, List.drop_eq_getElem_cons h4]
      congr 1
      rw [List.getElem?_eq_getElem h3, List.getElem?_eq_getElem h4] at h5
      exact Option.some.inj h5
    show patL a i (gapL b i j p q ++ difL a.length b (p + 1) (q + 1) ps) = _
    unfold gapL
    split
    · rename_i e
      obtain ⟨rfl, rfl⟩ := e
      exact hs
    · show (a.drop i).take (i - i) ++ (b.drop j).take (q - j) ++ patL a (i + (p - i)) (difL a.length b (p + 1) (q + 1) ps) = _
      rw [Nat.sub_self, List.take_zero, List.nil_append, show i + (p - i) = p by omega, hs]
      have := List.take_append_drop (q - j) (b.drop j)
      rw [List.drop_drop, show j + (q - j) = q by omega] at this
      exact this
theorem prs_ok [DecidableEq α] {A B : List α} : ∀ (n i j : Nat) {a b : List α}, a.length + b.length ≤ n → A.drop i = a → B.drop j = b → i ≤ A.length → j ≤ B.length → PrsOk A B i j (prsL i j a b)
  | n, i, j, [], b, _, _, _, hi, hj => by rw [prsL_nil]; exact ⟨hi, hj⟩
  | n, i, j, x :: a, [], _, _, _, hi, hj => by rw [prsL_nil']; exact ⟨hi, hj⟩
  | 0, i, j, x :: a, y :: b, h, _, _, _, _ => by simp at h
  | n + 1, i, j, x :: a, y :: b, h, ha, hb, hi, hj => by
    rw [List.length_cons, List.length_cons] at h
    have la : i < A.length := by
      have := congrArg List.length ha
      rw [List.length_drop, List.length_cons] at this
      omega
    have lb : j < B.length := by
      have := congrArg List.length hb
      rw [List.length_drop, List.length_cons] at this
      omega
    rw [List.drop_eq_getElem_cons la] at ha
    rw [List.drop_eq_getElem_cons lb] at hb
    injection ha with ha1 ha2
    injection hb with hb1 hb2
    have less : ∀ {i' j' : Nat} {ps : List (Nat × Nat)}, PrsOk A B i' j' ps → i ≤ i' → j ≤ j' → PrsOk A B i j ps := fun {i' j' ps} h h1 h2 => by
      cases ps with
      | nil => exact ⟨Nat.le_trans h1 h.1, Nat.le_trans h2 h.2⟩
      | cons p ps => exact ⟨Nat.le_trans h1 h.1, Nat.le_trans h2 h.2.1, h.2.2⟩
    rw [prsL_cons]
    split
    · rename_i e
      subst e
      exact ⟨Nat.le_refl _, Nat.le_refl _, la, lb, by rw [List.getElem?_eq_getElem la, List.getElem?_eq_getElem lb, ha1, hb1], prs_ok n (i + 1) (j + 1) (by omega) ha2 hb2 la lb⟩
    · split
      · exact less (prs_ok n (i + 1) j (a := a) (b := y :: b) (by rw [List.length_cons]; omega) ha2 (by rw [List.drop_eq_getElem_cons lb, hb1, hb2]) la hj) (Nat.le_succ _) (Nat.le_refl _)
      · exact less (prs_ok n i (j + 1) (a := x :: a) (b := b) (by rw [List.length_cons]; omega) (by rw [List.drop_eq_getElem_cons la, ha1, ha2]) hb2 hi lb) (Nat.le_refl _) (Nat.le_succ _)
/-- So: the edits may be done, and make b. -/
theorem back_all [DecidableEq α] (a b : List α) : OkL a.length 0 (difL a.length b 0 0 (prsL 0 0 a b)) ∧ patL a 0 (difL a.length b 0 0 (prsL 0 0 a b)) = b :=
  have h := prs_ok (A := a) (B := b) (a.length + b.length) 0 0 (Nat.le_refl _) rfl rfl (Nat.zero_le _) (Nat.zero_le _)
  ⟨dif_ok h, pat_dif h⟩
end Go.Proofs.Ytbejgljljjjjcaa.Ln
