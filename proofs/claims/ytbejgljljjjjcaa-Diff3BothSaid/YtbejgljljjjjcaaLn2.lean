/- Package lines, as plain data: lines of bytes. (No Go in it.) -/
import Derived.Test.YtbejgljljjjjcaaLn1
set_option linter.unusedVariables false
set_option linter.unusedSimpArgs false
namespace Go.Proofs.Ytbejgljljjjjcaa.Ln

/-- The lines, each with its end. -/
def splL : List UInt8 → List (List UInt8)
  | [] => []
  | c :: cs => if c = 10 then [10] :: splL cs else match splL cs with
    | [] => [[c]]
    | l :: ls => (c :: l) :: ls
/-- Join of Split is the bytes. -/
theorem spl_join : ∀ bs : List UInt8, (splL bs).flatten = bs
  | [] => rfl
  | c :: cs => by
    have ih := spl_join cs
    unfold splL
    split
    · rename_i e
      rw [List.flatten_cons, ih, e]
      rfl
    · split
      · rename_i h
        rw [h] at ih
        rw [← ih]
        rfl
      · rename_i l ls h
        rw [h] at ih
        rw [← ih]
        rfl
/-- What has no end is one line, if it is anything. -/
theorem spl_none : ∀ {p : List UInt8}, (∀ c ∈ p, c ≠ 10) → splL p = if p = [] then [] else [p]
  | [], _ => rfl
  | c :: p, h => by
    have hc := h c List.mem_cons_self
    have ih := spl_none (p := p) (fun x hx => h x (List.mem_cons_of_mem _ hx))
    rw [if_neg (by simp)]
    unfold splL
    rw [if_neg hc, ih]
    cases p with
    | nil => rfl
    | cons d p => rw [if_neg (by simp)]
/-- The first line, and the others. -/
theorem spl_first : ∀ {p : List UInt8} (cs : List UInt8), (∀ c ∈ p, c ≠ 10) → splL (p ++ 10 :: cs) = (p ++ [10]) :: splL cs
  | [], cs, _ => by
    show splL (10 :: cs) = _
    rw [splL, if_pos rfl]
    rfl
  | c :: p, cs, h => by
    have hc := h c List.mem_cons_self
    have ih := spl_first (p := p) cs (fun x hx => h x (List.mem_cons_of_mem _ hx))
    show splL (c :: (p ++ 10 :: cs)) = _
    rw [splL, if_neg hc, ih]
    rfl
/-- No line is empty. -/
theorem spl_some : ∀ {bs l : List UInt8}, l ∈ splL bs → l ≠ []
  | [], l, h => by cases h
  | c :: cs, l, h => by
    unfold splL at h
    split at h
    · rcases List.mem_cons.1 h with rfl | h
      · simp
      · exact spl_some h
    · split at h
      · rw [List.mem_singleton.1 h]; simp
      · rename_i l' ls e
        rcases List.mem_cons.1 h with rfl | h
        · simp
        · exact spl_some (bs := cs) (by rw [e]; exact List.mem_cons_of_mem _ h)
theorem spl_len : ∀ bs : List UInt8, (splL bs).length ≤ bs.length
  | [] => Nat.le_refl _
  | c :: cs => by
    have ih := spl_len cs
    unfold splL
    split
    · rw [List.length_cons, List.length_cons]; omega
    · split
      · simp
      · rename_i l ls h
        rw [h] at ih
        simp only [List.length_cons] at ih ⊢
        omega
end Go.Proofs.Ytbejgljljjjjcaa.Ln
