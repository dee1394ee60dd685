/- Texts put together: VShDm0. -/
import Derived.Test.YtpfjlhpahmhkhaaGreatQv28
/- A delta that is made: plain lists, no Go in it. -/
set_option linter.unusedVariables false
set_option linter.unusedSimpArgs false
namespace Go.Proofs.YtpfjlhpahmhkhaaGreat.Sh
def lcp : List UInt8 → List UInt8 → Nat
 | a :: aas, b :: bs => if a = b then lcp aas bs + 1 else 0
 | _, _ => 0
theorem lcp_le : ∀ (a b : List UInt8), lcp a b ≤ a.length ∧ lcp a b ≤ b.length
 | [], b => by simp [lcp]
 | a :: aas, [] => by simp [lcp]
 | a :: aas, b :: bs => by
  have := lcp_le aas bs
  unfold lcp
  split
  ·simp; omega
  ·simp
theorem lcp_take : ∀ (a b : List UInt8), a.take (lcp a b) = b.take (lcp a b)
 | [], b => by simp [lcp]
 | a :: aas, [] => by simp [lcp]
 | a :: aas, b :: bs => by
  have := lcp_take aas bs
  unfold lcp
  split
  ·rename_i h; rw [List.take_succ_cons, List.take_succ_cons, this, h]
  ·simp
theorem lcp_at {a b : List UInt8} {i : Nat} (h : i < lcp a b) : a.getD i 0 = b.getD i 0 := by
 have h1 : (a.take (lcp a b)).getD i 0 = (b.take (lcp a b)).getD i 0 := by rw [lcp_take]
 simpa [List.getD_eq_getElem?_getD, List.getElem?_take, h] using h1
theorem lcp_end : ∀ (a b : List UInt8), lcp a b < a.length → lcp a b < b.length → a.getD (lcp a b) 0 ≠ b.getD (lcp a b) 0
 | [], b, h, _ => by simp at h
 | a :: aas, [], _, h => by simp at h
 | a :: aas, b :: bs, h1, h2 => by
  unfold lcp at h1 h2 ⊢
  split
  ·rename_i h
   rw [if_pos h] at h1 h2
   exact lcp_end aas bs (by simpa using h1) (by simpa using h2)
  ·rename_i h; exact h
theorem lcp_not {a b : List UInt8} {k : Nat} (h : a.getD k 0 ≠ b.getD k 0) : lcp a b ≤ k := Nat.le_of_not_lt fun hlt => h (lcp_at hlt)
theorem lcp_take8 {a b : List UInt8} (h : 8 ≤ lcp a b) : a.take 8 = b.take 8 := by
 have := congrArg (List.take 8) (lcp_take a b)
 rwa [List.take_take, List.take_take, Nat.min_eq_left h] at this
def bestK (base t : List UInt8) : Nat → Nat × Nat
 | 0 => (0, 0)
 | k + 1 => if (bestK base t k).2 < lcp (base.drop k) t then (k, lcp (base.drop k) t) else bestK base t k
def best8 (base t : List UInt8) : Nat → Nat × Nat
 | 0 => (0, 0)
 | k + 1 => if 8 ≤ lcp (base.drop k) t ∧ (best8 base t k).2 < lcp (base.drop k) t then (k, lcp (base.drop k) t) else best8 base t k
theorem best8_ok (base t : List UInt8) : ∀ k, best8 base t k = (0, 0) ∨ (8 ≤ (best8 base t k).2 ∧ (best8 base t k).1 < k ∧ (best8 base t k).2 = lcp (base.drop (best8 base t k).1) t)
 | 0 => .inl rfl
 | k + 1 => by
  unfold best8
  split
  ·rename_i h; exact .inr ⟨h.1, by simp, rfl⟩
  ·rcases best8_ok base t k with h | ⟨h1, h2, h3⟩
   ·exact .inl h
   ·exact .inr ⟨h1, by omega, h3⟩
theorem best8_skip (base t : List UInt8) (a : Nat) : ∀ n, (∀ i, a ≤ i → i < a + n → lcp (base.drop i) t < 8 ∨ lcp (base.drop i) t ≤ (best8 base t a).2) → best8 base t (a + n) = best8 base t a
 | 0, _ => rfl
 | n + 1, h => by
  have ih := best8_skip base t a n (fun i h1 h2 => h i h1 (by omega))
  show best8 base t (a + n + 1) = _
  rw [best8, if_neg, ih]
  rintro ⟨h1, h2⟩
  rw [ih] at h2
  rcases h (a + n) (by omega) (by omega) with h3 | h3 <;> omega
theorem best8_to (base t : List UInt8) (a b : Nat) (hab : a ≤ b) (h : ∀ i, a ≤ i → i < b → lcp (base.drop i) t < 8 ∨ lcp (base.drop i) t ≤ (best8 base t a).2) : best8 base t b = best8 base t a := by
 obtain ⟨n, rfl⟩ : ∃ n, b = a + n := ⟨b - a, by omega⟩
 exact best8_skip base t a n h
def m8 (base t : List UInt8) : Nat × Nat := best8 base t base.length
theorem m8_ok (base t : List UInt8) : m8 base t = (0, 0) ∨ (8 ≤ (m8 base t).2 ∧ (m8 base t).1 + (m8 base t).2 ≤ base.length ∧ (m8 base t).2 ≤ t.length ∧ (base.drop (m8 base t).1).take (m8 base t).2 = t.take (m8 base t).2) := by
 rcases best8_ok base t base.length with h | ⟨h1, h2, h3⟩
 ·exact .inl h
 ·have hl := lcp_le (base.drop (m8 base t).1) t
  have ht := lcp_take (base.drop (m8 base t).1) t
  unfold m8 at *
  rw [← h3] at hl ht
  rw [List.length_drop] at hl
  exact .inr ⟨h1, by omega, hl.2, ht⟩
def flushS (ins : List UInt8) : List Stp := if ins = [] then [] else [.ins ins]
def stepsD (m : List UInt8 → Nat × Nat) : Nat → List UInt8 → List UInt8 → List Stp
 | 0, _, ins => flushS ins
 | _ + 1, [], ins => flushS ins
 | f + 1, c :: t, ins => if (m (c :: t)).2 = 0 then stepsD m f t (ins ++ [c]) else flushS ins ++ (.cop (m (c :: t)).1 (m (c :: t)).2 :: stepsD m f ((c :: t).drop (m (c :: t)).2) [])
theorem steps_end (m : List UInt8 → Nat × Nat) (f : Nat) (ins : List UInt8) : stepsD m f [] ins = flushS ins := by cases f <;> rfl
theorem steps_in {m : List UInt8 → Nat × Nat} {f : Nat} {t ins : List UInt8} (ht : 0 < t.length) (h : (m t).2 = 0) : stepsD m (f + 1) t ins = stepsD m f (t.drop 1) (ins ++ t.take 1) := by
 cases t with
 | nil => simp at ht
 | cons c t => rw [stepsD, if_pos h]; rfl
theorem steps_cop {m : List UInt8 → Nat × Nat} {f : Nat} {t ins : List UInt8} (ht : 0 < t.length) (h : (m t).2 ≠ 0) : stepsD m (f + 1) t ins = flushS ins ++ (.cop (m t).1 (m t).2 :: stepsD m f (t.drop (m t).2) []) := by
 cases t with
 | nil => simp at ht
 | cons c t => rw [stepsD, if_neg h]
def makeD (base target : List UInt8) : List UInt8 := headD base.length target.length ++ encs (stepsD (m8 base) target.length target [])
def IsNext (h : Nat → Nat) (n s k : Nat) (v : Int) : Prop := (v = -1 ∧ ∀ i, k ≤ i → i < n → h i ≠ s) ∨ ∃ p : Nat, v = (p : Int) ∧ k ≤ p ∧ p < n ∧ h p = s ∧ ∀ i, k ≤ i → i < p → h i ≠ s
theorem IsNext.down {h : Nat → Nat} {n s k : Nat} {v : Int} (hn : IsNext h n s (k + 1) v) (hk : h k ≠ s) : IsNext h n s k v := by
 have hh : ∀ i, k ≤ i → ¬ k + 1 ≤ i → h i ≠ s := fun i h1 h2 => by
  have e : i = k := by omega
  rw [e]
  exact hk
 rcases hn with ⟨rfl, ha⟩ | ⟨p, rfl, h1, h2, h3, h4⟩
 ·refine .inl ⟨rfl, fun i h1 h2 => ?_⟩
  by_cases hi : k + 1 ≤ i
  ·exact ha i hi h2
  ·exact hh i h1 hi
 ·refine .inr ⟨p, rfl, by omega, h2, h3, fun i h5 h6 => ?_⟩
  by_cases hi : k + 1 ≤ i
  ·exact h4 i hi h6
  ·exact hh i h5 hi
theorem IsNext.here (h : Nat → Nat) {n k : Nat} (hk : k < n) : IsNext h n (h k) k (k : Int) := .inr ⟨k, rfl, Nat.le_refl _, hk, rfl, fun i h1 h2 => by omega⟩
theorem IsNext.none_ (h : Nat → Nat) (n s k : Nat) (hk : n ≤ k) : IsNext h n s k (-1) := .inl ⟨rfl, fun i h1 h2 => by omega⟩
def Idx (h : Nat → Nat) (n k : Nat) (first next : List Int) : Prop := (∀ s, s < first.length → IsNext h n s k (first.getD s 0)) ∧ ∀ i, k ≤ i → i < n → IsNext h n (h i) (i + 1) (next.getD i 0)
theorem getD_set_ (l : List Int) (i j : Nat) (v : Int) (hj : j < l.length) : (l.set i v).getD j 0 = if i = j then v else l.getD j 0 := by
 rw [List.getD_eq_getElem?_getD, List.getElem?_set]
 split
 ·rename_i e; subst e; rw [if_pos hj]; rfl
 ·rw [List.getD_eq_getElem?_getD]
theorem Idx.step {h : Nat → Nat} {n k : Nat} {first next : List Int} (hi : Idx h n (k + 1) first next) (hk : k < n) (hs : h k < first.length) (hl : n ≤ next.length) :
  Idx h n k (first.set (h k) (k : Int)) (next.set k (first.getD (h k) 0)) := by
 refine ⟨fun s hs' => ?_, fun i h1 h2 => ?_⟩
 ·rw [List.length_set] at hs'
  rw [getD_set_ _ _ _ _ hs']
  by_cases e : h k = s
  ·rw [if_pos e, ← e]; exact IsNext.here h hk
  ·rw [if_neg e]; exact (hi.1 s hs').down e
 ·rw [getD_set_ _ _ _ _ (by omega)]
  by_cases e : k = i
  ·subst e; rw [if_pos rfl]; exact hi.1 (h k) hs
  ·rw [if_neg e]; exact hi.2 i (by omega) h2
end Go.Proofs.YtpfjlhpahmhkhaaGreat.Sh
