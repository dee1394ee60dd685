/- Texts put together: Ts1. -/
import Derived.Test.YtecpedecgcaeoaaQg06
/- Each text once: plain lists. -/
namespace Go.Proofs.Ytecpedecgcaeoaa.Tx
open Go.Proofs.Ytecpedecgcaeoaa.Sh

/-- Rising, each once. -/
abbrev Strict (l : List ByteArray) : Prop := l.Pairwise (fun a b => bl a.toList b.toList = true)
theorem strict_ext (a : List ByteArray) : ∀ b : List ByteArray, Strict a → Strict b → (∀ x, x ∈ a ↔ x ∈ b) → a = b := by
  induction a with
  | nil =>
    intro b _ _ h
    cases b with
    | nil => rfl
    | cons y b => exact absurd ((h y).2 List.mem_cons_self) (by simp)
  | cons x a ih =>
    intro b ha hb h
    cases b with
    | nil => exact absurd ((h x).1 List.mem_cons_self) (by simp)
    | cons y b =>
      obtain ⟨hxa, ha'⟩ := List.pairwise_cons.1 ha
      obtain ⟨hyb, hb'⟩ := List.pairwise_cons.1 hb
      have e : x = y := by
        rcases List.mem_cons.1 ((h x).1 List.mem_cons_self) with e | hx
        · exact e
        · rcases List.mem_cons.1 ((h y).2 List.mem_cons_self) with e | hy
          · exact e.symm
          · have h1 := hxa y hy
            have h2 := bl_asymm _ _ (hyb x hx)
            rw [h1] at h2; cases h2
      subst e
      have hno1 : x ∉ a := fun hm => by have := hxa x hm; rw [bl_irr] at this; cases this
      have hno2 : x ∉ b := fun hm => by have := hyb x hm; rw [bl_irr] at this; cases this
      rw [ih b ha' hb' (fun z => ⟨fun hz => by
        rcases List.mem_cons.1 ((h z).1 (List.mem_cons_of_mem _ hz)) with e | hz'
        · subst e; exact absurd hz hno1
        · exact hz', fun hz => by
        rcases List.mem_cons.1 ((h z).2 (List.mem_cons_of_mem _ hz)) with e | hz'
        · subst e; exact absurd hz hno2
        · exact hz'⟩)]
/-- The first k of a rising list, each once. -/
def ddN (ts : List ByteArray) : Nat → List ByteArray
  | 0 => []
  | k + 1 => if k = 0 ∨ (ts[k]?.map (·.toList) == ts[k - 1]?.map (·.toList)) = false then ddN ts k ++ (ts[k]?.toList) else ddN ts k
def uniqT (xs : List ByteArray) : List ByteArray := ddN (sortT xs) (sortT xs).length
theorem ddN_first (ts : List ByteArray) (h : 0 < ts.length) : ddN ts 1 = ddN ts 0 ++ [ts[0]] := by
  show (if 0 = 0 ∨ _ then _ else _) = _
  rw [if_pos (.inl rfl), List.getElem?_eq_getElem h]; rfl
theorem ddN_skip (ts : List ByteArray) (j : Nat) (h : j + 1 < ts.length) (e : ts[j + 1] = ts[j]) : ddN ts (j + 1 + 1) = ddN ts (j + 1) := by
  rw [ddN, if_neg]
  rintro (h1 | h1)
  · omega
  · rw [Nat.add_sub_cancel, List.getElem?_eq_getElem h, List.getElem?_eq_getElem (by omega), e] at h1
    simp at h1
theorem ddN_more (ts : List ByteArray) (j : Nat) (h : j + 1 < ts.length) (e : ts[j + 1] ≠ ts[j]) : ddN ts (j + 1 + 1) = ddN ts (j + 1) ++ [ts[j + 1]] := by
  rw [ddN, if_pos, List.getElem?_eq_getElem h]
  · rfl
  · right
    rw [Nat.add_sub_cancel, List.getElem?_eq_getElem h, List.getElem?_eq_getElem (by omega), beq_eq_false_iff_ne]
    intro h1
    exact e (ba_ext (by simpa using h1))
theorem ddN_len (ts : List ByteArray) (k : Nat) : (ddN ts k).length ≤ k := by
  induction k with
  | zero => simp [ddN]
  | succ k ih =>
    rw [ddN]
    split
    · rw [List.length_append]
      have : (ts[k]?.toList).length ≤ 1 := by cases ts[k]? <;> simp
      omega
    · omega
/-- It rises, its last text is the k-th, and it has just the first k. -/
theorem ddN_spec {ts : List ByteArray} (hs : Sorted ts) : ∀ k, k ≤ ts.length → Strict (ddN ts k) ∧ (∀ x, x ∈ ddN ts k ↔ x ∈ ts.take k) := by
  intro k
  induction k with
  | zero => intro _; exact ⟨List.Pairwise.nil, by simp [ddN]⟩
  | succ k ih =>
    intro hk
    obtain ⟨h1, h2⟩ := ih (by omega)
    have htk : ts.take (k + 1) = ts.take k ++ [ts[k]] := List.take_succ_eq_append_getElem (by omega)
    have hle : ∀ j (hj : j < k), tle (ts[j]'(by omega)) (ts[k]'(by omega)) = true := fun j hj => List.pairwise_iff_getElem.1 hs j k (by omega) (by omega) hj
    cases k with
    | zero =>
      rw [ddN_first ts (by omega), htk]
      exact ⟨by simp [ddN], by simp [ddN]⟩
    | succ j =>
      by_cases e : ts[j + 1] = ts[j]
      · rw [ddN_skip ts j (by omega) e]
        refine ⟨h1, fun x => ?_⟩
        rw [h2, htk, List.mem_append, List.mem_singleton]
        constructor
        · exact .inl
        · rintro (h | h)
          · exact h
          · rw [h, e, List.take_succ_eq_append_getElem (by omega)]
            exact List.mem_append_right _ (List.mem_singleton.2 rfl)
      · rw [ddN_more ts j (by omega) e]
        have hlast : bl ts[j].toList ts[j + 1].toList = true := by
          rcases tle_cases (hle j (by omega)) with h | h
          · exact h
          · exact absurd h.symm e
        refine ⟨List.pairwise_append.2 ⟨h1, List.pairwise_singleton _ _, fun y hy z hz => ?_⟩, fun x => ?_⟩
        · obtain rfl := List.mem_singleton.1 hz
          obtain ⟨i, hi, rfl⟩ := List.mem_iff_getElem.1 ((h2 y).1 hy)
          rw [List.length_take] at hi
          rw [List.getElem_take]
          rcases Nat.lt_or_ge i j with hij | hij
          · rcases tle_cases (List.pairwise_iff_getElem.1 hs i j (by omega) (by omega) hij) with h | h
            · exact bl_trans _ _ _ h hlast
            · rw [h]; exact hlast
          · obtain rfl : i = j := by omega
            exact hlast
        · rw [List.mem_append, h2, htk, List.mem_append]
theorem uniqT_spec (xs : List ByteArray) : Strict (uniqT xs) ∧ ∀ x, x ∈ uniqT xs ↔ x ∈ xs := by
  obtain ⟨h1, h2⟩ := ddN_spec (sortT_sorted xs) _ (Nat.le_refl _)
  refine ⟨h1, fun x => ?_⟩
  have := h2 x
  rw [List.take_length] at this
  exact this.trans (sortT_perm xs).mem_iff
theorem uniqT_eq {a xs : List ByteArray} (h : Strict a) (hm : ∀ x, x ∈ a ↔ x ∈ xs) : a = uniqT xs :=
  strict_ext a _ h (uniqT_spec xs).1 (fun x => (hm x).trans ((uniqT_spec xs).2 x).symm)
theorem uniqT_same {xs ys : List ByteArray} (h : ∀ x, x ∈ xs ↔ x ∈ ys) : uniqT xs = uniqT ys := uniqT_eq (uniqT_spec xs).1 (fun x => ((uniqT_spec xs).2 x).trans (h x))
theorem uniqT_len (xs : List ByteArray) : (uniqT xs).length ≤ xs.length := by
  have := ddN_len (sortT xs) (sortT xs).length
  rw [sortT_length] at this
  unfold uniqT
  rw [sortT_length]
  exact this
end Go.Proofs.Ytecpedecgcaeoaa.Tx
