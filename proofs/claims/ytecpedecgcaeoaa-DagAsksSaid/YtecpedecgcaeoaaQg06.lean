/- Texts put together: Ts0. -/
import Derived.Test.YtecpedecgcaeoaaQg01
import Derived.Test.YtecpedecgcaeoaaQg05
import Derived.Laws.BytesString
/- Texts sorted and merged: plain lists. -/
namespace Go.Proofs.Ytecpedecgcaeoaa.Tx
open Go.Proofs.Ytecpedecgcaeoaa.Sh

/-- Does s stand at t or ahead of it? -/
def tle (s t : ByteArray) : Bool := Op.bytesLess s.toList t.toList || s.toList == t.toList
theorem tle_refl (s : ByteArray) : tle s s = true := by unfold tle; simp
theorem tle_total (s t : ByteArray) : tle s t = true ∨ tle t s = true := by
  unfold tle
  rcases bl_tri s.toList t.toList with h | h | h
  · left; rw [show Op.bytesLess s.toList t.toList = true from h]; rfl
  · left; rw [h]; simp
  · right; rw [show Op.bytesLess t.toList s.toList = true from h]; rfl
theorem tle_cases {s t : ByteArray} (h : tle s t = true) : bl s.toList t.toList = true ∨ s = t := by
  unfold tle at h
  rw [Bool.or_eq_true] at h
  rcases h with h | h
  · exact .inl h
  · exact .inr (ba_ext (by simpa using h))
theorem tle_of_lt {s t : ByteArray} (h : bl s.toList t.toList = true) : tle s t = true := by unfold tle; rw [show Op.bytesLess s.toList t.toList = true from h]; rfl
theorem tle_trans {s t u : ByteArray} (h1 : tle s t = true) (h2 : tle t u = true) : tle s u = true := by
  rcases tle_cases h1 with h1 | rfl
  · rcases tle_cases h2 with h2 | rfl
    · exact tle_of_lt (bl_trans _ _ _ h1 h2)
    · exact tle_of_lt h1
  · exact h2
theorem tle_antisymm {s t : ByteArray} (h1 : tle s t = true) (h2 : tle t s = true) : s = t := by
  rcases tle_cases h1 with h1 | h1
  · rcases tle_cases h2 with h2 | h2
    · have := bl_asymm _ _ h1
      rw [h2] at this
      cases this
    · exact h2.symm
  · exact h1
theorem tle_not {s t : ByteArray} (h : tle s t = false) : bl t.toList s.toList = true ∧ tle t s = true := by
  have : bl t.toList s.toList = true := by
    rcases bl_tri s.toList t.toList with h1 | h1 | h1
    · rw [tle_of_lt h1] at h; cases h
    · rw [ba_ext h1, tle_refl] at h; cases h
    · exact h1
  exact ⟨this, tle_of_lt this⟩
theorem lt_not {s t : ByteArray} (h : bl s.toList t.toList = true) : tle t s = false := by
  cases h2 : tle t s with
  | false => rfl
  | true =>
    rcases tle_cases h2 with h3 | h3
    · rw [bl_asymm _ _ h] at h3; cases h3
    · subst h3; rw [bl_irr] at h; cases h
abbrev Sorted (l : List ByteArray) : Prop := l.Pairwise (fun a b => tle a b = true)

/-- Two rising lists of the same texts are one. -/
theorem sorted_perm (a : List ByteArray) : ∀ b : List ByteArray, Sorted a → Sorted b → a.Perm b → a = b := by
  induction a with
  | nil => intro b _ _ h; exact (List.nil_perm.1 h).symm
  | cons x a ih =>
    intro b ha hb h
    cases b with
    | nil => exact absurd (h.length_eq) (by simp)
    | cons y b =>
      obtain ⟨hxa, ha'⟩ := List.pairwise_cons.1 ha
      obtain ⟨hyb, hb'⟩ := List.pairwise_cons.1 hb
      have e : x = y := by
        have hx : x ∈ y :: b := h.mem_iff.1 (List.mem_cons_self)
        have hy : y ∈ x :: a := h.mem_iff.2 (List.mem_cons_self)
        rcases List.mem_cons.1 hx with e | hx
        · exact e
        · rcases List.mem_cons.1 hy with e | hy
          · exact e.symm
          · exact tle_antisymm (hxa y hy) (hyb x hx)
      subst e
      rw [ih b ha' hb' (List.Perm.cons_inv h)]

/-- A text put where it belongs: behind those that are not greater. -/
def insT (x : ByteArray) : List ByteArray → List ByteArray
  | [] => [x]
  | y :: l => if tle y x then y :: insT x l else x :: y :: l
def sortT (l : List ByteArray) : List ByteArray := l.foldl (fun acc x => insT x acc) []
theorem insT_perm (x : ByteArray) (l : List ByteArray) : (insT x l).Perm (x :: l) := by
  induction l with
  | nil => exact List.Perm.refl _
  | cons y l ih =>
    unfold insT
    by_cases h : tle y x = true
    · rw [if_pos h]; exact (List.Perm.cons y ih).trans (List.Perm.swap x y l)
    · rw [if_neg h]
theorem insT_sorted (x : ByteArray) (l : List ByteArray) (h : Sorted l) : Sorted (insT x l) := by
  induction l with
  | nil => exact List.pairwise_singleton _ _
  | cons y l ih =>
    obtain ⟨h1, h2⟩ := List.pairwise_cons.1 h
    unfold insT
    by_cases hy : tle y x = true
    · rw [if_pos hy]
      refine List.pairwise_cons.2 ⟨fun z hz => ?_, ih h2⟩
      rcases List.mem_cons.1 ((insT_perm x l).mem_iff.1 hz) with rfl | hz
      · exact hy
      · exact h1 z hz
    · rw [if_neg hy]
      have hxy : tle x y = true := (tle_not (by simpa using hy)).2
      refine List.pairwise_cons.2 ⟨fun z hz => ?_, h⟩
      rcases List.mem_cons.1 hz with rfl | hz
      · exact hxy
      · exact tle_trans hxy (h1 z hz)
theorem sortT_snoc (l : List ByteArray) (x : ByteArray) : sortT (l ++ [x]) = insT x (sortT l) := by unfold sortT; rw [List.foldl_append]; rfl
theorem fold_perm (l : List ByteArray) : ∀ acc : List ByteArray, (l.foldl (fun acc x => insT x acc) acc).Perm (acc ++ l) ∧ (Sorted acc → Sorted (l.foldl (fun acc x => insT x acc) acc)) := by
  induction l with
  | nil => intro acc; exact ⟨by simp, fun h => h⟩
  | cons x l ih =>
    intro acc
    obtain ⟨h1, h2⟩ := ih (insT x acc)
    refine ⟨h1.trans ?_, fun h => h2 (insT_sorted x acc h)⟩
    exact ((insT_perm x acc).append_right l).trans (by simpa using (List.perm_middle (a := x) (l₁ := acc) (l₂ := l)).symm)
theorem sortT_perm (l : List ByteArray) : (sortT l).Perm l := (fold_perm l []).1
theorem sortT_sorted (l : List ByteArray) : Sorted (sortT l) := (fold_perm l []).2 List.Pairwise.nil
theorem sortT_eq {a l : List ByteArray} (h : Sorted a) (hp : a.Perm l) : a = sortT l := sorted_perm a _ h (sortT_sorted l) (hp.trans (sortT_perm l).symm)
theorem sortT_length (l : List ByteArray) : (sortT l).length = l.length := (sortT_perm l).length_eq

/-- Two rising lists merged. -/
def mergeL : List ByteArray → List ByteArray → List ByteArray
  | [], b => b
  | x :: a, [] => x :: a
  | x :: a, y :: b => if tle x y then x :: mergeL a (y :: b) else y :: mergeL (x :: a) b
termination_by a b => a.length + b.length
theorem mergeL_nil (a : List ByteArray) : mergeL a [] = a := by cases a <;> simp [mergeL]
theorem mergeL_left {x y : ByteArray} {a b : List ByteArray} (h : tle x y = true) : mergeL (x :: a) (y :: b) = x :: mergeL a (y :: b) := by rw [mergeL, if_pos h]
theorem mergeL_right {x y : ByteArray} {a b : List ByteArray} (h : tle x y = false) : mergeL (x :: a) (y :: b) = y :: mergeL (x :: a) b := by rw [mergeL, if_neg (by rw [h]; decide)]
theorem mergeL_perm (a : List ByteArray) : ∀ b : List ByteArray, (mergeL a b).Perm (a ++ b) := by
  induction a with
  | nil => intro b; simp [mergeL]
  | cons x a ih =>
    intro b
    induction b with
    | nil => rw [mergeL_nil]; simp
    | cons y b ihb =>
      cases h : tle x y with
      | true => rw [mergeL_left h]; exact List.Perm.cons x (ih (y :: b))
      | false =>
        rw [mergeL_right h]
        exact (List.Perm.cons y ihb).trans (List.perm_middle (a := y) (l₁ := x :: a) (l₂ := b)).symm
theorem mergeL_length (a b : List ByteArray) : (mergeL a b).length = a.length + b.length := by rw [(mergeL_perm a b).length_eq, List.length_append]
theorem mergeL_sorted (a : List ByteArray) : ∀ b : List ByteArray, Sorted a → Sorted b → Sorted (mergeL a b) := by
  induction a with
  | nil => intro b _ hb; simpa [mergeL] using hb
  | cons x a ih =>
    intro b ha hb
    induction b with
    | nil => rw [mergeL_nil]; exact ha
    | cons y b ihb =>
      obtain ⟨hxa, ha'⟩ := List.pairwise_cons.1 ha
      obtain ⟨hyb, hb'⟩ := List.pairwise_cons.1 hb
      cases h : tle x y with
      | true =>
        rw [mergeL_left h]
        refine List.pairwise_cons.2 ⟨fun z hz => ?_, ih (y :: b) ha' hb⟩
        rcases List.mem_append.1 ((mergeL_perm a (y :: b)).mem_iff.1 hz) with hz | hz
        · exact hxa z hz
        · rcases List.mem_cons.1 hz with rfl | hz
          · exact h
          · exact tle_trans h (hyb z hz)
      | false =>
        rw [mergeL_right h]
        have hyx := (tle_not h).2
        refine List.pairwise_cons.2 ⟨fun z hz => ?_, ihb hb'⟩
        rcases List.mem_append.1 ((mergeL_perm (x :: a) b).mem_iff.1 hz) with hz | hz
        · rcases List.mem_cons.1 hz with rfl | hz
          · exact hyx
          · exact tle_trans hyx (hxa z hz)
        · exact hyb z hz

/-- Runs of s merged by twos. -/
def passL (s : Nat) (xs : List ByteArray) : List ByteArray :=
  if _h : xs = [] ∨ s = 0 then xs else mergeL (xs.take s) ((xs.drop s).take s) ++ passL s (xs.drop (2 * s))
termination_by xs.length
decreasing_by
  have : 0 < xs.length := List.length_pos_iff.2 (fun e => _h (.inl e))
  rw [List.length_drop]
  have : s ≠ 0 := fun e => _h (.inr e)
  omega
theorem passL_nil (s : Nat) : passL s [] = [] := by rw [passL, dif_pos (.inl rfl)]
theorem passL_cons {s : Nat} {xs : List ByteArray} (hx : 0 < xs.length) (hs : 0 < s) : passL s xs = mergeL (xs.take s) ((xs.drop s).take s) ++ passL s (xs.drop (2 * s)) := by
  rw [passL, dif_neg (fun h => by
    rcases h with h | h
    · rw [h] at hx; cases hx
    · omega)]
theorem passL_ind {s : Nat} (hs : 0 < s) {P : List ByteArray → Prop} (h0 : P []) (h1 : ∀ xs, 0 < xs.length → P (xs.drop (2 * s)) → P xs) (xs : List ByteArray) : P xs := by
  obtain ⟨n, hn⟩ : ∃ n, xs.length = n := ⟨_, rfl⟩
  induction n using Nat.strongRecOn generalizing xs with
  | ind n ih =>
    by_cases hx : xs.length = 0
    · rw [List.eq_nil_of_length_eq_zero hx]; exact h0
    · exact h1 xs (by omega) (ih (xs.drop (2 * s)).length (by rw [List.length_drop]; omega) _ rfl)
theorem take2 (s : Nat) (xs : List ByteArray) : xs.take s ++ (xs.drop s).take s = xs.take (2 * s) := by rw [← List.take_add, Nat.two_mul]
theorem passL_perm {s : Nat} (hs : 0 < s) (xs : List ByteArray) : (passL s xs).Perm xs := by
  refine passL_ind hs (P := fun xs => (passL s xs).Perm xs) (by rw [passL_nil]) (fun xs hx ih => ?_) xs
  rw [passL_cons hx hs]
  have := (mergeL_perm (xs.take s) ((xs.drop s).take s)).append ih
  rw [take2, List.take_append_drop] at this
  exact this
theorem passL_length {s : Nat} (hs : 0 < s) (xs : List ByteArray) : (passL s xs).length = xs.length := (passL_perm hs xs).length_eq
/-- Each run of s rises. -/
def Runs (s : Nat) (xs : List ByteArray) : Prop := ∀ i, Sorted ((xs.drop (i * s)).take s)
theorem runs_one (xs : List ByteArray) : Runs 1 xs := by
  intro i
  cases h : xs.drop (i * 1) with
  | nil => simp
  | cons x r => simp
theorem runs_all {s : Nat} {xs : List ByteArray} (h : Runs s xs) (hs : xs.length ≤ s) : Sorted xs := by
  have := h 0
  rwa [Nat.zero_mul, List.drop_zero, List.take_of_length_le hs] at this
theorem runs_pass {s : Nat} (hs : 0 < s) (xs : List ByteArray) : Runs s xs → Runs (2 * s) (passL s xs) := by
  refine passL_ind hs (P := fun xs => Runs s xs → Runs (2 * s) (passL s xs)) (fun _ i => by rw [passL_nil]; simp) (fun xs hx ih hr => ?_) xs
  have hl : (mergeL (xs.take s) ((xs.drop s).take s)).length = min (2 * s) xs.length := by
    rw [mergeL_length, List.length_take, List.length_take, List.length_drop]; omega
  have hm : Sorted (mergeL (xs.take s) ((xs.drop s).take s)) := by
    refine mergeL_sorted _ _ ?_ ?_
    · have := hr 0; rwa [Nat.zero_mul, List.drop_zero] at this
    · have := hr 1; rwa [Nat.one_mul] at this
  have hd : Runs s (xs.drop (2 * s)) := fun i => by
    have := hr (i + 2)
    rw [List.drop_drop]
    rwa [show (i + 2) * s = 2 * s + i * s by rw [Nat.add_mul, Nat.add_comm]] at this
  have ih' := ih hd
  rw [passL_cons hx hs]
  intro i
  by_cases hlen : 2 * s ≤ xs.length
  · cases i with
    | zero =>
      rw [Nat.zero_mul, List.drop_zero, List.take_append_of_le_length (by omega), List.take_of_length_le (by omega)]
      exact hm
    | succ i =>
      have e : (i + 1) * (2 * s) = (mergeL (xs.take s) ((xs.drop s).take s)).length + i * (2 * s) := by rw [hl, Nat.add_mul]; omega
      rw [e, ← List.drop_drop, List.drop_left]
      exact ih' i
  · have hn : xs.drop (2 * s) = [] := List.drop_of_length_le (by omega)
    rw [hn, passL_nil, List.append_nil]
    cases i with
    | zero => rw [Nat.zero_mul, List.drop_zero, List.take_of_length_le (by omega)]; exact hm
    | succ i => rw [List.drop_of_length_le (by rw [hl, Nat.add_mul]; omega)]; simp
end Go.Proofs.Ytecpedecgcaeoaa.Tx
