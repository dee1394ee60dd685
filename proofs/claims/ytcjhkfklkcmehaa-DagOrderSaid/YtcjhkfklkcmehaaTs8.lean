/- The reference's Sort and Unique: texts put where they belong. -/
import Derived.Test.YtcjhkfklkcmehaaTs7
namespace Go.Proofs.Ytcjhkfklkcmehaa.Tx
open Go.RowKit Go.Proofs.Ytcjhkfklkcmehaa.Sh

/-- A front of a slice of one's own is one's own. -/
theorem OwnV.front {E : TypeId} {w : World} {B n c : Nat} {A : Option Addr} {vs : List Value} (h : OwnV E w B (.slice A n c) vs) (k : Nat) (hk : k ≤ vs.length) (hA : A ≠ none) : OwnV E w B (.slice A k c) (vs.take k) := by
  rcases h.blk with ⟨he, _⟩ | ⟨g, c', cur, he, hb, _, hg, hc, hm, hs, ht⟩
  · injection he with e1 _ _; exact absurd e1 hA
  · injection he with e1 e2 e3
    subst e1 e3
    have el : k = (vs.take k).length := by rw [List.length_take]; omega
    conv => arg 4; rw [el]
    refine OwnV.mk hb hg (by rw [List.length_take]; omega) hm hs ?_
    rw [List.length_take, Nat.min_eq_left hk, ← ht, List.take_take, Nat.min_eq_left hk]
theorem ins_sorted {out : List ByteArray} {x : ByteArray} {k : Nat} (h : Sorted out) (hk : k ≤ out.length) (h1 : ∀ j, j < k → ∀ (hj : j < out.length), tle out[j] x = true) (h2 : ∀ j, k ≤ j → ∀ (hj : j < out.length), tle x out[j] = true) : Sorted (out.take k ++ ([x] ++ out.drop k)) := by
  refine List.pairwise_append.2 ⟨h.sublist (List.take_sublist _ _), List.pairwise_append.2 ⟨List.pairwise_singleton _ _, h.sublist (List.drop_sublist _ _), fun y hy z hz => ?_⟩, fun y hy z hz => ?_⟩
  · obtain rfl := List.mem_singleton.1 hy
    obtain ⟨i, hi, rfl⟩ := List.mem_iff_getElem.1 hz
    rw [List.length_drop] at hi
    rw [List.getElem_drop]
    exact h2 _ (by omega) _
  · obtain ⟨i, hi, rfl⟩ := List.mem_iff_getElem.1 hy
    rw [List.length_take] at hi
    rw [List.getElem_take]
    rcases List.mem_append.1 hz with hz | hz
    · obtain rfl := List.mem_singleton.1 hz
      exact h1 i (by omega) _
    · obtain ⟨j, hj, rfl⟩ := List.mem_iff_getElem.1 hz
      rw [List.length_drop] at hj
      rw [List.getElem_drop]
      exact List.pairwise_iff_getElem.1 h i (k + j) (by omega) (by omega) (by omega)
theorem ins_perm (out : List ByteArray) (x : ByteArray) (k : Nat) : (out.take k ++ ([x] ++ out.drop k)).Perm (out ++ [x]) := by
  have h1 : (out.take k ++ ([x] ++ out.drop k)).Perm ([x] ++ (out.take k ++ out.drop k)) := by
    rw [← List.append_assoc, ← List.append_assoc]
    exact (List.perm_append_comm (l₁ := out.take k) (l₂ := [x])).append_right _
  rw [List.take_append_drop] at h1
  exact h1.trans List.perm_append_comm

theorem texts_front (A : Option Addr) (l c k : Nat) (hkc : k ≤ c) (w : World) : (Instr.slice 23 (.slice A l c) none (some (.int .i64 (k : Int))) none).run Try.prog w = .ok (.slice A k c) w := by
  rw [run_slice_h w 23 A l c Try.underlying23 .i64 k (by omega) (by omega), size_str]
  simp only [Result.andThen_ok, sliced, Int.toNat_natCast]
  by_cases h : c = 0
  · subst h; simp
  · have e : A.map (fun a => a.add 0) = A := by cases A <;> simp [Addr.add]
    simp [h, e]
theorem texts_back (A : Option Addr) (l c k : Nat) (hkl : k ≤ l) (w : World) : (Instr.slice 23 (.slice A l c) (some (.int .i64 (k : Int))) none none).run Try.prog w = .ok (.slice (if c = k then A else A.map (·.add (k * 1))) (l - k) (c - k)) w := by
  rw [run_slice_l w 23 A l c Try.underlying23 .i64 k (by omega) (by omega), size_str]
  rfl
theorem ins_cases {out : List ByteArray} {x : ByteArray} {p : Nat} (hp : p ≤ out.length) (hso : Sorted out) (hge : ∀ j, p ≤ j → ∀ (hj : j < out.length), tle x out[j] = true) :
    p = 0 ∨ ∃ (r : Nat) (y : ByteArray), p = r + 1 ∧ out[r]? = some y ∧ ((tle y x = true ∧ ∀ j, j < p → ∀ (hj : j < out.length), tle out[j] x = true) ∨ (tle y x = false ∧ ∀ j, r ≤ j → ∀ (hj : j < out.length), tle x out[j] = true)) := by
  cases p with
  | zero => exact .inl rfl
  | succ r =>
    refine .inr ⟨r, out[r], rfl, List.getElem?_eq_getElem (by omega), ?_⟩
    cases h : tle out[r] x with
    | true =>
      refine .inl ⟨rfl, fun j h1 hj => ?_⟩
      rcases Nat.lt_or_ge j r with h2 | h2
      · exact tle_trans (List.pairwise_iff_getElem.1 hso j r hj (by omega) h2) h
      · obtain rfl : j = r := by omega
        exact h
    | false =>
      refine .inr ⟨rfl, fun j h1 hj => ?_⟩
      rcases Nat.lt_or_ge r j with h2 | h2
      · exact hge j (by omega) hj
      · obtain rfl : j = r := by omega
        exact (tle_not h).2
/-- What stands when a text has been put where it belongs. -/
theorem ins_own {W W1 : World} {B p co n : Nat} {Ao : Option Addr} {out : List ByteArray} (ho : OwnV 9 W B (.slice Ao n co) (out.map sv)) (hn : out.length = n) (hp : p ≤ n) (hW1 : Below W.heap.size W W1) :
    OwnV 9 W1 B (.slice Ao p co) ((out.take p).map sv) := by
  have h1 := ho.below hW1
  cases Ao with
  | none =>
    have hn0 : n = 0 ∧ co = 0 := by
      rcases ho.blk with ⟨he, _⟩ | ⟨_, _, _, he, _⟩
      · injection he with _ e2 e3; exact ⟨e2, e3⟩
      · injection he with e1 _ _; cases e1
    obtain ⟨rfl, rfl⟩ := hn0
    obtain rfl : p = 0 := by omega
    rw [List.take_zero]
    exact OwnV.nil_ _ _
  | some a =>
    have := h1.front p (by rw [List.length_map]; omega) (by intro e; cases e)
    rwa [List.map_take]

theorem one_more (x : ByteArray) (l : List ByteArray) : ∀ u ∈ [sv x] ++ l.map sv, u.oneCell' = true := fun u hu => sv_one (x :: l) u (by rw [List.map_cons]; exact hu)
theorem row_one (W : World) (x : ByteArray) : (W.alloc (.cells #[.string x] 9)).ownsRow W.heap.size 9 1 (.slice (some ⟨W.heap.size, 0, none⟩) 1 1) 1 [sv x] :=
  ⟨rfl, Or.inr ⟨W.heap.size, 1, #[.string x], rfl, Nat.le_refl _, heap_alloc_new W _, Nat.le_refl _, by unfold maxLen; omega, by simp, by simp [sv]⟩⟩
theorem row_of {w : World} {B : Nat} {v : Value} {ts : List ByteArray} (h : OwnV 9 w B v (ts.map sv)) (n : Nat) (hn : ts.length = n) : w.ownsRow B 9 1 v n (ts.map sv) := by unfold OwnV at h; rwa [List.length_map, hn] at h
theorem row_slice {w : World} {B n : Nat} {v : Value} {vs : List Value} (h : w.ownsRow B 9 1 v n vs) : ∃ A c, v = .slice A n c ∧ Reads w w.heap.size 1 A n vs := by
  have hl : vs.length = n := by have := h.1; omega
  subst hl
  have h' : OwnV 9 w B v vs := h
  obtain ⟨A, c, hv, _, _, hr⟩ := h'.slv.len
  exact ⟨A, c, hv, hr⟩
theorem row_done {w : World} {B p m : Nat} {v : Value} {out : List ByteArray} {x : ByteArray} (hp : (out.take p).length = p) (hm : 1 + (out.drop p).length = m) (h : w.ownsRow B 9 1 v (p + m) ((out.take p).map sv ++ ([sv x] ++ (out.drop p).map sv))) : OwnV 9 w B v ((out.take p ++ ([x] ++ out.drop p)).map sv) := by
  unfold OwnV
  rw [List.length_map, List.length_append, hp, List.length_append, List.length_singleton, hm, List.map_append, List.map_append]
  exact h

end Go.Proofs.Ytcjhkfklkcmehaa.Tx
