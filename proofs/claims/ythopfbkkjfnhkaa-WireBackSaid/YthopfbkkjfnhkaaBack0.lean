/- Numbers one behind the other: plain lists; what the two appends leave. -/
import Derived.Test.YthopfbkkjfnhkaaNums
import Derived.Test.YthopfbkkjfnhkaaB1
namespace Go.Proofs.Ythopfbkkjfnhkaa
open Go.RowKit

def okN (n : Int) : Bool := decide (0 ≤ n) && decide (n ≤ 72057594037927936)
theorem okN_yes {n : Int} (h0 : 0 ≤ n) (h1 : n ≤ 72057594037927936) : okN n = true := by unfold okN; rw [decide_eq_true h0, decide_eq_true h1]; rfl
theorem okN_no {n : Int} (h : n < 0 ∨ 72057594037927936 < n) : okN n = false := by
  unfold okN
  rw [Bool.and_eq_false_iff]
  rcases h with h | h
  · left; exact decide_eq_false (by omega)
  · right; exact decide_eq_false (by omega)
def okI (ns : List Int) : List Int := ns.filter okN
def flatB (ns : List Int) : List UInt8 := ns.flatMap (fun n => putL n.toNat)
theorem flatB_append (a b : List Int) : flatB (a ++ b) = flatB a ++ flatB b := by unfold flatB; rw [List.flatMap_append]
theorem flatB_one (n : Int) : flatB [n] = putL n.toNat := by unfold flatB; simp
theorem okI_take (ns : List Int) (k : Nat) (n : Int) (h : ns[k]? = some n) : okI (ns.take (k + 1)) = okI (ns.take k) ++ (if okN n = true then [n] else []) := by
  unfold okI
  rw [List.take_add_one, h, List.filter_append]
  congr 1
  by_cases hn : okN n = true <;> simp [hn]
theorem okI_ok (ns : List Int) : ∀ n ∈ okI ns, 0 ≤ n ∧ n ≤ 72057594037927936 := by
  intro n hn
  unfold okI okN at hn
  simpa using (List.mem_filter.1 hn).2
theorem flatB_len (ns : List Int) (h : ∀ n ∈ ns, 0 ≤ n ∧ n ≤ 72057594037927936) : (flatB ns).length ≤ 9 * ns.length := by
  induction ns with
  | nil => simp [flatB]
  | cons n r ih =>
    have e : flatB (n :: r) = putL n.toNat ++ flatB r := by unfold flatB; simp
    have h1 := ih (fun m hm => h m (List.mem_cons_of_mem _ hm))
    have h2 := h n (List.mem_cons_self)
    have h3 := putL_len9 (n := n.toNat) (by omega)
    rw [e, List.length_append, List.length_cons]
    omega
theorem okI_len (ns : List Int) (k : Nat) : (okI (ns.take k)).length ≤ k := by
  unfold okI
  exact Nat.le_trans (List.length_filter_le _ _) (List.length_take_le _ _)
/-- Reading the number at place k. -/
theorem flat_get (ns : List Int) (h : ∀ n ∈ ns, 0 ≤ n ∧ n ≤ 72057594037927936) (k : Nat) (hk : k < ns.length) :
    getR (flatB ns) ((flatB (ns.take k)).length : Nat) = (ns[k], ((flatB (ns.take (k + 1))).length : Int), 0) ∧ (flatB (ns.take k)).length < (flatB (ns.take (k + 1))).length := by
  have hn := h ns[k] (List.getElem_mem hk)
  have e1 : ns = ns.take k ++ [ns[k]] ++ ns.drop (k + 1) := by
    rw [List.append_assoc, List.singleton_append, ← List.drop_eq_getElem_cons hk, List.take_append_drop]
  have e2 : flatB ns = flatB (ns.take k) ++ putL ns[k].toNat ++ flatB (ns.drop (k + 1)) := by
    conv => lhs; rw [e1]
    rw [flatB_append, flatB_append, flatB_one]
  have e3 : flatB (ns.take (k + 1)) = flatB (ns.take k) ++ putL ns[k].toNat := by
    rw [List.take_succ_eq_append_getElem hk, flatB_append, flatB_one]
  have hg := getR_putL (n := ns[k].toNat) (by omega) (flatB (ns.take k)) (flatB (ns.drop (k + 1)))
  rw [← e2] at hg
  rw [hg, e3, List.length_append]
  refine ⟨?_, by have := putL_pos ns[k].toNat; omega⟩
  rw [Int.toNat_of_nonneg hn.1]
theorem getR_zero {bs : List UInt8} {i a b c : Int} (h : getR bs i = (a, b, c)) (hc : c ≠ 0) : a = 0 ∧ b = 0 := by
  unfold getR at h
  by_cases h1 : i < 0 ∨ (bs.length : Int) < i
  · rw [if_pos h1] at h; injection h with h2 h3; injection h3 with h3 _; exact ⟨h2.symm, h3.symm⟩
  · rw [if_neg h1] at h
    by_cases h4 : (getE (bs.drop i.toNat)).2.2 = 0
    · rw [if_pos h4] at h; injection h with h2 h3; injection h3 with h3 h5; exact absurd h5.symm hc
    · rw [if_neg h4] at h; injection h with h2 h3; injection h3 with h3 _; exact ⟨h2.symm, h3.symm⟩
/-- What has been read is a number, put just so. -/
theorem getR_read {bs : List UInt8} {i a b : Int} (h : getR bs i = (a, b, 0)) : ∃ (k m n : Nat), i = k ∧ b = ((k + m : Nat) : Int) ∧ a = n ∧ n ≤ 72057594037927936 ∧ k + m ≤ bs.length ∧ 0 < m ∧ putL n = (bs.drop k).take m := by
  by_cases h1 : i < 0 ∨ (bs.length : Int) < i
  · rw [getR_range h1] at h; injection h with _ h; injection h with _ h; cases h
  · obtain ⟨k, rfl⟩ := Int.eq_ofNat_of_zero_le (show 0 ≤ i by omega)
    have hk : k ≤ bs.length := by omega
    by_cases hc : cont (bs.drop k) = (bs.drop k).length
    · rw [getR_short hk hc] at h; injection h with _ h; injection h with _ h; cases h
    · have hc' : cont (bs.drop k) < (bs.drop k).length := by have := cont_le (bs.drop k); omega
      cases ho : okL ((bs.drop k).take (cont (bs.drop k) + 1)) with
      | false => rw [getR_form hk hc' ho] at h; injection h with _ h; injection h with _ h; cases h
      | true =>
        rw [getR_ok hk hc' ho] at h
        injection h with h2 h3
        injection h3 with h3 _
        have ho2 := ho
        unfold okL at ho2
        rw [Bool.and_eq_true] at ho2
        rw [List.length_drop] at hc'
        exact ⟨k, cont (bs.drop k) + 1, _, rfl, by rw [← h3]; omega, h2.symm, of_decide_eq_true ho2.2, by omega, by omega, beq_iff_eq.1 ho2.1⟩

theorem Own.readsOf {w : World} {B n c : Nat} {A : Option Addr} {bs : List UInt8} (h : Own w B (.slice A n c) bs) : Reads w w.heap.size 1 A n (bs.map bv) := by
  obtain ⟨A', c', he, _, _, hI, _⟩ := h.sl
  injection he with e1 e2 _
  rw [e1, e2]
  exact hI.reads
theorem reads_newv (w : World) (E : TypeId) (u : Value) : Reads (w.alloc (.cells #[u] E)) (w.heap.size + 1) 1 (some ⟨w.heap.size, 0, none⟩) 1 [u] := by
  refine ⟨rfl, fun _ => ⟨_, rfl, by simp, fun j v hv => ?_⟩⟩
  rw [Addr.add_mid, cell_of_row _ _ _ #[u] E (0, 0) (heap_alloc_new w _), Nat.zero_add, ← hv]
  simp
theorem reads_blk {w : World} {g : Nat} {E : TypeId} {u : Value} (h : Blk w g E #[u]) : Reads w w.heap.size 1 (some ⟨g, 0, none⟩) 1 [u] := by
  refine ⟨rfl, fun _ => ⟨_, rfl, h.lt, fun j v hv => ?_⟩⟩
  rw [Addr.add_mid, h.cell, Nat.zero_add, ← hv]
  simp
theorem iv_one1 (n : Int) : ∀ u ∈ [iv n], u.oneCell' = true := iv_one [n]

/-- All that was put, and the numbers. -/
def Both (w : World) (B : Nat) (xs : List UInt8) (ys : List Int) (a b : Value) (W : World) : Prop := Own W B a xs ∧ OwnV 3 W B b (ys.map iv) ∧ Below w.heap.size w W
theorem both_of {w W : World} {B : Nat} {xs : List UInt8} {ys : List Int} {n : Int} {a b : Value} (h1 : Own W B a xs) (h2 : W.ownsRow B 3 1 b (ys.length + 1) (ys.map iv ++ [iv n])) (h3 : Below w.heap.size w W) : Both w B xs (ys ++ [n]) a b W := by
  refine ⟨h1, ?_, h3⟩
  unfold OwnV
  rw [List.map_append]
  simpa using h2

theorem rows_unlike {w : World} {B B' : Nat} {E E' : TypeId} {v v' : Value} {n n' : Nat} {xs xs' : List Value} (h : w.ownsRow B E 1 v n xs) (h' : w.ownsRow B' E' 1 v' n' xs') (hne : E ≠ E') : v.ownBlock = none ∨ v.ownBlock ≠ v'.ownBlock := by
  rcases h.2 with ⟨rfl, _⟩ | ⟨g, c, cur, rfl, _, hg, _⟩
  · exact .inl rfl
  · right
    rcases h'.2 with ⟨rfl, _⟩ | ⟨g', c', cur', rfl, _, hg', _⟩
    · simp [Value.ownBlock]
    · intro e
      have e' : g = g' := by simpa [Value.ownBlock] using e
      subst e'
      exact Blk.ne_ (t := E) (t' := E') hg hg' hne rfl
theorem own_of_row {w : World} {B : Nat} {v : Value} {xs px : List UInt8} {lx : Nat} (hl : px.length = lx) (h : w.ownsRow B 5 1 v (xs.length + lx) (xs.map bv ++ px.map bv)) : Own w B v (xs ++ px) := by
  unfold Own
  rw [List.length_append, List.map_append, hl]
  exact h
theorem below_own {B : Nat} {w W W' : World} {E : TypeId} {v : Value} {n : Nat} {xs : List Value} (hb : Below B w W) (hz : B ≤ W.heap.size) (ho : W.ownsRow B E 1 v n xs) (hg : W.grownBy W' v.ownBlock) : Below B w W' :=
  hb.grown hg hz (fun q hq => (World.ownsRow.lt ho q hq).1)
/-- A cell's block that was new stays, when another slice grows. -/
theorem kept_new {W W' : World} {g : Nat} {E : TypeId} {u v : Value} (hk : Blk W g E #[u]) (hlt : ∀ q, v.ownBlock = some q → q < g) (hg : W.grownBy W' v.ownBlock) : Reads W' W'.heap.size 1 (some ⟨g, 0, none⟩) 1 [u] :=
  reads_blk (hk.grown hg (fun e => by have := hlt g e.symm; omega))
end Go.Proofs.Ythopfbkkjfnhkaa
