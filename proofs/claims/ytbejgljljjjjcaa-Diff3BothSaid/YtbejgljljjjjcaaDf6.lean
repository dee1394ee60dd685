/- Chunks' answer, over plain values. (No package's code in it.) -/
import Derived.Test.YtbejgljljjjjcaaDf5
set_option linter.unusedVariables false
set_option linter.unusedSimpArgs false
namespace Go.Proofs.Ytbejgljljjjjcaa.Ln
open Go.RowKit Go.Proofs.Ytbejgljljjjjcaa.Sh Go.Proofs.Ytbejgljljjjjcaa.Tx

/-- What both matches keep. -/
def kepL (o a b : List ByteArray) : List Tri := keptL (prsL 0 0 o a) (prsL 0 0 o b)
/-- The chunks. -/
def chunksL (o a b : List ByteArray) : List CkM := chkL o a b (endT o a b) (kepL o a b) (0, 0, 0) (0, 0, 0)
def cErr (o a b : List ByteArray) : Int := if o.length ≤ 200 ∧ a.length ≤ 200 ∧ b.length ≤ 200 then 0 else 14
def cLst (o a b : List ByteArray) : List CkM := if o.length ≤ 200 ∧ a.length ≤ 200 ∧ b.length ≤ 200 then chunksL o a b else []
theorem prsOk_all (o a : List ByteArray) : PrsOk o a 0 0 (prsL 0 0 o a) := prs_ok (A := o) (B := a) _ 0 0 (a := o) (b := a) (Nat.le_refl _) rfl rfl (Nat.zero_le _) (Nat.zero_le _)
theorem kep_ok (o a b : List ByteArray) : KOk o a b (0, 0, 0) (kepL o a b) := kept_ok _ (Nat.le_refl _) (prsOk_all o a) (prsOk_all o b) (Nat.zero_le _) (Nat.zero_le _) (Nat.zero_le _) (Nat.zero_le _)
theorem kep_rest (o a b : List ByteArray) : kepL o a b = restL (atL (prsL 0 0 o a)) (atL (prsL 0 0 o b)) o.length 0 := kept_rest o.length 0 (prsOk_all o a) (prsOk_all o b) (Nat.zero_add _)
theorem prs_small {o a : List ByteArray} (ho : o.length ≤ 200) (ha : a.length ≤ 200) : (prsL 0 0 o a).length ≤ 200 ∧ ∀ p ∈ prsL 0 0 o a, p.1 < o.length ∧ p.2 < a.length := by
  constructor
  · rw [prs_short _ 0 0 (Nat.le_refl _)]
    have := lenL_le _ o a (Nat.le_refl _)
    omega
  · intro p hp
    obtain ⟨i, hi⟩ := List.getElem?_of_mem hp
    obtain ⟨p1, p2⟩ := p
    have := prsOk_at (prsOk_all o a) i p1 p2 hi
    exact ⟨this.2.2.1, this.2.2.2.1⟩
theorem mErr3 (a b : List ByteArray) : (mErr a b = 0 ∧ mPrs a b = prsL 0 0 a b ∧ a.length ≤ 200 ∧ b.length ≤ 200) ∨ (mErr a b = 14 ∧ mPrs a b = [] ∧ ¬ (a.length ≤ 200 ∧ b.length ≤ 200)) := by
  by_cases h : a.length ≤ 200 ∧ b.length ≤ 200
  · exact .inl ⟨if_pos h, if_pos h, h⟩
  · exact .inr ⟨if_neg h, if_neg h, h⟩
def ChkP (T : TypeId) (w : World) (o a b : List ByteArray) (e : Ending) (w' : World) : Prop := ∃ v, e = .returned (.tuple #[v, .int .i64 (cErr o a b)]) ∧ OwnCk T w' w.heap.size v (cLst o a b) ∧ Below w.heap.size w w'
theorem cut_snoc {α : Type} (l : List α) (i n : Nat) (x : α) (h : l[i + n]? = some x) : cutL l i (i + (n + 1)) = cutL l i (i + n) ++ [x] := by
  unfold cutL
  rw [show i + (n + 1) - i = n + 1 by omega, show i + n - i = n by omega, List.take_add_one, List.getElem?_drop, h]
  rfl
theorem cut_none {α : Type} (l : List α) (i : Nat) : cutL l i i = [] := by
  unfold cutL
  rw [Nat.sub_self, List.take_zero]
theorem cut_len {α : Type} (l : List α) (i j : Nat) (hj : j ≤ l.length) : (cutL l i j).length = j - i := by
  unfold cutL
  rw [List.length_take, List.length_drop]
  omega
/-- One line more that stands together. -/
theorem rest_take {f g : Nat → Option Nat} {n m : Nat} {t : Tri} (h : n = m + 1) (hf : f t.1 = some t.2.1) (hg : g t.1 = some t.2.2) : restL f g n t.1 = t :: restL f g m (t.1 + 1) := by
  subst h
  exact rest_some hf hg
theorem chk_take {o a b : List ByteArray} {e s t : Tri} {K K' : List Tri} (h : K = t :: K') : chkL o a b e K s t = chkL o a b e K' s (onT t 1) := by
  rw [h, chkL, if_pos rfl]
theorem tog_zero {K : List Tri} {t : Tri} (h : K[0]? ≠ some t) : togL K t = 0 := by
  cases K with
  | nil => rfl
  | cons x K => exact if_neg (fun e => h (by rw [List.getElem?_cons_zero, e]))
theorem own_apart {w : World} {B g : Nat} {E T : TypeId} {A : Option Addr} {n c : Nat} {vs : List Value} {cs : Array Value} (h : OwnV E w B (.slice A n c) vs) (hg : Blk w g T cs) (hne : T ≠ E) : (Value.slice A n c).ownBlock ≠ some g := by
  rcases h.blk with ⟨he, _⟩ | ⟨g', c', cur', he, _, _, hg', _⟩
  · rw [he]; simp [Value.ownBlock]
  · rw [he]
    intro e
    have e' : g' = g := by simpa [Value.ownBlock] using e
    subst e'
    exact Blk.ne_ hg hg' hne rfl
end Go.Proofs.Ytbejgljljjjjcaa.Ln
