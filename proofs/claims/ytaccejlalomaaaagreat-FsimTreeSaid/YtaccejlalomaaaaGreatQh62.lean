/- Texts put together: Ht0. -/
import Derived.Test.YtaccejlalomaaaaGreatQh48
import Derived.Deep.QuietTactic
/- A region that draws its order, whose operations only read, and whose callees lay blocks of their own; what stands in a file system behind any calls. -/
set_option linter.unusedVariables false
set_option linter.unusedSimpArgs false
namespace Go.Proofs.YtaccejlalomaaaaGreat.Tx
open Go.RowKit Go.Maps Go.Proofs.YtaccejlalomaaaaGreat.Sh

/-- A world in which all that lay in w lies as it did. -/
structure After (w : World) where
  w' : World
  h : Below w.heap.size w w'
instance (w : World) : Inhabited (After w) := ⟨⟨w, Below.refl _ _⟩⟩
theorem quiet_below {P : Program} {id : Nat} {Q : Exit → Act → World → Prop} {a : Act} {w : World} {l : List Oper} (hm : P.follows .mixedOrders = true) (hB : Region.lexB .any l.toArray = true)
    (h : wpQuiet P l.toArray (fun w' => ∃ p : After w, w' = p.w') (fun a' => ∀ w', (∃ p : After w, w' = p.w') → Q .normal a' w') l a) : (Code.region id l.toArray true).wp P Q a w :=
  wp_region_quiet (C := fun w' => ∃ p : After w, w' = p.w') hm hB ⟨⟨w.drew, (Below.refl _ _).drew⟩, rfl⟩ (by simpa using h)
theorem Calls.after_of {P : Program} {f : FuncId} {args : Array Value} {w : World} {p : After w} {v : Value} (h : Calls P f args p.w' fun e w' => e = .returned v ∧ Below p.w'.heap.size p.w' w') : Calls P f args p.w' fun e w'' => e = .returned v ∧ ∃ q : After w, w'' = q.w' :=
  h.mono fun _ w'' ⟨he, hb⟩ => ⟨he, ⟨w'', p.h.trans (hb.mono p.h.size)⟩, rfl⟩
theorem Calls.after_same {P : Program} {f : FuncId} {args : Array Value} {w : World} {p : After w} {v : Value} (h : Calls P f args p.w' fun e w' => e = .returned v ∧ p.w' = w') : Calls P f args p.w' fun e w'' => e = .returned v ∧ ∃ q : After w, w'' = q.w' :=
  h.mono fun _ w'' ⟨he, hb⟩ => ⟨he, p, hb.symm⟩
/-- The rows of a file system, one by one. -/
theorem used_take1 {R : List RowM} {k : Nat} {r : RowM} (h : R[k]? = some r) : usedM (R.take (k + 1)) = usedM (R.take k) + r.f.data.length := by
  obtain ⟨hl, e⟩ := List.getElem?_eq_some_iff.1 h
  rw [List.take_succ_eq_append_getElem hl, used_app, e]
  rfl
theorem ord_at {R : List RowM} (ho : Ord R) {i j : Nat} {a c : RowM} (hi : R[i]? = some a) (hj : R[j]? = some c) (hij : i < j) : bl a.path c.path = true := by
  obtain ⟨h1, e1⟩ := List.getElem?_eq_some_iff.1 hi
  obtain ⟨h2, e2⟩ := List.getElem?_eq_some_iff.1 hj
  have := List.pairwise_iff_getElem.1 ho i j h1 h2 hij
  rw [e1, e2] at this
  exact this
theorem no_parent {R : List RowM} {t : Int} (h : RowsOk R t) {r : RowM} (hr : r ∈ R) {q : List UInt8} (hq : q ∈ parentsL r.path) : hasT ((pathsM R).map str) (str q) = false := by
  refine hasT_no (fun hm => ?_)
  obtain ⟨x, hx, e⟩ := List.mem_map.1 hm
  have e := str_inj e
  subst e
  unfold pathsM at hx
  obtain ⟨a, ha, rfl⟩ := List.mem_map.1 hx
  have h1 := h.tree a ha r hr
  rw [(under_iff _ _).2 hq] at h1
  cases h1
end Go.Proofs.YtaccejlalomaaaaGreat.Tx
