/- Texts put together: Gr4. -/
import Derived.Test.YtecpedecgcaeoaaQg37
/- The document's Graph as one's own: what Add holds while it grows. -/
set_option linter.unusedVariables false
set_option linter.unusedSimpArgs false
namespace Go.Proofs.Ytecpedecgcaeoaa.Tx
open Go.RowKit Go.Proofs.Ytecpedecgcaeoaa.Sh

/-- The three slices of a graph, on the way. R: the rows with their texts. -/
structure Mid (Z : Nat → Prop) (w0 w : World) (g : Nat) (cs : Array Value) (x0 : Value) (l0 : List ByteArray) (x1 : Value) (rs : List Value) (x2 : Value) (l2 : List Int) (R : List (Value × List ByteArray)) : Prop where
  blk : Blk w g 33 cs
  gz : Z g
  o0 : OwnV 9 w 0 x0 (l0.map sv)
  o1 : OwnV 23 w 0 x1 rs
  o2 : OwnV 3 w 0 x2 (l2.map iv)
  z0 : ∀ k, x0.ownBlock = some k → Z k ∨ w0.heap.size ≤ k
  z1 : ∀ k, x1.ownBlock = some k → Z k ∨ w0.heap.size ≤ k
  z2 : ∀ k, x2.ownBlock = some k → Z k ∨ w0.heap.size ≤ k
  row : ∀ p ∈ R, OwnV 9 w 0 p.1 (p.2.map sv) ∧ (∀ k, p.1.ownBlock = some k → Z k ∨ w0.heap.size ≤ k) ∧ (p.1.ownBlock = none ∨ p.1.ownBlock ≠ x0.ownBlock)
  only : Only Z w0 w
section
variable {Z : Nat → Prop} {w0 w w' : World} {g : Nat} {cs : Array Value} {x0 x1 x2 : Value} {l0 : List ByteArray} {rs : List Value} {l2 : List Int} {R : List (Value × List ByteArray)}
theorem Mid.below (h : Mid Z w0 w g cs x0 l0 x1 rs x2 l2 R) (hb : Below w.heap.size w w') : Mid Z w0 w' g cs x0 l0 x1 rs x2 l2 R :=
  ⟨h.blk.below hb h.blk.lt, h.gz, h.o0.below hb, h.o1.below hb, h.o2.below hb, h.z0, h.z1, h.z2, fun p hp => ⟨(h.row p hp).1.below hb, (h.row p hp).2⟩, h.only.then_below hb⟩
theorem Mid.alloc (h : Mid Z w0 w g cs x0 l0 x1 rs x2 l2 R) (o : Obj) : Mid Z w0 (w.alloc o) g cs x0 l0 x1 rs x2 l2 R := h.below ((Below.refl _ _).alloc (Nat.le_refl _) o)
theorem Mid.drew (h : Mid Z w0 w g cs x0 l0 x1 rs x2 l2 R) : Mid Z w0 w.drew g cs x0 l0 x1 rs x2 l2 R := h.below (Below.refl _ _).drew
/-- A row more, new. -/
theorem Mid.more (h : Mid Z w0 w g cs x0 l0 x1 rs x2 l2 R) (hb : Below w.heap.size w w') {u : Value} {us : List ByteArray} (hu : OwnV 9 w' w.heap.size u (us.map sv)) : Mid Z w0 w' g cs x0 l0 x1 rs x2 l2 (R ++ [(u, us)]) := by
  have h' := h.below hb
  refine ⟨h'.blk, h'.gz, h'.o0, h'.o1, h'.o2, h'.z0, h'.z1, h'.z2, fun p hp => ?_, h'.only⟩
  rcases List.mem_append.1 hp with hp | hp
  · exact h'.row p hp
  · obtain rfl := List.mem_singleton.1 hp
    refine ⟨hu.base (Nat.zero_le _), fun k hk => .inr (Nat.le_trans h.only.size (hu.lt k hk).1), ?_⟩
    cases hk : u.ownBlock with
    | none => exact .inl rfl
    | some k =>
      refine .inr fun e => ?_
      have h1 := (hu.lt k hk).1
      have h2 := (h.o0.lt k e.symm).2
      omega
theorem own_step {E : TypeId} {v v' : Value} {k : Nat} (hz : ∀ k, v.ownBlock = some k → Z k ∨ w0.heap.size ≤ k) (hs : w0.heap.size ≤ w.heap.size) (hv : v'.ownBlock = v.ownBlock ∨ v'.ownBlock = some w.heap.size) : ∀ k, v'.ownBlock = some k → Z k ∨ w0.heap.size ≤ k := fun k hk => by
  rcases hv with e | e
  · rw [e] at hk
    exact hz k hk
  · rw [e] at hk
    injection hk with hk
    exact .inr (by omega)
theorem own_ne_of {E E' : TypeId} {B B' : Nat} {v v' : Value} {vs vs' : List Value} (h : OwnV E w B v vs) (h' : OwnV E' w B' v' vs') (hne : E ≠ E') : v.ownBlock = none ∨ v.ownBlock ≠ v'.ownBlock := h.unlike h' hne
theorem blk_ne_of {E E' : TypeId} {B : Nat} {cs : Array Value} {v : Value} {vs : List Value} (h : Blk w g E cs) (h' : OwnV E' w B v vs) (hne : E ≠ E') : some g ≠ v.ownBlock := by
  rcases h'.blk with ⟨rfl, _⟩ | ⟨g', c', cur', rfl, _, _, hg', _⟩
  · simp [Value.ownBlock]
  · intro e
    have e' : g = g' := by simpa [Value.ownBlock] using e
    subst e'
    exact Blk.ne_ h hg' hne rfl
theorem Mid.app0 (h : Mid Z w0 w g cs x0 l0 x1 rs x2 l2 R) {v' : Value} {l0' : List ByteArray} (hg : w.grownBy w' x0.ownBlock) (hv : v'.ownBlock = x0.ownBlock ∨ v'.ownBlock = some w.heap.size) (ho : OwnV 9 w' 0 v' (l0'.map sv)) : Mid Z w0 w' g cs v' l0' x1 rs x2 l2 R := by
  refine ⟨h.blk.grown hg (blk_ne_of h.blk h.o0 (by decide)), h.gz, ho, h.o1.kept hg (h.o1.unlike h.o0 (by decide)), h.o2.kept hg (h.o2.unlike h.o0 (by decide)), own_step (E := 9) (k := 0) h.z0 h.only.size hv, h.z1, h.z2, fun p hp => ?_, h.only.grown hg h.z0⟩
  obtain ⟨h1, h2, h3⟩ := h.row p hp
  refine ⟨h1.kept hg h3, h2, ?_⟩
  rcases hv with e | e
  · rw [e]; exact h3
  · rw [e]
    cases hk : p.1.ownBlock with
    | none => exact .inl rfl
    | some k =>
      have := (h1.lt k hk).2
      refine .inr fun e => ?_
      injection e with e
      omega
theorem Mid.app1 (h : Mid Z w0 w g cs x0 l0 x1 rs x2 l2 R) {v' : Value} {rs' : List Value} (hg : w.grownBy w' x1.ownBlock) (hv : v'.ownBlock = x1.ownBlock ∨ v'.ownBlock = some w.heap.size) (ho : OwnV 23 w' 0 v' rs') : Mid Z w0 w' g cs x0 l0 v' rs' x2 l2 R :=
  ⟨h.blk.grown hg (blk_ne_of h.blk h.o1 (by decide)), h.gz, h.o0.kept hg (h.o0.unlike h.o1 (by decide)), ho, h.o2.kept hg (h.o2.unlike h.o1 (by decide)), h.z0, own_step (E := 9) (k := 0) h.z1 h.only.size hv, h.z2, fun p hp => ⟨(h.row p hp).1.kept hg ((h.row p hp).1.unlike h.o1 (by decide)), (h.row p hp).2⟩, h.only.grown hg h.z1⟩
theorem Mid.app2 (h : Mid Z w0 w g cs x0 l0 x1 rs x2 l2 R) {v' : Value} {l2' : List Int} (hg : w.grownBy w' x2.ownBlock) (hv : v'.ownBlock = x2.ownBlock ∨ v'.ownBlock = some w.heap.size) (ho : OwnV 3 w' 0 v' (l2'.map iv)) : Mid Z w0 w' g cs x0 l0 x1 rs v' l2' R :=
  ⟨h.blk.grown hg (blk_ne_of h.blk h.o2 (by decide)), h.gz, h.o0.kept hg (h.o0.unlike h.o2 (by decide)), h.o1.kept hg (h.o1.unlike h.o2 (by decide)), ho, h.z0, h.z1, own_step (E := 9) (k := 0) h.z2 h.only.size hv, fun p hp => ⟨(h.row p hp).1.kept hg ((h.row p hp).1.unlike h.o2 (by decide)), (h.row p hp).2⟩, h.only.grown hg h.z2⟩
theorem Mid.set_ (h : Mid Z w0 w g cs x0 l0 x1 rs x2 l2 R) (i : Nat) (u : Value) : Mid Z w0 (w.setCell ⟨g, i, none⟩ u) g (cs.setIfInBounds i u) x0 l0 x1 rs x2 l2 R := by
  have n0 : x0.ownBlock ≠ some g := fun e => blk_ne_of h.blk h.o0 (by decide) e.symm
  have n1 : x1.ownBlock ≠ some g := fun e => blk_ne_of h.blk h.o1 (by decide) e.symm
  have n2 : x2.ownBlock ≠ some g := fun e => blk_ne_of h.blk h.o2 (by decide) e.symm
  exact ⟨h.blk.set_ i u, h.gz, h.o0.apart n0 u, h.o1.apart n1 u, h.o2.apart n2 u, h.z0, h.z1, h.z2, fun p hp => ⟨(h.row p hp).1.apart (fun e => blk_ne_of h.blk (h.row p hp).1 (by decide) e.symm) u, (h.row p hp).2⟩, h.only.set_ (.inl h.gz) u⟩
end
/-- The document's Graph at g, of the blocks Z. -/
structure DGo (Z : Nat → Prop) (w : World) (g : Nat) (G : GR) : Prop where
  ex : ∃ x0 x1 x2 R, Mid Z w w g #[x0, x1, x2] x0 (G.map (·.id)) x1 (R.map (·.1)) x2 (G.map (·.stamp)) R ∧ R.map (·.2) = (List.range G.length).map fun k => (parAt G k).map (idAt G)
  lt : ∀ k, Z k → k < w.heap.size
