/- Many Lazies side by side; the list of them. -/
import Derived.Test.YtepgbpfnamaooaaCe3
import Derived.Test.YtepgbpfnamaooaaShB1
import Derived.Test.YtepgbpfnamaooaaShPC0
namespace Go.Proofs.Ytepgbpfnamaooaa.Ce
open Go.RowKit Go.Proofs.Ytepgbpfnamaooaa.Sh

/-- The block that changes is neither a Lazy's nor one of bytes. -/
def Alien (w : World) (row : Option Nat) : Prop := ∀ g, row = some g → ∃ t cs, Blk w g t cs ∧ t ≠ 70 ∧ t ≠ 5
theorem LZ.grown {w w' : World} {B b : Nat} {bs : List UInt8} {q : Bool} {row : Option Nat} (h : LZ w B b bs q) (hg : w.grownBy w' row) (ha : Alien w row) : LZ w' B b bs q := by
  obtain ⟨h0, k, h1, h2⟩ := h
  have hk : Own w' B k bs := World.ownsRow.kept h1 hg (by
    cases hr : row with
    | none => cases hv : k.ownBlock <;> simp
    | some g =>
      obtain ⟨t, cs, e1, _, e3⟩ := ha g hr
      exact .inr (own_blk_ne h1 e1 (fun e => e3 e.symm)))
  have hne : ∀ cs, Blk w b 70 cs → some b ≠ row := by
    intro cs hb e
    obtain ⟨t, cs', e1, e2, _⟩ := ha b e.symm
    exact Blk.ne_ hb e1 (fun e => e2 e.symm) rfl
  refine ⟨h0, k, hk, ?_⟩
  cases q <;> exact Blk.grown h2 hg (hne _ h2)
theorem LZ.only {w w' : World} {B b b' : Nat} {bs : List UInt8} {q : Bool} {cs : Array Value} (h : LZ w B b bs q) (hb : Blk w b' 70 cs) (hne : b ≠ b') (hg : w.grownBy w' (some b')) : LZ w' B b bs q := by
  obtain ⟨h0, k, h1, h2⟩ := h
  refine ⟨h0, k, own_lazy h1 hb hg, ?_⟩
  cases q <;> exact Blk.grown h2 hg (fun e => hne (by injection e))

def pv (b : Nat) : Value := .pointer (some ⟨b, 0, none⟩)
theorem pv_one (l : List Nat) : ∀ u ∈ l.map pv, u.oneCell' = true := by intro u hu; simp only [List.mem_map] at hu; obtain ⟨x, _, rfl⟩ := hu; rfl
theorem info_ptr : (Try.prog.info? 25).map (fun i => (i.zero, i.size, i.bytes)) = some (some (.pointer none), 1, 8) := by kernel_rfl

/-- The Lazies bs, made behind block G, of the rows R; zs tells which were asked. -/
def AZ (w : World) (G : Nat) (bs : List Nat) (R : Nat → List UInt8) (zs : List Int) : Prop :=
  (∀ i (hi : i < bs.length), ∃ B, G < B ∧ LZ w B bs[i] (R i) (decide (zs.getD i 0 = 1))) ∧ bs.Pairwise (· ≠ ·)
section
variable {w w' : World} {G : Nat} {bs : List Nat} {R : Nat → List UInt8} {zs : List Int}
theorem AZ.nil_ : AZ w G [] R zs := ⟨fun i hi => absurd hi (by simp), .nil⟩
theorem AZ.below (h : AZ w G bs R zs) (hb : Below w.heap.size w w') : AZ w' G bs R zs :=
  ⟨fun i hi => by obtain ⟨B, h1, h2⟩ := h.1 i hi; exact ⟨B, h1, h2.below hb⟩, h.2⟩
theorem AZ.grown {row : Option Nat} (h : AZ w G bs R zs) (hg : w.grownBy w' row) (ha : Alien w row) : AZ w' G bs R zs :=
  ⟨fun i hi => by obtain ⟨B, h1, h2⟩ := h.1 i hi; exact ⟨B, h1, h2.grown hg ha⟩, h.2⟩
theorem AZ.alloc (h : AZ w G bs R zs) (o : Obj) : AZ (w.alloc o) G bs R zs :=
  ⟨fun i hi => by obtain ⟨B, h1, h2⟩ := h.1 i hi; exact ⟨B, h1, h2.alloc o⟩, h.2⟩
theorem AZ.drew (h : AZ w G bs R zs) : AZ w.drew G bs R zs := ⟨fun i hi => by obtain ⟨B, h1, h2⟩ := h.1 i hi; exact ⟨B, h1, h2.drew⟩, h.2⟩
theorem AZ.far (h : AZ w G bs R zs) {p : Addr} (hp : p.block ≤ G) (u : Value) : AZ (w.setCell p u) G bs R zs :=
  ⟨fun i hi => by obtain ⟨B, h1, h2⟩ := h.1 i hi; exact ⟨B, h1, h2.far (by omega) u⟩, h.2⟩
theorem AZ.lt (h : AZ w G bs R zs) {x : Nat} (hx : x ∈ bs) : x < w.heap.size := by
  obtain ⟨i, hi, rfl⟩ := List.getElem_of_mem hx
  obtain ⟨B, _, h2⟩ := h.1 i hi
  exact h2.lt
theorem AZ.snoc {b B : Nat} (h : AZ w G bs R zs) (hB : G < B) (hn : LZ w B b (R bs.length) false) (hz : zs.getD bs.length 0 = 0) (hnew : b ∉ bs) : AZ w G (bs ++ [b]) R zs := by
  refine ⟨fun i hi => ?_, ?_⟩
  · by_cases hl : i < bs.length
    · rw [List.getElem_append_left hl]
      exact h.1 i hl
    · have hi' : i = bs.length := by simp at hi; omega
      subst hi'
      refine ⟨B, hB, ?_⟩
      rw [hz]
      simpa using hn
  · rw [List.pairwise_append]
    exact ⟨h.2, by simp, fun x hx y hy => by simp at hy; subst hy; exact fun e => hnew (e ▸ hx)⟩
theorem AZ.asked {k : Nat} (h : AZ w G bs R zs) (hk : k < bs.length) (hz : k < zs.length) (hg : w.grownBy w' (some bs[k])) (hn : ∃ B, G < B ∧ LZ w' B bs[k] (R k) true) : AZ w' G bs R (zs.set k 1) := by
  refine ⟨fun i hi => ?_, h.2⟩
  by_cases e : i = k
  · subst e
    have : (zs.set i 1).getD i 0 = 1 := by rw [List.getD_eq_getElem?_getD, List.getElem?_set_self hz]; rfl
    rw [this]
    obtain ⟨B, h1, h2⟩ := hn
    exact ⟨B, h1, by simpa using h2⟩
  · obtain ⟨B, h1, h2⟩ := h.1 i hi
    refine ⟨B, h1, ?_⟩
    have : (zs.set k 1).getD i 0 = zs.getD i 0 := by rw [List.getD_eq_getElem?_getD, List.getElem?_set_ne (fun e' => e e'.symm), List.getD_eq_getElem?_getD]
    rw [this]
    obtain ⟨B2, _, h4⟩ := h.1 k hk
    obtain ⟨cs, hcs⟩ := h4.blk
    refine h2.only hcs ?_ hg
    intro e2
    rcases Nat.lt_or_gt_of_ne e with h5 | h5
    · exact (List.pairwise_iff_getElem.1 h.2 i k hi hk h5) e2
    · exact (List.pairwise_iff_getElem.1 h.2 k i hk hi h5) e2.symm
end
theorem alien_own {E : TypeId} {w : World} {B : Nat} {v : Value} {vs : List Value} (h : OwnV E w B v vs) (h1 : E ≠ 70) (h2 : E ≠ 5) : Alien w v.ownBlock := by
  intro g hg
  rcases h.blk with ⟨rfl, _⟩ | ⟨g', c, cur, rfl, _, _, hb, _⟩
  · simp [Value.ownBlock] at hg
  · have : g' = g := by simpa [Value.ownBlock] using hg
    subst this
    exact ⟨E, cur, hb, h1, h2⟩
/-- A slice of one's own stays, whatever becomes of a Lazy's block. -/
theorem OwnV.lazy {E : TypeId} {w w' : World} {B b : Nat} {v : Value} {vs : List Value} {cs : Array Value} (h : OwnV E w B v vs) (hE : E ≠ 70) (hb : Blk w b 70 cs) (hg : w.grownBy w' (some b)) : OwnV E w' B v vs :=
  h.kept hg (.inr (own_blk_ne h hb hE))

/-- 'all = append(all, x)' -/
theorem append_lazy {ops : Array Oper} {rest : List Oper} {o : Oper} {a : Act} {Q : Exit → Act → World → Prop} (hgd : o.guard = none) (s x : Operand)
    (ho : o.op = .call { callee := .builtin .append, args := #[s, x], argTypes := #[51, 51] }) (w : World) (B : Nat) (v : Value) (bs : List Nat) (hs : a.eval s = v) (hown : OwnV 25 w B v (bs.map pv))
    (u : Nat) (hx : a.eval x = .slice (some ⟨w.heap.size, 0, none⟩) 1 1) (hsmall : bs.length + 1 ≤ 2000000) (hB : B ≤ w.heap.size)
    (h : ∀ v' w', OwnV 25 w' B v' ((bs ++ [u]).map pv) → w.grownBy w' v.ownBlock → wpList Try.prog ops Q rest (a.put o.dst v') w') : wpList Try.prog ops Q (o :: rest) a (w.alloc (.cells #[.pointer (some ⟨u, 0, none⟩)] 25)) := by
  have hr : Reads (w.alloc (.cells #[.pointer (some ⟨u, 0, none⟩)] 25)) (w.heap.size + 1) 1 (some ⟨w.heap.size, 0, none⟩) 1 ([u].map pv) := by
    refine ⟨rfl, fun _ => ⟨_, rfl, by simp, fun j v hv => ?_⟩⟩
    rw [Addr.add_mid, cell_of_row _ _ _ _ 25 (0, 0) (heap_alloc_new w _), Nat.zero_add, ← hv]
    simp [pv]
  obtain ⟨i0, hi, hz0, hz1, hz2⟩ := info_parts info_ptr
  have hown' : w.ownsRow B 25 1 v bs.length (bs.map pv) := by have := hown; unfold OwnV at this; rwa [List.length_map] at this
  refine wpList_append_any _ hgd s x 51 ho B 25 i0 (.pointer none) 1 8 Try.underlying51 hi hz0 hz1 hz2 rfl (by decide) v bs.length _ hs (World.ownsRow.alloc hown' _) _ _ 1 1 _ hx hr (pv_one [u]) (by unfold maxLen; omega) (by omega) (by simp; omega) ?_
  intro v' w' h1 h2 _
  refine h v' w' ?_ (only_then (only_alloc (World.grownBy.refl w _) _) h2)
  unfold OwnV
  rw [List.length_map, List.length_append, List.length_singleton, List.map_append]
  exact h1
end Go.Proofs.Ytepgbpfnamaooaa.Ce
