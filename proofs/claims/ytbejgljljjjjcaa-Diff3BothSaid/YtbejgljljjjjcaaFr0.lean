/- Things in memory that stay as they are, and such as are changed: frames for objects of several blocks. (No package's code in it.) -/
import Derived.Test.YtbejgljljjjjcaaTb0
import Derived.Deep.CutBlock
import Derived.Deep.DeepCutAuto
import Derived.Deep.RegionLaw
namespace Go.Proofs.Ytbejgljljjjjcaa.Tx
open Go.RowKit Go.Proofs.Ytbejgljljjjjcaa.Sh

/-- v is a slice of n elements of sz cells; they read as xs, in a block of F. -/
def Rd (F : Nat → Prop) (w : World) (sz : Nat) (v : Value) (n : Nat) (xs : List Value) : Prop :=
  ∃ A c, v = .slice A n c ∧ n ≤ c ∧ c ≤ maxLen ∧ xs.length = n * sz ∧ (A = none → n = 0) ∧ (0 < n → ∃ ad : Addr, A = some ad ∧ F ad.block ∧ ad.block < w.heap.size ∧ ∀ j u, xs[j]? = some u → w.cell? (ad.add j) = some u)
/-- Only blocks of M, and new ones, are not as they were. -/
structure Only (M : Nat → Prop) (w w' : World) : Prop where
  os : w'.os = w.os
  tape : w'.tape = w.tape
  output : w'.output = w.output
  size : w.heap.size ≤ w'.heap.size
  block : ∀ k, k < w.heap.size → ¬ M k → w'.heap[k]? = w.heap[k]?
section
variable {F F' M M' : Nat → Prop} {w w' w2 : World} {sz n : Nat} {v : Value} {xs : List Value}
theorem Only.refl (M : Nat → Prop) (w : World) : Only M w w := ⟨rfl, rfl, rfl, Nat.le_refl _, fun _ _ _ => rfl⟩
theorem Only.of_below (h : Below w.heap.size w w') : Only M w w' := ⟨h.os, h.tape, h.output, h.size, fun k hk _ => h.block k hk⟩
theorem Only.more (h : Only M w w') (hM : ∀ k, k < w.heap.size → M k → M' k) : Only M' w w' := ⟨h.os, h.tape, h.output, h.size, fun k hk hn => h.block k hk fun hm => hn (hM k hk hm)⟩
/-- One behind the other: what the second one may change, the first may, or it is new. -/
theorem Only.trans (h : Only M w w') (h2 : Only M' w' w2) (hM : ∀ k, M' k → M k ∨ w.heap.size ≤ k) : Only M w w2 :=
  ⟨h2.os.trans h.os, h2.tape.trans h.tape, h2.output.trans h.output, Nat.le_trans h.size h2.size, fun k hk hn => (h2.block k (Nat.lt_of_lt_of_le hk h.size) fun hm => by
    rcases hM k hm with h1 | h1
    · exact hn h1
    · omega).trans (h.block k hk hn)⟩
theorem Only.below (h : Only (fun _ => False) w w') : Below w.heap.size w w' := ⟨h.os, h.tape, h.output, h.size, fun k hk => h.block k hk id⟩
theorem Only.then_below (h : Only M w w') (h2 : Below w'.heap.size w' w2) : Only M w w2 := h.trans (Only.of_below (M := fun _ => False) h2) (fun _ hm => hm.elim)
theorem Only.drewN (h : Only M w w') (k : Nat) : Only M w (w'.drewN k) := ⟨h.os, h.tape, h.output, h.size, h.block⟩
theorem Only.drew (h : Only M w w') : Only M w w'.drew := ⟨h.os, h.tape, h.output, h.size, h.block⟩
theorem Only.of_drew (h : Only M w.drew w') : Only M w w' := ⟨h.os, h.tape, h.output, h.size, h.block⟩
theorem Only.set_ {g i : Nat} (h : Only M w w') (hg : M g ∨ w.heap.size ≤ g) (u : Value) : Only M w (w'.setCell ⟨g, i, none⟩ u) :=
  ⟨h.os, h.tape, h.output, by simpa [World.setCell] using h.size, fun k hk hn => (Below.heap_setCell w' ⟨g, i, none⟩ u k (by
    rintro rfl
    rcases hg with h1 | h1
    · exact hn h1
    · exact absurd hk (Nat.not_lt.2 h1))).trans (h.block k hk hn)⟩
theorem Only.alloc (h : Only M w w') (o : Obj) : Only M w (w'.alloc o) :=
  ⟨h.os, h.tape, h.output, Nat.le_trans h.size (by simp), fun k hk hn => (Below.heap_alloc w' o k (Nat.lt_of_lt_of_le hk h.size)).trans (h.block k hk hn)⟩
theorem Only.grown {row : Option Nat} (h : Only M w w') (h2 : w'.grownBy w2 row) (hr : ∀ g, row = some g → M g ∨ w.heap.size ≤ g) : Only M w w2 :=
  h.trans (M' := fun k => row = some k) ⟨h2.os, h2.tape, h2.output, h2.size, fun k hk hn => h2.block k hk fun e => hn e.symm⟩ hr
theorem Only.blk (h : Only M w w') {g : Nat} {t : TypeId} {cs : Array Value} (hg : Blk w g t cs) (hn : ¬ M g) : Blk w' g t cs := (h.block g hg.lt hn).trans hg
theorem Only.cell (h : Only M w w') {p : Addr} (hp : p.block < w.heap.size) (hn : ¬ M p.block) : w'.cell? p = w.cell? p := World.cell?_of_block (h.block _ hp hn)
theorem Only.own {E : TypeId} {B : Nat} {vs : List Value} (h : Only M w w') (ho : OwnV E w B v vs) (hn : ∀ k, v.ownBlock = some k → ¬ M k) : OwnV E w' B v vs := by
  rcases ho.blk with ⟨rfl, rfl⟩ | ⟨g, c, cur, rfl, hb, hlt, hg, h1, h2, h3, h4⟩
  · exact OwnV.nil_ _ _
  · exact OwnV.mk hb (h.blk hg (hn g rfl)) h1 h2 h3 h4

theorem Rd.mono (h : Rd F w sz v n xs) (hF : ∀ k, k < w.heap.size → F k → F' k) : Rd F' w sz v n xs := by
  obtain ⟨A, c, hv, h1, h2, h3, h4, h5⟩ := h
  exact ⟨A, c, hv, h1, h2, h3, h4, fun hn => by
    obtain ⟨ad, e, hf, hl, hc⟩ := h5 hn
    exact ⟨ad, e, hF _ hl hf, hl, hc⟩⟩
theorem Rd.only (h : Rd F w sz v n xs) (ho : Only M w w') (hd : ∀ k, F k → ¬ M k) : Rd F w' sz v n xs := by
  obtain ⟨A, c, hv, h1, h2, h3, h4, h5⟩ := h
  exact ⟨A, c, hv, h1, h2, h3, h4, fun hn => by
    obtain ⟨ad, e, hf, hl, hc⟩ := h5 hn
    exact ⟨ad, e, hf, Nat.lt_of_lt_of_le hl ho.size, fun j u hu => (ho.cell (by rw [block_of_add]; exact hl) (by rw [block_of_add]; exact hd _ hf)).trans (hc j u hu)⟩⟩
theorem Rd.below (h : Rd F w sz v n xs) (hb : Below w.heap.size w w') : Rd F w' sz v n xs := h.only (Only.of_below (M := fun _ => False) hb) (fun _ _ => id)
theorem Rd.drewN (h : Rd F w sz v n xs) (k : Nat) : Rd F (w.drewN k) sz v n xs := h
theorem Rd.nil_ (F : Nat → Prop) (w : World) (sz : Nat) : Rd F w sz (.slice none 0 0) 0 [] := ⟨none, 0, rfl, Nat.le_refl _, by unfold maxLen; omega, by simp, fun _ => rfl, fun h => absurd h (by omega)⟩
theorem Rd.reads (h : Rd F w sz v n xs) : ∃ A c, v = .slice A n c ∧ n ≤ c ∧ c ≤ maxLen ∧ Reads w w.heap.size sz A n xs := by
  obtain ⟨A, c, hv, h1, h2, h3, h4, h5⟩ := h
  exact ⟨A, c, hv, h1, h2, h3, fun hn => by
    obtain ⟨ad, e, _, hl, hc⟩ := h5 hn
    exact ⟨ad, e, hl, hc⟩⟩
/-- A slice of one's own is one, if its block is of F. -/
theorem Rd.of_own {B : Nat} {E : TypeId} (h : w.ownsRow B E sz v n xs) (hF : ∀ k, v.ownBlock = some k → F k) : Rd F w sz v n xs := by
  rcases h.2 with ⟨rfl, rfl⟩ | ⟨g, c, cur, rfl, hb, hg, h1, h2, h3, h4⟩
  · have : xs = [] := List.eq_nil_of_length_eq_zero (by simpa using h.1)
    subst this
    exact Rd.nil_ F w sz
  · refine ⟨_, c, rfl, h1, h2, h.1, (fun e => by cases e), fun hn => ⟨⟨g, 0, none⟩, rfl, hF g rfl, (Array.getElem?_eq_some_iff.1 hg).1, fun j u hu => ?_⟩⟩
    exact h.cells (g := g) rfl j u hu
/-- A text that came in, or any slice that reads: with its own block. -/
theorem Rd.of_slv {vs : List Value} (h : SlV w v vs) (hF : ∀ ad n c, v = .slice (some ad) n c → F ad.block) : Rd F w 1 v vs.length vs := by
  obtain ⟨A, c, hv, h1, h2, h3, h4⟩ := h
  refine ⟨A, c, hv, h1, h2, by simp, fun e => by rw [h4 e]; rfl, fun hn => ?_⟩
  obtain ⟨ad, e, hl, hc⟩ := h3.2 hn
  exact ⟨ad, e, hF ad _ _ (by rw [hv, e]), hl, hc⟩
theorem Rd.slv {vs : List Value} (h : Rd F w 1 v vs.length vs) : SlV w v vs := by
  obtain ⟨A, c, hv, h1, h2, h3, h4, h5⟩ := h
  refine ⟨A, c, hv, h1, h2, ⟨by simp, fun hn => ?_⟩, fun e => List.eq_nil_of_length_eq_zero (h4 e)⟩
  obtain ⟨ad, e, _, hl, hc⟩ := h5 hn
  exact ⟨ad, e, hl, hc⟩
theorem add_field (x : Addr) (m j : Nat) (hj : 0 < j) : x.add (m + j) = ⟨(x.add m).block, (x.add m).off + j, none⟩ := by
  unfold Addr.add
  by_cases hm : m = 0
  · subst hm
    rw [if_neg (by omega)]
    simp
  · rw [if_neg (by omega), if_neg hm]
    simp [Nat.add_assoc]
end

/-- A struct is read whole, wherever it lies. -/
theorem run_loadAt_at {P : Program} (w : World) (x : Addr) (ty : TypeId) (cs : List Value) (d : TypeDesc) (hc : ∀ j v, cs[j]? = some v → w.cell? (x.add j) = some v)
    (hu : P.underlying ty = some d) (hd : d.isRow = true) (hi : (P.info? ty).map (·.size) = some cs.length) : (Instr.loadAt ty (.pointer (some x))).run P w = .ok (.agg cs.toArray) w := by
  have hl : (loadCells x cs.length).run P w = .ok cs.toArray w := run_loadCells_list (P := P) w x cs hc
  cases hq : P.info? ty with
  | none => simp [hq] at hi
  | some i =>
    have hs : i.size = cs.length := by simpa [hq] using hi
    have hagg : (isAgg ty).run P w = .ok true w := by
      unfold isAgg
      rw [Sem.run_bind, run_underlying hu w]
      cases d <;> simp_all
    simp [Instr.loadAt, Instr.sureAddr, loadVar, Sem.run_bind, hagg, sizeOf, typeInfo, hq, hs, hl]

/-- The operation: a load of what is known whole. -/
theorem wpList_load_known {P : Program} {ops : Array Oper} {rest : List Oper} {op : Oper} {a : Act} {w : World} {Q : Exit → Act → World → Prop} (hgd : op.guard = none) (ty : TypeId) (x : Operand) (ho : op.op = .load ty x)
    (v u : Value) (hx : a.eval x = v) (hl : (Instr.loadAt ty v).run P w = .ok u w) (h : wpList P ops Q rest (a.put op.dst u) w) : wpList P ops Q (op :: rest) a w :=
  wpList_plain hgd fun _ hK => by
    unfold Oper.wp execOp
    simp only [ho, hx, Sem.run_bind, hl, Result.andThen_ok, Sem.run_pure]
    exact hK _ _ h

/-- What is new and not of M' joins F. -/
def grow (F : Nat → Prop) (w w' : World) (M' : Nat → Prop) : Nat → Prop := fun k => F k ∨ (w.heap.size ≤ k ∧ k < w'.heap.size ∧ ¬ M' k)
theorem grow_old {F M' : Nat → Prop} {w w' : World} {k : Nat} (h : F k) : grow F w w' M' k := .inl h
/-- Two steps' growth is within the growth of both. -/
theorem grow_grow {F M1 M2 : Nat → Prop} {w w1 w2 : World} (h12 : w1.heap.size ≤ w2.heap.size) (h01 : w.heap.size ≤ w1.heap.size) (hM : ∀ k, M2 k → M1 k ∨ w1.heap.size ≤ k) {k : Nat} (h : grow (grow F w w1 M1) w1 w2 M2 k) : grow F w w2 M2 k := by
  rcases h with (h | ⟨h1, h2, h3⟩) | ⟨h1, h2, h3⟩
  · exact .inl h
  · refine .inr ⟨h1, by omega, fun hm => ?_⟩
    rcases hM k hm with h4 | h4
    · exact h3 h4
    · omega
  · exact .inr ⟨by omega, h2, h3⟩
/-- What grew is apart from what may change. -/
theorem grow_apart {F M M' : Nat → Prop} {w w' : World} (hd : ∀ k, F k → ¬ M k) (hF : ∀ k, F k → k < w.heap.size) (hM : ∀ k, M' k → M k ∨ w.heap.size ≤ k) (k : Nat) (h : grow F w w' M' k) : ¬ M' k := by
  rcases h with h | ⟨_, _, h⟩
  · intro hm
    rcases hM k hm with h1 | h1
    · exact hd k h h1
    · have := hF k h; omega
  · exact h
end Go.Proofs.Ytbejgljljjjjcaa.Tx
