/- Texts put together: Dg2. -/
import Derived.Test.YtecpedecgcaeoaaQg08
import Derived.Test.YtecpedecgcaeoaaQg17
import Derived.Test.YtecpedecgcaeoaaQg20
/- A graph of commits in memory. -/
set_option linter.unusedVariables false
set_option linter.unusedSimpArgs false
namespace Go.Proofs.Ytecpedecgcaeoaa.Tx
open Go.RowKit Go.Maps Go.Proofs.Ytecpedecgcaeoaa.Sh

/-- A place, as a value. -/
def nv (k : Nat) : Value := .int .i64 (k : Int)
theorem nv_one (l : List Nat) : ∀ u ∈ l.map nv, u.oneCell' = true := by intro u hu; simp only [List.mem_map] at hu; obtain ⟨x, _, rfl⟩ := hu; rfl
/-- A commit as a struct: its id, its parents' row, its stamp. -/
def nodeK : ShapeV where
  α := ND
  cells := fun n d => [.string n.id, d, .int .i64 n.stamp]
  vals := fun n => n.par.map nv
  m := 3
  pos := by decide
  len := fun _ _ => rfl
  one := fun a d hd u hu => by
    simp only [List.mem_cons, List.not_mem_nil, or_false] at hu
    rcases hu with rfl | rfl | rfl
    · rfl
    · exact hd
    · rfl
theorem typed_node : TypedV Try.prog nodeK 57 50 (.agg #[.string ⟨#[]⟩, .slice none 0 0, .int .i64 0]) 48 := ⟨by kernel_rfl, Try.underlying50, rfl, by decide⟩

/-- The map holds each id's place. -/
def PlOK (G : GR) (D : DataW Unit) : Prop := ∀ p, Maps.has D (.string p) = (posL G p).isSome ∧ ∀ k, posL G p = some k → D.atKey (.string p) (.lit (.int .i64 0)) = .lit (.int .i64 (k : Int))
theorem PlOK.look {G : GR} {D : DataW Unit} (h : PlOK G D) (s : ByteArray) : Maps.has D (.string s.toList) = inG G s ∧ D.atKey (.string s.toList) (.lit (.int .i64 0)) = .lit (.int .i64 ((pl G s : Nat) : Int)) := by
  refine ⟨(h _).1, ?_⟩
  unfold pl
  cases hp : posL G s.toList with
  | none =>
    rw [Maps.atKey_of_not_has (by rw [(h _).1, hp]; rfl)]
    rfl
  | some k => exact (h _).2 k hp
theorem PlOK.nil_ : PlOK [] (.map []) := fun p => ⟨rfl, fun k h => by cases h⟩
theorem PlOK.put {G : GR} {D : DataW Unit} (h : PlOK G D) (hm : Maps.IsMap D) (n : ND) (hn : inG G n.id = false) : PlOK (G ++ [n]) (D.put (.string n.id.toList) (.lit (.int .i64 (G.length : Int)))) := fun p => by
  by_cases e : p = n.id.toList
  · subst e
    rw [Maps.has_put_same hm (isK _), Maps.atKey_put_same hm (isK _), pos_add, pos_out hn, beq_self_eq_true]
    exact ⟨rfl, fun k hk => by cases hk; rfl⟩
  · have hne : Lit.string p ≠ Lit.string n.id.toList := fun h => e (by injection h)
    have hb : (n.id.toList == p) = false := by rw [beq_eq_false_iff_ne]; exact fun x => e x.symm
    rw [Maps.has_put_other hne, Maps.atKey_put_other hne, pos_add, hb]
    have := h p
    cases hp : posL G p with
    | none => rw [hp] at this; exact ⟨this.1, fun k hk => by cases hk⟩
    | some m => rw [hp] at this; exact ⟨this.1, fun k hk => this.2 k hk⟩

/-- Block g is a graph; its blocks are of Z, its parents' rows of F. -/
structure GX (Z F : Nat → Prop) (w : World) (g bm : Nat) (v : Value) (G : GR) : Prop where
  blk : Blk w g 52 #[.map (some bm), v]
  nodes : OwnS nodeK 57 F w 0 v G
  map : ∃ D, w.ownsMap Try.prog 9 (plainElem Try.prog 3) bm (Maps.size D) D ∧ PlOK G D
  fz : ∀ k, F k → Z k ∧ k ≠ g ∧ k ≠ bm
  gz : Z g
  bz : Z bm
  vz : ∀ k, v.ownBlock = some k → Z k ∧ k ≠ g ∧ k ≠ bm
  zl : ∀ k, Z k → k < w.heap.size
def GAt (Z : Nat → Prop) (w : World) (g : Nat) (G : GR) : Prop := ∃ F bm v, GX Z F w g bm v G
section
variable {Z F M : Nat → Prop} {w w' : World} {g bm : Nat} {v : Value} {G : GR}
theorem GX.only (h : GX Z F w g bm v G) (ho : Only M w w') (hM : ∀ k, Z k → ¬ M k) : GX Z F w' g bm v G := by
  obtain ⟨D, h1, h2⟩ := h.map
  exact ⟨ho.blk h.blk (hM _ h.gz), h.nodes.only ho (fun k hk => hM k (h.fz k hk).1) (fun k hk => hM k (h.vz k hk).1), ⟨D, own_only h1 ho (hM _ h.bz), h2⟩, h.fz, h.gz, h.bz, h.vz, fun k hk => Nat.lt_of_lt_of_le (h.zl k hk) ho.size⟩
theorem GX.below (h : GX Z F w g bm v G) (hb : Below w.heap.size w w') : GX Z F w' g bm v G := h.only (Only.of_below (M := fun _ => False) hb) (fun _ _ => id)
theorem GAt.only (h : GAt Z w g G) (ho : Only M w w') (hM : ∀ k, Z k → ¬ M k) : GAt Z w' g G := by
  obtain ⟨F, bm, v, hx⟩ := h
  exact ⟨F, bm, v, hx.only ho hM⟩
theorem GAt.below (h : GAt Z w g G) (hb : Below w.heap.size w w') : GAt Z w' g G := h.only (Only.of_below (M := fun _ => False) hb) (fun _ _ => id)
theorem GAt.zl (h : GAt Z w g G) : ∀ k, Z k → k < w.heap.size := by
  obtain ⟨F, bm, v, hx⟩ := h
  exact hx.zl
theorem GX.slice (h : GX Z F w g bm v G) : ∃ A c, v = .slice A G.length c ∧ G.length ≤ c ∧ c ≤ maxLen := h.nodes.tmp.slice
theorem GX.c0 (h : GX Z F w g bm v G) : w.cell? ⟨g, 0, none⟩ = some (.map (some bm)) := h.blk.cell 0
theorem GX.c1 (h : GX Z F w g bm v G) : w.cell? ⟨g, 1, none⟩ = some v := h.blk.cell 1
theorem GX.g_bm (h : GX Z F w g bm v G) : bm ≠ g := by
  obtain ⟨D, h1, _⟩ := h.map
  exact own_cells h1 h.blk
/-- A node's cells. -/
theorem GX.at_ {A : Option Addr} {n c : Nat} (h : GX Z F w g bm (.slice A n c) G) (k : Nat) (hk : k < G.length) :
    ∃ (ad : Addr) (d : Value), A = some ad ∧ SlV w d ((parAt G k).map nv) ∧ (∀ b, d.ownBlock = some b → True) ∧ w.cell? (ad.add (k * 3)) = some (.string (idAt G k)) ∧
      w.cell? ⟨(ad.add (k * 3)).block, (ad.add (k * 3)).off + 1, none⟩ = some d ∧ w.cell? ⟨(ad.add (k * 3)).block, (ad.add (k * 3)).off + 2, none⟩ = some (.int .i64 (stAt G k)) := by
  obtain ⟨nd, hn⟩ := node_at hk
  obtain ⟨ad, d, hA, hby, hc⟩ := TmpV.at_ (K := nodeK) h.nodes.tmp k nd hn
  rw [idAt_of hn, parAt_of hn, stAt_of hn]
  refine ⟨ad, d, hA, Rd.slv hby, fun _ _ => trivial, hc 0 _ rfl, ?_, ?_⟩
  · have := hc 1 _ rfl
    rw [show nodeK.m = 3 from rfl, add_field _ _ 1 (by omega)] at this
    exact this
  · have := hc 2 _ rfl
    rw [show nodeK.m = 3 from rfl, add_field _ _ 2 (by omega)] at this
    exact this
end

/-! Rows of places. -/
theorem make_ints (k l : Nat) (hk : k ≤ l) (hl : l ≤ 2000000) (w : World) : (Instr.makeSlice 31 (.int .i64 (k : Int)) (.int .i64 (l : Int))).run Try.prog w = .ok (.slice (some ⟨w.heap.size, 0, none⟩) k l) (w.alloc (.cells (madeCells #[.int .i64 0] l) 3)) := by
  obtain ⟨i0, hi, hz0, hz1, hz2⟩ := info_parts info_int
  have hr := run_make (P := Try.prog) w 31 3 i0 (.int .i64 0) Try.underlying31 hi hz0 .i64 .i64 k l (by omega) (by omega) (by rw [hz2]; omega) (by omega)
  rw [hz1] at hr
  simpa [Value.cells] using hr
theorem append_nats {ops : Array Oper} {rest : List Oper} {o : Oper} {a : Act} {Q : Exit → Act → World → Prop} (hgd : o.guard = none) (s x : Operand)
    (ho : o.op = .call { callee := .builtin .append, args := #[s, x], argTypes := #[31, 31] }) (w : World) (B : Nat) (v : Value) (ts : List Nat) (hs : a.eval s = v) (hown : OwnV 3 w B v (ts.map nv))
    (B' : Nat) (A : Option Addr) (m c : Nat) (us : List Nat) (hx : a.eval x = .slice A m c) (hr : Reads w B' 1 A m (us.map nv)) (hsmall : ts.length + m ≤ 2000000) (hB : B ≤ w.heap.size)
    (h : ∀ v' w', OwnV 3 w' B v' ((ts ++ us).map nv) → Below B w w' → wpList Try.prog ops Q rest (a.put o.dst v') w') : wpList Try.prog ops Q (o :: rest) a w := by
  obtain ⟨i0, hi, hz0, hz1, hz2⟩ := info_parts info_int
  have hm : us.length = m := by have := hr.1; simpa using this
  have hown' : w.ownsRow B 3 1 v ts.length (ts.map nv) := by have := hown; unfold OwnV at this; rwa [List.length_map] at this
  refine wpList_append_any w hgd s x 31 ho B 3 i0 (.int .i64 0) 1 8 Try.underlying31 hi hz0 hz1 hz2 rfl (by decide) v ts.length _ hs hown' B' A m c _ hx hr (nv_one us) (by unfold maxLen; omega) (by omega) hB ?_
  intro v' w' h1 h2 _
  refine h v' w' ?_ ((Below.refl _ _).grown h2 hB (fun k hk => (hown'.lt k hk).1))
  unfold OwnV
  rw [List.length_map, List.length_append, hm, List.map_append]
  exact h1
theorem append_nat {ops : Array Oper} {rest : List Oper} {o : Oper} {a : Act} {Q : Exit → Act → World → Prop} (hgd : o.guard = none) (s x : Operand)
    (ho : o.op = .call { callee := .builtin .append, args := #[s, x], argTypes := #[31, 31] }) (w : World) (B : Nat) (v : Value) (ts : List Nat) (hs : a.eval s = v) (hown : OwnV 3 w B v (ts.map nv))
    (u : Nat) (hx : a.eval x = .slice (some ⟨w.heap.size, 0, none⟩) 1 1) (hsmall : ts.length + 1 ≤ 2000000) (hB : B ≤ w.heap.size)
    (h : ∀ v' w', OwnV 3 w' B v' ((ts ++ [u]).map nv) → Below B w w' → wpList Try.prog ops Q rest (a.put o.dst v') w') : wpList Try.prog ops Q (o :: rest) a (w.alloc (.cells #[.int .i64 (u : Int)] 3)) := by
  have hr : Reads (w.alloc (.cells #[.int .i64 (u : Int)] 3)) (w.heap.size + 1) 1 (some ⟨w.heap.size, 0, none⟩) 1 ([u].map nv) := by
    refine ⟨rfl, fun _ => ⟨_, rfl, by simp, fun j v hv => ?_⟩⟩
    rw [Addr.add_mid, cell_of_row _ _ _ _ 3 (0, 0) (heap_alloc_new w _), Nat.zero_add, ← hv]
    simp [nv]
  refine append_nats hgd s x ho _ B v ts hs (hown.alloc _) _ _ 1 1 [u] hx hr hsmall (by simp; omega) ?_
  intro v' w' h1 h2
  exact h v' w' h1 (((Below.refl _ _).alloc hB _).trans h2)
def NatsPost (w : World) (ks : List Nat) (e : Ending) (w' : World) : Prop := ∃ v, e = .returned v ∧ OwnV 3 w' w.heap.size v (ks.map nv) ∧ Below w.heap.size w w'
theorem nats_at {w : World} {A : Option Addr} {xs : List Nat} {B : Nat} (h : Reads w B 1 A xs.length (xs.map nv)) (k : Nat) (hk : k < xs.length) : ∃ ad, A = some ad ∧ w.cell? (ad.add k) = some (.int .i64 ((xs[k] : Nat) : Int)) :=
  reads_at h k _ (by rw [List.getElem?_map, List.getElem?_eq_getElem hk]; rfl)
/-- Marks. -/
def bo (b : Bool) : Value := .bool b
def BlkB (w : World) (g : Nat) (ms : List Bool) : Prop := Blk w g 4 (ms.map bo).toArray
theorem info_bool : (Try.prog.info? 4).map (fun i => (i.zero, i.size, i.bytes)) = some (some (.bool false), 1, 1) := by kernel_rfl
theorem make_bools (l : Nat) (hl : l ≤ 2000000) (w : World) : (Instr.makeSlice 61 (.int .i64 (l : Int)) (.int .i64 (l : Int))).run Try.prog w = .ok (.slice (some ⟨w.heap.size, 0, none⟩) l l) (w.alloc (.cells (madeCells #[.bool false] l) 4)) := by
  obtain ⟨i0, hi, hz0, hz1, hz2⟩ := info_parts info_bool
  have hr := run_make (P := Try.prog) w 61 4 i0 (.bool false) Try.underlying61 hi hz0 .i64 .i64 l l (by omega) (by omega) (by rw [hz2]; omega) (by omega)
  rw [hz1] at hr
  simpa [Value.cells] using hr
section
variable {w w' : World} {g : Nat} {ms : List Bool}
theorem BlkB.made (w : World) (l : Nat) : BlkB (w.alloc (.cells (madeCells #[.bool false] l) 4)) w.heap.size (List.replicate l false) := by
  have h := Blk.new w 4 (madeCells #[.bool false] l)
  unfold BlkB
  have e : (madeCells #[.bool false] l) = ((List.replicate l false).map bo).toArray := by
    apply Array.ext'
    rw [toList_madeCells_one, List.toList_toArray, List.map_replicate]
    rfl
  rw [← e]
  exact h
theorem BlkB.cell (h : BlkB w g ms) (i : Nat) (b : Bool) (hi : ms[i]? = some b) : w.cell? ⟨g, i, none⟩ = some (.bool b) := by
  rw [Blk.cell h, List.getElem?_toArray, List.getElem?_map, hi]
  rfl
theorem BlkB.set (h : BlkB w g ms) (i : Nat) (b : Bool) : BlkB (w.setCell ⟨g, i, none⟩ (.bool b)) g (ms.set i b) := by
  have := Blk.set_ h i (.bool b)
  unfold BlkB
  rw [List.map_set, ← List.setIfInBounds_toArray]
  exact this
theorem BlkB.below {B : Nat} (h : BlkB w g ms) (hb : Below B w w') (hg : g < B) : BlkB w' g ms := Blk.below h hb hg
theorem BlkB.own {B n : Nat} (h : BlkB w g ms) (hB : B ≤ g) (hn : ms.length = n) (hm : n ≤ maxLen) : OwnV 4 w B (.slice (some ⟨g, 0, none⟩) n n) (ms.map bo) := by
  subst hn
  have e : ms.length = (ms.map bo).length := (List.length_map _).symm
  rw [e]
  exact OwnV.mk hB h (Nat.le_refl _) (by rw [← e]; exact hm) (by simp) (by rw [List.toList_toArray, List.take_of_length_le (Nat.le_refl _)])
end
/-- The marks that a block holds. -/
def bsOf (w : World) (g : Nat) : List Bool := match w.heap[g]? with
  | some (.cells cs _ _) => cs.toList.map fun v => match v with | .bool b => b | _ => false
  | _ => []
theorem BlkB.bs {w : World} {g : Nat} {ms : List Bool} (h : BlkB w g ms) : bsOf w g = ms := by
  unfold bsOf
  rw [show w.heap[g]? = _ from h]
  simp only [List.toList_toArray, List.map_map]
  conv => rhs; rw [← List.map_id ms]
  exact List.map_congr_left fun b _ => rfl
theorem bools_at {w : World} {A : Option Addr} {ms : List Bool} {B : Nat} (h : Reads w B 1 A ms.length (ms.map bo)) (k : Nat) (b : Bool) (hk : ms[k]? = some b) : ∃ ad, A = some ad ∧ w.cell? (ad.add k) = some (.bool b) :=
  reads_at h k _ (by rw [List.getElem?_map, hk]; rfl)
end Go.Proofs.Ytecpedecgcaeoaa.Tx
