/- Chunks and kept places in memory. -/
import Derived.Test.YtbejgljljjjjcaaDf0
import Derived.Test.YtbejgljljjjjcaaLnS
import Derived.Test.YtbejgljljjjjcaaLnR
set_option linter.unusedVariables false
set_option linter.unusedSimpArgs false
namespace Go.Proofs.Ytbejgljljjjjcaa.Ln
open Go.RowKit Go.Proofs.Ytbejgljljjjjcaa.Sh Go.Proofs.Ytbejgljljjjjcaa.Tx

/-- append of one row of up to 80 bytes: the world behind it has grown by the row alone. -/
theorem append_roww {k : Nat} {T TS : TypeId} {z : Value} {bt : Nat} (hT : Try.prog.underlying TS = some (.slice T)) (hin : (Try.prog.info? T).map (fun i => (i.zero, i.size, i.bytes)) = some (some z, k, bt)) (hz : z.cells.size = k) (hk : 0 < k) (hbt : bt ≤ 80)
    {ops : Array Oper} {rest : List Oper} {o : Oper} {a : Act} {Q : Exit → Act → World → Prop} (hgd : o.guard = none) (s x : Operand)
    (ho : o.op = .call { callee := .builtin .append, args := #[s, x], argTypes := #[TS, TS] }) (w : World) (B : Nat) (v : Value) (rs : List (List Value)) (hs : a.eval s = v) (hown : OwnK k T w B v rs)
    (u : List Value) (hul : u.length = k) (hone : ∀ y ∈ u, y.oneCell' = true) (hx : a.eval x = .slice (some ⟨w.heap.size, 0, none⟩) 1 1) (hsmall : rs.length + 1 ≤ 2000000) (hB : B ≤ w.heap.size)
    (h : ∀ v' w', OwnK k T w' B v' (rs ++ [u]) → (w.alloc (.cells u.toArray T)).grownBy w' v.ownBlock → Below B w w' → wpList Try.prog ops Q rest (a.put o.dst v') w') : wpList Try.prog ops Q (o :: rest) a (w.alloc (.cells u.toArray T)) := by
  obtain ⟨i0, hi, hz0, hz1, hz2⟩ := info_parts hin
  obtain ⟨w2, hw2⟩ : ∃ W, W = w.alloc (.cells u.toArray T) := ⟨_, rfl⟩
  have hg : Blk w2 w.heap.size T u.toArray := by rw [hw2]; exact heap_alloc_new w _
  have hsz : w2.heap.size = w.heap.size + 1 := by rw [hw2]; simp
  have hown2 : OwnK k T w2 B v rs := by rw [hw2]; exact hown.alloc _
  have hb2 : Below B w w2 := by rw [hw2]; exact (Below.refl _ _).alloc hB _
  rw [← hw2] at h ⊢
  clear hw2
  have hr : Reads w2 w2.heap.size k (some ⟨w.heap.size, 0, none⟩) 1 u := by
    refine ⟨by omega, fun _ => ⟨_, rfl, hg.lt, fun j v hv => ?_⟩⟩
    rw [Addr.add_mid, Nat.zero_add, hg.cell j, ← hv]
    simp
  have hbb : (rs.length + 1) * bt ≤ 140737488355328 := by
    have := Nat.mul_le_mul hsmall hbt
    omega
  refine wpList_append_any w2 hgd s x TS ho B T i0 z k bt hT hi hz0 hz1 hz2 hz hk v rs.length _ hs hown2 w2.heap.size (some ⟨w.heap.size, 0, none⟩) 1 1 _ hx hr hone (by unfold maxLen; omega) hbb (by omega) ?_
  intro v' w' h1 h2 h3
  refine h v' w' ?_ h2 (hb2.trans ((Below.refl _ _).grown h2 (by omega) (fun k hk => (hown2.lt k hk).1)))
  unfold OwnK
  rw [List.length_append, List.flatten_append, List.flatten_singleton]
  exact h1
/-- A place's cells. -/
def triC (t : Tri) : List Value := [.int .i64 (t.1 : Int), .int .i64 (t.2.1 : Int), .int .i64 (t.2.2 : Int)]
def triV (t : Tri) : Value := .agg #[.int .i64 (t.1 : Int), .int .i64 (t.2.1 : Int), .int .i64 (t.2.2 : Int)]
theorem triC_len (l : List Tri) : ∀ r ∈ l.map triC, r.length = 3 := by
  intro r hr
  obtain ⟨x, _, rfl⟩ := List.mem_map.1 hr
  rfl
theorem triC_one (t : Tri) : ∀ y ∈ triC t, y.oneCell' = true := by
  intro y hy
  simp [triC] at hy
  rcases hy with rfl | rfl | rfl <;> rfl
theorem tri_at {w : World} {A : Option Addr} {n c : Nat} {l : List Tri} (h : SlK 3 w (.slice A n c) (l.map triC)) (i : Nat) (p q r : Nat) (hi : l[i]? = some (p, q, r)) :
    ∃ ad : Addr, A = some ad ∧ w.cell? (ad.add (i * 3)) = some (.int .i64 (p : Int)) ∧ w.cell? ⟨(ad.add (i * 3)).block, (ad.add (i * 3)).off + 1, none⟩ = some (.int .i64 (q : Int)) ∧ w.cell? ⟨(ad.add (i * 3)).block, (ad.add (i * 3)).off + 2, none⟩ = some (.int .i64 (r : Int)) := by
  obtain ⟨ad, e, hc⟩ := h.at_ (triC_len l) i (triC (p, q, r)) (by rw [List.getElem?_map, hi]; rfl)
  refine ⟨ad, e, hc 0 _ rfl, ?_, ?_⟩
  · have := hc 1 _ rfl
    rwa [add_field _ _ 1 (by omega)] at this
  · have := hc 2 _ rfl
    rwa [add_field _ _ 2 (by omega)] at this
theorem info_pl : (Try.prog.info? 53).map (fun i => (i.zero, i.size, i.bytes)) = some (some (.agg #[.int .i64 0, .int .i64 0, .int .i64 0]), 3, 24) := by kernel_rfl
/-- What is left behind some rows. -/
theorem SlK.back {k : Nat} {w : World} {A : Option Addr} {n c : Nat} {rs : List (List Value)} (h : SlK k w (.slice A n c) rs) (hk : ∀ r ∈ rs, r.length = k) (m : Nat) (hm : m ≤ rs.length) :
    SlK k w (.slice (if c = m then A else A.map (·.add (m * k))) (n - m) (c - m)) (rs.drop m) := by
  obtain ⟨A', c', he, h1, h2, h3⟩ := h
  injection he with e1 e2 e3
  subst e1 e2 e3
  refine ⟨_, c - m, by rw [List.length_drop], by rw [List.length_drop]; omega, by omega, ?_⟩
  have hl : ∀ (l : List (List Value)), (∀ r ∈ l, r.length = k) → l.flatten.length = l.length * k := by
    intro l hl
    induction l with
    | nil => simp
    | cons y l ih =>
      rw [List.flatten_cons, List.length_append, hl y List.mem_cons_self, ih (fun r hr => hl r (List.mem_cons_of_mem _ hr)), List.length_cons, Nat.succ_mul]
      omega
  have hdk : ∀ r ∈ rs.drop m, r.length = k := fun r hr => hk r (List.mem_of_mem_drop hr)
  have hcat : rs.flatten = (rs.take m).flatten ++ (rs.drop m).flatten := by rw [← List.flatten_append, List.take_append_drop]
  have hcut := h3.cut (k := m) (cap := c) hm h1
  have e : rs.flatten.drop (m * k) = (rs.drop m).flatten := by
    have hl2 : (rs.take m).flatten.length = m * k := by rw [hl _ (fun r hr => hk r (List.mem_of_mem_take hr)), List.length_take, Nat.min_eq_left hm]
    rw [hcat, ← hl2, List.drop_left]
  rw [e] at hcut
  rw [List.length_drop]
  exact hcut
abbrev CkM := Ck ByteArray
/-- A chunk's cells. -/
def ckC (x : CkM × Value × Value × Value) : List Value := [.int .i64 (x.1.kind : Int), x.2.1, x.2.2.1, x.2.2.2]
theorem ckC_len (L : List (CkM × Value × Value × Value)) : ∀ r ∈ L.map ckC, r.length = 4 := by
  intro r hr
  obtain ⟨x, _, rfl⟩ := List.mem_map.1 hr
  rfl
/-- Chunks that read, each with its lines. -/
def SlCk (w : World) (v : Value) (l : List CkM) : Prop := ∃ L : List (CkM × Value × Value × Value), L.map Prod.fst = l ∧ SlK 4 w v (L.map ckC) ∧ ∀ x ∈ L, SlV w x.2.1 (x.1.o.map sv) ∧ SlV w x.2.2.1 (x.1.a.map sv) ∧ SlV w x.2.2.2 (x.1.b.map sv)
theorem SlCk.below {w w' : World} {v : Value} {l : List CkM} (h : SlCk w v l) (hb : Below w.heap.size w w') : SlCk w' v l := by
  obtain ⟨L, h1, h2, h3⟩ := h
  exact ⟨L, h1, h2.below hb, fun x hx => ⟨(h3 x hx).1.below hb, (h3 x hx).2.1.below hb, (h3 x hx).2.2.below hb⟩⟩
theorem SlCk.slice {w : World} {v : Value} {l : List CkM} (h : SlCk w v l) : ∃ A c, v = .slice A l.length c ∧ l.length ≤ c ∧ c ≤ maxLen := by
  obtain ⟨L, rfl, ⟨A, c, hv, h1, h2, _⟩, _⟩ := h
  simp only [List.length_map] at hv h1 ⊢
  exact ⟨A, c, hv, h1, h2⟩
/-- One chunk's cells. -/
theorem SlCk.at_ {w : World} {A : Option Addr} {n c : Nat} {l : List CkM} (h : SlCk w (.slice A n c) l) (i : Nat) (e : CkM) (hi : l[i]? = some e) :
    ∃ (ad : Addr) (d1 d2 d3 : Value), A = some ad ∧ w.cell? (ad.add (i * 4)) = some (.int .i64 (e.kind : Int)) ∧ w.cell? ⟨(ad.add (i * 4)).block, (ad.add (i * 4)).off + 1, none⟩ = some d1 ∧
      w.cell? ⟨(ad.add (i * 4)).block, (ad.add (i * 4)).off + 2, none⟩ = some d2 ∧ w.cell? ⟨(ad.add (i * 4)).block, (ad.add (i * 4)).off + 3, none⟩ = some d3 ∧ SlV w d1 (e.o.map sv) ∧ SlV w d2 (e.a.map sv) ∧ SlV w d3 (e.b.map sv) := by
  obtain ⟨L, rfl, h2, h3⟩ := h
  rw [List.getElem?_map] at hi
  obtain ⟨x, hx, rfl⟩ := Option.map_eq_some_iff.1 hi
  obtain ⟨ad, ea, hc⟩ := h2.at_ (ckC_len L) i (ckC x) (by rw [List.getElem?_map, hx]; rfl)
  have h4 := h3 x (List.mem_of_getElem? hx)
  refine ⟨ad, x.2.1, x.2.2.1, x.2.2.2, ea, hc 0 _ rfl, ?_, ?_, ?_, h4.1, h4.2.1, h4.2.2⟩
  · have := hc 1 _ rfl
    rwa [add_field _ _ 1 (by omega)] at this
  · have := hc 2 _ rfl
    rwa [add_field _ _ 2 (by omega)] at this
  · have := hc 3 _ rfl
    rwa [add_field _ _ 3 (by omega)] at this
/-- Chunks of one's own, each with lines of one's own. -/
def OwnCk (T : TypeId) (w : World) (B : Nat) (v : Value) (l : List CkM) : Prop := ∃ L : List (CkM × Value × Value × Value), L.map Prod.fst = l ∧ OwnK 4 T w B v (L.map ckC) ∧ ∀ x ∈ L, OwnV 9 w B x.2.1 (x.1.o.map sv) ∧ OwnV 9 w B x.2.2.1 (x.1.a.map sv) ∧ OwnV 9 w B x.2.2.2 (x.1.b.map sv)
section
variable {T : TypeId} {w w' : World} {B : Nat} {v : Value} {l : List CkM}
theorem OwnCk.nil_ (T : TypeId) (w : World) (B : Nat) : OwnCk T w B (.slice none 0 0) [] := ⟨[], rfl, OwnK.nil_ _ _ _ _, fun x hx => by cases hx⟩
theorem OwnCk.below (h : OwnCk T w B v l) (hb : Below w.heap.size w w') : OwnCk T w' B v l := by
  obtain ⟨L, h1, h2, h3⟩ := h
  exact ⟨L, h1, h2.below hb, fun x hx => ⟨(h3 x hx).1.below hb, (h3 x hx).2.1.below hb, (h3 x hx).2.2.below hb⟩⟩
theorem OwnCk.base {B' : Nat} (h : OwnCk T w B v l) (hB : B' ≤ B) : OwnCk T w B' v l := by
  obtain ⟨L, h1, h2, h3⟩ := h
  exact ⟨L, h1, h2.base hB, fun x hx => ⟨(h3 x hx).1.base hB, (h3 x hx).2.1.base hB, (h3 x hx).2.2.base hB⟩⟩
theorem OwnCk.sl (h : OwnCk T w B v l) : SlCk w v l := by
  obtain ⟨L, h1, h2, h3⟩ := h
  exact ⟨L, h1, h2.sl, fun x hx => ⟨(h3 x hx).1.slv, (h3 x hx).2.1.slv, (h3 x hx).2.2.slv⟩⟩
theorem OwnCk.slice (h : OwnCk T w B v l) : ∃ A c, v = .slice A l.length c ∧ l.length ≤ c ∧ c ≤ maxLen := h.sl.slice
end
theorem info_ck : (Try.prog.info? 42).map (fun i => (i.zero, i.size, i.bytes)) = some (some (.agg #[.int .i64 0, .slice none 0 0, .slice none 0 0, .slice none 0 0]), 4, 80) := by kernel_rfl
theorem info_rck : (Try.prog.info? 62).map (fun i => (i.zero, i.size, i.bytes)) = some (some (.agg #[.int .i64 0, .slice none 0 0, .slice none 0 0, .slice none 0 0]), 4, 80) := by kernel_rfl
/-- append of a chunk. -/
theorem append_ck {T TS : TypeId} (hT : Try.prog.underlying TS = some (.slice T)) (hin : (Try.prog.info? T).map (fun i => (i.zero, i.size, i.bytes)) = some (some (.agg #[.int .i64 0, .slice none 0 0, .slice none 0 0, .slice none 0 0]), 4, 80)) (hne : 9 ≠ T)
    {ops : Array Oper} {rest : List Oper} {o : Oper} {a : Act} {Q : Exit → Act → World → Prop} (hgd : o.guard = none) (s x : Operand)
    (ho : o.op = .call { callee := .builtin .append, args := #[s, x], argTypes := #[TS, TS] }) (w : World) (B : Nat) (v : Value) (l : List CkM) (hs : a.eval s = v) (hown : OwnCk T w B v l)
    (k : Nat) (d1 d2 d3 : Value) (e1 e2 e3 : List ByteArray) (h1 : OwnV 9 w B d1 (e1.map sv)) (h2 : OwnV 9 w B d2 (e2.map sv)) (h3 : OwnV 9 w B d3 (e3.map sv)) (hx : a.eval x = .slice (some ⟨w.heap.size, 0, none⟩) 1 1) (hsmall : l.length + 1 ≤ 2000000) (hB : B ≤ w.heap.size)
    (h : ∀ v' w', OwnCk T w' B v' (l ++ [⟨k, e1, e2, e3⟩]) → Below B w w' → (∀ (g : Nat) (cs : Array Value) (E : TypeId), E ≠ T → Blk w g E cs → Blk w' g E cs) → wpList Try.prog ops Q rest (a.put o.dst v') w') : wpList Try.prog ops Q (o :: rest) a (w.alloc (.cells #[.int .i64 (k : Int), d1, d2, d3] T)) := by
  obtain ⟨L, rfl, hk, hl⟩ := hown
  rw [List.length_map] at hsmall
  refine append_roww (k := 4) hT hin rfl (by decide) (by decide) hgd s x ho w B v (L.map ckC) hs hk [.int .i64 (k : Int), d1, d2, d3] rfl ?_ hx (by rw [List.length_map]; exact hsmall) hB ?_
  · intro y hy
    simp at hy
    rcases hy with rfl | rfl | rfl | rfl
    · rfl
    · exact slv_one h1.slv
    · exact slv_one h2.slv
    · exact slv_one h3.slv
  · intro v' w' h4 h5 h6
    refine h v' w' ⟨L ++ [(⟨k, e1, e2, e3⟩, d1, d2, d3)], by rw [List.map_append]; rfl, by rw [List.map_append]; exact h4, fun y hy => ?_⟩ h6 (fun g cs E hE hg => (hg.alloc _).grown h5 (fun e => hk.notin hg hE e.symm))
    have key : ∀ (d : Value) (ls : List ByteArray), OwnV 9 w B d (ls.map sv) → OwnV 9 w' B d (ls.map sv) := fun d ls hy => (hy.alloc _).kept h5 (OwnK.unlike hy hk hne)
    rcases List.mem_append.1 hy with hy | hy
    · exact ⟨key _ _ (hl y hy).1, key _ _ (hl y hy).2.1, key _ _ (hl y hy).2.2⟩
    · rw [List.mem_singleton] at hy
      subst hy
      exact ⟨key _ _ h1, key _ _ h2, key _ _ h3⟩
/-- append of a place. -/
theorem append_tri {T TS : TypeId} (hT : Try.prog.underlying TS = some (.slice T)) (hin : (Try.prog.info? T).map (fun i => (i.zero, i.size, i.bytes)) = some (some (.agg #[.int .i64 0, .int .i64 0, .int .i64 0]), 3, 24))
    {ops : Array Oper} {rest : List Oper} {o : Oper} {a : Act} {Q : Exit → Act → World → Prop} (hgd : o.guard = none) (s x : Operand)
    (ho : o.op = .call { callee := .builtin .append, args := #[s, x], argTypes := #[TS, TS] }) (w : World) (B : Nat) (v : Value) (l : List Tri) (hs : a.eval s = v) (hown : OwnK 3 T w B v (l.map triC))
    (p q r : Nat) (hx : a.eval x = .slice (some ⟨w.heap.size, 0, none⟩) 1 1) (hsmall : l.length + 1 ≤ 2000000) (hB : B ≤ w.heap.size)
    (h : ∀ v' w', OwnK 3 T w' B v' ((l ++ [(p, q, r)]).map triC) → Below B w w' → (∀ (g : Nat) (cs : Array Value) (E : TypeId), E ≠ T → Blk w g E cs → Blk w' g E cs) → wpList Try.prog ops Q rest (a.put o.dst v') w') : wpList Try.prog ops Q (o :: rest) a (w.alloc (.cells #[.int .i64 (p : Int), .int .i64 (q : Int), .int .i64 (r : Int)] T)) := by
  refine append_row (k := 3) hT hin rfl (by decide) (by decide) hgd s x ho w B v (l.map triC) hs hown (triC (p, q, r)) rfl (triC_one _) hx (by rw [List.length_map]; exact hsmall) hB ?_
  intro v' w' h4 h5 h6
  exact h v' w' (by rw [List.map_append]; exact h4) h6 (fun g cs E hE hg => (hg.alloc _).grown h5 (fun e => hown.notin hg hE e.symm))
end Go.Proofs.Ytbejgljljjjjcaa.Ln
