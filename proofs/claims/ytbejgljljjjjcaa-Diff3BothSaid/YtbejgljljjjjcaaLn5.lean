/- Pairs and edits in memory. -/
import Derived.Test.YtbejgljljjjjcaaLn4
import Derived.Test.YtbejgljljjjjcaaFr0
set_option linter.unusedVariables false
set_option linter.unusedSimpArgs false
namespace Go.Proofs.Ytbejgljljjjjcaa.Ln
open Go.RowKit Go.Proofs.Ytbejgljljjjjcaa.Sh Go.Proofs.Ytbejgljljjjjcaa.Tx

/-- A row of k cells that reads. -/
def SlK (k : Nat) (w : World) (v : Value) (rs : List (List Value)) : Prop := ∃ A c, v = .slice A rs.length c ∧ rs.length ≤ c ∧ c ≤ maxLen ∧ Reads w w.heap.size k A rs.length rs.flatten
theorem SlK.below {k : Nat} {w w' : World} {v : Value} {rs : List (List Value)} (h : SlK k w v rs) (hb : Below w.heap.size w w') : SlK k w' v rs := by
  obtain ⟨A, c, hv, h1, h2, h3⟩ := h
  exact ⟨A, c, hv, h1, h2, (h3.below hb).more hb.size⟩
theorem SlK.nil_ (k : Nat) (w : World) : SlK k w (.slice none 0 0) [] := ⟨none, 0, rfl, Nat.le_refl _, by unfold maxLen; omega, Reads.none_⟩
theorem OwnK.sl {k : Nat} {T : TypeId} {w : World} {B : Nat} {v : Value} {rs : List (List Value)} (h : OwnK k T w B v rs) : SlK k w v rs := by
  obtain ⟨A, c, rfl, h1, h2⟩ := h.slice
  exact ⟨A, c, rfl, h1, h2, h.reads⟩
theorem SlK.at_ {k : Nat} {w : World} {A : Option Addr} {n c : Nat} {rs : List (List Value)} (h : SlK k w (.slice A n c) rs) (hk : ∀ r ∈ rs, r.length = k) (i : Nat) (r : List Value) (hr : rs[i]? = some r) :
    ∃ ad : Addr, A = some ad ∧ ∀ (j : Nat) (u : Value), r[j]? = some u → w.cell? (ad.add (i * k + j)) = some u := by
  obtain ⟨A', c', he, h1, h2, h3⟩ := h
  injection he with e1 e2 e3
  subst e1 e3
  exact reads_row h3 hk i (List.getElem?_eq_some_iff.1 hr).1 r hr

/-- A pair's cells. -/
def prC (p : Nat × Nat) : List Value := [.int .i64 (p.1 : Int), .int .i64 (p.2 : Int)]
theorem prC_len (l : List (Nat × Nat)) : ∀ r ∈ l.map prC, r.length = 2 := by
  intro r hr
  obtain ⟨x, _, rfl⟩ := List.mem_map.1 hr
  rfl
theorem prC_one (p : Nat × Nat) : ∀ y ∈ prC p, y.oneCell' = true := by
  intro y hy
  simp [prC] at hy
  rcases hy with rfl | rfl <;> rfl
theorem pr_at {w : World} {A : Option Addr} {n c : Nat} {l : List (Nat × Nat)} (h : SlK 2 w (.slice A n c) (l.map prC)) (i : Nat) (p q : Nat) (hi : l[i]? = some (p, q)) :
    ∃ ad : Addr, A = some ad ∧ w.cell? (ad.add (i * 2)) = some (.int .i64 (p : Int)) ∧ w.cell? ⟨(ad.add (i * 2)).block, (ad.add (i * 2)).off + 1, none⟩ = some (.int .i64 (q : Int)) := by
  obtain ⟨ad, e, hc⟩ := h.at_ (prC_len l) i (prC (p, q)) (by rw [List.getElem?_map, hi]; rfl)
  refine ⟨ad, e, hc 0 _ rfl, ?_⟩
  have := hc 1 _ rfl
  rwa [add_field _ _ 1 (by omega)] at this
theorem info_pr : (Try.prog.info? 69).map (fun i => (i.zero, i.size, i.bytes)) = some (some (.agg #[.int .i64 0, .int .i64 0]), 2, 16) := by kernel_rfl
theorem info_rpr : (Try.prog.info? 70).map (fun i => (i.zero, i.size, i.bytes)) = some (some (.agg #[.int .i64 0, .int .i64 0]), 2, 16) := by kernel_rfl

/-- An edit, of any numbers. -/
structure EdI where
  at_ : Int
  del : Int
  ins : List ByteArray
def ofEd (e : Ed ByteArray) : EdI := ⟨(e.at_ : Int), (e.del : Int), e.ins⟩
def edC (x : EdI × Value) : List Value := [.int .i64 x.1.at_, .int .i64 x.1.del, x.2]
theorem edC_len (L : List (EdI × Value)) : ∀ r ∈ L.map edC, r.length = 3 := by
  intro r hr
  obtain ⟨x, _, rfl⟩ := List.mem_map.1 hr
  rfl
/-- Edits that read, each with its lines. -/
def SlEd (w : World) (v : Value) (l : List EdI) : Prop := ∃ L : List (EdI × Value), L.map Prod.fst = l ∧ SlK 3 w v (L.map edC) ∧ ∀ x ∈ L, SlV w x.2 (x.1.ins.map sv)
theorem SlEd.below {w w' : World} {v : Value} {l : List EdI} (h : SlEd w v l) (hb : Below w.heap.size w w') : SlEd w' v l := by
  obtain ⟨L, h1, h2, h3⟩ := h
  exact ⟨L, h1, h2.below hb, fun x hx => (h3 x hx).below hb⟩
theorem SlEd.nil_ (w : World) : SlEd w (.slice none 0 0) [] := ⟨[], rfl, SlK.nil_ _ _, fun x hx => by cases hx⟩
theorem SlEd.slice {w : World} {v : Value} {l : List EdI} (h : SlEd w v l) : ∃ A c, v = .slice A l.length c ∧ l.length ≤ c ∧ c ≤ maxLen := by
  obtain ⟨L, rfl, ⟨A, c, hv, h1, h2, _⟩, _⟩ := h
  simp only [List.length_map] at hv h1 ⊢
  exact ⟨A, c, hv, h1, h2⟩
theorem SlEd.at_ {w : World} {A : Option Addr} {n c : Nat} {l : List EdI} (h : SlEd w (.slice A n c) l) (i : Nat) (e : EdI) (hi : l[i]? = some e) :
    ∃ (ad : Addr) (d : Value), A = some ad ∧ w.cell? (ad.add (i * 3)) = some (.int .i64 e.at_) ∧ w.cell? ⟨(ad.add (i * 3)).block, (ad.add (i * 3)).off + 1, none⟩ = some (.int .i64 e.del) ∧
      w.cell? ⟨(ad.add (i * 3)).block, (ad.add (i * 3)).off + 2, none⟩ = some d ∧ SlV w d (e.ins.map sv) := by
  obtain ⟨L, rfl, h2, h3⟩ := h
  rw [List.getElem?_map] at hi
  obtain ⟨x, hx, rfl⟩ := Option.map_eq_some_iff.1 hi
  obtain ⟨ad, ea, hc⟩ := h2.at_ (edC_len L) i (edC x) (by rw [List.getElem?_map, hx]; rfl)
  refine ⟨ad, x.2, ea, hc 0 _ rfl, ?_, ?_, h3 x (List.mem_of_getElem? hx)⟩
  · have := hc 1 _ rfl
    rwa [add_field _ _ 1 (by omega)] at this
  · have := hc 2 _ rfl
    rwa [add_field _ _ 2 (by omega)] at this
/-- One edit's cells, and that they stay. -/
theorem SlEd.stay {w : World} {A : Option Addr} {n c : Nat} {l : List EdI} (h : SlEd w (.slice A n c) l) (i : Nat) (e : EdI) (hi : l[i]? = some e) :
    ∃ (ad : Addr) (d : Value), A = some ad ∧ (∀ W, Below w.heap.size w W → W.cell? (ad.add (i * 3)) = some (.int .i64 e.at_) ∧ W.cell? ⟨(ad.add (i * 3)).block, (ad.add (i * 3)).off + 1, none⟩ = some (.int .i64 e.del) ∧
      W.cell? ⟨(ad.add (i * 3)).block, (ad.add (i * 3)).off + 2, none⟩ = some d ∧ SlV W d (e.ins.map sv)) := by
  obtain ⟨L, rfl, h2, h3⟩ := h
  rw [List.getElem?_map] at hi
  obtain ⟨x, hx, rfl⟩ := Option.map_eq_some_iff.1 hi
  obtain ⟨ad, ea, _⟩ := h2.at_ (edC_len L) i (edC x) (by rw [List.getElem?_map, hx]; rfl)
  refine ⟨ad, x.2, ea, fun W hW => ?_⟩
  obtain ⟨ad2, ea2, hc⟩ := (h2.below hW).at_ (edC_len L) i (edC x) (by rw [List.getElem?_map, hx]; rfl)
  rw [ea] at ea2
  injection ea2 with ea2
  subst ea2
  refine ⟨hc 0 _ rfl, ?_, ?_, (h3 x (List.mem_of_getElem? hx)).below hW⟩
  · have := hc 1 _ rfl
    rwa [add_field _ _ 1 (by omega)] at this
  · have := hc 2 _ rfl
    rwa [add_field _ _ 2 (by omega)] at this
/-- Edits of one's own, each with lines of one's own. -/
def OwnEd (T : TypeId) (w : World) (B : Nat) (v : Value) (l : List EdI) : Prop := ∃ L : List (EdI × Value), L.map Prod.fst = l ∧ OwnK 3 T w B v (L.map edC) ∧ ∀ x ∈ L, OwnV 9 w B x.2 (x.1.ins.map sv)
section
variable {T : TypeId} {w w' : World} {B : Nat} {v : Value} {l : List EdI}
theorem OwnEd.nil_ (T : TypeId) (w : World) (B : Nat) : OwnEd T w B (.slice none 0 0) [] := ⟨[], rfl, OwnK.nil_ _ _ _ _, fun x hx => by cases hx⟩
theorem OwnEd.below (h : OwnEd T w B v l) (hb : Below w.heap.size w w') : OwnEd T w' B v l := by
  obtain ⟨L, h1, h2, h3⟩ := h
  exact ⟨L, h1, h2.below hb, fun x hx => (h3 x hx).below hb⟩
theorem OwnEd.alloc (h : OwnEd T w B v l) (o : Obj) : OwnEd T (w.alloc o) B v l := h.below ((Below.refl _ _).alloc (Nat.le_refl _) _)
theorem OwnEd.base {B' : Nat} (h : OwnEd T w B v l) (hB : B' ≤ B) : OwnEd T w B' v l := by
  obtain ⟨L, h1, h2, h3⟩ := h
  exact ⟨L, h1, h2.base hB, fun x hx => (h3 x hx).base hB⟩
theorem OwnEd.sl (h : OwnEd T w B v l) : SlEd w v l := by
  obtain ⟨L, h1, h2, h3⟩ := h
  exact ⟨L, h1, h2.sl, fun x hx => (h3 x hx).slv⟩
theorem OwnEd.slice (h : OwnEd T w B v l) : ∃ A c, v = .slice A l.length c ∧ l.length ≤ c ∧ c ≤ maxLen := h.sl.slice
end
theorem slv_one {w : World} {v : Value} {vs : List Value} (h : SlV w v vs) : v.oneCell' = true := by
  obtain ⟨A, c, rfl, _⟩ := h
  rfl
theorem OwnK.notin {k : Nat} {T E : TypeId} {w : World} {B : Nat} {v : Value} {rs : List (List Value)} {g : Nat} {cs : Array Value} (h : OwnK k T w B v rs) (hg : Blk w g E cs) (hE : E ≠ T) : v.ownBlock ≠ some g := by
  rcases h.2 with ⟨rfl, _⟩ | ⟨g', cap, cur', rfl, _, hg', _⟩
  · simp [Value.ownBlock]
  · intro e
    have e' : g' = g := by simpa [Value.ownBlock] using e
    subst e'
    exact Blk.ne_ hg hg' hE rfl
/-- append of an edit. -/
theorem append_ed {T TS : TypeId} (hT : Try.prog.underlying TS = some (.slice T)) (hin : (Try.prog.info? T).map (fun i => (i.zero, i.size, i.bytes)) = some (some (.agg #[.int .i64 0, .int .i64 0, .slice none 0 0]), 3, 40)) (hne : 9 ≠ T)
    {ops : Array Oper} {rest : List Oper} {o : Oper} {a : Act} {Q : Exit → Act → World → Prop} (hgd : o.guard = none) (s x : Operand)
    (ho : o.op = .call { callee := .builtin .append, args := #[s, x], argTypes := #[TS, TS] }) (w : World) (B : Nat) (v : Value) (l : List EdI) (hs : a.eval s = v) (hown : OwnEd T w B v l)
    (i n : Int) (d : Value) (ins : List ByteArray) (hd : OwnV 9 w B d (ins.map sv)) (hx : a.eval x = .slice (some ⟨w.heap.size, 0, none⟩) 1 1) (hsmall : l.length + 1 ≤ 2000000) (hB : B ≤ w.heap.size)
    (h : ∀ v' w', OwnEd T w' B v' (l ++ [⟨i, n, ins⟩]) → Below B w w' → (∀ (g : Nat) (cs : Array Value) (E : TypeId), E ≠ T → Blk w g E cs → Blk w' g E cs) → wpList Try.prog ops Q rest (a.put o.dst v') w') : wpList Try.prog ops Q (o :: rest) a (w.alloc (.cells #[.int .i64 i, .int .i64 n, d] T)) := by
  obtain ⟨L, rfl, h2, h3⟩ := hown
  rw [List.length_map] at hsmall
  refine append_row (k := 3) hT hin rfl (by decide) (by decide) hgd s x ho w B v (L.map edC) hs h2 [.int .i64 i, .int .i64 n, d] rfl ?_ hx (by rw [List.length_map]; exact hsmall) hB ?_
  · intro y hy
    simp at hy
    rcases hy with rfl | rfl | rfl
    · rfl
    · rfl
    · exact slv_one hd.slv
  · intro v' w' h4 h5 h6
    refine h v' w' ⟨L ++ [(⟨i, n, ins⟩, d)], by rw [List.map_append]; rfl, by rw [List.map_append]; exact h4, fun y hy => ?_⟩ h6 (fun g cs E hE hg => (hg.alloc _).grown h5 (fun e => h2.notin hg hE e.symm))
    have key : ∀ (y : EdI × Value), OwnV 9 w B y.2 (y.1.ins.map sv) → OwnV 9 w' B y.2 (y.1.ins.map sv) := fun y hy => (hy.alloc _).kept h5 (OwnK.unlike hy h2 hne)
    rcases List.mem_append.1 hy with hy | hy
    · exact key y (h3 y hy)
    · rw [List.mem_singleton] at hy
      subst hy
      exact key _ hd
theorem append_pr {T TS : TypeId} (hT : Try.prog.underlying TS = some (.slice T)) (hin : (Try.prog.info? T).map (fun i => (i.zero, i.size, i.bytes)) = some (some (.agg #[.int .i64 0, .int .i64 0]), 2, 16))
    {ops : Array Oper} {rest : List Oper} {o : Oper} {a : Act} {Q : Exit → Act → World → Prop} (hgd : o.guard = none) (s x : Operand)
    (ho : o.op = .call { callee := .builtin .append, args := #[s, x], argTypes := #[TS, TS] }) (w : World) (B : Nat) (v : Value) (l : List (Nat × Nat)) (hs : a.eval s = v) (hown : OwnK 2 T w B v (l.map prC))
    (p q : Nat) (hx : a.eval x = .slice (some ⟨w.heap.size, 0, none⟩) 1 1) (hsmall : l.length + 1 ≤ 2000000) (hB : B ≤ w.heap.size)
    (h : ∀ v' w', OwnK 2 T w' B v' ((l ++ [(p, q)]).map prC) → Below B w w' → wpList Try.prog ops Q rest (a.put o.dst v') w') : wpList Try.prog ops Q (o :: rest) a (w.alloc (.cells #[.int .i64 (p : Int), .int .i64 (q : Int)] T)) := by
  refine append_row (k := 2) hT hin rfl (by decide) (by decide) hgd s x ho w B v (l.map prC) hs hown (prC (p, q)) rfl (prC_one _) hx (by rw [List.length_map]; exact hsmall) hB ?_
  intro v' w' h4 h5 h6
  exact h v' w' (by rw [List.map_append]; exact h4) h6
end Go.Proofs.Ytbejgljljjjjcaa.Ln
