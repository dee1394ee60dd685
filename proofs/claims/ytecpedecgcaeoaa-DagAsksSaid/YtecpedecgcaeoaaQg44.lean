/- Texts put together: DgD, Gr8. -/
import Derived.Test.YtecpedecgcaeoaaQg43
import Derived.Test.YtecpedecgcaeoaaQg41
/- The laws' graph: made of the commits that came in. -/
set_option linter.unusedVariables false
set_option linter.unusedSimpArgs false
namespace Go.Proofs.Ytecpedecgcaeoaa.Tx
open Go.RowKit Go.Maps Go.Proofs.Ytecpedecgcaeoaa.Sh

def madeG (l : List LN) : GR := l.foldl (fun G n => addR G n.id n.par n.stamp) []
theorem madeG_snoc (l : List LN) (k : Nat) (hk : k < l.length) : madeG (l.take (k + 1)) = addR (madeG (l.take k)) l[k].id l[k].par l[k].stamp := by
  unfold madeG
  rw [List.take_succ_eq_append_getElem hk, List.foldl_append]
  rfl
/-- A graph of k commits at most, each of a hundred parents at most. -/
structure GK (G : GR) (k : Nat) : Prop where
  w : GW G
  len : G.length ≤ k
  par : ∀ n ∈ G, n.par.length ≤ 100
  st : ∀ n ∈ G, n.stamp ≤ 9223372036854775807
theorem GK.nil : GK [] 0 := ⟨GW.nil, Nat.le_refl _, fun n h => (by cases h), fun n h => (by cases h)⟩
theorem GK.gs {G : GR} {k : Nat} (h : GK G k) (hk : k ≤ 2000) : GS G := GS.of (Nat.le_trans h.len hk) (fun n hn => Nat.le_trans (h.par n hn) (by omega))
theorem GK.add {G : GR} {k : Nat} (h : GK G k) {id : ByteArray} {ps : List ByteArray} {stamp : Int} (hid : id.size ≤ 1000000) (hp : ps.length ≤ 100) (hst : stamp ≤ 9223372036854775807) : GK (addR G id ps stamp) (k + 1) := by
  refine ⟨h.w.addR hid, Nat.le_trans addR_len (Nat.add_le_add_right h.len 1), fun n hn => ?_, fun n hn => ?_⟩
  · unfold addR at hn
    split at hn
    · unfold addG at hn
      rw [List.mem_append, List.mem_singleton] at hn
      rcases hn with hn | rfl
      · exact h.par n hn
      · show (plsL G (uniqT ps)).length ≤ 100
        rw [pls_len]
        exact Nat.le_trans (uniqT_len ps) hp
    · exact h.par n hn
  · unfold addR at hn
    split at hn
    · unfold addG at hn
      rw [List.mem_append, List.mem_singleton] at hn
      rcases hn with hn | rfl
      · exact h.st n hn
      · exact hst
    · exact h.st n hn
theorem gk_made {l : List LN} (h : FewN l) (hst : ∀ n ∈ l, n.stamp ≤ 9223372036854775807) : ∀ k, k ≤ l.length → GK (madeG (l.take k)) k
  | 0, _ => GK.nil
  | k + 1, hk => by
    have hn := h.2 l[k] (List.getElem_mem (by omega))
    rw [madeG_snoc l k (by omega)]
    exact (gk_made h hst k (by omega)).add (by omega) (by omega) (hst _ (List.getElem_mem (by omega)))
theorem gk_whole {l : List LN} (h : FewN l) (hst : ∀ n ∈ l, n.stamp ≤ 9223372036854775807) : GK (madeG l) 40 := by
  have := gk_made h hst l.length (Nat.le_refl _)
  rw [List.take_of_length_le (Nat.le_refl _)] at this
  exact ⟨this.w, Nat.le_trans this.len h.1, this.par, this.st⟩
def MadePost (w : World) (l : List LN) (e : Ending) (w' : World) : Prop :=
  (∃ g, e = .returned (.pointer (some ⟨g, 0, none⟩)) ∧ GO w w' g (madeG l) ∧ FewN l) ∨ (e = .returned (.pointer none) ∧ Below w.heap.size w w')

end Go.Proofs.Ytecpedecgcaeoaa.Tx
/- Both graphs side by side. -/
set_option linter.unusedVariables false
set_option linter.unusedSimpArgs false
namespace Go.Proofs.Ytecpedecgcaeoaa.Tx
open Go.RowKit Go.Maps Go.Proofs.Ytecpedecgcaeoaa.Sh

/-- The program's graph at g holds G, the document's at x holds H: both made behind w, apart from each other. -/
structure Both (w wr : World) (g x : Nat) (G H : GR) : Prop where
  at_ : ∃ Z Y, GAt Z wr g G ∧ DGo Y wr x H ∧ (∀ k, Z k → w.heap.size ≤ k) ∧ (∀ k, Y k → w.heap.size ≤ k) ∧ ∀ k, Z k → ¬ Y k
  b : Below w.heap.size w wr
section
variable {w wr wq : World} {g x : Nat} {G H : GR}
theorem Both.below (h : Both w wr g x G H) (hb : Below wr.heap.size wr wq) : Both w wq g x G H := by
  obtain ⟨⟨Z, Y, h1, h2, h3, h4, h5⟩, h6⟩ := h
  exact ⟨⟨Z, Y, h1.below hb, h2.below hb, h3, h4, h5⟩, h6.trans (hb.mono h6.size)⟩
theorem Both.made {w1 : World} (h : GO w w1 g G) (hb : Below w1.heap.size w1 wr) : Both w (wr.alloc (.cells #[.slice none 0 0, .slice none 0 0, .slice none 0 0] 33)) g wr.heap.size G [] := by
  obtain ⟨⟨Z, h1, h2⟩, h3⟩ := h
  have h4 := h1.below hb
  have hz := h3.size
  have hz' := hb.size
  exact ⟨⟨Z, _, h4.below (alloc_b _ _), DGo.nil_ wr, h2, fun k hk => by subst hk; omega, fun k hk e => by have := h4.zl k hk; omega⟩, (h3.trans (hb.mono hz)).trans ((alloc_b wr _).mono (by omega))⟩
/-- The program's Add. -/
theorem Both.padd (h : Both w wr g x G H) (hw : GW G) (hs : GS G) (id : ByteArray) (v : Value) (ps : List ByteArray) (stamp : Int) (hq : Below wr.heap.size wr wq) (hid : id.size ≤ 1000000) (hv : SlV wq v (ps.map sv)) (hsz : ∀ s ∈ ps, s.size ≤ 1000000) (hn : ps.length ≤ 200) :
    Calls Try.prog 9 #[.pointer (some ⟨g, 0, none⟩), .string id, v, .int .i64 stamp] wq fun e w' => e = .returned (.int .i64 (addE G id ps stamp)) ∧ Both w w' g x (addR G id ps stamp) H ∧ (∀ v vs, SlV w v vs → SlV w' v vs) ∧ (∀ E v vs, OwnV E wq wr.heap.size v vs → OwnV E w' wr.heap.size v vs) := by
  obtain ⟨⟨Z, Y, h1, h2, h3, h4, h5⟩, h6⟩ := h
  have hz := hq.size
  have h6q := h6.trans (hq.mono h6.size)
  refine (gadd_any Z g G id v ps stamp wq (h1.below hq) hw hs hid hv hsz hn).mono ?_
  rintro e w' ⟨Z', rfl, a1, a2, a3, a4⟩
  have hb := below_only h6q (Nat.le_refl _) a2 h3
  refine ⟨rfl, ⟨⟨Z', Y, a1, (h2.below hq).only a2 (fun k hk hk' => h5 k hk' hk), fun k hk => (a4 k hk).elim (h3 k) (fun y => Nat.le_trans h6q.size y), h4, fun k hk hk' => ?_⟩, hb⟩, fun v vs hv => hv.below hb, fun E v vs hv => a2.own hv fun k hk hZ => ?_⟩
  · rcases a4 k hk with y | y
    · exact h5 k y hk'
    · have := h2.lt k hk'
      omega
  · have h7 := (hv.lt k hk).1
    have h8 := h1.zl k hZ
    omega
/-- The document's Add. -/
theorem Both.dadd (h : Both w wr g x G H) (hw : GW H) (hl : H.length ≤ 2000) (id : ByteArray) (v : Value) (ps : List ByteArray) (stamp : Int) (hq : Below wr.heap.size wr wq) (hv : SlV w v (ps.map sv)) (hn : ps.length ≤ 2000) :
    Calls Try.prog 10 #[.pointer (some ⟨x, 0, none⟩), .string id, v, .int .i64 stamp] wq fun e w' => e = .returned (.int .i64 (addE H id ps stamp)) ∧ Both w w' g x G (addR H id ps stamp) := by
  obtain ⟨⟨Z, Y, h1, h2, h3, h4, h5⟩, h6⟩ := h.below hq
  refine (rgadd_any id v ps stamp h2 hw hl (fun W hW => hv.below (below_only h6 (Nat.le_refl _) hW h4)) hn).mono ?_
  rintro e w' ⟨Y', rfl, a1, a2, a3, a4⟩
  refine ⟨rfl, ⟨Z, Y', h1.only a2 (fun k hk => h5 k hk), a1, h3, fun k hk => (a4 k hk).elim (h4 k) (fun y => Nat.le_trans h6.size y), fun k hk hk' => ?_⟩, below_only h6 (Nat.le_refl _) a2 h4⟩
  rcases a4 k hk' with y | y
  · exact h5 k hk y
  · have := h1.zl k hk
    omega
/-- Both Adds, the program's first. -/
theorem Both.adds (h : Both w wr g x G G) (hw : GW G) (hs : GS G) (id : ByteArray) (v u : Value) (ps : List ByteArray) (stamp : Int) (hq : Below wr.heap.size wr wq) (hid : id.size ≤ 1000000) (hv : SlV wq v (ps.map sv)) (hu : SlV w u (ps.map sv)) (hsz : ∀ s ∈ ps, s.size ≤ 1000000) (hn : ps.length ≤ 200) :
    Calls Try.prog 9 #[.pointer (some ⟨g, 0, none⟩), .string id, v, .int .i64 stamp] wq fun e w' => e = .returned (.int .i64 (addE G id ps stamp)) ∧ Below w.heap.size w w' ∧
      ∀ w1, Below w'.heap.size w' w1 → Calls Try.prog 10 #[.pointer (some ⟨x, 0, none⟩), .string id, u, .int .i64 stamp] w1 fun e w2 => e = .returned (.int .i64 (addE G id ps stamp)) ∧ Both w w2 g x (addR G id ps stamp) (addR G id ps stamp) ∧ ∀ E v vs, OwnV E wq wr.heap.size v vs → OwnV E w2 wr.heap.size v vs := by
  obtain ⟨⟨Z, Y, h1, h2, h3, h4, h5⟩, h6⟩ := h
  have hz := hq.size
  have h6q := h6.trans (hq.mono h6.size)
  refine (gadd_any Z g G id v ps stamp wq (h1.below hq) hw hs hid hv hsz hn).mono ?_
  rintro e w' ⟨Z', rfl, a1, a2, a3, a4⟩
  have hb := below_only h6q (Nat.le_refl _) a2 h3
  have hsz' := a2.size
  refine ⟨rfl, hb, fun w1 hw1 => ?_⟩
  have hb1 := hb.trans (hw1.mono hb.size)
  have hw1s := hw1.size
  have hx1 := ((h2.below hq).only a2 (fun k hk hk' => h5 k hk' hk)).below hw1
  refine (rgadd_any id u ps stamp hx1 hw hs.len (fun W hW => hu.below (below_only hb1 (Nat.le_refl _) hW h4)) (by omega)).mono ?_
  rintro e w2 ⟨Y', rfl, b1, b2, b3, b4⟩
  have hYlt := h2.lt
  have hZlt := h1.zl
  refine ⟨rfl, ⟨⟨Z', Y', (a1.below hw1).only b2 (fun k hk hk' => ?_), b1, fun k hk => (a4 k hk).elim (h3 k) (fun y => Nat.le_trans h6q.size y), fun k hk => (b4 k hk).elim (h4 k) (fun y => Nat.le_trans hb1.size y), fun k hk hk' => ?_⟩, below_only hb1 (Nat.le_refl _) b2 h4⟩, fun E v vs hv => ?_⟩
  · rcases a4 k hk with y | y
    · exact h5 k y hk'
    · have := hYlt k hk'; omega
  · have hk1 := a1.zl k hk
    rcases b4 k hk' with y | y
    · rcases a4 k hk with z | z
      · exact h5 k z y
      · have := hYlt k y; omega
    · omega
  · have hv1 := a2.own hv fun k hk hZ => by have h7 := (hv.lt k hk).1; have h8 := hZlt k hZ; omega
    exact b2.own (hv1.below hw1) fun k hk hY => by have h7 := (hv.lt k hk).1; have h8 := hYlt k hY; omega
end
