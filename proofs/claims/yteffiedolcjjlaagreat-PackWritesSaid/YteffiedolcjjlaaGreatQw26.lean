/- Texts put together: YPk3, YShB1. -/
import Derived.Test.YteffiedolcjjlaaGreatQw17
import Derived.Test.YteffiedolcjjlaaGreatQw22
import Derived.Test.YteffiedolcjjlaaGreatQw25
import Derived.Test.YteffiedolcjjlaaGreatQw10
import Derived.SliceStrings
/- What the laws of packs have in memory: lists of lists of bytes, objects that were read, rows; the reader. -/
set_option linter.unusedVariables false
set_option linter.unusedSimpArgs false
namespace Go.Proofs.YteffiedolcjjlaaGreat.Ob
open Go.RowKit Go.Proofs.YteffiedolcjjlaaGreat.Sh
open Go.Proofs.YteffiedolcjjlaaGreat.Tx (Shape InL TmpL OwnL Typed Only By Rd Datas list_appendL step_appendL)

/-- An object that was read, as a struct. -/
def entK : Shape where
  α := EntM
  cells := fun e d => [d, .int .i64 (e.place : Int), .int .i64 (e.depth : Int)]
  data := fun e => e.data
  m := 3
  pos := by decide
  len := fun _ _ => rfl
  one := fun a d hd u hu => by
    simp only [List.mem_cons, List.not_mem_nil, or_false] at hu
    rcases hu with rfl | rfl | rfl
    · exact hd
    · rfl
    · rfl
/-- A row of an index. -/
def rowK : Shape where
  α := EntM
  cells := fun e _ => [.string (str (idB e.data)), .int .i64 (e.place : Int), .int .i64 (e.depth : Int)]
  data := fun _ => []
  m := 3
  pos := by decide
  len := fun _ _ => rfl
  one := fun a d hd u hu => by
    simp only [List.mem_cons, List.not_mem_nil, or_false] at hu
    rcases hu with rfl | rfl | rfl <;> rfl
theorem typed_ent : Typed Tryz.prog entK 114 110 (.agg #[.slice none 0 0, .int .i64 0, .int .i64 0]) 40 := ⟨by kernel_rfl, Tryz.underlying110, rfl, by decide⟩
theorem typed_row : Typed Tryz.prog rowK 67 60 (.agg #[.string ⟨#[]⟩, .int .i64 0, .int .i64 0]) 32 := ⟨by kernel_rfl, Tryz.underlying60, rfl, by decide⟩
/-- v reads as the rows of l. -/
def RwV (w : World) (v : Value) (l : List EntM) : Prop := TmpL rowK (fun _ => True) w v l
theorem RwV.below {w w' : World} {v : Value} {l : List EntM} (h : RwV w v l) (hb : Below w.heap.size w w') : RwV w' v l := TmpL.below (K := rowK) h hb
theorem RwV.slice {w : World} {v : Value} {l : List EntM} (h : RwV w v l) : ∃ A c, v = .slice A l.length c ∧ l.length ≤ c ∧ c ≤ maxLen := TmpL.slice (K := rowK) h
theorem RwV.nil_ (w : World) : RwV w (.slice none 0 0) [] := ⟨[], Rd.nil_ _ w _, Datas.nil_⟩
theorem RwV.at_ {w : World} {A : Option Addr} {n c : Nat} {l : List EntM} (h : RwV w (.slice A n c) l) (k : Nat) (a : EntM) (hk : l[k]? = some a) : ∃ (ad : Addr), A = some ad ∧ w.cell? (ad.add (k * 3)) = some (.string (str (idB a.data))) ∧
    w.cell? ⟨(ad.add (k * 3)).block, (ad.add (k * 3)).off + 1, none⟩ = some (.int .i64 (a.place : Int)) ∧ w.cell? ⟨(ad.add (k * 3)).block, (ad.add (k * 3)).off + 2, none⟩ = some (.int .i64 (a.depth : Int)) := by
  obtain ⟨ad, d, hA, hby, hc⟩ := TmpL.at_ (K := rowK) h k a hk
  refine ⟨ad, hA, ?_, ?_, ?_⟩
  · exact hc 0 _ rfl
  · have := hc 1 _ rfl
    rw [show rowK.m = 3 from rfl, Tx.add_field _ _ 1 (by omega)] at this
    exact this
  · have := hc 2 _ rfl
    rw [show rowK.m = 3 from rfl, Tx.add_field _ _ 2 (by omega)] at this
    exact this

/-- The reader at p, behind the world w0 in which the reading began. -/
structure PrAt (w0 w : World) (F : Nat → Prop) (p : Nat) (vb fv : Value) (k : Nat) (vr : Value) (read : List EntM) : Prop where
  blk : Blk w p 161 #[vb, .int .i64 (k : Int), fv, vr]
  old : Below w0.heap.size w0 w
  pz : w0.heap.size ≤ p
  own : OwnL entK 114 F w w0.heap.size vr read
  fp : ¬ F p
  vp : ∀ k, vr.ownBlock = some k → k ≠ p
  fz : ∀ k, F k → w0.heap.size ≤ k ∧ k < w.heap.size
section
variable {w0 w w' : World} {F : Nat → Prop} {p : Nat} {vb fv vr : Value} {k : Nat} {read : List EntM}
theorem PrAt.below (h : PrAt w0 w F p vb fv k vr read) (hb : Below w.heap.size w w') : PrAt w0 w' F p vb fv k vr read where
  blk := h.blk.below hb h.blk.lt
  old := h.old.trans (hb.mono h.old.size)
  pz := h.pz
  own := h.own.only (M := fun _ => False) (Only.of_below hb) (fun _ _ => id) (fun _ _ => id)
  fp := h.fp
  vp := h.vp
  fz := fun k hk => ⟨(h.fz k hk).1, Nat.lt_of_lt_of_le (h.fz k hk).2 hb.size⟩
theorem PrAt.setAt (h : PrAt w0 w F p vb fv k vr read) (k' : Nat) : PrAt w0 (w.setCell ⟨p, 1, none⟩ (.int .i64 (k' : Int))) F p vb fv k' vr read where
  blk := h.blk.set_ 1 _
  old := ((Only.of_below (M := fun _ => False) h.old).set_ (.inr h.pz) _).below
  pz := h.pz
  own := h.own.only ((Only.refl (fun j => j = p) w).set_ (g := p) (i := 1) (Or.inl rfl) _) (fun j hj e => h.fp (e ▸ hj)) (fun j hj e => h.vp j hj e)
  fp := h.fp
  vp := h.vp
  fz := fun k hk => ⟨(h.fz k hk).1, by simpa using (h.fz k hk).2⟩
theorem PrAt.lt (h : PrAt w0 w F p vb fv k vr read) : p < w.heap.size := h.blk.lt
theorem PrAt.size (h : PrAt w0 w F p vb fv k vr read) : w0.heap.size ≤ w.heap.size := h.old.size
theorem PrAt.slice (h : PrAt w0 w F p vb fv k vr read) : ∃ A c, vr = .slice A read.length c ∧ read.length ≤ c ∧ c ≤ maxLen := TmpL.slice (K := entK) h.own.tmp
theorem PrAt.ent {A : Option Addr} {n c : Nat} (h : PrAt w0 w F p vb fv k (.slice A n c) read) (i : Nat) (a : EntM) (hk : read[i]? = some a) : ∃ (ad : Addr) (A2 : Option Addr) (c2 : Nat), A = some ad ∧ w.cell? (ad.add (i * 3)) = some (.slice A2 a.data.length c2) ∧
    w.cell? ⟨(ad.add (i * 3)).block, (ad.add (i * 3)).off + 1, none⟩ = some (.int .i64 (a.place : Int)) ∧ w.cell? ⟨(ad.add (i * 3)).block, (ad.add (i * 3)).off + 2, none⟩ = some (.int .i64 (a.depth : Int)) ∧ a.data.length ≤ c2 ∧ c2 ≤ maxLen ∧ By F w (.slice A2 a.data.length c2) a.data := by
  obtain ⟨ad, d, hA, hby, hc⟩ := TmpL.at_ (K := entK) h.own.tmp i a hk
  obtain ⟨A2, c2, e2, h1, h2⟩ := Tx.By.slice hby
  have e3 : d = .slice A2 a.data.length c2 := e2
  subst e3
  refine ⟨ad, A2, c2, hA, hc 0 _ rfl, ?_, ?_, h1, h2, hby⟩
  · have := hc 1 _ rfl
    rw [show entK.m = 3 from rfl, Tx.add_field _ _ 1 (by omega)] at this
    exact this
  · have := hc 2 _ rfl
    rw [show entK.m = 3 from rfl, Tx.add_field _ _ 2 (by omega)] at this
    exact this
/-- One object more. -/
theorem PrAt.push {w1 w2 : World} {vr' : Value} {e : EntM} {F' : Nat → Prop} (h : PrAt w0 w1 F p vb fv k vr read) (hF : ∀ k, F' k → F k ∨ (w0.heap.size ≤ k ∧ k < w1.heap.size ∧ k ≠ p))
    (ho : OwnL entK 114 F' w2 w0.heap.size vr' (read ++ [e])) (hg : w1.grownBy w2 vr.ownBlock) (hv : vr'.ownBlock = vr.ownBlock ∨ vr'.ownBlock = some w1.heap.size) :
    PrAt w0 (w2.setCell ⟨p, 3, none⟩ vr') F' p vb fv k vr' (read ++ [e]) := by
  have hfp : ¬ F' p := fun hf => by
    rcases hF p hf with h1 | h1
    · exact h.fp h1
    · exact h1.2.2 rfl
  have hvp : ∀ k, vr'.ownBlock = some k → k ≠ p := fun k hk e => by
    rcases hv with hv | hv
    · exact h.vp k (hv ▸ hk) e
    · rw [hv] at hk
      injection hk with hk
      have := h.lt
      omega
  have hb2 : Blk w2 p 161 #[vb, .int .i64 (k : Int), fv, vr] := h.blk.grown hg (fun e => h.vp p e.symm rfl)
  have ho2 : Below w0.heap.size w0 w2 := h.old.trans ((Below.refl _ _).grown hg h.size (fun g hg' => (h.own.lt g hg').1))
  exact {
    blk := hb2.set_ 3 _
    old := ((Only.of_below (M := fun _ => False) ho2).set_ (.inr h.pz) _).below
    pz := h.pz
    own := ho.only ((Only.refl (fun j => j = p) w2).set_ (g := p) (i := 3) (Or.inl rfl) _) (fun j hj e => hfp (e ▸ hj)) (fun j hj e => hvp j hj e)
    fp := hfp
    vp := hvp
    fz := fun k hk => by
      have hz : w1.heap.size ≤ w2.heap.size := hg.size
      have hz2 : (w2.setCell ⟨p, 3, none⟩ vr').heap.size = w2.heap.size := by simp
      rw [hz2]
      rcases hF k hk with h1 | h1
      · have := h.fz k h1; omega
      · omega }
end
end Go.Proofs.YteffiedolcjjlaaGreat.Ob
/- Slices of any one-cell values: of one's own, and such as came in. -/
namespace Go.Proofs.YteffiedolcjjlaaGreat.Sh
open Go.RowKit

/-- v is a slice of the call's own (its block from B on) that holds vs; E: its elements' type. -/
def OwnV (E : TypeId) (w : World) (B : Nat) (v : Value) (vs : List Value) : Prop := w.ownsRow B E 1 v vs.length vs
/-- v is a slice that reads as vs. -/
def SlV (w : World) (v : Value) (vs : List Value) : Prop := ∃ A c, v = .slice A vs.length c ∧ vs.length ≤ c ∧ c ≤ maxLen ∧ Reads w w.heap.size 1 A vs.length vs ∧ (A = none → vs = [])

section
variable {E : TypeId} {w w' : World} {B : Nat} {v : Value} {vs : List Value}
theorem SlV.below (h : SlV w v vs) (hb : Below w.heap.size w w') : SlV w' v vs := by
  obtain ⟨A, c, hv, h1, h2, h3, h4⟩ := h
  exact ⟨A, c, hv, h1, h2, (h3.below hb).more hb.size, h4⟩
theorem SlV.drew (h : SlV w v vs) : SlV w.drew v vs := h
theorem SlV.nil_ (w : World) : SlV w (.slice none 0 0) [] := ⟨none, 0, rfl, by simp, by unfold maxLen; omega, Reads.none_, fun _ => rfl⟩
theorem SlV.len (h : SlV w v vs) : ∃ A c, v = .slice A vs.length c ∧ vs.length ≤ c ∧ c ≤ maxLen ∧ Reads w w.heap.size 1 A vs.length vs := by
  obtain ⟨A, c, hv, h1, h2, h3, _⟩ := h
  exact ⟨A, c, hv, h1, h2, h3⟩
theorem reads_at {A : Option Addr} {n : Nat} (h : Reads w B 1 A n vs) (k : Nat) (u : Value) (hk : vs[k]? = some u) : ∃ ad, A = some ad ∧ w.cell? (ad.add k) = some u := by
  have hl : k < vs.length := (List.getElem?_eq_some_iff.1 hk).1
  obtain ⟨ad, e, _, hc⟩ := h.2 (by have := h.1; omega)
  exact ⟨ad, e, hc k u hk⟩
theorem OwnV.nil_ (w : World) (B : Nat) : OwnV E w B (.slice none 0 0) [] := World.ownsRow_nil w B E 1
theorem OwnV.alloc (h : OwnV E w B v vs) (o : Obj) : OwnV E (w.alloc o) B v vs := World.ownsRow.alloc h o
theorem OwnV.drew (h : OwnV E w B v vs) : OwnV E w.drew B v vs := h
theorem OwnV.drewN (h : OwnV E w B v vs) (n : Nat) : OwnV E (w.drewN n) B v vs := h
theorem OwnV.below (h : OwnV E w B v vs) (hb : Below w.heap.size w w') : OwnV E w' B v vs :=
  World.ownsRow.kept h (only_of_below hb none) (by cases hv : v.ownBlock <;> simp)
theorem OwnV.kept {row : Option Nat} (h : OwnV E w B v vs) (hg : w.grownBy w' row) (hne : v.ownBlock = none ∨ v.ownBlock ≠ row) : OwnV E w' B v vs := World.ownsRow.kept h hg hne
theorem OwnV.lt (h : OwnV E w B v vs) (k : Nat) (hk : v.ownBlock = some k) : B ≤ k ∧ k < w.heap.size := World.ownsRow.lt h k hk
theorem OwnV.length (h : OwnV E w B v vs) : ∃ A c, v = .slice A vs.length c ∧ vs.length ≤ c ∧ c ≤ maxLen := by
  rcases h.2 with ⟨rfl, h0⟩ | ⟨g, cap, cur, rfl, _, _, hc, hm, _⟩
  · exact ⟨none, 0, by rw [h0], by rw [h0]; exact Nat.zero_le _, by unfold maxLen; omega⟩
  · exact ⟨_, _, rfl, hc, hm⟩
/-- The row behind it. -/
theorem OwnV.blk (h : OwnV E w B v vs) : (v = .slice none 0 0 ∧ vs = []) ∨ ∃ g c cur, v = .slice (some ⟨g, 0, none⟩) vs.length c ∧ B ≤ g ∧ g < w.heap.size ∧ Blk w g E cur ∧ vs.length ≤ c ∧ c ≤ maxLen ∧ cur.size = c ∧ cur.toList.take vs.length = vs := by
  rcases h.2 with ⟨h1, h0⟩ | ⟨g, cap, cur, rfl, hb, hg, hc, hm, hcs, htk⟩
  · exact .inl ⟨h1, List.eq_nil_of_length_eq_zero h0⟩
  · exact .inr ⟨g, cap, cur, rfl, hb, (Array.getElem?_eq_some_iff.1 hg).1, hg, hc, hm, by simpa using hcs, by simpa using htk⟩
theorem OwnV.mk {g c : Nat} {cur : Array Value} (hb : B ≤ g) (hg : Blk w g E cur) (hc : vs.length ≤ c) (hm : c ≤ maxLen) (hs : cur.size = c) (ht : cur.toList.take vs.length = vs) : OwnV E w B (.slice (some ⟨g, 0, none⟩) vs.length c) vs :=
  ⟨by simp, Or.inr ⟨g, c, cur, rfl, hb, hg, hc, hm, by simpa using hs, by simpa using ht⟩⟩
theorem OwnV.base {B' : Nat} (h : OwnV E w B v vs) (hB : B' ≤ B) : OwnV E w B' v vs := by
  refine ⟨h.1, ?_⟩
  rcases h.2 with h0 | ⟨g, cap, cur, hv, hb, rest⟩
  · exact .inl h0
  · exact .inr ⟨g, cap, cur, hv, by omega, rest⟩
theorem OwnV.slv (h : OwnV E w B v vs) : SlV w v vs := by
  obtain ⟨A, c, hv, h1, h2⟩ := h.length
  have h' : w.ownsRow B E 1 (.slice A vs.length c) vs.length vs := by rw [← hv]; exact h
  have hr := Reads.of_own h'
  refine ⟨A, c, hv, h1, h2, hr, fun hA => ?_⟩
  rcases Nat.eq_zero_or_pos vs.length with h0 | h0
  · exact List.eq_nil_of_length_eq_zero h0
  · obtain ⟨ad, e, _⟩ := hr.2 h0
    rw [hA] at e
    cases e
theorem OwnV.setAt {g n c : Nat} (h : OwnV E w B (.slice (some ⟨g, 0, none⟩) n c) vs) (j : Nat) (u : Value) :
    OwnV E (w.setCell ⟨g, j, none⟩ u) B (.slice (some ⟨g, 0, none⟩) n c) (vs.set j u) := by
  rcases h.blk with ⟨he, _⟩ | ⟨g', c', cur, he, hb, hlt, hg, hc, hm, hs, ht⟩
  · cases he
  · injection he with e1 e2 e3
    injection e1 with e1
    injection e1 with e1 _ _
    subst e1 e3
    have hb2 := hg.set_ j u
    have el : vs.length = (vs.set j u).length := List.length_set.symm
    rw [e2, el]
    refine OwnV.mk hb hb2 (by rw [List.length_set]; exact hc) hm (by simpa using hs) ?_
    rw [Array.toList_setIfInBounds, List.take_set, List.length_set, ht]
theorem OwnV.apart (h : OwnV E w B v vs) {p : Addr} (hp : v.ownBlock ≠ some p.block) (u : Value) : OwnV E (w.setCell p u) B v vs :=
  World.ownsRow.kept h (row := some p.block) ⟨rfl, rfl, rfl, by simp [World.setCell], fun i _ hne => Below.heap_setCell w p u i (fun e => hne (by rw [e]))⟩ (.inr hp)
/-- Slices of unlike elements lie apart. -/
theorem OwnV.unlike {E' : TypeId} {v' : Value} {vs' : List Value} {B' : Nat} (h : OwnV E w B v vs) (h' : OwnV E' w B' v' vs') (hne : E ≠ E') : v.ownBlock = none ∨ v.ownBlock ≠ v'.ownBlock := by
  rcases h.blk with ⟨rfl, _⟩ | ⟨g, c, cur, rfl, _, _, hg, _⟩
  · exact .inl rfl
  · right
    rcases h'.blk with ⟨rfl, _⟩ | ⟨g', c', cur', rfl, _, _, hg', _⟩
    · simp [Value.ownBlock]
    · intro e
      have e' : g = g' := by simpa [Value.ownBlock] using e
      subst e'
      exact Blk.ne_ hg hg' hne rfl
end
theorem Own.ownV {w : World} {B : Nat} {v : Value} {bs : List UInt8} (h : Own w B v bs) : OwnV 5 w B v (bs.map bv) := by unfold OwnV; rw [List.length_map]; exact h
theorem OwnV.own {w : World} {B : Nat} {v : Value} {bs : List UInt8} (h : OwnV 5 w B v (bs.map bv)) : Own w B v bs := by unfold OwnV at h; rw [List.length_map] at h; exact h

/-- An integer, a text, as values. -/
def iv (n : Int) : Value := .int .i64 n
def sv (s : ByteArray) : Value := .string s
theorem sv_one (l : List ByteArray) : ∀ u ∈ l.map sv, u.oneCell' = true := by intro u hu; simp only [List.mem_map] at hu; obtain ⟨x, _, rfl⟩ := hu; rfl
theorem info_int : (Tryz.prog.info? 3).map (fun i => (i.zero, i.size, i.bytes)) = some (some (.int .i64 0), 1, 8) := by kernel_rfl
theorem info_str : (Tryz.prog.info? 9).map (fun i => (i.zero, i.size, i.bytes)) = some (some (.string ⟨#[]⟩), 1, 16) := by kernel_rfl

/-- A slice of integers that came in. -/
theorem IsRow.slv {w : World} {a : Option Addr} {len cap : Nat} {zs : List Int} (h : IsRow .i64 w a len cap zs) : ∃ ns : List Int, ns.length = len ∧ SlV w (.slice a len cap) (ns.map iv) ∧ ∀ n ∈ ns, (Lit.int .i64 n).wf = true := by
  rcases h with ⟨rfl, rfl, rfl, rfl⟩ | ⟨x, rfl, hl, hm, hz, hc, hw⟩
  · exact ⟨[], rfl, SlV.nil_ w, fun n hn => by cases hn⟩
  · refine ⟨zs.take len, by simp; omega, ⟨some x, cap, by simp; omega, by simp; omega, hm, ⟨by simp, fun h0 => ⟨x, rfl, ?_, fun j u hu => ?_⟩⟩, fun h => by cases h⟩, fun n hn => hw n (List.mem_of_mem_take hn)⟩
    · have h1 : 0 < zs.length := by simp at h0; omega
      have := World.block_lt_of_cell? w _ (hc 0 h1)
      rw [block_of_add] at this
      exact this
    · rw [List.getElem?_map, List.getElem?_take] at hu
      by_cases hj : j < len
      · rw [if_pos hj, List.getElem?_eq_getElem (by omega)] at hu
        rw [hc j (by omega), List.getD_eq_getElem?_getD, List.getElem?_eq_getElem (by omega)]
        exact hu
      · rw [if_neg hj] at hu; cases hu
/-- A slice of texts that came in, as the walk is told of it. -/
def IsTexts (w : World) (a : Option Addr) (len cap : Nat) (ss : List ByteArray) : Prop :=
  (a = none ∧ len = 0 ∧ cap = 0 ∧ ss = []) ∨
  ∃ x, a = some x ∧ len ≤ cap ∧ cap ≤ maxLen ∧ ss.length = cap ∧ (∀ i, i < ss.length → w.cell? (x.add i) = some (.string (ss.getD i ByteArray.empty))) ∧ ∀ s ∈ ss, s.size ≤ maxLen
theorem IsTexts.slv {w : World} {a : Option Addr} {len cap : Nat} {ss : List ByteArray} (h : IsTexts w a len cap ss) : ∃ ts : List ByteArray, ts.length = len ∧ SlV w (.slice a len cap) (ts.map sv) ∧ ∀ s ∈ ts, s.size ≤ maxLen := by
  rcases h with ⟨rfl, rfl, rfl, rfl⟩ | ⟨x, rfl, hl, hm, hz, hc, hw⟩
  · exact ⟨[], rfl, SlV.nil_ w, fun n hn => by cases hn⟩
  · refine ⟨ss.take len, by simp; omega, ⟨some x, cap, by simp; omega, by simp; omega, hm, ⟨by simp, fun h0 => ⟨x, rfl, ?_, fun j u hu => ?_⟩⟩, fun h => by cases h⟩, fun n hn => hw n (List.mem_of_mem_take hn)⟩
    · have h1 : 0 < ss.length := by simp at h0; omega
      have := World.block_lt_of_cell? w _ (hc 0 h1)
      rw [block_of_add] at this
      exact this
    · rw [List.getElem?_map, List.getElem?_take] at hu
      by_cases hj : j < len
      · rw [if_pos hj, List.getElem?_eq_getElem (by omega)] at hu
        rw [hc j (by omega), List.getD_eq_getElem?_getD, List.getElem?_eq_getElem (by omega)]
        exact hu
      · rw [if_neg hj] at hu; cases hu
end Go.Proofs.YteffiedolcjjlaaGreat.Sh
