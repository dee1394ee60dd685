/- Texts put together: YPk3, YShB1. -/
import Derived.Test.YtodlaikemoedfaaQp25
import Derived.Test.YtodlaikemoedfaaQp30
import Derived.Test.YtodlaikemoedfaaQp36
import Derived.Test.YtodlaikemoedfaaQp14
import Derived.SliceStrings
/- What the laws of packs have in memory: lists of lists of bytes, objects that were read, rows; the reader. -/
set_option linter.unusedVariables false
set_option linter.unusedSimpArgs false
namespace Go.Proofs.Ytodlaikemoedfaa.Ob
open Go.RowKit Go.Proofs.Ytodlaikemoedfaa.Sh
open Go.Proofs.Ytodlaikemoedfaa.Tx (Shape InL TmpL OwnL Typed Only By Rd Datas list_appendL step_appendL)

theorem bv_tx : (Tx.bv : UInt8 → Value) = bv := by funext u; unfold Tx.bv bv Tx.bi bi; rfl
theorem by_sl {F : Nat → Prop} {w : World} {v : Value} {bs : List UInt8} (h : By F w v bs) : Sl w v bs := by
  obtain ⟨A, c, hv, h1, h2, h3, h4, h5⟩ := h
  refine ⟨A, c, hv, h1, h2, fun h0 => ?_, fun e => List.eq_nil_of_length_eq_zero (h4 e)⟩
  obtain ⟨ad, e, _, hl, hc⟩ := h5 h0
  refine ⟨ad, e, hl, fun j hj => ?_⟩
  refine hc j _ ?_
  rw [List.getElem?_map, List.getElem?_eq_getElem hj, List.getD_eq_getElem?_getD, List.getElem?_eq_getElem hj, bv_tx]
  rfl
theorem own_by {F : Nat → Prop} {w : World} {B : Nat} {v : Value} {bs : List UInt8} (h : Own w B v bs) (hF : ∀ k, v.ownBlock = some k → F k) : By F w v bs := by
  unfold By
  rw [bv_tx]
  exact Rd.of_own h hF
theorem sl_by {w : World} {v : Value} {bs : List UInt8} (h : Sl w v bs) : By (fun k => k < w.heap.size) w v bs := by
  obtain ⟨A, c, hv, h1, h2, h3, h4⟩ := h
  refine ⟨A, c, hv, h1, h2, by simp, (fun e => by rw [h4 e]; rfl), fun h0 => ?_⟩
  obtain ⟨ad, e, hl, hc⟩ := h3 h0
  refine ⟨ad, e, hl, hl, fun j u hu => ?_⟩
  rw [List.getElem?_map] at hu
  cases hj : bs[j]? with
  | none => rw [hj] at hu; cases hu
  | some y =>
    rw [hj] at hu
    have hlt := (List.getElem?_eq_some_iff.1 hj).1
    rw [hc j hlt, List.getD_eq_getElem?_getD, hj]
    rw [← hu, bv_tx]
    rfl

/-- An object that was read, as a struct. -/
def entK : Shape where
  α := EntM
  cells := fun e d => [d, .int .i64 (e.place : Int), .int .i64 (e.depth : Int)]
  data := fun e => e.data
  m := 3
  pos := by decide
  len := fun _ _ => rfl
  one := fun a d hd u hu => by
    simp only [List.mem_cons, List.not_mem_nil, or_false] at hu
    rcases hu with rfl | rfl | rfl
    · exact hd
    · rfl
    · rfl
/-- A list of lists of bytes. -/
def lstK : Shape where
  α := List UInt8
  cells := fun _ d => [d]
  data := fun e => e
  m := 1
  pos := by decide
  len := fun _ _ => rfl
  one := fun a d hd u hu => by
    rw [List.mem_singleton] at hu
    rw [hu]
    exact hd
/-- A row of an index. -/
def rowK : Shape where
  α := EntM
  cells := fun e _ => [.string (str (idB e.data)), .int .i64 (e.place : Int), .int .i64 (e.depth : Int)]
  data := fun _ => []
  m := 3
  pos := by decide
  len := fun _ _ => rfl
  one := fun a d hd u hu => by
    simp only [List.mem_cons, List.not_mem_nil, or_false] at hu
    rcases hu with rfl | rfl | rfl <;> rfl
theorem typed_lst : Typed Try.prog lstK 25 22 (.slice none 0 0) 24 := ⟨by kernel_rfl, Try.underlying22, rfl, by decide⟩
/-- v reads as the lists of bytes l. -/
def LsV (w : World) (v : Value) (l : List (List UInt8)) : Prop := TmpL lstK (fun _ => True) w v l
/-- v reads as the rows of l. -/
def RwV (w : World) (v : Value) (l : List EntM) : Prop := TmpL rowK (fun _ => True) w v l
section
variable {w w' : World} {v : Value} {l : List (List UInt8)}
theorem LsV.below (h : LsV w v l) (hb : Below w.heap.size w w') : LsV w' v l := TmpL.below (K := lstK) h hb
theorem LsV.slice (h : LsV w v l) : ∃ A c, v = .slice A l.length c ∧ l.length ≤ c ∧ c ≤ maxLen := TmpL.slice (K := lstK) h
theorem LsV.at_ {A : Option Addr} {n c : Nat} (h : LsV w (.slice A n c) l) (k : Nat) (a : List UInt8) (hk : l[k]? = some a) : ∃ (ad : Addr) (A2 : Option Addr) (c2 : Nat), A = some ad ∧ w.cell? (ad.add k) = some (.slice A2 a.length c2) ∧ a.length ≤ c2 ∧ c2 ≤ maxLen ∧ Sl w (.slice A2 a.length c2) a := by
  obtain ⟨ad, d, hA, hby, hc⟩ := TmpL.at_ (K := lstK) h k a hk
  obtain ⟨A2, c2, rfl, h1, h2⟩ := Tx.By.slice hby
  have := hc 0 _ rfl
  exact ⟨ad, A2, c2, hA, by simpa [lstK] using this, h1, h2, by_sl hby⟩
theorem LsV.nil_ (w : World) : LsV w (.slice none 0 0) [] := ⟨[], Rd.nil_ _ w _, Datas.nil_⟩
end
theorem RwV.below {w w' : World} {v : Value} {l : List EntM} (h : RwV w v l) (hb : Below w.heap.size w w') : RwV w' v l := TmpL.below (K := rowK) h hb
theorem RwV.slice {w : World} {v : Value} {l : List EntM} (h : RwV w v l) : ∃ A c, v = .slice A l.length c ∧ l.length ≤ c ∧ c ≤ maxLen := TmpL.slice (K := rowK) h
theorem RwV.nil_ (w : World) : RwV w (.slice none 0 0) [] := ⟨[], Rd.nil_ _ w _, Datas.nil_⟩
theorem RwV.at_ {w : World} {A : Option Addr} {n c : Nat} {l : List EntM} (h : RwV w (.slice A n c) l) (k : Nat) (a : EntM) (hk : l[k]? = some a) : ∃ (ad : Addr), A = some ad ∧ w.cell? (ad.add (k * 3)) = some (.string (str (idB a.data))) ∧
    w.cell? ⟨(ad.add (k * 3)).block, (ad.add (k * 3)).off + 1, none⟩ = some (.int .i64 (a.place : Int)) ∧ w.cell? ⟨(ad.add (k * 3)).block, (ad.add (k * 3)).off + 2, none⟩ = some (.int .i64 (a.depth : Int)) := by
  obtain ⟨ad, d, hA, hby, hc⟩ := TmpL.at_ (K := rowK) h k a hk
  refine ⟨ad, hA, ?_, ?_, ?_⟩
  · exact hc 0 _ rfl
  · have := hc 1 _ rfl
    rw [show rowK.m = 3 from rfl, Tx.add_field _ _ 1 (by omega)] at this
    exact this
  · have := hc 2 _ rfl
    rw [show rowK.m = 3 from rfl, Tx.add_field _ _ 2 (by omega)] at this
    exact this

section
variable {w0 w w' : World} {F : Nat → Prop} {p : Nat} {vb fv vr : Value} {k : Nat} {read : List EntM}
end
end Go.Proofs.Ytodlaikemoedfaa.Ob
/- Slices of any one-cell values: of one's own, and such as came in. -/
namespace Go.Proofs.Ytodlaikemoedfaa.Sh
open Go.RowKit

/-- v is a slice of the call's own (its block from B on) that holds vs; E: its elements' type. -/
def OwnV (E : TypeId) (w : World) (B : Nat) (v : Value) (vs : List Value) : Prop := w.ownsRow B E 1 v vs.length vs
/-- v is a slice that reads as vs. -/
def SlV (w : World) (v : Value) (vs : List Value) : Prop := ∃ A c, v = .slice A vs.length c ∧ vs.length ≤ c ∧ c ≤ maxLen ∧ Reads w w.heap.size 1 A vs.length vs ∧ (A = none → vs = [])

section
variable {E : TypeId} {w w' : World} {B : Nat} {v : Value} {vs : List Value}
theorem SlV.below (h : SlV w v vs) (hb : Below w.heap.size w w') : SlV w' v vs := by
  obtain ⟨A, c, hv, h1, h2, h3, h4⟩ := h
  exact ⟨A, c, hv, h1, h2, (h3.below hb).more hb.size, h4⟩
theorem SlV.drew (h : SlV w v vs) : SlV w.drew v vs := h
theorem SlV.nil_ (w : World) : SlV w (.slice none 0 0) [] := ⟨none, 0, rfl, by simp, by unfold maxLen; omega, Reads.none_, fun _ => rfl⟩
theorem SlV.len (h : SlV w v vs) : ∃ A c, v = .slice A vs.length c ∧ vs.length ≤ c ∧ c ≤ maxLen ∧ Reads w w.heap.size 1 A vs.length vs := by
  obtain ⟨A, c, hv, h1, h2, h3, _⟩ := h
  exact ⟨A, c, hv, h1, h2, h3⟩
theorem reads_at {A : Option Addr} {n : Nat} (h : Reads w B 1 A n vs) (k : Nat) (u : Value) (hk : vs[k]? = some u) : ∃ ad, A = some ad ∧ w.cell? (ad.add k) = some u := by
  have hl : k < vs.length := (List.getElem?_eq_some_iff.1 hk).1
  obtain ⟨ad, e, _, hc⟩ := h.2 (by have := h.1; omega)
  exact ⟨ad, e, hc k u hk⟩
theorem OwnV.nil_ (w : World) (B : Nat) : OwnV E w B (.slice none 0 0) [] := World.ownsRow_nil w B E 1
theorem OwnV.alloc (h : OwnV E w B v vs) (o : Obj) : OwnV E (w.alloc o) B v vs := World.ownsRow.alloc h o
theorem OwnV.drew (h : OwnV E w B v vs) : OwnV E w.drew B v vs := h
theorem OwnV.drewN (h : OwnV E w B v vs) (n : Nat) : OwnV E (w.drewN n) B v vs := h
theorem OwnV.below (h : OwnV E w B v vs) (hb : Below w.heap.size w w') : OwnV E w' B v vs :=
  World.ownsRow.kept h (only_of_below hb none) (by cases hv : v.ownBlock <;> simp)
theorem OwnV.kept {row : Option Nat} (h : OwnV E w B v vs) (hg : w.grownBy w' row) (hne : v.ownBlock = none ∨ v.ownBlock ≠ row) : OwnV E w' B v vs := World.ownsRow.kept h hg hne
theorem OwnV.lt (h : OwnV E w B v vs) (k : Nat) (hk : v.ownBlock = some k) : B ≤ k ∧ k < w.heap.size := World.ownsRow.lt h k hk
theorem OwnV.length (h : OwnV E w B v vs) : ∃ A c, v = .slice A vs.length c ∧ vs.length ≤ c ∧ c ≤ maxLen := by
  rcases h.2 with ⟨rfl, h0⟩ | ⟨g, cap, cur, rfl, _, _, hc, hm, _⟩
  · exact ⟨none, 0, by rw [h0], by rw [h0]; exact Nat.zero_le _, by unfold maxLen; omega⟩
  · exact ⟨_, _, rfl, hc, hm⟩
/-- The row behind it. -/
theorem OwnV.blk (h : OwnV E w B v vs) : (v = .slice none 0 0 ∧ vs = []) ∨ ∃ g c cur, v = .slice (some ⟨g, 0, none⟩) vs.length c ∧ B ≤ g ∧ g < w.heap.size ∧ Blk w g E cur ∧ vs.length ≤ c ∧ c ≤ maxLen ∧ cur.size = c ∧ cur.toList.take vs.length = vs := by
  rcases h.2 with ⟨h1, h0⟩ | ⟨g, cap, cur, rfl, hb, hg, hc, hm, hcs, htk⟩
  · exact .inl ⟨h1, List.eq_nil_of_length_eq_zero h0⟩
  · exact .inr ⟨g, cap, cur, rfl, hb, (Array.getElem?_eq_some_iff.1 hg).1, hg, hc, hm, by simpa using hcs, by simpa using htk⟩
theorem OwnV.mk {g c : Nat} {cur : Array Value} (hb : B ≤ g) (hg : Blk w g E cur) (hc : vs.length ≤ c) (hm : c ≤ maxLen) (hs : cur.size = c) (ht : cur.toList.take vs.length = vs) : OwnV E w B (.slice (some ⟨g, 0, none⟩) vs.length c) vs :=
  ⟨by simp, Or.inr ⟨g, c, cur, rfl, hb, hg, hc, hm, by simpa using hs, by simpa using ht⟩⟩
theorem OwnV.base {B' : Nat} (h : OwnV E w B v vs) (hB : B' ≤ B) : OwnV E w B' v vs := by
  refine ⟨h.1, ?_⟩
  rcases h.2 with h0 | ⟨g, cap, cur, hv, hb, rest⟩
  · exact .inl h0
  · exact .inr ⟨g, cap, cur, hv, by omega, rest⟩
theorem OwnV.slv (h : OwnV E w B v vs) : SlV w v vs := by
  obtain ⟨A, c, hv, h1, h2⟩ := h.length
  have h' : w.ownsRow B E 1 (.slice A vs.length c) vs.length vs := by rw [← hv]; exact h
  have hr := Reads.of_own h'
  refine ⟨A, c, hv, h1, h2, hr, fun hA => ?_⟩
  rcases Nat.eq_zero_or_pos vs.length with h0 | h0
  · exact List.eq_nil_of_length_eq_zero h0
  · obtain ⟨ad, e, _⟩ := hr.2 h0
    rw [hA] at e
    cases e
end
theorem Own.ownV {w : World} {B : Nat} {v : Value} {bs : List UInt8} (h : Own w B v bs) : OwnV 5 w B v (bs.map bv) := by unfold OwnV; rw [List.length_map]; exact h
theorem OwnV.own {w : World} {B : Nat} {v : Value} {bs : List UInt8} (h : OwnV 5 w B v (bs.map bv)) : Own w B v bs := by unfold OwnV at h; rw [List.length_map] at h; exact h

/-- An integer, a text, as values. -/
def iv (n : Int) : Value := .int .i64 n
def sv (s : ByteArray) : Value := .string s
theorem sv_one (l : List ByteArray) : ∀ u ∈ l.map sv, u.oneCell' = true := by intro u hu; simp only [List.mem_map] at hu; obtain ⟨x, _, rfl⟩ := hu; rfl
theorem info_int : (Try.prog.info? 3).map (fun i => (i.zero, i.size, i.bytes)) = some (some (.int .i64 0), 1, 8) := by kernel_rfl
theorem info_str : (Try.prog.info? 9).map (fun i => (i.zero, i.size, i.bytes)) = some (some (.string ⟨#[]⟩), 1, 16) := by kernel_rfl

/-- A slice of integers that came in. -/
theorem IsRow.slv {w : World} {a : Option Addr} {len cap : Nat} {zs : List Int} (h : IsRow .i64 w a len cap zs) : ∃ ns : List Int, ns.length = len ∧ SlV w (.slice a len cap) (ns.map iv) ∧ ∀ n ∈ ns, (Lit.int .i64 n).wf = true := by
  rcases h with ⟨rfl, rfl, rfl, rfl⟩ | ⟨x, rfl, hl, hm, hz, hc, hw⟩
  · exact ⟨[], rfl, SlV.nil_ w, fun n hn => by cases hn⟩
  · refine ⟨zs.take len, by simp; omega, ⟨some x, cap, by simp; omega, by simp; omega, hm, ⟨by simp, fun h0 => ⟨x, rfl, ?_, fun j u hu => ?_⟩⟩, fun h => by cases h⟩, fun n hn => hw n (List.mem_of_mem_take hn)⟩
    · have h1 : 0 < zs.length := by simp at h0; omega
      have := World.block_lt_of_cell? w _ (hc 0 h1)
      rw [block_of_add] at this
      exact this
    · rw [List.getElem?_map, List.getElem?_take] at hu
      by_cases hj : j < len
      · rw [if_pos hj, List.getElem?_eq_getElem (by omega)] at hu
        rw [hc j (by omega), List.getD_eq_getElem?_getD, List.getElem?_eq_getElem (by omega)]
        exact hu
      · rw [if_neg hj] at hu; cases hu
/-- A slice of texts that came in, as the walk is told of it. -/
def IsTexts (w : World) (a : Option Addr) (len cap : Nat) (ss : List ByteArray) : Prop :=
  (a = none ∧ len = 0 ∧ cap = 0 ∧ ss = []) ∨
  ∃ x, a = some x ∧ len ≤ cap ∧ cap ≤ maxLen ∧ ss.length = cap ∧ (∀ i, i < ss.length → w.cell? (x.add i) = some (.string (ss.getD i ByteArray.empty))) ∧ ∀ s ∈ ss, s.size ≤ maxLen
theorem IsTexts.slv {w : World} {a : Option Addr} {len cap : Nat} {ss : List ByteArray} (h : IsTexts w a len cap ss) : ∃ ts : List ByteArray, ts.length = len ∧ SlV w (.slice a len cap) (ts.map sv) ∧ ∀ s ∈ ts, s.size ≤ maxLen := by
  rcases h with ⟨rfl, rfl, rfl, rfl⟩ | ⟨x, rfl, hl, hm, hz, hc, hw⟩
  · exact ⟨[], rfl, SlV.nil_ w, fun n hn => by cases hn⟩
  · refine ⟨ss.take len, by simp; omega, ⟨some x, cap, by simp; omega, by simp; omega, hm, ⟨by simp, fun h0 => ⟨x, rfl, ?_, fun j u hu => ?_⟩⟩, fun h => by cases h⟩, fun n hn => hw n (List.mem_of_mem_take hn)⟩
    · have h1 : 0 < ss.length := by simp at h0; omega
      have := World.block_lt_of_cell? w _ (hc 0 h1)
      rw [block_of_add] at this
      exact this
    · rw [List.getElem?_map, List.getElem?_take] at hu
      by_cases hj : j < len
      · rw [if_pos hj, List.getElem?_eq_getElem (by omega)] at hu
        rw [hc j (by omega), List.getD_eq_getElem?_getD, List.getElem?_eq_getElem (by omega)]
        exact hu
      · rw [if_neg hj] at hu; cases hu
end Go.Proofs.Ytodlaikemoedfaa.Sh
