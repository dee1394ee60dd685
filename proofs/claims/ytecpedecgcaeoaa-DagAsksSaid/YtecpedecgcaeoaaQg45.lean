/- Texts put together: Sw0, DgI. -/
import Derived.Test.YtecpedecgcaeoaaQg03
import Derived.Deep.Slices
import Derived.Deep.Fields
import Derived.ChangeSame
import Derived.SizedLaws
import Derived.Test.YtecpedecgcaeoaaQg44
import Derived.OpenShut
import Derived.ShutString
import Derived.ChangeOld
import Derived.WideShapes
/- Slices of structs, and structs, that came in: what their cells hold, and how great it is. -/
namespace Go.Proofs.Ytecpedecgcaeoaa.Sh
open Go.ChangeShapes Go.WideShapes Go.Deep

theorem weights_all_mem {H : Type} {P : Program} {e : TypeId} : ∀ {l : List (DataW H)} {d : DataW H} {n : Nat}, d ∈ l → n ∈ d.weights P e → n ∈ DataW.weightsAll P e l
  | x :: l, d, n, hd, hn => by
    rw [DataW.weightsAll, List.mem_append]
    rcases List.mem_cons.1 hd with rfl | h
    · exact .inl hn
    · exact .inr (weights_all_mem h hn)
/-- Each field of a struct: its cell, that this reads as the field's type, and that it is no greater than the struct. -/
theorem fields_w {H : Type} {enc : TypeId × Value → H} {P : Program} {w : World} {base : Nat} {spare : Nat → Bool} {held : Bool} {t : TypeId} {fs : Array Field} {fuel : Nat} {cs : List Value} {x : DataW H × List MemPlace}
    (he : P.underlying t = some (.struct fs)) (hone : oneCellFields P fs = true) (hC : P.cellsOf t = fs.size) (h : DataW.trod enc P w base spare held fuel t cs = some x) :
    cs.length = fs.size ∧ ∀ (j : Nat) (f : Field), fs[j]? = some f → ∃ (v : Value) (n : Nat) (y : DataW H × List MemPlace), cs[j]? = some v ∧ DataW.trod enc P w base spare held n f.type [v] = some y ∧ ∀ m ∈ y.1.weights P f.type, m ∈ x.1.weights P t := by
  obtain ⟨ys, n, _, hx, hcl, hyl, hf⟩ := DataW.trod_struct he h
  refine ⟨by omega, fun j f hj => ?_⟩
  obtain ⟨ho, hk⟩ := hone_of hone j f hj
  have hjl : j < fs.size := (Array.getElem?_eq_some_iff.1 hj).1
  have hjc : j < cs.length := by omega
  have hjy : j < ys.length := by omega
  have hg := hf j f hj
  rw [ho, hk, List.drop_eq_getElem_cons hjc, List.getElem?_eq_getElem hjy] at hg
  refine ⟨_, n, _, List.getElem?_eq_getElem hjc, hg, fun m hm => ?_⟩
  rw [hx]
  have h1 : (fs.toList.map (·.type))[j]? = some f.type := by rw [List.getElem?_map, Array.getElem?_toList, hj]; rfl
  have h2 : (ys.map (·.1))[j]? = some ys[j].1 := by rw [List.getElem?_map, List.getElem?_eq_getElem hjy]; rfl
  have h3 := DataW.weights_mem_each (P := P) h1 h2 m hm
  simp only [DataW.weights, he]
  exact h3
/-- Each field of each struct of a slice. -/
theorem structs_w {H : Type} {enc : TypeId × Value → H} {P : Program} {w : World} {base : Nat} {spare : Nat → Bool} {held : Bool} {t e : TypeId} {fs : Array Field} {fuel : Nat} {a : Option Addr} {len cap : Nat} {x : DataW H × List MemPlace}
    (ht : P.underlying t = some (.slice e)) (he : P.underlying e = some (.struct fs)) (hone : oneCellFields P fs = true) (hC : P.cellsOf e = fs.size) (h : DataW.trod enc P w base spare held fuel t [.slice a len cap] = some x) :
    (a = none ∧ len = 0 ∧ cap = 0) ∨ ∃ ad, a = some ad ∧ len ≤ cap ∧ cap ≤ maxLen ∧ ∀ i, i < len → ∀ (j : Nat) (f : Field), fs[j]? = some f →
      ∃ (v : Value) (n : Nat) (y : DataW H × List MemPlace), w.cell? (ad.add (i * fs.size + j)) = some v ∧ DataW.trod enc P w base spare held n f.type [v] = some y ∧ ∀ m ∈ y.1.weights P f.type, m ∈ x.1.weights P t := by
  rcases open_slice ht h with ⟨h0, _⟩ | ⟨ad, l, c, m, k, D, Pl, h0, _, hl, hm, hmm, hx, hi⟩
  · left
    simp at h0
    exact h0
  · right
    simp at h0
    obtain ⟨rfl, rfl, rfl⟩ := h0
    refine ⟨ad, rfl, hl, hm, fun i hil j f hj => ?_⟩
    obtain ⟨cs, hc, ht'⟩ := hi i (by rw [hmm]; split <;> omega)
    obtain ⟨_, hcl, hat⟩ := World.cells?_some hc
    obtain ⟨hlen, hfl⟩ := fields_w he hone hC ht'
    obtain ⟨v, n, y, hv, hy, hw⟩ := hfl j f hj
    have hjc := (List.getElem?_eq_some_iff.1 hv).1
    have hcell := hat j (by omega)
    rw [hC, Go.Deep.add_add, hv] at hcell
    refine ⟨v, n, y, hcell, hy, fun m' hm' => ?_⟩
    rw [hx]
    simp only [DataW.weights, ht]
    refine List.mem_cons_of_mem _ (List.mem_append.2 (.inl ?_))
    exact weights_all_mem (List.mem_map.2 ⟨i, List.mem_range.2 hil, rfl⟩) (hw m' hm')
end Go.Proofs.Ytecpedecgcaeoaa.Sh
/- Commits as they came in. -/
set_option linter.unusedVariables false
set_option linter.unusedSimpArgs false
namespace Go.Proofs.Ytecpedecgcaeoaa.Tx
open Go.ChangeShapes Go.WideShapes Go.RowKit Go.Deep Go.Proofs.Ytecpedecgcaeoaa.Sh

section
variable {H : Type} {enc : TypeId × Value → H} {w : World} {base n : Nat} {held : Bool} {v : Value} {y : DataW H × List MemPlace}
theorem gint_in (h : DataW.trod enc Try.prog w base (fun _ => true) held n 3 [v] = some y) : ∃ k, v = .int .i64 k ∧ k ≤ 9223372036854775807 := by
  obtain ⟨k, hv, _, hw⟩ := DataW.trod_int Try.underlying3 h
  simp at hv
  refine ⟨k, hv, ?_⟩
  have : -9223372036854775808 ≤ k ∧ k ≤ 9223372036854775807 := by simpa [Lit.wf, IntKind.min, IntKind.max, IntKind.signed, IntKind.bits] using hw
  exact this.2
theorem gstr_in (h : DataW.trod enc Try.prog w base (fun _ => true) held n 9 [v] = some y) : ∃ s : ByteArray, v = .string s ∧ s.size ≤ maxLen := by
  obtain ⟨s, hv, _, hw⟩ := DataW.trod_string Try.underlying9 h
  simp at hv
  exact ⟨s, hv, hw⟩
set_option maxRecDepth 100000 in
theorem gtexts_in (h : DataW.trod enc Try.prog w base (fun _ => true) held n 23 [v] = some y) : ∃ ts : List ByteArray, SlV w v (ts.map sv) ∧ ∀ s ∈ ts, s.size ≤ maxLen := by
  rcases open_strings Try.underlying23 Try.underlying9 (by kernel_rfl) h with ⟨hcs, _⟩ | ⟨x, l, c, zs, hcs, _, hl, hm, hz, _, hcell, hwz⟩
  · simp at hcs
    subst hcs
    exact ⟨[], SlV.nil_ w, fun s hs => by cases hs⟩
  · simp at hcs
    subst hcs
    have : IsTexts w (some x) l c zs := .inr ⟨_, rfl, hl, hm, by simpa using hz, hcell, hwz⟩
    obtain ⟨ts, _, h2, h3⟩ := this.slv
    exact ⟨ts, h2, h3⟩
end
/-- A slice of commits that came in. -/
def IsNodes (w : World) (a : Option Addr) (len cap : Nat) : Prop := ∃ l : List LN, LnV w (.slice a len cap) l ∧ ShN l ∧ ∀ n ∈ l, n.stamp ≤ 9223372036854775807
set_option maxRecDepth 100000 in
set_option maxHeartbeats 1600000 in
theorem isNodes_of {H : Type} {enc : TypeId × Value → H} {w : World} {base n : Nat} {held : Bool} {a : Option Addr} {len cap : Nat} {y : DataW H × List MemPlace} (h : DataW.trod enc Try.prog w base (fun _ => true) held n 22 [.slice a len cap] = some y) : IsNodes w a len cap := by
  rcases structs_w Try.underlying22 Try.underlying36 (by kernel_rfl) (by kernel_rfl) h with ⟨rfl, rfl, rfl⟩ | ⟨ad, rfl, hl, hm, hat⟩
  · exact ⟨[], ⟨[], Rd.nil_ _ _ _, VssV.nil_⟩, (fun n hn => by cases hn), fun n hn => by cases hn⟩
  · have key : ∀ i : Nat, ∃ t : LN × Value, i < len → (∀ (r : Nat) (u : Value), (lnK.cells t.1 t.2)[r]? = some u → w.cell? ((ad.add (i * 3)).add r) = some u) ∧ SlV w t.2 (t.1.par.map sv) ∧ t.1.id.size ≤ maxLen ∧ (∀ s ∈ t.1.par, s.size ≤ maxLen) ∧ t.1.stamp ≤ 9223372036854775807 := by
      intro i
      by_cases hi : i < len
      · obtain ⟨v0, n0, y0, e0, t0, _⟩ := hat i hi 0 _ rfl
        obtain ⟨v1, n1, y1, e1, t1, _⟩ := hat i hi 1 _ rfl
        obtain ⟨v2, n2, y2, e2, t2, _⟩ := hat i hi 2 _ rfl
        obtain ⟨s0, rfl, hs0⟩ := gstr_in t0
        obtain ⟨ts, hts, hsz⟩ := gtexts_in t1
        obtain ⟨k2, rfl, hk2⟩ := gint_in t2
        refine ⟨(⟨s0, ts, k2⟩, v1), fun _ => ⟨fun r u hu => ?_, hts, hs0, hsz, hk2⟩⟩
        rw [Go.Deep.add_add]
        match r, hu with
        | 0, hu => injection hu with hu; subst hu; exact e0
        | 1, hu => injection hu with hu; subst hu; exact e1
        | 2, hu => injection hu with hu; subst hu; exact e2
        | r + 3, hu => simp [lnK] at hu
      · exact ⟨(⟨⟨#[]⟩, [], 0⟩, .int .i64 0), fun h => absurd h hi⟩
    obtain ⟨f, hf⟩ := Classical.axiomOfChoice key
    obtain ⟨L, hL⟩ : ∃ L : List LN, L = (List.range len).map fun i => (f i).1 := ⟨_, rfl⟩
    obtain ⟨D, hD⟩ : ∃ D : List Value, D = (List.range len).map fun i => (f i).2 := ⟨_, rfl⟩
    have hlen : L.length = len := by rw [hL]; simp
    have hdl : D.length = len := by rw [hD]; simp
    have hLi : ∀ i, i < len → L[i]? = some (f i).1 := fun i hi => by rw [hL]; simp [hi]
    have hDi : ∀ i, i < len → D[i]? = some (f i).2 := fun i hi => by rw [hD]; simp [hi]
    have hmem : ∀ e ∈ L, ∃ k, k < len ∧ e = (f k).1 := fun e he => by
      obtain ⟨k, hk, hke⟩ := List.getElem_of_mem he
      have hkl : k < len := by have h1 : k < L.length := hk; omega
      have h2 : L[k]? = some e := (List.getElem?_eq_getElem hk).trans (congrArg some hke)
      rw [hLi k hkl] at h2
      injection h2 with h2
      exact ⟨k, hkl, h2.symm⟩
    refine ⟨L, ⟨D, ?_, ?_⟩, fun e he => ?_, fun e he => ?_⟩
    · have hcl : (ShCV lnK L D).length = len * 3 := by
        have := ShCV_length (K := lnK) (l := L) (ds := D) (by rw [hdl]; exact hlen.symm)
        rw [this]
        show L.length * 3 = _
        rw [hlen]
      refine ⟨some ad, cap, by show Value.slice (some ad) len cap = .slice (some ad) L.length cap; rw [hlen], by show L.length ≤ cap; rw [hlen]; exact hl, hm, by show (ShCV lnK L D).length = L.length * 3; rw [hlen]; exact hcl, (fun e => by cases e), fun h0 => ?_⟩
      replace h0 : 0 < L.length := h0
      rw [hlen] at h0
      have hlt : ad.block < w.heap.size := by
        have := World.block_lt_of_cell? w _ ((hf 0 h0).1 0 _ rfl)
        rw [block_of_add, block_of_add] at this
        exact this
      refine ⟨ad, rfl, trivial, hlt, fun j u hu => ?_⟩
      have hjl := (List.getElem?_eq_some_iff.1 hu).1
      rw [hcl] at hjl
      obtain ⟨q, r, rfl, hr⟩ : ∃ q r, j = q * 3 + r ∧ r < 3 := ⟨j / 3, j % 3, by omega, by omega⟩
      have hq : q < len := by omega
      have hx := hLi q hq
      have hy := hDi q hq
      have hrc : r < (lnK.cells (f q).1 (f q).2).length := Nat.lt_of_lt_of_eq hr (lnK.len (f q).1 (f q).2).symm
      have := ShCV_at (K := lnK) hx hy r _ (List.getElem?_eq_getElem hrc)
      rw [show q * lnK.m + r = q * 3 + r from rfl, hu] at this
      injection this with this
      rw [← Go.Deep.add_add, this]
      exact (hf q hq).1 r _ (List.getElem?_eq_getElem hrc)
    · refine ⟨?_, fun i d bs hd hb => ?_⟩
      · have h1 : (L.map fun e : LN => e.par.map sv).length = len := by rw [List.length_map, hlen]
        exact hdl.trans h1.symm
      · have hi : i < len := by have := (List.getElem?_eq_some_iff.1 hd).1; rw [hdl] at this; exact this
        rw [hDi i hi] at hd
        injection hd with hd
        subst hd
        have hb' : (L.map fun e : LN => e.par.map sv)[i]? = some bs := hb
        rw [List.getElem?_map, hLi i hi] at hb'
        injection hb' with hb'
        subst hb'
        exact Rd.of_slv (hf i hi).2.1 (fun _ _ _ _ => trivial)
    · obtain ⟨k, hk, rfl⟩ := hmem e he
      exact ⟨(hf k hk).2.2.1, (hf k hk).2.2.2.1⟩
    · obtain ⟨k, hk, rfl⟩ := hmem e he
      exact (hf k hk).2.2.2.2
end Go.Proofs.Ytecpedecgcaeoaa.Tx
