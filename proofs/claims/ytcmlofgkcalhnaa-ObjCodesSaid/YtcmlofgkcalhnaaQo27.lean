/- Texts put together: St0, ObIn. -/
import Derived.Deep.Slices
import Derived.Deep.Fields
import Derived.ChangeSame
import Derived.Test.YtcmlofgkcalhnaaQo20
import Derived.OpenShut
import Derived.ShutString
import Derived.ChangeOld
import Derived.WideShapes
/- Slices of structs that came in: what their cells hold. -/
namespace Go.Proofs.Ytcmlofgkcalhnaa.Sh
open Go.ChangeShapes Go.WideShapes Go.Deep

/-- Each field of each struct of a slice that was opened: its cell, and that this reads as the field's type. -/
theorem structs_in {H : Type} {enc : TypeId × Value → H} {P : Program} {w : World} {base : Nat} {spare : Nat → Bool} {held : Bool} {t e : TypeId} {fs : Array Field} {fuel : Nat} {a : Option Addr} {len cap : Nat} {x : DataW H × List MemPlace}
    (ht : P.underlying t = some (.slice e)) (he : P.underlying e = some (.struct fs)) (hone : oneCellFields P fs = true) (hC : P.cellsOf e = fs.size) (h : DataW.trod enc P w base spare held fuel t [.slice a len cap] = some x) :
    (a = none ∧ len = 0 ∧ cap = 0) ∨ ∃ ad, a = some ad ∧ len ≤ cap ∧ cap ≤ maxLen ∧ ∀ i, i < len → ∀ (j : Nat) (f : Field), fs[j]? = some f →
      ∃ (v : Value) (n : Nat) (y : DataW H × List MemPlace), w.cell? (ad.add (i * fs.size + j)) = some v ∧ DataW.trod enc P w base spare held n f.type [v] = some y := by
  rcases open_slice ht h with ⟨h0, _⟩ | ⟨ad, l, c, m, k, D, Pl, h0, _, hl, hm, hmm, _, hi⟩
  · left
    simp at h0
    exact h0
  · right
    simp at h0
    obtain ⟨rfl, rfl, rfl⟩ := h0
    refine ⟨ad, rfl, hl, hm, fun i hil j f hj => ?_⟩
    obtain ⟨cs, hc, ht'⟩ := hi i (by rw [hmm]; split <;> omega)
    obtain ⟨_, hcl, hat⟩ := World.cells?_some hc
    obtain ⟨ys, n, _, _, _, hyl, hf⟩ := DataW.trod_struct he ht'
    obtain ⟨ho, hk⟩ := hone_of hone j f hj
    have hjl : j < fs.size := (Array.getElem?_eq_some_iff.1 hj).1
    have hjc : j < cs.length := by omega
    have hg := hf j f hj
    rw [ho, hk, List.drop_eq_getElem_cons hjc, List.getElem?_eq_getElem (by omega)] at hg
    have hcell := hat j (by omega)
    rw [hC, Go.Deep.add_add, List.getElem?_eq_getElem hjc] at hcell
    exact ⟨_, n, _, hcell, hg⟩
end Go.Proofs.Ytcmlofgkcalhnaa.Sh
/- An object that came in: what its cells hold. -/
namespace Go.Proofs.Ytcmlofgkcalhnaa.Ob
open Go.ChangeShapes Go.WideShapes Go.RowKit Go.Deep Go.Proofs.Ytcmlofgkcalhnaa.Sh
open Go.Proofs.Ytcmlofgkcalhnaa.Tx (OwnV SlV sv bl nameB reads_at texts_at toList_ne')

/-- Each field of a struct that was read: its cell, and that this reads as the field's type. -/
theorem fields_in {H : Type} {enc : TypeId × Value → H} {P : Program} {w : World} {base : Nat} {spare : Nat → Bool} {held : Bool} {t : TypeId} {fs : Array Field} {fuel : Nat} {cs : List Value} {x : DataW H × List MemPlace}
    (he : P.underlying t = some (.struct fs)) (hone : oneCellFields P fs = true) (hC : P.cellsOf t = fs.size) (h : DataW.trod enc P w base spare held fuel t cs = some x) (j : Nat) (f : Field) (hj : fs[j]? = some f) :
    ∃ (v : Value) (n : Nat) (y : DataW H × List MemPlace), cs[j]? = some v ∧ DataW.trod enc P w base spare held n f.type [v] = some y := by
  obtain ⟨ys, n, _, _, hcl, hyl, hf⟩ := DataW.trod_struct he h
  obtain ⟨ho, hk⟩ := hone_of hone j f hj
  have hjl : j < fs.size := (Array.getElem?_eq_some_iff.1 hj).1
  have hjc : j < cs.length := by omega
  have hg := hf j f hj
  rw [ho, hk, List.drop_eq_getElem_cons hjc, List.getElem?_eq_getElem (by omega)] at hg
  exact ⟨_, n, _, List.getElem?_eq_getElem hjc, hg⟩
theorem str_of (s : ByteArray) : str s.data.toList = s := by
  unfold str
  cases s
  simp
section
variable {H : Type} {enc : TypeId × Value → H} {w : World} {base n : Nat} {held : Bool} {v : Value} {y : DataW H × List MemPlace}
theorem int_in (h : DataW.trod enc Try.prog w base (fun _ => true) held n 3 [v] = some y) : ∃ k, v = .int .i64 k := by
  obtain ⟨k, hv, _, _⟩ := DataW.trod_int Try.underlying3 h
  simp at hv
  exact ⟨k, hv⟩
theorem str_in (h : DataW.trod enc Try.prog w base (fun _ => true) held n 9 [v] = some y) : ∃ s, v = .string (str s) := by
  obtain ⟨s, hv, _, _⟩ := DataW.trod_string Try.underlying9 h
  simp at hv
  exact ⟨s.data.toList, by rw [str_of, hv]⟩
theorem bytes_in (h : DataW.trod enc Try.prog w base (fun _ => true) held n 29 [v] = some y) : ∃ bs, Sl w v bs := by
  rcases open_ints Try.underlying29 Try.underlying5 (by kernel_rfl) h with ⟨hcs, _⟩ | ⟨x, l, c, zs, hcs, _, hl, hm, hz, _, hcell, hwz⟩
  · simp at hcs
    subst hcs
    exact ⟨[], Sl.nil_ w⟩
  · simp at hcs
    subst hcs
    obtain ⟨bs, _, hs⟩ := IsRow.sl (w := w) (a := some x) (len := l) (cap := c) (zs := zs) (.inr ⟨_, rfl, hl, hm, by simpa using hz, hcell, hwz⟩)
    exact ⟨bs, hs⟩
theorem texts_in (h : DataW.trod enc Try.prog w base (fun _ => true) held n 23 [v] = some y) : ∃ ts : List (List UInt8), SlV w v ((ts.map str).map sv) := by
  have key : ∃ ts : List ByteArray, SlV w v (ts.map sv) := by
    rcases open_strings Try.underlying23 Try.underlying9 (by kernel_rfl) h with ⟨hcs, _⟩ | ⟨x, l, c, zs, hcs, _, hl, hm, hz, _, hcell, hwz⟩
    · simp at hcs
      subst hcs
      exact ⟨[], SlV.nil_ w⟩
    · simp at hcs
      subst hcs
      obtain ⟨ts, _, hs, _⟩ := Tx.IsTexts.slv (w := w) (a := some x) (len := l) (cap := c) (ss := zs) (.inr ⟨_, rfl, hl, hm, by simpa using hz, hcell, hwz⟩)
      exact ⟨ts, hs⟩
  obtain ⟨ts, hs⟩ := key
  refine ⟨ts.map (fun s => s.data.toList), ?_⟩
  have e0 : (str ∘ fun s : ByteArray => s.data.toList) = id := funext str_of
  have e : (ts.map (fun s => s.data.toList)).map str = ts := by rw [List.map_map, e0, List.map_id]
  rw [e]
  exact hs
end
section
variable {H : Type} {enc : TypeId × Value → H} {w : World} {base n : Nat} {held : Bool} {v : Value} {y : DataW H × List MemPlace}
set_option maxRecDepth 100000 in
theorem items_in (h : DataW.trod enc Try.prog w base (fun _ => true) held n 30 [v] = some y) : ∃ l, SlI w v l := by
  have hsl : ∃ a len cap, v = .slice a len cap := by
    rcases DataW.trod_slice Try.underlying30 h with ⟨hcs, _⟩ | ⟨a, len, cap, _, _, _, _, hcs, _⟩
    · simp at hcs; exact ⟨_, _, _, hcs⟩
    · simp at hcs; exact ⟨_, _, _, hcs⟩
  obtain ⟨a, len, cap, rfl⟩ := hsl
  rcases structs_in Try.underlying30 Try.underlying55 (by kernel_rfl) (by kernel_rfl) h with ⟨rfl, rfl, rfl⟩ | ⟨ad, rfl, hl, hm, hat⟩
  · exact ⟨[], SlI.nil_ w⟩
  · have key : ∀ i : Nat, ∃ x : ItM, i < len → w.cell? (ad.add (i * 3)) = some (.int .i64 x.1) ∧ w.cell? (ad.add (i * 3 + 1)) = some (.string (str x.2.1)) ∧ w.cell? (ad.add (i * 3 + 2)) = some (.string (str x.2.2)) := by
      intro i
      by_cases hi : i < len
      · obtain ⟨v0, n0, y0, e0, t0⟩ := hat i hi 0 _ rfl
        obtain ⟨v1, n1, y1, e1, t1⟩ := hat i hi 1 _ rfl
        obtain ⟨v2, n2, y2, e2, t2⟩ := hat i hi 2 _ rfl
        obtain ⟨k, rfl⟩ := int_in t0
        obtain ⟨s1, rfl⟩ := str_in t1
        obtain ⟨s2, rfl⟩ := str_in t2
        exact ⟨(k, s1, s2), fun _ => ⟨e0, e1, e2⟩⟩
      · exact ⟨(0, [], []), fun h => absurd h hi⟩
    obtain ⟨f, hf⟩ := Classical.axiomOfChoice key
    have hlen : ((List.range len).map f).length = len := by simp
    refine ⟨(List.range len).map f, some ad, cap, by rw [hlen], by rw [hlen]; exact hl, hm, (fun e => by cases e), ?_⟩
    rw [hlen]
    have hfl := itC_length ((List.range len).map f)
    rw [hlen] at hfl
    refine ⟨hfl, fun h0 => ⟨ad, rfl, ?_, fun j u hj => ?_⟩⟩
    · have := World.block_lt_of_cell? w _ (hf 0 h0).1
      rw [block_of_add] at this
      exact this
    · have hjl := (List.getElem?_eq_some_iff.1 hj).1
      rw [hfl] at hjl
      obtain ⟨q, r, rfl, hr⟩ : ∃ q r, j = q * 3 + r ∧ r < 3 := ⟨j / 3, j % 3, by omega, by omega⟩
      have hk : q < len := by omega
      have hx : ((List.range len).map f)[q]? = some (f q) := by simp [hk]
      obtain ⟨a0, a1, a2⟩ := itC_at _ _ _ hx
      obtain ⟨g0, g1, g2⟩ := hf q hk
      have hr' : r = 0 ∨ r = 1 ∨ r = 2 := by omega
      rcases hr' with rfl | rfl | rfl
      · have hj' : ((List.range len).map f |>.flatMap itC)[q * 3]? = some u := hj
        rw [a0] at hj'
        show w.cell? (ad.add (q * 3)) = some u
        rw [g0, hj']
      · rw [a1] at hj
        rw [g1, hj]
      · rw [a2] at hj
        rw [g2, hj]
end
set_option maxRecDepth 100000 in
theorem obV_of {H : Type} {enc : TypeId × Value → H} {w : World} {base b0 : Nat} {held : Bool} {r : Reach} {v : Value} {d : DataW H} {p : List MemPlace}
    (hv : Value.okWide Try.prog w r b0 32 v) (h : DataW.Trod enc Try.prog w base (fun _ => true) held 32 v d p) : ∃ o, ObV w v o := by
  obtain ⟨cs, rfl, hsz⟩ := okWide_struct Try.underlying32 hv
  obtain ⟨fuel, hf⟩ := h
  have hc8 : Try.prog.cellsOf 32 = 8 := by kernel_rfl
  rw [hc8] at hsz
  have F := fun j f hj => fields_in (fs := _) Try.underlying32 (by kernel_rfl) (by kernel_rfl) hf j f hj
  obtain ⟨v0, n0, y0, e0, t0⟩ := F 0 _ rfl
  obtain ⟨v1, n1, y1, e1, t1⟩ := F 1 _ rfl
  obtain ⟨v2, n2, y2, e2, t2⟩ := F 2 _ rfl
  obtain ⟨v3, n3, y3, e3, t3⟩ := F 3 _ rfl
  obtain ⟨v4, n4, y4, e4, t4⟩ := F 4 _ rfl
  obtain ⟨v5, n5, y5, e5, t5⟩ := F 5 _ rfl
  obtain ⟨v6, n6, y6, e6, t6⟩ := F 6 _ rfl
  obtain ⟨v7, n7, y7, e7, t7⟩ := F 7 _ rfl
  obtain ⟨k, rfl⟩ := int_in t0
  obtain ⟨D, hD⟩ := bytes_in t1
  obtain ⟨I, hI⟩ := items_in t2
  obtain ⟨T, rfl⟩ := str_in t3
  obtain ⟨P, hP⟩ := texts_in t4
  obtain ⟨st, rfl⟩ := int_in t5
  obtain ⟨au, rfl⟩ := int_in t6
  obtain ⟨ms, rfl⟩ := str_in t7
  refine ⟨⟨k, D, I, T, P, st, au, ms⟩, v1, v2, v4, ?_, hD, hI, hP⟩
  obtain ⟨l⟩ := cs
  match l, hsz with
  | [c0, c1, c2, c3, c4, c5, c6, c7], _ =>
    simp [Value.cells] at e0 e1 e2 e3 e4 e5 e6 e7
    subst e0 e1 e2 e3 e4 e5 e6 e7
    rfl
end Go.Proofs.Ytcmlofgkcalhnaa.Ob
