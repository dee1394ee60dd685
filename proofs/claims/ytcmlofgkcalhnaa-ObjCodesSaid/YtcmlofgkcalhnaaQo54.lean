/- Texts put together: Sw0, Ro14. -/
import Derived.Test.YtcmlofgkcalhnaaQo01
import Derived.Deep.Slices
import Derived.Deep.Fields
import Derived.ChangeSame
import Derived.SizedLaws
import Derived.Test.YtcmlofgkcalhnaaQo53
/- Slices of structs, and structs, that came in: what their cells hold, and how great it is. -/
namespace Go.Proofs.Ytcmlofgkcalhnaa.Sh
open Go.ChangeShapes Go.WideShapes Go.Deep

theorem weights_all_mem {H : Type} {P : Program} {e : TypeId} : ∀ {l : List (DataW H)} {d : DataW H} {n : Nat}, d ∈ l → n ∈ d.weights P e → n ∈ DataW.weightsAll P e l
  | x :: l, d, n, hd, hn => by
    rw [DataW.weightsAll, List.mem_append]
    rcases List.mem_cons.1 hd with rfl | h
    · exact .inl hn
    · exact .inr (weights_all_mem h hn)
/-- Each field of a struct: its cell, that this reads as the field's type, and that it is no greater than the struct. -/
theorem fields_w {H : Type} {enc : TypeId × Value → H} {P : Program} {w : World} {base : Nat} {spare : Nat → Bool} {held : Bool} {t : TypeId} {fs : Array Field} {fuel : Nat} {cs : List Value} {x : DataW H × List MemPlace}
    (he : P.underlying t = some (.struct fs)) (hone : oneCellFields P fs = true) (hC : P.cellsOf t = fs.size) (h : DataW.trod enc P w base spare held fuel t cs = some x) :
    cs.length = fs.size ∧ ∀ (j : Nat) (f : Field), fs[j]? = some f → ∃ (v : Value) (n : Nat) (y : DataW H × List MemPlace), cs[j]? = some v ∧ DataW.trod enc P w base spare held n f.type [v] = some y ∧ ∀ m ∈ y.1.weights P f.type, m ∈ x.1.weights P t := by
  obtain ⟨ys, n, _, hx, hcl, hyl, hf⟩ := DataW.trod_struct he h
  refine ⟨by omega, fun j f hj => ?_⟩
  obtain ⟨ho, hk⟩ := hone_of hone j f hj
  have hjl : j < fs.size := (Array.getElem?_eq_some_iff.1 hj).1
  have hjc : j < cs.length := by omega
  have hjy : j < ys.length := by omega
  have hg := hf j f hj
  rw [ho, hk, List.drop_eq_getElem_cons hjc, List.getElem?_eq_getElem hjy] at hg
  refine ⟨_, n, _, List.getElem?_eq_getElem hjc, hg, fun m hm => ?_⟩
  rw [hx]
  have h1 : (fs.toList.map (·.type))[j]? = some f.type := by rw [List.getElem?_map, Array.getElem?_toList, hj]; rfl
  have h2 : (ys.map (·.1))[j]? = some ys[j].1 := by rw [List.getElem?_map, List.getElem?_eq_getElem hjy]; rfl
  have h3 := DataW.weights_mem_each (P := P) h1 h2 m hm
  simp only [DataW.weights, he]
  exact h3
/-- Each field of each struct of a slice. -/
theorem structs_w {H : Type} {enc : TypeId × Value → H} {P : Program} {w : World} {base : Nat} {spare : Nat → Bool} {held : Bool} {t e : TypeId} {fs : Array Field} {fuel : Nat} {a : Option Addr} {len cap : Nat} {x : DataW H × List MemPlace}
    (ht : P.underlying t = some (.slice e)) (he : P.underlying e = some (.struct fs)) (hone : oneCellFields P fs = true) (hC : P.cellsOf e = fs.size) (h : DataW.trod enc P w base spare held fuel t [.slice a len cap] = some x) :
    (a = none ∧ len = 0 ∧ cap = 0) ∨ ∃ ad, a = some ad ∧ len ≤ cap ∧ cap ≤ maxLen ∧ ∀ i, i < len → ∀ (j : Nat) (f : Field), fs[j]? = some f →
      ∃ (v : Value) (n : Nat) (y : DataW H × List MemPlace), w.cell? (ad.add (i * fs.size + j)) = some v ∧ DataW.trod enc P w base spare held n f.type [v] = some y ∧ ∀ m ∈ y.1.weights P f.type, m ∈ x.1.weights P t := by
  rcases open_slice ht h with ⟨h0, _⟩ | ⟨ad, l, c, m, k, D, Pl, h0, _, hl, hm, hmm, hx, hi⟩
  · left
    simp at h0
    exact h0
  · right
    simp at h0
    obtain ⟨rfl, rfl, rfl⟩ := h0
    refine ⟨ad, rfl, hl, hm, fun i hil j f hj => ?_⟩
    obtain ⟨cs, hc, ht'⟩ := hi i (by rw [hmm]; split <;> omega)
    obtain ⟨_, hcl, hat⟩ := World.cells?_some hc
    obtain ⟨hlen, hfl⟩ := fields_w he hone hC ht'
    obtain ⟨v, n, y, hv, hy, hw⟩ := hfl j f hj
    have hjc := (List.getElem?_eq_some_iff.1 hv).1
    have hcell := hat j (by omega)
    rw [hC, Go.Deep.add_add, hv] at hcell
    refine ⟨v, n, y, hcell, hy, fun m' hm' => ?_⟩
    rw [hx]
    simp only [DataW.weights, ht]
    refine List.mem_cons_of_mem _ (List.mem_append.2 (.inl ?_))
    exact weights_all_mem (List.mem_map.2 ⟨i, List.mem_range.2 hil, rfl⟩) (hw m' hm')
end Go.Proofs.Ytcmlofgkcalhnaa.Sh
/- An object that came in, with how great its texts may be; ObjCodes as the shell asks it. -/
namespace Go.Proofs.Ytcmlofgkcalhnaa.Ob
open Go.ChangeShapes Go.WideShapes Go.RowKit Go.Deep Go.Proofs.Ytcmlofgkcalhnaa.Sh
open Go.Proofs.Ytcmlofgkcalhnaa.Tx (OwnV SlV sv bl nameB reads_at texts_at toList_ne')

section
variable {H : Type} {enc : TypeId × Value → H} {w : World} {base n : Nat} {held : Bool} {v : Value} {y : DataW H × List MemPlace}
theorem str_long (h : DataW.trod enc Try.prog w base (fun _ => true) held n 9 [v] = some y) : ∃ s, v = .string (str s) ∧ s.length ∈ y.1.weights Try.prog 9 := by
  obtain ⟨s, hv, hy, _⟩ := DataW.trod_string Try.underlying9 h
  simp at hv
  refine ⟨s.data.toList, by rw [str_of, hv], ?_⟩
  rw [hy]
  simp [DataW.weights]
set_option maxRecDepth 100000 in
theorem texts_long (h : DataW.trod enc Try.prog w base (fun _ => true) held n 23 [v] = some y) (hw : ∀ m ∈ y.1.weights Try.prog 23, m ≤ 140737488351232) : ∃ ts : List (List UInt8), SlV w v ((ts.map str).map sv) ∧ ∀ x ∈ ts, x.length ≤ 140737488351232 := by
  have key : ∃ ts : List ByteArray, SlV w v (ts.map sv) ∧ ∀ s ∈ ts, s.data.toList.length ≤ 140737488351232 := by
    rcases open_strings Try.underlying23 Try.underlying9 (by kernel_rfl) h with ⟨hcs, _⟩ | ⟨x, l, c, zs, hcs, _, hl, hm, hz, hy, hcell, hwz⟩
    · simp at hcs
      subst hcs
      exact ⟨[], SlV.nil_ w, fun s hs => by cases hs⟩
    · simp at hcs
      subst hcs
      simp only [if_true] at hz
      refine ⟨zs.take l, ⟨some x, c, by simp; omega, by simp; omega, hm, ⟨by simp, fun h0 => ⟨x, rfl, ?_, fun j u hu => ?_⟩⟩, fun h => by cases h⟩, fun s hs => ?_⟩
      · have h1 : 0 < zs.length := by simp at h0; omega
        have := World.block_lt_of_cell? w _ (hcell 0 h1)
        rw [block_of_add] at this
        exact this
      · rw [List.getElem?_map, List.getElem?_take] at hu
        by_cases hj : j < l
        · rw [if_pos hj, List.getElem?_eq_getElem (by omega)] at hu
          rw [hcell j (by omega), List.getD_eq_getElem?_getD, List.getElem?_eq_getElem (by omega)]
          exact hu
        · rw [if_neg hj] at hu
          cases hu
      · refine hw _ ?_
        rw [hy]
        simp only [DataW.weights, Try.underlying23]
        exact List.mem_cons_of_mem _ (List.mem_append.2 (.inl (weights_all_mem (List.mem_map.2 ⟨s, hs, rfl⟩) (by simp [DataW.weights]))))
  obtain ⟨ts, hs, hb⟩ := key
  refine ⟨ts.map (fun s => s.data.toList), ?_, fun x hx => ?_⟩
  · have e0 : (str ∘ fun s : ByteArray => s.data.toList) = id := funext str_of
    have e : (ts.map (fun s => s.data.toList)).map str = ts := by rw [List.map_map, e0, List.map_id]
    rw [e]
    exact hs
  · obtain ⟨s, hs9, rfl⟩ := List.mem_map.1 hx
    exact hb s hs9
set_option maxRecDepth 100000 in
theorem items_long (h : DataW.trod enc Try.prog w base (fun _ => true) held n 30 [v] = some y) (hw : ∀ m ∈ y.1.weights Try.prog 30, m ≤ 140737488351232) : ∃ l, SlI w v l ∧ ∀ x ∈ l, x.2.2.length ≤ 140737488351232 := by
  have hsl : ∃ a len cap, v = .slice a len cap := by
    rcases DataW.trod_slice Try.underlying30 h with ⟨hcs, _⟩ | ⟨a, len, cap, _, _, _, _, hcs, _⟩
    · simp at hcs; exact ⟨_, _, _, hcs⟩
    · simp at hcs; exact ⟨_, _, _, hcs⟩
  obtain ⟨a, len, cap, rfl⟩ := hsl
  rcases structs_w Try.underlying30 Try.underlying55 (by kernel_rfl) (by kernel_rfl) h with ⟨rfl, rfl, rfl⟩ | ⟨ad, rfl, hl, hm, hat⟩
  · exact ⟨[], SlI.nil_ w, fun x hx => by cases hx⟩
  · have key : ∀ i : Nat, ∃ x : ItM, x.2.2.length ≤ 140737488351232 ∧ (i < len → w.cell? (ad.add (i * 3)) = some (.int .i64 x.1) ∧ w.cell? (ad.add (i * 3 + 1)) = some (.string (str x.2.1)) ∧ w.cell? (ad.add (i * 3 + 2)) = some (.string (str x.2.2))) := by
      intro i
      by_cases hi : i < len
      · obtain ⟨v0, n0, y0, e0, t0, _⟩ := hat i hi 0 _ rfl
        obtain ⟨v1, n1, y1, e1, t1, _⟩ := hat i hi 1 _ rfl
        obtain ⟨v2, n2, y2, e2, t2, m2⟩ := hat i hi 2 _ rfl
        obtain ⟨k, rfl⟩ := int_in t0
        obtain ⟨s1, rfl⟩ := str_in t1
        obtain ⟨s2, rfl, hs2⟩ := str_long t2
        exact ⟨(k, s1, s2), hw _ (m2 _ hs2), fun _ => ⟨e0, e1, e2⟩⟩
      · exact ⟨(0, [], []), by simp, fun h => absurd h hi⟩
    obtain ⟨f, hff⟩ := Classical.axiomOfChoice key
    have hf := fun i => (hff i).2
    have hlen : ((List.range len).map f).length = len := by simp
    refine ⟨(List.range len).map f, ⟨some ad, cap, by rw [hlen], by rw [hlen]; exact hl, hm, (fun e => by cases e), ?_⟩, fun x hx => ?_⟩
    rotate_left
    · obtain ⟨i, _, rfl⟩ := List.mem_map.1 hx
      exact (hff i).1
    rw [hlen]
    have hfl := itC_length ((List.range len).map f)
    rw [hlen] at hfl
    refine ⟨hfl, fun h0 => ⟨ad, rfl, ?_, fun j u hj => ?_⟩⟩
    · have := World.block_lt_of_cell? w _ (hf 0 h0).1
      rw [block_of_add] at this
      exact this
    · have hjl := (List.getElem?_eq_some_iff.1 hj).1
      rw [hfl] at hjl
      obtain ⟨q, r, rfl, hr⟩ : ∃ q r, j = q * 3 + r ∧ r < 3 := ⟨j / 3, j % 3, by omega, by omega⟩
      have hk : q < len := by omega
      have hx : ((List.range len).map f)[q]? = some (f q) := by simp [hk]
      obtain ⟨a0, a1, a2⟩ := itC_at _ _ _ hx
      obtain ⟨g0, g1, g2⟩ := hf q hk
      have hr' : r = 0 ∨ r = 1 ∨ r = 2 := by omega
      rcases hr' with rfl | rfl | rfl
      · have hj' : ((List.range len).map f |>.flatMap itC)[q * 3]? = some u := hj
        rw [a0] at hj'
        show w.cell? (ad.add (q * 3)) = some u
        rw [g0, hj']
      · rw [a1] at hj
        rw [g1, hj]
      · rw [a2] at hj
        rw [g2, hj]
end
set_option maxRecDepth 100000 in
theorem obV_long {H : Type} {enc : TypeId × Value → H} {w : World} {base b0 : Nat} {held : Bool} {r : Reach} {v : Value} {d : DataW H} {p : List MemPlace}
    (hv : Value.okWide Try.prog w r b0 32 v) (h : DataW.Trod enc Try.prog w base (fun _ => true) held 32 v d p) (hw : ∀ m ∈ d.weights Try.prog 32, m ≤ 140737488351232) : ∃ o, ObV w v o ∧ Long o := by
  obtain ⟨cs, rfl, hsz⟩ := okWide_struct Try.underlying32 hv
  obtain ⟨fuel, hf⟩ := h
  have hc8 : Try.prog.cellsOf 32 = 8 := by kernel_rfl
  rw [hc8] at hsz
  have F := fun j f hj => (fields_w (fs := _) Try.underlying32 (by kernel_rfl) (by kernel_rfl) hf).2 j f hj
  obtain ⟨v0, n0, y0, e0, t0, _⟩ := F 0 _ rfl
  obtain ⟨v1, n1, y1, e1, t1, _⟩ := F 1 _ rfl
  obtain ⟨v2, n2, y2, e2, t2, m2⟩ := F 2 _ rfl
  obtain ⟨v3, n3, y3, e3, t3, _⟩ := F 3 _ rfl
  obtain ⟨v4, n4, y4, e4, t4, m4⟩ := F 4 _ rfl
  obtain ⟨v5, n5, y5, e5, t5, _⟩ := F 5 _ rfl
  obtain ⟨v6, n6, y6, e6, t6, _⟩ := F 6 _ rfl
  obtain ⟨v7, n7, y7, e7, t7, _⟩ := F 7 _ rfl
  obtain ⟨k, rfl⟩ := int_in t0
  obtain ⟨D, hD⟩ := bytes_in t1
  obtain ⟨I, hI, bI⟩ := items_long t2 (fun m hm => hw m (m2 m hm))
  obtain ⟨T, rfl⟩ := str_in t3
  obtain ⟨P, hP, bP⟩ := texts_long t4 (fun m hm => hw m (m4 m hm))
  obtain ⟨st, rfl⟩ := int_in t5
  obtain ⟨au, rfl⟩ := int_in t6
  obtain ⟨ms, rfl⟩ := str_in t7
  refine ⟨⟨k, D, I, T, P, st, au, ms⟩, ⟨v1, v2, v4, ?_, hD, hI, hP⟩, ⟨bP, bI⟩⟩
  obtain ⟨l⟩ := cs
  match l, hsz with
  | [c0, c1, c2, c3, c4, c5, c6, c7], _ =>
    simp [Value.cells] at e0 e1 e2 e3 e4 e5 e6 e7
    subst e0 e1 e2 e3 e4 e5 e6 e7
    rfl
theorem objCodes_walk (v0 : Value) (o0 : ObM) (v1 : Value) (o1 : ObM) (a2 : Option Addr) (len2 cap2 : Nat) (z2 : List Int) (w : World) (w0 : ObV w v0 o0) (w1 : ObV w v1 o1) (w2 : IsRow .u8 w a2 len2 cap2 z2) (b0 : Long o0) : Calls Try.prog 4 #[v0, v1, .slice a2 len2 cap2] w (Yes w) := by
  obtain ⟨bs, _, hs⟩ := IsRow.sl w2
  exact objCodes_w v0 v1 _ o0 o1 bs w w0 w1 hs b0
end Go.Proofs.Ytcmlofgkcalhnaa.Ob
