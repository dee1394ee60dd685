/- What the laws' walks share. -/
import Derived.Test.YtcbiajajoojgmaaShW14
import Derived.ShutString
import Derived.ChangeOld
namespace Go.Proofs.Ytcbiajajoojgmaa.Sh
open Go.RowKit

/-- A slice of integers that came in, as the walk is told of it. -/
def IsRow (k : IntKind) (w : World) (a : Option Addr) (len cap : Nat) (zs : List Int) : Prop :=
  (a = none ∧ len = 0 ∧ cap = 0 ∧ zs = []) ∨
  ∃ x, a = some x ∧ len ≤ cap ∧ cap ≤ maxLen ∧ zs.length = cap ∧ (∀ i, i < zs.length → w.cell? (x.add i) = some (.int k (zs.getD i 0))) ∧ ∀ n ∈ zs, (Lit.int k n).wf = true
theorem bi_of {n : Int} (h : (Lit.int .u8 n).wf = true) : bi (UInt8.ofNat n.toNat) = n := by
  have hx : 0 ≤ n ∧ n ≤ 255 := by simpa [Lit.wf, IntKind.min, IntKind.max, IntKind.signed, IntKind.bits] using h
  unfold bi
  rw [UInt8.toNat_ofNat']
  omega
theorem IsRow.sl {w : World} {a : Option Addr} {len cap : Nat} {zs : List Int} (h : IsRow .u8 w a len cap zs) : ∃ bs : List UInt8, bs.length = len ∧ Sl w (.slice a len cap) bs := by
  rcases h with ⟨rfl, rfl, rfl, rfl⟩ | ⟨x, rfl, hl, hm, hz, hc, hw⟩
  · exact ⟨[], rfl, none, 0, rfl, by simp, by unfold maxLen; omega, In.nil w none, fun _ => rfl⟩
  · refine ⟨(zs.take len).map (fun n => UInt8.ofNat n.toNat), by simp; omega, some x, cap, ?_, by simp; omega, hm, ?_, fun h => by cases h⟩
    · congr 1
      simp
      omega
    · intro h0
      have hl0 : 0 < len := by
        simp at h0
        omega
      refine ⟨x, rfl, ?_, fun j hj => ?_⟩
      · have := World.block_lt_of_cell? w _ (hc 0 (by omega))
        rw [block_of_add] at this
        exact this
      · have hj' : j < len := by
          simp at hj
          omega
        rw [hc j (by omega)]
        have hjz : j < zs.length := by omega
        rw [List.getD_eq_getElem?_getD, List.getElem?_eq_getElem hjz, List.getD_eq_getElem?_getD, List.getElem?_map, List.getElem?_take, if_pos hj', List.getElem?_eq_getElem hjz]
        show some (Value.int .u8 zs[j]) = some (Value.int .u8 (bi (UInt8.ofNat zs[j].toNat)))
        rw [bi_of (hw _ (List.getElem_mem hjz))]

/-- Block g begins with m bytes that may be written. -/
def Wr (w : World) (g m : Nat) : Prop := ∃ cur, Blk w g 5 cur ∧ ∀ j, j < m → ∃ u, cur[j]? = some (.int .u8 u)
theorem Wr.cell {w : World} {g m : Nat} (h : Wr w g m) (j : Nat) (hj : j < m) : ∃ u, w.cell? ⟨g, j, none⟩ = some (.int .u8 u) ∧ w.frozen? ⟨g, j, none⟩ = false := by
  obtain ⟨cur, hb, hc⟩ := h
  obtain ⟨u, hu⟩ := hc j hj
  exact ⟨u, (hb.cell j).trans hu, hb.frozen j⟩
theorem Wr.set {w : World} {g m : Nat} (h : Wr w g m) (k : Nat) (u : Int) : Wr (w.setCell ⟨g, k, none⟩ (.int .u8 u)) g m := by
  obtain ⟨cur, hb, hc⟩ := h
  refine ⟨_, hb.set_ k _, fun j hj => ?_⟩
  obtain ⟨v, hv⟩ := hc j hj
  rw [Array.getElem?_setIfInBounds]
  by_cases e : k = j
  · subst e
    have : k < cur.size := (Array.getElem?_eq_some_iff.1 hv).1
    rw [if_pos rfl, if_pos this]
    exact ⟨_, rfl⟩
  · rw [if_neg e]
    exact ⟨v, hv⟩
theorem Wr.far {w : World} {g m : Nat} (h : Wr w g m) {p : Addr} (hp : g ≠ p.block) (u : Value) : Wr (w.setCell p u) g m := by
  obtain ⟨cur, hb, hc⟩ := h
  exact ⟨cur, hb.far hp u, hc⟩
theorem Wr.below {w w' : World} {g m B : Nat} (h : Wr w g m) (hb : Below B w w') (hg : g < B) : Wr w' g m := by
  obtain ⟨cur, hbk, hc⟩ := h
  exact ⟨cur, hbk.below hb hg, hc⟩
theorem Own.wr {w : World} {B : Nat} {v : Value} {bs : List UInt8} (h : Own w B v bs) (h0 : 0 < bs.length) : ∃ g c, v = .slice (some ⟨g, 0, none⟩) bs.length c ∧ bs.length ≤ c ∧ c ≤ maxLen ∧ B ≤ g ∧ g < w.heap.size ∧ Wr w g bs.length := by
  rcases h.2 with ⟨rfl, h1⟩ | ⟨g, cap, cur, rfl, hb, hg, hc, hm, hcs, htk⟩
  · omega
  · refine ⟨g, cap, rfl, hc, hm, hb, (Array.getElem?_eq_some_iff.1 hg).1, cur, hg, fun j hj => ?_⟩
    have : (cur.toList.take (bs.length * 1))[j]? = (bs.map bv)[j]? := by rw [htk]
    rw [List.getElem?_take, if_pos (by omega), List.getElem?_map, List.getElem?_eq_getElem hj] at this
    exact ⟨_, by simpa [bv] using this⟩
theorem HH.far {w : World} {b : Nat} {all : List UInt8} (h : HH w b all) {p : Addr} (hp : b ≠ p.block) (u : Value) : HH (w.setCell p u) b all := by
  obtain ⟨s, rest, d, ad, hB, hm, hst, hta⟩ := h
  exact ⟨s, rest, d, ad, hB.far hp u, hm, hst, hta⟩
theorem HH.below {w w' : World} {b B : Nat} {all : List UInt8} (h : HH w b all) (hb : Below B w w') (hg : b < B) : HH w' b all := by
  obtain ⟨s, rest, d, ad, hB, hm, hst, hta⟩ := h
  exact ⟨s, rest, d, ad, hB.below hb hg, hm, hst, hta⟩
theorem HH.lt {w : World} {b : Nat} {all : List UInt8} (h : HH w b all) : b < w.heap.size := by
  obtain ⟨s, rest, d, ad, hB, _⟩ := h
  exact hB.lt
theorem Own.farSet {w : World} {B : Nat} {v : Value} {bs : List UInt8} (h : Own w B v bs) {a : Addr} (ha : a.block < B) (u : Value) : Own (w.setCell a u) B v bs := ownsRow_setCell_below h ha u
theorem Own.only {w w' : World} {B g : Nat} {v : Value} {bs : List UInt8} (h : Own w B v bs) (hg : w.grownBy w' (some g)) (hgB : g < B) : Own w' B v bs :=
  World.ownsRow.kept h hg (by
    cases hv : v.ownBlock with
    | none => exact .inl rfl
    | some k =>
      refine .inr fun e => ?_
      have := (World.ownsRow.lt h k hv).1
      injection e with e
      omega)
theorem Sl.only {w w' : World} {v : Value} {bs : List UInt8} {b B : Nat} (h : Sl w v bs) (hB : w.heap.size = B) (hb : B ≤ b) {w2 : World} (h1 : Below B w w2) (h2 : w2.grownBy w' (some b)) : Sl w' v bs := by
  subst hB
  exact h.below (h1.trans (below_of_only h2 hb h1.size))
theorem Own.below {w w' : World} {B : Nat} {v : Value} {bs : List UInt8} (h : Own w B v bs) (hb : Below w.heap.size w w') : Own w' B v bs :=
  World.ownsRow.kept h (only_of_below hb none) (by cases hv : v.ownBlock <;> simp)
end Go.Proofs.Ytcbiajajoojgmaa.Sh
