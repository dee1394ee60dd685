/- A Hasher's block: its 140 cells, told by what they stand for. -/
import Derived.Test.YtcbiajajoojgmaaShM0
import Derived.Test.YtcbiajajoojgmaaShW2
namespace Go.Proofs.Ytcbiajajoojgmaa.Sh
open Go.RowKit

/-- The cells: state (8), rest (64), size, done, the lock's two, added (64). -/
def hcl (s : St) (rest : List UInt8) (n : Nat) (d m : Int) (ad : List Value) : List Value :=
  (stc s).toList ++ (rest.map bv ++ ([.int .i64 n, .int .u32 d, .int .i32 m, .int .u32 0] ++ ad))
/-- Block b is a Hasher. -/
def HB (w : World) (b : Nat) (s : St) (rest : List UInt8) (n : Nat) (d m : Int) (ad : List Value) : Prop :=
  Blk w b 110 (hcl s rest n d m ad).toArray ∧ rest.length = 64 ∧ ad.length = 64
def kv : List Value := kList.map wv

section
variable {w w' : World} {b : Nat} {s : St} {rest : List UInt8} {n : Nat} {d m : Int} {ad : List Value}
theorem stc_length (s : St) : (stc s).toList.length = 8 := rfl
theorem hcl_at (hr : rest.length = 64) (i : Nat) : (hcl s rest n d m ad)[i]? =
    if i < 8 then (stc s).toList[i]? else if i < 72 then (rest.map bv)[i - 8]? else if i < 76 then ([.int .i64 n, .int .u32 d, .int .i32 m, .int .u32 0] : List Value)[i - 72]? else ad[i - 76]? := by
  unfold hcl
  by_cases h1 : i < 8
  · rw [if_pos h1, List.getElem?_append_left (by rw [stc_length]; omega)]
  rw [if_neg h1, List.getElem?_append_right (by rw [stc_length]; omega), stc_length]
  by_cases h2 : i < 72
  · rw [if_pos h2, List.getElem?_append_left (by simp [hr]; omega)]
  rw [if_neg h2, List.getElem?_append_right (by simp [hr]; omega)]
  simp only [List.length_map, hr]
  by_cases h3 : i < 76
  · rw [if_pos h3, List.getElem?_append_left (by simp; omega), show i - 8 - 64 = i - 72 from by omega]
  rw [if_neg h3, List.getElem?_append_right (by simp; omega)]
  simp only [List.length_cons, List.length_nil]
  rw [show i - 8 - 64 - (0 + 1 + 1 + 1 + 1) = i - 76 from by omega]
theorem HB.cell_ (h : HB w b s rest n d m ad) (i : Nat) : w.cell? ⟨b, i, none⟩ =
    if i < 8 then (stc s).toList[i]? else if i < 72 then (rest.map bv)[i - 8]? else if i < 76 then ([.int .i64 n, .int .u32 d, .int .i32 m, .int .u32 0] : List Value)[i - 72]? else ad[i - 76]? := by
  rw [h.1.cell i, List.getElem?_toArray, hcl_at h.2.1]
theorem HB.lt (h : HB w b s rest n d m ad) : b < w.heap.size := h.1.lt
theorem HB.size_ (h : HB w b s rest n d m ad) : w.cell? ⟨b, 72, none⟩ = some (.int .i64 n) := by rw [h.cell_]; rfl
theorem HB.done_ (h : HB w b s rest n d m ad) : w.cell? ⟨b, 73, none⟩ = some (.int .u32 d) := by rw [h.cell_]; rfl
theorem HB.lock_ (h : HB w b s rest n d m ad) : w.cell? ⟨b, 74, none⟩ = some (.int .i32 m) := by rw [h.cell_]; rfl
theorem HB.rest_ (h : HB w b s rest n d m ad) (i : Nat) (hi : i < 64) : w.cell? ⟨b, 8 + i, none⟩ = some (bv (rest.getD i 0)) := by
  rw [h.cell_, if_neg (by omega), if_pos (by omega), show 8 + i - 8 = i from by omega, List.getElem?_map, List.getD_eq_getElem?_getD, List.getElem?_eq_getElem (by rw [h.2.1]; exact hi)]
  rfl
theorem HB.added_ (h : HB w b s rest n d m kv) (i : Nat) (hi : i < 64) : w.cell? ⟨b, 76 + i, none⟩ = some (.int .u32 (wi (kList.getD i 0))) := by
  rw [h.cell_, if_neg (by omega), if_neg (by omega), if_neg (by omega), show 76 + i - 76 = i from by omega]
  unfold kv
  rw [List.getElem?_map, List.getD_eq_getElem?_getD, List.getElem?_eq_getElem (by rw [kList_length]; exact hi)]
  rfl
theorem HB.frozen_ (h : HB w b s rest n d m ad) (i : Nat) : w.frozen? ⟨b, i, none⟩ = false := h.1.frozen i
theorem HB.drew (h : HB w b s rest n d m ad) : HB w.drew b s rest n d m ad := h
theorem HB.drewN (h : HB w b s rest n d m ad) (k : Nat) : HB (w.drewN k) b s rest n d m ad := h
theorem HB.alloc (h : HB w b s rest n d m ad) (o : Obj) : HB (w.alloc o) b s rest n d m ad := ⟨h.1.alloc o, h.2⟩
theorem HB.far (h : HB w b s rest n d m ad) {p : Addr} (hp : b ≠ p.block) (u : Value) : HB (w.setCell p u) b s rest n d m ad := ⟨h.1.far hp u, h.2⟩
theorem HB.below {B : Nat} (h : HB w b s rest n d m ad) (hb : Below B w w') (hg : b < B) : HB w' b s rest n d m ad := ⟨h.1.below hb hg, h.2⟩
theorem HB.grown {row : Option Nat} (h : HB w b s rest n d m ad) (hb : w.grownBy w' row) (hg : some b ≠ row) : HB w' b s rest n d m ad := ⟨h.1.grown hb hg, h.2⟩
theorem hcl_set (i : Nat) (v : Value) (s' : St) (n' : Nat) (d' m' : Int)
    (he : ∀ j, (hcl s' rest n' d' m' ad)[j]? = if i = j then some v else (hcl s rest n d m ad)[j]?) (hi : i < (hcl s rest n d m ad).length) :
    (hcl s rest n d m ad).toArray.setIfInBounds i v = (hcl s' rest n' d' m' ad).toArray := by
  apply Array.ext'
  rw [Array.toList_setIfInBounds]
  apply List.ext_getElem?
  intro j
  rw [he j, List.getElem?_set]
  by_cases e : i = j
  · subst e
    rw [if_pos rfl, if_pos rfl, if_pos hi]
  · rw [if_neg e, if_neg e]
theorem hcl_length (hr : rest.length = 64) (ha : ad.length = 64) : (hcl s rest n d m ad).length = 140 := by
  unfold hcl
  rw [List.length_append, stc_length]
  simp [hr, ha]
theorem HB.setDone (h : HB w b s rest n d m ad) (d' : Int) : HB (w.setCell ⟨b, 73, none⟩ (.int .u32 d')) b s rest n d' m ad := by
  refine ⟨?_, h.2⟩
  have := h.1.set_ 73 (.int .u32 d')
  rw [hcl_set 73 _ s n d' m (fun j => ?_) (by rw [hcl_length h.2.1 h.2.2]; omega)] at this
  · exact this
  · rw [hcl_at h.2.1, hcl_at h.2.1]
    by_cases e : 73 = j
    · subst e; rfl
    · rw [if_neg e]
      by_cases h1 : j < 8
      · rw [if_pos h1, if_pos h1]
      by_cases h2 : j < 72
      · rw [if_neg h1, if_neg h1, if_pos h2, if_pos h2]
      by_cases h3 : j < 76
      · rw [if_neg h1, if_neg h1, if_neg h2, if_neg h2, if_pos h3, if_pos h3]
        obtain rfl | rfl | rfl : j = 72 ∨ j = 74 ∨ j = 75 := by omega
        all_goals rfl
      · rw [if_neg h1, if_neg h1, if_neg h2, if_neg h2, if_neg h3, if_neg h3]
theorem HB.setLock (h : HB w b s rest n d m ad) (m' : Int) : HB (w.setCell ⟨b, 74, none⟩ (.int .i32 m')) b s rest n d m' ad := by
  refine ⟨?_, h.2⟩
  have := h.1.set_ 74 (.int .i32 m')
  rw [hcl_set 74 _ s n d m' (fun j => ?_) (by rw [hcl_length h.2.1 h.2.2]; omega)] at this
  · exact this
  · rw [hcl_at h.2.1, hcl_at h.2.1]
    by_cases e : 74 = j
    · subst e; rfl
    · rw [if_neg e]
      by_cases h1 : j < 8
      · rw [if_pos h1, if_pos h1]
      by_cases h2 : j < 72
      · rw [if_neg h1, if_neg h1, if_pos h2, if_pos h2]
      by_cases h3 : j < 76
      · rw [if_neg h1, if_neg h1, if_neg h2, if_neg h2, if_pos h3, if_pos h3]
        obtain rfl | rfl | rfl : j = 72 ∨ j = 73 ∨ j = 75 := by omega
        all_goals rfl
      · rw [if_neg h1, if_neg h1, if_neg h2, if_neg h2, if_neg h3, if_neg h3]
theorem HB.setSize (h : HB w b s rest n d m ad) (n' : Nat) : HB (w.setCell ⟨b, 72, none⟩ (.int .i64 n')) b s rest n' d m ad := by
  refine ⟨?_, h.2⟩
  have := h.1.set_ 72 (.int .i64 n')
  rw [hcl_set 72 _ s n' d m (fun j => ?_) (by rw [hcl_length h.2.1 h.2.2]; omega)] at this
  · exact this
  · rw [hcl_at h.2.1, hcl_at h.2.1]
    by_cases e : 72 = j
    · subst e; rfl
    · rw [if_neg e]
      by_cases h1 : j < 8
      · rw [if_pos h1, if_pos h1]
      by_cases h2 : j < 72
      · rw [if_neg h1, if_neg h1, if_pos h2, if_pos h2]
      by_cases h3 : j < 76
      · rw [if_neg h1, if_neg h1, if_neg h2, if_neg h2, if_pos h3, if_pos h3]
        obtain rfl | rfl | rfl : j = 73 ∨ j = 74 ∨ j = 75 := by omega
        all_goals rfl
      · rw [if_neg h1, if_neg h1, if_neg h2, if_neg h2, if_neg h3, if_neg h3]
end
/-- The step constants, laid. -/
theorem HB.setAdded {w : World} {b : Nat} {s : St} {rest : List UInt8} {n : Nat} {d m : Int} {ad : List Value} (h : HB w b s rest n d m ad) (vs : List Value) (hv : vs.length = 64) :
    HB (w.setCells b 76 vs) b s rest n d m vs := by
  refine ⟨?_, h.2.1, hv⟩
  have h1 := blk_setCells vs 76 w _ h.1 (by simp [hcl_length h.2.1 h.2.2, hv])
  have e : (hcl s rest n d m ad).toArray.toList.take 76 ++ vs ++ (hcl s rest n d m ad).toArray.toList.drop (76 + vs.length) = hcl s rest n d m vs := by
    have hl := hcl_length (s := s) (n := n) (d := d) (m := m) h.2.1 h.2.2
    rw [List.drop_eq_nil_of_le (by simp [hl, hv]), List.append_nil]
    have hA : ∀ a : List Value, hcl s rest n d m a = ((stc s).toList ++ (rest.map bv ++ [.int .i64 n, .int .u32 d, .int .i32 m, .int .u32 0])) ++ a := by
      intro a; unfold hcl; simp
    have hB : ((stc s).toList ++ (rest.map bv ++ [.int .i64 n, .int .u32 d, .int .i32 m, .int .u32 0]) : List Value).length = 76 := by
      rw [List.length_append, stc_length]; simp [h.2.1]
    show (hcl s rest n d m ad).take 76 ++ vs = _
    rw [hA ad, hA vs, List.take_append_of_le_length (by omega), List.take_of_length_le (by omega)]
  rw [e] at h1
  exact h1
/-- A new state, laid. -/
theorem HB.setState {w : World} {b : Nat} {s : St} {rest : List UInt8} {n : Nat} {d m : Int} {ad : List Value} (h : HB w b s rest n d m ad) (s' : St) :
    HB (w.setCells b 0 (stc s').toList) b s' rest n d m ad := by
  refine ⟨?_, h.2⟩
  have h1 := blk_setCells (stc s').toList 0 w _ h.1 (by simp [hcl_length h.2.1 h.2.2, stc])
  have e : (hcl s rest n d m ad).toArray.toList.take 0 ++ (stc s').toList ++ (hcl s rest n d m ad).toArray.toList.drop (0 + (stc s').toList.length) = hcl s' rest n d m ad := by
    rfl
  rw [e] at h1
  exact h1
end Go.Proofs.Ytcbiajajoojgmaa.Sh
