/- Texts put together: ShH1, ShW9, ShW10, ShW11. -/
import Derived.Test.YtcmlofgkcalhnaaQo04
import Derived.Laws.CopyOwn
/- What a Hasher stands for; the bytes that are written to it. -/
namespace Go.Proofs.Ytcmlofgkcalhnaa.Sh
open Go.RowKit

/-! Plain lists -/
theorem blocks_append (s : St) (x y : List UInt8) (k : Nat) (h : 64 * k ≤ x.length) : blocks s (x ++ y) k = blocks s x k := by
  induction k with
  | zero => rw [blocks_zero, blocks_zero]
  | succ k ih =>
    rw [blocks_next, blocks_next, ih (by omega)]
    congr 1
    rw [List.drop_append_of_le_length (by omega), List.take_append_of_le_length (by rw [List.length_drop]; omega)]
theorem full_short (x y : List UInt8) (h : (x ++ y).length / 64 = x.length / 64) : full (x ++ y) = full x := by
  rw [full_eq, full_eq, h, blocks_append _ _ _ _ (by omega)]
theorem tail64_length (x : List UInt8) : (tail64 x).length = x.length % 64 := by
  unfold tail64
  rw [List.length_drop]
  omega
theorem tail64_short (x y : List UInt8) (h : (x ++ y).length / 64 = x.length / 64) : tail64 (x ++ y) = tail64 x ++ y := by
  unfold tail64
  rw [h, List.drop_append_of_le_length (by omega)]
theorem full_block (x y : List UInt8) (h : (tail64 x).length + y.length = 64) : full (x ++ y) = press (full x) (tail64 x ++ y) := by
  have hl := tail64_length x
  have e : (x ++ y).length / 64 = x.length / 64 + 1 := by rw [List.length_append]; omega
  rw [full_eq, e, blocks_next, blocks_append _ _ _ _ (by omega), ← full_eq]
  congr 1
  rw [List.drop_append_of_le_length (by omega)]
  show (tail64 x ++ y).take 64 = _
  rw [List.take_of_length_le (by rw [List.length_append]; omega)]
theorem tail64_none (x : List UInt8) (h : x.length % 64 = 0) : tail64 x = [] := by
  apply List.eq_nil_of_length_eq_zero
  rw [tail64_length, h]

/-! The block -/
section
variable {w w' : World} {b : Nat} {s : St} {rest : List UInt8} {n : Nat} {d m : Int} {ad : List Value}
theorem hcl_rest (hr : rest.length = 64) (off : Nat) (cs : List UInt8) (hf : off + cs.length ≤ 64) :
    (hcl s rest n d m ad).take (8 + off) ++ (cs.map bv ++ (hcl s rest n d m ad).drop (8 + off + (cs.map bv).length)) = hcl s (splice rest off cs) n d m ad := by
  unfold hcl splice
  have h8 := stc_length s
  rw [List.take_append, List.take_of_length_le (by omega), h8, show 8 + off - 8 = off from by omega, List.take_append_of_le_length (by simp [hr]; omega)]
  rw [List.drop_append, List.drop_eq_nil_of_le (by omega), h8, List.nil_append, List.length_map, show 8 + off + cs.length - 8 = off + cs.length from by omega, List.drop_append_of_le_length (by simp [hr]; omega)]
  simp [List.map_take, List.map_drop]
end
theorem only_setRow {a w : World} {g : Nat} (h : a.grownBy w (some g)) (c : Array Value) : a.grownBy (w.setRow g c) (some g) :=
  ⟨h.os, h.tape, h.output, by simpa using h.size, fun i hi hne => (setRow_other w g i c (by intro e; exact hne (by rw [e]))).trans (h.block i hi hne)⟩

/-- The bytes bs, read by a slice that lies in another block than b. -/
def Src (w : World) (b : Nat) (A : Option Addr) (bs : List UInt8) : Prop :=
  0 < bs.length → ∃ ad, A = some ad ∧ ad.block ≠ b ∧ ad.block < w.heap.size ∧ ∀ j, j < bs.length → w.cell? (ad.add j) = some (.int .u8 (bi (bs.getD j 0)))
theorem Src.only {w w' : World} {b : Nat} {A : Option Addr} {bs : List UInt8} (h : Src w b A bs) (hg : w.grownBy w' (some b)) : Src w' b A bs := by
  intro h0
  obtain ⟨ad, hA, hne, hlt, hc⟩ := h h0
  refine ⟨ad, hA, hne, Nat.lt_of_lt_of_le hlt hg.size, fun j hj => ?_⟩
  rw [only_cell hg (by rw [block_of_add]; exact hlt) (by rw [block_of_add]; exact hne)]
  exact hc j hj
theorem Src.cut {w : World} {b : Nat} {A : Option Addr} {bs : List UInt8} (h : Src w b A bs) (k : Nat) (A' : Option Addr) (hA : k < bs.length → ∀ ad, A = some ad → A' = some (ad.add k)) : Src w b A' (bs.drop k) := by
  intro h0
  rw [List.length_drop] at h0
  obtain ⟨ad, rfl, hne, hlt, hc⟩ := h (by omega)
  refine ⟨ad.add k, hA (by omega) ad rfl, by rw [block_of_add]; exact hne, by rw [block_of_add]; exact hlt, fun j hj => ?_⟩
  rw [List.length_drop] at hj
  rw [add_of_add, hc (k + j) (by omega)]
  simp only [List.getD_eq_getElem?_getD, List.getElem?_drop]

theorem info5s : (Try.prog.info? 5).map (·.size) = some 1 := by kernel_rfl
end Go.Proofs.Ytcmlofgkcalhnaa.Sh
/- Write. -/
namespace Go.Proofs.Ytcmlofgkcalhnaa.Sh
open Go.RowKit

end Go.Proofs.Ytcmlofgkcalhnaa.Sh
/- Write, the rest filled. -/
namespace Go.Proofs.Ytcmlofgkcalhnaa.Sh
open Go.RowKit

end Go.Proofs.Ytcmlofgkcalhnaa.Sh
/- A Hasher, used: Write, Sum; sha.Sum. -/
namespace Go.Proofs.Ytcmlofgkcalhnaa.Sh
open Go.RowKit

/-- The bytes bs, read by a slice. -/
def In (w : World) (A : Option Addr) (bs : List UInt8) : Prop :=
  0 < bs.length → ∃ ad, A = some ad ∧ ad.block < w.heap.size ∧ ∀ j, j < bs.length → w.cell? (ad.add j) = some (.int .u8 (bi (bs.getD j 0)))
theorem In.nil (w : World) (A : Option Addr) : In w A [] := fun h => absurd h (by simp)
theorem In.below {w w' : World} {A : Option Addr} {bs : List UInt8} (h : In w A bs) (hb : Below w.heap.size w w') : In w' A bs := by
  intro h0
  obtain ⟨ad, hA, hlt, hc⟩ := h h0
  exact ⟨ad, hA, Nat.lt_of_lt_of_le hlt hb.size, fun j hj => (hb.cell (p := ad.add j) (by rw [block_of_add]; exact hlt)).trans (hc j hj)⟩
theorem In.src {w w' : World} {A : Option Addr} {bs : List UInt8} (h : In w A bs) (hb : Below w.heap.size w w') {b : Nat} (hbb : w.heap.size ≤ b) : Src w' b A bs := by
  intro h0
  obtain ⟨ad, hA, hlt, hc⟩ := h h0
  exact ⟨ad, hA, by omega, Nat.lt_of_lt_of_le hlt hb.size, fun j hj => (hb.cell (p := ad.add j) (by rw [block_of_add]; exact hlt)).trans (hc j hj)⟩
theorem Own.in_ {w : World} {B : Nat} {v : Value} {bs : List UInt8} (h : Own w B v bs) : ∃ A c, v = .slice A bs.length c ∧ bs.length ≤ c ∧ c ≤ maxLen ∧ In w A bs ∧ (0 < bs.length → ∃ g, A = some ⟨g, 0, none⟩ ∧ B ≤ g ∧ g < w.heap.size) := by
  rcases h.2 with ⟨rfl, h0⟩ | ⟨g, cap, cur, rfl, hb, hg, hc, hm, hcs, htk⟩
  · exact ⟨none, 0, by rw [h0], by omega, by unfold maxLen; omega, fun h1 => by omega, fun h1 => by omega⟩
  · have hlt : g < w.heap.size := (Array.getElem?_eq_some_iff.1 hg).1
    refine ⟨some ⟨g, 0, none⟩, cap, rfl, hc, hm, fun _ => ⟨_, rfl, hlt, fun j hj => ?_⟩, fun _ => ⟨g, rfl, hb, hlt⟩⟩
    rw [Addr.add_mid, cell_of_row _ _ _ _ _ _ hg, Nat.zero_add]
    have : (cur.toList.take (bs.length * 1))[j]? = (bs.map bv)[j]? := by rw [htk]
    rw [List.getElem?_take, if_pos (by omega), List.getElem?_map, List.getElem?_eq_getElem hj] at this
    rw [List.getD_eq_getElem?_getD, List.getElem?_eq_getElem hj]
    simpa [bv] using this

def OwnPost (w : World) (bs : List UInt8) (e : Ending) (w' : World) : Prop := ∃ v, e = .returned v ∧ Own w' w.heap.size v bs ∧ Below w.heap.size w w'

end Go.Proofs.Ytcmlofgkcalhnaa.Sh
