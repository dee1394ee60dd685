/- Texts put together: VShPC0. -/
import Derived.Test.YtpfjlhpahmhkhaaGreatQv11
/- Slices of slices of bytes that came in; all of them, one behind the other. -/
namespace Go.Proofs.YtpfjlhpahmhkhaaGreat.Sh
open Go.RowKit
def IsRows (w : World) (a : Option Addr) (len cap : Nat) : Prop :=
 (a = none ∧ len = 0 ∧ cap = 0) ∨ ∃ (x : Addr) (A : Nat → Option Addr) (L C : Nat → Nat) (Z : Nat → List Int), a = some x ∧ len ≤ cap ∧ cap ≤ maxLen ∧
  ∀ r, r < cap → w.cell? (x.add r) = some (.slice (A r) (L r) (C r)) ∧ IsRow .u8 w (A r) (L r) (C r) (Z r)
def rowBytes (zs : List Int) (len : Nat) : List UInt8 := (zs.take len).map (fun n => UInt8.ofNat n.toNat)
theorem IsRow.sl' {w : World} {a : Option Addr} {len cap : Nat} {zs : List Int} (h : IsRow .u8 w a len cap zs) : (rowBytes zs len).length = len ∧ Sl w (.slice a len cap) (rowBytes zs len) := by
 rcases h with ⟨rfl, rfl, rfl, rfl⟩ | ⟨x, rfl, hl, hm, hz, hc, hw⟩
 ·exact ⟨rfl, none, 0, rfl, by simp [rowBytes], by unfold maxLen; omega, In.nil w none, fun _ => rfl⟩
 ·have hlen : (rowBytes zs len).length = len := by unfold rowBytes; simp; omega
  refine ⟨hlen, some x, cap, by rw [hlen], by omega, hm, ?_, fun h => by cases h⟩
  intro h0
  rw [hlen] at h0
  refine ⟨x, rfl, ?_, fun j hj => ?_⟩
  ·have := World.block_lt_of_cell? w _ (hc 0 (by omega))
   rw [block_of_add] at this
   exact this
  ·have hj' : j < len := by omega
   rw [hc j (by omega)]
   have hjz : j < zs.length := by omega
   unfold rowBytes
   rw [List.getD_eq_getElem?_getD, List.getElem?_eq_getElem hjz, List.getD_eq_getElem?_getD, List.getElem?_map, List.getElem?_take, if_pos hj', List.getElem?_eq_getElem hjz]
   show some (Value.int .u8 zs[j]) = some (Value.int .u8 (bi (UInt8.ofNat zs[j].toNat)))
   rw [bi_of (hw _ (List.getElem_mem hjz))]
def RowsAt (w : World) (a : Option Addr) (A : Nat → Option Addr) (L C : Nat → Nat) (R : Nat → List UInt8) (n : Nat) : Prop :=
 ∀ r, r < n → ∃ x, a = some x ∧ x.block < w.heap.size ∧ w.cell? (x.add r) = some (.slice (A r) (L r) (C r)) ∧ (R r).length = L r ∧ Sl w (.slice (A r) (L r) (C r)) (R r)
theorem IsRows.at_ {w : World} {a : Option Addr} {len cap : Nat} (h : IsRows w a len cap) : ∃ A L C R, RowsAt w a A L C R len ∧ len ≤ maxLen := by
 rcases h with ⟨rfl, rfl, rfl⟩ | ⟨x, A, L, C, Z, rfl, hl, hm, hr⟩
 ·exact ⟨fun _ => none, fun _ => 0, fun _ => 0, fun _ => [], fun r hr => by omega, by unfold maxLen; omega⟩
 ·refine ⟨A, L, C, fun r => rowBytes (Z r) (L r), fun r hr' => ?_, by omega⟩
  obtain ⟨h1, h2⟩ := hr r (by omega)
  obtain ⟨h3, h4⟩ := h2.sl'
  have := World.block_lt_of_cell? w _ h1
  rw [block_of_add] at this
  exact ⟨x, rfl, this, h1, h3, h4⟩
theorem RowsAt.below {w w' : World} {a : Option Addr} {A : Nat → Option Addr} {L C : Nat → Nat} {R : Nat → List UInt8} {n : Nat} (h : RowsAt w a A L C R n) (hb : Below w.heap.size w w') : RowsAt w' a A L C R n := by
 intro r hr
 obtain ⟨x, h1, h2, h3, h4, h5⟩ := h r hr
 exact ⟨x, h1, Nat.lt_of_lt_of_le h2 hb.size, (hb.cell (p := x.add r) (by rw [block_of_add]; exact h2)).trans h3, h4, h5.below hb⟩
def allOf (R : Nat → List UInt8) : Nat → List UInt8
 | 0 => []
 | i + 1 => allOf R i ++ R i
def minOf (L : Nat → Nat) : Nat → Nat
 | 0 => 0
 | i + 1 => minOf L i + min (L i) 6001
end Go.Proofs.YtpfjlhpahmhkhaaGreat.Sh
