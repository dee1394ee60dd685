/- Texts put together: UShPC0. -/
import Derived.Test.YtbenkmihkbjgeaaGreatQu23
/- Slices of slices of bytes that came in; all of them, one behind the other. -/
namespace Go.Proofs.YtbenkmihkbjgeaaGreat.Sh
open Go.RowKit
def IsRows (w : World) (a : Option Addr) (len cap : Nat) : Prop :=
 (a = none ∧ len = 0 ∧ cap = 0) ∨ ∃ (x : Addr) (A : Nat → Option Addr) (L C : Nat → Nat) (Z : Nat → List Int), a = some x ∧ len ≤ cap ∧ cap ≤ maxLen ∧
  ∀ r, r < cap → w.cell? (x.add r) = some (.slice (A r) (L r) (C r)) ∧ IsRow .u8 w (A r) (L r) (C r) (Z r)
def rowBytes (zs : List Int) (len : Nat) : List UInt8 := (zs.take len).map (fun n => UInt8.ofNat n.toNat)
def RowsAt (w : World) (a : Option Addr) (A : Nat → Option Addr) (L C : Nat → Nat) (R : Nat → List UInt8) (n : Nat) : Prop :=
 ∀ r, r < n → ∃ x, a = some x ∧ x.block < w.heap.size ∧ w.cell? (x.add r) = some (.slice (A r) (L r) (C r)) ∧ (R r).length = L r ∧ Sl w (.slice (A r) (L r) (C r)) (R r)
def allOf (R : Nat → List UInt8) : Nat → List UInt8
 | 0 => []
 | i + 1 => allOf R i ++ R i
def minOf (L : Nat → Nat) : Nat → Nat
 | 0 => 0
 | i + 1 => minOf L i + min (L i) 6001
end Go.Proofs.YtbenkmihkbjgeaaGreat.Sh
