/- Texts put together: UGw4, UGw5, UGw6, UGw7, UGw8, UGw9, UGp0. -/
import Derived.Test.YtbenkmihkbjgeaaGreatQu28
import Derived.Test.YtbenkmihkbjgeaaGreatQu06
import Derived.Lib.SlKept
import Derived.Lib.SliceRun
import Derived.Test.YtbenkmihkbjgeaaGreatQu17
import Derived.Test.YtbenkmihkbjgeaaGreatQu24
/- slices.SortStableFunc at structs, over any program that bears its body: the rows are those that were there. -/
set_option linter.unusedVariables false
set_option linter.unusedSimpArgs false
namespace Go.Proofs.YtbenkmihkbjgeaaGreat.Wk
open Go.Shelf Go.RowKit Go.Lib Go.Sort
section
variable {P : Program} {α : Type} [Inhabited α] {k : Nat}
end
end Go.Proofs.YtbenkmihkbjgeaaGreat.Wk
/- Events in a row: one of them is laid anew; what else lies stays. -/
set_option linter.unusedVariables false
set_option linter.unusedSimpArgs false
namespace Go.Proofs.YtbenkmihkbjgeaaGreat.Wk
open Go.Shelf Go.RowKit Go.Lib Go.Sort
structure EvS where
 e : Tx.EvM
 A : Option Addr
 n : Nat
 c : Nat
instance : Inhabited EvS := ⟨⟨⟨0, 0, 0, 0, 0, [], []⟩, none, 0, 0⟩⟩
def EvS.d (x : EvS) : Value := .slice x.A x.n x.c
def encE (x : EvS) : List Value := [.int .i64 x.e.at_, .int .i64 x.e.kind, .int .i64 x.e.mode, .int .i64 x.e.keep, .int .i64 x.e.torn, .string (Tx.str x.e.path), .slice x.A x.n x.c]
section
variable {α : Type} [Inhabited α] {enc : α → List Value} {k : Nat} {w0 W : World} {blk off : Nat} {dk : Array α}
end
end Go.Proofs.YtbenkmihkbjgeaaGreat.Wk
/- fsim.Plan's predicate; slices.IndexFunc and slices.DeleteFunc by it. -/
set_option linter.unusedVariables false
set_option linter.unusedSimpArgs false
namespace Go.Proofs.YtbenkmihkbjgeaaGreat.Wk
open Go.Shelf Go.RowKit Go.Lib Go.Sort
structure Row7 (W : World) (g i : Nat) (x : EvS) : Prop where
 c0 : W.cell? ⟨g, i * 7, none⟩ = some (.int .i64 x.e.at_)
 c1 : W.cell? ⟨g, i * 7 + 1, none⟩ = some (.int .i64 x.e.kind)
 c2 : W.cell? ⟨g, i * 7 + 2, none⟩ = some (.int .i64 x.e.mode)
 c3 : W.cell? ⟨g, i * 7 + 3, none⟩ = some (.int .i64 x.e.keep)
 c4 : W.cell? ⟨g, i * 7 + 4, none⟩ = some (.int .i64 x.e.torn)
 c5 : W.cell? ⟨g, i * 7 + 5, none⟩ = some (.string (Tx.str x.e.path))
 c6 : W.cell? ⟨g, i * 7 + 6, none⟩ = some (.slice x.A x.n x.c)
 f : ∀ j, j < 7 → W.frozen? ⟨g, i * 7 + j, none⟩ = false
def keepE (cl : Int) (x : EvS) : Bool := !decide (x.e.at_ ≤ cl)
def cb1 (q : Nat) : Array Value := #[.pointer (some ⟨q, 0, none⟩)]
end Go.Proofs.YtbenkmihkbjgeaaGreat.Wk
/- slices.DeleteFunc by fsim.Plan's predicate. -/
set_option linter.unusedVariables false
set_option linter.unusedSimpArgs false
namespace Go.Proofs.YtbenkmihkbjgeaaGreat.Wk
open Go.Shelf Go.RowKit Go.Lib Go.Sort
section
variable {P : Program}
end
def DelPost (cl : Int) (g cap : Nat) (d : Array EvS) (w : World) (e : Ending) (w' : World) : Prop := ∃ D : Array EvS, D.toList = d.toList.filter (keepE cl) ∧ e = .returned (.slice (some ⟨g, 0, none⟩) D.size cap) ∧ HoldsK encE 7 w' g 0 D ∧ Tx.Only (fun k => k = g) w w'
end Go.Proofs.YtbenkmihkbjgeaaGreat.Wk
/- Package fsim: events copied with data of any length; slices of no event. -/
set_option linter.unusedVariables false
set_option linter.unusedSimpArgs false
namespace Go.Proofs.YtbenkmihkbjgeaaGreat.Tx
open Go.RowKit Go.Maps Go.Proofs.YtbenkmihkbjgeaaGreat.Sh
end Go.Proofs.YtbenkmihkbjgeaaGreat.Tx
namespace Go.Proofs.YtbenkmihkbjgeaaGreat.Wk
open Go.Shelf Go.RowKit Go.Lib Go.Sort
end Go.Proofs.YtbenkmihkbjgeaaGreat.Wk
/- Package fsim: Plan. -/
set_option linter.unusedVariables false
set_option linter.unusedSimpArgs false
namespace Go.Proofs.YtbenkmihkbjgeaaGreat.Wk
open Go.Shelf Go.RowKit Go.Lib Go.Sort
def toS (e : Tx.EvM) (d : Value) : EvS := match d with
 | .slice A n c => ⟨e, A, n, c⟩
 | _ => ⟨e, none, 0, 0⟩
def rowS (l : List Tx.EvM) (ds : List Value) : Array EvS := (List.zipWith toS l ds).toArray
def EvIn (N : Nat → Prop) (w : World) (x : EvS) : Prop := Tx.By N w x.d x.e.data
end Go.Proofs.YtbenkmihkbjgeaaGreat.Wk
/- Package fsim: Plan. -/
set_option linter.unusedVariables false
set_option linter.unusedSimpArgs false
namespace Go.Proofs.YtbenkmihkbjgeaaGreat.Wk
open Go.Shelf Go.RowKit Go.Lib Go.Sort
def cmpE (x y : EvS) : Int := cmpI x.e.at_ y.e.at_
end Go.Proofs.YtbenkmihkbjgeaaGreat.Wk
namespace Go.Proofs.YtbenkmihkbjgeaaGreat.Tx
open Go.RowKit Go.Maps Go.Proofs.YtbenkmihkbjgeaaGreat.Sh
section
variable {F M : Nat → Prop} {w w3 w5 : World} {b : Nat} {c : CSt} {x : FcV}
end
end Go.Proofs.YtbenkmihkbjgeaaGreat.Tx
