/-
  No cell of these rows narrows 'for every input' (looked for: loops, veiled, ifaces, maps, wideKeys, modest, calm, conditions, laid).
  DERIVED. THE GIVEN ROWS OF THIS SEAT. 6 by the template 'for every input the law returns true; each argument reads behind the call as it read before'; 0 by the template 'total and deterministic' (their statements: YtchoklhadnoidaaTotals.lean).
  GIVEN WITH THE SEED: the statements are not yours to turn. If you find one false, say at which input.
  Laid BY PROGRAM, IN A SANDBOX (cutbox-rows.mjs): the forced cells as the released guide's own fill.sh prints them over the translation d1cbfd36cf63f8cc… (all of the seat's roots in one cut). By AI agents, Wed Nov 11 2026. No macro, syntax, notation, axiom, sorry.
-/
import Derived.Test.YtchoklhadnoidaaChecked
import GoSem.Claim
import GoSem.ClaimJoined
import GoSem.ClaimMapViews
import Derived.JoinedTies
import Derived.KernelRfl
namespace Go.Proofs.Ytchoklhadnoidaa
/- THE CELL 'sum', in the pinned program and in every row, IS THE sha256 OF THE DUMP (.gsa) THAT YtchoklhadnoidaaProg.lean LOADS. Nothing in Lean hashes anything: it is a label: what it is worth is what the hold of that sum in a sandbox is worth. -/
noncomputable def Try.pinned : Pinned := { name := "ytchoklhadnoidaa", sum := "d1cbfd36cf63f8cc6a2d3c355fa3a5edc21714225d8d743d177ad70bb1ca5686", checked := Try.checked }
namespace Rows
def none {H : Type} : Left H := { results := [], args := [] }

/-- 'marlaw14.LinesTexts': WHATEVER THE INPUT: true; the input reads as it did. -/
def linesTextsSpec : ChangeSpec := { name := "linesTexts", fn := fun _ => fun
  | [d] => { results := [.lit (.bool true)], args := [d] }
  | _ => none }
def linesTextsRow : OpenClaim := { program := "ytchoklhadnoidaa", sum := "d1cbfd36cf63f8cc6a2d3c355fa3a5edc21714225d8d743d177ad70bb1ca5686", func := "marline/marlaw14.LinesTexts", spec := "linesTexts", inPlace := ["internal/bytealg.IndexByte"], apart := false }
def LinesTextsSaid : Prop := linesTextsRow.holds Try.pinned (OpenSpec.ofChange linesTextsSpec)

/-- ITS FALSE NEIGHBOUR: 'it returns false'. Refute it at one input. -/
def linesTextsWrong : ChangeSpec := { name := "linesTexts", fn := fun _ => fun
  | [d] => { results := [.lit (.bool false)], args := [d] }
  | _ => none }
def LinesTextsWrongFalsely : Prop := linesTextsRow.holds Try.pinned (OpenSpec.ofChange linesTextsWrong)

/-- 'marlaw14.LinesMatches': WHATEVER THE INPUT: true; the input reads as it did. -/
def linesMatchesSpec : ChangeSpec := { name := "linesMatches", fn := fun _ => fun
  | [d1, d2] => { results := [.lit (.bool true)], args := [d1, d2] }
  | _ => none }
def linesMatchesRow : OpenClaim := { program := "ytchoklhadnoidaa", sum := "d1cbfd36cf63f8cc6a2d3c355fa3a5edc21714225d8d743d177ad70bb1ca5686", func := "marline/marlaw14.LinesMatches", spec := "linesMatches", apart := false }
def LinesMatchesSaid : Prop := linesMatchesRow.holds Try.pinned (OpenSpec.ofChange linesMatchesSpec)

/-- ITS FALSE NEIGHBOUR: 'it returns false'. Refute it at one input. -/
def linesMatchesWrong : ChangeSpec := { name := "linesMatches", fn := fun _ => fun
  | [d1, d2] => { results := [.lit (.bool false)], args := [d1, d2] }
  | _ => none }
def LinesMatchesWrongFalsely : Prop := linesMatchesRow.holds Try.pinned (OpenSpec.ofChange linesMatchesWrong)

/-- 'marlaw14.LinesPatches': WHATEVER THE INPUT: true; the input reads as it did. -/
def linesPatchesSpec : ChangeSpec := { name := "linesPatches", fn := fun _ => fun
  | [d1, d2] => { results := [.lit (.bool true)], args := [d1, d2] }
  | _ => none }
def linesPatchesRow : OpenClaim := { program := "ytchoklhadnoidaa", sum := "d1cbfd36cf63f8cc6a2d3c355fa3a5edc21714225d8d743d177ad70bb1ca5686", func := "marline/marlaw14.LinesPatches", spec := "linesPatches", apart := false }
def LinesPatchesSaid : Prop := linesPatchesRow.holds Try.pinned (OpenSpec.ofChange linesPatchesSpec)

/-- ITS FALSE NEIGHBOUR: 'it returns false'. Refute it at one input. -/
def linesPatchesWrong : ChangeSpec := { name := "linesPatches", fn := fun _ => fun
  | [d1, d2] => { results := [.lit (.bool false)], args := [d1, d2] }
  | _ => none }
def LinesPatchesWrongFalsely : Prop := linesPatchesRow.holds Try.pinned (OpenSpec.ofChange linesPatchesWrong)

/-- 'marlaw14.LinesBack': WHATEVER THE INPUT: true; the input reads as it did. -/
def linesBackSpec : ChangeSpec := { name := "linesBack", fn := fun _ => fun
  | [d1, d2] => { results := [.lit (.bool true)], args := [d1, d2] }
  | _ => none }
def linesBackRow : OpenClaim := { program := "ytchoklhadnoidaa", sum := "d1cbfd36cf63f8cc6a2d3c355fa3a5edc21714225d8d743d177ad70bb1ca5686", func := "marline/marlaw14.LinesBack", spec := "linesBack", inPlace := ["internal/bytealg.IndexByte"], apart := false }
def LinesBackSaid : Prop := linesBackRow.holds Try.pinned (OpenSpec.ofChange linesBackSpec)

/-- ITS FALSE NEIGHBOUR: 'it returns false'. Refute it at one input. -/
def linesBackWrong : ChangeSpec := { name := "linesBack", fn := fun _ => fun
  | [d1, d2] => { results := [.lit (.bool false)], args := [d1, d2] }
  | _ => none }
def LinesBackWrongFalsely : Prop := linesBackRow.holds Try.pinned (OpenSpec.ofChange linesBackWrong)

/-- 'marlaw14.LinesLongest': WHATEVER THE INPUT: true; the input reads as it did. -/
def linesLongestSpec : ChangeSpec := { name := "linesLongest", fn := fun _ => fun
  | [d1, d2, d3] => { results := [.lit (.bool true)], args := [d1, d2, d3] }
  | _ => none }
def linesLongestRow : OpenClaim := { program := "ytchoklhadnoidaa", sum := "d1cbfd36cf63f8cc6a2d3c355fa3a5edc21714225d8d743d177ad70bb1ca5686", func := "marline/marlaw14.LinesLongest", spec := "linesLongest", apart := false }
def LinesLongestSaid : Prop := linesLongestRow.holds Try.pinned (OpenSpec.ofChange linesLongestSpec)

/-- ITS FALSE NEIGHBOUR: 'it returns false'. Refute it at one input. -/
def linesLongestWrong : ChangeSpec := { name := "linesLongest", fn := fun _ => fun
  | [d1, d2, d3] => { results := [.lit (.bool false)], args := [d1, d2, d3] }
  | _ => none }
def LinesLongestWrongFalsely : Prop := linesLongestRow.holds Try.pinned (OpenSpec.ofChange linesLongestWrong)

/-- 'marlaw14.LinesOne': WHATEVER THE INPUT: true; the input reads as it did. -/
def linesOneSpec : ChangeSpec := { name := "linesOne", fn := fun _ => fun
  | [d1, d2, d3] => { results := [.lit (.bool true)], args := [d1, d2, d3] }
  | _ => none }
def linesOneRow : OpenClaim := { program := "ytchoklhadnoidaa", sum := "d1cbfd36cf63f8cc6a2d3c355fa3a5edc21714225d8d743d177ad70bb1ca5686", func := "marline/marlaw14.LinesOne", spec := "linesOne", apart := false }
def LinesOneSaid : Prop := linesOneRow.holds Try.pinned (OpenSpec.ofChange linesOneSpec)

/-- ITS FALSE NEIGHBOUR: 'it returns false'. Refute it at one input. -/
def linesOneWrong : ChangeSpec := { name := "linesOne", fn := fun _ => fun
  | [d1, d2, d3] => { results := [.lit (.bool false)], args := [d1, d2, d3] }
  | _ => none }
def LinesOneWrongFalsely : Prop := linesOneRow.holds Try.pinned (OpenSpec.ofChange linesOneWrong)

/- THE SECOND FORM. 'bulk': how many values and letters a reading holds, each counted each time it is reached (what is shared counts as often as it is met; a slice's spare places count too). A statement '..UptoSaid' is the law's where the arguments, and the package variables that the reading takes, are together of bulk at most 1048576: NARROWER than '..Said'. Prove '..Said' where nothing that the law and all that it calls make is longer than what came in: it says more and counts as full. Else prove '..UptoSaid'. A law counts once. -/
mutual
def uptoBulk {H : Type} : DataW H → Nat
  | .lit (.string bytes) => bytes.length + 1
  | .lit _ => 1
  | .nil => 1
  | .ptr d => uptoBulk d + 1
  | .slice elems spare => uptoBulkAll elems + uptoBulkAll spare + 1
  | .agg parts => uptoBulkAll parts + 1
  | .iface _ d => uptoBulk d + 1
  | .map entries => uptoBulkEntries entries + 1
  | .held _ => 1
def uptoBulkAll {H : Type} : List (DataW H) → Nat
  | [] => 0
  | d :: r => uptoBulk d + uptoBulkAll r
def uptoBulkEntries {H : Type} : List (Lit × DataW H) → Nat
  | [] => 0
  | x :: r => uptoBulkEntry x + uptoBulkEntries r
def uptoBulkEntry {H : Type} : Lit × DataW H → Nat
  | (.string bytes, d) => bytes.length + uptoBulk d + 1
  | (_, d) => uptoBulk d + 1
 end
def uptoSmall : (H : Type) → List (DataW H) → Bool := fun _ ds => decide (uptoBulkAll ds ≤ 1048576)
def OpenSpec.upto (s : _root_.Go.ChangeSpec) : _root_.Go.OpenSpec := { _root_.Go.OpenSpec.ofChange s with cond := some uptoSmall }

/-- 'marlaw14.LinesTexts', WHERE WHAT IT READS IS OF BULK AT MOST 1048576: true; the input reads as it did. -/
def linesTextsUptoRow : OpenClaim := { program := "ytchoklhadnoidaa", sum := "d1cbfd36cf63f8cc6a2d3c355fa3a5edc21714225d8d743d177ad70bb1ca5686", func := "marline/marlaw14.LinesTexts", spec := "linesTexts", inPlace := ["internal/bytealg.IndexByte"], apart := false, narrowed := true }
def LinesTextsUptoSaid : Prop := linesTextsUptoRow.holds Try.pinned (OpenSpec.upto linesTextsSpec)

/-- 'marlaw14.LinesMatches', WHERE WHAT IT READS IS OF BULK AT MOST 1048576: true; the input reads as it did. -/
def linesMatchesUptoRow : OpenClaim := { program := "ytchoklhadnoidaa", sum := "d1cbfd36cf63f8cc6a2d3c355fa3a5edc21714225d8d743d177ad70bb1ca5686", func := "marline/marlaw14.LinesMatches", spec := "linesMatches", apart := false, narrowed := true }
def LinesMatchesUptoSaid : Prop := linesMatchesUptoRow.holds Try.pinned (OpenSpec.upto linesMatchesSpec)

/-- 'marlaw14.LinesPatches', WHERE WHAT IT READS IS OF BULK AT MOST 1048576: true; the input reads as it did. -/
def linesPatchesUptoRow : OpenClaim := { program := "ytchoklhadnoidaa", sum := "d1cbfd36cf63f8cc6a2d3c355fa3a5edc21714225d8d743d177ad70bb1ca5686", func := "marline/marlaw14.LinesPatches", spec := "linesPatches", apart := false, narrowed := true }
def LinesPatchesUptoSaid : Prop := linesPatchesUptoRow.holds Try.pinned (OpenSpec.upto linesPatchesSpec)

/-- 'marlaw14.LinesBack', WHERE WHAT IT READS IS OF BULK AT MOST 1048576: true; the input reads as it did. -/
def linesBackUptoRow : OpenClaim := { program := "ytchoklhadnoidaa", sum := "d1cbfd36cf63f8cc6a2d3c355fa3a5edc21714225d8d743d177ad70bb1ca5686", func := "marline/marlaw14.LinesBack", spec := "linesBack", inPlace := ["internal/bytealg.IndexByte"], apart := false, narrowed := true }
def LinesBackUptoSaid : Prop := linesBackUptoRow.holds Try.pinned (OpenSpec.upto linesBackSpec)

/-- 'marlaw14.LinesLongest', WHERE WHAT IT READS IS OF BULK AT MOST 1048576: true; the input reads as it did. -/
def linesLongestUptoRow : OpenClaim := { program := "ytchoklhadnoidaa", sum := "d1cbfd36cf63f8cc6a2d3c355fa3a5edc21714225d8d743d177ad70bb1ca5686", func := "marline/marlaw14.LinesLongest", spec := "linesLongest", apart := false, narrowed := true }
def LinesLongestUptoSaid : Prop := linesLongestUptoRow.holds Try.pinned (OpenSpec.upto linesLongestSpec)

/-- 'marlaw14.LinesOne', WHERE WHAT IT READS IS OF BULK AT MOST 1048576: true; the input reads as it did. -/
def linesOneUptoRow : OpenClaim := { program := "ytchoklhadnoidaa", sum := "d1cbfd36cf63f8cc6a2d3c355fa3a5edc21714225d8d743d177ad70bb1ca5686", func := "marline/marlaw14.LinesOne", spec := "linesOne", apart := false, narrowed := true }
def LinesOneUptoSaid : Prop := linesOneUptoRow.holds Try.pinned (OpenSpec.upto linesOneSpec)

end Rows
end Go.Proofs.Ytchoklhadnoidaa
