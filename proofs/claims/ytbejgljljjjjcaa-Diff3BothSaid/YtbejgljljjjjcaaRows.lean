/-
  No cell of these rows narrows 'for every input' (looked for: loops, veiled, ifaces, maps, wideKeys, modest, calm, conditions, laid).
  DERIVED. THE GIVEN ROWS OF THIS SEAT. 6 by the template 'for every input the law returns true; each argument reads behind the call as it read before'; 0 by the template 'total and deterministic' (their statements: YtbejgljljjjjcaaTotals.lean).
  GIVEN WITH THE SEED: the statements are not yours to turn. If you find one false, say at which input.
  Laid BY PROGRAM, IN A SANDBOX (cutbox-rows.mjs): the forced cells as the released guide's own fill.sh prints them over the translation 69f27b1ebbf7387e… (all of the seat's roots in one cut). By AI agents, Wed Nov 11 2026. No macro, syntax, notation, axiom, sorry.
-/
import Derived.Test.YtbejgljljjjjcaaChecked
import GoSem.Claim
import GoSem.ClaimJoined
import GoSem.ClaimMapViews
import Derived.JoinedTies
import Derived.KernelRfl
namespace Go.Proofs.Ytbejgljljjjjcaa
/- THE CELL 'sum', in the pinned program and in every row, IS THE sha256 OF THE DUMP (.gsa) THAT YtbejgljljjjjcaaProg.lean LOADS. Nothing in Lean hashes anything: it is a label: what it is worth is what the hold of that sum in a sandbox is worth. -/
noncomputable def Try.pinned : Pinned := { name := "ytbejgljljjjjcaa", sum := "69f27b1ebbf7387ea45a3bd530c44a6982eeab09dbfaa187f04fbf12b77397f1", checked := Try.checked }
namespace Rows
def none {H : Type} : Left H := { results := [], args := [] }

/-- 'marlaw15.Diff3Chunks': WHATEVER THE INPUT: true; the input reads as it did. -/
def diff3ChunksSpec : ChangeSpec := { name := "diff3Chunks", fn := fun _ => fun
  | [d1, d2, d3] => { results := [.lit (.bool true)], args := [d1, d2, d3] }
  | _ => none }
def diff3ChunksRow : OpenClaim := { program := "ytbejgljljjjjcaa", sum := "69f27b1ebbf7387ea45a3bd530c44a6982eeab09dbfaa187f04fbf12b77397f1", func := "marline/marlaw15.Diff3Chunks", spec := "diff3Chunks", inPlace := ["internal/bytealg.IndexByte"], apart := false }
def Diff3ChunksSaid : Prop := diff3ChunksRow.holds Try.pinned (OpenSpec.ofChange diff3ChunksSpec)

/-- ITS FALSE NEIGHBOUR: 'it returns false'. Refute it at one input. -/
def diff3ChunksWrong : ChangeSpec := { name := "diff3Chunks", fn := fun _ => fun
  | [d1, d2, d3] => { results := [.lit (.bool false)], args := [d1, d2, d3] }
  | _ => none }
def Diff3ChunksWrongFalsely : Prop := diff3ChunksRow.holds Try.pinned (OpenSpec.ofChange diff3ChunksWrong)

/-- 'marlaw15.Diff3Merges': WHATEVER THE INPUT: true; the input reads as it did. -/
def diff3MergesSpec : ChangeSpec := { name := "diff3Merges", fn := fun _ => fun
  | [d1, d2, d3] => { results := [.lit (.bool true)], args := [d1, d2, d3] }
  | _ => none }
def diff3MergesRow : OpenClaim := { program := "ytbejgljljjjjcaa", sum := "69f27b1ebbf7387ea45a3bd530c44a6982eeab09dbfaa187f04fbf12b77397f1", func := "marline/marlaw15.Diff3Merges", spec := "diff3Merges", inPlace := ["internal/bytealg.IndexByte"], apart := false }
def Diff3MergesSaid : Prop := diff3MergesRow.holds Try.pinned (OpenSpec.ofChange diff3MergesSpec)

/-- ITS FALSE NEIGHBOUR: 'it returns false'. Refute it at one input. -/
def diff3MergesWrong : ChangeSpec := { name := "diff3Merges", fn := fun _ => fun
  | [d1, d2, d3] => { results := [.lit (.bool false)], args := [d1, d2, d3] }
  | _ => none }
def Diff3MergesWrongFalsely : Prop := diff3MergesRow.holds Try.pinned (OpenSpec.ofChange diff3MergesWrong)

/-- 'marlaw15.Diff3Whole': WHATEVER THE INPUT: true; the input reads as it did. -/
def diff3WholeSpec : ChangeSpec := { name := "diff3Whole", fn := fun _ => fun
  | [d1, d2, d3] => { results := [.lit (.bool true)], args := [d1, d2, d3] }
  | _ => none }
def diff3WholeRow : OpenClaim := { program := "ytbejgljljjjjcaa", sum := "69f27b1ebbf7387ea45a3bd530c44a6982eeab09dbfaa187f04fbf12b77397f1", func := "marline/marlaw15.Diff3Whole", spec := "diff3Whole", inPlace := ["internal/bytealg.IndexByte"], apart := false }
def Diff3WholeSaid : Prop := diff3WholeRow.holds Try.pinned (OpenSpec.ofChange diff3WholeSpec)

/-- ITS FALSE NEIGHBOUR: 'it returns false'. Refute it at one input. -/
def diff3WholeWrong : ChangeSpec := { name := "diff3Whole", fn := fun _ => fun
  | [d1, d2, d3] => { results := [.lit (.bool false)], args := [d1, d2, d3] }
  | _ => none }
def Diff3WholeWrongFalsely : Prop := diff3WholeRow.holds Try.pinned (OpenSpec.ofChange diff3WholeWrong)

/-- 'marlaw15.Diff3Turns': WHATEVER THE INPUT: true; the input reads as it did. -/
def diff3TurnsSpec : ChangeSpec := { name := "diff3Turns", fn := fun _ => fun
  | [d1, d2, d3] => { results := [.lit (.bool true)], args := [d1, d2, d3] }
  | _ => none }
def diff3TurnsRow : OpenClaim := { program := "ytbejgljljjjjcaa", sum := "69f27b1ebbf7387ea45a3bd530c44a6982eeab09dbfaa187f04fbf12b77397f1", func := "marline/marlaw15.Diff3Turns", spec := "diff3Turns", inPlace := ["internal/bytealg.IndexByte"], apart := false }
def Diff3TurnsSaid : Prop := diff3TurnsRow.holds Try.pinned (OpenSpec.ofChange diff3TurnsSpec)

/-- ITS FALSE NEIGHBOUR: 'it returns false'. Refute it at one input. -/
def diff3TurnsWrong : ChangeSpec := { name := "diff3Turns", fn := fun _ => fun
  | [d1, d2, d3] => { results := [.lit (.bool false)], args := [d1, d2, d3] }
  | _ => none }
def Diff3TurnsWrongFalsely : Prop := diff3TurnsRow.holds Try.pinned (OpenSpec.ofChange diff3TurnsWrong)

/-- 'marlaw15.Diff3Apart': WHATEVER THE INPUT: true; the input reads as it did. -/
def diff3ApartSpec : ChangeSpec := { name := "diff3Apart", fn := fun _ => fun
  | [d1, d2, d3, d4] => { results := [.lit (.bool true)], args := [d1, d2, d3, d4] }
  | _ => none }
def diff3ApartRow : OpenClaim := { program := "ytbejgljljjjjcaa", sum := "69f27b1ebbf7387ea45a3bd530c44a6982eeab09dbfaa187f04fbf12b77397f1", func := "marline/marlaw15.Diff3Apart", spec := "diff3Apart", inPlace := ["internal/bytealg.IndexByte"], apart := false }
def Diff3ApartSaid : Prop := diff3ApartRow.holds Try.pinned (OpenSpec.ofChange diff3ApartSpec)

/-- ITS FALSE NEIGHBOUR: 'it returns false'. Refute it at one input. -/
def diff3ApartWrong : ChangeSpec := { name := "diff3Apart", fn := fun _ => fun
  | [d1, d2, d3, d4] => { results := [.lit (.bool false)], args := [d1, d2, d3, d4] }
  | _ => none }
def Diff3ApartWrongFalsely : Prop := diff3ApartRow.holds Try.pinned (OpenSpec.ofChange diff3ApartWrong)

/-- 'marlaw15.Diff3Both': WHATEVER THE INPUT: true; the input reads as it did. -/
def diff3BothSpec : ChangeSpec := { name := "diff3Both", fn := fun _ => fun
  | [d1, d2, d3, d4] => { results := [.lit (.bool true)], args := [d1, d2, d3, d4] }
  | _ => none }
def diff3BothRow : OpenClaim := { program := "ytbejgljljjjjcaa", sum := "69f27b1ebbf7387ea45a3bd530c44a6982eeab09dbfaa187f04fbf12b77397f1", func := "marline/marlaw15.Diff3Both", spec := "diff3Both", inPlace := ["internal/bytealg.IndexByte"], apart := false }
def Diff3BothSaid : Prop := diff3BothRow.holds Try.pinned (OpenSpec.ofChange diff3BothSpec)

/-- ITS FALSE NEIGHBOUR: 'it returns false'. Refute it at one input. -/
def diff3BothWrong : ChangeSpec := { name := "diff3Both", fn := fun _ => fun
  | [d1, d2, d3, d4] => { results := [.lit (.bool false)], args := [d1, d2, d3, d4] }
  | _ => none }
def Diff3BothWrongFalsely : Prop := diff3BothRow.holds Try.pinned (OpenSpec.ofChange diff3BothWrong)

/- THE SECOND FORM. 'bulk': how many values and letters a reading holds, each counted each time it is reached (what is shared counts as often as it is met; a slice's spare places count too). A statement '..UptoSaid' is the law's where the arguments, and the package variables that the reading takes, are together of bulk at most 1048576: NARROWER than '..Said'. Prove '..Said' where nothing that the law and all that it calls make is longer than what came in: it says more and counts as full. Else prove '..UptoSaid'. A law counts once. -/
mutual
def uptoBulk {H : Type} : DataW H → Nat
  | .lit (.string bytes) => bytes.length + 1
  | .lit _ => 1
  | .nil => 1
  | .ptr d => uptoBulk d + 1
  | .slice elems spare => uptoBulkAll elems + uptoBulkAll spare + 1
  | .agg parts => uptoBulkAll parts + 1
  | .iface _ d => uptoBulk d + 1
  | .map entries => uptoBulkEntries entries + 1
  | .held _ => 1
def uptoBulkAll {H : Type} : List (DataW H) → Nat
  | [] => 0
  | d :: r => uptoBulk d + uptoBulkAll r
def uptoBulkEntries {H : Type} : List (Lit × DataW H) → Nat
  | [] => 0
  | x :: r => uptoBulkEntry x + uptoBulkEntries r
def uptoBulkEntry {H : Type} : Lit × DataW H → Nat
  | (.string bytes, d) => bytes.length + uptoBulk d + 1
  | (_, d) => uptoBulk d + 1
 end
def uptoSmall : (H : Type) → List (DataW H) → Bool := fun _ ds => decide (uptoBulkAll ds ≤ 1048576)
def OpenSpec.upto (s : _root_.Go.ChangeSpec) : _root_.Go.OpenSpec := { _root_.Go.OpenSpec.ofChange s with cond := some uptoSmall }

/-- 'marlaw15.Diff3Chunks', WHERE WHAT IT READS IS OF BULK AT MOST 1048576: true; the input reads as it did. -/
def diff3ChunksUptoRow : OpenClaim := { program := "ytbejgljljjjjcaa", sum := "69f27b1ebbf7387ea45a3bd530c44a6982eeab09dbfaa187f04fbf12b77397f1", func := "marline/marlaw15.Diff3Chunks", spec := "diff3Chunks", inPlace := ["internal/bytealg.IndexByte"], apart := false, narrowed := true }
def Diff3ChunksUptoSaid : Prop := diff3ChunksUptoRow.holds Try.pinned (OpenSpec.upto diff3ChunksSpec)

/-- 'marlaw15.Diff3Merges', WHERE WHAT IT READS IS OF BULK AT MOST 1048576: true; the input reads as it did. -/
def diff3MergesUptoRow : OpenClaim := { program := "ytbejgljljjjjcaa", sum := "69f27b1ebbf7387ea45a3bd530c44a6982eeab09dbfaa187f04fbf12b77397f1", func := "marline/marlaw15.Diff3Merges", spec := "diff3Merges", inPlace := ["internal/bytealg.IndexByte"], apart := false, narrowed := true }
def Diff3MergesUptoSaid : Prop := diff3MergesUptoRow.holds Try.pinned (OpenSpec.upto diff3MergesSpec)

/-- 'marlaw15.Diff3Whole', WHERE WHAT IT READS IS OF BULK AT MOST 1048576: true; the input reads as it did. -/
def diff3WholeUptoRow : OpenClaim := { program := "ytbejgljljjjjcaa", sum := "69f27b1ebbf7387ea45a3bd530c44a6982eeab09dbfaa187f04fbf12b77397f1", func := "marline/marlaw15.Diff3Whole", spec := "diff3Whole", inPlace := ["internal/bytealg.IndexByte"], apart := false, narrowed := true }
def Diff3WholeUptoSaid : Prop := diff3WholeUptoRow.holds Try.pinned (OpenSpec.upto diff3WholeSpec)

/-- 'marlaw15.Diff3Turns', WHERE WHAT IT READS IS OF BULK AT MOST 1048576: true; the input reads as it did. -/
def diff3TurnsUptoRow : OpenClaim := { program := "ytbejgljljjjjcaa", sum := "69f27b1ebbf7387ea45a3bd530c44a6982eeab09dbfaa187f04fbf12b77397f1", func := "marline/marlaw15.Diff3Turns", spec := "diff3Turns", inPlace := ["internal/bytealg.IndexByte"], apart := false, narrowed := true }
def Diff3TurnsUptoSaid : Prop := diff3TurnsUptoRow.holds Try.pinned (OpenSpec.upto diff3TurnsSpec)

/-- 'marlaw15.Diff3Apart', WHERE WHAT IT READS IS OF BULK AT MOST 1048576: true; the input reads as it did. -/
def diff3ApartUptoRow : OpenClaim := { program := "ytbejgljljjjjcaa", sum := "69f27b1ebbf7387ea45a3bd530c44a6982eeab09dbfaa187f04fbf12b77397f1", func := "marline/marlaw15.Diff3Apart", spec := "diff3Apart", inPlace := ["internal/bytealg.IndexByte"], apart := false, narrowed := true }
def Diff3ApartUptoSaid : Prop := diff3ApartUptoRow.holds Try.pinned (OpenSpec.upto diff3ApartSpec)

/-- 'marlaw15.Diff3Both', WHERE WHAT IT READS IS OF BULK AT MOST 1048576: true; the input reads as it did. -/
def diff3BothUptoRow : OpenClaim := { program := "ytbejgljljjjjcaa", sum := "69f27b1ebbf7387ea45a3bd530c44a6982eeab09dbfaa187f04fbf12b77397f1", func := "marline/marlaw15.Diff3Both", spec := "diff3Both", inPlace := ["internal/bytealg.IndexByte"], apart := false, narrowed := true }
def Diff3BothUptoSaid : Prop := diff3BothUptoRow.holds Try.pinned (OpenSpec.upto diff3BothSpec)

end Rows
end Go.Proofs.Ytbejgljljjjjcaa
