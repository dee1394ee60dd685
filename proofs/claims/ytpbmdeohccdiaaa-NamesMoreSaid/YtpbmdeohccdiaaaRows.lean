/-
  No cell of these rows narrows 'for every input' (looked for: loops, veiled, ifaces, maps, wideKeys, modest, calm, conditions, laid).
  DERIVED. THE GIVEN ROWS OF THIS SEAT. 6 by the template 'for every input the law returns true; each argument reads behind the call as it read before'; 0 by the template 'total and deterministic' (their statements: YtpbmdeohccdiaaaTotals.lean).
  GIVEN WITH THE SEED: the statements are not yours to turn. If you find one false, say at which input.
  Laid BY PROGRAM, IN A SANDBOX (cutbox-rows.mjs): the forced cells as the released guide's own fill.sh prints them over the translation a2dcbdc94177db2f… (all of the seat's roots in one cut). By AI agents, Wed Nov 11 2026. No macro, syntax, notation, axiom, sorry.
-/
import Derived.Test.YtpbmdeohccdiaaaChecked
import GoSem.Claim
import GoSem.ClaimJoined
import GoSem.ClaimMapViews
import Derived.JoinedTies
import Derived.KernelRfl
namespace Go.Proofs.Ytpbmdeohccdiaaa
/- THE CELL 'sum', in the pinned program and in every row, IS THE sha256 OF THE DUMP (.gsa) THAT YtpbmdeohccdiaaaProg.lean LOADS. Nothing in Lean hashes anything: it is a label: what it is worth is what the hold of that sum in a sandbox is worth. -/
noncomputable def Try.pinned : Pinned := { name := "ytpbmdeohccdiaaa", sum := "a2dcbdc94177db2f695db62b8483a900fd8b639e30c473a328c362ceede939e4", checked := Try.checked }
namespace Rows
def none {H : Type} : Left H := { results := [], args := [] }

/-- 'marlaw4.NamesPaths': WHATEVER THE INPUT: true; the input reads as it did. -/
def namesPathsSpec : ChangeSpec := { name := "namesPaths", fn := fun _ => fun
  | [d1, d2] => { results := [.lit (.bool true)], args := [d1, d2] }
  | _ => none }
def namesPathsRow : OpenClaim := { program := "ytpbmdeohccdiaaa", sum := "a2dcbdc94177db2f695db62b8483a900fd8b639e30c473a328c362ceede939e4", func := "marline/marlaw4.NamesPaths", spec := "namesPaths", inPlace := ["internal/abi.NoEscape", "internal/bytealg.MakeNoZero"], apart := false }
def NamesPathsSaid : Prop := namesPathsRow.holds Try.pinned (OpenSpec.ofChange namesPathsSpec)

/-- ITS FALSE NEIGHBOUR: 'it returns false'. Refute it at one input. -/
def namesPathsWrong : ChangeSpec := { name := "namesPaths", fn := fun _ => fun
  | [d1, d2] => { results := [.lit (.bool false)], args := [d1, d2] }
  | _ => none }
def NamesPathsWrongFalsely : Prop := namesPathsRow.holds Try.pinned (OpenSpec.ofChange namesPathsWrong)

/-- 'marlaw4.NamesUnder': WHATEVER THE INPUT: true; the input reads as it did. -/
def namesUnderSpec : ChangeSpec := { name := "namesUnder", fn := fun _ => fun
  | [d1, d2, d3, d4] => { results := [.lit (.bool true)], args := [d1, d2, d3, d4] }
  | _ => none }
def namesUnderRow : OpenClaim := { program := "ytpbmdeohccdiaaa", sum := "a2dcbdc94177db2f695db62b8483a900fd8b639e30c473a328c362ceede939e4", func := "marline/marlaw4.NamesUnder", spec := "namesUnder", inPlace := ["internal/abi.NoEscape", "internal/bytealg.MakeNoZero"], apart := false }
def NamesUnderSaid : Prop := namesUnderRow.holds Try.pinned (OpenSpec.ofChange namesUnderSpec)

/-- ITS FALSE NEIGHBOUR: 'it returns false'. Refute it at one input. -/
def namesUnderWrong : ChangeSpec := { name := "namesUnder", fn := fun _ => fun
  | [d1, d2, d3, d4] => { results := [.lit (.bool false)], args := [d1, d2, d3, d4] }
  | _ => none }
def NamesUnderWrongFalsely : Prop := namesUnderRow.holds Try.pinned (OpenSpec.ofChange namesUnderWrong)

/-- 'marlaw4.NamesIgnored': WHATEVER THE INPUT: true; the input reads as it did. -/
def namesIgnoredSpec : ChangeSpec := { name := "namesIgnored", fn := fun _ => fun
  | [d1, d2, d3] => { results := [.lit (.bool true)], args := [d1, d2, d3] }
  | _ => none }
def namesIgnoredRow : OpenClaim := { program := "ytpbmdeohccdiaaa", sum := "a2dcbdc94177db2f695db62b8483a900fd8b639e30c473a328c362ceede939e4", func := "marline/marlaw4.NamesIgnored", spec := "namesIgnored", inPlace := ["internal/abi.NoEscape", "internal/bytealg.MakeNoZero"], apart := false }
def NamesIgnoredSaid : Prop := namesIgnoredRow.holds Try.pinned (OpenSpec.ofChange namesIgnoredSpec)

/-- ITS FALSE NEIGHBOUR: 'it returns false'. Refute it at one input. -/
def namesIgnoredWrong : ChangeSpec := { name := "namesIgnored", fn := fun _ => fun
  | [d1, d2, d3] => { results := [.lit (.bool false)], args := [d1, d2, d3] }
  | _ => none }
def NamesIgnoredWrongFalsely : Prop := namesIgnoredRow.holds Try.pinned (OpenSpec.ofChange namesIgnoredWrong)

/-- 'marlaw4.NamesBack': WHATEVER THE INPUT: true; the input reads as it did. -/
def namesBackSpec : ChangeSpec := { name := "namesBack", fn := fun _ => fun
  | [d1, d2] => { results := [.lit (.bool true)], args := [d1, d2] }
  | _ => none }
def namesBackRow : OpenClaim := { program := "ytpbmdeohccdiaaa", sum := "a2dcbdc94177db2f695db62b8483a900fd8b639e30c473a328c362ceede939e4", func := "marline/marlaw4.NamesBack", spec := "namesBack", inPlace := ["internal/abi.NoEscape", "internal/bytealg.MakeNoZero"], apart := false }
def NamesBackSaid : Prop := namesBackRow.holds Try.pinned (OpenSpec.ofChange namesBackSpec)

/-- ITS FALSE NEIGHBOUR: 'it returns false'. Refute it at one input. -/
def namesBackWrong : ChangeSpec := { name := "namesBack", fn := fun _ => fun
  | [d1, d2] => { results := [.lit (.bool false)], args := [d1, d2] }
  | _ => none }
def NamesBackWrongFalsely : Prop := namesBackRow.holds Try.pinned (OpenSpec.ofChange namesBackWrong)

/-- 'marlaw4.NamesChain': WHATEVER THE INPUT: true; the input reads as it did. -/
def namesChainSpec : ChangeSpec := { name := "namesChain", fn := fun _ => fun
  | [d1, d2] => { results := [.lit (.bool true)], args := [d1, d2] }
  | _ => none }
def namesChainRow : OpenClaim := { program := "ytpbmdeohccdiaaa", sum := "a2dcbdc94177db2f695db62b8483a900fd8b639e30c473a328c362ceede939e4", func := "marline/marlaw4.NamesChain", spec := "namesChain", inPlace := ["internal/abi.NoEscape", "internal/bytealg.MakeNoZero"], apart := false }
def NamesChainSaid : Prop := namesChainRow.holds Try.pinned (OpenSpec.ofChange namesChainSpec)

/-- ITS FALSE NEIGHBOUR: 'it returns false'. Refute it at one input. -/
def namesChainWrong : ChangeSpec := { name := "namesChain", fn := fun _ => fun
  | [d1, d2] => { results := [.lit (.bool false)], args := [d1, d2] }
  | _ => none }
def NamesChainWrongFalsely : Prop := namesChainRow.holds Try.pinned (OpenSpec.ofChange namesChainWrong)

/-- 'marlaw4.NamesMore': WHATEVER THE INPUT: true; the input reads as it did. -/
def namesMoreSpec : ChangeSpec := { name := "namesMore", fn := fun _ => fun
  | [d1, d2, d3, d4] => { results := [.lit (.bool true)], args := [d1, d2, d3, d4] }
  | _ => none }
def namesMoreRow : OpenClaim := { program := "ytpbmdeohccdiaaa", sum := "a2dcbdc94177db2f695db62b8483a900fd8b639e30c473a328c362ceede939e4", func := "marline/marlaw4.NamesMore", spec := "namesMore", inPlace := ["internal/abi.NoEscape", "internal/bytealg.MakeNoZero"], apart := false }
def NamesMoreSaid : Prop := namesMoreRow.holds Try.pinned (OpenSpec.ofChange namesMoreSpec)

/-- ITS FALSE NEIGHBOUR: 'it returns false'. Refute it at one input. -/
def namesMoreWrong : ChangeSpec := { name := "namesMore", fn := fun _ => fun
  | [d1, d2, d3, d4] => { results := [.lit (.bool false)], args := [d1, d2, d3, d4] }
  | _ => none }
def NamesMoreWrongFalsely : Prop := namesMoreRow.holds Try.pinned (OpenSpec.ofChange namesMoreWrong)

/- THE SECOND FORM. 'bulk': how many values and letters a reading holds, each counted each time it is reached (what is shared counts as often as it is met; a slice's spare places count too). A statement '..UptoSaid' is the law's where the arguments, and the package variables that the reading takes, are together of bulk at most 1048576: NARROWER than '..Said'. Prove '..Said' where nothing that the law and all that it calls make is longer than what came in: it says more and counts as full. Else prove '..UptoSaid'. A law counts once. -/
mutual
def uptoBulk {H : Type} : DataW H → Nat
  | .lit (.string bytes) => bytes.length + 1
  | .lit _ => 1
  | .nil => 1
  | .ptr d => uptoBulk d + 1
  | .slice elems spare => uptoBulkAll elems + uptoBulkAll spare + 1
  | .agg parts => uptoBulkAll parts + 1
  | .iface _ d => uptoBulk d + 1
  | .map entries => uptoBulkEntries entries + 1
  | .held _ => 1
def uptoBulkAll {H : Type} : List (DataW H) → Nat
  | [] => 0
  | d :: r => uptoBulk d + uptoBulkAll r
def uptoBulkEntries {H : Type} : List (Lit × DataW H) → Nat
  | [] => 0
  | x :: r => uptoBulkEntry x + uptoBulkEntries r
def uptoBulkEntry {H : Type} : Lit × DataW H → Nat
  | (.string bytes, d) => bytes.length + uptoBulk d + 1
  | (_, d) => uptoBulk d + 1
 end
def uptoSmall : (H : Type) → List (DataW H) → Bool := fun _ ds => decide (uptoBulkAll ds ≤ 1048576)
def OpenSpec.upto (s : _root_.Go.ChangeSpec) : _root_.Go.OpenSpec := { _root_.Go.OpenSpec.ofChange s with cond := some uptoSmall }

/-- 'marlaw4.NamesPaths', WHERE WHAT IT READS IS OF BULK AT MOST 1048576: true; the input reads as it did. -/
def namesPathsUptoRow : OpenClaim := { program := "ytpbmdeohccdiaaa", sum := "a2dcbdc94177db2f695db62b8483a900fd8b639e30c473a328c362ceede939e4", func := "marline/marlaw4.NamesPaths", spec := "namesPaths", inPlace := ["internal/abi.NoEscape", "internal/bytealg.MakeNoZero"], apart := false, narrowed := true }
def NamesPathsUptoSaid : Prop := namesPathsUptoRow.holds Try.pinned (OpenSpec.upto namesPathsSpec)

/-- 'marlaw4.NamesUnder', WHERE WHAT IT READS IS OF BULK AT MOST 1048576: true; the input reads as it did. -/
def namesUnderUptoRow : OpenClaim := { program := "ytpbmdeohccdiaaa", sum := "a2dcbdc94177db2f695db62b8483a900fd8b639e30c473a328c362ceede939e4", func := "marline/marlaw4.NamesUnder", spec := "namesUnder", inPlace := ["internal/abi.NoEscape", "internal/bytealg.MakeNoZero"], apart := false, narrowed := true }
def NamesUnderUptoSaid : Prop := namesUnderUptoRow.holds Try.pinned (OpenSpec.upto namesUnderSpec)

/-- 'marlaw4.NamesIgnored', WHERE WHAT IT READS IS OF BULK AT MOST 1048576: true; the input reads as it did. -/
def namesIgnoredUptoRow : OpenClaim := { program := "ytpbmdeohccdiaaa", sum := "a2dcbdc94177db2f695db62b8483a900fd8b639e30c473a328c362ceede939e4", func := "marline/marlaw4.NamesIgnored", spec := "namesIgnored", inPlace := ["internal/abi.NoEscape", "internal/bytealg.MakeNoZero"], apart := false, narrowed := true }
def NamesIgnoredUptoSaid : Prop := namesIgnoredUptoRow.holds Try.pinned (OpenSpec.upto namesIgnoredSpec)

/-- 'marlaw4.NamesBack', WHERE WHAT IT READS IS OF BULK AT MOST 1048576: true; the input reads as it did. -/
def namesBackUptoRow : OpenClaim := { program := "ytpbmdeohccdiaaa", sum := "a2dcbdc94177db2f695db62b8483a900fd8b639e30c473a328c362ceede939e4", func := "marline/marlaw4.NamesBack", spec := "namesBack", inPlace := ["internal/abi.NoEscape", "internal/bytealg.MakeNoZero"], apart := false, narrowed := true }
def NamesBackUptoSaid : Prop := namesBackUptoRow.holds Try.pinned (OpenSpec.upto namesBackSpec)

/-- 'marlaw4.NamesChain', WHERE WHAT IT READS IS OF BULK AT MOST 1048576: true; the input reads as it did. -/
def namesChainUptoRow : OpenClaim := { program := "ytpbmdeohccdiaaa", sum := "a2dcbdc94177db2f695db62b8483a900fd8b639e30c473a328c362ceede939e4", func := "marline/marlaw4.NamesChain", spec := "namesChain", inPlace := ["internal/abi.NoEscape", "internal/bytealg.MakeNoZero"], apart := false, narrowed := true }
def NamesChainUptoSaid : Prop := namesChainUptoRow.holds Try.pinned (OpenSpec.upto namesChainSpec)

/-- 'marlaw4.NamesMore', WHERE WHAT IT READS IS OF BULK AT MOST 1048576: true; the input reads as it did. -/
def namesMoreUptoRow : OpenClaim := { program := "ytpbmdeohccdiaaa", sum := "a2dcbdc94177db2f695db62b8483a900fd8b639e30c473a328c362ceede939e4", func := "marline/marlaw4.NamesMore", spec := "namesMore", inPlace := ["internal/abi.NoEscape", "internal/bytealg.MakeNoZero"], apart := false, narrowed := true }
def NamesMoreUptoSaid : Prop := namesMoreUptoRow.holds Try.pinned (OpenSpec.upto namesMoreSpec)

end Rows
end Go.Proofs.Ytpbmdeohccdiaaa
