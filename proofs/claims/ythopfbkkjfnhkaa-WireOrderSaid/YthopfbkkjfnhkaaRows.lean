/-
  No cell of these rows narrows 'for every input' (looked for: loops, veiled, ifaces, maps, wideKeys, modest, calm, conditions, laid).
  DERIVED. THE GIVEN ROWS OF THIS SEAT. 8 by the template 'for every input the law returns true; each argument reads behind the call as it read before'; 0 by the template 'total and deterministic' (their statements: YthopfbkkjfnhkaaTotals.lean).
  GIVEN WITH THE SEED: the statements are not yours to turn. If you find one false, say at which input.
  Laid BY PROGRAM, IN A SANDBOX (cutbox-rows.mjs): the forced cells as the released guide's own fill.sh prints them over the translation bc83ce92d86bfa8f… (all of the seat's roots in one cut). By AI agents, Wed Nov 11 2026. No macro, syntax, notation, axiom, sorry.
-/
import Derived.Test.YthopfbkkjfnhkaaChecked
import GoSem.Claim
import GoSem.ClaimJoined
import GoSem.ClaimMapViews
import Derived.JoinedTies
import Derived.KernelRfl
namespace Go.Proofs.Ythopfbkkjfnhkaa
/- THE CELL 'sum', in the pinned program and in every row, IS THE sha256 OF THE DUMP (.gsa) THAT YthopfbkkjfnhkaaProg.lean LOADS. Nothing in Lean hashes anything: it is a label: what it is worth is what the hold of that sum in a sandbox is worth. -/
noncomputable def Try.pinned : Pinned := { name := "ythopfbkkjfnhkaa", sum := "bc83ce92d86bfa8f47a0af9d0a0a58968ef804386c836c68349646e953a8b807", checked := Try.checked }
namespace Rows
def none {H : Type} : Left H := { results := [], args := [] }

/-- 'marlaw2.WireNums': WHATEVER THE INPUT: true; the input reads as it did. -/
def wireNumsSpec : ChangeSpec := { name := "wireNums", fn := fun _ => fun
  | [d1, d2, d3] => { results := [.lit (.bool true)], args := [d1, d2, d3] }
  | _ => none }
def wireNumsRow : OpenClaim := { program := "ythopfbkkjfnhkaa", sum := "bc83ce92d86bfa8f47a0af9d0a0a58968ef804386c836c68349646e953a8b807", func := "marline/marlaw2.WireNums", spec := "wireNums", apart := false }
def WireNumsSaid : Prop := wireNumsRow.holds Try.pinned (OpenSpec.ofChange wireNumsSpec)

/-- ITS FALSE NEIGHBOUR: 'it returns false'. Refute it at one input. -/
def wireNumsWrong : ChangeSpec := { name := "wireNums", fn := fun _ => fun
  | [d1, d2, d3] => { results := [.lit (.bool false)], args := [d1, d2, d3] }
  | _ => none }
def WireNumsWrongFalsely : Prop := wireNumsRow.holds Try.pinned (OpenSpec.ofChange wireNumsWrong)

/-- 'marlaw2.WireSums': WHATEVER THE INPUT: true; the input reads as it did. -/
def wireSumsSpec : ChangeSpec := { name := "wireSums", fn := fun _ => fun
  | [d1, d2, d3] => { results := [.lit (.bool true)], args := [d1, d2, d3] }
  | _ => none }
def wireSumsRow : OpenClaim := { program := "ythopfbkkjfnhkaa", sum := "bc83ce92d86bfa8f47a0af9d0a0a58968ef804386c836c68349646e953a8b807", func := "marline/marlaw2.WireSums", spec := "wireSums", apart := false }
def WireSumsSaid : Prop := wireSumsRow.holds Try.pinned (OpenSpec.ofChange wireSumsSpec)

/-- ITS FALSE NEIGHBOUR: 'it returns false'. Refute it at one input. -/
def wireSumsWrong : ChangeSpec := { name := "wireSums", fn := fun _ => fun
  | [d1, d2, d3] => { results := [.lit (.bool false)], args := [d1, d2, d3] }
  | _ => none }
def WireSumsWrongFalsely : Prop := wireSumsRow.holds Try.pinned (OpenSpec.ofChange wireSumsWrong)

/-- 'marlaw2.WireSorts': WHATEVER THE INPUT: true; the input reads as it did. -/
def wireSortsSpec : ChangeSpec := { name := "wireSorts", fn := fun _ => fun
  | [d1, d2, d3] => { results := [.lit (.bool true)], args := [d1, d2, d3] }
  | _ => none }
def wireSortsRow : OpenClaim := { program := "ythopfbkkjfnhkaa", sum := "bc83ce92d86bfa8f47a0af9d0a0a58968ef804386c836c68349646e953a8b807", func := "marline/marlaw2.WireSorts", spec := "wireSorts", apart := false }
def WireSortsSaid : Prop := wireSortsRow.holds Try.pinned (OpenSpec.ofChange wireSortsSpec)

/-- ITS FALSE NEIGHBOUR: 'it returns false'. Refute it at one input. -/
def wireSortsWrong : ChangeSpec := { name := "wireSorts", fn := fun _ => fun
  | [d1, d2, d3] => { results := [.lit (.bool false)], args := [d1, d2, d3] }
  | _ => none }
def WireSortsWrongFalsely : Prop := wireSortsRow.holds Try.pinned (OpenSpec.ofChange wireSortsWrong)

/-- 'marlaw2.WireBack': WHATEVER THE INPUT: true; the input reads as it did. -/
def wireBackSpec : ChangeSpec := { name := "wireBack", fn := fun _ => fun
  | [d1, d2, d3] => { results := [.lit (.bool true)], args := [d1, d2, d3] }
  | _ => none }
def wireBackRow : OpenClaim := { program := "ythopfbkkjfnhkaa", sum := "bc83ce92d86bfa8f47a0af9d0a0a58968ef804386c836c68349646e953a8b807", func := "marline/marlaw2.WireBack", spec := "wireBack", apart := false }
def WireBackSaid : Prop := wireBackRow.holds Try.pinned (OpenSpec.ofChange wireBackSpec)

/-- ITS FALSE NEIGHBOUR: 'it returns false'. Refute it at one input. -/
def wireBackWrong : ChangeSpec := { name := "wireBack", fn := fun _ => fun
  | [d1, d2, d3] => { results := [.lit (.bool false)], args := [d1, d2, d3] }
  | _ => none }
def WireBackWrongFalsely : Prop := wireBackRow.holds Try.pinned (OpenSpec.ofChange wireBackWrong)

/-- 'marlaw2.WireOrder': WHATEVER THE INPUT: true; the input reads as it did. -/
def wireOrderSpec : ChangeSpec := { name := "wireOrder", fn := fun _ => fun
  | [d1, d2] => { results := [.lit (.bool true)], args := [d1, d2] }
  | _ => none }
def wireOrderRow : OpenClaim := { program := "ythopfbkkjfnhkaa", sum := "bc83ce92d86bfa8f47a0af9d0a0a58968ef804386c836c68349646e953a8b807", func := "marline/marlaw2.WireOrder", spec := "wireOrder", apart := false }
def WireOrderSaid : Prop := wireOrderRow.holds Try.pinned (OpenSpec.ofChange wireOrderSpec)

/-- ITS FALSE NEIGHBOUR: 'it returns false'. Refute it at one input. -/
def wireOrderWrong : ChangeSpec := { name := "wireOrder", fn := fun _ => fun
  | [d1, d2] => { results := [.lit (.bool false)], args := [d1, d2] }
  | _ => none }
def WireOrderWrongFalsely : Prop := wireOrderRow.holds Try.pinned (OpenSpec.ofChange wireOrderWrong)

/-- 'marlaw2.WireMerges': WHATEVER THE INPUT: true; the input reads as it did. -/
def wireMergesSpec : ChangeSpec := { name := "wireMerges", fn := fun _ => fun
  | [d1, d2, d3] => { results := [.lit (.bool true)], args := [d1, d2, d3] }
  | _ => none }
def wireMergesRow : OpenClaim := { program := "ythopfbkkjfnhkaa", sum := "bc83ce92d86bfa8f47a0af9d0a0a58968ef804386c836c68349646e953a8b807", func := "marline/marlaw2.WireMerges", spec := "wireMerges", apart := false }
def WireMergesSaid : Prop := wireMergesRow.holds Try.pinned (OpenSpec.ofChange wireMergesSpec)

/-- ITS FALSE NEIGHBOUR: 'it returns false'. Refute it at one input. -/
def wireMergesWrong : ChangeSpec := { name := "wireMerges", fn := fun _ => fun
  | [d1, d2, d3] => { results := [.lit (.bool false)], args := [d1, d2, d3] }
  | _ => none }
def WireMergesWrongFalsely : Prop := wireMergesRow.holds Try.pinned (OpenSpec.ofChange wireMergesWrong)

/-- 'marlaw2.WireLeast': WHATEVER THE INPUT: true; the input reads as it did. -/
def wireLeastSpec : ChangeSpec := { name := "wireLeast", fn := fun _ => fun
  | [d1, d2] => { results := [.lit (.bool true)], args := [d1, d2] }
  | _ => none }
def wireLeastRow : OpenClaim := { program := "ythopfbkkjfnhkaa", sum := "bc83ce92d86bfa8f47a0af9d0a0a58968ef804386c836c68349646e953a8b807", func := "marline/marlaw2.WireLeast", spec := "wireLeast", apart := false }
def WireLeastSaid : Prop := wireLeastRow.holds Try.pinned (OpenSpec.ofChange wireLeastSpec)

/-- ITS FALSE NEIGHBOUR: 'it returns false'. Refute it at one input. -/
def wireLeastWrong : ChangeSpec := { name := "wireLeast", fn := fun _ => fun
  | [d1, d2] => { results := [.lit (.bool false)], args := [d1, d2] }
  | _ => none }
def WireLeastWrongFalsely : Prop := wireLeastRow.holds Try.pinned (OpenSpec.ofChange wireLeastWrong)

/-- 'marlaw2.WireCrcs': WHATEVER THE INPUT: true; the input reads as it did. -/
def wireCrcsSpec : ChangeSpec := { name := "wireCrcs", fn := fun _ => fun
  | [d1, d2, d3, d4, d5] => { results := [.lit (.bool true)], args := [d1, d2, d3, d4, d5] }
  | _ => none }
def wireCrcsRow : OpenClaim := { program := "ythopfbkkjfnhkaa", sum := "bc83ce92d86bfa8f47a0af9d0a0a58968ef804386c836c68349646e953a8b807", func := "marline/marlaw2.WireCrcs", spec := "wireCrcs", apart := false }
def WireCrcsSaid : Prop := wireCrcsRow.holds Try.pinned (OpenSpec.ofChange wireCrcsSpec)

/-- ITS FALSE NEIGHBOUR: 'it returns false'. Refute it at one input. -/
def wireCrcsWrong : ChangeSpec := { name := "wireCrcs", fn := fun _ => fun
  | [d1, d2, d3, d4, d5] => { results := [.lit (.bool false)], args := [d1, d2, d3, d4, d5] }
  | _ => none }
def WireCrcsWrongFalsely : Prop := wireCrcsRow.holds Try.pinned (OpenSpec.ofChange wireCrcsWrong)

/- THE SECOND FORM. 'bulk': how many values and letters a reading holds, each counted each time it is reached (what is shared counts as often as it is met; a slice's spare places count too). A statement '..UptoSaid' is the law's where the arguments, and the package variables that the reading takes, are together of bulk at most 1048576: NARROWER than '..Said'. Prove '..Said' where nothing that the law and all that it calls make is longer than what came in: it says more and counts as full. Else prove '..UptoSaid'. A law counts once. -/
mutual
def uptoBulk {H : Type} : DataW H → Nat
  | .lit (.string bytes) => bytes.length + 1
  | .lit _ => 1
  | .nil => 1
  | .ptr d => uptoBulk d + 1
  | .slice elems spare => uptoBulkAll elems + uptoBulkAll spare + 1
  | .agg parts => uptoBulkAll parts + 1
  | .iface _ d => uptoBulk d + 1
  | .map entries => uptoBulkEntries entries + 1
  | .held _ => 1
def uptoBulkAll {H : Type} : List (DataW H) → Nat
  | [] => 0
  | d :: r => uptoBulk d + uptoBulkAll r
def uptoBulkEntries {H : Type} : List (Lit × DataW H) → Nat
  | [] => 0
  | x :: r => uptoBulkEntry x + uptoBulkEntries r
def uptoBulkEntry {H : Type} : Lit × DataW H → Nat
  | (.string bytes, d) => bytes.length + uptoBulk d + 1
  | (_, d) => uptoBulk d + 1
 end
def uptoSmall : (H : Type) → List (DataW H) → Bool := fun _ ds => decide (uptoBulkAll ds ≤ 1048576)
def OpenSpec.upto (s : _root_.Go.ChangeSpec) : _root_.Go.OpenSpec := { _root_.Go.OpenSpec.ofChange s with cond := some uptoSmall }

/-- 'marlaw2.WireNums', WHERE WHAT IT READS IS OF BULK AT MOST 1048576: true; the input reads as it did. -/
def wireNumsUptoRow : OpenClaim := { program := "ythopfbkkjfnhkaa", sum := "bc83ce92d86bfa8f47a0af9d0a0a58968ef804386c836c68349646e953a8b807", func := "marline/marlaw2.WireNums", spec := "wireNums", apart := false, narrowed := true }
def WireNumsUptoSaid : Prop := wireNumsUptoRow.holds Try.pinned (OpenSpec.upto wireNumsSpec)

/-- 'marlaw2.WireSums', WHERE WHAT IT READS IS OF BULK AT MOST 1048576: true; the input reads as it did. -/
def wireSumsUptoRow : OpenClaim := { program := "ythopfbkkjfnhkaa", sum := "bc83ce92d86bfa8f47a0af9d0a0a58968ef804386c836c68349646e953a8b807", func := "marline/marlaw2.WireSums", spec := "wireSums", apart := false, narrowed := true }
def WireSumsUptoSaid : Prop := wireSumsUptoRow.holds Try.pinned (OpenSpec.upto wireSumsSpec)

/-- 'marlaw2.WireSorts', WHERE WHAT IT READS IS OF BULK AT MOST 1048576: true; the input reads as it did. -/
def wireSortsUptoRow : OpenClaim := { program := "ythopfbkkjfnhkaa", sum := "bc83ce92d86bfa8f47a0af9d0a0a58968ef804386c836c68349646e953a8b807", func := "marline/marlaw2.WireSorts", spec := "wireSorts", apart := false, narrowed := true }
def WireSortsUptoSaid : Prop := wireSortsUptoRow.holds Try.pinned (OpenSpec.upto wireSortsSpec)

/-- 'marlaw2.WireBack', WHERE WHAT IT READS IS OF BULK AT MOST 1048576: true; the input reads as it did. -/
def wireBackUptoRow : OpenClaim := { program := "ythopfbkkjfnhkaa", sum := "bc83ce92d86bfa8f47a0af9d0a0a58968ef804386c836c68349646e953a8b807", func := "marline/marlaw2.WireBack", spec := "wireBack", apart := false, narrowed := true }
def WireBackUptoSaid : Prop := wireBackUptoRow.holds Try.pinned (OpenSpec.upto wireBackSpec)

/-- 'marlaw2.WireOrder', WHERE WHAT IT READS IS OF BULK AT MOST 1048576: true; the input reads as it did. -/
def wireOrderUptoRow : OpenClaim := { program := "ythopfbkkjfnhkaa", sum := "bc83ce92d86bfa8f47a0af9d0a0a58968ef804386c836c68349646e953a8b807", func := "marline/marlaw2.WireOrder", spec := "wireOrder", apart := false, narrowed := true }
def WireOrderUptoSaid : Prop := wireOrderUptoRow.holds Try.pinned (OpenSpec.upto wireOrderSpec)

/-- 'marlaw2.WireMerges', WHERE WHAT IT READS IS OF BULK AT MOST 1048576: true; the input reads as it did. -/
def wireMergesUptoRow : OpenClaim := { program := "ythopfbkkjfnhkaa", sum := "bc83ce92d86bfa8f47a0af9d0a0a58968ef804386c836c68349646e953a8b807", func := "marline/marlaw2.WireMerges", spec := "wireMerges", apart := false, narrowed := true }
def WireMergesUptoSaid : Prop := wireMergesUptoRow.holds Try.pinned (OpenSpec.upto wireMergesSpec)

/-- 'marlaw2.WireLeast', WHERE WHAT IT READS IS OF BULK AT MOST 1048576: true; the input reads as it did. -/
def wireLeastUptoRow : OpenClaim := { program := "ythopfbkkjfnhkaa", sum := "bc83ce92d86bfa8f47a0af9d0a0a58968ef804386c836c68349646e953a8b807", func := "marline/marlaw2.WireLeast", spec := "wireLeast", apart := false, narrowed := true }
def WireLeastUptoSaid : Prop := wireLeastUptoRow.holds Try.pinned (OpenSpec.upto wireLeastSpec)

/-- 'marlaw2.WireCrcs', WHERE WHAT IT READS IS OF BULK AT MOST 1048576: true; the input reads as it did. -/
def wireCrcsUptoRow : OpenClaim := { program := "ythopfbkkjfnhkaa", sum := "bc83ce92d86bfa8f47a0af9d0a0a58968ef804386c836c68349646e953a8b807", func := "marline/marlaw2.WireCrcs", spec := "wireCrcs", apart := false, narrowed := true }
def WireCrcsUptoSaid : Prop := wireCrcsUptoRow.holds Try.pinned (OpenSpec.upto wireCrcsSpec)

end Rows
end Go.Proofs.Ythopfbkkjfnhkaa
