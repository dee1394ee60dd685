/-
  No cell of these rows narrows 'for every input' (looked for: loops, veiled, ifaces, maps, wideKeys, modest, calm, conditions, laid).
  DERIVED. THE GIVEN ROWS OF THIS SEAT. 10 by the template 'for every input the law returns true; each argument reads behind the call as it read before'; 0 by the template 'total and deterministic' (their statements: YtfmlnodhbojdpaaGreatTotals.lean).
  GIVEN WITH THE SEED: the statements are not yours to turn. If you find one false, say at which input.
  Laid BY PROGRAM, IN A SANDBOX (cutbox-rows.mjs): the forced cells as the released guide's own fill.sh prints them over the translation 4705140ce80185c5… (all of the seat's roots in one cut). By AI agents, Wed Nov 11 2026. No macro, syntax, notation, axiom, sorry.
-/
import Derived.Test.YtfmlnodhbojdpaaGreatChecked
import GoSem.Claim
import GoSem.ClaimJoined
import GoSem.ClaimMapViews
import Derived.JoinedTies
import Derived.KernelRfl
namespace Go.Proofs.YtfmlnodhbojdpaaGreat
/- THE CELL 'sum', in the pinned program and in every row, IS THE sha256 OF THE DUMP (.gsa) THAT YtfmlnodhbojdpaaGreatProg.lean LOADS. Nothing in Lean hashes anything: it is a label: what it is worth is what the hold of that sum in a sandbox is worth. -/
noncomputable def Tryz.pinned : Pinned := { name := "ytfmlnodhbojdpaagreat", sum := "4705140ce80185c5dc4b8754b0fc7d75d81e26ed8a4fad240068ddb2a66dfda1", checked := Tryz.checked }
namespace Rows
def none {H : Type} : Left H := { results := [], args := [] }

/-- 'marlaw5.FsimPlays': WHATEVER THE INPUT: true; the input reads as it did. -/
def fsimPlaysSpec : ChangeSpec := { name := "fsimPlays", fn := fun _ => fun
  | [d1, d2] => { results := [.lit (.bool true)], args := [d1, d2] }
  | _ => none }
def fsimPlaysRow : OpenClaim := { program := "ytfmlnodhbojdpaagreat", sum := "4705140ce80185c5dc4b8754b0fc7d75d81e26ed8a4fad240068ddb2a66dfda1", func := "marline/marlaw5.FsimPlays", spec := "fsimPlays", inPlace := ["sync/atomic.AddInt64", "maps.clone", "sync/atomic.LoadInt64", "sync/atomic.StoreInt64"], unfollowed := true, recurses := true, apart := false }
def FsimPlaysSaid : Prop := fsimPlaysRow.holds Tryz.pinned (OpenSpec.ofChange fsimPlaysSpec)

/-- ITS FALSE NEIGHBOUR: 'it returns false'. Refute it at one input. -/
def fsimPlaysWrong : ChangeSpec := { name := "fsimPlays", fn := fun _ => fun
  | [d1, d2] => { results := [.lit (.bool false)], args := [d1, d2] }
  | _ => none }
def FsimPlaysWrongFalsely : Prop := fsimPlaysRow.holds Tryz.pinned (OpenSpec.ofChange fsimPlaysWrong)

/-- 'marlaw5.FsimTree': WHATEVER THE INPUT: true; the input reads as it did. -/
def fsimTreeSpec : ChangeSpec := { name := "fsimTree", fn := fun _ => fun
  | [d1, d2] => { results := [.lit (.bool true)], args := [d1, d2] }
  | _ => none }
def fsimTreeRow : OpenClaim := { program := "ytfmlnodhbojdpaagreat", sum := "4705140ce80185c5dc4b8754b0fc7d75d81e26ed8a4fad240068ddb2a66dfda1", func := "marline/marlaw5.FsimTree", spec := "fsimTree", inPlace := ["sync/atomic.AddInt64", "maps.clone", "sync/atomic.LoadInt64"], unfollowed := true, recurses := true, apart := false }
def FsimTreeSaid : Prop := fsimTreeRow.holds Tryz.pinned (OpenSpec.ofChange fsimTreeSpec)

/-- ITS FALSE NEIGHBOUR: 'it returns false'. Refute it at one input. -/
def fsimTreeWrong : ChangeSpec := { name := "fsimTree", fn := fun _ => fun
  | [d1, d2] => { results := [.lit (.bool false)], args := [d1, d2] }
  | _ => none }
def FsimTreeWrongFalsely : Prop := fsimTreeRow.holds Tryz.pinned (OpenSpec.ofChange fsimTreeWrong)

/-- 'marlaw5.FsimSafe': WHATEVER THE INPUT: true; the input reads as it did. -/
def fsimSafeSpec : ChangeSpec := { name := "fsimSafe", fn := fun _ => fun
  | [d1, d2, d3, d4, d5] => { results := [.lit (.bool true)], args := [d1, d2, d3, d4, d5] }
  | _ => none }
def fsimSafeRow : OpenClaim := { program := "ytfmlnodhbojdpaagreat", sum := "4705140ce80185c5dc4b8754b0fc7d75d81e26ed8a4fad240068ddb2a66dfda1", func := "marline/marlaw5.FsimSafe", spec := "fsimSafe", inPlace := ["sync/atomic.AddInt64", "maps.clone", "sync/atomic.LoadInt64", "sync/atomic.StoreInt64"], unfollowed := true, recurses := true, apart := false }
def FsimSafeSaid : Prop := fsimSafeRow.holds Tryz.pinned (OpenSpec.ofChange fsimSafeSpec)

/-- ITS FALSE NEIGHBOUR: 'it returns false'. Refute it at one input. -/
def fsimSafeWrong : ChangeSpec := { name := "fsimSafe", fn := fun _ => fun
  | [d1, d2, d3, d4, d5] => { results := [.lit (.bool false)], args := [d1, d2, d3, d4, d5] }
  | _ => none }
def FsimSafeWrongFalsely : Prop := fsimSafeRow.holds Tryz.pinned (OpenSpec.ofChange fsimSafeWrong)

/-- 'marlaw5.FsimKeeps': WHATEVER THE INPUT: true; the input reads as it did. -/
def fsimKeepsSpec : ChangeSpec := { name := "fsimKeeps", fn := fun _ => fun
  | [d1, d2, d3, d4, d5] => { results := [.lit (.bool true)], args := [d1, d2, d3, d4, d5] }
  | _ => none }
def fsimKeepsRow : OpenClaim := { program := "ytfmlnodhbojdpaagreat", sum := "4705140ce80185c5dc4b8754b0fc7d75d81e26ed8a4fad240068ddb2a66dfda1", func := "marline/marlaw5.FsimKeeps", spec := "fsimKeeps", inPlace := ["sync/atomic.AddInt64", "maps.clone", "sync/atomic.LoadInt64", "sync/atomic.StoreInt64"], unfollowed := true, recurses := true, apart := false }
def FsimKeepsSaid : Prop := fsimKeepsRow.holds Tryz.pinned (OpenSpec.ofChange fsimKeepsSpec)

/-- ITS FALSE NEIGHBOUR: 'it returns false'. Refute it at one input. -/
def fsimKeepsWrong : ChangeSpec := { name := "fsimKeeps", fn := fun _ => fun
  | [d1, d2, d3, d4, d5] => { results := [.lit (.bool false)], args := [d1, d2, d3, d4, d5] }
  | _ => none }
def FsimKeepsWrongFalsely : Prop := fsimKeepsRow.holds Tryz.pinned (OpenSpec.ofChange fsimKeepsWrong)

/-- 'marlaw5.FsimMoves': WHATEVER THE INPUT: true; the input reads as it did. -/
def fsimMovesSpec : ChangeSpec := { name := "fsimMoves", fn := fun _ => fun
  | [d1, d2, d3, d4, d5] => { results := [.lit (.bool true)], args := [d1, d2, d3, d4, d5] }
  | _ => none }
def fsimMovesRow : OpenClaim := { program := "ytfmlnodhbojdpaagreat", sum := "4705140ce80185c5dc4b8754b0fc7d75d81e26ed8a4fad240068ddb2a66dfda1", func := "marline/marlaw5.FsimMoves", spec := "fsimMoves", inPlace := ["sync/atomic.AddInt64", "maps.clone", "sync/atomic.LoadInt64", "sync/atomic.StoreInt64"], unfollowed := true, recurses := true, apart := false }
def FsimMovesSaid : Prop := fsimMovesRow.holds Tryz.pinned (OpenSpec.ofChange fsimMovesSpec)

/-- ITS FALSE NEIGHBOUR: 'it returns false'. Refute it at one input. -/
def fsimMovesWrong : ChangeSpec := { name := "fsimMoves", fn := fun _ => fun
  | [d1, d2, d3, d4, d5] => { results := [.lit (.bool false)], args := [d1, d2, d3, d4, d5] }
  | _ => none }
def FsimMovesWrongFalsely : Prop := fsimMovesRow.holds Tryz.pinned (OpenSpec.ofChange fsimMovesWrong)

/-- 'marlaw5.FsimFails': WHATEVER THE INPUT: true; the input reads as it did. -/
def fsimFailsSpec : ChangeSpec := { name := "fsimFails", fn := fun _ => fun
  | [d1, d2, d3, d4, d5] => { results := [.lit (.bool true)], args := [d1, d2, d3, d4, d5] }
  | _ => none }
def fsimFailsRow : OpenClaim := { program := "ytfmlnodhbojdpaagreat", sum := "4705140ce80185c5dc4b8754b0fc7d75d81e26ed8a4fad240068ddb2a66dfda1", func := "marline/marlaw5.FsimFails", spec := "fsimFails", inPlace := ["sync/atomic.AddInt64", "maps.clone", "sync/atomic.LoadInt64", "sync/atomic.StoreInt64"], unfollowed := true, recurses := true, apart := false }
def FsimFailsSaid : Prop := fsimFailsRow.holds Tryz.pinned (OpenSpec.ofChange fsimFailsSpec)

/-- ITS FALSE NEIGHBOUR: 'it returns false'. Refute it at one input. -/
def fsimFailsWrong : ChangeSpec := { name := "fsimFails", fn := fun _ => fun
  | [d1, d2, d3, d4, d5] => { results := [.lit (.bool false)], args := [d1, d2, d3, d4, d5] }
  | _ => none }
def FsimFailsWrongFalsely : Prop := fsimFailsRow.holds Tryz.pinned (OpenSpec.ofChange fsimFailsWrong)

/-- 'marlaw5.FsimCounts': WHATEVER THE INPUT: true; the input reads as it did. -/
def fsimCountsSpec : ChangeSpec := { name := "fsimCounts", fn := fun _ => fun
  | [d1, d2] => { results := [.lit (.bool true)], args := [d1, d2] }
  | _ => none }
def fsimCountsRow : OpenClaim := { program := "ytfmlnodhbojdpaagreat", sum := "4705140ce80185c5dc4b8754b0fc7d75d81e26ed8a4fad240068ddb2a66dfda1", func := "marline/marlaw5.FsimCounts", spec := "fsimCounts", inPlace := ["sync/atomic.AddInt64", "maps.clone", "sync/atomic.LoadInt64"], unfollowed := true, recurses := true, apart := false }
def FsimCountsSaid : Prop := fsimCountsRow.holds Tryz.pinned (OpenSpec.ofChange fsimCountsSpec)

/-- ITS FALSE NEIGHBOUR: 'it returns false'. Refute it at one input. -/
def fsimCountsWrong : ChangeSpec := { name := "fsimCounts", fn := fun _ => fun
  | [d1, d2] => { results := [.lit (.bool false)], args := [d1, d2] }
  | _ => none }
def FsimCountsWrongFalsely : Prop := fsimCountsRow.holds Tryz.pinned (OpenSpec.ofChange fsimCountsWrong)

/-- 'marlaw7.StorePlays': WHATEVER THE INPUT: true; the input reads as it did. -/
def storePlaysSpec : ChangeSpec := { name := "storePlays", fn := fun _ => fun
  | [d1, d2] => { results := [.lit (.bool true)], args := [d1, d2] }
  | _ => none }
def storePlaysRow : OpenClaim := { program := "ytfmlnodhbojdpaagreat", sum := "4705140ce80185c5dc4b8754b0fc7d75d81e26ed8a4fad240068ddb2a66dfda1", func := "marline/marlaw7.StorePlays", spec := "storePlays", inPlace := ["sync/atomic.LoadUint32", "(*internal/sync.Mutex).Lock", "internal/race.Disable", "sync/atomic.CompareAndSwapInt32", "internal/race.Enable", "internal/race.Acquire", "(*internal/sync.Mutex).lockSlow", "internal/sync.runtime_canSpin", "internal/sync.runtime_doSpin", "internal/sync.throw", "internal/sync.runtime_nanotime", "internal/sync.runtime_SemacquireMutex", "sync/atomic.AddInt32", "(*internal/sync.Mutex).Unlock", "internal/race.ReleaseMerge", "(*internal/sync.Mutex).unlockSlow", "internal/sync.fatal", "internal/sync.runtime_Semrelease", "sync/atomic.StoreUint32", "sync/atomic.AddInt64", "maps.clone", "sync/atomic.LoadInt64"], unfollowed := true, recurses := true, apart := false }
def StorePlaysSaid : Prop := storePlaysRow.holds Tryz.pinned (OpenSpec.ofChange storePlaysSpec)

/-- ITS FALSE NEIGHBOUR: 'it returns false'. Refute it at one input. -/
def storePlaysWrong : ChangeSpec := { name := "storePlays", fn := fun _ => fun
  | [d1, d2] => { results := [.lit (.bool false)], args := [d1, d2] }
  | _ => none }
def StorePlaysWrongFalsely : Prop := storePlaysRow.holds Tryz.pinned (OpenSpec.ofChange storePlaysWrong)

/-- 'marlaw7.StoreWhole': WHATEVER THE INPUT: true; the input reads as it did. -/
def storeWholeSpec : ChangeSpec := { name := "storeWhole", fn := fun _ => fun
  | [d1, d2, d3, d4, d5] => { results := [.lit (.bool true)], args := [d1, d2, d3, d4, d5] }
  | _ => none }
def storeWholeRow : OpenClaim := { program := "ytfmlnodhbojdpaagreat", sum := "4705140ce80185c5dc4b8754b0fc7d75d81e26ed8a4fad240068ddb2a66dfda1", func := "marline/marlaw7.StoreWhole", spec := "storeWhole", inPlace := ["sync/atomic.LoadUint32", "(*internal/sync.Mutex).Lock", "internal/race.Disable", "sync/atomic.CompareAndSwapInt32", "internal/race.Enable", "internal/race.Acquire", "(*internal/sync.Mutex).lockSlow", "internal/sync.runtime_canSpin", "internal/sync.runtime_doSpin", "internal/sync.throw", "internal/sync.runtime_nanotime", "internal/sync.runtime_SemacquireMutex", "sync/atomic.AddInt32", "(*internal/sync.Mutex).Unlock", "internal/race.ReleaseMerge", "(*internal/sync.Mutex).unlockSlow", "internal/sync.fatal", "internal/sync.runtime_Semrelease", "sync/atomic.StoreUint32", "sync/atomic.AddInt64", "maps.clone", "sync/atomic.LoadInt64"], unfollowed := true, recurses := true, apart := false }
def StoreWholeSaid : Prop := storeWholeRow.holds Tryz.pinned (OpenSpec.ofChange storeWholeSpec)

/-- ITS FALSE NEIGHBOUR: 'it returns false'. Refute it at one input. -/
def storeWholeWrong : ChangeSpec := { name := "storeWhole", fn := fun _ => fun
  | [d1, d2, d3, d4, d5] => { results := [.lit (.bool false)], args := [d1, d2, d3, d4, d5] }
  | _ => none }
def StoreWholeWrongFalsely : Prop := storeWholeRow.holds Tryz.pinned (OpenSpec.ofChange storeWholeWrong)

/-- 'marlaw7.StoreLists': WHATEVER THE INPUT: true; the input reads as it did. -/
def storeListsSpec : ChangeSpec := { name := "storeLists", fn := fun _ => fun
  | [d] => { results := [.lit (.bool true)], args := [d] }
  | _ => none }
def storeListsRow : OpenClaim := { program := "ytfmlnodhbojdpaagreat", sum := "4705140ce80185c5dc4b8754b0fc7d75d81e26ed8a4fad240068ddb2a66dfda1", func := "marline/marlaw7.StoreLists", spec := "storeLists", inPlace := ["sync/atomic.LoadUint32", "(*internal/sync.Mutex).Lock", "internal/race.Disable", "sync/atomic.CompareAndSwapInt32", "internal/race.Enable", "internal/race.Acquire", "(*internal/sync.Mutex).lockSlow", "internal/sync.runtime_canSpin", "internal/sync.runtime_doSpin", "internal/sync.throw", "internal/sync.runtime_nanotime", "internal/sync.runtime_SemacquireMutex", "sync/atomic.AddInt32", "(*internal/sync.Mutex).Unlock", "internal/race.ReleaseMerge", "(*internal/sync.Mutex).unlockSlow", "internal/sync.fatal", "internal/sync.runtime_Semrelease", "sync/atomic.StoreUint32", "sync/atomic.AddInt64", "maps.clone", "sync/atomic.LoadInt64"], unfollowed := true, recurses := true, apart := false }
def StoreListsSaid : Prop := storeListsRow.holds Tryz.pinned (OpenSpec.ofChange storeListsSpec)

/-- ITS FALSE NEIGHBOUR: 'it returns false'. Refute it at one input. -/
def storeListsWrong : ChangeSpec := { name := "storeLists", fn := fun _ => fun
  | [d] => { results := [.lit (.bool false)], args := [d] }
  | _ => none }
def StoreListsWrongFalsely : Prop := storeListsRow.holds Tryz.pinned (OpenSpec.ofChange storeListsWrong)

/- THE SECOND FORM. 'bulk': how many values and letters a reading holds, each counted each time it is reached (what is shared counts as often as it is met; a slice's spare places count too). A statement '..UptoSaid' is the law's where the arguments, and the package variables that the reading takes, are together of bulk at most 1048576: NARROWER than '..Said'. Prove '..Said' where nothing that the law and all that it calls make is longer than what came in: it says more and counts as full. Else prove '..UptoSaid'. A law counts once. -/
mutual
def uptoBulk {H : Type} : DataW H → Nat
  | .lit (.string bytes) => bytes.length + 1
  | .lit _ => 1
  | .nil => 1
  | .ptr d => uptoBulk d + 1
  | .slice elems spare => uptoBulkAll elems + uptoBulkAll spare + 1
  | .agg parts => uptoBulkAll parts + 1
  | .iface _ d => uptoBulk d + 1
  | .map entries => uptoBulkEntries entries + 1
  | .held _ => 1
def uptoBulkAll {H : Type} : List (DataW H) → Nat
  | [] => 0
  | d :: r => uptoBulk d + uptoBulkAll r
def uptoBulkEntries {H : Type} : List (Lit × DataW H) → Nat
  | [] => 0
  | x :: r => uptoBulkEntry x + uptoBulkEntries r
def uptoBulkEntry {H : Type} : Lit × DataW H → Nat
  | (.string bytes, d) => bytes.length + uptoBulk d + 1
  | (_, d) => uptoBulk d + 1
 end
def uptoSmall : (H : Type) → List (DataW H) → Bool := fun _ ds => decide (uptoBulkAll ds ≤ 1048576)
def OpenSpec.upto (s : _root_.Go.ChangeSpec) : _root_.Go.OpenSpec := { _root_.Go.OpenSpec.ofChange s with cond := some uptoSmall }

/-- 'marlaw5.FsimPlays', WHERE WHAT IT READS IS OF BULK AT MOST 1048576: true; the input reads as it did. -/
def fsimPlaysUptoRow : OpenClaim := { program := "ytfmlnodhbojdpaagreat", sum := "4705140ce80185c5dc4b8754b0fc7d75d81e26ed8a4fad240068ddb2a66dfda1", func := "marline/marlaw5.FsimPlays", spec := "fsimPlays", inPlace := ["sync/atomic.AddInt64", "maps.clone", "sync/atomic.LoadInt64", "sync/atomic.StoreInt64"], unfollowed := true, recurses := true, apart := false, narrowed := true }
def FsimPlaysUptoSaid : Prop := fsimPlaysUptoRow.holds Tryz.pinned (OpenSpec.upto fsimPlaysSpec)

/-- 'marlaw5.FsimTree', WHERE WHAT IT READS IS OF BULK AT MOST 1048576: true; the input reads as it did. -/
def fsimTreeUptoRow : OpenClaim := { program := "ytfmlnodhbojdpaagreat", sum := "4705140ce80185c5dc4b8754b0fc7d75d81e26ed8a4fad240068ddb2a66dfda1", func := "marline/marlaw5.FsimTree", spec := "fsimTree", inPlace := ["sync/atomic.AddInt64", "maps.clone", "sync/atomic.LoadInt64"], unfollowed := true, recurses := true, apart := false, narrowed := true }
def FsimTreeUptoSaid : Prop := fsimTreeUptoRow.holds Tryz.pinned (OpenSpec.upto fsimTreeSpec)

/-- 'marlaw5.FsimSafe', WHERE WHAT IT READS IS OF BULK AT MOST 1048576: true; the input reads as it did. -/
def fsimSafeUptoRow : OpenClaim := { program := "ytfmlnodhbojdpaagreat", sum := "4705140ce80185c5dc4b8754b0fc7d75d81e26ed8a4fad240068ddb2a66dfda1", func := "marline/marlaw5.FsimSafe", spec := "fsimSafe", inPlace := ["sync/atomic.AddInt64", "maps.clone", "sync/atomic.LoadInt64", "sync/atomic.StoreInt64"], unfollowed := true, recurses := true, apart := false, narrowed := true }
def FsimSafeUptoSaid : Prop := fsimSafeUptoRow.holds Tryz.pinned (OpenSpec.upto fsimSafeSpec)

/-- 'marlaw5.FsimKeeps', WHERE WHAT IT READS IS OF BULK AT MOST 1048576: true; the input reads as it did. -/
def fsimKeepsUptoRow : OpenClaim := { program := "ytfmlnodhbojdpaagreat", sum := "4705140ce80185c5dc4b8754b0fc7d75d81e26ed8a4fad240068ddb2a66dfda1", func := "marline/marlaw5.FsimKeeps", spec := "fsimKeeps", inPlace := ["sync/atomic.AddInt64", "maps.clone", "sync/atomic.LoadInt64", "sync/atomic.StoreInt64"], unfollowed := true, recurses := true, apart := false, narrowed := true }
def FsimKeepsUptoSaid : Prop := fsimKeepsUptoRow.holds Tryz.pinned (OpenSpec.upto fsimKeepsSpec)

/-- 'marlaw5.FsimMoves', WHERE WHAT IT READS IS OF BULK AT MOST 1048576: true; the input reads as it did. -/
def fsimMovesUptoRow : OpenClaim := { program := "ytfmlnodhbojdpaagreat", sum := "4705140ce80185c5dc4b8754b0fc7d75d81e26ed8a4fad240068ddb2a66dfda1", func := "marline/marlaw5.FsimMoves", spec := "fsimMoves", inPlace := ["sync/atomic.AddInt64", "maps.clone", "sync/atomic.LoadInt64", "sync/atomic.StoreInt64"], unfollowed := true, recurses := true, apart := false, narrowed := true }
def FsimMovesUptoSaid : Prop := fsimMovesUptoRow.holds Tryz.pinned (OpenSpec.upto fsimMovesSpec)

/-- 'marlaw5.FsimFails', WHERE WHAT IT READS IS OF BULK AT MOST 1048576: true; the input reads as it did. -/
def fsimFailsUptoRow : OpenClaim := { program := "ytfmlnodhbojdpaagreat", sum := "4705140ce80185c5dc4b8754b0fc7d75d81e26ed8a4fad240068ddb2a66dfda1", func := "marline/marlaw5.FsimFails", spec := "fsimFails", inPlace := ["sync/atomic.AddInt64", "maps.clone", "sync/atomic.LoadInt64", "sync/atomic.StoreInt64"], unfollowed := true, recurses := true, apart := false, narrowed := true }
def FsimFailsUptoSaid : Prop := fsimFailsUptoRow.holds Tryz.pinned (OpenSpec.upto fsimFailsSpec)

/-- 'marlaw5.FsimCounts', WHERE WHAT IT READS IS OF BULK AT MOST 1048576: true; the input reads as it did. -/
def fsimCountsUptoRow : OpenClaim := { program := "ytfmlnodhbojdpaagreat", sum := "4705140ce80185c5dc4b8754b0fc7d75d81e26ed8a4fad240068ddb2a66dfda1", func := "marline/marlaw5.FsimCounts", spec := "fsimCounts", inPlace := ["sync/atomic.AddInt64", "maps.clone", "sync/atomic.LoadInt64"], unfollowed := true, recurses := true, apart := false, narrowed := true }
def FsimCountsUptoSaid : Prop := fsimCountsUptoRow.holds Tryz.pinned (OpenSpec.upto fsimCountsSpec)

/-- 'marlaw7.StorePlays', WHERE WHAT IT READS IS OF BULK AT MOST 1048576: true; the input reads as it did. -/
def storePlaysUptoRow : OpenClaim := { program := "ytfmlnodhbojdpaagreat", sum := "4705140ce80185c5dc4b8754b0fc7d75d81e26ed8a4fad240068ddb2a66dfda1", func := "marline/marlaw7.StorePlays", spec := "storePlays", inPlace := ["sync/atomic.LoadUint32", "(*internal/sync.Mutex).Lock", "internal/race.Disable", "sync/atomic.CompareAndSwapInt32", "internal/race.Enable", "internal/race.Acquire", "(*internal/sync.Mutex).lockSlow", "internal/sync.runtime_canSpin", "internal/sync.runtime_doSpin", "internal/sync.throw", "internal/sync.runtime_nanotime", "internal/sync.runtime_SemacquireMutex", "sync/atomic.AddInt32", "(*internal/sync.Mutex).Unlock", "internal/race.ReleaseMerge", "(*internal/sync.Mutex).unlockSlow", "internal/sync.fatal", "internal/sync.runtime_Semrelease", "sync/atomic.StoreUint32", "sync/atomic.AddInt64", "maps.clone", "sync/atomic.LoadInt64"], unfollowed := true, recurses := true, apart := false, narrowed := true }
def StorePlaysUptoSaid : Prop := storePlaysUptoRow.holds Tryz.pinned (OpenSpec.upto storePlaysSpec)

/-- 'marlaw7.StoreWhole', WHERE WHAT IT READS IS OF BULK AT MOST 1048576: true; the input reads as it did. -/
def storeWholeUptoRow : OpenClaim := { program := "ytfmlnodhbojdpaagreat", sum := "4705140ce80185c5dc4b8754b0fc7d75d81e26ed8a4fad240068ddb2a66dfda1", func := "marline/marlaw7.StoreWhole", spec := "storeWhole", inPlace := ["sync/atomic.LoadUint32", "(*internal/sync.Mutex).Lock", "internal/race.Disable", "sync/atomic.CompareAndSwapInt32", "internal/race.Enable", "internal/race.Acquire", "(*internal/sync.Mutex).lockSlow", "internal/sync.runtime_canSpin", "internal/sync.runtime_doSpin", "internal/sync.throw", "internal/sync.runtime_nanotime", "internal/sync.runtime_SemacquireMutex", "sync/atomic.AddInt32", "(*internal/sync.Mutex).Unlock", "internal/race.ReleaseMerge", "(*internal/sync.Mutex).unlockSlow", "internal/sync.fatal", "internal/sync.runtime_Semrelease", "sync/atomic.StoreUint32", "sync/atomic.AddInt64", "maps.clone", "sync/atomic.LoadInt64"], unfollowed := true, recurses := true, apart := false, narrowed := true }
def StoreWholeUptoSaid : Prop := storeWholeUptoRow.holds Tryz.pinned (OpenSpec.upto storeWholeSpec)

/-- 'marlaw7.StoreLists', WHERE WHAT IT READS IS OF BULK AT MOST 1048576: true; the input reads as it did. -/
def storeListsUptoRow : OpenClaim := { program := "ytfmlnodhbojdpaagreat", sum := "4705140ce80185c5dc4b8754b0fc7d75d81e26ed8a4fad240068ddb2a66dfda1", func := "marline/marlaw7.StoreLists", spec := "storeLists", inPlace := ["sync/atomic.LoadUint32", "(*internal/sync.Mutex).Lock", "internal/race.Disable", "sync/atomic.CompareAndSwapInt32", "internal/race.Enable", "internal/race.Acquire", "(*internal/sync.Mutex).lockSlow", "internal/sync.runtime_canSpin", "internal/sync.runtime_doSpin", "internal/sync.throw", "internal/sync.runtime_nanotime", "internal/sync.runtime_SemacquireMutex", "sync/atomic.AddInt32", "(*internal/sync.Mutex).Unlock", "internal/race.ReleaseMerge", "(*internal/sync.Mutex).unlockSlow", "internal/sync.fatal", "internal/sync.runtime_Semrelease", "sync/atomic.StoreUint32", "sync/atomic.AddInt64", "maps.clone", "sync/atomic.LoadInt64"], unfollowed := true, recurses := true, apart := false, narrowed := true }
def StoreListsUptoSaid : Prop := storeListsUptoRow.holds Tryz.pinned (OpenSpec.upto storeListsSpec)

end Rows
end Go.Proofs.YtfmlnodhbojdpaaGreat
