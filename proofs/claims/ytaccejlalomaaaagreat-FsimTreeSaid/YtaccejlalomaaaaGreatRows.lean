/-
  No cell of these rows narrows 'for every input' (looked for: loops, veiled, ifaces, maps, wideKeys, modest, calm, conditions, laid).
  DERIVED. THE GIVEN ROWS OF THIS SEAT. 10 by the template 'for every input the law returns true; each argument reads behind the call as it read before'; 0 by the template 'total and deterministic' (their statements: YtaccejlalomaaaaGreatTotals.lean).
  GIVEN WITH THE SEED: the statements are not yours to turn. If you find one false, say at which input.
  Laid BY PROGRAM, IN A SANDBOX (cutbox-rows.mjs): the forced cells as the released guide's own fill.sh prints them over the translation a0189aea2014529a… (all of the seat's roots in one cut). By AI agents, Wed Nov 11 2026. No macro, syntax, notation, axiom, sorry.
-/
import Derived.Test.YtaccejlalomaaaaGreatChecked
import GoSem.Claim
import GoSem.ClaimJoined
import GoSem.ClaimMapViews
import Derived.JoinedTies
import Derived.KernelRfl
namespace Go.Proofs.YtaccejlalomaaaaGreat
/- THE CELL 'sum', in the pinned program and in every row, IS THE sha256 OF THE DUMP (.gsa) THAT YtaccejlalomaaaaGreatProg.lean LOADS. Nothing in Lean hashes anything: it is a label: what it is worth is what the hold of that sum in a sandbox is worth. -/
noncomputable def Tryz.pinned : Pinned := { name := "ytaccejlalomaaaagreat", sum := "a0189aea2014529a4e0ed2ecde38b480d00f1928df7f0d207478e0e0e5ab1240", checked := Tryz.checked }
namespace Rows
def none {H : Type} : Left H := { results := [], args := [] }

/-- 'marlaw5.FsimPlays': WHATEVER THE INPUT: true; the input reads as it did. -/
def fsimPlaysSpec : ChangeSpec := { name := "fsimPlays", fn := fun _ => fun
  | [d1, d2] => { results := [.lit (.bool true)], args := [d1, d2] }
  | _ => none }
def fsimPlaysRow : OpenClaim := { program := "ytaccejlalomaaaagreat", sum := "a0189aea2014529a4e0ed2ecde38b480d00f1928df7f0d207478e0e0e5ab1240", func := "marline/marlaw5.FsimPlays", spec := "fsimPlays", inPlace := ["sync/atomic.AddInt64", "maps.clone", "sync/atomic.LoadInt64", "sync/atomic.StoreInt64"], unfollowed := true, recurses := true, apart := false }
def FsimPlaysSaid : Prop := fsimPlaysRow.holds Tryz.pinned (OpenSpec.ofChange fsimPlaysSpec)

/-- ITS FALSE NEIGHBOUR: 'it returns false'. Refute it at one input. -/
def fsimPlaysWrong : ChangeSpec := { name := "fsimPlays", fn := fun _ => fun
  | [d1, d2] => { results := [.lit (.bool false)], args := [d1, d2] }
  | _ => none }
def FsimPlaysWrongFalsely : Prop := fsimPlaysRow.holds Tryz.pinned (OpenSpec.ofChange fsimPlaysWrong)

/-- 'marlaw5.FsimTree': WHATEVER THE INPUT: true; the input reads as it did. -/
def fsimTreeSpec : ChangeSpec := { name := "fsimTree", fn := fun _ => fun
  | [d1, d2] => { results := [.lit (.bool true)], args := [d1, d2] }
  | _ => none }
def fsimTreeRow : OpenClaim := { program := "ytaccejlalomaaaagreat", sum := "a0189aea2014529a4e0ed2ecde38b480d00f1928df7f0d207478e0e0e5ab1240", func := "marline/marlaw5.FsimTree", spec := "fsimTree", inPlace := ["sync/atomic.AddInt64", "maps.clone", "sync/atomic.LoadInt64"], unfollowed := true, recurses := true, apart := false }
def FsimTreeSaid : Prop := fsimTreeRow.holds Tryz.pinned (OpenSpec.ofChange fsimTreeSpec)

/-- ITS FALSE NEIGHBOUR: 'it returns false'. Refute it at one input. -/
def fsimTreeWrong : ChangeSpec := { name := "fsimTree", fn := fun _ => fun
  | [d1, d2] => { results := [.lit (.bool false)], args := [d1, d2] }
  | _ => none }
def FsimTreeWrongFalsely : Prop := fsimTreeRow.holds Tryz.pinned (OpenSpec.ofChange fsimTreeWrong)

/-- 'marlaw5.FsimSafe': WHATEVER THE INPUT: true; the input reads as it did. -/
def fsimSafeSpec : ChangeSpec := { name := "fsimSafe", fn := fun _ => fun
  | [d1, d2, d3, d4, d5] => { results := [.lit (.bool true)], args := [d1, d2, d3, d4, d5] }
  | _ => none }
def fsimSafeRow : OpenClaim := { program := "ytaccejlalomaaaagreat", sum := "a0189aea2014529a4e0ed2ecde38b480d00f1928df7f0d207478e0e0e5ab1240", func := "marline/marlaw5.FsimSafe", spec := "fsimSafe", inPlace := ["sync/atomic.AddInt64", "maps.clone", "sync/atomic.LoadInt64", "sync/atomic.StoreInt64"], unfollowed := true, recurses := true, apart := false }
def FsimSafeSaid : Prop := fsimSafeRow.holds Tryz.pinned (OpenSpec.ofChange fsimSafeSpec)

/-- ITS FALSE NEIGHBOUR: 'it returns false'. Refute it at one input. -/
def fsimSafeWrong : ChangeSpec := { name := "fsimSafe", fn := fun _ => fun
  | [d1, d2, d3, d4, d5] => { results := [.lit (.bool false)], args := [d1, d2, d3, d4, d5] }
  | _ => none }
def FsimSafeWrongFalsely : Prop := fsimSafeRow.holds Tryz.pinned (OpenSpec.ofChange fsimSafeWrong)

/-- 'marlaw5.FsimKeeps': WHATEVER THE INPUT: true; the input reads as it did. -/
def fsimKeepsSpec : ChangeSpec := { name := "fsimKeeps", fn := fun _ => fun
  | [d1, d2, d3, d4, d5] => { results := [.lit (.bool true)], args := [d1, d2, d3, d4, d5] }
  | _ => none }
def fsimKeepsRow : OpenClaim := { program := "ytaccejlalomaaaagreat", sum := "a0189aea2014529a4e0ed2ecde38b480d00f1928df7f0d207478e0e0e5ab1240", func := "marline/marlaw5.FsimKeeps", spec := "fsimKeeps", inPlace := ["sync/atomic.AddInt64", "maps.clone", "sync/atomic.LoadInt64", "sync/atomic.StoreInt64"], unfollowed := true, recurses := true, apart := false }
def FsimKeepsSaid : Prop := fsimKeepsRow.holds Tryz.pinned (OpenSpec.ofChange fsimKeepsSpec)

/-- ITS FALSE NEIGHBOUR: 'it returns false'. Refute it at one input. -/
def fsimKeepsWrong : ChangeSpec := { name := "fsimKeeps", fn := fun _ => fun
  | [d1, d2, d3, d4, d5] => { results := [.lit (.bool false)], args := [d1, d2, d3, d4, d5] }
  | _ => none }
def FsimKeepsWrongFalsely : Prop := fsimKeepsRow.holds Tryz.pinned (OpenSpec.ofChange fsimKeepsWrong)

/-- 'marlaw5.FsimMoves': WHATEVER THE INPUT: true; the input reads as it did. -/
def fsimMovesSpec : ChangeSpec := { name := "fsimMoves", fn := fun _ => fun
  | [d1, d2, d3, d4, d5] => { results := [.lit (.bool true)], args := [d1, d2, d3, d4, d5] }
  | _ => none }
def fsimMovesRow : OpenClaim := { program := "ytaccejlalomaaaagreat", sum := "a0189aea2014529a4e0ed2ecde38b480d00f1928df7f0d207478e0e0e5ab1240", func := "marline/marlaw5.FsimMoves", spec := "fsimMoves", inPlace := ["sync/atomic.AddInt64", "maps.clone", "sync/atomic.LoadInt64", "sync/atomic.StoreInt64"], unfollowed := true, recurses := true, apart := false }
def FsimMovesSaid : Prop := fsimMovesRow.holds Tryz.pinned (OpenSpec.ofChange fsimMovesSpec)

/-- ITS FALSE NEIGHBOUR: 'it returns false'. Refute it at one input. -/
def fsimMovesWrong : ChangeSpec := { name := "fsimMoves", fn := fun _ => fun
  | [d1, d2, d3, d4, d5] => { results := [.lit (.bool false)], args := [d1, d2, d3, d4, d5] }
  | _ => none }
def FsimMovesWrongFalsely : Prop := fsimMovesRow.holds Tryz.pinned (OpenSpec.ofChange fsimMovesWrong)

/-- 'marlaw5.FsimFails': WHATEVER THE INPUT: true; the input reads as it did. -/
def fsimFailsSpec : ChangeSpec := { name := "fsimFails", fn := fun _ => fun
  | [d1, d2, d3, d4, d5] => { results := [.lit (.bool true)], args := [d1, d2, d3, d4, d5] }
  | _ => none }
def fsimFailsRow : OpenClaim := { program := "ytaccejlalomaaaagreat", sum := "a0189aea2014529a4e0ed2ecde38b480d00f1928df7f0d207478e0e0e5ab1240", func := "marline/marlaw5.FsimFails", spec := "fsimFails", inPlace := ["sync/atomic.AddInt64", "maps.clone", "sync/atomic.LoadInt64", "sync/atomic.StoreInt64"], unfollowed := true, recurses := true, apart := false }
def FsimFailsSaid : Prop := fsimFailsRow.holds Tryz.pinned (OpenSpec.ofChange fsimFailsSpec)

/-- ITS FALSE NEIGHBOUR: 'it returns false'. Refute it at one input. -/
def fsimFailsWrong : ChangeSpec := { name := "fsimFails", fn := fun _ => fun
  | [d1, d2, d3, d4, d5] => { results := [.lit (.bool false)], args := [d1, d2, d3, d4, d5] }
  | _ => none }
def FsimFailsWrongFalsely : Prop := fsimFailsRow.holds Tryz.pinned (OpenSpec.ofChange fsimFailsWrong)

/-- 'marlaw8.RefsPlays': WHATEVER THE INPUT: true; the input reads as it did. -/
def refsPlaysSpec : ChangeSpec := { name := "refsPlays", fn := fun _ => fun
  | [d1, d2] => { results := [.lit (.bool true)], args := [d1, d2] }
  | _ => none }
def refsPlaysRow : OpenClaim := { program := "ytaccejlalomaaaagreat", sum := "a0189aea2014529a4e0ed2ecde38b480d00f1928df7f0d207478e0e0e5ab1240", func := "marline/marlaw8.RefsPlays", spec := "refsPlays", inPlace := ["sync/atomic.LoadUint32", "(*internal/sync.Mutex).Lock", "internal/race.Disable", "sync/atomic.CompareAndSwapInt32", "internal/race.Enable", "internal/race.Acquire", "(*internal/sync.Mutex).lockSlow", "internal/sync.runtime_canSpin", "internal/sync.runtime_doSpin", "internal/sync.throw", "internal/sync.runtime_nanotime", "internal/sync.runtime_SemacquireMutex", "sync/atomic.AddInt32", "(*internal/sync.Mutex).Unlock", "internal/race.ReleaseMerge", "(*internal/sync.Mutex).unlockSlow", "internal/sync.fatal", "internal/sync.runtime_Semrelease", "sync/atomic.StoreUint32", "sync/atomic.AddInt64", "maps.clone", "sync/atomic.LoadInt64"], unfollowed := true, recurses := true, apart := false }
def RefsPlaysSaid : Prop := refsPlaysRow.holds Tryz.pinned (OpenSpec.ofChange refsPlaysSpec)

/-- ITS FALSE NEIGHBOUR: 'it returns false'. Refute it at one input. -/
def refsPlaysWrong : ChangeSpec := { name := "refsPlays", fn := fun _ => fun
  | [d1, d2] => { results := [.lit (.bool false)], args := [d1, d2] }
  | _ => none }
def RefsPlaysWrongFalsely : Prop := refsPlaysRow.holds Tryz.pinned (OpenSpec.ofChange refsPlaysWrong)

/-- 'marlaw8.RefsEither': WHATEVER THE INPUT: true; the input reads as it did. -/
def refsEitherSpec : ChangeSpec := { name := "refsEither", fn := fun _ => fun
  | [d1, d2, d3, d4, d5, d6] => { results := [.lit (.bool true)], args := [d1, d2, d3, d4, d5, d6] }
  | _ => none }
def refsEitherRow : OpenClaim := { program := "ytaccejlalomaaaagreat", sum := "a0189aea2014529a4e0ed2ecde38b480d00f1928df7f0d207478e0e0e5ab1240", func := "marline/marlaw8.RefsEither", spec := "refsEither", inPlace := ["sync/atomic.LoadUint32", "(*internal/sync.Mutex).Lock", "internal/race.Disable", "sync/atomic.CompareAndSwapInt32", "internal/race.Enable", "internal/race.Acquire", "(*internal/sync.Mutex).lockSlow", "internal/sync.runtime_canSpin", "internal/sync.runtime_doSpin", "internal/sync.throw", "internal/sync.runtime_nanotime", "internal/sync.runtime_SemacquireMutex", "sync/atomic.AddInt32", "(*internal/sync.Mutex).Unlock", "internal/race.ReleaseMerge", "(*internal/sync.Mutex).unlockSlow", "internal/sync.fatal", "internal/sync.runtime_Semrelease", "sync/atomic.StoreUint32", "sync/atomic.AddInt64", "maps.clone", "sync/atomic.LoadInt64"], unfollowed := true, recurses := true, apart := false }
def RefsEitherSaid : Prop := refsEitherRow.holds Tryz.pinned (OpenSpec.ofChange refsEitherSpec)

/-- ITS FALSE NEIGHBOUR: 'it returns false'. Refute it at one input. -/
def refsEitherWrong : ChangeSpec := { name := "refsEither", fn := fun _ => fun
  | [d1, d2, d3, d4, d5, d6] => { results := [.lit (.bool false)], args := [d1, d2, d3, d4, d5, d6] }
  | _ => none }
def RefsEitherWrongFalsely : Prop := refsEitherRow.holds Tryz.pinned (OpenSpec.ofChange refsEitherWrong)

/-- 'marlaw8.RefsExpect': WHATEVER THE INPUT: true; the input reads as it did. -/
def refsExpectSpec : ChangeSpec := { name := "refsExpect", fn := fun _ => fun
  | [d] => { results := [.lit (.bool true)], args := [d] }
  | _ => none }
def refsExpectRow : OpenClaim := { program := "ytaccejlalomaaaagreat", sum := "a0189aea2014529a4e0ed2ecde38b480d00f1928df7f0d207478e0e0e5ab1240", func := "marline/marlaw8.RefsExpect", spec := "refsExpect", inPlace := ["sync/atomic.LoadUint32", "(*internal/sync.Mutex).Lock", "internal/race.Disable", "sync/atomic.CompareAndSwapInt32", "internal/race.Enable", "internal/race.Acquire", "(*internal/sync.Mutex).lockSlow", "internal/sync.runtime_canSpin", "internal/sync.runtime_doSpin", "internal/sync.throw", "internal/sync.runtime_nanotime", "internal/sync.runtime_SemacquireMutex", "sync/atomic.AddInt32", "(*internal/sync.Mutex).Unlock", "internal/race.ReleaseMerge", "(*internal/sync.Mutex).unlockSlow", "internal/sync.fatal", "internal/sync.runtime_Semrelease", "sync/atomic.StoreUint32", "sync/atomic.AddInt64", "maps.clone", "sync/atomic.LoadInt64"], unfollowed := true, recurses := true, apart := false }
def RefsExpectSaid : Prop := refsExpectRow.holds Tryz.pinned (OpenSpec.ofChange refsExpectSpec)

/-- ITS FALSE NEIGHBOUR: 'it returns false'. Refute it at one input. -/
def refsExpectWrong : ChangeSpec := { name := "refsExpect", fn := fun _ => fun
  | [d] => { results := [.lit (.bool false)], args := [d] }
  | _ => none }
def RefsExpectWrongFalsely : Prop := refsExpectRow.holds Tryz.pinned (OpenSpec.ofChange refsExpectWrong)

/-- 'marlaw8.RefsApart': WHATEVER THE INPUT: true; the input reads as it did. -/
def refsApartSpec : ChangeSpec := { name := "refsApart", fn := fun _ => fun
  | [d1, d2] => { results := [.lit (.bool true)], args := [d1, d2] }
  | _ => none }
def refsApartRow : OpenClaim := { program := "ytaccejlalomaaaagreat", sum := "a0189aea2014529a4e0ed2ecde38b480d00f1928df7f0d207478e0e0e5ab1240", func := "marline/marlaw8.RefsApart", spec := "refsApart", inPlace := ["sync/atomic.LoadUint32", "(*internal/sync.Mutex).Lock", "internal/race.Disable", "sync/atomic.CompareAndSwapInt32", "internal/race.Enable", "internal/race.Acquire", "(*internal/sync.Mutex).lockSlow", "internal/sync.runtime_canSpin", "internal/sync.runtime_doSpin", "internal/sync.throw", "internal/sync.runtime_nanotime", "internal/sync.runtime_SemacquireMutex", "sync/atomic.AddInt32", "(*internal/sync.Mutex).Unlock", "internal/race.ReleaseMerge", "(*internal/sync.Mutex).unlockSlow", "internal/sync.fatal", "internal/sync.runtime_Semrelease", "sync/atomic.StoreUint32", "sync/atomic.AddInt64", "maps.clone", "sync/atomic.LoadInt64"], unfollowed := true, recurses := true, apart := false }
def RefsApartSaid : Prop := refsApartRow.holds Tryz.pinned (OpenSpec.ofChange refsApartSpec)

/-- ITS FALSE NEIGHBOUR: 'it returns false'. Refute it at one input. -/
def refsApartWrong : ChangeSpec := { name := "refsApart", fn := fun _ => fun
  | [d1, d2] => { results := [.lit (.bool false)], args := [d1, d2] }
  | _ => none }
def RefsApartWrongFalsely : Prop := refsApartRow.holds Tryz.pinned (OpenSpec.ofChange refsApartWrong)

/- THE SECOND FORM. 'bulk': how many values and letters a reading holds, each counted each time it is reached (what is shared counts as often as it is met; a slice's spare places count too). A statement '..UptoSaid' is the law's where the arguments, and the package variables that the reading takes, are together of bulk at most 1048576: NARROWER than '..Said'. Prove '..Said' where nothing that the law and all that it calls make is longer than what came in: it says more and counts as full. Else prove '..UptoSaid'. A law counts once. -/
mutual
def uptoBulk {H : Type} : DataW H → Nat
  | .lit (.string bytes) => bytes.length + 1
  | .lit _ => 1
  | .nil => 1
  | .ptr d => uptoBulk d + 1
  | .slice elems spare => uptoBulkAll elems + uptoBulkAll spare + 1
  | .agg parts => uptoBulkAll parts + 1
  | .iface _ d => uptoBulk d + 1
  | .map entries => uptoBulkEntries entries + 1
  | .held _ => 1
def uptoBulkAll {H : Type} : List (DataW H) → Nat
  | [] => 0
  | d :: r => uptoBulk d + uptoBulkAll r
def uptoBulkEntries {H : Type} : List (Lit × DataW H) → Nat
  | [] => 0
  | x :: r => uptoBulkEntry x + uptoBulkEntries r
def uptoBulkEntry {H : Type} : Lit × DataW H → Nat
  | (.string bytes, d) => bytes.length + uptoBulk d + 1
  | (_, d) => uptoBulk d + 1
 end
def uptoSmall : (H : Type) → List (DataW H) → Bool := fun _ ds => decide (uptoBulkAll ds ≤ 1048576)
def OpenSpec.upto (s : _root_.Go.ChangeSpec) : _root_.Go.OpenSpec := { _root_.Go.OpenSpec.ofChange s with cond := some uptoSmall }

/-- 'marlaw5.FsimPlays', WHERE WHAT IT READS IS OF BULK AT MOST 1048576: true; the input reads as it did. -/
def fsimPlaysUptoRow : OpenClaim := { program := "ytaccejlalomaaaagreat", sum := "a0189aea2014529a4e0ed2ecde38b480d00f1928df7f0d207478e0e0e5ab1240", func := "marline/marlaw5.FsimPlays", spec := "fsimPlays", inPlace := ["sync/atomic.AddInt64", "maps.clone", "sync/atomic.LoadInt64", "sync/atomic.StoreInt64"], unfollowed := true, recurses := true, apart := false, narrowed := true }
def FsimPlaysUptoSaid : Prop := fsimPlaysUptoRow.holds Tryz.pinned (OpenSpec.upto fsimPlaysSpec)

/-- 'marlaw5.FsimTree', WHERE WHAT IT READS IS OF BULK AT MOST 1048576: true; the input reads as it did. -/
def fsimTreeUptoRow : OpenClaim := { program := "ytaccejlalomaaaagreat", sum := "a0189aea2014529a4e0ed2ecde38b480d00f1928df7f0d207478e0e0e5ab1240", func := "marline/marlaw5.FsimTree", spec := "fsimTree", inPlace := ["sync/atomic.AddInt64", "maps.clone", "sync/atomic.LoadInt64"], unfollowed := true, recurses := true, apart := false, narrowed := true }
def FsimTreeUptoSaid : Prop := fsimTreeUptoRow.holds Tryz.pinned (OpenSpec.upto fsimTreeSpec)

/-- 'marlaw5.FsimSafe', WHERE WHAT IT READS IS OF BULK AT MOST 1048576: true; the input reads as it did. -/
def fsimSafeUptoRow : OpenClaim := { program := "ytaccejlalomaaaagreat", sum := "a0189aea2014529a4e0ed2ecde38b480d00f1928df7f0d207478e0e0e5ab1240", func := "marline/marlaw5.FsimSafe", spec := "fsimSafe", inPlace := ["sync/atomic.AddInt64", "maps.clone", "sync/atomic.LoadInt64", "sync/atomic.StoreInt64"], unfollowed := true, recurses := true, apart := false, narrowed := true }
def FsimSafeUptoSaid : Prop := fsimSafeUptoRow.holds Tryz.pinned (OpenSpec.upto fsimSafeSpec)

/-- 'marlaw5.FsimKeeps', WHERE WHAT IT READS IS OF BULK AT MOST 1048576: true; the input reads as it did. -/
def fsimKeepsUptoRow : OpenClaim := { program := "ytaccejlalomaaaagreat", sum := "a0189aea2014529a4e0ed2ecde38b480d00f1928df7f0d207478e0e0e5ab1240", func := "marline/marlaw5.FsimKeeps", spec := "fsimKeeps", inPlace := ["sync/atomic.AddInt64", "maps.clone", "sync/atomic.LoadInt64", "sync/atomic.StoreInt64"], unfollowed := true, recurses := true, apart := false, narrowed := true }
def FsimKeepsUptoSaid : Prop := fsimKeepsUptoRow.holds Tryz.pinned (OpenSpec.upto fsimKeepsSpec)

/-- 'marlaw5.FsimMoves', WHERE WHAT IT READS IS OF BULK AT MOST 1048576: true; the input reads as it did. -/
def fsimMovesUptoRow : OpenClaim := { program := "ytaccejlalomaaaagreat", sum := "a0189aea2014529a4e0ed2ecde38b480d00f1928df7f0d207478e0e0e5ab1240", func := "marline/marlaw5.FsimMoves", spec := "fsimMoves", inPlace := ["sync/atomic.AddInt64", "maps.clone", "sync/atomic.LoadInt64", "sync/atomic.StoreInt64"], unfollowed := true, recurses := true, apart := false, narrowed := true }
def FsimMovesUptoSaid : Prop := fsimMovesUptoRow.holds Tryz.pinned (OpenSpec.upto fsimMovesSpec)

/-- 'marlaw5.FsimFails', WHERE WHAT IT READS IS OF BULK AT MOST 1048576: true; the input reads as it did. -/
def fsimFailsUptoRow : OpenClaim := { program := "ytaccejlalomaaaagreat", sum := "a0189aea2014529a4e0ed2ecde38b480d00f1928df7f0d207478e0e0e5ab1240", func := "marline/marlaw5.FsimFails", spec := "fsimFails", inPlace := ["sync/atomic.AddInt64", "maps.clone", "sync/atomic.LoadInt64", "sync/atomic.StoreInt64"], unfollowed := true, recurses := true, apart := false, narrowed := true }
def FsimFailsUptoSaid : Prop := fsimFailsUptoRow.holds Tryz.pinned (OpenSpec.upto fsimFailsSpec)

/-- 'marlaw8.RefsPlays', WHERE WHAT IT READS IS OF BULK AT MOST 1048576: true; the input reads as it did. -/
def refsPlaysUptoRow : OpenClaim := { program := "ytaccejlalomaaaagreat", sum := "a0189aea2014529a4e0ed2ecde38b480d00f1928df7f0d207478e0e0e5ab1240", func := "marline/marlaw8.RefsPlays", spec := "refsPlays", inPlace := ["sync/atomic.LoadUint32", "(*internal/sync.Mutex).Lock", "internal/race.Disable", "sync/atomic.CompareAndSwapInt32", "internal/race.Enable", "internal/race.Acquire", "(*internal/sync.Mutex).lockSlow", "internal/sync.runtime_canSpin", "internal/sync.runtime_doSpin", "internal/sync.throw", "internal/sync.runtime_nanotime", "internal/sync.runtime_SemacquireMutex", "sync/atomic.AddInt32", "(*internal/sync.Mutex).Unlock", "internal/race.ReleaseMerge", "(*internal/sync.Mutex).unlockSlow", "internal/sync.fatal", "internal/sync.runtime_Semrelease", "sync/atomic.StoreUint32", "sync/atomic.AddInt64", "maps.clone", "sync/atomic.LoadInt64"], unfollowed := true, recurses := true, apart := false, narrowed := true }
def RefsPlaysUptoSaid : Prop := refsPlaysUptoRow.holds Tryz.pinned (OpenSpec.upto refsPlaysSpec)

/-- 'marlaw8.RefsEither', WHERE WHAT IT READS IS OF BULK AT MOST 1048576: true; the input reads as it did. -/
def refsEitherUptoRow : OpenClaim := { program := "ytaccejlalomaaaagreat", sum := "a0189aea2014529a4e0ed2ecde38b480d00f1928df7f0d207478e0e0e5ab1240", func := "marline/marlaw8.RefsEither", spec := "refsEither", inPlace := ["sync/atomic.LoadUint32", "(*internal/sync.Mutex).Lock", "internal/race.Disable", "sync/atomic.CompareAndSwapInt32", "internal/race.Enable", "internal/race.Acquire", "(*internal/sync.Mutex).lockSlow", "internal/sync.runtime_canSpin", "internal/sync.runtime_doSpin", "internal/sync.throw", "internal/sync.runtime_nanotime", "internal/sync.runtime_SemacquireMutex", "sync/atomic.AddInt32", "(*internal/sync.Mutex).Unlock", "internal/race.ReleaseMerge", "(*internal/sync.Mutex).unlockSlow", "internal/sync.fatal", "internal/sync.runtime_Semrelease", "sync/atomic.StoreUint32", "sync/atomic.AddInt64", "maps.clone", "sync/atomic.LoadInt64"], unfollowed := true, recurses := true, apart := false, narrowed := true }
def RefsEitherUptoSaid : Prop := refsEitherUptoRow.holds Tryz.pinned (OpenSpec.upto refsEitherSpec)

/-- 'marlaw8.RefsExpect', WHERE WHAT IT READS IS OF BULK AT MOST 1048576: true; the input reads as it did. -/
def refsExpectUptoRow : OpenClaim := { program := "ytaccejlalomaaaagreat", sum := "a0189aea2014529a4e0ed2ecde38b480d00f1928df7f0d207478e0e0e5ab1240", func := "marline/marlaw8.RefsExpect", spec := "refsExpect", inPlace := ["sync/atomic.LoadUint32", "(*internal/sync.Mutex).Lock", "internal/race.Disable", "sync/atomic.CompareAndSwapInt32", "internal/race.Enable", "internal/race.Acquire", "(*internal/sync.Mutex).lockSlow", "internal/sync.runtime_canSpin", "internal/sync.runtime_doSpin", "internal/sync.throw", "internal/sync.runtime_nanotime", "internal/sync.runtime_SemacquireMutex", "sync/atomic.AddInt32", "(*internal/sync.Mutex).Unlock", "internal/race.ReleaseMerge", "(*internal/sync.Mutex).unlockSlow", "internal/sync.fatal", "internal/sync.runtime_Semrelease", "sync/atomic.StoreUint32", "sync/atomic.AddInt64", "maps.clone", "sync/atomic.LoadInt64"], unfollowed := true, recurses := true, apart := false, narrowed := true }
def RefsExpectUptoSaid : Prop := refsExpectUptoRow.holds Tryz.pinned (OpenSpec.upto refsExpectSpec)

/-- 'marlaw8.RefsApart', WHERE WHAT IT READS IS OF BULK AT MOST 1048576: true; the input reads as it did. -/
def refsApartUptoRow : OpenClaim := { program := "ytaccejlalomaaaagreat", sum := "a0189aea2014529a4e0ed2ecde38b480d00f1928df7f0d207478e0e0e5ab1240", func := "marline/marlaw8.RefsApart", spec := "refsApart", inPlace := ["sync/atomic.LoadUint32", "(*internal/sync.Mutex).Lock", "internal/race.Disable", "sync/atomic.CompareAndSwapInt32", "internal/race.Enable", "internal/race.Acquire", "(*internal/sync.Mutex).lockSlow", "internal/sync.runtime_canSpin", "internal/sync.runtime_doSpin", "internal/sync.throw", "internal/sync.runtime_nanotime", "internal/sync.runtime_SemacquireMutex", "sync/atomic.AddInt32", "(*internal/sync.Mutex).Unlock", "internal/race.ReleaseMerge", "(*internal/sync.Mutex).unlockSlow", "internal/sync.fatal", "internal/sync.runtime_Semrelease", "sync/atomic.StoreUint32", "sync/atomic.AddInt64", "maps.clone", "sync/atomic.LoadInt64"], unfollowed := true, recurses := true, apart := false, narrowed := true }
def RefsApartUptoSaid : Prop := refsApartUptoRow.holds Tryz.pinned (OpenSpec.upto refsApartSpec)

end Rows
end Go.Proofs.YtaccejlalomaaaaGreat
