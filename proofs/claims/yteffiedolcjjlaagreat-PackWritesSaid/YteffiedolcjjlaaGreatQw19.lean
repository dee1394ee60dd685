/- Texts put together: YTn2, YTn4, YTn5, YTn6, YTn7, YTn8, YTn9, YTq1. -/
import Derived.Test.YteffiedolcjjlaaGreatQw12
/- The reference's Path, Split. -/
namespace Go.Proofs.YteffiedolcjjlaaGreat.Tx
open Go.RowKit Go.Proofs.YteffiedolcjjlaaGreat.Sh

def BoolPost (w : World) (t : Bool) (e : Ending) (w' : World) : Prop := e = .returned (.bool t) ∧ Below w.heap.size w w'
end Go.Proofs.YteffiedolcjjlaaGreat.Tx
/- The reference's Join, Under, Parents, Copy. -/
namespace Go.Proofs.YteffiedolcjjlaaGreat.Tx
open Go.RowKit Go.Proofs.YteffiedolcjjlaaGreat.Sh

/-- Is s beneath d? -/
def underB (d s : List UInt8) : Bool := pathB d && pathB s && decide (d.length + 1 < s.length) && (s.take d.length == d) && (s[d.length]? == some 47)
end Go.Proofs.YteffiedolcjjlaaGreat.Tx
/- The reference's Parents, Copy. -/
namespace Go.Proofs.YteffiedolcjjlaaGreat.Tx
open Go.RowKit Go.Proofs.YteffiedolcjjlaaGreat.Sh

/-- What stands ahead of each sign ahead of place k. -/
def parP (s : List UInt8) : Nat → List (List UInt8)
  | 0 => []
  | k + 1 => if s[k]? = some 47 then parP s k ++ [s.take k] else parP s k
def parentsL (s : List UInt8) : List (List UInt8) := if pathB s = true then parP s s.length else []
/-- A copy's name. -/
def copyL (s id : List UInt8) (n : Int) : List UInt8 := s ++ [126] ++ id.take 8 ++ List.replicate (min n 100).toNat 126
end Go.Proofs.YteffiedolcjjlaaGreat.Tx
/- The reference's Join. -/
namespace Go.Proofs.YteffiedolcjjlaaGreat.Tx
open Go.RowKit Go.Proofs.YteffiedolcjjlaaGreat.Sh

def joinOk (l : List (List UInt8)) : Bool := !l.isEmpty && ((splitL 47 (joinL 47 l)).length == l.length) && pathB (joinL 47 l)
def joinT (l : List (List UInt8)) : List UInt8 := if joinOk l = true then joinL 47 l else []
def joinE (l : List (List UInt8)) : Int := if joinOk l = true then 0 else 6
def JoinPost (w : World) (l : List (List UInt8)) (e : Ending) (w' : World) : Prop := e = .returned (.tuple #[.string (str (joinT l)), .int .i64 (joinE l)]) ∧ Below w.heap.size w w'
end Go.Proofs.YteffiedolcjjlaaGreat.Tx
/- The reference's takes. -/

namespace Go.Proofs.YteffiedolcjjlaaGreat.Tx
open Go.RowKit Go.Proofs.YteffiedolcjjlaaGreat.Sh

/-- Does a pattern take a name? -/
def takesB (fr : List UInt8) (star : Bool) (bk s : List UInt8) : Bool := if star = true then decide (fr.length + bk.length ≤ s.length) && (s.take fr.length == fr) && (s.drop (s.length - bk.length) == bk) else s == fr
end Go.Proofs.YteffiedolcjjlaaGreat.Tx
/- The reference's pattern, Pattern. -/
namespace Go.Proofs.YteffiedolcjjlaaGreat.Tx
open Go.RowKit Go.Proofs.YteffiedolcjjlaaGreat.Sh

def patDir (p : List UInt8) : Bool := p.getLast? == some 47
def patCore (p : List UInt8) : List UInt8 := if patDir p = true then p.take (p.length - 1) else p
/-- A pattern's parts: ahead of its star, has it one, behind it, is it of directories. -/
def patL (p : List UInt8) : Option (List UInt8 × Bool × List UInt8 × Bool) :=
  if nameB (patCore p) = true then
    match splitL 42 (patCore p) with
    | [_] => some (patCore p, false, [], patDir p)
    | [a, b] => if a.isEmpty = b.isEmpty then none else some (a, true, b, patDir p)
    | _ => none
  else none
def patV : Option (List UInt8 × Bool × List UInt8 × Bool) → Value
  | none => .tuple #[.string ⟨#[]⟩, .bool false, .string ⟨#[]⟩, .bool false, .bool false]
  | some (a, s, b, d) => .tuple #[.string (str a), .bool s, .string (str b), .bool d, .bool true]
def PatPost (w : World) (p : List UInt8) (e : Ending) (w' : World) : Prop := e = .returned (patV (patL p)) ∧ Below w.heap.size w w'
end Go.Proofs.YteffiedolcjjlaaGreat.Tx
/- The reference's Ignored. -/
namespace Go.Proofs.YteffiedolcjjlaaGreat.Tx
open Go.RowKit Go.Proofs.YteffiedolcjjlaaGreat.Sh

/-- A path's names; none, if it is no path. -/
def namesL (s : List UInt8) : List (List UInt8) := if pathB s = true then splitL 47 s else []
/-- Does a pattern take one of the names ahead of place k? -/
def hitTo (f : List UInt8) (st : Bool) (b : List UInt8) (d : Bool) (l : List (List UInt8)) (k : Nat) : Bool := (List.range k).any fun j => (!d || decide (j + 1 < l.length)) && takesB f st b (l.getD j [])
def hitP (l : List (List UInt8)) (p : List UInt8) : Bool := match patL p with
  | none => false
  | some (f, st, b, d) => hitTo f st b d l l.length
def ignoredB (ps : List (List UInt8)) (s : List UInt8) : Bool := ps.any (hitP (namesL s))
end Go.Proofs.YteffiedolcjjlaaGreat.Tx
/- Names and paths: what follows of their definitions. Plain lists. -/
namespace Go.Proofs.YteffiedolcjjlaaGreat.Tx

/-! Parents. -/
end Go.Proofs.YteffiedolcjjlaaGreat.Tx
