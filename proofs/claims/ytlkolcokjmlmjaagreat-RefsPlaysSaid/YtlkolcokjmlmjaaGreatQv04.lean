/- Texts put together: VFm0. -/
import Derived.Test.YtlkolcokjmlmjaaGreatQv03
namespace Go.Proofs.YtlkolcokjmlmjaaGreat.Tx
structure FileM where
 mode:Int
 data:List UInt8
 time:Int
structure RowM where
 path:List UInt8
 f:FileM
structure OpM where
 kind:Int
 fr:List UInt8
 to:List UInt8
 f:FileM
structure EvM where
 at_:Int
 kind:Int
 mode:Int
 keep:Int
 torn:Int
 path:List UInt8
 data:List UInt8
structure FSM where
 room:Int
 now:List RowM
 sure:List RowM
 pending:List OpM
 plan:List EvM
 calls:Int
 time:Int
 down:Bool
 user:List EvM
def findM (l:List RowM) (p:List UInt8):Option Nat:=l.findIdx? fun r=>r.path==p
def withoutM (l:List RowM) (p:List UInt8):List RowM:=l.filter fun r=>!(r.path==p)
def headM (l:List RowM) (p:List UInt8):Nat:=(l.takeWhile fun r=>bl r.path p).length
def withM (l:List RowM) (p:List UInt8) (f:FileM):List RowM :=
 let m:=withoutM l p
 m.take (headM m p)++[⟨p,f⟩]++m.drop (headM m p)
def mayM (l:List RowM) (p:List UInt8):Bool:=l.all fun r=>!(underB p r.path||underB r.path p)
def usedM (l:List RowM):Nat:=(l.map fun r=>r.f.data.length).sum
def applyM (l:List RowM) (o:OpM):List RowM :=
 if o.kind=1 then withM l o.to o.f
 else if o.kind=2 then
  match findM l o.fr with
  | none=>l
  | some i=>match l[i]? with
   | none=>l
   | some r=>withM (withoutM l o.fr) o.to r.f
 else withoutM l o.fr
end Go.Proofs.YtlkolcokjmlmjaaGreat.Tx
