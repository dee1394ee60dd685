/- Texts put together: UOpn. -/
import Derived.Test.YtbenkmihkbjgeaaGreatQu31
import Derived.Test.YtbenkmihkbjgeaaGreatQu26
import Derived.OpenShut
import Derived.ShutString
import Derived.ChangeOld
import Derived.WideShapes
/- The laws' operations as they came in. -/
namespace Go.Proofs.YtbenkmihkbjgeaaGreat.Tx
open Go.ChangeShapes Go.WideShapes Go.RowKit Go.Deep Go.Proofs.YtbenkmihkbjgeaaGreat.Sh
def Low (w : World) (k : Nat) : Prop := k < w.heap.size
section
variable {H : Type} {enc : TypeId × Value → H} {w : World} {base n : Nat} {held : Bool} {v : Value} {y : DataW H × List MemPlace}
def EvAt (w : World) (a : Addr) (t : EvM × Value) : Prop := (∀ (r : Nat) (u : Value), (evK.cells t.1 t.2)[r]? = some u → w.cell? (a.add r) = some u) ∧ By (Low w) w t.2 t.1.data ∧ t.1.data.length ≤ 140737488351232
end
end Go.Proofs.YtbenkmihkbjgeaaGreat.Tx
