/- Texts put together: USw0. -/
import Derived.Test.YtbenkmihkbjgeaaGreatQu01
import Derived.Deep.Slices
import Derived.Deep.Fields
import Derived.ChangeSame
import Derived.SizedLaws
/- Slices of structs, and structs, that came in: what their cells hold, and how great it is. -/
namespace Go.Proofs.YtbenkmihkbjgeaaGreat.Sh
open Go.ChangeShapes Go.WideShapes Go.Deep
end Go.Proofs.YtbenkmihkbjgeaaGreat.Sh
