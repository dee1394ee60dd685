/- Texts put together: VGw3. -/
import Derived.Test.YtlkolcokjmlmjaaGreatQv38
namespace Go.Proofs.YtlkolcokjmlmjaaGreat.Wk
open Go.Shelf Go.RowKit Go.Lib Go.Sort
section
variable {P:Program} {α:Type} [Inhabited α] {k:Nat}
end
end Go.Proofs.YtlkolcokjmlmjaaGreat.Wk
