/- The walks of NamesUnder, NamesPaths, NamesIgnored, whole. -/
import Derived.Test.YtcmlofgkcalhnaaNm2
namespace Go.Proofs.Ytcmlofgkcalhnaa.Tx
open Go.RowKit Go.Proofs.Ytcmlofgkcalhnaa.Sh

end Go.Proofs.Ytcmlofgkcalhnaa.Tx
