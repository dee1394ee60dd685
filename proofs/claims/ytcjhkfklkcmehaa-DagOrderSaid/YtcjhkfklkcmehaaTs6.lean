/- Has, Texts, CopyTexts, Few, flag; appends of texts. -/
import Derived.Test.YtcjhkfklkcmehaaTs5
namespace Go.Proofs.Ytcjhkfklkcmehaa.Tx
open Go.RowKit Go.Proofs.Ytcjhkfklkcmehaa.Sh

end Go.Proofs.Ytcjhkfklkcmehaa.Tx
