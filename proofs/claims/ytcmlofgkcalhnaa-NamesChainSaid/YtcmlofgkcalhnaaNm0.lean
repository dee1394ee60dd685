/- Package names: its functions' contracts, over the code that landed at e8801da856. -/
import Derived.Test.YtcmlofgkcalhnaaTn3
import Derived.Test.YtcmlofgkcalhnaaTn5
import Derived.Test.YtcmlofgkcalhnaaTn6
import Derived.Test.YtcmlofgkcalhnaaTn9
import Derived.Test.YtcmlofgkcalhnaaNc3
import Derived.Test.YtcmlofgkcalhnaaNc5
import Derived.Test.YtcmlofgkcalhnaaNc6
namespace Go.Proofs.Ytcmlofgkcalhnaa.Tx
open Go.RowKit Go.Proofs.Ytcmlofgkcalhnaa.Sh

theorem nname_any (cs : List UInt8) (w : World) (hn : cs.length ≤ 1000000) : Calls Try.prog 31 #[.string (str cs)] w (BoolPost w (nameB cs)) :=
  (cname_any cs w hn).mono fun _ _ ⟨he, hw⟩ => ⟨he, by rw [hw]; exact Below.refl _ _⟩
end Go.Proofs.Ytcmlofgkcalhnaa.Tx
