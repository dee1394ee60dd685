/- Package names: its functions' contracts, over the code that landed at e8801da856. -/
import Derived.Test.YtpbmdeohccdiaaaTn3
import Derived.Test.YtpbmdeohccdiaaaTn5
import Derived.Test.YtpbmdeohccdiaaaTn6
import Derived.Test.YtpbmdeohccdiaaaTn9
import Derived.Test.YtpbmdeohccdiaaaNc3
import Derived.Test.YtpbmdeohccdiaaaNc5
import Derived.Test.YtpbmdeohccdiaaaNc6
namespace Go.Proofs.Ytpbmdeohccdiaaa.Tx
open Go.RowKit Go.Proofs.Ytpbmdeohccdiaaa.Sh

theorem nname_any (cs : List UInt8) (w : World) (hn : cs.length ≤ 1000000) : Calls Try.prog 14 #[.string (str cs)] w (BoolPost w (nameB cs)) :=
  (cname_any cs w hn).mono fun _ _ ⟨he, hw⟩ => ⟨he, by rw [hw]; exact Below.refl _ _⟩
end Go.Proofs.Ytpbmdeohccdiaaa.Tx
