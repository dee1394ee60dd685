/- marref.Split. -/
import Derived.Test.YtcbiajajoojgmaaTx0
import Derived.Test.YtcbiajajoojgmaaTq0
namespace Go.Proofs.Ytcbiajajoojgmaa.Tx
open Go.RowKit Go.Proofs.Ytcbiajajoojgmaa.Sh

theorem slice_str (cs : List UInt8) (a b : Nat) : (str cs).extract a b = str ((cs.take b).drop a) := by
  unfold str
  apply ByteArray.ext
  rw [ByteArray.data_extract]
  apply Array.ext'
  rw [Array.toList_extract, List.extract_eq_take_drop, List.drop_take]

end Go.Proofs.Ytcbiajajoojgmaa.Tx
