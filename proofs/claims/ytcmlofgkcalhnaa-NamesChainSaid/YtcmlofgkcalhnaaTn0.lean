/- marref.Split. -/
import Derived.Test.YtcmlofgkcalhnaaTx0
import Derived.Test.YtcmlofgkcalhnaaTq0
namespace Go.Proofs.Ytcmlofgkcalhnaa.Tx
open Go.RowKit Go.Proofs.Ytcmlofgkcalhnaa.Sh

theorem slice_str (cs : List UInt8) (a b : Nat) : (str cs).extract a b = str ((cs.take b).drop a) := by
  unfold str
  apply ByteArray.ext
  rw [ByteArray.data_extract]
  apply Array.ext'
  rw [Array.toList_extract, List.extract_eq_take_drop, List.drop_take]

end Go.Proofs.Ytcmlofgkcalhnaa.Tx
