/- The reference's ID. -/
import Derived.Test.YtepgbpfnamaooaaShR4
namespace Go.Proofs.Ytepgbpfnamaooaa.Sh
open Go.RowKit

set_option maxHeartbeats 400000 in
theorem rid_any (v : Value) (bs : List UInt8) (w : World) (h : Sl w v bs) (hn : bs.length ≤ 140737488351232) : Calls Try.prog 12 #[v] w (StrPost w (hexL (sumOf bs))) := by
  have H := Lib.hid h
  clear h
  go_enter Try.func12, Try.ntmps12
  go_wp2_with fail
  refine (rsum_any v bs _ H.out hn).mono ?_
  rintro e w1 ⟨v1, rfl, ho, hb⟩
  have HS := Lib.hid ho.sl
  have HB := Lib.hid hb
  clear ho hb
  go_wp2_with fail
  refine (rhex_any v1 (sumOf bs) _ HS.out (by rw [sumOf_length]; omega)).mono ?_
  rintro e w2 ⟨rfl, hb2⟩
  have hz := HB.out.size
  have HB2 := Lib.hid (HB.out.trans (hb2.mono hz))
  clear hb2
  go_wp2_with fail
  go_ret
  exact ⟨rfl, HB2.out⟩
end Go.Proofs.Ytepgbpfnamaooaa.Sh
