/- ID; the chapter's examples. -/
import Derived.Test.YtcbiajajoojgmaaShW13
namespace Go.Proofs.Ytcbiajajoojgmaa.Sh
open Go.RowKit

theorem sumOf_length (bs : List UInt8) : (sumOf bs).length = 32 := by
  rw [sumOf_eq]; exact outB_length _

set_option maxRecDepth 100000 in
set_option maxHeartbeats 400000 in
/-- sha.ID -/
theorem id_any (v : Value) (bs : List UInt8) (w : World) (h : Sl w v bs) (hn : bs.length < 2 ^ 60) : Calls Try.prog 26 #[v] w (StrPost w (hexL (sumOf bs))) := by
  have H := Lib.hid h
  clear h
  go_enter Try.func26, Try.ntmps26
  go_wp2_with fail
  refine (ssum_sl v bs _ H.out hn).mono ?_
  rintro e w1 ⟨v1, rfl, ho, hb⟩
  have HS := Lib.hid ho.sl
  have HB := Lib.hid hb
  clear ho hb
  go_wp2_with fail
  refine (hex_any v1 (sumOf bs) _ HS.out (by rw [sumOf_length]; omega)).mono ?_
  rintro e w2 ⟨rfl, hb2⟩
  have hz := HB.out.size
  have HB2 := Lib.hid (HB.out.trans (hb2.mono hz))
  clear hb2
  go_wp2_with fail
  go_ret
  exact ⟨rfl, HB2.out⟩

theorem hex_abc : hexL (sumOf [97, 98, 99]) = [98, 97, 55, 56, 49, 54, 98, 102, 56, 102, 48, 49, 99, 102, 101, 97, 52, 49, 52, 49, 52, 48, 100, 101, 53, 100, 97, 101, 50, 50, 50, 51, 98, 48, 48, 51, 54, 49, 97, 51, 57, 54, 49, 55, 55, 97, 57, 99, 98, 52, 49, 48, 102, 102, 54, 49, 102, 50, 48, 48, 49, 53, 97, 100] := by rw [sum_abc]; decide +kernel
theorem hex_nil : hexL (sumOf []) = [101, 51, 98, 48, 99, 52, 52, 50, 57, 56, 102, 99, 49, 99, 49, 52, 57, 97, 102, 98, 102, 52, 99, 56, 57, 57, 54, 102, 98, 57, 50, 52, 50, 55, 97, 101, 52, 49, 101, 52, 54, 52, 57, 98, 57, 51, 52, 99, 97, 52, 57, 53, 57, 57, 49, 98, 55, 56, 53, 50, 98, 56, 53, 53] := by rw [sum_nil]; decide +kernel

set_option maxRecDepth 100000 in
theorem id_abc (v : Value) (w : World) (h : Sl w v [97, 98, 99]) : Calls Try.prog 26 #[v] w fun e w' => e = .returned (.string ⟨#[98, 97, 55, 56, 49, 54, 98, 102, 56, 102, 48, 49, 99, 102, 101, 97, 52, 49, 52, 49, 52, 48, 100, 101, 53, 100, 97, 101, 50, 50, 50, 51, 98, 48, 48, 51, 54, 49, 97, 51, 57, 54, 49, 55, 55, 97, 57, 99, 98, 52, 49, 48, 102, 102, 54, 49, 102, 50, 48, 48, 49, 53, 97, 100]⟩) ∧ Below w.heap.size w w' :=
  (id_any v _ w h (by simp)).mono fun e w' ⟨he, hb⟩ => ⟨by rw [he, hex_abc]; rfl, hb⟩
set_option maxRecDepth 100000 in
theorem id_nil (w : World) : Calls Try.prog 26 #[.slice none 0 0] w fun e w' => e = .returned (.string ⟨#[101, 51, 98, 48, 99, 52, 52, 50, 57, 56, 102, 99, 49, 99, 49, 52, 57, 97, 102, 98, 102, 52, 99, 56, 57, 57, 54, 102, 98, 57, 50, 52, 50, 55, 97, 101, 52, 49, 101, 52, 54, 52, 57, 98, 57, 51, 52, 99, 97, 52, 57, 53, 57, 57, 49, 98, 55, 56, 53, 50, 98, 56, 53, 53]⟩) ∧ Below w.heap.size w w' :=
  (id_any _ _ w (Sl.nil_ w) (by simp)).mono fun e w' ⟨he, hb⟩ => ⟨by rw [he, hex_nil]; rfl, hb⟩
theorem sum_nil_any (w : World) : Calls Try.prog 49 #[.slice none 0 0] w fun e w' => ∃ A c, e = .returned (.slice A 32 c) ∧ Below w.heap.size w w' :=
  (ssum_sl _ _ w (Sl.nil_ w) (by simp)).mono fun e w' ⟨v, he, ho, hb⟩ => by
    obtain ⟨A, c, hv, _⟩ := ho.sl
    rw [sumOf_length] at hv
    exact ⟨A, c, by rw [he, hv], hb⟩

theorem sl_abc (w : World) : Sl (w.alloc (.cells #[.int .u8 97, .int .u8 98, .int .u8 99] 5 (3, 4))) (.slice (some ⟨w.heap.size, 0, none⟩) 3 3) [97, 98, 99] := by
  refine ⟨some ⟨w.heap.size, 0, none⟩, 3, rfl, by simp, by unfold maxLen; omega, fun _ => ⟨_, rfl, by simp, fun j hj => ?_⟩, fun h => by cases h⟩
  rw [Addr.add_mid, cell_of_row _ _ _ _ _ _ (heap_alloc_new w _)]
  have hj3 : j < 3 := by simpa using hj
  obtain rfl | rfl | rfl : j = 0 ∨ j = 1 ∨ j = 2 := by omega
  all_goals (unfold bi; rfl)

end Go.Proofs.Ytcbiajajoojgmaa.Sh
