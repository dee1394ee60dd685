/- first. -/
import Derived.Test.YthopfbkkjfnhkaaW7
import Derived.Test.YthopfbkkjfnhkaaW4
import Derived.Test.YthopfbkkjfnhkaaW8
namespace Go.Proofs.Ythopfbkkjfnhkaa
open Go.RowKit

theorem put300 : putL 300 = [172, 2] := by
  rw [putL_ge (by omega), show 300 / 128 = 2 from rfl, putL_lt (by omega)]
  decide
theorem get80 : getR [128, 0] 0 = (0, 0, 4) := by
  have h := getR_long 0
  have e : putL 0 = [0] := by rw [putL_lt (by omega)]; rfl
  rw [e] at h
  exact h
theorem crc123 : crcL [49, 50, 51, 52, 53, 54, 55, 56, 57] = 3421780262 := by decide +kernel
theorem wi_crc : wi 3421780262 = 3421780262 := by unfold wi; rw [show (3421780262 : UInt32).toNat = 3421780262 from by decide +kernel]; simp

theorem sl_new (w : World) (bs : List UInt8) (cs : Array Value) (fr : Nat × Nat) (hcs : cs.toList = bs.map bv) (n : Nat) (hn : bs.length = n) (h1 : n ≤ 1000) : Sl (w.alloc (.cells cs 5 fr)) (.slice (some ⟨w.heap.size, 0, none⟩) n n) bs := by
  subst hn
  refine ⟨_, _, rfl, Nat.le_refl _, by unfold maxLen; omega, fun h0 => ⟨_, rfl, by simp, fun j hj => ?_⟩, fun e => by cases e⟩
  rw [Addr.add_mid, cell_of_row _ _ _ cs 5 fr (heap_alloc_new w _), Nat.zero_add, ← Array.getElem?_toList, hcs, List.getElem?_map, List.getElem?_eq_getElem hj, List.getD_eq_getElem?_getD, List.getElem?_eq_getElem hj]
  rfl

set_option maxRecDepth 100000 in
set_option maxHeartbeats 1600000 in
theorem first_any (w : World) : Calls Try.prog 11 #[] w fun e w' => e = .returned (.bool true) ∧ Below w.heap.size w w' := by
  go_enter Try.func11, Try.ntmps11
  go_wp2_with fail
  refine (put_any 300 _ (by omega)).mono ?_
  rintro e w1 ⟨v1, rfl, ho1, hb1⟩
  rw [put300] at ho1
  have HO1 := Lib.hid ho1
  have HB1 := Lib.hid hb1
  clear ho1 hb1
  go_wp2_with fail
  refine (get_any _ [128, 0] 0 0 0 4 _ (sl_new _ _ _ (0, 0) (by unfold bv bi; rfl) 2 rfl (by omega)) get80).mono ?_
  rintro e w2 ⟨rfl, rfl⟩
  have HB2 := Lib.hid (HB1.out.alloc HB1.out.size (.cells #[.int .u8 128, .int .u8 0] 5))
  have HO2 := Lib.hid (HO1.out.alloc (.cells #[.int .u8 128, .int .u8 0] 5))
  generalize w1.alloc (.cells #[.int .u8 128, .int .u8 0] 5) = w2 at *
  obtain ⟨A, c, hv, h1, h2, h3, h4⟩ := HO2.out.sl
  have kc : (convert 22 9 (.slice A 2 c)).run Try.prog w2 = .ok (.string (str [172, 2])) w2 := conv_str w2 A [172, 2] c h3 h4
  subst hv
  clear h1 h2 h3 h4
  have kb := fun (w : World) (C : Array Value) (n c : Nat) => Lib.run_convert_bytes_const (P := Try.prog) w 22 5 C n c Try.underlying22 Try.underlying5
  have hs : ((str [172, 2]).toList == [172, 2]) = true := by rw [str_toList]; decide
  go_wp2_with fail
  have hc := crc_any _ [49, 50, 51, 52, 53, 54, 55, 56, 57] (w2.alloc (.cells #[.int .u8 49, .int .u8 50, .int .u8 51, .int .u8 52, .int .u8 53, .int .u8 54, .int .u8 55, .int .u8 56, .int .u8 57] 5 (9, 10))) (sl_new w2 _ _ (9, 10) (by unfold bv bi; rfl) 9 rfl (by omega))
  rw [crc123, wi_crc] at hc
  refine hc.mono ?_
  rintro e w3 ⟨rfl, hb3⟩
  have HB3 := Lib.hid ((HB2.out.alloc HB2.out.size (.cells #[.int .u8 49, .int .u8 50, .int .u8 51, .int .u8 52, .int .u8 53, .int .u8 54, .int .u8 55, .int .u8 56, .int .u8 57] 5 (9, 10))).trans (hb3.mono (by have := HB2.out.size; simp; omega)))
  clear hb3 hc kb
  go_wp2
  go_ret
  exact ⟨rfl, HB3.out⟩
end Go.Proofs.Ythopfbkkjfnhkaa
