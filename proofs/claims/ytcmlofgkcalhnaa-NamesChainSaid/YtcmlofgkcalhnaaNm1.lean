/- The laws of chapter 4: what they share (first, few). -/
import Derived.Test.YtcmlofgkcalhnaaNm0
namespace Go.Proofs.Ytcmlofgkcalhnaa.Tx
open Go.RowKit Go.Proofs.Ytcmlofgkcalhnaa.Sh

theorem slv_new (w : World) (xs : List ByteArray) (cs : Array Value) (hcs : cs.toList = xs.map sv) (m : Nat) (hm : xs.length = m) (hs : m ≤ 1000) : SlV (w.alloc (.cells cs 9)) (.slice (some ⟨w.heap.size, 0, none⟩) m m) (xs.map sv) := by
  refine ⟨some ⟨w.heap.size, 0, none⟩, m, by simp [hm], by simp [hm], by unfold maxLen; omega, ⟨by simp, fun _ => ⟨_, rfl, by simp, fun j u hu => ?_⟩⟩, fun h => by cases h⟩
  rw [Addr.add_mid, cell_of_row _ _ _ cs 9 (0, 0) (heap_alloc_new w _), Nat.zero_add, ← hu, ← hcs]
  simp

set_option maxRecDepth 100000 in
set_option maxHeartbeats 1600000 in
theorem first_any (w : World) : Calls Try.prog 5 #[] w (Yes w) := by
  have f1 : pathB [97, 47, 46, 46, 47, 98] = false := by decide +kernel
  have f2 : (parentsL [97, 47, 98, 47, 99]).map str = [⟨#[97]⟩, ⟨#[97, 47, 98]⟩] := by decide +kernel
  have f3 : ignoredB [[42, 46, 111]] [120, 47, 121, 46, 111] = true := by decide +kernel
  have f4 : ignoredB [[116, 109, 112, 47]] [116, 109, 112] = false := by decide +kernel
  have f5 : str (copyL [97] [48, 49, 50, 51, 52, 53, 54, 55, 56, 57] 1) = ⟨#[97, 126, 48, 49, 50, 51, 52, 53, 54, 55, 126]⟩ := by decide +kernel
  have F1 := Lib.hid f1
  have F2 := Lib.hid f2
  have F3 := Lib.hid f3
  have F4 := Lib.hid f4
  have F5 := Lib.hid f5
  clear f1 f2 f3 f4 f5
  go_enter Try.func5, Try.ntmps5
  go_wp2_with fail
  refine (npath_any [97, 47, 46, 46, 47, 98] _ (by simp)).mono ?_
  rintro e w1 ⟨rfl, hb1⟩
  rw [F1.out]
  have HB1 := Lib.hid hb1
  clear hb1
  go_wp2_with fail
  refine (nparents_any [97, 47, 98, 47, 99] _ (by simp)).mono ?_
  rintro e w2 ⟨v2, rfl, ho2, hb2⟩
  rw [F2.out] at ho2
  have HB2 := Lib.hid (HB1.out.trans (hb2.mono HB1.out.size))
  have HO2 := Lib.hid ho2
  clear ho2 hb2
  go_wp2_with fail
  refine (texts_same v2 _ [⟨#[97]⟩, ⟨#[97, 47, 98]⟩] _ ((HO2.out.alloc _).slv) (slv_new w2 [⟨#[97]⟩, ⟨#[97, 47, 98]⟩] _ rfl 2 rfl (by omega))).mono ?_
  rintro e w3 ⟨rfl, hb3⟩
  have HB3 := Lib.hid ((HB2.out.alloc HB2.out.size _).trans (hb3.mono (by have := HB2.out.size; simp; omega)))
  clear hb3
  go_wp2_with fail
  refine (nignored_any _ [[42, 46, 111]] [120, 47, 121, 46, 111] _ (slv_new w3 [⟨#[42, 46, 111]⟩] _ rfl 1 rfl (by omega)) (by simp) (fun p hp => by simp at hp; subst hp; simp) (by simp)).mono ?_
  rintro e w4 ⟨rfl, hb4⟩
  rw [F3.out]
  have HB4 := Lib.hid ((HB3.out.alloc HB3.out.size _).trans (hb4.mono (by have := HB3.out.size; simp; omega)))
  clear hb4
  go_wp2_with fail
  refine (nignored_any _ [[116, 109, 112, 47]] [116, 109, 112] _ (slv_new w4 [⟨#[116, 109, 112, 47]⟩] _ rfl 1 rfl (by omega)) (by simp) (fun p hp => by simp at hp; subst hp; simp) (by simp)).mono ?_
  rintro e w5 ⟨rfl, hb5⟩
  rw [F4.out]
  have HB5 := Lib.hid ((HB4.out.alloc HB4.out.size _).trans (hb5.mono (by have := HB4.out.size; simp; omega)))
  clear hb5
  go_wp2_with fail
  refine (ncopy_any [97] [48, 49, 50, 51, 52, 53, 54, 55, 56, 57] 1 _ (by simp) (by simp)).mono ?_
  rintro e w6 ⟨rfl, hb6⟩
  rw [F5.out]
  have HB6 := Lib.hid (HB5.out.trans (hb6.mono HB5.out.size))
  clear hb6
  go_wp2_with fail
  go_ret
  exact ⟨rfl, HB6.out⟩
theorem first_then {w w1 : World} (h : Below w.heap.size w w1) : Calls Try.prog 5 #[] w1 (Yes w) :=
  (first_any w1).mono fun _ _ ⟨he, hb⟩ => ⟨he, h.trans (hb.mono h.size)⟩
end Go.Proofs.Ytcmlofgkcalhnaa.Tx
