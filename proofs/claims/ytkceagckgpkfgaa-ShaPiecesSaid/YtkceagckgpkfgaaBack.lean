/- The walk of ShaBack. -/
import Derived.Test.YtkceagckgpkfgaaLike
namespace Go.Proofs.Ytkceagckgpkfgaa
open Go.RowKit

theorem first_from {w w1 : World} (h1 : Below w.heap.size w w1) : Calls Try.prog 9 #[] w1 fun e w' => e = .returned (.bool true) ∧ Below w.heap.size w w' :=
  (first_any w1).mono fun _ _ ⟨he, hb⟩ => ⟨he, h1.trans (hb.mono h1.size)⟩

set_option maxRecDepth 100000 in
set_option maxHeartbeats 1600000 in
/-- Where the bounds are not met. -/
theorem back_out (v : Value) (bs cs : List UInt8) (w : World) (h : Sl w v bs) (hs : cs.length ≤ maxLen) (hn : 6000 < bs.length ∨ 6000 < cs.length) :
    Calls Try.prog 5 #[v, .string (str cs)] w fun e w' => e = .returned (.bool true) ∧ Below w.heap.size w w' := by
  obtain ⟨A, c, rfl, hlc, hcm, hI, hA⟩ := h
  unfold maxLen at hcm hs
  clear hI hA
  have hsz := str_size cs
  obtain ⟨l, hl⟩ : ∃ l, bs.length = l := ⟨_, rfl⟩
  obtain ⟨m, hm⟩ : ∃ m, cs.length = m := ⟨_, rfl⟩
  rw [hl] at hlc hn ⊢
  rw [hm] at hn hs hsz
  clear hl hm
  by_cases h1 : 6000 < l
  · have hj : (6000 : Int) < (l : Int) := by omega
    clear hn h1
    go_enter Try.func5, Try.ntmps5
    go_wp2_with fail
    refine (first_from (Below.refl _ _)).mono ?_
    rintro e w1 ⟨rfl, hb1⟩
    have HB1 := Lib.hid hb1
    clear hb1
    go_wp2_with fail
    refine (first_from HB1.out).mono ?_
    rintro e w2 ⟨rfl, hb2⟩
    go_wp2_with fail
    go_ret
    exact ⟨rfl, hb2⟩
  · have hj : (l : Int) ≤ 6000 := by omega
    have hj2 : (6000 : Int) < (m : Int) := by omega
    clear hn h1
    go_enter Try.func5, Try.ntmps5
    go_wp2_with fail
    refine (first_from (Below.refl _ _)).mono ?_
    rintro e w1 ⟨rfl, hb1⟩
    have HB1 := Lib.hid hb1
    clear hb1
    go_wp2_with fail
    refine (first_from HB1.out).mono ?_
    rintro e w2 ⟨rfl, hb2⟩
    go_wp2_with fail
    go_ret
    exact ⟨rfl, hb2⟩

set_option maxRecDepth 100000 in
set_option maxHeartbeats 1600000 in
theorem back_no (v : Value) (bs cs : List UInt8) (w : World) (h : Sl w v bs) (hn : bs.length ≤ 6000) (hm : cs.length ≤ 6000) (hx : hexOk cs = false) :
    Calls Try.prog 5 #[v, .string (str cs)] w fun e w' => e = .returned (.bool true) ∧ Below w.heap.size w w' := by
  have HSL := Lib.hid h
  obtain ⟨A, c, rfl, hlc, hcm, hI, hA⟩ := h
  unfold maxLen at hcm
  clear hI hA
  have hsz := str_size cs
  obtain ⟨l, hl⟩ : ∃ l, bs.length = l := ⟨_, rfl⟩
  obtain ⟨m, hmm⟩ : ∃ m, cs.length = m := ⟨_, rfl⟩
  rw [hl] at hlc hn HSL ⊢
  rw [hmm] at hm hsz
  have HL := Lib.hid hl
  have HM := Lib.hid hmm
  clear hl hmm
  have hj : (l : Int) ≤ 6000 := by omega
  have hj2 : (m : Int) ≤ 6000 := by omega
  have hsz2 : (str (hexL bs)).size = 2 * l := by rw [str_size, hexL_length, HL.out]
  have HX := Lib.hid hx
  clear hx
  go_enter Try.func5, Try.ntmps5
  go_wp2_with fail
  refine (first_from (Below.refl _ _)).mono ?_
  rintro e w1 ⟨rfl, hb1⟩
  have HB1 := Lib.hid hb1
  clear hb1
  go_wp2_with fail
  refine (hex_any _ bs _ (HSL.out.below HB1.out) (by rw [HL.out]; omega)).mono ?_
  rintro e w2 ⟨rfl, hb2⟩
  have HB2 := Lib.hid (HB1.out.trans (hb2.mono HB1.out.size))
  clear hb2
  go_wp2_with fail
  refine (unhex_yes (hexL bs) _ (hexOk_hexL _) (by rw [hexL_length, HL.out]; omega)).mono ?_
  rintro e w3 ⟨v3, rfl, ho3, hb3⟩
  rw [unhexL_hexL] at ho3
  have HO3 := Lib.hid ho3.sl
  have HB3 := Lib.hid (HB2.out.trans (hb3.mono HB2.out.size))
  clear ho3 hb3
  go_wp2_with fail
  refine (bytes_any v3 _ bs bs _ HO3.out (HSL.out.below HB3.out) true (by simp)).mono ?_
  rintro e w4 ⟨rfl, rfl⟩
  go_wp2_with fail
  refine (id_any _ bs _ (HSL.out.below HB3.out) (by rw [HL.out]; omega)).mono ?_
  rintro e w5 ⟨rfl, hb5⟩
  have HB5 := Lib.hid (HB3.out.trans (hb5.mono HB3.out.size))
  clear hb5
  go_wp2_with fail
  refine (valid_any (hexL (sumOf bs)) true (by rw [hexOk_hexL, hexL_length, sumOf_length]; rfl) _ (by rw [hexL_length, sumOf_length]; omega)).mono ?_
  rintro e w6 ⟨rfl, rfl⟩
  go_wp2_with fail
  refine (unhex_no cs _ HX.out (by rw [HM.out]; omega)).mono ?_
  rintro e w7 ⟨rfl, rfl⟩
  go_wp2_with fail
  refine (first_from HB5.out).mono ?_
  rintro e w8 ⟨rfl, hb8⟩
  have HB8 := Lib.hid hb8
  clear hb8
  go_wp2_with fail
  refine (valid_any cs false (by rw [HX.out]; simp) _ (by rw [HM.out]; omega)).mono ?_
  rintro e w9 ⟨rfl, rfl⟩
  go_wp2_with fail
  go_ret
  exact ⟨rfl, HB8.out⟩

set_option maxRecDepth 100000 in
set_option maxHeartbeats 1600000 in
theorem back_yes (v : Value) (bs cs : List UInt8) (w : World) (h : Sl w v bs) (hn : bs.length ≤ 6000) (hm : cs.length ≤ 6000) (hx : hexOk cs = true) :
    Calls Try.prog 5 #[v, .string (str cs)] w fun e w' => e = .returned (.bool true) ∧ Below w.heap.size w w' := by
  have HSL := Lib.hid h
  obtain ⟨A, c, rfl, hlc, hcm, hI, hA⟩ := h
  unfold maxLen at hcm
  clear hI hA
  have hsz := str_size cs
  obtain ⟨l, hl⟩ : ∃ l, bs.length = l := ⟨_, rfl⟩
  obtain ⟨m, hmm⟩ : ∃ m, cs.length = m := ⟨_, rfl⟩
  rw [hl] at hlc hn HSL ⊢
  rw [hmm] at hm hsz
  have HL := Lib.hid hl
  have HM := Lib.hid hmm
  clear hl hmm
  have hj : (l : Int) ≤ 6000 := by omega
  have hj2 : (m : Int) ≤ 6000 := by omega
  have hsz2 : (str (hexL bs)).size = 2 * l := by rw [str_size, hexL_length, HL.out]
  have HX := Lib.hid hx
  have hself : ((str cs).toList == (str cs).toList) = true := beq_self_eq_true _
  clear hx
  go_enter Try.func5, Try.ntmps5
  go_wp2_with fail
  refine (first_from (Below.refl _ _)).mono ?_
  rintro e w1 ⟨rfl, hb1⟩
  have HB1 := Lib.hid hb1
  clear hb1
  go_wp2_with fail
  refine (hex_any _ bs _ (HSL.out.below HB1.out) (by rw [HL.out]; omega)).mono ?_
  rintro e w2 ⟨rfl, hb2⟩
  have HB2 := Lib.hid (HB1.out.trans (hb2.mono HB1.out.size))
  clear hb2
  go_wp2_with fail
  refine (unhex_yes (hexL bs) _ (hexOk_hexL _) (by rw [hexL_length, HL.out]; omega)).mono ?_
  rintro e w3 ⟨v3, rfl, ho3, hb3⟩
  rw [unhexL_hexL] at ho3
  have HO3 := Lib.hid ho3.sl
  have HB3 := Lib.hid (HB2.out.trans (hb3.mono HB2.out.size))
  clear ho3 hb3
  go_wp2_with fail
  refine (bytes_any v3 _ bs bs _ HO3.out (HSL.out.below HB3.out) true (by simp)).mono ?_
  rintro e w4 ⟨rfl, rfl⟩
  go_wp2_with fail
  refine (id_any _ bs _ (HSL.out.below HB3.out) (by rw [HL.out]; omega)).mono ?_
  rintro e w5 ⟨rfl, hb5⟩
  have HB5 := Lib.hid (HB3.out.trans (hb5.mono HB3.out.size))
  clear hb5
  go_wp2_with fail
  refine (valid_any (hexL (sumOf bs)) true (by rw [hexOk_hexL, hexL_length, sumOf_length]; rfl) _ (by rw [hexL_length, sumOf_length]; omega)).mono ?_
  rintro e w6 ⟨rfl, rfl⟩
  go_wp2_with fail
  refine (unhex_yes cs _ HX.out (by rw [HM.out]; omega)).mono ?_
  rintro e w7 ⟨v7, rfl, ho7, hb7⟩
  obtain ⟨A7, c7, hv7, _, _, _, _⟩ := ho7.sl
  rw [unhexL_length, HM.out] at hv7
  have HO7 := Lib.hid ho7.sl
  have HB7 := Lib.hid (HB5.out.trans (hb7.mono HB5.out.size))
  clear ho7 hb7
  subst hv7
  obtain ⟨q, hq⟩ : ∃ q, m / 2 = q := ⟨_, rfl⟩
  rw [hq] at HO7 ⊢
  have HQ := Lib.hid hq
  clear hq
  go_wp2_with fail
  refine (first_any _).mono ?_
  rintro e w8 ⟨rfl, hb8⟩
  have HO8 := Lib.hid (HO7.out.below hb8)
  have HB8 := Lib.hid (HB7.out.trans (hb8.mono HB7.out.size))
  clear hb8
  go_wp2_with fail
  refine (hex_any _ (unhexL cs) _ HO8.out (by rw [unhexL_length, HM.out]; omega)).mono ?_
  rintro e w9 ⟨he, hb9⟩
  rw [hexL_unhexL cs HX.out] at he
  subst he
  have HB9 := Lib.hid (HB8.out.trans (hb9.mono HB8.out.size))
  clear hb9
  by_cases h64 : m = 64
  · have hq2 : q = 32 := by have := HQ.out; omega
    subst hq2
    go_wp2_with fail
    refine (valid_any cs true (by rw [HX.out, HM.out, h64]; rfl) _ (by rw [HM.out]; omega)).mono ?_
    rintro e w10 ⟨rfl, rfl⟩
    go_wp2_with fail
    go_ret
    exact ⟨rfl, HB9.out⟩
  · have hq2 : ((q : Int) == 32) = false := beq_eq_false_iff_ne.2 (by have := HQ.out; have := hexOk_even HX.out; rw [HM.out] at this; omega)
    go_wp2_with fail
    refine (valid_any cs false (by rw [HX.out, HM.out, beq_eq_false_iff_ne.2 h64]; rfl) _ (by rw [HM.out]; omega)).mono ?_
    rintro e w10 ⟨rfl, rfl⟩
    go_wp2_with fail
    go_ret
    exact ⟨rfl, HB9.out⟩
end Go.Proofs.Ytkceagckgpkfgaa
