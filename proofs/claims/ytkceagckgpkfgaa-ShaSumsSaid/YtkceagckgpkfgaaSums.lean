/- The walk of ShaSums. -/
import Derived.Test.YtkceagckgpkfgaaR5
import Derived.Test.YtkceagckgpkfgaaBack
namespace Go.Proofs.Ytkceagckgpkfgaa
open Go.RowKit

set_option maxRecDepth 100000 in
set_option maxHeartbeats 1600000 in
/-- Where the bounds are not met. -/
theorem sums_out (v : Value) (bs cs : List UInt8) (w : World) (h : Sl w v bs) (hs : cs.length ≤ maxLen) (hn : 6000 < bs.length ∨ 6000 < cs.length) :
    Calls Try.prog 3 #[v, .string (str cs)] w fun e w' => e = .returned (.bool true) ∧ Below w.heap.size w w' := by
  obtain ⟨A, c, rfl, hlc, hcm, hI, hA⟩ := h
  unfold maxLen at hcm hs
  clear hI hA
  have hsz := str_size cs
  obtain ⟨l, hl⟩ : ∃ l, bs.length = l := ⟨_, rfl⟩
  obtain ⟨m, hm⟩ : ∃ m, cs.length = m := ⟨_, rfl⟩
  rw [hl] at hlc hn ⊢
  rw [hm] at hn hs hsz
  clear hl hm
  by_cases h1 : 6000 < l
  · have hj : (6000 : Int) < (l : Int) := by omega
    clear hn h1
    go_enter Try.func3, Try.ntmps3
    go_wp2_with fail
    refine (first_from (Below.refl _ _)).mono ?_
    rintro e w1 ⟨rfl, hb1⟩
    have HB1 := Lib.hid hb1
    clear hb1
    go_wp2_with fail
    refine (first_from HB1.out).mono ?_
    rintro e w2 ⟨rfl, hb2⟩
    go_wp2_with fail
    go_ret
    exact ⟨rfl, hb2⟩
  · have hj : (l : Int) ≤ 6000 := by omega
    have hj2 : (6000 : Int) < (m : Int) := by omega
    clear hn h1
    go_enter Try.func3, Try.ntmps3
    go_wp2_with fail
    refine (first_from (Below.refl _ _)).mono ?_
    rintro e w1 ⟨rfl, hb1⟩
    have HB1 := Lib.hid hb1
    clear hb1
    go_wp2_with fail
    refine (first_from HB1.out).mono ?_
    rintro e w2 ⟨rfl, hb2⟩
    go_wp2_with fail
    go_ret
    exact ⟨rfl, hb2⟩

/-- What the two Unhex's agree on. -/
def unOf (cs : List UInt8) : List UInt8 := if hexOk cs = true then unhexL cs else []
theorem unhex_of (cs : List UInt8) (w : World) (hl : cs.length ≤ 1000000) : Calls Try.prog 11 #[.string (str cs)] w fun e w' => ∃ v, e = .returned (.tuple #[v, .bool (hexOk cs)]) ∧ Sl w' v (unOf cs) ∧ Below w.heap.size w w' := by
  cases hx : hexOk cs with
  | true =>
    refine (unhex_yes cs w hx hl).mono ?_
    rintro e w' ⟨v, rfl, ho, hb⟩
    refine ⟨v, rfl, ?_, hb⟩
    unfold unOf
    rw [if_pos hx]
    exact ho.sl
  | false =>
    refine (unhex_no cs w hx hl).mono ?_
    rintro e w' ⟨rfl, rfl⟩
    refine ⟨_, rfl, ?_, Below.refl _ _⟩
    unfold unOf
    rw [if_neg (by rw [hx]; decide)]
    exact Sl.nil_ w
theorem runhex_of (cs : List UInt8) (w : World) (hl : cs.length ≤ 1000000) : Calls Try.prog 12 #[.string (str cs)] w fun e w' => ∃ v, e = .returned (.tuple #[v, .bool (hexOk cs)]) ∧ Sl w' v (unOf cs) ∧ Below w.heap.size w w' := by
  cases hx : hexOk cs with
  | true =>
    refine (runhex_yes cs w hx hl).mono ?_
    rintro e w' ⟨v, rfl, ho, hb⟩
    refine ⟨v, rfl, ?_, hb⟩
    unfold unOf
    rw [if_pos hx]
    exact ho.sl
  | false =>
    refine (runhex_no cs w hx hl).mono ?_
    rintro e w' ⟨rfl, hb⟩
    refine ⟨_, rfl, ?_, hb⟩
    unfold unOf
    rw [if_neg (by rw [hx]; decide)]
    exact Sl.nil_ w'

set_option maxRecDepth 100000 in
set_option maxHeartbeats 1600000 in
theorem sums_in (v : Value) (bs cs : List UInt8) (w : World) (h : Sl w v bs) (hn : bs.length ≤ 6000) (hm : cs.length ≤ 6000) :
    Calls Try.prog 3 #[v, .string (str cs)] w fun e w' => e = .returned (.bool true) ∧ Below w.heap.size w w' := by
  have HSL := Lib.hid h
  obtain ⟨A, c, rfl, hlc, hcm, hI, hA⟩ := h
  clear hI hA hcm
  have hsz := str_size cs
  obtain ⟨l, hl⟩ : ∃ l, bs.length = l := ⟨_, rfl⟩
  obtain ⟨m, hmm⟩ : ∃ m, cs.length = m := ⟨_, rfl⟩
  rw [hl] at hlc hn HSL ⊢
  rw [hmm] at hm hsz
  have HL := Lib.hid hl
  have HM := Lib.hid hmm
  clear hl hmm
  have hj : (l : Int) ≤ 6000 := by omega
  have hj2 : (m : Int) ≤ 6000 := by omega
  obtain ⟨x, hx⟩ : ∃ x, hexOk cs = x := ⟨_, rfl⟩
  obtain ⟨y, hy⟩ : ∃ y, (cs.length == 64 && hexOk cs) = y := ⟨_, rfl⟩
  have HX := Lib.hid hx
  have HY := Lib.hid hy
  have s1 : ((str (hexL bs)).toList == (str (hexL bs)).toList) = true := beq_self_eq_true _
  have s2 : ((str (hexL (sumOf bs))).toList == (str (hexL (sumOf bs))).toList) = true := beq_self_eq_true _
  have hxx : (x == x) = true := beq_self_eq_true _
  have hyy : (y == y) = true := beq_self_eq_true _
  clear hx hy
  go_enter Try.func3, Try.ntmps3
  go_wp2_with fail
  refine (first_from (Below.refl _ _)).mono ?_
  rintro e w1 ⟨rfl, hb1⟩
  have HB1 := Lib.hid hb1
  clear hb1
  go_wp2_with fail
  refine (copyb_any _ bs _ (HSL.out.below HB1.out) (by rw [HL.out]; omega)).mono ?_
  rintro e w2 ⟨vi, rfl, hoi, hb2⟩
  have HB2 := Lib.hid (HB1.out.trans (hb2.mono HB1.out.size))
  have HI2 := Lib.hid hoi.sl
  clear hoi hb2
  go_wp2_with fail
  refine (unhex_of cs _ (by rw [HM.out]; omega)).mono ?_
  rintro e w3 ⟨vu, rfl, hu3, hb3⟩
  rw [HX.out]
  have HB3 := Lib.hid (HB2.out.trans (hb3.mono HB2.out.size))
  have HI3 := Lib.hid (HI2.out.below hb3)
  have HU3 := Lib.hid hu3
  clear hu3 hb3
  go_wp2_with fail
  refine (runhex_of cs _ (by rw [HM.out]; omega)).mono ?_
  rintro e w4 ⟨vv, rfl, hv4, hb4⟩
  rw [HX.out]
  have HB4 := Lib.hid (HB3.out.trans (hb4.mono HB3.out.size))
  have HI4 := Lib.hid (HI3.out.below hb4)
  have HU4 := Lib.hid (HU3.out.below hb4)
  have HV4 := Lib.hid hv4
  clear hv4 hb4
  go_wp2_with fail
  refine (first_any _).mono ?_
  rintro e w5 ⟨rfl, hb5⟩
  have HB5 := Lib.hid (HB4.out.trans (hb5.mono HB4.out.size))
  have HI5 := Lib.hid (HI4.out.below hb5)
  have HU5 := Lib.hid (HU4.out.below hb5)
  have HV5 := Lib.hid (HV4.out.below hb5)
  clear hb5
  go_wp2_with fail
  refine (ssum_sl vi bs _ HI5.out (by rw [HL.out]; omega)).mono ?_
  rintro e w6 ⟨v6, rfl, ho6, hb6⟩
  have HB6 := Lib.hid (HB5.out.trans (hb6.mono HB5.out.size))
  have HI6 := Lib.hid (HI5.out.below hb6)
  have HU6 := Lib.hid (HU5.out.below hb6)
  have HV6 := Lib.hid (HV5.out.below hb6)
  have HS6 := Lib.hid ho6.sl
  clear ho6 hb6
  go_wp2_with fail
  refine (rsum_any _ bs _ (HSL.out.below HB6.out) (by rw [HL.out]; omega)).mono ?_
  rintro e w7 ⟨v7, rfl, ho7, hb7⟩
  have HB7 := Lib.hid (HB6.out.trans (hb7.mono HB6.out.size))
  have HI7 := Lib.hid (HI6.out.below hb7)
  have HU7 := Lib.hid (HU6.out.below hb7)
  have HV7 := Lib.hid (HV6.out.below hb7)
  have HS7 := Lib.hid (HS6.out.below hb7)
  have HT7 := Lib.hid ho7.sl
  clear ho7 hb7
  go_wp2_with fail
  refine (bytes_any v6 v7 (sumOf bs) (sumOf bs) _ HS7.out HT7.out true (by simp)).mono ?_
  rintro e w7a ⟨rfl, rfl⟩
  go_wp2_with fail
  refine (hex_any vi bs _ HI7.out (by rw [HL.out]; omega)).mono ?_
  rintro e w8 ⟨rfl, hb8⟩
  have HB8 := Lib.hid (HB7.out.trans (hb8.mono HB7.out.size))
  have HI8 := Lib.hid (HI7.out.below hb8)
  have HU8 := Lib.hid (HU7.out.below hb8)
  have HV8 := Lib.hid (HV7.out.below hb8)
  clear hb8
  go_wp2_with fail
  refine (rhex_any _ bs _ (HSL.out.below HB8.out) (by rw [HL.out]; omega)).mono ?_
  rintro e w9 ⟨rfl, hb9⟩
  have HB9 := Lib.hid (HB8.out.trans (hb9.mono HB8.out.size))
  have HI9 := Lib.hid (HI8.out.below hb9)
  have HU9 := Lib.hid (HU8.out.below hb9)
  have HV9 := Lib.hid (HV8.out.below hb9)
  clear hb9
  go_wp2_with fail
  refine (id_any vi bs _ HI9.out (by rw [HL.out]; omega)).mono ?_
  rintro e w10 ⟨rfl, hb10⟩
  have HB10 := Lib.hid (HB9.out.trans (hb10.mono HB9.out.size))
  have HI10 := Lib.hid (HI9.out.below hb10)
  have HU10 := Lib.hid (HU9.out.below hb10)
  have HV10 := Lib.hid (HV9.out.below hb10)
  clear hb10
  go_wp2_with fail
  refine (rid_any _ bs _ (HSL.out.below HB10.out) (by rw [HL.out]; omega)).mono ?_
  rintro e w11 ⟨rfl, hb11⟩
  have HB11 := Lib.hid (HB10.out.trans (hb11.mono HB10.out.size))
  have HI11 := Lib.hid (HI10.out.below hb11)
  have HU11 := Lib.hid (HU10.out.below hb11)
  have HV11 := Lib.hid (HV10.out.below hb11)
  clear hb11
  go_wp2_with fail
  refine (bytes_any vu vv (unOf cs) (unOf cs) _ HU11.out HV11.out true (by simp)).mono ?_
  rintro e w11a ⟨rfl, rfl⟩
  go_wp2_with fail
  refine (valid_any cs y HY.out _ (by rw [HM.out]; omega)).mono ?_
  rintro e w11b ⟨rfl, rfl⟩
  go_wp2_with fail
  refine (rvalid_any cs y HY.out _ (by rw [HM.out]; omega)).mono ?_
  rintro e w12 ⟨rfl, hb12⟩
  have HB12 := Lib.hid (HB11.out.trans (hb12.mono HB11.out.size))
  have HI12 := Lib.hid (HI11.out.below hb12)
  clear hb12
  go_wp2_with fail
  refine (bytes_any vi _ bs bs _ HI12.out (HSL.out.below HB12.out) true (by simp)).mono ?_
  rintro e w12a ⟨rfl, rfl⟩
  go_wp2_with fail
  go_ret
  exact ⟨rfl, HB12.out⟩
end Go.Proofs.Ytkceagckgpkfgaa
