/- The walk of ShaOwn. -/
import Derived.Test.YtkceagckgpkfgaaL0
namespace Go.Proofs.Ytkceagckgpkfgaa
open Go.RowKit

set_option maxRecDepth 100000 in
set_option maxHeartbeats 1600000 in
theorem own_big (v : Value) (bs : List UInt8) (w : World) (h : Sl w v bs) (hn : 6000 < bs.length) :
    Calls Try.prog 8 #[v] w fun e w' => e = .returned (.bool true) ∧ Below w.heap.size w w' := by
  obtain ⟨A, c, rfl, hlc, hcm, hI, hA⟩ := h
  unfold maxLen at hcm
  have hj : (6000 : Int) < (bs.length : Int) := by omega
  clear hI hA
  obtain ⟨l, hl⟩ : ∃ l, bs.length = l := ⟨_, rfl⟩
  rw [hl] at hj hlc hn ⊢
  clear hl
  go_enter Try.func8, Try.ntmps8
  go_wp2_with fail
  refine (first_any _).mono ?_
  rintro e w1 ⟨rfl, hb1⟩
  have HB1 := Lib.hid hb1
  clear hb1
  go_wp2_with fail
  refine (first_any _).mono ?_
  rintro e w2 ⟨rfl, hb2⟩
  have HB2 := Lib.hid (HB1.out.trans (hb2.mono HB1.out.size))
  clear hb2
  go_wp2_with fail
  go_ret
  exact ⟨rfl, HB2.out⟩

set_option maxRecDepth 100000 in
set_option maxHeartbeats 1600000 in
theorem own_small (v : Value) (bs : List UInt8) (w : World) (h : Sl w v bs) (hn : bs.length ≤ 6000) :
    Calls Try.prog 8 #[v] w fun e w' => e = .returned (.bool true) ∧ Below w.heap.size w w' := by
  have HSL := Lib.hid h
  obtain ⟨A, c, rfl, hlc, hcm, hI, hA⟩ := h
  have HI := Lib.hid hI
  unfold maxLen at hcm
  have hj : (bs.length : Int) ≤ 6000 := by omega
  clear hI hA
  obtain ⟨l, hl⟩ : ∃ l, bs.length = l := ⟨_, rfl⟩
  rw [hl] at hj hlc hn HSL ⊢
  have HL := Lib.hid hl
  clear hl
  go_enter Try.func8, Try.ntmps8
  go_wp2_with fail
  refine (first_any _).mono ?_
  rintro e w1 ⟨rfl, hb1⟩
  have HB1 := Lib.hid hb1
  clear hb1
  go_wp2_with fail
  refine (new_any _).mono ?_
  intro e w2 hnew
  obtain ⟨b, rfl, hH2, hb2, hw2⟩ := new_hh hnew
  have hz1 := HB1.out.size
  have hbw : w.heap.size ≤ b := by omega
  have HB2 := Lib.hid (HB1.out.trans (hw2.mono hz1))
  have HH2 := Lib.hid hH2
  clear hnew hH2 hw2 hb2
  go_wp2_with fail
  have hwr := write_any b [] bs A c w2 HH2.out (HI.out.src HB2.out hbw) (by rw [HL.out]; exact hlc) (by unfold maxLen; omega) (by rw [HL.out]; simp; omega)
  rw [HL.out, List.nil_append] at hwr
  refine hwr.mono ?_
  rintro e w3 ⟨rfl, hH3, hg3⟩
  have hz2 := HB2.out.size
  have HB3 := Lib.hid (HB2.out.trans (below_of_only hg3 hbw hz2))
  have HH3 := Lib.hid hH3
  clear hwr hH3 hg3
  go_wp2_with fail
  refine (hsum_any b bs _ HH3.out (by rw [HL.out]; omega)).mono ?_
  rintro e w4 ⟨v1, rfl, ho4, hH4, hg4⟩
  have hz3 := HB3.out.size
  have hb3 : b < w3.heap.size := HH3.out.lt
  have HB4 := Lib.hid (HB3.out.trans (below_of_only hg4 hbw hz3))
  have HH4 := Lib.hid hH4
  have HO4 := Lib.hid ho4
  have hz34 := hg4.size
  clear ho4 hH4 hg4
  go_wp2_with fail
  refine (ssum_sl _ bs _ (HSL.out.below HB4.out) (by rw [HL.out]; omega)).mono ?_
  rintro e w5 ⟨v2, rfl, ho5, hb5⟩
  have HB5 := Lib.hid (HB4.out.trans (hb5.mono HB4.out.size))
  have HH5 := Lib.hid (HH4.out.below hb5 HH4.out.lt)
  have HO5 := Lib.hid ho5
  have HO45 := Lib.hid (HO4.out.below hb5)
  have hz45 := hb5.size
  have HB45 := Lib.hid hb5
  clear ho5 hb5
  go_wp2_with fail
  refine (copyb_any v1 (sumOf bs) _ HO45.out.sl (by rw [sumOf_length]; omega)).mono ?_
  rintro e w6 ⟨v3, rfl, ho6, hb6⟩
  have HB6 := Lib.hid (HB5.out.trans (hb6.mono HB5.out.size))
  have HH6 := Lib.hid (HH5.out.below hb6 HH5.out.lt)
  have HO6 := Lib.hid ho6
  obtain ⟨g1, c1, hv1, hc11, hc12, hg11, hg12, hw1⟩ := HO4.out.wr (by rw [sumOf_length]; omega)
  obtain ⟨g2, c2, hv2, hc21, hc22, hg21, hg22, hw2⟩ := HO5.out.wr (by rw [sumOf_length]; omega)
  rw [sumOf_length] at hv1 hc11 hw1 hv2 hc21 hw2
  have W1 := Lib.hid ((hw1.below HB45.out hg12).below hb6 (by omega))
  have W2 := Lib.hid (hw2.below hb6 hg22)
  have hz56 := hb6.size
  have HVW := Lib.hid (show w5.heap.size ≤ w6.heap.size by omega)
  clear ho6 hb6 hw1 hw2
  obtain ⟨A3, c3, hv3, _⟩ := HO6.out.sl
  rw [sumOf_length] at hv3
  subst hv1 hv2 hv3
  unfold maxLen at hc12 hc22
  go_wp2_with fail
  have hne : g1 ≠ g2 := by omega
  have hne' : g2 ≠ g1 := by omega
  have hbg1 : b ≠ g1 := by omega
  have hbg2 : b ≠ g2 := by omega
  go_loopw [7] (fun i wr => ∃ k : Nat, k ≤ 32 ∧ i = .int .i64 k ∧ Wr wr g1 32 ∧ Wr wr g2 32 ∧ HH wr b bs ∧ Own wr w5.heap.size (.slice A3 32 c3) (sumOf bs) ∧ Below w.heap.size w wr) (fun i _ => 32 - (intOf i).toNat)
  case atStart => exact ⟨0, by omega, rfl, W1.out, W2.out, HH6.out, HO6.out, HB6.out⟩
  case round =>
    obtain ⟨k, hk, rfl, hw1, hw2, hhh, hown, hbw'⟩ := hrel
    by_cases hlt : k < 32
    · obtain ⟨u1, x1, z1⟩ := hw1.cell k hlt
      obtain ⟨u2, x2, z2⟩ := hw2.cell k hlt
      have hi1 : (k : Int) < 32 := by omega
      have hi2 : (0 : Int) ≤ (k : Int) := by omega
      have WW1 := Lib.hid hw1
      have WW2 := Lib.hid hw2
      have HHH := Lib.hid hhh
      have HOW := Lib.hid hown
      have HBW := Lib.hid hbw'
      clear hw1 hw2 hhh hown hbw'
      go_wp2
      refine ⟨⟨k + 1, by omega, by go_num, (WW1.out.set k _).far (by simpa using hne) _, (WW2.out.far (by simpa using hne') _).set k _, (HHH.out.far (by simpa using hbg1) _).far (by simpa using hbg2) _, (HOW.out.farSet (by simp; omega) _).farSet (by simp; omega) _, (HBW.out.setCell (by simp; omega) _).setCell (by simp; omega) _⟩, ?_⟩
      simp [intOf]; omega
    · obtain rfl : k = 32 := by omega
      have HHH := Lib.hid hhh
      have HOW := Lib.hid hown
      have HBW := Lib.hid hbw'
      clear hw1 hw2 hhh hown hbw'
      go_wp2_with fail
      refine (first_any _).mono ?_
      rintro e w7 ⟨rfl, hb7⟩
      have HB7 := Lib.hid (HBW.out.trans (hb7.mono HBW.out.size))
      have HH7 := Lib.hid (HHH.out.below hb7 HHH.out.lt)
      have HO7 := Lib.hid (HOW.out.below hb7)
      clear hb7
      go_wp2_with fail
      refine (hsum_any b bs _ HH7.out (by rw [HL.out]; omega)).mono ?_
      rintro e w8 ⟨v4, rfl, ho8, hH8, hg8⟩
      have HB8 := Lib.hid (HB7.out.trans (below_of_only hg8 hbw HB7.out.size))
      have HO8 := Lib.hid ho8.sl
      have HO8' := Lib.hid (HO7.out.only hg8 (by omega)).sl
      clear ho8 hH8 hg8
      go_wp2_with fail
      refine (bytes_any v4 _ (sumOf bs) (sumOf bs) _ HO8.out HO8'.out true (by simp)).mono ?_
      rintro e w9 ⟨rfl, rfl⟩
      go_wp2_with fail
      refine (ssum_sl _ bs _ (HSL.out.below HB8.out) (by rw [HL.out]; omega)).mono ?_
      rintro e w10 ⟨v5, rfl, ho10, hb10⟩
      have HB10 := Lib.hid (HB8.out.trans (hb10.mono HB8.out.size))
      have HO10 := Lib.hid ho10.sl
      have HO10' := Lib.hid (HO8'.out.below hb10)
      clear ho10 hb10
      go_wp2_with fail
      refine (bytes_any v5 _ (sumOf bs) (sumOf bs) _ HO10.out HO10'.out true (by simp)).mono ?_
      rintro e w11 ⟨rfl, rfl⟩
      go_wp2_with fail
      go_ret
      exact ⟨rfl, HB10.out⟩
end Go.Proofs.Ytkceagckgpkfgaa
