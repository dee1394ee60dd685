/- The walk of ShaLike. -/
import Derived.Test.YtkceagckgpkfgaaU1
namespace Go.Proofs.Ytkceagckgpkfgaa
open Go.RowKit

theorem hlen_any (b : Nat) (all : List UInt8) (w : World) (h : HH w b all) : Calls Try.prog 24 #[.pointer (some ⟨b, 0, none⟩)] w fun e w' => e = .returned (.int .i64 all.length) ∧ w = w' := by
  obtain ⟨s, rest, d, ad, hB, _⟩ := h
  exact len_any b s rest all.length d 0 ad w hB

set_option maxRecDepth 100000 in
set_option maxHeartbeats 1600000 in
/-- Where the bounds are not met. -/
theorem like_out (v : Value) (bs : List UInt8) (n : Int) (w : World) (h : Sl w v bs) (hn : 6000 < bs.length ∨ n < 1 ∨ 64 < n) :
    Calls Try.prog 7 #[v, .int .i64 n] w fun e w' => e = .returned (.bool true) ∧ Below w.heap.size w w' := by
  obtain ⟨A, c, rfl, hlc, hcm, hI, hA⟩ := h
  unfold maxLen at hcm
  clear hI hA
  obtain ⟨l, hl⟩ : ∃ l, bs.length = l := ⟨_, rfl⟩
  rw [hl] at hlc hn ⊢
  clear hl
  have fin : ∀ w1 : World, Below w.heap.size w w1 → Calls Try.prog 9 #[] w1 fun e w' => e = .returned (.bool true) ∧ Below w.heap.size w w' := fun w1 h1 =>
    (first_any w1).mono fun e w' ⟨he, hb⟩ => ⟨he, h1.trans (hb.mono h1.size)⟩
  have FIN := Lib.hid fin
  clear fin
  by_cases h1 : 6000 < l
  · have hj : (6000 : Int) < (l : Int) := by omega
    clear hn h1
    go_enter Try.func7, Try.ntmps7
    go_wp2_with fail
    refine (FIN.out _ (Below.refl _ _)).mono ?_
    rintro e w1 ⟨rfl, hb1⟩
    have HB1 := Lib.hid hb1
    clear hb1
    go_wp2_with fail
    refine (FIN.out _ HB1.out).mono ?_
    rintro e w2 ⟨rfl, hb2⟩
    go_wp2_with fail
    go_ret
    exact ⟨rfl, hb2⟩
  · have hj : (l : Int) ≤ 6000 := by omega
    by_cases h2 : n < 1
    · clear hn h1
      go_enter Try.func7, Try.ntmps7
      go_wp2_with fail
      refine (FIN.out _ (Below.refl _ _)).mono ?_
      rintro e w1 ⟨rfl, hb1⟩
      have HB1 := Lib.hid hb1
      clear hb1
      go_wp2_with fail
      refine (FIN.out _ HB1.out).mono ?_
      rintro e w2 ⟨rfl, hb2⟩
      go_wp2_with fail
      go_ret
      exact ⟨rfl, hb2⟩
    · have h3 : 64 < n := by omega
      have h2' : 1 ≤ n := by omega
      clear hn h1 h2
      go_enter Try.func7, Try.ntmps7
      go_wp2_with fail
      refine (FIN.out _ (Below.refl _ _)).mono ?_
      rintro e w1 ⟨rfl, hb1⟩
      have HB1 := Lib.hid hb1
      clear hb1
      go_wp2_with fail
      refine (FIN.out _ HB1.out).mono ?_
      rintro e w2 ⟨rfl, hb2⟩
      go_wp2_with fail
      go_ret
      exact ⟨rfl, hb2⟩

theorem Src.take {w : World} {b : Nat} {A : Option Addr} {bs : List UInt8} (h : Src w b A bs) (m : Nat) : Src w b A (bs.take m) := by
  intro h0
  rw [List.length_take] at h0
  obtain ⟨ad, hA, hne, hlt, hc⟩ := h (by omega)
  refine ⟨ad, hA, hne, hlt, fun j hj => ?_⟩
  rw [List.length_take] at hj
  rw [hc j (by omega)]
  simp only [List.getD_eq_getElem?_getD, List.getElem?_take, if_pos (show j < m from by omega)]

set_option maxRecDepth 100000 in
set_option maxHeartbeats 3200000 in
theorem like_in (v : Value) (bs : List UInt8) (n : Nat) (w : World) (h : Sl w v bs) (hn : bs.length ≤ 6000) (hn1 : 1 ≤ n) (hn2 : n ≤ 64) :
    Calls Try.prog 7 #[v, .int .i64 (n : Int)] w fun e w' => e = .returned (.bool true) ∧ Below w.heap.size w w' := by
  have HSL := Lib.hid h
  obtain ⟨A, c, rfl, hlc, hcm, hI, hA⟩ := h
  have HI := Lib.hid hI
  unfold maxLen at hcm
  have hj : (bs.length : Int) ≤ 6000 := by omega
  have hm1 : (1 : Int) ≤ (n : Int) := by omega
  have hm2 : (n : Int) ≤ 64 := by omega
  clear hI hA
  obtain ⟨l, hl⟩ : ∃ l, bs.length = l := ⟨_, rfl⟩
  rw [hl] at hj hlc hn HSL ⊢
  have HL := Lib.hid hl
  clear hl
  go_enter Try.func7, Try.ntmps7
  go_wp2_with fail
  refine (first_any _).mono ?_
  rintro e w1 ⟨rfl, hb1⟩
  have HB1 := Lib.hid hb1
  clear hb1
  go_wp2_with fail
  refine (new_any _).mono ?_
  intro e w2 hnew
  obtain ⟨b, rfl, hH2, hb2, hw2⟩ := new_hh hnew
  have hz1 := HB1.out.size
  have hbw : w.heap.size ≤ b := by omega
  have HB2 := Lib.hid (HB1.out.trans (hw2.mono hz1))
  have HH2 := Lib.hid hH2
  clear hnew hH2 hw2 hb2
  go_wp2_with fail
  go_loopw [6] (fun i wr => ∃ k : Nat, k ≤ l + 64 ∧ i = .int .i64 k ∧ HH wr b (bs.take k) ∧ Below w.heap.size w wr) (fun i _ => l + 64 - (intOf i).toNat)
  case atStart => exact ⟨0, by omega, rfl, by rw [List.take_zero]; exact HH2.out, HB2.out⟩
  case round =>
    obtain ⟨k, hk, rfl, hhh, hbb⟩ := hrel
    have HHH := Lib.hid hhh
    have HBB := Lib.hid hbb
    clear hhh hbb
    by_cases hlt : k < l
    · obtain ⟨adr, hA1, hlt2, hcell⟩ := HI.out (by rw [HL.out]; omega)
      subst hA1
      have hi1 : (0 : Int) ≤ (k : Int) := by omega
      have hi2 : (k : Int) < (l : Int) := by omega
      have hck : ¬ c = k := by omega
      have hS := (HI.out.src HBB.out hbw)
      have HS := Lib.hid hS
      clear hcell hS
      have hz8 : Hid (((k : Int) % (8 * (n : Int)) == 0) = decide (k % (8 * n) = 0)) := by
        unfold Hid
        rw [Bool.eq_iff_iff]
        rw [beq_iff_eq, decide_eq_true_iff]
        have : ((k % (8 * n) : Nat) : Int) = (k : Int) % (8 * (n : Int)) := by rw [Int.natCast_emod, Int.natCast_mul]; rfl
        omega
      by_cases hle : k + n ≤ l
      · by_cases hzz : k % (8 * n) = 0
        · have hmm : (k : Int) + (n : Int) ≤ (l : Int) := by omega
          have htn : ((k : Int) + (n : Int)).toNat = k + n := by omega
          have HN := Lib.hid (show n = n from rfl)
          have hxl : Hid (((bs.drop k).take n).length = n) := by unfold Hid; rw [List.length_take, List.length_drop, HL.out]; omega
          have htk : Hid (bs.take k ++ (bs.drop k).take n = bs.take (k + n)) := by unfold Hid; rw [List.take_add]
          have hck' : n ≤ c - k := by omega
          have hwr := write_any b (bs.take k) ((bs.drop k).take n) (some (adr.add k)) (c - k) wr HHH.out ((HS.out.cut k _ (fun _ a e => by injection e with e; rw [e])).take n) (by rw [hxl.out]; exact hck') (by unfold maxLen; omega) (by rw [hxl.out, List.length_take]; omega)
          rw [hxl.out, htk.out] at hwr
          have HWR := Lib.hid hwr
          clear hwr
          have hz := hz8.out
          rw [decide_eq_true hzz] at hz
          clear hzz hle
          go_wp2_with fail
          refine (HWR.out).mono ?_
          rintro e w3 ⟨rfl, hH3, hg3⟩
          have HH3 := Lib.hid hH3
          have HB3 := Lib.hid (HBB.out.trans (below_of_only hg3 hbw HBB.out.size))
          clear hH3 hg3
          go_wp2_with fail
          refine (hsum_any b _ _ HH3.out (by rw [List.length_take, HL.out]; omega)).mono ?_
          rintro e w4 ⟨v4, rfl, ho4, hH4, hg4⟩
          have HH4 := Lib.hid hH4
          have HB4 := Lib.hid (HB3.out.trans (below_of_only hg4 hbw HB3.out.size))
          clear ho4 hH4 hg4
          go_wp2_with fail
          refine ⟨⟨k + n, by omega, by go_num, HH4.out, HB4.out⟩, ?_⟩
          simp [intOf]; omega
        · have hmm : (k : Int) + (n : Int) ≤ (l : Int) := by omega
          have htn : ((k : Int) + (n : Int)).toNat = k + n := by omega
          have HN := Lib.hid (show n = n from rfl)
          have hxl : Hid (((bs.drop k).take n).length = n) := by unfold Hid; rw [List.length_take, List.length_drop, HL.out]; omega
          have htk : Hid (bs.take k ++ (bs.drop k).take n = bs.take (k + n)) := by unfold Hid; rw [List.take_add]
          have hck' : n ≤ c - k := by omega
          have hwr := write_any b (bs.take k) ((bs.drop k).take n) (some (adr.add k)) (c - k) wr HHH.out ((HS.out.cut k _ (fun _ a e => by injection e with e; rw [e])).take n) (by rw [hxl.out]; exact hck') (by unfold maxLen; omega) (by rw [hxl.out, List.length_take]; omega)
          rw [hxl.out, htk.out] at hwr
          have HWR := Lib.hid hwr
          clear hwr
          have hz := hz8.out
          rw [decide_eq_false hzz] at hz
          clear hzz hle
          go_wp2_with fail
          refine (HWR.out).mono ?_
          rintro e w3 ⟨rfl, hH3, hg3⟩
          have HH3 := Lib.hid hH3
          have HB3 := Lib.hid (HBB.out.trans (below_of_only hg3 hbw HBB.out.size))
          clear hH3 hg3
          go_wp2_with fail
          refine ⟨⟨k + n, by omega, by go_num, HH3.out, HB3.out⟩, ?_⟩
          simp [intOf]; omega
      · by_cases hzz : k % (8 * n) = 0
        · have hmm : (l : Int) < (k : Int) + (n : Int) := by omega
          have hxl : Hid (((bs.drop k).take (l - k)).length = l - k) := by unfold Hid; rw [List.length_take, List.length_drop, HL.out]; omega
          have htk : Hid (bs.take k ++ (bs.drop k).take (l - k) = bs.take (k + n)) := by
            unfold Hid
            rw [← List.take_add, List.take_of_length_le (by rw [HL.out]; omega), List.take_of_length_le (by rw [HL.out]; omega)]
          have hck' : l - k ≤ c - k := by omega
          have hwr := write_any b (bs.take k) ((bs.drop k).take (l - k)) (some (adr.add k)) (c - k) wr HHH.out ((HS.out.cut k _ (fun _ a e => by injection e with e; rw [e])).take (l - k)) (by rw [hxl.out]; exact hck') (by unfold maxLen; omega) (by rw [hxl.out, List.length_take]; omega)
          rw [hxl.out, htk.out] at hwr
          have HWR := Lib.hid hwr
          clear hwr
          have hz := hz8.out
          rw [decide_eq_true hzz] at hz
          clear hzz hle
          go_wp2_with fail
          refine (HWR.out).mono ?_
          rintro e w3 ⟨rfl, hH3, hg3⟩
          have HH3 := Lib.hid hH3
          have HB3 := Lib.hid (HBB.out.trans (below_of_only hg3 hbw HBB.out.size))
          clear hH3 hg3
          go_wp2_with fail
          refine (hsum_any b _ _ HH3.out (by rw [List.length_take, HL.out]; omega)).mono ?_
          rintro e w4 ⟨v4, rfl, ho4, hH4, hg4⟩
          have HH4 := Lib.hid hH4
          have HB4 := Lib.hid (HB3.out.trans (below_of_only hg4 hbw HB3.out.size))
          clear ho4 hH4 hg4
          go_wp2_with fail
          refine ⟨⟨k + n, by omega, by go_num, HH4.out, HB4.out⟩, ?_⟩
          simp [intOf]; omega
        · have hmm : (l : Int) < (k : Int) + (n : Int) := by omega
          have hxl : Hid (((bs.drop k).take (l - k)).length = l - k) := by unfold Hid; rw [List.length_take, List.length_drop, HL.out]; omega
          have htk : Hid (bs.take k ++ (bs.drop k).take (l - k) = bs.take (k + n)) := by
            unfold Hid
            rw [← List.take_add, List.take_of_length_le (by rw [HL.out]; omega), List.take_of_length_le (by rw [HL.out]; omega)]
          have hck' : l - k ≤ c - k := by omega
          have hwr := write_any b (bs.take k) ((bs.drop k).take (l - k)) (some (adr.add k)) (c - k) wr HHH.out ((HS.out.cut k _ (fun _ a e => by injection e with e; rw [e])).take (l - k)) (by rw [hxl.out]; exact hck') (by unfold maxLen; omega) (by rw [hxl.out, List.length_take]; omega)
          rw [hxl.out, htk.out] at hwr
          have HWR := Lib.hid hwr
          clear hwr
          have hz := hz8.out
          rw [decide_eq_false hzz] at hz
          clear hzz hle
          go_wp2_with fail
          refine (HWR.out).mono ?_
          rintro e w3 ⟨rfl, hH3, hg3⟩
          have HH3 := Lib.hid hH3
          have HB3 := Lib.hid (HBB.out.trans (below_of_only hg3 hbw HBB.out.size))
          clear hH3 hg3
          go_wp2_with fail
          refine ⟨⟨k + n, by omega, by go_num, HH3.out, HB3.out⟩, ?_⟩
          simp [intOf]; omega
    · rw [List.take_of_length_le (by rw [HL.out]; omega)] at HHH
      have hlk : (l : Int) ≤ (k : Int) := by omega
      go_wp2_with fail
      refine (hsum_any b bs _ HHH.out (by rw [HL.out]; omega)).mono ?_
      rintro e w3 ⟨v3, rfl, ho3, hH3, hg3⟩
      have HH3 := Lib.hid hH3
      have HB3 := Lib.hid (HBB.out.trans (below_of_only hg3 hbw HBB.out.size))
      have HO3 := Lib.hid ho3.sl
      clear ho3 hH3 hg3
      go_wp2_with fail
      refine (id_any _ bs _ (HSL.out.below HB3.out) (by rw [HL.out]; omega)).mono ?_
      rintro e w4 ⟨rfl, hb4⟩
      have HH4 := Lib.hid (HH3.out.below hb4 HH3.out.lt)
      have HB4 := Lib.hid (HB3.out.trans (hb4.mono HB3.out.size))
      have HO4 := Lib.hid (HO3.out.below hb4)
      clear hb4
      go_wp2_with fail
      refine (unhex_yes (hexL (sumOf bs)) _ (hexOk_hexL _) (by rw [hexL_length, sumOf_length]; omega)).mono ?_
      rintro e w5 ⟨v5, rfl, ho5, hb5⟩
      rw [unhexL_hexL] at ho5
      have HO5 := Lib.hid ho5.sl
      have HH5 := Lib.hid (HH4.out.below hb5 HH4.out.lt)
      have HB5 := Lib.hid (HB4.out.trans (hb5.mono HB4.out.size))
      have HO5' := Lib.hid (HO4.out.below hb5)
      clear ho5 hb5
      go_wp2_with fail
      refine (first_any _).mono ?_
      rintro e w6 ⟨rfl, hb6⟩
      have HO6 := Lib.hid (HO5.out.below hb6)
      have HH6 := Lib.hid (HH5.out.below hb6 HH5.out.lt)
      have HB6 := Lib.hid (HB5.out.trans (hb6.mono HB5.out.size))
      have HO6' := Lib.hid (HO5'.out.below hb6)
      clear hb6
      go_wp2_with fail
      refine (copyb_any _ bs _ (HSL.out.below HB6.out) (by rw [HL.out]; omega)).mono ?_
      rintro e w7 ⟨v7, rfl, ho7, hb7⟩
      have HC7 := Lib.hid ho7.sl
      have HO7 := Lib.hid (HO6.out.below hb7)
      have HH7 := Lib.hid (HH6.out.below hb7 HH6.out.lt)
      have HB7 := Lib.hid (HB6.out.trans (hb7.mono HB6.out.size))
      have HO7' := Lib.hid (HO6'.out.below hb7)
      clear ho7 hb7
      go_wp2_with fail
      refine (ssum_sl v7 bs _ HC7.out (by rw [HL.out]; omega)).mono ?_
      rintro e w8 ⟨v8, rfl, ho8, hb8⟩
      have HC8 := Lib.hid ho8.sl
      have HO8 := Lib.hid (HO7.out.below hb8)
      have HH8 := Lib.hid (HH7.out.below hb8 HH7.out.lt)
      have HB8 := Lib.hid (HB7.out.trans (hb8.mono HB7.out.size))
      have HO8' := Lib.hid (HO7'.out.below hb8)
      clear ho8 hb8
      go_wp2_with fail
      refine (bytes_any v3 v8 (sumOf bs) (sumOf bs) _ HO8'.out HC8.out true (by simp)).mono ?_
      rintro e w9 ⟨rfl, rfl⟩
      go_wp2_with fail
      refine (bytes_any v5 v3 (sumOf bs) (sumOf bs) _ HO8.out HO8'.out true (by simp)).mono ?_
      rintro e w9 ⟨rfl, rfl⟩
      go_wp2_with fail
      refine (hex_any v3 (sumOf bs) _ HO8'.out (by rw [sumOf_length]; omega)).mono ?_
      rintro e w10 ⟨rfl, hb10⟩
      have HH10 := Lib.hid (HH8.out.below hb10 HH8.out.lt)
      have HB10 := Lib.hid (HB8.out.trans (hb10.mono HB8.out.size))
      clear hb10
      go_wp2_with fail
      refine (id_any _ bs _ (HSL.out.below HB10.out) (by rw [HL.out]; omega)).mono ?_
      rintro e w11 ⟨rfl, hb11⟩
      have HH11 := Lib.hid (HH10.out.below hb11 HH10.out.lt)
      have HB11 := Lib.hid (HB10.out.trans (hb11.mono HB10.out.size))
      clear hb11
      have hself : ((str (hexL (sumOf bs))).toList == (str (hexL (sumOf bs))).toList) = true := beq_self_eq_true _
      go_wp2_with fail
      have hlen := hlen_any b bs _ HH11.out
      rw [HL.out] at hlen
      refine hlen.mono ?_
      rintro e w12 ⟨rfl, rfl⟩
      clear hlen
      go_wp2_with fail
      go_ret
      exact ⟨rfl, HB11.out⟩
end Go.Proofs.Ytkceagckgpkfgaa
