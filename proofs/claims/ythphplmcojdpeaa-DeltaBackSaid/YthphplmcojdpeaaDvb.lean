/- The walk of DeltaBack. -/
import Derived.Test.YthphplmcojdpeaaDv0
set_option linter.unusedVariables false
set_option linter.unusedSimpArgs false
namespace Go.Proofs.Ythphplmcojdpeaa
open Go.RowKit

theorem Sl.front_ {w : World} {A : Option Addr} {c l : Nat} {bs : List UInt8} (h : Sl w (.slice A l c) bs) (k : Nat) (hk : k ≤ bs.length) : Sl w (.slice (if c = 0 then A else A.map (·.add 0)) k c) (bs.take k) := by
  obtain ⟨A', c', he, hl, hm, hi, hn⟩ := h
  injection he with e1 e2 e3
  subst e1 e3
  have hlk : (bs.take k).length = k := by rw [List.length_take]; omega
  refine ⟨_, c, by rw [hlk], by omega, hm, hi.front c k hk, fun h => ?_⟩
  split at h
  · rw [hn h]; simp
  · cases A with
    | none => rw [hn rfl]; simp
    | some x => cases h
theorem apply_split (a d : List UInt8) : ∃ r e, applyD a d = (r, e) := ⟨_, _, rfl⟩

set_option maxRecDepth 100000 in
set_option maxHeartbeats 6400000 in
theorem back_any (va vb vc : Value) (a b c : List UInt8) (cut : Int) (w : World) (ha : Sl w va a) (hb : Sl w vb b) (hc : Sl w vc c) : Calls Try.prog 5 #[va, vb, vc, .int .i64 cut] w (Yes w) := by
  obtain ⟨A, ca, rfl, hla, hca, _⟩ := ha.len
  obtain ⟨B, cb, rfl, hlb, hcb, _⟩ := hb.len
  obtain ⟨C, cc, rfl, hlc, hcc, _⟩ := hc.len
  unfold maxLen at hca hcb hcc
  have HSA := Lib.hid ha
  have HSB := Lib.hid hb
  have HSC := Lib.hid hc
  have HMK := Lib.hid (fun (W : World) (v1 v2 : Value) (h1 : Sl W v1 a) (h2 : Sl W v2 b) (h3 : a.length ≤ 2000) (h4 : b.length ≤ 2000) => make_any v1 v2 a b W h1 h2 (by omega) (by omega))
  have HAM : Hid (a.length ≤ 2000 → b.length ≤ 2000 → applyD a (makeD a b) = (b, 0)) := fun h1 h2 => apply_make a b (by omega) (by omega)
  have HTM : Hid (a.length ≤ 2000 → b.length ≤ 2000 → ∃ q, two (makeD a b) 0 = ((a.length : Int), (b.length : Int), q, 0)) := fun h1 h2 => ⟨_, two_make a b (by omega) (by omega)⟩
  have HOT : Hid (a.length ≤ 2000 → b.length ≤ 2000 → c.length ≠ a.length → applyD c (makeD a b) = ([], 5)) := fun h1 h2 h3 => apply_make_other a b c (by omega) (by omega) h3
  have HCU : Hid (a.length ≤ 2000 → b.length ≤ 2000 → ∀ j, j < (makeD a b).length → (applyD a ((makeD a b).take j)).2 ≠ 0 ∧ (applyD a ((makeD a b).take j)).1 = []) := fun h1 h2 j hj => by
    have := apply_make_cut a b (by omega) (by omega) j hj
    exact ⟨this, apply_none _ _ this⟩
  have HDL : Hid (a.length ≤ 2000 → b.length ≤ 2000 → (makeD a b).length ≤ 700000) := fun h1 h2 => make_len a b (by omega) (by omega)
  obtain ⟨D, hD⟩ : ∃ D, makeD a b = D := ⟨_, rfl⟩
  rw [hD] at HMK HAM HTM HOT HCU HDL
  obtain ⟨la, hLA⟩ : ∃ l, a.length = l := ⟨_, rfl⟩
  obtain ⟨lb, hLB⟩ : ∃ l, b.length = l := ⟨_, rfl⟩
  obtain ⟨lc, hLC⟩ : ∃ l, c.length = l := ⟨_, rfl⟩
  rw [hLA] at hla HSA HMK HAM HTM HOT HCU HDL ⊢
  rw [hLB] at hlb HSB HMK HAM HTM HOT HCU HDL ⊢
  rw [hLC] at hlc HSC HOT ⊢
  clear ha hb hc hLA hLB hLC hD
  obtain ⟨q, hq⟩ : ∃ q, (decide (la ≤ 2000) && decide (lb ≤ 2000)) = q := ⟨_, rfl⟩
  have HQ := Lib.hid hq
  clear hq
  go_enter Try.func5, Try.ntmps5
  go_wp2_with fail
  refine (first_any w).mono ?_
  rintro e w1 ⟨rfl, hb1⟩
  have HB1 := Lib.hid hb1
  clear hb1
  go_wp2_with fail
  refine (few_any A B la lb ca cb q HQ.out w1).mono ?_
  rintro e w' ⟨rfl, rfl⟩
  cases q with
  | false =>
    go_wp2_with fail
    refine (first_then HB1.out HB1.out.size).mono ?_
    rintro e w2 ⟨rfl, hb2, _⟩
    have HB2 := Lib.hid hb2
    clear hb2
    go_wp2_with fail
    go_ret
    exact ⟨rfl, HB2.out⟩
  | true =>
    have hq := HQ.out
    rw [Bool.and_eq_true, decide_eq_true_eq, decide_eq_true_eq] at hq
    have HQ1 := Lib.hid hq.1
    have HQ2 := Lib.hid hq.2
    clear hq
    by_cases hlc2 : lc ≤ 2000
    · have hlc3 : (lc : Int) ≤ 2000 := by omega
      clear hlc2
      obtain ⟨qq, htwo⟩ := HTM.out HQ1.out HQ2.out
      have HTW := Lib.hid htwo
      clear htwo HTM
      go_wp2_with fail
      refine (HMK.out w1 _ _ (HSA.out.below HB1.out) (HSB.out.below HB1.out) HQ1.out HQ2.out).mono ?_
      rintro e w2 ⟨v2, rfl, ho2, hb2⟩
      have HB2 := Lib.hid (HB1.out.trans (hb2.mono HB1.out.size))
      have HD2 := Lib.hid ho2.sl
      obtain ⟨E, ce, rfl, hle, hce, _⟩ := ho2.sl.len
      unfold maxLen at hce
      have hdl := HDL.out HQ1.out HQ2.out
      obtain ⟨dl, hdle⟩ : ∃ l, D.length = l := ⟨_, rfl⟩
      rw [hdle] at hle hdl HD2 HCU ⊢
      have HDLE := Lib.hid hdle
      clear ho2 hb2 HDL hdle
      go_wp2_with fail
      refine (apply_any _ _ a D w2 (HSA.out.below HB2.out) HD2.out).mono ?_
      rw [HAM.out HQ1.out HQ2.out]
      rintro e w3 ⟨v3, rfl, ho3, hb3⟩
      have HB3 := Lib.hid (HB2.out.trans (hb3.mono HB2.out.size))
      have HD3 := Lib.hid (HD2.out.below hb3)
      have HT3 := Lib.hid ho3.sl
      clear ho3 hb3
      go_wp2_with fail
      refine (sizes_any _ D _ _ _ _ w3 HD3.out HTW.out).mono ?_
      rintro e w' ⟨rfl, rfl⟩
      go_wp2_with fail
      refine (bytes_any v3 _ b b w3 HT3.out (HSB.out.below HB3.out) true (beq_self_eq_true _)).mono ?_
      rintro e w' ⟨rfl, rfl⟩
      have e1 : ((la : Int) != (la : Int)) = false := bne_self_eq_false _
      have e2 : ((lb : Int) != (lb : Int)) = false := bne_self_eq_false _
      go_wp2_with fail
      obtain ⟨r4, g4, hr4⟩ := apply_split c D
      have HG : Hid (lc ≠ la → g4 = 5) := fun h => by
        have := HOT.out HQ1.out HQ2.out h
        rw [hr4] at this
        injection this
      have HR4 := Lib.hid hr4
      refine (apply_any _ _ c D w3 (HSC.out.below HB3.out) HD3.out).mono ?_
      rw [HR4.out]
      rintro e w4 ⟨v4, rfl, ho4, hb4⟩
      have HB4 := Lib.hid (HB3.out.trans (hb4.mono HB3.out.size))
      have HD4 := Lib.hid (HD3.out.below hb4)
      clear ho4 hb4 hr4 HOT
      go_upto_region 11 with (fail)
      go_cut [84] (fun cx wx => cx = .bool false ∧ w4 = wx)
      case first =>
        by_cases hla2 : lc = la
        · have e3 : ((lc : Int) != (la : Int)) = false := by rw [hla2]; exact bne_self_eq_false _
          clear hla2
          go_wp2_with fail
          go_meet
          exact ⟨rfl, rfl⟩
        · have e3 : ((lc : Int) != (la : Int)) = true := by rw [bne_iff_ne]; omega
          obtain rfl := HG.out hla2
          clear hla2
          go_wp2_with fail
          go_meet
          exact ⟨rfl, rfl⟩
      case rest =>
        obtain ⟨rfl, rfl⟩ := hcut
        by_cases hin : 0 ≤ cut ∧ cut < (dl : Int)
        · obtain ⟨h0, h1⟩ := hin
          obtain ⟨k, rfl⟩ := Int.eq_ofNat_of_zero_le h0
          have hkd : k < dl := by omega
          have hfr := fun W => d_front E dl ce k (k : Int) rfl (by omega) W
          have HSF := Lib.hid (HD4.out.front_ k (by rw [HDLE.out]; omega))
          obtain ⟨E', hE⟩ : ∃ X, (if ce = 0 then E else E.map (·.add 0)) = X := ⟨_, rfl⟩
          rw [hE] at hfr HSF
          obtain ⟨r5, g5, hr5⟩ := apply_split a (D.take k)
          have hcu := HCU.out HQ1.out HQ2.out k hkd
          rw [hr5] at hcu
          obtain ⟨hg5, hr50⟩ := hcu
          simp only at hg5 hr50
          subst hr50
          have hne : (g5 != 0) = true := by rw [bne_iff_ne]; exact hg5
          have HR5 := Lib.hid hr5
          clear hE hr5 hg5 hkd
          go_wp2_with fail
          refine (apply_any _ _ a (D.take k) w4 (HSA.out.below HB4.out) HSF.out).mono ?_
          rw [HR5.out]
          rintro e w5 ⟨v5, rfl, ho5, hb5⟩
          have HB5 := Lib.hid (HB4.out.trans (hb5.mono HB4.out.size))
          obtain ⟨A5, c5, rfl, _, _⟩ := ho5.length
          clear ho5 hb5
          go_wp2_with fail
          refine (first_then HB5.out HB5.out.size).mono ?_
          rintro e w6 ⟨rfl, hb6, _⟩
          have HB6 := Lib.hid hb6
          clear hb6
          go_wp2_with fail
          go_ret
          exact ⟨rfl, HB6.out⟩
        · have hor : cut < 0 ∨ 0 ≤ cut ∧ (dl : Int) ≤ cut := by omega
          clear hin
          rcases hor with h1 | ⟨h1, h2⟩
          all_goals
            go_wp2_with fail
            refine (first_then HB4.out HB4.out.size).mono ?_
            rintro e w6 ⟨rfl, hb6, _⟩
            have HB6 := Lib.hid hb6
            clear hb6
            go_wp2_with fail
            go_ret
            exact ⟨rfl, HB6.out⟩
    · have hlc3 : (2000 : Int) < (lc : Int) := by omega
      clear hlc2
      go_wp2_with fail
      refine (first_then HB1.out HB1.out.size).mono ?_
      rintro e w2 ⟨rfl, hb2, _⟩
      have HB2 := Lib.hid hb2
      clear hb2
      go_wp2_with fail
      go_ret
      exact ⟨rfl, HB2.out⟩
theorem deltaBack_walk (a0 : Option Addr) (len0 cap0 : Nat) (z0 : List Int) (a1 : Option Addr) (len1 cap1 : Nat) (z1 : List Int) (a2 : Option Addr) (len2 cap2 : Nat) (z2 : List Int) (a3 : Int) (w : World) (w0 : IsRow .u8 w a0 len0 cap0 z0) (w1 : IsRow .u8 w a1 len1 cap1 z1) (w2 : IsRow .u8 w a2 len2 cap2 z2) (w3 : (Lit.int .i64 a3).wf = true) :
    Calls Try.prog 5 #[.slice a0 len0 cap0, .slice a1 len1 cap1, .slice a2 len2 cap2, .int .i64 a3] w (Yes w) := by
  obtain ⟨bs, _, h⟩ := w0.sl
  obtain ⟨cs, _, h'⟩ := w1.sl
  obtain ⟨ds, _, h''⟩ := w2.sl
  exact back_any _ _ _ bs cs ds a3 w h h' h''
end Go.Proofs.Ythphplmcojdpeaa
