/- The walks of DeltaMakes, DeltaApplies. -/
import Derived.Test.YthphplmcojdpeaaDv0
set_option linter.unusedVariables false
set_option linter.unusedSimpArgs false
namespace Go.Proofs.Ythphplmcojdpeaa
open Go.RowKit

set_option maxRecDepth 100000 in
set_option maxHeartbeats 3200000 in
theorem makes_any (va vb : Value) (a b : List UInt8) (w : World) (ha : Sl w va a) (hb : Sl w vb b) : Calls Try.prog 3 #[va, vb] w (Yes w) := by
  obtain ⟨A, ca, rfl, hla, hca, _⟩ := ha.len
  obtain ⟨B, cb, rfl, hlb, hcb, _⟩ := hb.len
  unfold maxLen at hca hcb
  have HSA := Lib.hid ha
  have HSB := Lib.hid hb
  have HCA := Lib.hid (fun (W : World) (hW : Below w.heap.size w W) (h : a.length ≤ 2000) => copyb_any _ a W (ha.below hW) (by omega))
  have HCB := Lib.hid (fun (W : World) (hW : Below w.heap.size w W) (h : b.length ≤ 2000) => copyb_any _ b W (hb.below hW) (by omega))
  have HMK := Lib.hid (fun (W : World) (v1 v2 : Value) (h1 : Sl W v1 a) (h2 : Sl W v2 b) (h3 : a.length ≤ 2000) (h4 : b.length ≤ 2000) => make_any v1 v2 a b W h1 h2 (by omega) (by omega))
  have HRK := Lib.hid (fun (W : World) (v1 v2 : Value) (h1 : Sl W v1 a) (h2 : Sl W v2 b) (h3 : a.length ≤ 2000) (h4 : b.length ≤ 2000) => rmake_any v1 v2 a b W h1 h2 (by omega) (by omega))
  obtain ⟨la, hLA⟩ : ∃ l, a.length = l := ⟨_, rfl⟩
  obtain ⟨lb, hLB⟩ : ∃ l, b.length = l := ⟨_, rfl⟩
  rw [hLA] at hla HSA HCA HMK HRK ⊢
  rw [hLB] at hlb HSB HCB HMK HRK ⊢
  clear ha hb hLA hLB
  obtain ⟨q, hq⟩ : ∃ q, (decide (la ≤ 2000) && decide (lb ≤ 2000)) = q := ⟨_, rfl⟩
  have HQ := Lib.hid hq
  clear hq
  go_enter Try.func3, Try.ntmps3
  go_wp2_with fail
  refine (first_any w).mono ?_
  rintro e w1 ⟨rfl, hb1⟩
  have HB1 := Lib.hid hb1
  clear hb1
  go_wp2_with fail
  refine (few_any A B la lb ca cb q HQ.out w1).mono ?_
  rintro e w' ⟨rfl, rfl⟩
  cases q with
  | false =>
    go_wp2_with fail
    refine (first_then HB1.out HB1.out.size).mono ?_
    rintro e w2 ⟨rfl, hb2, _⟩
    have HB2 := Lib.hid hb2
    clear hb2
    go_wp2_with fail
    go_ret
    exact ⟨rfl, HB2.out⟩
  | true =>
    have hq := HQ.out
    rw [Bool.and_eq_true, decide_eq_true_eq, decide_eq_true_eq] at hq
    have HQ1 := Lib.hid hq.1
    have HQ2 := Lib.hid hq.2
    clear hq
    go_wp2_with fail
    refine (HCA.out w1 HB1.out HQ1.out).mono ?_
    rintro e w2 ⟨v2, rfl, ho2, hb2⟩
    have HB2 := Lib.hid (HB1.out.trans (hb2.mono HB1.out.size))
    have HX2 := Lib.hid ho2.sl
    clear ho2 hb2
    go_wp2_with fail
    refine (HCB.out w2 HB2.out HQ2.out).mono ?_
    rintro e w3 ⟨v3, rfl, ho3, hb3⟩
    have HB3 := Lib.hid (HB2.out.trans (hb3.mono HB2.out.size))
    have HX3 := Lib.hid (HX2.out.below hb3)
    have HY3 := Lib.hid ho3.sl
    clear ho3 hb3
    go_wp2_with fail
    refine (first_then HB3.out HB3.out.size).mono ?_
    rintro e w4 ⟨rfl, hb4, hc4⟩
    have HB4 := Lib.hid hb4
    have HX4 := Lib.hid (HX3.out.below hc4)
    have HY4 := Lib.hid (HY3.out.below hc4)
    clear hb4 hc4
    go_wp2_with fail
    refine (HMK.out w4 v2 v3 HX4.out HY4.out HQ1.out HQ2.out).mono ?_
    rintro e w5 ⟨v5, rfl, ho5, hb5⟩
    have HB5 := Lib.hid (HB4.out.trans (hb5.mono HB4.out.size))
    have HX5 := Lib.hid (HX4.out.below hb5)
    have HY5 := Lib.hid (HY4.out.below hb5)
    have HD5 := Lib.hid ho5.sl
    clear ho5 hb5
    go_wp2_with fail
    refine (HRK.out w5 _ _ (HSA.out.below HB5.out) (HSB.out.below HB5.out) HQ1.out HQ2.out).mono ?_
    rintro e w6 ⟨v6, rfl, ho6, hb6⟩
    have HB6 := Lib.hid (HB5.out.trans (hb6.mono HB5.out.size))
    have HX6 := Lib.hid (HX5.out.below hb6)
    have HY6 := Lib.hid (HY5.out.below hb6)
    have HD6 := Lib.hid (HD5.out.below hb6)
    have HE6 := Lib.hid ho6.sl
    clear ho6 hb6
    go_wp2_with fail
    refine (bytes_any v5 v6 _ _ w6 HD6.out HE6.out true (beq_self_eq_true _)).mono ?_
    rintro e w' ⟨rfl, rfl⟩
    go_wp2_with fail
    refine (bytes_any v2 _ a a w6 HX6.out (HSA.out.below HB6.out) true (beq_self_eq_true _)).mono ?_
    rintro e w' ⟨rfl, rfl⟩
    go_wp2_with fail
    refine (bytes_any v3 _ b b w6 HY6.out (HSB.out.below HB6.out) true (beq_self_eq_true _)).mono ?_
    rintro e w' ⟨rfl, rfl⟩
    go_wp2_with fail
    go_ret
    exact ⟨rfl, HB6.out⟩
theorem deltaMakes_walk (a0 : Option Addr) (len0 cap0 : Nat) (z0 : List Int) (a1 : Option Addr) (len1 cap1 : Nat) (z1 : List Int) (w : World) (w0 : IsRow .u8 w a0 len0 cap0 z0) (w1 : IsRow .u8 w a1 len1 cap1 z1) :
    Calls Try.prog 3 #[.slice a0 len0 cap0, .slice a1 len1 cap1] w (Yes w) := by
  obtain ⟨bs, _, h⟩ := w0.sl
  obtain ⟨cs, _, h'⟩ := w1.sl
  exact makes_any _ _ bs cs w h h'

/-- What Sizes answers. -/
theorem two_split (d : List UInt8) : ∃ a b q e, two d 0 = (a, b, q, e) := ⟨_, _, _, _, rfl⟩

set_option maxRecDepth 100000 in
set_option maxHeartbeats 3200000 in
theorem applies_any (va vb : Value) (a b : List UInt8) (w : World) (ha : Sl w va a) (hb : Sl w vb b) : Calls Try.prog 4 #[va, vb] w (Yes w) := by
  obtain ⟨A, ca, rfl, hla, hca, _⟩ := ha.len
  obtain ⟨B, cb, rfl, hlb, hcb, _⟩ := hb.len
  unfold maxLen at hca hcb
  have HSA := Lib.hid ha
  have HSB := Lib.hid hb
  have HCA := Lib.hid (fun (W : World) (hW : Below w.heap.size w W) (h : a.length ≤ 30000) => copyb_any _ a W (ha.below hW) (by omega))
  have HCB := Lib.hid (fun (W : World) (hW : Below w.heap.size w W) (h : b.length ≤ 30000) => copyb_any _ b W (hb.below hW) (by omega))
  obtain ⟨p, q, at_, g, htwo⟩ := two_split b
  have HT := Lib.hid htwo
  clear htwo
  obtain ⟨R, hR⟩ : ∃ R, applyD a b = R := ⟨_, rfl⟩
  have HR := Lib.hid hR
  obtain ⟨la, hLA⟩ : ∃ l, a.length = l := ⟨_, rfl⟩
  obtain ⟨lb, hLB⟩ : ∃ l, b.length = l := ⟨_, rfl⟩
  rw [hLA] at hla HSA HCA ⊢
  rw [hLB] at hlb HSB HCB ⊢
  clear ha hb hLA hLB hR
  obtain ⟨r, rc⟩ := R
  by_cases hbig : la ≤ 30000 ∧ lb ≤ 30000
  · obtain ⟨q1, q2⟩ := hbig
    have q1i : (la : Int) ≤ 30000 := by omega
    have q2i : (lb : Int) ≤ 30000 := by omega
    have e1 : (rc == rc) = true := beq_self_eq_true _
    have e2 : (p == p) = true := beq_self_eq_true _
    have e3 : (q == q) = true := beq_self_eq_true _
    have e4 : (g == g) = true := beq_self_eq_true _
    have HQ1 := Lib.hid q1
    have HQ2 := Lib.hid q2
    clear q1 q2
    go_enter Try.func4, Try.ntmps4
    go_wp2_with fail
    refine (first_any w).mono ?_
    rintro e w1 ⟨rfl, hb1⟩
    have HB1 := Lib.hid hb1
    clear hb1
    go_wp2_with fail
    refine (HCA.out w1 HB1.out HQ1.out).mono ?_
    rintro e w2 ⟨v2, rfl, ho2, hb2⟩
    have HB2 := Lib.hid (HB1.out.trans (hb2.mono HB1.out.size))
    have HX2 := Lib.hid ho2.sl
    clear ho2 hb2
    go_wp2_with fail
    refine (HCB.out w2 HB2.out HQ2.out).mono ?_
    rintro e w3 ⟨v3, rfl, ho3, hb3⟩
    have HB3 := Lib.hid (HB2.out.trans (hb3.mono HB2.out.size))
    have HX3 := Lib.hid (HX2.out.below hb3)
    have HY3 := Lib.hid ho3.sl
    clear ho3 hb3
    go_wp2_with fail
    refine (apply_any v2 v3 a b w3 HX3.out HY3.out).mono ?_
    rw [HR.out]
    rintro e w4 ⟨v4, rfl, ho4, hb4⟩
    have HB4 := Lib.hid (HB3.out.trans (hb4.mono HB3.out.size))
    have HX4 := Lib.hid (HX3.out.below hb4)
    have HY4 := Lib.hid (HY3.out.below hb4)
    have HD4 := Lib.hid ho4.sl
    clear ho4 hb4
    go_wp2_with fail
    refine (rapply_any _ _ a b w4 (HSA.out.below HB4.out) (HSB.out.below HB4.out)).mono ?_
    rw [HR.out]
    rintro e w5 ⟨v5, rfl, ho5, hb5⟩
    have HB5 := Lib.hid (HB4.out.trans (hb5.mono HB4.out.size))
    have HX5 := Lib.hid (HX4.out.below hb5)
    have HY5 := Lib.hid (HY4.out.below hb5)
    have HD5 := Lib.hid (HD4.out.below hb5)
    have HE5 := Lib.hid ho5.sl
    clear ho5 hb5
    go_wp2_with fail
    refine (sizes_any v3 b p q at_ g w5 HY5.out HT.out).mono ?_
    rintro e w' ⟨rfl, rfl⟩
    go_wp2_with fail
    refine (rsizes_any _ b p q at_ g w5 (HSB.out.below HB5.out) HT.out).mono ?_
    rintro e w6 ⟨rfl, hb6⟩
    have HB6 := Lib.hid (HB5.out.trans (hb6.mono HB5.out.size))
    have HX6 := Lib.hid (HX5.out.below hb6)
    have HY6 := Lib.hid (HY5.out.below hb6)
    have HD6 := Lib.hid (HD5.out.below hb6)
    have HE6 := Lib.hid (HE5.out.below hb6)
    clear hb6
    go_wp2_with fail
    refine (first_then HB6.out HB6.out.size).mono ?_
    rintro e w7 ⟨rfl, hb7, hc7⟩
    have HB7 := Lib.hid hb7
    have HX7 := Lib.hid (HX6.out.below hc7)
    have HY7 := Lib.hid (HY6.out.below hc7)
    have HD7 := Lib.hid (HD6.out.below hc7)
    have HE7 := Lib.hid (HE6.out.below hc7)
    clear hb7 hc7
    go_wp2_with fail
    refine (bytes_any v4 v5 _ _ w7 HD7.out HE7.out true (beq_self_eq_true _)).mono ?_
    rintro e w' ⟨rfl, rfl⟩
    go_wp2_with fail
    refine (bytes_any v2 _ a a w7 HX7.out (HSA.out.below HB7.out) true (beq_self_eq_true _)).mono ?_
    rintro e w' ⟨rfl, rfl⟩
    go_wp2_with fail
    refine (bytes_any v3 _ b b w7 HY7.out (HSB.out.below HB7.out) true (beq_self_eq_true _)).mono ?_
    rintro e w' ⟨rfl, rfl⟩
    go_wp2_with fail
    go_ret
    exact ⟨rfl, HB7.out⟩
  · have hor : (30000 : Int) < (la : Int) ∨ (la : Int) ≤ 30000 ∧ (30000 : Int) < (lb : Int) := by omega
    clear hbig
    rcases hor with h1 | ⟨h1, h2⟩
    all_goals
      go_enter Try.func4, Try.ntmps4
      go_wp2_with fail
      refine (first_any w).mono ?_
      rintro e w1 ⟨rfl, hb1⟩
      have HB1 := Lib.hid hb1
      clear hb1
      go_wp2_with fail
      refine (first_then HB1.out HB1.out.size).mono ?_
      rintro e w2 ⟨rfl, hb2, _⟩
      have HB2 := Lib.hid hb2
      clear hb2
      go_wp2_with fail
      go_ret
      exact ⟨rfl, HB2.out⟩
theorem deltaApplies_walk (a0 : Option Addr) (len0 cap0 : Nat) (z0 : List Int) (a1 : Option Addr) (len1 cap1 : Nat) (z1 : List Int) (w : World) (w0 : IsRow .u8 w a0 len0 cap0 z0) (w1 : IsRow .u8 w a1 len1 cap1 z1) :
    Calls Try.prog 4 #[.slice a0 len0 cap0, .slice a1 len1 cap1] w (Yes w) := by
  obtain ⟨bs, _, h⟩ := w0.sl
  obtain ⟨cs, _, h'⟩ := w1.sl
  exact applies_any _ _ bs cs w h h'
end Go.Proofs.Ythphplmcojdpeaa
