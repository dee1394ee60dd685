/- The walk of DeltaShort. -/
import Derived.Test.YthphplmcojdpeaaDv0
import Derived.Test.YthphplmcojdpeaaDv1
set_option linter.unusedVariables false
set_option linter.unusedSimpArgs false
namespace Go.Proofs.Ythphplmcojdpeaa
open Go.RowKit

set_option maxRecDepth 100000 in
set_option maxHeartbeats 6400000 in
theorem short_any (vb : Value) (b : List UInt8) (w : World) (hb : Sl w vb b) : Calls Try.prog 7 #[vb] w (Yes w) := by
  obtain ⟨B, cb, rfl, hlb, hcb, _⟩ := hb.len
  unfold maxLen at hcb
  have HSB := Lib.hid hb
  have HMK := Lib.hid (fun (W : World) (v1 v2 : Value) (x : List UInt8) (h1 : Sl W v1 x) (h2 : Sl W v2 b) (h3 : x.length ≤ 2000) (h4 : b.length ≤ 2000) => make_any v1 v2 x b W h1 h2 (by omega) (by omega))
  have HAM : Hid (∀ x : List UInt8, x.length ≤ 2000 → b.length ≤ 2000 → applyD x (makeD x b) = (b, 0)) := fun x h1 h2 => apply_make x b (by omega) (by omega)
  have HL1 : Hid (b.length ≤ 2000 → b.length ≤ (makeD [] b).length ∧ (makeD [] b).length ≤ b.length + 6) := make_nil_len b
  have HL2 : Hid (b.length ≤ 2000 → (b.length < 8 ∨ (makeD b b).length ≤ 8) ∧ (makeD b b).length ≤ b.length + 7) := fun h => by
    by_cases h8 : b.length < 8
    · exact ⟨.inl h8, make_self_small b h8⟩
    · have := make_self_len b (by omega) h
      exact ⟨.inr this, by omega⟩
  have HBB : Hid (b.length ≤ 2000 → b.length ≤ 2000) := fun h => h
  obtain ⟨lb, hLB⟩ : ∃ l, b.length = l := ⟨_, rfl⟩
  rw [hLB] at hlb HSB HMK HAM HL1 HL2 ⊢
  have HLB := Lib.hid hLB
  clear hb hLB HBB
  go_enter Try.func7, Try.ntmps7
  go_wp2_with fail
  refine (first_any w).mono ?_
  rintro e w1 ⟨rfl, hb1⟩
  have HB1 := Lib.hid hb1
  clear hb1
  by_cases hl : lb ≤ 2000
  · have hli : (lb : Int) ≤ 2000 := by omega
    have h1 := HL1.out hl
    have h2 := HL2.out hl
    obtain ⟨n1, hn1⟩ : ∃ n, (makeD [] b).length = n := ⟨_, rfl⟩
    obtain ⟨n2, hn2⟩ : ∃ n, (makeD b b).length = n := ⟨_, rfl⟩
    rw [hn1] at h1
    rw [hn2] at h2
    obtain ⟨h1a, h1b⟩ := h1
    obtain ⟨h2a, h2b⟩ := h2
    have HN1 := Lib.hid hn1
    have HN2 := Lib.hid hn2
    have HL := Lib.hid hl
    clear HL1 HL2 hn1 hn2 hl
    go_wp2_with fail
    refine (HMK.out w1 _ _ b (HSB.out.below HB1.out) (HSB.out.below HB1.out) (by rw [HLB.out]; exact HL.out) HL.out).mono ?_
    rintro e w2 ⟨v2, rfl, ho2, hb2⟩
    have HB2 := Lib.hid (HB1.out.trans (hb2.mono HB1.out.size))
    have hd2 := ho2.sl
    obtain ⟨E, ce, rfl, hle, hce, _⟩ := hd2.len
    unfold maxLen at hce
    rw [HN2.out] at hle hd2 ⊢
    have HD2 := Lib.hid hd2
    clear ho2 hb2 hd2
    go_wp2_with fail
    refine (HMK.out w2 _ _ [] (Sl.nil_ _) (HSB.out.below HB2.out) (by simp) HL.out).mono ?_
    rintro e w3 ⟨v3, rfl, ho3, hb3⟩
    have HB3 := Lib.hid (HB2.out.trans (hb3.mono HB2.out.size))
    have HD3 := Lib.hid (HD2.out.below hb3)
    have he3 := ho3.sl
    obtain ⟨E3, ce3, rfl, hle3, hce3, _⟩ := he3.len
    unfold maxLen at hce3
    rw [HN1.out] at hle3 he3 ⊢
    have HE3 := Lib.hid he3
    clear ho3 hb3 he3
    go_wp2_with fail
    refine (apply_any _ _ b _ w3 (HSB.out.below HB3.out) HD3.out).mono ?_
    rw [HAM.out b (by rw [HLB.out]; exact HL.out) HL.out]
    rintro e w4 ⟨v4, rfl, ho4, hb4⟩
    have HB4 := Lib.hid (HB3.out.trans (hb4.mono HB3.out.size))
    have HE4 := Lib.hid (HE3.out.below hb4)
    have HX4 := Lib.hid ho4.sl
    clear ho4 hb4
    go_wp2_with fail
    refine (apply_any _ _ [] _ w4 (Sl.nil_ _) HE4.out).mono ?_
    rw [HAM.out [] (by simp) HL.out]
    rintro e w5 ⟨v5, rfl, ho5, hb5⟩
    have HB5 := Lib.hid (HB4.out.trans (hb5.mono HB4.out.size))
    have HX5 := Lib.hid (HX4.out.below hb5)
    have HY5 := Lib.hid ho5.sl
    clear ho5 hb5
    go_wp2_with fail
    refine (bytes_any v4 _ b b w5 HX5.out (HSB.out.below HB5.out) true (beq_self_eq_true _)).mono ?_
    rintro e w' ⟨rfl, rfl⟩
    go_wp2_with fail
    refine (bytes_any v5 _ b b w5 HY5.out (HSB.out.below HB5.out) true (beq_self_eq_true _)).mono ?_
    rintro e w' ⟨rfl, rfl⟩
    have k1 : (lb : Int) ≤ (n1 : Int) := by omega
    have k2 : (n1 : Int) ≤ (lb : Int) + 6 := by omega
    have k3 : (n2 : Int) ≤ (lb : Int) + 7 := by omega
    have hor : (lb : Int) < 8 ∨ (8 : Int) ≤ (lb : Int) ∧ (n2 : Int) ≤ 8 := by omega
    clear h1a h1b h2a h2b
    go_wp2_with fail
    refine (first_then HB5.out HB5.out.size).mono ?_
    rintro e w6 ⟨rfl, hb6, _⟩
    have HB6 := Lib.hid hb6
    clear hb6
    rcases hor with h1 | ⟨h1, h2⟩
    all_goals
      go_wp2_with fail
      go_ret
      exact ⟨rfl, HB6.out⟩
  · have hli : (2000 : Int) < (lb : Int) := by omega
    clear hl
    go_wp2_with fail
    refine (first_then HB1.out HB1.out.size).mono ?_
    rintro e w2 ⟨rfl, hb2, _⟩
    have HB2 := Lib.hid hb2
    clear hb2
    go_wp2_with fail
    go_ret
    exact ⟨rfl, HB2.out⟩
theorem deltaShort_walk (a0 : Option Addr) (len0 cap0 : Nat) (z0 : List Int) (w : World) (w0 : IsRow .u8 w a0 len0 cap0 z0) : Calls Try.prog 7 #[.slice a0 len0 cap0] w (Yes w) := by
  obtain ⟨bs, _, h⟩ := w0.sl
  exact short_any _ bs w h
end Go.Proofs.Ythphplmcojdpeaa
