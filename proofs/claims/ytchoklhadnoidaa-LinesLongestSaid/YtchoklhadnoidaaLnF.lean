/- LinesMatches: the walk. -/
import Derived.Test.YtchoklhadnoidaaLnD
import Derived.Test.YtchoklhadnoidaaLnE
set_option linter.unusedVariables false
set_option linter.unusedSimpArgs false
namespace Go.Proofs.Ytchoklhadnoidaa.Ln
open Go.RowKit Go.Proofs.Ytchoklhadnoidaa.Sh Go.Proofs.Ytchoklhadnoidaa.Tx

theorem few_len {ls : List ByteArray} (h : fewB ls = true) : ls.length ≤ 220 := by
  unfold fewB at h
  simp at h
  exact h.1
theorem few_cases (ls : List ByteArray) : fewB ls = true ∨ fewB ls = false := by cases fewB ls <;> simp
set_option maxRecDepth 100000 in
set_option maxHeartbeats 3200000 in
theorem matches_in (v0 v1 : Value) (a b : List ByteArray) (w : World) (h1 : SlV w v0 (a.map sv)) (h2 : SlV w v1 (b.map sv)) (m1 : ∀ s ∈ a, s.size ≤ maxLen) (m2 : ∀ s ∈ b, s.size ≤ maxLen) :
    Calls Try.prog 4 #[v0, v1] w (Yes w) := by
  have H1 := Lib.hid h1
  have H2 := Lib.hid h2
  have M1 := Lib.hid m1
  have M2 := Lib.hid m2
  clear h1 h2 m1 m2
  go_enter Try.func4, Try.ntmps4
  go_wp2_with fail
  refine (first_any w).mono ?_
  rintro e w1 ⟨rfl, hb1⟩
  have HB1 := Lib.hid hb1
  clear hb1
  go_wp2_with fail
  refine (few_any _ a w1 (H1.out.below HB1.out) M1.out).mono ?_
  rintro e w1' ⟨rfl, rfl⟩
  rcases few_cases a with fa | fa
  · rw [fa]
    go_wp2_with fail
    refine (few_any _ b w1 (H2.out.below HB1.out) M2.out).mono ?_
    rintro e w1' ⟨rfl, rfl⟩
    rcases few_cases b with fb | fb
    · rw [fb]
      have ha := few_len fa
      have hb := few_len fb
      go_wp2_with fail
      refine (copyt_any _ a w1 (H1.out.below HB1.out) (by omega)).mono ?_
      rintro e w2 ⟨vx, rfl, hx, hb2⟩
      have HX := Lib.hid hx.slv
      have HB2 := Lib.hid (HB1.out.trans (hb2.mono HB1.out.size))
      clear hx hb2 HB1
      go_wp2_with fail
      refine (copyt_any _ b w2 (H2.out.below HB2.out) (by omega)).mono ?_
      rintro e w3 ⟨vy, rfl, hy, hb3⟩
      have HY := Lib.hid hy.slv
      have HX3 := Lib.hid (HX.out.below hb3)
      have HB3 := Lib.hid (HB2.out.trans (hb3.mono HB2.out.size))
      clear hy hb3 HB2 HX
      go_wp2_with fail
      refine (match_any vx vy a b w3 HX3.out HY.out).mono ?_
      rintro e w4 ⟨vp, rfl, hp, hb4⟩
      have HP := Lib.hid hp.sl
      have H34 := Lib.hid hb4
      have HB4 := Lib.hid (HB3.out.trans (hb4.mono HB3.out.size))
      clear hp hb4
      go_wp2_with fail
      refine (rmatch_any _ _ a b w4 (H1.out.below HB4.out) (H2.out.below HB4.out)).mono ?_
      rintro e w5 ⟨vq, rfl, hq, hb5⟩
      have HQ := Lib.hid hq.sl
      have HP5 := Lib.hid (HP.out.below hb5)
      have H35 := Lib.hid (H34.out.trans (hb5.mono H34.out.size))
      have HB5 := Lib.hid (HB4.out.trans (hb5.mono HB4.out.size))
      clear hq hb5 HP
      go_wp2_with fail
      refine (diff_any vx vy a b w5 (HX3.out.below H35.out) (HY.out.below H35.out)).mono ?_
      rintro e w6 ⟨vd, rfl, hd, hb6⟩
      have HD := Lib.hid hd.sl
      have HB56 := Lib.hid hb6
      have H36 := Lib.hid (H35.out.trans (hb6.mono H35.out.size))
      have HB6 := Lib.hid (HB5.out.trans (hb6.mono HB5.out.size))
      clear hd hb6
      go_wp2_with fail
      refine (rdiff_any _ _ a b w6 (H1.out.below HB6.out) (H2.out.below HB6.out)).mono ?_
      rintro e w7 ⟨vc, rfl, hc, hb7⟩
      have HC := Lib.hid hc.sl
      have H57 := Lib.hid (HB56.out.trans (hb7.mono HB56.out.size))
      have H67 := Lib.hid hb7
      have H37 := Lib.hid (H36.out.trans (hb7.mono H36.out.size))
      have HB7 := Lib.hid (HB6.out.trans (hb7.mono HB6.out.size))
      clear hc hb7
      go_wp2_with fail
      refine (first_any w7).mono ?_
      rintro e w8 ⟨rfl, hb8⟩
      have H58 := Lib.hid (H57.out.trans (hb8.mono H57.out.size))
      have H68 := Lib.hid (H67.out.trans (hb8.mono H67.out.size))
      have H78 := Lib.hid hb8
      have H38 := Lib.hid (H37.out.trans (hb8.mono H37.out.size))
      have HB8 := Lib.hid (HB7.out.trans (hb8.mono HB7.out.size))
      clear hb8
      go_wp2_with fail
      refine (pairs_any vp vq _ w8 (HP5.out.below H58.out) (HQ.out.below H58.out)).mono ?_
      rintro e w9 ⟨rfl, hb9⟩
      have H69 := Lib.hid (H68.out.trans (hb9.mono H68.out.size))
      have H79 := Lib.hid (H78.out.trans (hb9.mono H78.out.size))
      have H39 := Lib.hid (H38.out.trans (hb9.mono H38.out.size))
      have HB9 := Lib.hid (HB8.out.trans (hb9.mono HB8.out.size))
      clear hb9
      go_wp2_with fail
      refine (eds_any vd vc _ w9 (HD.out.below H69.out) (HC.out.below H79.out)).mono ?_
      rintro e w10 ⟨rfl, hb10⟩
      have H310 := Lib.hid (H39.out.trans (hb10.mono H39.out.size))
      have HB10 := Lib.hid (HB9.out.trans (hb10.mono HB9.out.size))
      clear hb10
      go_wp2_with fail
      refine (texts_same vx _ a w10 (HX3.out.below H310.out) (H1.out.below HB10.out)).mono ?_
      rintro e w11 ⟨rfl, hb11⟩
      have H311 := Lib.hid (H310.out.trans (hb11.mono H310.out.size))
      have HB11 := Lib.hid (HB10.out.trans (hb11.mono HB10.out.size))
      clear hb11
      go_wp2_with fail
      refine (texts_same vy _ b w11 (HY.out.below H311.out) (H2.out.below HB11.out)).mono ?_
      rintro e w12 ⟨rfl, hb12⟩
      have HB12 := Lib.hid (HB11.out.trans (hb12.mono HB11.out.size))
      clear hb12
      go_wp2_with fail
      go_ret
      exact ⟨rfl, HB12.out⟩
    · rw [fb]
      go_wp2_with fail
      refine (first_any w1).mono ?_
      rintro e w2 ⟨rfl, hb2⟩
      have HB2 := Lib.hid (HB1.out.trans (hb2.mono HB1.out.size))
      go_wp2_with fail
      go_ret
      exact ⟨rfl, HB2.out⟩
  · rw [fa]
    go_wp2_with fail
    refine (first_any w1).mono ?_
    rintro e w2 ⟨rfl, hb2⟩
    have HB2 := Lib.hid (HB1.out.trans (hb2.mono HB1.out.size))
    go_wp2_with fail
    go_ret
    exact ⟨rfl, HB2.out⟩
theorem linesMatches_walk (a0 : Option Addr) (len0 cap0 : Nat) (z0 : List ByteArray) (a1 : Option Addr) (len1 cap1 : Nat) (z1 : List ByteArray) (w : World) (w0 : IsTexts w a0 len0 cap0 z0) (w1 : IsTexts w a1 len1 cap1 z1) :
    Calls Try.prog 4 #[.slice a0 len0 cap0, .slice a1 len1 cap1] w (Yes w) := by
  obtain ⟨a, ha, h1, m1⟩ := w0.slv
  obtain ⟨b, hb, h2, m2⟩ := w1.slv
  exact matches_in _ _ a b w h1 h2 m1 m2
end Go.Proofs.Ytchoklhadnoidaa.Ln
