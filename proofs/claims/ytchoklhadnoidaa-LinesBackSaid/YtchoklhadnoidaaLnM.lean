/- LinesTexts: the walk. -/
import Derived.Test.YtchoklhadnoidaaLnE
import Derived.Test.YtchoklhadnoidaaLnL
set_option linter.unusedVariables false
set_option linter.unusedSimpArgs false
namespace Go.Proofs.Ytchoklhadnoidaa.Ln
open Go.RowKit Go.Proofs.Ytchoklhadnoidaa.Sh Go.Proofs.Ytchoklhadnoidaa.Tx

theorem join_spl (bs : List UInt8) : joinB (splT bs) = bs := by
  unfold joinB splT
  rw [List.map_map]
  have e : (splL bs).map (ByteArray.toList ∘ str) = splL bs := by
    refine (List.map_congr_left fun l _ => ?_).trans (List.map_id _)
    exact str_toList l
  rw [e]
  exact spl_join bs
set_option maxRecDepth 100000 in
set_option maxHeartbeats 3200000 in
theorem texts_in14 (v0 : Value) (bs : List UInt8) (w : World) (h : SlV w v0 (bs.map bv)) : Calls Try.prog 3 #[v0] w (Yes w) := by
  have H := Lib.hid h
  obtain ⟨A, c, rfl, hl, hm, _⟩ := h.len
  rw [List.length_map] at H hl ⊢
  unfold maxLen at hm
  obtain ⟨n, hn⟩ : ∃ n, bs.length = n := ⟨_, rfl⟩
  rw [hn] at H hl ⊢
  have HN := Lib.hid hn
  clear h hn
  go_enter Try.func3, Try.ntmps3
  go_wp2_with fail
  refine (first_any w).mono ?_
  rintro e w1 ⟨rfl, hb1⟩
  have HB1 := Lib.hid hb1
  clear hb1
  by_cases hn6 : (n : Int) > 6000
  · go_wp2_with fail
    refine (first_any w1).mono ?_
    rintro e w2 ⟨rfl, hb2⟩
    have HB2 := Lib.hid (HB1.out.trans (hb2.mono HB1.out.size))
    go_wp2_with fail
    go_ret
    exact ⟨rfl, HB2.out⟩
  · have HSM : Hid (bs.length ≤ 6000) := by unfold Hid; rw [HN.out]; omega
    go_wp2_with fail
    refine (copyb_any _ bs w1 (H.out.below HB1.out) (by have := HSM.out; omega)).mono ?_
    rintro e w2 ⟨vi, rfl, hi, hb2⟩
    have HI := Lib.hid hi.slv
    have HB2 := Lib.hid (HB1.out.trans (hb2.mono HB1.out.size))
    clear hi hb2 HB1
    go_wp2_with fail
    refine (split_any vi bs w2 HI.out (by have := HSM.out; omega)).mono ?_
    rintro e w3 ⟨vl, rfl, ho3, hb3⟩
    have HL := Lib.hid ho3.slv
    have HI3 := Lib.hid (HI.out.below hb3)
    have HB3 := Lib.hid (HB2.out.trans (hb3.mono HB2.out.size))
    clear ho3 hb3 HI HB2
    go_wp2_with fail
    refine (first_any w3).mono ?_
    rintro e w4 ⟨rfl, hb4⟩
    have HL4 := Lib.hid (HL.out.below hb4)
    have HI4 := Lib.hid (HI3.out.below hb4)
    have HB4 := Lib.hid (HB3.out.trans (hb4.mono HB3.out.size))
    clear hb4 HL HI3 HB3
    go_wp2_with fail
    refine (text_any vi bs w4 HI4.out).mono ?_
    rintro e w5 ⟨rfl, rfl⟩
    go_wp2_with fail
    refine (rtext_any _ bs w4 (H.out.below HB4.out)).mono ?_
    rintro e w5 ⟨rfl, rfl⟩
    obtain ⟨t, ht⟩ : ∃ t, textB bs = t := ⟨_, rfl⟩
    rw [ht]
    clear ht
    go_wp2_with fail
    refine (rsplit_any14 _ bs w4 (H.out.below HB4.out) (by have := HSM.out; omega)).mono ?_
    rintro e w5 ⟨vm, rfl, ho5, hb5⟩
    have HM := Lib.hid ho5.slv
    have HL5 := Lib.hid (HL4.out.below hb5)
    have HI5 := Lib.hid (HI4.out.below hb5)
    have HB5 := Lib.hid (HB4.out.trans (hb5.mono HB4.out.size))
    clear ho5 hb5 HL4 HI4 HB4
    go_wp2_with fail
    refine (texts_same vl vm _ w5 HL5.out HM.out).mono ?_
    rintro e w6 ⟨rfl, hb6⟩
    have HL6 := Lib.hid (HL5.out.below hb6)
    have HI6 := Lib.hid (HI5.out.below hb6)
    have HB6 := Lib.hid (HB5.out.trans (hb6.mono HB5.out.size))
    clear hb6 HL5 HI5 HB5 HM
    go_wp2_with fail
    refine (join_any vl _ w6 HL6.out (by rw [join_spl]; have := HSM.out; omega)).mono ?_
    rintro e w7 ⟨vj, rfl, hj, hb7⟩
    rw [join_spl] at hj
    have HJ := Lib.hid hj.slv
    have HI7 := Lib.hid (HI6.out.below hb7)
    have HB7 := Lib.hid (HB6.out.trans (hb7.mono HB6.out.size))
    clear hj hb7 HL6 HI6 HB6
    go_wp2_with fail
    refine (bytes_any vj _ bs bs w7 HJ.out (H.out.below HB7.out)).mono ?_
    rintro e w8 ⟨rfl, rfl⟩
    rw [beq_self_eq_true]
    go_wp2_with fail
    refine (bytes_any vi _ bs bs w7 HI7.out (H.out.below HB7.out)).mono ?_
    rintro e w8 ⟨rfl, rfl⟩
    rw [beq_self_eq_true]
    go_wp2_with fail
    go_ret
    exact ⟨rfl, HB7.out⟩
theorem linesTexts_walk (a0 : Option Addr) (len0 cap0 : Nat) (z0 : List Int) (w : World) (w0 : IsRow .u8 w a0 len0 cap0 z0) : Calls Try.prog 3 #[.slice a0 len0 cap0] w (Yes w) := by
  obtain ⟨bs, _, h⟩ := w0.bytes
  exact texts_in14 _ bs w h
end Go.Proofs.Ytchoklhadnoidaa.Ln
