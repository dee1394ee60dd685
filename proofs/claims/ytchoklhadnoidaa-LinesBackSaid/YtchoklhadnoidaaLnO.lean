/- LinesBack: the walk. -/
import Derived.Test.YtchoklhadnoidaaLnM
import Derived.Test.YtchoklhadnoidaaLnN
import Derived.Test.YtchoklhadnoidaaTn0
set_option linter.unusedVariables false
set_option linter.unusedSimpArgs false
namespace Go.Proofs.Ytchoklhadnoidaa.Ln
open Go.RowKit Go.Proofs.Ytchoklhadnoidaa.Sh Go.Proofs.Ytchoklhadnoidaa.Tx

set_option maxRecDepth 100000 in
set_option maxHeartbeats 6400000 in
theorem back_in (v0 v1 : Value) (a b : List UInt8) (w : World) (h1 : SlV w v0 (a.map bv)) (h2 : SlV w v1 (b.map bv)) : Calls Try.prog 6 #[v0, v1] w (Yes w) := by
  have H1 := Lib.hid h1
  have H2 := Lib.hid h2
  obtain ⟨A0, c0, rfl, hl0, hm0, _⟩ := h1.len
  obtain ⟨A1, c1, rfl, hl1, hm1, _⟩ := h2.len
  unfold maxLen at hm0 hm1
  simp only [List.length_map] at H1 H2 hl0 hl1 ⊢
  obtain ⟨la, hla⟩ : ∃ n, a.length = n := ⟨_, rfl⟩
  obtain ⟨lb, hlb⟩ : ∃ n, b.length = n := ⟨_, rfl⟩
  rw [hla] at H1 hl0 ⊢
  rw [hlb] at H2 hl1 ⊢
  have HLA := Lib.hid hla
  have HLB := Lib.hid hlb
  clear h1 h2 hla hlb
  go_enter Try.func6, Try.ntmps6
  go_wp2_with fail
  refine (first_any w).mono ?_
  rintro e w1 ⟨rfl, hb1⟩
  have HB1 := Lib.hid hb1
  clear hb1
  by_cases ca : (la : Int) > 6000
  · go_wp2_with fail
    refine (first_any w1).mono ?_
    rintro e w2 ⟨rfl, hb2⟩
    have HB2 := Lib.hid (HB1.out.trans (hb2.mono HB1.out.size))
    go_wp2_with fail
    go_ret
    exact ⟨rfl, HB2.out⟩
  by_cases cb : (lb : Int) > 6000
  · go_wp2_with fail
    refine (first_any w1).mono ?_
    rintro e w2 ⟨rfl, hb2⟩
    have HB2 := Lib.hid (HB1.out.trans (hb2.mono HB1.out.size))
    go_wp2_with fail
    go_ret
    exact ⟨rfl, HB2.out⟩
  have HSA : Hid (a.length ≤ 6000) := by unfold Hid; rw [HLA.out]; omega
  have HSB : Hid (b.length ≤ 6000) := by unfold Hid; rw [HLB.out]; omega
  go_wp2_with fail
  refine (split_any _ a w1 (H1.out.below HB1.out) (by have := HSA.out; omega)).mono ?_
  rintro e w2 ⟨vx, rfl, hx, hb2⟩
  have HX := Lib.hid hx.slv
  have HB2 := Lib.hid (HB1.out.trans (hb2.mono HB1.out.size))
  clear hx hb2 HB1
  go_wp2_with fail
  refine (split_any _ b w2 (H2.out.below HB2.out) (by have := HSB.out; omega)).mono ?_
  rintro e w3 ⟨vy, rfl, hy, hb3⟩
  have HY := Lib.hid hy.slv
  have hx3 := HX.out.below hb3
  have HB3 := Lib.hid (HB2.out.trans (hb3.mono HB2.out.size))
  clear hy hb3 HB2 HX
  have hxl := splT_len a
  have hyl := splT_len b
  obtain ⟨Ax, cx, rfl, hx1, hx2, _⟩ := hx3.len
  have hy3 := HY.out
  obtain ⟨Ay, cy, rfl, hy1, hy2, _⟩ := hy3.len
  unfold maxLen at hx2 hy2
  rw [List.length_map] at hx1 hx3 ⊢
  rw [List.length_map] at hy1 hy3 ⊢
  obtain ⟨X, hX⟩ : ∃ X, splT a = X := ⟨_, rfl⟩
  obtain ⟨Y, hY⟩ : ∃ Y, splT b = Y := ⟨_, rfl⟩
  rw [hX] at hx1 hx3 hxl ⊢
  rw [hY] at hy1 hy3 hyl ⊢
  obtain ⟨nx, hnx⟩ : ∃ n, X.length = n := ⟨_, rfl⟩
  obtain ⟨ny, hny⟩ : ∃ n, Y.length = n := ⟨_, rfl⟩
  rw [hnx] at hx1 hx3 hxl ⊢
  rw [hny] at hy1 hy3 hyl ⊢
  have HX := Lib.hid hx3
  have HY3 := Lib.hid hy3
  have HXE := Lib.hid hX
  have HNX := Lib.hid hnx
  have HNY := Lib.hid hny
  have hnx6 : nx ≤ 6000 := by have := HSA.out; omega
  have hny6 : ny ≤ 6000 := by have := HSB.out; omega
  clear hx3 hy3 HY hX hY hnx hny hxl hyl
  go_wp2_with fail
  go_loopw [7] (fun x wr => ∃ i : Nat, i ≤ nx ∧ x = .int .i64 (i : Int) ∧ Below w3.heap.size w3 wr) (fun x _ => nx - (intOf x).toNat)
  case atStart => exact ⟨0, Nat.zero_le _, rfl, Below.refl _ _⟩
  case round =>
    obtain ⟨i, hi, rfl, hb⟩ := hrel
    have HB := Lib.hid hb
    have HBW := Lib.hid (HB3.out.trans (hb.mono HB3.out.size))
    clear hb
    have z0 : (0 : Int) ≤ (i : Int) := by omega
    by_cases hlt : i < nx
    · have z1 : (i : Int) < (nx : Int) := by omega
      have hil : i < X.length := by rw [HNX.out]; exact hlt
      obtain ⟨s, hs⟩ : ∃ s, X[i]? = some s := ⟨_, List.getElem?_eq_getElem hil⟩
      obtain ⟨l, hl, rfl⟩ : ∃ l, (splL a)[i]? = some l ∧ str l = s := by
        have h := hs
        rw [← HXE.out] at h
        unfold splT at h
        rw [List.getElem?_map] at h
        exact Option.map_eq_some_iff.1 h
      obtain ⟨g1, g2, g3⟩ := spl_line a i l hl
      have hlen : (splL a).length = nx := by
        have h := HNX.out
        rw [← HXE.out] at h
        unfold splT at h
        rwa [List.length_map] at h
      rw [hlen] at g3
      obtain ⟨q, hq⟩ : ∃ q, l.length = q + 1 := ⟨l.length - 1, by have := List.length_pos_iff.2 g1; omega⟩
      rw [hq, Nat.add_sub_cancel] at g2 g3
      have hsz : (str l).size = q + 1 := by rw [str_size, hq]
      obtain ⟨ad, rfl, x0⟩ := texts_cell (HX.out.below HB.out) i (str l) hs
      have hq6 : q ≤ 1000000 := by
        have h1 := spl_join a
        have h2 : l.length ≤ (splL a).flatten.length := by
          exact (List.sublist_flatten_of_mem (List.mem_of_getElem? hl)).length_le
        rw [h1] at h2
        have := HSA.out
        omega
      have HSP : Hid (∀ W, Calls Try.prog 28 #[.string ((str l).extract 0 q), .int .u8 10] W fun e w' => ∃ A c, e = .returned (.slice A 1 c) ∧ Below W.heap.size W w') := by
        intro W
        have h := rsplit_any (l.take q) 10 W (by rw [List.length_take]; omega)
        rw [splitL_none g2, bi10] at h
        rw [slice_str, List.drop_zero]
        refine h.mono ?_
        rintro e w' ⟨v, rfl, ho, hb⟩
        obtain ⟨A, c, rfl, _⟩ := ho.length
        exact ⟨A, c, rfl, hb⟩
      by_cases hlast : i + 1 < nx
      · have hix : ∀ W, (Instr.index 9 (.string (str l)) (.int .i64 (q : Int))).run Try.prog W = .ok (.int .u8 10) W := fun W => by
          have h := index_str l q (by omega) W
          rw [List.getD_eq_getElem?_getD, g3 hlast] at h
          rw [h]
          show Result.ok (Value.int .u8 (bi 10)) W = _
          rw [bi10]
        have y1 : (i : Int) < (nx : Int) - 1 := by omega
        clear hs hl g1 g2 g3 hlen hq hil
        go_wp2_with fail
        refine (HSP.out wr).mono ?_
        rintro e w4 ⟨A4, c4, rfl, hb4⟩
        have HB4 := Lib.hid (HB.out.trans (hb4.mono HB.out.size))
        clear hb4
        go_wp2_with fail
        go_roundw
        case rel => exact ⟨i + 1, by omega, by go_num, HB4.out⟩
        case measure => simp [intOf]; omega
      · have y1 : ¬ (i : Int) < (nx : Int) - 1 := by omega
        clear hs hl g1 g2 g3 hlen hq hil
        go_wp2_with fail
        refine (HSP.out wr).mono ?_
        rintro e w4 ⟨A4, c4, rfl, hb4⟩
        have HB4 := Lib.hid (HB.out.trans (hb4.mono HB.out.size))
        clear hb4
        go_wp2_with fail
        go_roundw
        case rel => exact ⟨i + 1, by omega, by go_num, HB4.out⟩
        case measure => simp [intOf]; omega
    · have hin : nx = i := by omega
      subst hin
      have HJ : Hid (joinB X = a) := by unfold Hid; rw [← HXE.out, join_spl]
      go_wp2_with fail
      refine (join_any _ X wr (HX.out.below HB.out) (by rw [HJ.out]; have := HSA.out; omega)).mono ?_
      rintro e w4 ⟨vj, rfl, hj, hb4⟩
      rw [HJ.out] at hj
      have HVJ := Lib.hid hj.slv
      have HB34 := Lib.hid (HB.out.trans (hb4.mono HB.out.size))
      have HB4 := Lib.hid (HBW.out.trans (hb4.mono HBW.out.size))
      clear hj hb4 HB HBW
      go_wp2_with fail
      refine (bytes_any vj _ a a w4 HVJ.out (H1.out.below HB4.out)).mono ?_
      rintro e w5 ⟨rfl, rfl⟩
      rw [beq_self_eq_true]
      go_wp2_with fail
      refine (diff_any _ _ X Y w4 (HX.out.below HB34.out) (HY3.out.below HB34.out)).mono ?_
      rintro e w5 ⟨vd, rfl, hd, hb5⟩
      have HD := Lib.hid hd.sl
      have HB35 := Lib.hid (HB34.out.trans (hb5.mono HB34.out.size))
      have HB5 := Lib.hid (HB4.out.trans (hb5.mono HB4.out.size))
      clear hd hb5 HB34 HB4
      by_cases h200 : X.length ≤ 200 ∧ Y.length ≤ 200
      · have eE : mErr X Y = 0 := if_pos h200
        rw [eE]
        obtain ⟨b1, b2, b3, b4⟩ := back_eds h200.1 h200.2
        have hself := dEds_self h200.1
        have eS : mErr X X = 0 := if_pos ⟨h200.1, h200.1⟩
        have hp := fun W (hW : Below w5.heap.size w5 W) => patch_any _ vd X (dEds X Y) W ((HX.out.below HB35.out).below hW) (HD.out.below hW) b3 (by omega)
        unfold PatP at hp
        rw [b1, b2] at hp
        have hd := fun W (hW : Below w3.heap.size w3 W) => diff_any _ _ X X W (HX.out.below hW) (HX.out.below hW)
        unfold DifP at hd
        rw [hself, eS] at hd
        have HP := Lib.hid hp
        have HDD := Lib.hid hd
        clear hp hd b1 b2 b3 b4 hself eS eE h200
        go_wp2_with fail
        refine (HP.out w5 (Below.refl _ _)).mono ?_
        rintro e w6 ⟨vp, rfl, hvp, hb6⟩
        have HVP := Lib.hid hvp.slv
        have HB36 := Lib.hid (HB35.out.trans (hb6.mono HB35.out.size))
        have HB6 := Lib.hid (HB5.out.trans (hb6.mono HB5.out.size))
        clear hvp hb6 HB35 HB5 HP
        go_wp2_with fail
        refine (HDD.out w6 HB36.out).mono ?_
        rintro e w7 ⟨vz, rfl, hz, hb7⟩
        obtain ⟨Az, cz, rfl, _⟩ := hz.slice
        have HVP7 := Lib.hid (HVP.out.below hb7)
        have HB37 := Lib.hid (HB36.out.trans (hb7.mono HB36.out.size))
        have HB7 := Lib.hid (HB6.out.trans (hb7.mono HB6.out.size))
        clear hz hb7 HB36 HB6 HDD HVP
        go_wp2_with fail
        refine (first_any w7).mono ?_
        rintro e w8 ⟨rfl, hb8⟩
        have HVP8 := Lib.hid (HVP7.out.below hb8)
        have HB38 := Lib.hid (HB37.out.trans (hb8.mono HB37.out.size))
        have HB8 := Lib.hid (HB7.out.trans (hb8.mono HB7.out.size))
        clear hb8
        go_wp2_with fail
        refine (texts_same vp _ Y w8 HVP8.out (HY3.out.below HB38.out)).mono ?_
        rintro e w9 ⟨rfl, hb9⟩
        have HB9 := Lib.hid (HB8.out.trans (hb9.mono HB8.out.size))
        clear hb9
        go_wp2_with fail
        go_ret
        exact ⟨rfl, HB9.out⟩
      · have eE : mErr X Y = 14 := if_neg h200
        rw [eE]
        rw [HNX.out, HNY.out] at h200
        clear eE
        go_wp2_with fail
        refine (first_any w5).mono ?_
        rintro e w6 ⟨rfl, hb6⟩
        have HB6 := Lib.hid (HB5.out.trans (hb6.mono HB5.out.size))
        clear hb6
        by_cases q1 : (nx : Int) > 200
        · go_wp2_with fail
          go_ret
          exact ⟨rfl, HB6.out⟩
        · have q2 : (ny : Int) > 200 := by omega
          go_wp2_with fail
          go_ret
          exact ⟨rfl, HB6.out⟩
theorem linesBack_walk (a0 : Option Addr) (len0 cap0 : Nat) (z0 : List Int) (a1 : Option Addr) (len1 cap1 : Nat) (z1 : List Int) (w : World) (w0 : IsRow .u8 w a0 len0 cap0 z0) (w1 : IsRow .u8 w a1 len1 cap1 z1) : Calls Try.prog 6 #[.slice a0 len0 cap0, .slice a1 len1 cap1] w (Yes w) := by
  obtain ⟨a, _, h1⟩ := w0.bytes
  obtain ⟨b, _, h2⟩ := w1.bytes
  exact back_in _ _ a b w h1 h2
end Go.Proofs.Ytchoklhadnoidaa.Ln
