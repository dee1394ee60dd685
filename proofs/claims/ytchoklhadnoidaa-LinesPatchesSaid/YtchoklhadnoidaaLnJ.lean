/- LinesPatches: the walk. -/
import Derived.Test.YtchoklhadnoidaaLnE
import Derived.Test.YtchoklhadnoidaaLnF
import Derived.Test.YtchoklhadnoidaaLnI
set_option linter.unusedVariables false
set_option linter.unusedSimpArgs false
namespace Go.Proofs.Ytchoklhadnoidaa.Ln
open Go.RowKit Go.Proofs.Ytchoklhadnoidaa.Sh Go.Proofs.Ytchoklhadnoidaa.Tx

set_option maxRecDepth 100000 in
set_option maxHeartbeats 3200000 in
theorem patches_in (v0 v1 : Value) (a : List ByteArray) (l : List EdI) (w : World) (h1 : SlV w v0 (a.map sv)) (h2 : SlEd w v1 l) (m1 : ∀ s ∈ a, s.size ≤ maxLen) (m2 : ∀ e ∈ l, WfE e ∧ ∀ s ∈ e.ins, s.size ≤ maxLen) :
    Calls Try.prog 5 #[v0, v1] w (Yes w) := by
  have H1 := Lib.hid h1
  have H2 := Lib.hid h2
  have M1 := Lib.hid m1
  have M2 := Lib.hid m2
  obtain ⟨A2, c2, rfl, hl2, hm2⟩ := h2.slice
  unfold maxLen at hm2
  obtain ⟨n, hn⟩ : ∃ n, l.length = n := ⟨_, rfl⟩
  rw [hn] at H2 hl2 ⊢
  have HN := Lib.hid hn
  clear h1 h2 m1 m2 hn
  go_enter Try.func5, Try.ntmps5
  go_wp2_with fail
  refine (first_any w).mono ?_
  rintro e w1 ⟨rfl, hb1⟩
  have HB1 := Lib.hid hb1
  clear hb1
  go_wp2_with fail
  refine (few_any _ a w1 (H1.out.below HB1.out) M1.out).mono ?_
  rintro e w1' ⟨rfl, rfl⟩
  rcases few_cases a with fa | fa
  · rw [fa]
    have ha := few_len fa
    by_cases hn100 : (n : Int) > 100
    · go_wp2_with fail
      refine (first_any w1).mono ?_
      rintro e w2 ⟨rfl, hb2⟩
      have HB2 := Lib.hid (HB1.out.trans (hb2.mono HB1.out.size))
      go_wp2_with fail
      go_ret
      exact ⟨rfl, HB2.out⟩
    · go_wp2_with fail
      go_loopw [5, 6, 7] (fun v x y wr => ∃ (k : Nat) (L : List (EdI × Value)), k ≤ n ∧ x = .int .i64 (insN (l.take k) : Int) ∧ y = .int .i64 (k : Int) ∧ insN (l.take k) ≤ 220 * k ∧ L.map Prod.fst = l.take k ∧ OwnK 3 50 wr w1.heap.size v (L.map edC) ∧ (∀ q ∈ L, ∀ W, Below w1.heap.size w1 W → SlV W q.2 (q.1.ins.map sv)) ∧ Below w1.heap.size w1 wr) (fun _ _ y _ => n - (intOf y).toNat)
      case atStart => exact ⟨0, [], Nat.zero_le _, rfl, rfl, Nat.zero_le _, rfl, OwnK.nil_ _ _ _ _, (fun q hq => by cases hq), Below.refl _ _⟩
      case round =>
        obtain ⟨k, L, hk, rfl, rfl, hsm, hL, ho, hd, hb⟩ := hrel
        have HB := Lib.hid hb
        have HO := Lib.hid ho
        have HL := Lib.hid hL
        have HD := Lib.hid hd
        have HBW := Lib.hid (HB1.out.trans (hb.mono HB1.out.size))
        have HLL : Hid (L.length ≤ k) := by
          unfold Hid
          have h := congrArg List.length hL
          rw [List.length_map, List.length_take] at h
          omega
        clear hb ho hL hd
        have z0 : (0 : Int) ≤ (k : Int) := by omega
        by_cases hlt : k < n
        · have z1 : (k : Int) < (n : Int) := by omega
          have hkl : k < l.length := by rw [HN.out]; exact hlt
          obtain ⟨e, he⟩ : ∃ e, l[k]? = some e := ⟨_, List.getElem?_eq_getElem hkl⟩
          obtain ⟨ad, d, rfl, hst⟩ := (H2.out.below HB1.out).stay k e he
          obtain ⟨x0, x1, x2, hsv⟩ := hst wr HB.out
          obtain ⟨Ad, cd, rfl, _⟩ := hsv.len
          have hfew := few_any _ e.ins wr hsv (M2.out e (List.mem_of_getElem? he)).2
          have hin := insN_next he
          have htk : l.take (k + 1) = l.take k ++ [e] := by rw [List.take_add_one, he]; rfl
          obtain ⟨ea, ed, ei⟩ := e
          dsimp only at x0 x1 x2 hin hst hfew
          simp only [List.length_map] at x2 hst hfew
          have HFEW := Lib.hid hfew
          rcases few_cases ei with fi | fi
          · have hei := few_len fi
            rw [fi] at HFEW
            obtain ⟨el, hel⟩ : ∃ x, ei.length = x := ⟨_, rfl⟩
            rw [hel] at x2 hst hin HFEW hei
            have HST := Lib.hid hst
            have HTK := Lib.hid htk
            have HIN := Lib.hid hin
            have HSC : Hid (∀ W, Below w1.heap.size w1 W → W.cell? (ad.add (k * 3)) = some (.int .i64 ea) ∧ W.cell? ⟨(ad.add (k * 3)).block, (ad.add (k * 3)).off + 1, none⟩ = some (.int .i64 ed) ∧ W.cell? ⟨(ad.add (k * 3)).block, (ad.add (k * 3)).off + 2, none⟩ = some (.slice Ad el cd)) := fun W hW => ⟨(hst W hW).1, (hst W hW).2.1, (hst W hW).2.2.1⟩
            have HONE : Hid (∀ y ∈ ([.int .i64 ea, .int .i64 ed, .slice Ad el cd] : List Value), y.oneCell' = true) := by
              intro y hy
              simp at hy
              rcases hy with rfl | rfl | rfl <;> rfl
            obtain ⟨N, hN⟩ : ∃ N, insN (l.take k) = N := ⟨_, rfl⟩
            rw [hN] at hsm HIN ⊢
            have hNs : ((N : Int) + (el : Int)) ≤ 100000 := by omega
            clear hkl he hsv hst htk hin hfew hel hN
            go_wp2_with fail
            refine HFEW.out.mono ?_
            rintro e w2 ⟨rfl, rfl⟩
            go_wp2_with fail
            -- STEPS
            refine wp_region_held_drew (S := (fun W => W.cell? (ad.add (k * 3)) = some (.int .i64 ea) ∧ W.cell? ⟨(ad.add (k * 3)).block, (ad.add (k * 3)).off + 1, none⟩ = some (.int .i64 ed) ∧ W.cell? ⟨(ad.add (k * 3)).block, (ad.add (k * 3)).off + 2, none⟩ = some (.slice Ad el cd))) (by kernel_rfl) ?_ (fun hHeld => ?_)
            · try dsimp only
              exact HSC.out _ HB.out.drew
            refine take_at (i := 0) (d := 45) (v := ?_) rfl (by kernel_rfl) (by kernel_rfl) (by kernel_rfl) (by kernel_rfl) (fun _ _ _ h => h) (Or.inl ⟨by kernel_rfl, ?_⟩) (by assumption) ?_
            rotate_left
            · intro W hSw
              try dsimp only at hSw
              go_simp
              first | done | with_reducible rfl
            try simp only [Act.put, List.setIfInBounds_toArray, List.set_cons_zero, List.set_cons_succ]
            refine take_at (i := 1) (d := 46) (v := ?_) rfl (by kernel_rfl) (by kernel_rfl) (by kernel_rfl) (by kernel_rfl) (fun _ _ _ h => h) (Or.inl ⟨by kernel_rfl, ?_⟩) (by assumption) ?_
            rotate_left
            · intro W hSw
              try dsimp only at hSw
              go_simp
              first | done | with_reducible rfl
            try simp only [Act.put, List.setIfInBounds_toArray, List.set_cons_zero, List.set_cons_succ]
            refine take_at (i := 2) (d := 47) (v := ?_) rfl (by kernel_rfl) (by kernel_rfl) (by kernel_rfl) (by kernel_rfl) (fun _ _ _ h => h) (Or.inl ⟨by kernel_rfl, ?_⟩) (by assumption) ?_
            rotate_left
            · intro W hSw
              try dsimp only at hSw
              go_simp
              first | done | with_reducible rfl
            try simp only [Act.put, List.setIfInBounds_toArray, List.set_cons_zero, List.set_cons_succ]
            refine take_at (i := 3) (d := 48) (v := ?_) rfl (by kernel_rfl) (by kernel_rfl) (by kernel_rfl) (by kernel_rfl) (fun _ _ _ h => h) (Or.inl ⟨by kernel_rfl, ?_⟩) (by assumption) ?_
            rotate_left
            · intro W hSw
              try dsimp only at hSw
              go_simp
              first | done | with_reducible rfl
            try simp only [Act.put, List.setIfInBounds_toArray, List.set_cons_zero, List.set_cons_succ]
            refine take_at (i := 4) (d := 49) (v := ?_) rfl (by kernel_rfl) (by kernel_rfl) (by kernel_rfl) (by kernel_rfl) (fun _ _ _ h => h) (Or.inl ⟨by kernel_rfl, ?_⟩) (by assumption) ?_
            rotate_left
            · intro W hSw
              try dsimp only at hSw
              go_simp
              first | done | with_reducible rfl
            try simp only [Act.put, List.setIfInBounds_toArray, List.set_cons_zero, List.set_cons_succ]
            refine take_at (i := 5) (d := 50) (v := ?_) rfl (by kernel_rfl) (by kernel_rfl) (by kernel_rfl) (by kernel_rfl) (fun _ _ _ h => h) (Or.inl ⟨by kernel_rfl, ?_⟩) (by assumption) ?_
            rotate_left
            · intro W hSw
              try dsimp only at hSw
              obtain ⟨q0, q1, q2⟩ := hSw
              go_simp
              first | done | with_reducible rfl
            try simp only [Act.put, List.setIfInBounds_toArray, List.set_cons_zero, List.set_cons_succ]
            refine take_at (i := 6) (d := 51) (v := ?_) rfl (by kernel_rfl) (by kernel_rfl) (by kernel_rfl) (by kernel_rfl) (fun _ _ _ h => h) (Or.inl ⟨by kernel_rfl, ?_⟩) (by assumption) ?_
            rotate_left
            · intro W hSw
              try dsimp only at hSw
              go_simp
              first | done | with_reducible rfl
            try simp only [Act.put, List.setIfInBounds_toArray, List.set_cons_zero, List.set_cons_succ]
            refine take_at (i := 7) (d := 52) (v := ?_) rfl (by kernel_rfl) (by kernel_rfl) (by kernel_rfl) (by kernel_rfl) (fun _ _ _ h => h) (Or.inl ⟨by kernel_rfl, ?_⟩) (by assumption) ?_
            rotate_left
            · intro W hSw
              try dsimp only at hSw
              go_simp
              first | done | with_reducible rfl
            try simp only [Act.put, List.setIfInBounds_toArray, List.set_cons_zero, List.set_cons_succ]
            refine take_at (i := 8) (d := 53) (v := ?_) rfl (by kernel_rfl) (by kernel_rfl) (by kernel_rfl) (by kernel_rfl) (fun _ _ _ h => h) (Or.inl ⟨by kernel_rfl, ?_⟩) (by assumption) ?_
            rotate_left
            · intro W hSw
              try dsimp only at hSw
              go_simp
              first | done | with_reducible rfl
            try simp only [Act.put, List.setIfInBounds_toArray, List.set_cons_zero, List.set_cons_succ]
            refine take_at (i := 9) (d := 54) (v := ?_) rfl (by kernel_rfl) (by kernel_rfl) (by kernel_rfl) (by kernel_rfl) (fun _ _ _ h => h) (Or.inl ⟨by kernel_rfl, ?_⟩) (by assumption) ?_
            rotate_left
            · intro W hSw
              try dsimp only at hSw
              go_simp
              first | done | with_reducible rfl
            try simp only [Act.put, List.setIfInBounds_toArray, List.set_cons_zero, List.set_cons_succ]
            refine take_at (i := 10) (d := 55) (v := ?_) rfl (by kernel_rfl) (by kernel_rfl) (by kernel_rfl) (by kernel_rfl) (fun _ _ _ h => h) (Or.inl ⟨by kernel_rfl, ?_⟩) (by assumption) ?_
            rotate_left
            · intro W hSw
              try dsimp only at hSw
              obtain ⟨q0, q1, q2⟩ := hSw
              go_simp
              first | done | with_reducible rfl
            try simp only [Act.put, List.setIfInBounds_toArray, List.set_cons_zero, List.set_cons_succ]
            refine take_at (i := 11) (d := 56) (v := ?_) rfl (by kernel_rfl) (by kernel_rfl) (by kernel_rfl) (by kernel_rfl) (fun _ _ _ h => h) (Or.inl ⟨by kernel_rfl, ?_⟩) (by assumption) ?_
            rotate_left
            · intro W hSw
              try dsimp only at hSw
              go_simp
              first | done | with_reducible rfl
            try simp only [Act.put, List.setIfInBounds_toArray, List.set_cons_zero, List.set_cons_succ]
            refine take_at (i := 12) (d := 57) (v := ?_) rfl (by kernel_rfl) (by kernel_rfl) (by kernel_rfl) (by kernel_rfl) (fun _ _ _ h => h) (Or.inl ⟨by kernel_rfl, ?_⟩) (by assumption) ?_
            rotate_left
            · intro W hSw
              try dsimp only at hSw
              go_simp
              first | done | with_reducible rfl
            try simp only [Act.put, List.setIfInBounds_toArray, List.set_cons_zero, List.set_cons_succ]
            refine take_at (i := 13) (d := 58) (v := ?_) rfl (by kernel_rfl) (by kernel_rfl) (by kernel_rfl) (by kernel_rfl) (fun _ _ _ h => h) (Or.inl ⟨by kernel_rfl, ?_⟩) (by assumption) ?_
            rotate_left
            · intro W hSw
              try dsimp only at hSw
              go_simp
              first | done | with_reducible rfl
            try simp only [Act.put, List.setIfInBounds_toArray, List.set_cons_zero, List.set_cons_succ]
            refine take_at (i := 14) (d := 59) (v := ?_) rfl (by kernel_rfl) (by kernel_rfl) (by kernel_rfl) (by kernel_rfl) (fun _ _ _ h => h) (Or.inl ⟨by kernel_rfl, ?_⟩) (by assumption) ?_
            rotate_left
            · intro W hSw
              try dsimp only at hSw
              go_simp
              first | done | with_reducible rfl
            try simp only [Act.put, List.setIfInBounds_toArray, List.set_cons_zero, List.set_cons_succ]
            refine take_at (i := 15) (d := 60) (v := ?_) rfl (by kernel_rfl) (by kernel_rfl) (by kernel_rfl) (by kernel_rfl) (fun _ _ _ h => h) (Or.inl ⟨by kernel_rfl, ?_⟩) (by assumption) ?_
            rotate_left
            · intro W hSw
              try dsimp only at hSw
              obtain ⟨q0, q1, q2⟩ := hSw
              go_simp
              first | done | with_reducible rfl
            try simp only [Act.put, List.setIfInBounds_toArray, List.set_cons_zero, List.set_cons_succ]
            refine take_at (i := 16) (d := 61) (v := ?_) rfl (by kernel_rfl) (by kernel_rfl) (by kernel_rfl) (by kernel_rfl) (fun _ _ _ h => h) (Or.inl ⟨by kernel_rfl, ?_⟩) (by assumption) ?_
            rotate_left
            · intro W hSw
              try dsimp only at hSw
              go_simp
              first | done | with_reducible rfl
            try simp only [Act.put, List.setIfInBounds_toArray, List.set_cons_zero, List.set_cons_succ]
            refine wpAnyH_ready (rs := [17]) (by kernel_rfl) (by simp) (AllReadyH.cons rfl (fun K hK => ?_) AllReadyH.nil)
            go_simp
            try go_wp2_with fail
            refine hK.out _ _ ?_ (fun hHeld => ?_)
            · try dsimp only
              exact HSC.out _ (HB.out.drew.alloc HB.out.drew.size _)
            clear hK K
            try simp only [Act.put, List.setIfInBounds_toArray, List.set_cons_zero, List.set_cons_succ]
            refine wpAnyH_ready (rs := [18]) (by kernel_rfl) (by simp) (AllReadyH.cons rfl (fun K hK => ?_) AllReadyH.nil)
            rw [show (wr.alloc (.cells #[.int .i64 ea, .int .i64 ed, .slice Ad el cd] 50)).drew = wr.drew.alloc (.cells #[.int .i64 ea, .int .i64 ed, .slice Ad el cd] 50) from rfl]
            refine sapp_row (k := 3) Try.underlying43 info_red rfl (by decide) (by decide) 63 rfl rfl (.tmp 45) (.tmp 62) rfl _ w1.heap.size u5 (L.map edC) (by rfl) (by exact HO.out.below ((Below.refl _ _).drew)) [.int .i64 ea, .int .i64 ed, .slice Ad el cd] rfl (by exact HONE.out) (by rfl) (by rw [List.length_map]; have := HLL.out; omega) (by exact HB.out.drew.size) ?_
            intro v6 w6 ho6 hg6 hb6
            have HB6 := Lib.hid (HB.out.drew.trans hb6)
            have HO6 := Lib.hid ho6
            clear ho6 hb6 hg6
            try go_wp2_with fail
            refine hK.out _ _ ?_ (fun hHeld => ?_)
            · try dsimp only
              exact HSC.out _ HB6.out
            clear hK K
            try simp only [Act.put, List.setIfInBounds_toArray, List.set_cons_zero, List.set_cons_succ]
            refine take_at (i := 19) (d := 5) (v := ?_) rfl (by kernel_rfl) (by kernel_rfl) (by kernel_rfl) (by kernel_rfl) (fun _ _ _ h => h) (Or.inl ⟨by kernel_rfl, ?_⟩) (by assumption) ?_
            rotate_left
            · intro W hSw
              try dsimp only at hSw
              go_simp
              first | done | with_reducible rfl
            try simp only [Act.put, List.setIfInBounds_toArray, List.set_cons_zero, List.set_cons_succ]
            refine wpAnyH_done (by kernel_rfl) ?_ _
            go_wp2_with fail
            go_roundw
            case rel =>
              refine ⟨k + 1, L ++ [(⟨ea, ed, ei⟩, .slice Ad el cd)], by omega, by rw [HIN.out]; go_num, by go_num, by rw [HIN.out]; omega, by rw [List.map_append, HL.out, HTK.out]; rfl, by rw [List.map_append]; exact HO6.out, fun q hq W hW => ?_, HB6.out⟩
              rcases List.mem_append.1 hq with hq | hq
              · exact HD.out q hq W hW
              · rw [List.mem_singleton] at hq
                subst hq
                exact (HST.out W hW).2.2.2
            case measure => simp [intOf]; omega
            -- END STEPS
          · rw [fi] at HFEW
            clear hkl he hsv hst htk hin hfew
            go_wp2_with fail
            refine HFEW.out.mono ?_
            rintro e w2 ⟨rfl, rfl⟩
            go_wp2_with fail
            refine (first_any wr).mono ?_
            rintro e w3 ⟨rfl, hb3⟩
            have HB3 := Lib.hid (HBW.out.trans (hb3.mono HBW.out.size))
            go_wp2_with fail
            go_ret
            exact ⟨rfl, HB3.out⟩
        · obtain rfl : k = n := by omega
          have hT : l.take k = l := List.take_of_length_le (by rw [HN.out]; exact Nat.le_refl _)
          have hL := HL.out
          rw [hT] at hsm hL ⊢
          obtain ⟨N, hN⟩ : ∃ N, insN l = N := ⟨_, rfl⟩
          have HNN := Lib.hid hN
          rw [hN] at hsm ⊢
          have hsx : SlEd wr u5 l := ⟨L, hL, HO.out.sl, fun q hq => HD.out q hq wr HB.out⟩
          have HSX := Lib.hid hsx
          clear hL hT hN hsx HL HO HD
          by_cases hN1 : (N : Int) > 1000
          · go_wp2_with fail
            refine (first_any wr).mono ?_
            rintro e w3 ⟨rfl, hb3⟩
            have HB3 := Lib.hid (HBW.out.trans (hb3.mono HBW.out.size))
            go_wp2_with fail
            go_ret
            exact ⟨rfl, HB3.out⟩
          · have HWF : Hid (∀ e ∈ l, WfE e) := fun e he => (M2.out e he).1
            have HSM : Hid (a.length + insN l ≤ 100000) := by have := HNN.out; unfold Hid; omega
            go_wp2_with fail
            refine (patch_any _ _ a l wr (H1.out.below HBW.out) (H2.out.below HBW.out) HWF.out HSM.out).mono ?_
            rintro e w3 ⟨vp, rfl, hp, hb3⟩
            have HP := Lib.hid hp.slv
            have HB3 := Lib.hid (HBW.out.trans (hb3.mono HBW.out.size))
            have HSX3 := Lib.hid (HSX.out.below hb3)
            clear hp hb3
            go_wp2_with fail
            refine (rpatch_any _ _ a l w3 (H1.out.below HB3.out) HSX3.out HWF.out HSM.out).mono ?_
            rintro e w4 ⟨vq, rfl, hq, hb4⟩
            have HQ := Lib.hid hq.slv
            have HP4 := Lib.hid (HP.out.below hb4)
            have HB4 := Lib.hid (HB3.out.trans (hb4.mono HB3.out.size))
            clear hq hb4
            go_wp2_with fail
            refine (first_any w4).mono ?_
            rintro e w5 ⟨rfl, hb5⟩
            have HQ5 := Lib.hid (HQ.out.below hb5)
            have HP5 := Lib.hid (HP4.out.below hb5)
            have HB5 := Lib.hid (HB4.out.trans (hb5.mono HB4.out.size))
            clear hb5
            go_wp2_with fail
            refine (texts_same vp vq _ w5 HP5.out HQ5.out).mono ?_
            rintro e w6 ⟨rfl, hb6⟩
            have HB6 := Lib.hid (HB5.out.trans (hb6.mono HB5.out.size))
            clear hb6
            go_wp2_with fail
            go_ret
            exact ⟨rfl, HB6.out⟩
  · rw [fa]
    go_wp2_with fail
    refine (first_any w1).mono ?_
    rintro e w2 ⟨rfl, hb2⟩
    have HB2 := Lib.hid (HB1.out.trans (hb2.mono HB1.out.size))
    go_wp2_with fail
    go_ret
    exact ⟨rfl, HB2.out⟩
theorem linesPatches_walk (a0 : Option Addr) (len0 cap0 : Nat) (z0 : List ByteArray) (a1 : Option Addr) (len1 cap1 : Nat) (w : World) (w0 : IsTexts w a0 len0 cap0 z0) (w1 : IsEds w a1 len1 cap1) :
    Calls Try.prog 5 #[.slice a0 len0 cap0, .slice a1 len1 cap1] w (Yes w) := by
  obtain ⟨a, ha, h1, m1⟩ := w0.slv
  obtain ⟨l, hl, h2, m2⟩ := w1
  exact patches_in _ _ a l w h1 h2 m1 m2
end Go.Proofs.Ytchoklhadnoidaa.Ln
