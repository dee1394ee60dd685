/- Chapter 14: Diff, the document's. -/
import Derived.Test.YtchoklhadnoidaaLnB
import Derived.Test.YtchoklhadnoidaaLnC
import Derived.Test.YtchoklhadnoidaaLnS
set_option linter.unusedVariables false
set_option linter.unusedSimpArgs false
namespace Go.Proofs.Ytchoklhadnoidaa.Ln
open Go.RowKit Go.Proofs.Ytchoklhadnoidaa.Sh Go.Proofs.Ytchoklhadnoidaa.Tx

set_option maxRecDepth 100000 in
set_option maxHeartbeats 3200000 in
theorem rdiff_any (v1 v2 : Value) (a b : List ByteArray) (w : World) (h1 : SlV w v1 (a.map sv)) (h2 : SlV w v2 (b.map sv)) :
    Calls Try.prog 23 #[v1, v2] w (DifP 50 w a b) := by
  have HMT := Lib.hid (rmatch_any v1 v2 a b w h1 h2)
  obtain ⟨A1, c1, rfl, hl1, hm1, _⟩ := h1.len
  obtain ⟨A2, c2, rfl, hl2, hm2, _⟩ := h2.len
  rw [List.length_map] at h1 h2 hl1 hl2 HMT ⊢
  rw [List.length_map] at HMT ⊢
  have H1 := Lib.hid h1
  have H2 := Lib.hid h2
  unfold maxLen at hm1 hm2
  unfold DifP
  unfold MatP at HMT
  rcases mErr_cases a b with ⟨eE, eP, eD, ha, hb⟩ | ⟨eE, eP, eD⟩
  · rw [eE, eP] at HMT
    rw [eE, eD]
    have hpl : (prsL 0 0 a b).length ≤ 200 := by
      rw [prs_short _ 0 0 (Nat.le_refl _)]
      have := lenL_le _ a b (Nat.le_refl _)
      omega
    have hup := up_of (a := a) (b := b) (prsL 0 0 a b) 0 0 (prs_ok _ 0 0 (Nat.le_refl _) rfl rfl (Nat.zero_le _) (Nat.zero_le _))
    rw [← difP_of]
    clear eE eP eD
    obtain ⟨R, hR⟩ : ∃ R, prsL 0 0 a b ++ [(a.length, b.length)] = R := ⟨_, rfl⟩
    have hRl : R.length ≤ 201 := by rw [← hR, List.length_append]; simp; omega
    rw [hR] at hup ⊢
    obtain ⟨n, hn⟩ : ∃ n, a.length = n := ⟨_, rfl⟩
    obtain ⟨m, hm⟩ : ∃ m, b.length = m := ⟨_, rfl⟩
    rw [hn] at H1 hl1 HMT ha hup ⊢
    rw [hm] at H2 hl2 HMT hb hup ⊢
    rw [hn, hm] at hR
    have HR := Lib.hid hR
    have HM := Lib.hid hm
    have HUP := Lib.hid hup
    have HPL := Lib.hid hpl
    obtain ⟨l, hl⟩ : ∃ l, R.length = l := ⟨_, rfl⟩
    rw [hl] at hRl
    have HL := Lib.hid hl
    obtain ⟨S, hS⟩ : ∃ S, difP b 0 0 R = S := ⟨_, rfl⟩
    have HS := Lib.hid hS
    rw [hS]
    clear h1 h2 hn hm hR hup hS hpl hl
    go_enter Try.func23, Try.ntmps23
    go_wp2_with fail
    refine HMT.out.mono ?_
    rintro e w1 ⟨v, rfl, ho, hbl⟩
    have HO := Lib.hid ho
    have HB := Lib.hid hbl
    have HWZ : Hid (w.heap.size ≤ w1.heap.size) := hbl.size
    clear ho hbl HMT
    go_wp2_with (at_builtin; refine append_pr Try.underlying37 info_rpr rfl (.tmp 21) (.tmp 27) rfl _ w.heap.size v _ rfl HO.out n m rfl (by have := HPL.out; omega) (by exact HWZ.out) ?_; intro v4 w4 ho4 hb4; rw [HR.out] at ho4; obtain ⟨A4, c4, rfl, hl4, hm4⟩ := ho4.slice; rw [List.length_map] at hl4 ho4 ⊢; rw [HL.out] at hl4 ho4 ⊢; have HO4 := Lib.hid ho4; have HB4 := Lib.hid hb4; clear ho4 hb4)
    have HSL := Lib.hid HO4.out.sl
    have HBW := Lib.hid (HB.out.trans HB4.out)
    unfold maxLen at hm4
    clear HO HO4 HB HB4 HWZ HPL
    go_wp2_with fail
    go_loopw [8, 9, 10, 11] (fun v x y z wr => ∃ (k i j : Nat) (P : List EdI), k ≤ l ∧ i ≤ n + 1 ∧ j ≤ m + 1 ∧ x = .int .i64 (i : Int) ∧ y = .int .i64 (j : Int) ∧ z = .int .i64 (k : Int) ∧ S = P ++ difP b i j (R.drop k) ∧ Up n m i j (R.drop k) ∧ P.length ≤ k ∧ OwnEd 50 wr w4.heap.size v P ∧ Below w4.heap.size w4 wr) (fun _ _ _ z _ => l - (intOf z).toNat)
    case atStart => exact ⟨0, 0, 0, [], Nat.zero_le _, Nat.zero_le _, Nat.zero_le _, rfl, rfl, rfl, HS.out.symm, HUP.out, Nat.zero_le _, OwnEd.nil_ _ _ _, Below.refl _ _⟩
    case round =>
      obtain ⟨k, i, j, P, hk, hi, hj, rfl, rfl, rfl, hS, hU, hPl, ho, hb2⟩ := hrel
      have HS2 := Lib.hid hS
      have HU := Lib.hid hU
      have HO := Lib.hid ho
      have HB2 := Lib.hid hb2
      clear hS hU ho hb2
      have z0 : (0 : Int) ≤ (k : Int) := by omega
      by_cases hkl : k < l
      · have z1 : (k : Int) < (l : Int) := by omega
        have hkr : k < R.length := by rw [HL.out]; exact hkl
        obtain ⟨p, q, hpq⟩ : ∃ p q, R[k]? = some (p, q) := ⟨_, _, List.getElem?_eq_getElem hkr⟩
        have hdr : R.drop k = (p, q) :: R.drop (k + 1) := by
          rw [List.drop_eq_getElem_cons hkr]
          rw [List.getElem?_eq_getElem hkr] at hpq
          injection hpq with hpq
          rw [hpq]
        obtain ⟨hip, hjq, hpn, hqm, hU2⟩ : i ≤ p ∧ j ≤ q ∧ p ≤ n ∧ q ≤ m ∧ Up n m (p + 1) (q + 1) (R.drop (k + 1)) := by have := HU.out; rw [hdr] at this; exact this
        have hS2 : S = (P ++ (gapL b i j p q).map ofEd) ++ difP b (p + 1) (q + 1) (R.drop (k + 1)) := by
          have := HS2.out
          rw [hdr] at this
          rw [this, List.append_assoc]
          rfl
        obtain ⟨ad, rfl, x0, x1⟩ := pr_at (HSL.out.below HB2.out) k p q hpq
        have HSS : Hid (∀ W, Below w4.heap.size w4 W → W.cell? (ad.add (k * 2)) = some (.int .i64 (p : Int)) ∧ W.cell? ⟨(ad.add (k * 2)).block, (ad.add (k * 2)).off + 1, none⟩ = some (.int .i64 (q : Int))) := fun W hW => by
          obtain ⟨_, ea, h1, h2⟩ := pr_at (HSL.out.below hW) k p q hpq
          injection ea with ea
          subst ea
          exact ⟨h1, h2⟩
        have HS3 := Lib.hid hS2
        have HU3 := Lib.hid hU2
        have HPQ := Lib.hid hpq
        clear hS2 hU2 hdr hkr hpq HS2 HU
        by_cases hgap : p = i ∧ q = j
        · obtain ⟨rfl, rfl⟩ := hgap
          have hgl : gapL b p q p q = [] := if_pos ⟨rfl, rfl⟩
          rw [hgl, List.map_nil, List.append_nil] at HS3
          have y1 : ¬ (p : Int) > (p : Int) := by omega
          have y2 : ¬ (q : Int) > (q : Int) := by omega
          go_wp2_with fail
          go_quiet (fail)
          go_wp2_with fail
          go_roundw
          case rel => exact ⟨k + 1, p + 1, q + 1, P, by omega, by omega, by omega, by go_num, by go_num, by go_num, HS3.out, HU3.out, by omega, HO.out.below (below_drewN (Below.refl _ _) _), HB2.out.trans (below_drewN (Below.refl _ _) _)⟩
          case measure => simp [intOf]; omega
        · have hgl : gapL b i j p q = [⟨i, p - i, (b.drop j).take (q - j)⟩] := if_neg hgap
          have hmid : SlV wr _ _ := slv_mid (H2.out.below (HBW.out.trans (HB2.out.mono HBW.out.size))) j q hjq (by rw [List.length_map, HM.out]; exact hqm)
          have hsl : ∀ W, (Instr.slice 25 (.slice A2 m c2) (some (.int .i64 (j : Int))) (some (.int .i64 (q : Int))) none).run Try.prog W = .ok (.slice (if c2 = j then A2 else A2.map (·.add j)) (q - j) (c2 - j)) W := fun W => t_mid A2 m c2 j q _ _ rfl rfl hjq (by omega) W
          obtain ⟨D, hD⟩ : ∃ D, (if c2 = j then A2 else A2.map (·.add j)) = D := ⟨_, rfl⟩
          obtain ⟨dl, hdl⟩ : ∃ d, q - j = d := ⟨_, rfl⟩
          obtain ⟨dc, hdc⟩ : ∃ d, c2 - j = d := ⟨_, rfl⟩
          rw [hD, hdl, hdc] at hmid hsl
          rw [← List.map_drop, ← List.map_take] at hmid
          have HE : Hid (((gapL b i j p q).map ofEd) = [⟨(i : Int), (p : Int) - (i : Int), (b.drop j).take dl⟩]) := by
            unfold Hid
            rw [hgl, hdl]
            show [(⟨(i : Int), ((p - i : Nat) : Int), (b.drop j).take dl⟩ : EdI)] = _
            rw [show ((p - i : Nat) : Int) = (p : Int) - (i : Int) by omega]
          obtain ⟨I, hI⟩ : ∃ I, (b.drop j).take dl = I := ⟨_, rfl⟩
          rw [hI] at hmid HE
          have hIl : I.length ≤ 200 := by rw [← hI, List.length_take]; omega
          have hIe : I.length = dl := by rw [← hI, List.length_take, List.length_drop, HM.out]; omega
          have HCP : Hid (∀ W, Below wr.heap.size wr W → Calls Try.prog 19 #[.slice D dl dc] W (TextsPost W I)) := fun W hW => copyt_any _ I W (hmid.below hW) (by omega)
          have HIE := Lib.hid hIe
          have HWR : Hid (IntKind.i64.wrap ((p : Int) - (i : Int)) = (p : Int) - (i : Int)) := by unfold Hid; rw [IntKind.wrap_i64]; omega
          clear hmid hD hdl hdc hI hIl hIe hgl
          by_cases hip2 : (p : Int) > (i : Int)
          · go_wp2_with fail
            -- STEPS
            refine wp_region_held_drew (S := (fun W => W.cell? (ad.add (k * 2)) = some (.int .i64 (p : Int)) ∧ W.cell? ⟨(ad.add (k * 2)).block, (ad.add (k * 2)).off + 1, none⟩ = some (.int .i64 (q : Int)))) (by kernel_rfl) ?_ (fun hHeld => ?_)
            · try dsimp only
              exact HSS.out _ (HB2.out.drew)
            refine take_at (i := 0) (d := 51) (v := ?_) rfl (by kernel_rfl) (by kernel_rfl) (by kernel_rfl) (by kernel_rfl) (fun _ _ _ h => h) (Or.inl ⟨by kernel_rfl, ?_⟩) (by assumption) ?_
            rotate_left
            · intro W hSw
              try dsimp only at hSw
              go_simp
              first | done | with_reducible rfl
            try simp only [Act.put, List.setIfInBounds_toArray, List.set_cons_zero, List.set_cons_succ]
            refine take_at (i := 1) (d := 52) (v := ?_) rfl (by kernel_rfl) (by kernel_rfl) (by kernel_rfl) (by kernel_rfl) (fun _ _ _ h => h) (Or.inl ⟨by kernel_rfl, ?_⟩) (by assumption) ?_
            rotate_left
            · intro W hSw
              try dsimp only at hSw
              go_simp
              first | done | with_reducible rfl
            try simp only [Act.put, List.setIfInBounds_toArray, List.set_cons_zero, List.set_cons_succ]
            refine take_at (i := 2) (d := 53) (v := ?_) rfl (by kernel_rfl) (by kernel_rfl) (by kernel_rfl) (by kernel_rfl) (fun _ _ _ h => h) (Or.inl ⟨by kernel_rfl, ?_⟩) (by assumption) ?_
            rotate_left
            · intro W hSw
              try dsimp only at hSw
              go_simp
              first | done | with_reducible rfl
            try simp only [Act.put, List.setIfInBounds_toArray, List.set_cons_zero, List.set_cons_succ]
            refine take_at (i := 3) (d := 54) (v := ?_) rfl (by kernel_rfl) (by kernel_rfl) (by kernel_rfl) (by kernel_rfl) (fun _ _ _ h => h) (Or.inl ⟨by kernel_rfl, ?_⟩) (by assumption) ?_
            rotate_left
            · intro W hSw
              try dsimp only at hSw
              go_simp
              first | done | with_reducible rfl
            try simp only [Act.put, List.setIfInBounds_toArray, List.set_cons_zero, List.set_cons_succ]
            refine take_at (i := 4) (d := 55) (v := ?_) rfl (by kernel_rfl) (by kernel_rfl) (by kernel_rfl) (by kernel_rfl) (fun _ _ _ h => h) (Or.inl ⟨by kernel_rfl, ?_⟩) (by assumption) ?_
            rotate_left
            · intro W hSw
              try dsimp only at hSw
              go_simp
              first | done | with_reducible rfl
            try simp only [Act.put, List.setIfInBounds_toArray, List.set_cons_zero, List.set_cons_succ]
            refine take_at (i := 5) (d := 56) (v := ?_) rfl (by kernel_rfl) (by kernel_rfl) (by kernel_rfl) (by kernel_rfl) (fun _ _ _ h => h) (Or.inl ⟨by kernel_rfl, ?_⟩) (by assumption) ?_
            rotate_left
            · intro W hSw
              try dsimp only at hSw
              go_simp
              first | done | with_reducible rfl
            try simp only [Act.put, List.setIfInBounds_toArray, List.set_cons_zero, List.set_cons_succ]
            refine take_at (i := 6) (d := 57) (v := ?_) rfl (by kernel_rfl) (by kernel_rfl) (by kernel_rfl) (by kernel_rfl) (fun _ _ _ h => h) (Or.inl ⟨by kernel_rfl, ?_⟩) (by assumption) ?_
            rotate_left
            · intro W hSw
              try dsimp only at hSw
              have hq := hSw.1
              go_simp
              first | done | with_reducible rfl
            try simp only [Act.put, List.setIfInBounds_toArray, List.set_cons_zero, List.set_cons_succ]
            refine take_at (i := 7) (d := 58) (v := ?_) rfl (by kernel_rfl) (by kernel_rfl) (by kernel_rfl) (by kernel_rfl) (fun _ _ _ h => h) (Or.inl ⟨by kernel_rfl, ?_⟩) (by assumption) ?_
            rotate_left
            · intro W hSw
              try dsimp only at hSw
              go_simp
              first | done | with_reducible rfl
            try simp only [Act.put, List.setIfInBounds_toArray, List.set_cons_zero, List.set_cons_succ]
            refine take_at (i := 8) (d := 59) (v := ?_) rfl (by kernel_rfl) (by kernel_rfl) (by kernel_rfl) (by kernel_rfl) (fun _ _ _ h => h) (Or.inl ⟨by kernel_rfl, ?_⟩) (by assumption) ?_
            rotate_left
            · intro W hSw
              try dsimp only at hSw
              go_simp
              first | done | with_reducible rfl
            try simp only [Act.put, List.setIfInBounds_toArray, List.set_cons_zero, List.set_cons_succ]
            refine take_at (i := 9) (d := 60) (v := ?_) rfl (by kernel_rfl) (by kernel_rfl) (by kernel_rfl) (by kernel_rfl) (fun _ _ _ h => h) (Or.inl ⟨by kernel_rfl, ?_⟩) (by assumption) ?_
            rotate_left
            · intro W hSw
              try dsimp only at hSw
              go_simp
              first | done | with_reducible rfl
            try simp only [Act.put, List.setIfInBounds_toArray, List.set_cons_zero, List.set_cons_succ]
            refine take_at (i := 10) (d := 61) (v := ?_) rfl (by kernel_rfl) (by kernel_rfl) (by kernel_rfl) (by kernel_rfl) (fun _ _ _ h => h) (Or.inl ⟨by kernel_rfl, ?_⟩) (by assumption) ?_
            rotate_left
            · intro W hSw
              try dsimp only at hSw
              go_simp
              first | done | with_reducible rfl
            try simp only [Act.put, List.setIfInBounds_toArray, List.set_cons_zero, List.set_cons_succ]
            refine take_at (i := 11) (d := 62) (v := ?_) rfl (by kernel_rfl) (by kernel_rfl) (by kernel_rfl) (by kernel_rfl) (fun _ _ _ h => h) (Or.inl ⟨by kernel_rfl, ?_⟩) (by assumption) ?_
            rotate_left
            · intro W hSw
              try dsimp only at hSw
              go_simp
              first | done | with_reducible rfl
            try simp only [Act.put, List.setIfInBounds_toArray, List.set_cons_zero, List.set_cons_succ]
            refine take_at (i := 12) (d := 63) (v := ?_) rfl (by kernel_rfl) (by kernel_rfl) (by kernel_rfl) (by kernel_rfl) (fun _ _ _ h => h) (Or.inl ⟨by kernel_rfl, ?_⟩) (by assumption) ?_
            rotate_left
            · intro W hSw
              try dsimp only at hSw
              go_simp
              first | done | with_reducible rfl
            try simp only [Act.put, List.setIfInBounds_toArray, List.set_cons_zero, List.set_cons_succ]
            refine take_at (i := 13) (d := 64) (v := ?_) rfl (by kernel_rfl) (by kernel_rfl) (by kernel_rfl) (by kernel_rfl) (fun _ _ _ h => h) (Or.inl ⟨by kernel_rfl, ?_⟩) (by assumption) ?_
            rotate_left
            · intro W hSw
              try dsimp only at hSw
              go_simp
              first | done | with_reducible rfl
            try simp only [Act.put, List.setIfInBounds_toArray, List.set_cons_zero, List.set_cons_succ]
            refine take_at (i := 14) (d := 65) (v := ?_) rfl (by kernel_rfl) (by kernel_rfl) (by kernel_rfl) (by kernel_rfl) (fun _ _ _ h => h) (Or.inl ⟨by kernel_rfl, ?_⟩) (by assumption) ?_
            rotate_left
            · intro W hSw
              try dsimp only at hSw
              go_simp
              first | done | with_reducible rfl
            try simp only [Act.put, List.setIfInBounds_toArray, List.set_cons_zero, List.set_cons_succ]
            refine take_at (i := 15) (d := 66) (v := ?_) rfl (by kernel_rfl) (by kernel_rfl) (by kernel_rfl) (by kernel_rfl) (fun _ _ _ h => h) (Or.inl ⟨by kernel_rfl, ?_⟩) (by assumption) ?_
            rotate_left
            · intro W hSw
              try dsimp only at hSw
              have hq := hSw.2
              go_simp
              first | done | with_reducible rfl
            try simp only [Act.put, List.setIfInBounds_toArray, List.set_cons_zero, List.set_cons_succ]
            refine take_at (i := 16) (d := 67) (v := ?_) rfl (by kernel_rfl) (by kernel_rfl) (by kernel_rfl) (by kernel_rfl) (fun _ _ _ h => h) (Or.inl ⟨by kernel_rfl, ?_⟩) (by assumption) ?_
            rotate_left
            · intro W hSw
              try dsimp only at hSw
              go_simp
              first | done | with_reducible rfl
            try simp only [Act.put, List.setIfInBounds_toArray, List.set_cons_zero, List.set_cons_succ]
            refine wpAnyH_ready (rs := [17]) (by kernel_rfl) (by simp) (AllReadyH.cons rfl (fun K hK => ?_) AllReadyH.nil)
            go_simp
            refine (HCP.out _ ((Below.refl _ _).drew)).mono ?_
            rintro e w5 ⟨v5, rfl, ho5, hb5⟩
            obtain ⟨A5, c5, hv5, _, _⟩ := ho5.length
            rw [List.length_map, HIE.out] at hv5
            subst hv5
            have HB5 : Hid (Below wr.heap.size wr w5) := (Below.refl _ _).drew.trans hb5
            have HO5 := Lib.hid (HO.out.below HB5.out)
            have HV5 := Lib.hid (ho5.base (show w4.heap.size ≤ wr.drew.heap.size by have := HB2.out.size; simpa using this))
            have HB25 := Lib.hid (HB2.out.trans (HB5.out.mono HB2.out.size))
            clear ho5 hb5
            try go_wp2_with fail
            refine hK.out _ _ ?_ (fun hHeld => ?_)
            · try dsimp only
              exact HSS.out _ HB25.out
            clear hK K
            try simp only [Act.put, List.setIfInBounds_toArray, List.set_cons_zero, List.set_cons_succ]
            refine take_at (i := 18) (d := 69) (v := ?_) rfl (by kernel_rfl) (by kernel_rfl) (by kernel_rfl) (by kernel_rfl) (fun _ _ _ h => h) (Or.inl ⟨by kernel_rfl, ?_⟩) (by assumption) ?_
            rotate_left
            · intro W hSw
              try dsimp only at hSw
              go_simp
              first | done | with_reducible rfl
            try simp only [Act.put, List.setIfInBounds_toArray, List.set_cons_zero, List.set_cons_succ]
            refine wpAnyH_ready (rs := [19]) (by kernel_rfl) (by simp) (AllReadyH.cons rfl (fun K hK => ?_) AllReadyH.nil)
            go_simp
            try go_wp2_with fail
            refine hK.out _ _ ?_ (fun hHeld => ?_)
            · try dsimp only
              exact HSS.out _ (HB25.out.alloc HB25.out.size _)
            clear hK K
            try simp only [Act.put, List.setIfInBounds_toArray, List.set_cons_zero, List.set_cons_succ]
            refine wpAnyH_ready (rs := [20]) (by kernel_rfl) (by simp) (AllReadyH.cons rfl (fun K hK => ?_) AllReadyH.nil)
            refine sapp_ed Try.underlying43 info_red (by decide) 71 rfl rfl (.tmp 51) (.tmp 70) rfl _ w4.heap.size u8 P (by rfl) (by exact HO5.out) (i : Int) (IntKind.i64.wrap ((p : Int) - (i : Int))) _ I (by exact HV5.out) (by rfl) (by omega) (by exact HB25.out.size) ?_
            intro v6 w6 ho6 hb6
            rw [HWR.out] at ho6
            have HO6 := Lib.hid ho6
            have HB6 := Lib.hid (HB25.out.trans hb6)
            obtain ⟨x4, x5⟩ := HSS.out _ HB6.out
            clear ho6 hb6
            try go_wp2_with fail
            refine hK.out _ _ ?_ (fun hHeld => ?_)
            · try dsimp only
              exact HSS.out _ HB6.out
            clear hK K
            try simp only [Act.put, List.setIfInBounds_toArray, List.set_cons_zero, List.set_cons_succ]
            refine take_at (i := 21) (d := 8) (v := ?_) rfl (by kernel_rfl) (by kernel_rfl) (by kernel_rfl) (by kernel_rfl) (fun _ _ _ h => h) (Or.inl ⟨by kernel_rfl, ?_⟩) (by assumption) ?_
            rotate_left
            · intro W hSw
              try dsimp only at hSw
              go_simp
              first | done | with_reducible rfl
            try simp only [Act.put, List.setIfInBounds_toArray, List.set_cons_zero, List.set_cons_succ]
            refine wpAnyH_done (by kernel_rfl) ?_ _
            go_wp2_with fail
            go_quiet (fail)
            go_wp2_with fail
            go_roundw
            case rel => exact ⟨k + 1, p + 1, q + 1, _, by omega, by omega, by omega, by go_num, by go_num, by go_num, HS3.out, HU3.out, by rw [HE.out, List.length_append]; show P.length + 1 ≤ k + 1; omega, by rw [HE.out]; exact HO6.out.below (below_drewN (Below.refl _ _) _), below_drewN HB6.out _⟩
            case measure => simp [intOf]; omega
            -- END STEPS
          · have hjq2 : (q : Int) > (j : Int) := by omega
            go_wp2_with fail
            -- STEPS
            refine wp_region_held_drew (S := (fun W => W.cell? (ad.add (k * 2)) = some (.int .i64 (p : Int)) ∧ W.cell? ⟨(ad.add (k * 2)).block, (ad.add (k * 2)).off + 1, none⟩ = some (.int .i64 (q : Int)))) (by kernel_rfl) ?_ (fun hHeld => ?_)
            · try dsimp only
              exact HSS.out _ (HB2.out.drew)
            refine take_at (i := 0) (d := 51) (v := ?_) rfl (by kernel_rfl) (by kernel_rfl) (by kernel_rfl) (by kernel_rfl) (fun _ _ _ h => h) (Or.inl ⟨by kernel_rfl, ?_⟩) (by assumption) ?_
            rotate_left
            · intro W hSw
              try dsimp only at hSw
              go_simp
              first | done | with_reducible rfl
            try simp only [Act.put, List.setIfInBounds_toArray, List.set_cons_zero, List.set_cons_succ]
            refine take_at (i := 1) (d := 52) (v := ?_) rfl (by kernel_rfl) (by kernel_rfl) (by kernel_rfl) (by kernel_rfl) (fun _ _ _ h => h) (Or.inl ⟨by kernel_rfl, ?_⟩) (by assumption) ?_
            rotate_left
            · intro W hSw
              try dsimp only at hSw
              go_simp
              first | done | with_reducible rfl
            try simp only [Act.put, List.setIfInBounds_toArray, List.set_cons_zero, List.set_cons_succ]
            refine take_at (i := 2) (d := 53) (v := ?_) rfl (by kernel_rfl) (by kernel_rfl) (by kernel_rfl) (by kernel_rfl) (fun _ _ _ h => h) (Or.inl ⟨by kernel_rfl, ?_⟩) (by assumption) ?_
            rotate_left
            · intro W hSw
              try dsimp only at hSw
              go_simp
              first | done | with_reducible rfl
            try simp only [Act.put, List.setIfInBounds_toArray, List.set_cons_zero, List.set_cons_succ]
            refine take_at (i := 3) (d := 54) (v := ?_) rfl (by kernel_rfl) (by kernel_rfl) (by kernel_rfl) (by kernel_rfl) (fun _ _ _ h => h) (Or.inl ⟨by kernel_rfl, ?_⟩) (by assumption) ?_
            rotate_left
            · intro W hSw
              try dsimp only at hSw
              go_simp
              first | done | with_reducible rfl
            try simp only [Act.put, List.setIfInBounds_toArray, List.set_cons_zero, List.set_cons_succ]
            refine take_at (i := 4) (d := 55) (v := ?_) rfl (by kernel_rfl) (by kernel_rfl) (by kernel_rfl) (by kernel_rfl) (fun _ _ _ h => h) (Or.inl ⟨by kernel_rfl, ?_⟩) (by assumption) ?_
            rotate_left
            · intro W hSw
              try dsimp only at hSw
              go_simp
              first | done | with_reducible rfl
            try simp only [Act.put, List.setIfInBounds_toArray, List.set_cons_zero, List.set_cons_succ]
            refine take_at (i := 5) (d := 56) (v := ?_) rfl (by kernel_rfl) (by kernel_rfl) (by kernel_rfl) (by kernel_rfl) (fun _ _ _ h => h) (Or.inl ⟨by kernel_rfl, ?_⟩) (by assumption) ?_
            rotate_left
            · intro W hSw
              try dsimp only at hSw
              go_simp
              first | done | with_reducible rfl
            try simp only [Act.put, List.setIfInBounds_toArray, List.set_cons_zero, List.set_cons_succ]
            refine take_at (i := 6) (d := 57) (v := ?_) rfl (by kernel_rfl) (by kernel_rfl) (by kernel_rfl) (by kernel_rfl) (fun _ _ _ h => h) (Or.inl ⟨by kernel_rfl, ?_⟩) (by assumption) ?_
            rotate_left
            · intro W hSw
              try dsimp only at hSw
              have hq := hSw.1
              go_simp
              first | done | with_reducible rfl
            try simp only [Act.put, List.setIfInBounds_toArray, List.set_cons_zero, List.set_cons_succ]
            refine take_at (i := 7) (d := 58) (v := ?_) rfl (by kernel_rfl) (by kernel_rfl) (by kernel_rfl) (by kernel_rfl) (fun _ _ _ h => h) (Or.inl ⟨by kernel_rfl, ?_⟩) (by assumption) ?_
            rotate_left
            · intro W hSw
              try dsimp only at hSw
              go_simp
              first | done | with_reducible rfl
            try simp only [Act.put, List.setIfInBounds_toArray, List.set_cons_zero, List.set_cons_succ]
            refine take_at (i := 8) (d := 59) (v := ?_) rfl (by kernel_rfl) (by kernel_rfl) (by kernel_rfl) (by kernel_rfl) (fun _ _ _ h => h) (Or.inl ⟨by kernel_rfl, ?_⟩) (by assumption) ?_
            rotate_left
            · intro W hSw
              try dsimp only at hSw
              go_simp
              first | done | with_reducible rfl
            try simp only [Act.put, List.setIfInBounds_toArray, List.set_cons_zero, List.set_cons_succ]
            refine take_at (i := 9) (d := 60) (v := ?_) rfl (by kernel_rfl) (by kernel_rfl) (by kernel_rfl) (by kernel_rfl) (fun _ _ _ h => h) (Or.inl ⟨by kernel_rfl, ?_⟩) (by assumption) ?_
            rotate_left
            · intro W hSw
              try dsimp only at hSw
              go_simp
              first | done | with_reducible rfl
            try simp only [Act.put, List.setIfInBounds_toArray, List.set_cons_zero, List.set_cons_succ]
            refine take_at (i := 10) (d := 61) (v := ?_) rfl (by kernel_rfl) (by kernel_rfl) (by kernel_rfl) (by kernel_rfl) (fun _ _ _ h => h) (Or.inl ⟨by kernel_rfl, ?_⟩) (by assumption) ?_
            rotate_left
            · intro W hSw
              try dsimp only at hSw
              go_simp
              first | done | with_reducible rfl
            try simp only [Act.put, List.setIfInBounds_toArray, List.set_cons_zero, List.set_cons_succ]
            refine take_at (i := 11) (d := 62) (v := ?_) rfl (by kernel_rfl) (by kernel_rfl) (by kernel_rfl) (by kernel_rfl) (fun _ _ _ h => h) (Or.inl ⟨by kernel_rfl, ?_⟩) (by assumption) ?_
            rotate_left
            · intro W hSw
              try dsimp only at hSw
              go_simp
              first | done | with_reducible rfl
            try simp only [Act.put, List.setIfInBounds_toArray, List.set_cons_zero, List.set_cons_succ]
            refine take_at (i := 12) (d := 63) (v := ?_) rfl (by kernel_rfl) (by kernel_rfl) (by kernel_rfl) (by kernel_rfl) (fun _ _ _ h => h) (Or.inl ⟨by kernel_rfl, ?_⟩) (by assumption) ?_
            rotate_left
            · intro W hSw
              try dsimp only at hSw
              go_simp
              first | done | with_reducible rfl
            try simp only [Act.put, List.setIfInBounds_toArray, List.set_cons_zero, List.set_cons_succ]
            refine take_at (i := 13) (d := 64) (v := ?_) rfl (by kernel_rfl) (by kernel_rfl) (by kernel_rfl) (by kernel_rfl) (fun _ _ _ h => h) (Or.inl ⟨by kernel_rfl, ?_⟩) (by assumption) ?_
            rotate_left
            · intro W hSw
              try dsimp only at hSw
              go_simp
              first | done | with_reducible rfl
            try simp only [Act.put, List.setIfInBounds_toArray, List.set_cons_zero, List.set_cons_succ]
            refine take_at (i := 14) (d := 65) (v := ?_) rfl (by kernel_rfl) (by kernel_rfl) (by kernel_rfl) (by kernel_rfl) (fun _ _ _ h => h) (Or.inl ⟨by kernel_rfl, ?_⟩) (by assumption) ?_
            rotate_left
            · intro W hSw
              try dsimp only at hSw
              go_simp
              first | done | with_reducible rfl
            try simp only [Act.put, List.setIfInBounds_toArray, List.set_cons_zero, List.set_cons_succ]
            refine take_at (i := 15) (d := 66) (v := ?_) rfl (by kernel_rfl) (by kernel_rfl) (by kernel_rfl) (by kernel_rfl) (fun _ _ _ h => h) (Or.inl ⟨by kernel_rfl, ?_⟩) (by assumption) ?_
            rotate_left
            · intro W hSw
              try dsimp only at hSw
              have hq := hSw.2
              go_simp
              first | done | with_reducible rfl
            try simp only [Act.put, List.setIfInBounds_toArray, List.set_cons_zero, List.set_cons_succ]
            refine take_at (i := 16) (d := 67) (v := ?_) rfl (by kernel_rfl) (by kernel_rfl) (by kernel_rfl) (by kernel_rfl) (fun _ _ _ h => h) (Or.inl ⟨by kernel_rfl, ?_⟩) (by assumption) ?_
            rotate_left
            · intro W hSw
              try dsimp only at hSw
              go_simp
              first | done | with_reducible rfl
            try simp only [Act.put, List.setIfInBounds_toArray, List.set_cons_zero, List.set_cons_succ]
            refine wpAnyH_ready (rs := [17]) (by kernel_rfl) (by simp) (AllReadyH.cons rfl (fun K hK => ?_) AllReadyH.nil)
            go_simp
            refine (HCP.out _ ((Below.refl _ _).drew)).mono ?_
            rintro e w5 ⟨v5, rfl, ho5, hb5⟩
            obtain ⟨A5, c5, hv5, _, _⟩ := ho5.length
            rw [List.length_map, HIE.out] at hv5
            subst hv5
            have HB5 : Hid (Below wr.heap.size wr w5) := (Below.refl _ _).drew.trans hb5
            have HO5 := Lib.hid (HO.out.below HB5.out)
            have HV5 := Lib.hid (ho5.base (show w4.heap.size ≤ wr.drew.heap.size by have := HB2.out.size; simpa using this))
            have HB25 := Lib.hid (HB2.out.trans (HB5.out.mono HB2.out.size))
            clear ho5 hb5
            try go_wp2_with fail
            refine hK.out _ _ ?_ (fun hHeld => ?_)
            · try dsimp only
              exact HSS.out _ HB25.out
            clear hK K
            try simp only [Act.put, List.setIfInBounds_toArray, List.set_cons_zero, List.set_cons_succ]
            refine take_at (i := 18) (d := 69) (v := ?_) rfl (by kernel_rfl) (by kernel_rfl) (by kernel_rfl) (by kernel_rfl) (fun _ _ _ h => h) (Or.inl ⟨by kernel_rfl, ?_⟩) (by assumption) ?_
            rotate_left
            · intro W hSw
              try dsimp only at hSw
              go_simp
              first | done | with_reducible rfl
            try simp only [Act.put, List.setIfInBounds_toArray, List.set_cons_zero, List.set_cons_succ]
            refine wpAnyH_ready (rs := [19]) (by kernel_rfl) (by simp) (AllReadyH.cons rfl (fun K hK => ?_) AllReadyH.nil)
            go_simp
            try go_wp2_with fail
            refine hK.out _ _ ?_ (fun hHeld => ?_)
            · try dsimp only
              exact HSS.out _ (HB25.out.alloc HB25.out.size _)
            clear hK K
            try simp only [Act.put, List.setIfInBounds_toArray, List.set_cons_zero, List.set_cons_succ]
            refine wpAnyH_ready (rs := [20]) (by kernel_rfl) (by simp) (AllReadyH.cons rfl (fun K hK => ?_) AllReadyH.nil)
            refine sapp_ed Try.underlying43 info_red (by decide) 71 rfl rfl (.tmp 51) (.tmp 70) rfl _ w4.heap.size u8 P (by rfl) (by exact HO5.out) (i : Int) (IntKind.i64.wrap ((p : Int) - (i : Int))) _ I (by exact HV5.out) (by rfl) (by omega) (by exact HB25.out.size) ?_
            intro v6 w6 ho6 hb6
            rw [HWR.out] at ho6
            have HO6 := Lib.hid ho6
            have HB6 := Lib.hid (HB25.out.trans hb6)
            obtain ⟨x4, x5⟩ := HSS.out _ HB6.out
            clear ho6 hb6
            try go_wp2_with fail
            refine hK.out _ _ ?_ (fun hHeld => ?_)
            · try dsimp only
              exact HSS.out _ HB6.out
            clear hK K
            try simp only [Act.put, List.setIfInBounds_toArray, List.set_cons_zero, List.set_cons_succ]
            refine take_at (i := 21) (d := 8) (v := ?_) rfl (by kernel_rfl) (by kernel_rfl) (by kernel_rfl) (by kernel_rfl) (fun _ _ _ h => h) (Or.inl ⟨by kernel_rfl, ?_⟩) (by assumption) ?_
            rotate_left
            · intro W hSw
              try dsimp only at hSw
              go_simp
              first | done | with_reducible rfl
            try simp only [Act.put, List.setIfInBounds_toArray, List.set_cons_zero, List.set_cons_succ]
            refine wpAnyH_done (by kernel_rfl) ?_ _
            go_wp2_with fail
            go_quiet (fail)
            go_wp2_with fail
            go_roundw
            case rel => exact ⟨k + 1, p + 1, q + 1, _, by omega, by omega, by omega, by go_num, by go_num, by go_num, HS3.out, HU3.out, by rw [HE.out, List.length_append]; show P.length + 1 ≤ k + 1; omega, by rw [HE.out]; exact HO6.out.below (below_drewN (Below.refl _ _) _), below_drewN HB6.out _⟩
            case measure => simp [intOf]; omega
            -- END STEPS
      · obtain rfl : k = l := by omega
        have hfin := HS2.out
        rw [List.drop_of_length_le (by rw [HL.out]; exact Nat.le_refl _)] at hfin
        have hfin2 : S = P := by rw [hfin]; exact List.append_nil P
        subst hfin2
        go_wp2_with fail
        go_ret2
        exact ⟨_, rfl, HO.out.base (by have := HBW.out.size; omega), HBW.out.trans (HB2.out.mono HBW.out.size)⟩
  · rw [eE, eP] at HMT
    rw [eE, eD]
    obtain ⟨n, hn⟩ : ∃ n, a.length = n := ⟨_, rfl⟩
    obtain ⟨m, hm⟩ : ∃ m, b.length = m := ⟨_, rfl⟩
    rw [hn] at HMT hl1 ⊢
    rw [hm] at HMT hl2 ⊢
    clear h1 h2 H1 H2 hn hm eE eP eD
    go_enter Try.func23, Try.ntmps23
    go_wp2_with fail
    refine HMT.out.mono ?_
    rintro e w1 ⟨v, rfl, ho, hbl⟩
    have HB := Lib.hid hbl
    clear ho hbl HMT
    go_wp2_with fail
    go_ret2
    exact ⟨_, rfl, OwnEd.nil_ _ _ _, HB.out⟩
end Go.Proofs.Ytchoklhadnoidaa.Ln
