/- Chapter 14: Diff, the program's. -/
import Derived.Test.YtchoklhadnoidaaLnA
set_option linter.unusedVariables false
set_option linter.unusedSimpArgs false
namespace Go.Proofs.Ytchoklhadnoidaa.Ln
open Go.RowKit Go.Proofs.Ytchoklhadnoidaa.Sh Go.Proofs.Ytchoklhadnoidaa.Tx

/-- Diff by the pairs, the ends one pair more; from i and j on. -/
def difP (b : List ByteArray) : Nat → Nat → List (Nat × Nat) → List EdI
  | _, _, [] => []
  | i, j, (p, q) :: ps => (gapL b i j p q).map ofEd ++ difP b (p + 1) (q + 1) ps
theorem difP_of (m : Nat) (b : List ByteArray) : ∀ (ps : List (Nat × Nat)) (i j : Nat), difP b i j (ps ++ [(m, b.length)]) = (difL m b i j ps).map ofEd
  | [], i, j => by
    show (gapL b i j m b.length).map ofEd ++ [] = _
    rw [List.append_nil]
    rfl
  | (p, q) :: ps, i, j => by
    show (gapL b i j p q).map ofEd ++ difP b (p + 1) (q + 1) (ps ++ [(m, b.length)]) = (gapL b i j p q ++ difL m b (p + 1) (q + 1) ps).map ofEd
    rw [difP_of m b ps, List.map_append]
/-- The pairs rise from i and j on, within the lists. -/
def Up (n m : Nat) : Nat → Nat → List (Nat × Nat) → Prop
  | _, _, [] => True
  | i, j, (p, q) :: ps => i ≤ p ∧ j ≤ q ∧ p ≤ n ∧ q ≤ m ∧ Up n m (p + 1) (q + 1) ps
theorem up_of {a b : List ByteArray} : ∀ (ps : List (Nat × Nat)) (i j : Nat), PrsOk a b i j ps → Up a.length b.length i j (ps ++ [(a.length, b.length)])
  | [], i, j, h => ⟨h.1, h.2, Nat.le_refl _, Nat.le_refl _, trivial⟩
  | (p, q) :: ps, i, j, h => ⟨h.1, h.2.1, by have := h.2.2.1; omega, by have := h.2.2.2.1; omega, up_of ps (p + 1) (q + 1) h.2.2.2.2.2⟩
/-- Diff's answer. -/
def dEds (a b : List ByteArray) : List EdI := if a.length ≤ 200 ∧ b.length ≤ 200 then (difL a.length b 0 0 (prsL 0 0 a b)).map ofEd else []
def DifP (T : TypeId) (w : World) (a b : List ByteArray) (e : Ending) (w' : World) : Prop := ∃ v, e = .returned (.tuple #[v, .int .i64 (mErr a b)]) ∧ OwnEd T w' w.heap.size v (dEds a b) ∧ Below w.heap.size w w'
theorem mErr_cases (a b : List ByteArray) : (mErr a b = 0 ∧ mPrs a b = prsL 0 0 a b ∧ dEds a b = (difL a.length b 0 0 (prsL 0 0 a b)).map ofEd ∧ a.length ≤ 200 ∧ b.length ≤ 200) ∨ (mErr a b = 14 ∧ mPrs a b = [] ∧ dEds a b = []) := by
  by_cases h : a.length ≤ 200 ∧ b.length ≤ 200
  · exact .inl ⟨if_pos h, if_pos h, if_pos h, h⟩
  · exact .inr ⟨if_neg h, if_neg h, if_neg h⟩
set_option maxRecDepth 100000 in
set_option maxHeartbeats 3200000 in
theorem diff_any (v1 v2 : Value) (a b : List ByteArray) (w : World) (h1 : SlV w v1 (a.map sv)) (h2 : SlV w v2 (b.map sv)) :
    Calls Try.prog 22 #[v1, v2] w (DifP 49 w a b) := by
  have HMT := Lib.hid (match_any v1 v2 a b w h1 h2)
  obtain ⟨A1, c1, rfl, hl1, hm1, _⟩ := h1.len
  obtain ⟨A2, c2, rfl, hl2, hm2, _⟩ := h2.len
  rw [List.length_map] at h1 h2 hl1 hl2 HMT ⊢
  rw [List.length_map] at HMT ⊢
  have H1 := Lib.hid h1
  have H2 := Lib.hid h2
  unfold maxLen at hm1 hm2
  unfold DifP
  unfold MatP at HMT
  rcases mErr_cases a b with ⟨eE, eP, eD, ha, hb⟩ | ⟨eE, eP, eD⟩
  · rw [eE, eP] at HMT
    rw [eE, eD]
    have hpl : (prsL 0 0 a b).length ≤ 200 := by
      rw [prs_short _ 0 0 (Nat.le_refl _)]
      have := lenL_le _ a b (Nat.le_refl _)
      omega
    have hup := up_of (a := a) (b := b) (prsL 0 0 a b) 0 0 (prs_ok _ 0 0 (Nat.le_refl _) rfl rfl (Nat.zero_le _) (Nat.zero_le _))
    rw [← difP_of]
    clear eE eP eD
    obtain ⟨R, hR⟩ : ∃ R, prsL 0 0 a b ++ [(a.length, b.length)] = R := ⟨_, rfl⟩
    have hRl : R.length ≤ 201 := by rw [← hR, List.length_append]; simp; omega
    rw [hR] at hup ⊢
    obtain ⟨n, hn⟩ : ∃ n, a.length = n := ⟨_, rfl⟩
    obtain ⟨m, hm⟩ : ∃ m, b.length = m := ⟨_, rfl⟩
    rw [hn] at H1 hl1 HMT ha hup ⊢
    rw [hm] at H2 hl2 HMT hb hup ⊢
    rw [hn, hm] at hR
    have HR := Lib.hid hR
    have HM := Lib.hid hm
    have HUP := Lib.hid hup
    have HPL := Lib.hid hpl
    obtain ⟨l, hl⟩ : ∃ l, R.length = l := ⟨_, rfl⟩
    rw [hl] at hRl
    have HL := Lib.hid hl
    obtain ⟨S, hS⟩ : ∃ S, difP b 0 0 R = S := ⟨_, rfl⟩
    have HS := Lib.hid hS
    rw [hS]
    clear h1 h2 hn hm hR hup hS hpl hl
    go_enter Try.func22, Try.ntmps22
    go_wp2_with fail
    refine HMT.out.mono ?_
    rintro e w1 ⟨v, rfl, ho, hbl⟩
    have HO := Lib.hid ho
    have HB := Lib.hid hbl
    have HWZ : Hid (w.heap.size ≤ w1.heap.size) := hbl.size
    clear ho hbl HMT
    go_wp2_with (at_builtin; refine append_pr Try.underlying33 info_pr rfl (.tmp 23) (.tmp 29) rfl _ w.heap.size v _ rfl HO.out n m rfl (by have := HPL.out; omega) (by exact HWZ.out) ?_; intro v4 w4 ho4 hb4; rw [HR.out] at ho4; obtain ⟨A4, c4, rfl, hl4, hm4⟩ := ho4.slice; rw [List.length_map] at hl4 ho4 ⊢; rw [HL.out] at hl4 ho4 ⊢; have HO4 := Lib.hid ho4; have HB4 := Lib.hid hb4; clear ho4 hb4)
    have HSL := Lib.hid HO4.out.sl
    have HBW := Lib.hid (HB.out.trans HB4.out)
    unfold maxLen at hm4
    clear HO HO4 HB HB4 HWZ HPL
    go_wp2_with fail
    go_loopw [8, 9, 10, 33] (fun v x y z wr => ∃ (k i j : Nat) (P : List EdI), k ≤ l ∧ i ≤ n + 1 ∧ j ≤ m + 1 ∧ x = .int .i64 (i : Int) ∧ y = .int .i64 (j : Int) ∧ z = .int .i64 (k : Int) ∧ S = P ++ difP b i j (R.drop k) ∧ Up n m i j (R.drop k) ∧ P.length ≤ k ∧ OwnEd 49 wr w4.heap.size v P ∧ Below w4.heap.size w4 wr) (fun _ _ _ z _ => l - (intOf z).toNat)
    case atStart => exact ⟨0, 0, 0, [], Nat.zero_le _, Nat.zero_le _, Nat.zero_le _, rfl, rfl, rfl, HS.out.symm, HUP.out, Nat.zero_le _, OwnEd.nil_ _ _ _, Below.refl _ _⟩
    case round =>
      obtain ⟨k, i, j, P, hk, hi, hj, rfl, rfl, rfl, hS, hU, hPl, ho, hb2⟩ := hrel
      have HS2 := Lib.hid hS
      have HU := Lib.hid hU
      have HO := Lib.hid ho
      have HB2 := Lib.hid hb2
      clear hS hU ho hb2
      have z0 : (0 : Int) ≤ (k : Int) := by omega
      by_cases hkl : k < l
      · have z1 : (k : Int) < (l : Int) := by omega
        have hkr : k < R.length := by rw [HL.out]; exact hkl
        obtain ⟨p, q, hpq⟩ : ∃ p q, R[k]? = some (p, q) := ⟨_, _, List.getElem?_eq_getElem hkr⟩
        have hdr : R.drop k = (p, q) :: R.drop (k + 1) := by
          rw [List.drop_eq_getElem_cons hkr]
          rw [List.getElem?_eq_getElem hkr] at hpq
          injection hpq with hpq
          rw [hpq]
        obtain ⟨hip, hjq, hpn, hqm, hU2⟩ : i ≤ p ∧ j ≤ q ∧ p ≤ n ∧ q ≤ m ∧ Up n m (p + 1) (q + 1) (R.drop (k + 1)) := by have := HU.out; rw [hdr] at this; exact this
        have hS2 : S = (P ++ (gapL b i j p q).map ofEd) ++ difP b (p + 1) (q + 1) (R.drop (k + 1)) := by
          have := HS2.out
          rw [hdr] at this
          rw [this, List.append_assoc]
          rfl
        obtain ⟨ad, rfl, x0, x1⟩ := pr_at (HSL.out.below HB2.out) k p q hpq
        have HS3 := Lib.hid hS2
        have HU3 := Lib.hid hU2
        clear hS2 hU2 hdr hkr hpq HS2 HU
        by_cases hgap : p = i ∧ q = j
        · obtain ⟨rfl, rfl⟩ := hgap
          have hgl : gapL b p q p q = [] := if_pos ⟨rfl, rfl⟩
          rw [hgl, List.map_nil, List.append_nil] at HS3
          have y1 : ¬ (p : Int) < (p : Int) := by omega
          have y2 : ¬ (q : Int) < (q : Int) := by omega
          go_wp2_with fail
          go_quiet (fail)
          go_wp2_with fail
          go_roundw
          case rel => exact ⟨k + 1, p + 1, q + 1, P, by omega, by omega, by omega, by go_num, by go_num, by go_num, HS3.out, HU3.out, by omega, HO.out.below (below_drewN ((Below.refl _ _).alloc (Nat.le_refl _) _) _), HB2.out.trans (below_drewN ((Below.refl _ _).alloc HB2.out.size _) _)⟩
          case measure => simp [intOf]; omega
        · have hgl : gapL b i j p q = [⟨i, p - i, (b.drop j).take (q - j)⟩] := if_neg hgap
          have hmid := slv_mid (H2.out.below (HBW.out.trans (HB2.out.mono HBW.out.size))) j q hjq (by rw [List.length_map, HM.out]; exact hqm)
          have hsl : ∀ W, (Instr.slice 25 (.slice A2 m c2) (some (.int .i64 (j : Int))) (some (.int .i64 (q : Int))) none).run Try.prog W = .ok (.slice (if c2 = j then A2 else A2.map (·.add j)) (q - j) (c2 - j)) W := fun W => t_mid A2 m c2 j q _ _ rfl rfl hjq (by omega) W
          obtain ⟨D, hD⟩ : ∃ D, (if c2 = j then A2 else A2.map (·.add j)) = D := ⟨_, rfl⟩
          obtain ⟨dl, hdl⟩ : ∃ d, q - j = d := ⟨_, rfl⟩
          obtain ⟨dc, hdc⟩ : ∃ d, c2 - j = d := ⟨_, rfl⟩
          rw [hD, hdl, hdc] at hmid hsl
          rw [← List.map_drop, ← List.map_take] at hmid
          have HE : Hid (((gapL b i j p q).map ofEd) = [⟨(i : Int), (p : Int) - (i : Int), (b.drop j).take dl⟩]) := by
            unfold Hid
            rw [hgl, hdl]
            show [(⟨(i : Int), ((p - i : Nat) : Int), (b.drop j).take dl⟩ : EdI)] = _
            rw [show ((p - i : Nat) : Int) = (p : Int) - (i : Int) by omega]
          obtain ⟨I, hI⟩ : ∃ I, (b.drop j).take dl = I := ⟨_, rfl⟩
          rw [hI] at hmid HE
          have hIl : I.length ≤ 200 := by rw [← hI, List.length_take]; omega
          have hIe : I.length = dl := by rw [← hI, List.length_take, List.length_drop, HM.out]; omega
          have HRD : Hid (Reads (wr.alloc (.cells #[.int .i64 (p : Int), .int .i64 (q : Int)] 58)) (wr.heap.size + 1) 1 D dl (I.map sv)) := by
            obtain ⟨A', c', he, _, _, hr⟩ := (hmid.below ((Below.refl _ _).alloc (Nat.le_refl _) (.cells #[.int .i64 (p : Int), .int .i64 (q : Int)] 58))).len
            injection he with e1 e2 e3
            subst e1
            rw [← e2] at hr
            have hz : (wr.alloc (.cells #[.int .i64 (p : Int), .int .i64 (q : Int)] 58)).heap.size = wr.heap.size + 1 := by simp
            rwa [hz] at hr
          have HDL : Hid (dl ≤ 200) := by unfold Hid; omega
          have HIE := Lib.hid hIe
          clear hmid hD hdl hdc hI hIl hIe hgl
          by_cases hip2 : (i : Int) < (p : Int)
          · go_wp2_with (first
              | (at_builtin; refine append_texts rfl (.const (.slice none 0 0)) (.tmp 51) rfl _ (wr.heap.size + 1) (.slice none 0 0) [] rfl (OwnV.nil_ _ _) (wr.heap.size + 1) D dl dc I rfl (by exact HRD.out) (by have := HDL.out; simp; omega) (by simp) ?_; intro v5 w5 ho5 hb5; rw [List.nil_append] at ho5; obtain ⟨A5, c5, hv5, _, _⟩ := ho5.length; rw [List.length_map, HIE.out] at hv5; subst hv5; have hp5 := (Blk.new wr 58 #[.int .i64 (p : Int), .int .i64 (q : Int)]).below hb5 (Nat.lt_succ_self _); have g0 : w5.cell? ⟨wr.heap.size, 0, none⟩ = some (.int .i64 (p : Int)) := hp5.cell 0; have g1 : w5.cell? ⟨wr.heap.size, 1, none⟩ = some (.int .i64 (q : Int)) := hp5.cell 1; have HP5 := Lib.hid hp5; have HB5 := Lib.hid (((Below.refl wr.heap.size wr).alloc (Nat.le_refl _) _).trans (hb5.mono (Nat.le_succ _))); have HO5 := Lib.hid ((HO.out.below HB5.out)); have HV5 := Lib.hid (ho5.base (show w4.heap.size ≤ wr.heap.size + 1 by have := HB2.out.size; omega)); clear ho5 hb5 hp5)
              | (at_builtin; refine append_ed Try.underlying40 info_ed (by decide) rfl (.tmp 53) (.tmp 61) rfl _ w4.heap.size u8 P rfl HO5.out (i : Int) ((p : Int) - (i : Int)) _ I HV5.out rfl (by omega) (by have h1 := HB5.out.size; have h2 := HB2.out.size; omega) ?_; intro v6 w6 ho6 hb6 hk6; have hp6 := hk6 _ _ _ (by decide) HP5.out; have g2 : w6.cell? ⟨wr.heap.size, 0, none⟩ = some (.int .i64 (p : Int)) := hp6.cell 0; have g3 : w6.cell? ⟨wr.heap.size, 1, none⟩ = some (.int .i64 (q : Int)) := hp6.cell 1; have HO6 := Lib.hid ho6; have HB6 := Lib.hid ((HB2.out.trans (HB5.out.mono HB2.out.size)).trans hb6); clear ho6 hb6 hk6 hp6 g0 g1 HP5))
            go_quiet (fail)
            go_wp2_with fail
            go_roundw
            case rel => exact ⟨k + 1, p + 1, q + 1, _, by omega, by omega, by omega, by go_num, by go_num, by go_num, HS3.out, HU3.out, by rw [HE.out, List.length_append]; show P.length + 1 ≤ k + 1; omega, by rw [HE.out]; exact HO6.out.below (below_drewN (Below.refl _ _) _), below_drewN HB6.out _⟩
            case measure => simp [intOf]; omega
          · have hjq2 : (j : Int) < (q : Int) := by omega
            go_wp2_with (first
              | (at_builtin; refine append_texts rfl (.const (.slice none 0 0)) (.tmp 51) rfl _ (wr.heap.size + 1) (.slice none 0 0) [] rfl (OwnV.nil_ _ _) (wr.heap.size + 1) D dl dc I rfl (by exact HRD.out) (by have := HDL.out; simp; omega) (by simp) ?_; intro v5 w5 ho5 hb5; rw [List.nil_append] at ho5; obtain ⟨A5, c5, hv5, _, _⟩ := ho5.length; rw [List.length_map, HIE.out] at hv5; subst hv5; have hp5 := (Blk.new wr 58 #[.int .i64 (p : Int), .int .i64 (q : Int)]).below hb5 (Nat.lt_succ_self _); have g0 : w5.cell? ⟨wr.heap.size, 0, none⟩ = some (.int .i64 (p : Int)) := hp5.cell 0; have g1 : w5.cell? ⟨wr.heap.size, 1, none⟩ = some (.int .i64 (q : Int)) := hp5.cell 1; have HP5 := Lib.hid hp5; have HB5 := Lib.hid (((Below.refl wr.heap.size wr).alloc (Nat.le_refl _) _).trans (hb5.mono (Nat.le_succ _))); have HO5 := Lib.hid ((HO.out.below HB5.out)); have HV5 := Lib.hid (ho5.base (show w4.heap.size ≤ wr.heap.size + 1 by have := HB2.out.size; omega)); clear ho5 hb5 hp5)
              | (at_builtin; refine append_ed Try.underlying40 info_ed (by decide) rfl (.tmp 53) (.tmp 61) rfl _ w4.heap.size u8 P rfl HO5.out (i : Int) ((p : Int) - (i : Int)) _ I HV5.out rfl (by omega) (by have h1 := HB5.out.size; have h2 := HB2.out.size; omega) ?_; intro v6 w6 ho6 hb6 hk6; have hp6 := hk6 _ _ _ (by decide) HP5.out; have g2 : w6.cell? ⟨wr.heap.size, 0, none⟩ = some (.int .i64 (p : Int)) := hp6.cell 0; have g3 : w6.cell? ⟨wr.heap.size, 1, none⟩ = some (.int .i64 (q : Int)) := hp6.cell 1; have HO6 := Lib.hid ho6; have HB6 := Lib.hid ((HB2.out.trans (HB5.out.mono HB2.out.size)).trans hb6); clear ho6 hb6 hk6 hp6 g0 g1 HP5))
            go_quiet (fail)
            go_wp2_with fail
            go_roundw
            case rel => exact ⟨k + 1, p + 1, q + 1, _, by omega, by omega, by omega, by go_num, by go_num, by go_num, HS3.out, HU3.out, by rw [HE.out, List.length_append]; show P.length + 1 ≤ k + 1; omega, by rw [HE.out]; exact HO6.out.below (below_drewN (Below.refl _ _) _), below_drewN HB6.out _⟩
            case measure => simp [intOf]; omega
      · obtain rfl : k = l := by omega
        have hfin := HS2.out
        rw [List.drop_of_length_le (by rw [HL.out]; exact Nat.le_refl _)] at hfin
        have hfin2 : S = P := by rw [hfin]; exact List.append_nil P
        subst hfin2
        go_wp2_with fail
        go_ret2
        exact ⟨_, rfl, HO.out.base (by have := HBW.out.size; omega), HBW.out.trans (HB2.out.mono HBW.out.size)⟩
  · rw [eE, eP] at HMT
    rw [eE, eD]
    obtain ⟨n, hn⟩ : ∃ n, a.length = n := ⟨_, rfl⟩
    obtain ⟨m, hm⟩ : ∃ m, b.length = m := ⟨_, rfl⟩
    rw [hn] at HMT hl1 ⊢
    rw [hm] at HMT hl2 ⊢
    clear h1 h2 H1 H2 hn hm eE eP eD
    go_enter Try.func22, Try.ntmps22
    go_wp2_with fail
    refine HMT.out.mono ?_
    rintro e w1 ⟨v, rfl, ho, hbl⟩
    have HB := Lib.hid hbl
    clear ho hbl HMT
    go_wp2_with fail
    go_ret2
    exact ⟨_, rfl, OwnEd.nil_ _ _ _, HB.out⟩
end Go.Proofs.Ytchoklhadnoidaa.Ln
