/- Texts put together: YSr4. -/
import Derived.Test.YtlgmbljfjfcpoaaGreatQt39
/- Package store: put, Put. -/
set_option linter.unusedVariables false
set_option linter.unusedSimpArgs false
namespace Go.Proofs.YtlgmbljfjfcpoaaGreat.Tx
open Go.RowKit Go.Maps Go.Proofs.YtlgmbljfjfcpoaaGreat.Sh

theorem str_idne {x y : List UInt8} (h : x ≠ y) : ((str x).toList == (str y).toList) = false := str_ne h
set_option maxRecDepth 100000 in
set_option maxHeartbeats 6400000 in
theorem sput_in {w w1 : World} {b i s : Nat} {c : CSt} {Z G : Nat → Prop} (dv : Value) (d : List UInt8) (h : StAt w w1 b c s Z) (hg : GoC c i) (hi : i ≤ 3700) (hd : By G w1 dv d) (hG : ∀ k, G k → k < w.heap.size ∨ Z k) (hl : d.length ≤ 20000) :
    Calls Tryz.prog 33 #[.pointer (some ⟨s, 0, none⟩), .string (Tx.str (idL d)), dv] w1 fun e w' => e = .returned (.tuple #[.string (Tx.str (sptV c d)), .int .i64 (sptE c d)]) ∧ StAt w w' b (sptC c d) s Z ∧ Keeps w Z w1 w' := by
  have HIL : Hid ((idL d).length ≤ 900000) := by unfold Hid; rw [idL_len]; omega
  have HIL8 : Hid ((idL d).length ≤ 800000) := by unfold Hid; rw [idL_len]; omega
  have HPL : Hid ((objP (idL d)).length ≤ 900000) := by unfold Hid; rw [objP_len, idL_len]; omega
  have HL : Hid (¬ 20000 < d.length) := by unfold Hid; omega
  have HS := Lib.hid h
  have HGC := Lib.hid hg
  have HG1 : Hid (GoC (bgC c).c (i + 1)) := hg.bg
  have HG2 : Hid (GoC (crtC (bgC c).c tmpP 1 d false) (i + 2)) := hg.bg.crt _ _ _ _
  have HDD := Lib.hid hd
  have HGG := Lib.hid hG
  obtain ⟨dA, dc, rfl, hd1, hd2⟩ := hd.slice
  unfold maxLen at hd2
  obtain ⟨dl, hdl⟩ : ∃ x, d.length = x := ⟨_, rfl⟩
  obtain ⟨dv, hdv⟩ : ∃ x, x = Value.slice dA d.length dc := ⟨_, rfl⟩
  rw [← hdv] at HDD ⊢
  have hshort := red_short (hg.ready (by omega)) (objP (idL d))
  have HONE := HDD.out.one
  clear h hg hd hG hdl hd1 hd2 hl hdv
  go_enter Tryz.func33, Tryz.ntmps33
  go_wp2_with fail
  refine (sread_any (idL d) HS.out HGC.out (by omega) HIL8.out).mono ?_
  rintro e w2 ⟨v2, rfl, hv2, hs2, hk2⟩
  have HS2 := Lib.hid hs2
  have HK2 := Lib.hid hk2
  have HD2 := Lib.hid (hk2.by_ HDD.out HGG.out)
  obtain ⟨re, hre⟩ : ∃ x, redE c (objP (idL d)) = x := ⟨_, rfl⟩
  obtain ⟨dat, hdat⟩ : ∃ x, (redF c (objP (idL d))).data = x := ⟨_, rfl⟩
  have HRE : Hid (redE c (stP d) = re) := hre
  have HDAT : Hid ((redF c (stP d)).data = dat) := hdat
  rw [hre]
  rw [hdat] at hv2 hshort
  have HV2 := Lib.hid hv2
  clear hs2 hk2 hre hdat hv2 HS
  by_cases h0 : re = 0
  · subst h0
    by_cases hq : dat = d
    · have HPE : Hid (preE c d = 0) := by unfold Hid preE; rw [if_pos HRE.out, HDAT.out, if_pos hq]
      have HE : Hid (sptE c d = 0 ∧ sptC c d = (bgC c).c ∧ sptV c d = idL d) := by
        have e1 : sptE c d = 0 := by unfold sptE; rw [if_neg HL.out, if_neg (by rw [HPE.out]; decide)]; exact HPE.out
        exact ⟨e1, by unfold sptC; rw [if_neg HL.out, if_neg (by rw [HPE.out]; decide)], by unfold sptV; rw [if_pos e1]⟩
      have HEQ : Hid ((dat == d) = true) := by unfold Hid; rw [hq]; exact beq_self_eq_true _
      clear hq
      go_wp2_with fail
      refine (equal_any v2 dv dat d w2 HV2.out HD2.out.slv true HEQ.out).mono ?_
      rintro e w' ⟨rfl, rfl⟩
      go_wp2_with fail
      go_ret2
      exact ⟨by rw [HE.out.1, HE.out.2.2]; rfl, by rw [HE.out.2.1]; exact HS2.out, HK2.out⟩
    · have HEQ : Hid ((dat == d) = false) := by unfold Hid; rw [beq_eq_false_iff_ne]; exact hq
      have HNQ := Lib.hid hq
      clear hq
      go_wp2_with fail
      refine (equal_any v2 dv dat d w2 HV2.out HD2.out.slv false HEQ.out).mono ?_
      rintro e w' ⟨rfl, rfl⟩
      go_wp2_with fail
      refine (idc_any v2 dat w2 HV2.out (by omega)).mono ?_
      rintro e w2b ⟨rfl, hb2⟩
      replace HS2 := Lib.hid (HS2.out.below hb2)
      replace HK2 := Lib.hid (HK2.out.below hb2)
      replace HD2 := Lib.hid (HD2.out.only (M := fun _ => False) (Only.of_below hb2) (fun _ _ => id))
      clear hb2
      by_cases hi5 : idL dat = idL d
      · have HPE : Hid (preE c d = 5) := by unfold Hid preE; rw [if_pos HRE.out, HDAT.out, if_neg HNQ.out, if_pos hi5]
        have HE : Hid (sptE c d = 5 ∧ sptC c d = (bgC c).c ∧ sptV c d = []) := by
          have e1 : sptE c d = 5 := by unfold sptE; rw [if_neg HL.out, if_neg (by rw [HPE.out]; decide)]; exact HPE.out
          exact ⟨e1, by unfold sptC; rw [if_neg HL.out, if_neg (by rw [HPE.out]; decide)], by unfold sptV; rw [e1]; rfl⟩
        have y5 : ((str (hexL (sumOf dat))).toList == (str (idL d)).toList) = true := by
          rw [str_toList, str_toList]
          show (idL dat == idL d) = true
          rw [hi5]; exact beq_self_eq_true _
        clear hi5
        go_wp2_with fail
        go_ret2
        exact ⟨by rw [HE.out.1, HE.out.2.2]; rfl, by rw [HE.out.2.1]; exact HS2.out, HK2.out⟩
      · have HPRE : Hid (preE c d = 7) := by unfold Hid preE; rw [if_pos HRE.out, HDAT.out, if_neg HNQ.out, if_neg hi5]
        have y5 : ((str (hexL (sumOf dat))).toList == (str (idL d)).toList) = false := str_idne hi5
        clear hi5
        obtain ⟨_, _, r2, g2⟩ := HS2.out
        have c2 : w2b.cell? ⟨s, 0, none⟩ = some (.pointer (some ⟨b, 0, none⟩)) := g2.cell 0
        clear g2
        go_wp2_with fail
        refine (wrp_any tmpP 1 dv d G HS2.out.1 HG1.out (by omega) (by decide) HD2.out (fun k hk => (HGG.out k hk).imp id .inl)).mono ?_
        rintro e w3 ⟨rfl, hm3, hk3⟩
        have HS3 := Lib.hid (HS2.out.step hm3 hk3)
        have HK3 := Lib.hid (HK2.out.trans (hk3.fewer (fun k hk => .inl hk)))
        obtain ⟨er1, her1⟩ : ∃ x, crtE (bgC c).c tmpP 1 d false = x := ⟨_, rfl⟩
        have HER1 := Lib.hid her1
        rw [her1]
        clear hm3 hk3 her1
        by_cases h1 : er1 = 0
        · subst h1
          obtain ⟨_, _, r3, g3⟩ := HS3.out
          have c0 : w3.cell? ⟨s, 0, none⟩ = some (.pointer (some ⟨b, 0, none⟩)) := g3.cell 0
          have c0d : w3.drew.cell? ⟨s, 0, none⟩ = some (.pointer (some ⟨b, 0, none⟩)) := c0
          have HS3d := Lib.hid (HS3.out.below ((Below.refl _ _).drew))
          have HK3d := Lib.hid (HK3.out.below ((Below.refl _ _).drew))
          clear g3
          go_wp2_with fail
          go_region_held3 (fun W : World => W.cell? ⟨s, 0, none⟩ = some (.pointer (some ⟨b, 0, none⟩)))
            (first | exact q4 | exact c0d | exact c0)
            (first
              | (go_at_call 61; refine (mvp_any tmpP (objP (idL d)) (by exact HS3d.out.1) HG2.out (by omega) (by decide) HPL.out).mono ?_; rintro e w4 ⟨rfl, hm4, hk4⟩; have HS4 := Lib.hid (HS3d.out.step hm4 hk4); have HK4 := Lib.hid (HK3d.out.trans (hk4.fewer (fun k hk => .inl hk))); have q4 : w4.cell? ⟨s, 0, none⟩ = some (.pointer (some ⟨b, 0, none⟩)) := (by obtain ⟨_, _, _, gx⟩ := HS4.out; exact gx.cell 0); clear hm4 hk4)
              | (go_at_call 53; refine (splace_any (idL d) _ (by exact HIL.out)).mono ?_; rintro e w4 ⟨rfl, rfl⟩))
          obtain ⟨er2, her2⟩ : ∃ x, movE (crtC (bgC c).c tmpP 1 d false) tmpP (objP (idL d)) false = x := ⟨_, rfl⟩
          have HER2 := Lib.hid her2
          have HWC : Hid (sptC c d = movC (crtC (bgC c).c tmpP 1 d false) tmpP (objP (idL d)) false) := by
            unfold Hid sptC wmC
            rw [if_neg HL.out, if_pos HPRE.out, if_pos HER1.out]
            rfl
          have HWE : Hid (sptE c d = er2) := by
            unfold Hid sptE wmE
            rw [if_neg HL.out, if_pos HPRE.out, if_pos HER1.out]
            exact HER2.out
          try rw [her2]
          clear her2
          by_cases h2 : er2 = 0
          · subst h2
            have HV : Hid (sptV c d = idL d) := by unfold Hid sptV; rw [if_pos HWE.out]
            go_wp2_with fail
            go_ret2
            exact ⟨by rw [HWE.out, HV.out]; rfl, by rw [HWC.out]; exact HS4.out, HK4.out⟩
          · have y2 : (er2 != 0) = true := by simpa using h2
            have HV : Hid (sptV c d = []) := by unfold Hid sptV; rw [HWE.out, if_neg h2]
            clear h2
            go_wp2_with fail
            go_ret2
            exact ⟨by rw [HWE.out, HV.out]; rfl, by rw [HWC.out]; exact HS4.out, HK4.out⟩
        · have y1 : (er1 != 0) = true := by simpa using h1
          have HN1 : Hid (¬ crtE (bgC c).c tmpP 1 d false = 0) := by unfold Hid; rw [HER1.out]; exact h1
          have HWC : Hid (sptC c d = crtC (bgC c).c tmpP 1 d false) := by
            unfold Hid sptC wmC
            rw [if_neg HL.out, if_pos HPRE.out, if_neg HN1.out]
          have HWE : Hid (sptE c d = er1) := by
            unfold Hid sptE wmE
            rw [if_neg HL.out, if_pos HPRE.out, if_neg HN1.out]
            exact HER1.out
          have HV : Hid (sptV c d = []) := by unfold Hid sptV; rw [HWE.out, if_neg h1]
          clear h1
          go_wp2_with fail
          go_ret2
          exact ⟨by rw [HWE.out, HV.out]; rfl, by rw [HWC.out]; exact HS3.out, HK3.out⟩
  · have y0 : (re == 0) = false := beq_eq_false_iff_ne.2 h0
    have y0' : (re != 0) = true := by simpa using h0
    by_cases h7 : re = 7
    · subst h7
      have HPRE : Hid (preE c d = 7) := by unfold Hid preE; rw [if_neg (by rw [HRE.out]; decide)]; exact HRE.out
      clear h0 y0 y0'
      obtain ⟨_, _, r2, g2⟩ := HS2.out
      have c2 : w2.cell? ⟨s, 0, none⟩ = some (.pointer (some ⟨b, 0, none⟩)) := g2.cell 0
      clear g2
      go_wp2_with fail
      refine (wrp_any tmpP 1 dv d G HS2.out.1 HG1.out (by omega) (by decide) HD2.out (fun k hk => (HGG.out k hk).imp id .inl)).mono ?_
      rintro e w3 ⟨rfl, hm3, hk3⟩
      have HS3 := Lib.hid (HS2.out.step hm3 hk3)
      have HK3 := Lib.hid (HK2.out.trans (hk3.fewer (fun k hk => .inl hk)))
      obtain ⟨er1, her1⟩ : ∃ x, crtE (bgC c).c tmpP 1 d false = x := ⟨_, rfl⟩
      have HER1 := Lib.hid her1
      rw [her1]
      clear hm3 hk3 her1
      by_cases h1 : er1 = 0
      · subst h1
        obtain ⟨_, _, r3, g3⟩ := HS3.out
        have c0 : w3.cell? ⟨s, 0, none⟩ = some (.pointer (some ⟨b, 0, none⟩)) := g3.cell 0
        have c0d : w3.drew.cell? ⟨s, 0, none⟩ = some (.pointer (some ⟨b, 0, none⟩)) := c0
        have HS3d := Lib.hid (HS3.out.below ((Below.refl _ _).drew))
        have HK3d := Lib.hid (HK3.out.below ((Below.refl _ _).drew))
        clear g3
        go_wp2_with fail
        go_region_held3 (fun W : World => W.cell? ⟨s, 0, none⟩ = some (.pointer (some ⟨b, 0, none⟩)))
          (first | exact q4 | exact c0d | exact c0)
          (first
            | (go_at_call 61; refine (mvp_any tmpP (objP (idL d)) (by exact HS3d.out.1) HG2.out (by omega) (by decide) HPL.out).mono ?_; rintro e w4 ⟨rfl, hm4, hk4⟩; have HS4 := Lib.hid (HS3d.out.step hm4 hk4); have HK4 := Lib.hid (HK3d.out.trans (hk4.fewer (fun k hk => .inl hk))); have q4 : w4.cell? ⟨s, 0, none⟩ = some (.pointer (some ⟨b, 0, none⟩)) := (by obtain ⟨_, _, _, gx⟩ := HS4.out; exact gx.cell 0); clear hm4 hk4)
            | (go_at_call 53; refine (splace_any (idL d) _ (by exact HIL.out)).mono ?_; rintro e w4 ⟨rfl, rfl⟩))
        obtain ⟨er2, her2⟩ : ∃ x, movE (crtC (bgC c).c tmpP 1 d false) tmpP (objP (idL d)) false = x := ⟨_, rfl⟩
        have HER2 := Lib.hid her2
        have HWC : Hid (sptC c d = movC (crtC (bgC c).c tmpP 1 d false) tmpP (objP (idL d)) false) := by
          unfold Hid sptC wmC
          rw [if_neg HL.out, if_pos HPRE.out, if_pos HER1.out]
          rfl
        have HWE : Hid (sptE c d = er2) := by
          unfold Hid sptE wmE
          rw [if_neg HL.out, if_pos HPRE.out, if_pos HER1.out]
          exact HER2.out
        try rw [her2]
        clear her2
        by_cases h2 : er2 = 0
        · subst h2
          have HV : Hid (sptV c d = idL d) := by unfold Hid sptV; rw [if_pos HWE.out]
          go_wp2_with fail
          go_ret2
          exact ⟨by rw [HWE.out, HV.out]; rfl, by rw [HWC.out]; exact HS4.out, HK4.out⟩
        · have y2 : (er2 != 0) = true := by simpa using h2
          have HV : Hid (sptV c d = []) := by unfold Hid sptV; rw [HWE.out, if_neg h2]
          clear h2
          go_wp2_with fail
          go_ret2
          exact ⟨by rw [HWE.out, HV.out]; rfl, by rw [HWC.out]; exact HS4.out, HK4.out⟩
      · have y1 : (er1 != 0) = true := by simpa using h1
        have HN1 : Hid (¬ crtE (bgC c).c tmpP 1 d false = 0) := by unfold Hid; rw [HER1.out]; exact h1
        have HWC : Hid (sptC c d = crtC (bgC c).c tmpP 1 d false) := by
          unfold Hid sptC wmC
          rw [if_neg HL.out, if_pos HPRE.out, if_neg HN1.out]
        have HWE : Hid (sptE c d = er1) := by
          unfold Hid sptE wmE
          rw [if_neg HL.out, if_pos HPRE.out, if_neg HN1.out]
          exact HER1.out
        have HV : Hid (sptV c d = []) := by unfold Hid sptV; rw [HWE.out, if_neg h1]
        clear h1
        go_wp2_with fail
        go_ret2
        exact ⟨by rw [HWE.out, HV.out]; rfl, by rw [HWC.out]; exact HS3.out, HK3.out⟩
    · have y7 : (re != 7) = true := by simpa using h7
      have HPE : Hid (preE c d = re) := by unfold Hid preE; rw [if_neg (by rw [HRE.out]; exact h0)]; exact HRE.out
      have HE : Hid (sptE c d = re ∧ sptC c d = (bgC c).c ∧ sptV c d = []) := by
        have e1 : sptE c d = re := by unfold sptE; rw [if_neg HL.out, if_neg (by rw [HPE.out]; exact h7)]; exact HPE.out
        exact ⟨e1, by unfold sptC; rw [if_neg HL.out, if_neg (by rw [HPE.out]; exact h7)], by unfold sptV; rw [e1, if_neg h0]⟩
      clear h0 h7
      go_wp2_with fail
      go_ret2
      exact ⟨by rw [HE.out.1, HE.out.2.2]; rfl, by rw [HE.out.2.1]; exact HS2.out, HK2.out⟩
set_option maxRecDepth 100000 in
set_option maxHeartbeats 1600000 in
theorem sputs_any {w w1 : World} {b i s : Nat} {c : CSt} {Z G : Nat → Prop} (dv : Value) (d : List UInt8) (h : StAt w w1 b c s Z) (hg : GoC c i) (hi : i ≤ 3700) (hd : By G w1 dv d) (hG : ∀ k, G k → k < w.heap.size ∨ Z k) :
    Calls Tryz.prog 10 #[.pointer (some ⟨s, 0, none⟩), dv] w1 fun e w' => e = .returned (.tuple #[.string (Tx.str (sptV c d)), .int .i64 (sptE c d)]) ∧ StAt w w' b (sptC c d) s Z ∧ Keeps w Z w1 w' := by
  obtain ⟨dA, dc, rfl, hd1, hd2⟩ := hd.slice
  unfold maxLen at hd2
  by_cases hl : 20000 < d.length
  · have hli : (20000 : Int) < (d.length : Int) := by omega
    have HE : Hid (sptE c d = 3 ∧ sptC c d = c ∧ sptV c d = []) := by
      have e1 : sptE c d = 3 := by unfold sptE; rw [if_pos hl]
      exact ⟨e1, by unfold sptC; rw [if_pos hl], by unfold sptV; rw [e1]; rfl⟩
    have HS := Lib.hid h
    obtain ⟨dl, hdl⟩ : ∃ x, d.length = x := ⟨_, rfl⟩
    rw [hdl] at hli hd1 ⊢
    clear h hg hd hG hl hdl
    go_enter Tryz.func10, Tryz.ntmps10
    go_wp2_with fail
    go_ret2
    exact ⟨by rw [HE.out.1, HE.out.2.2]; rfl, by rw [HE.out.2.1]; exact HS.out, Keeps.refl _ _ _⟩
  · have hli : (d.length : Int) ≤ (20000 : Int) := by omega
    have HI := Lib.hid (idc_any _ d w1 hd.slv (by omega))
    have HP := Lib.hid (fun (W : World) (hb : Below w1.heap.size w1 W) => sput_in _ d (h.below hb) hg hi (hd.only (M := fun _ => False) (Only.of_below hb) (fun _ _ => id)) hG (by omega))
    have HKB := Lib.hid (fun (W : World) (hb : Below w1.heap.size w1 W) => Keeps.of_below (w := w) (Z := Z) hb)
    obtain ⟨r1, hr1⟩ : ∃ x, sptV c d = x := ⟨_, rfl⟩
    obtain ⟨r2, hr2⟩ : ∃ x, sptE c d = x := ⟨_, rfl⟩
    have HR1 := Lib.hid hr1
    have HR2 := Lib.hid hr2
    obtain ⟨dl, hdl⟩ : ∃ x, d.length = x := ⟨_, rfl⟩
    rw [hdl] at hli hd1 HI HP ⊢
    clear h hg hd hG hl hdl hr1 hr2
    go_enter Tryz.func10, Tryz.ntmps10
    go_wp2_with fail
    refine HI.out.mono ?_
    rintro e w2 ⟨rfl, hb2⟩
    have HB2 := Lib.hid hb2
    clear hb2
    go_wp2_with fail
    refine (HP.out w2 HB2.out).mono ?_
    rw [HR1.out, HR2.out]
    rintro e w3 ⟨rfl, hs3, hk3⟩
    have HS3 := Lib.hid hs3
    have HK3 := Lib.hid ((HKB.out w2 HB2.out).trans hk3)
    clear hs3 hk3
    go_wp2_with fail
    go_ret2
    exact ⟨by rw [HR1.out, HR2.out]; rfl, HS3.out, HK3.out⟩
end Go.Proofs.YtlgmbljfjfcpoaaGreat.Tx
