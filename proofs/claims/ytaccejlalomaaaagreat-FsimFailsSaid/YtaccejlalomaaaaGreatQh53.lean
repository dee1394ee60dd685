/- Texts put together: Hfl. -/
import Derived.Test.YtaccejlalomaaaaGreatQh48
/- marlaw5.FsimFails: the walk. -/
set_option linter.unusedVariables false
set_option linter.unusedSimpArgs false
namespace Go.Proofs.YtaccejlalomaaaaGreat.Tx
open Go.RowKit Go.Maps Go.Proofs.YtaccejlalomaaaaGreat.Sh

theorem planR_one {c : CSt} {ev : EvM} {R : List EvM} (h : PlanR c [ev] R) (he : c.calls < ev.at_) : R = [ev] := by
  have hl := h.len
  rw [List.filter_cons, if_pos (decide_eq_true he)] at hl
  cases R with
  | nil => simp at hl
  | cons x R =>
    have h1 := (h.mem x List.mem_cons_self).1
    rw [List.mem_singleton] at h1
    have h2 : R = [] := by
      apply List.eq_nil_of_length_eq_zero
      simpa using hl
    rw [h1, h2]
structure FailAll (c2 : CSt) (p : List UInt8) (data : List UInt8) (k : Int) : Prop where
  err : crtE c2 p 1 data false ≠ 0
  io : k = 3 → crtE c2 p 1 data false = 11
  full : k = 2 → crtE { c2 with plan := [] } p 1 data false = 0 → crtE c2 p 1 data false = 10
  here : (crtC c2 p 1 data false).here = c2.here
  time : (crtC c2 p 1 data false).time = c2.time
  again : crtE (crtC c2 p 1 data false) p 1 data false = crtE { c2 with plan := [] } p 1 data false
  alike : (crtC (crtC c2 p 1 data false) p 1 data false).here = (crtC { c2 with plan := [] } p 1 data false).here
  calls : (crtC (crtC c2 p 1 data false) p 1 data false).calls = (crtC { c2 with plan := [] } p 1 data false).calls + 1
theorem fails_all {c2 : CSt} (hi : InvC c2) {ev : EvM} (hp : c2.plan = [ev]) (ha : ev.at_ = c2.calls + 1) (hd : c2.down = false) (hk : ev.kind = 3 ∨ ev.kind = 2) (p data : List UInt8) : FailAll c2 p data ev.kind := by
  obtain ⟨f1, f2, f3, f4⟩ := fails_plain hi hp ha hd hk p 1 data
  obtain ⟨g1, g2⟩ := crt_calm (c := { c2 with plan := [] }) rfl hd p 1 data false
  obtain ⟨k1, k2⟩ := crt_calm (c := { c2 with calls := c2.calls + 1, plan := [] }) rfl hd p 1 data false
  refine ⟨f1, f2, fun h h0 => f3 h (g1.symm.trans h0), by rw [f4], by rw [f4], by rw [f4, k1, g1]; rfl, ?_, ?_⟩
  · rw [f4, k2, g2]
    have e1 := wr_here ({ c2 with plan := [] } : CSt) (c2.calls + 1 + 1) p 1 data c2.room false
    have e2 := wr_here ({ c2 with plan := [] } : CSt) (c2.calls + 1) p 1 data c2.room false
    exact e1.trans e2.symm
  · rw [f4, k2, g2]
    rw [(wr_plan _ _ _ _ _ _).2.1, (wr_plan _ _ _ _ _ _).2.1]
set_option linter.unusedSimpArgs false in
set_option maxRecDepth 100000 in
set_option maxHeartbeats 12800000 in
theorem fails_any (G : Nat → Prop) (room : Int) (v : Value) (l : List LOp) (p : List UInt8) (dv : Value) (data : List UInt8) (kind : Int) (w : World) (h : OpsF G w v l) (hG : ∀ k, G k → k < w.heap.size) (hdl : ∀ o ∈ l, o.data.length ≤ 140737488351232 ∧ ∀ e ∈ o.plan, e.data.length ≤ 140737488351232) (hdv : By G w dv data) : Calls Tryz.prog 8 #[.int .i64 room, v, .string (str p), dv, .int .i64 kind] w (Yes w) := by
  have HL := Lib.hid h
  have HG := Lib.hid hG
  have HDL := Lib.hid hdl
  obtain ⟨dA, dc, rfl, _, _⟩ := hdv.slice
  obtain ⟨dn, hdn⟩ : ∃ n, data.length = n := ⟨_, rfl⟩
  rw [hdn] at hdv ⊢
  have HDV := Lib.hid hdv
  have HDN := Lib.hid hdn
  have hsp : (str p).size = p.length := str_size _
  clear h hG hdl hdv hdn
  go_enter Tryz.func8, Tryz.ntmps8
  go_wp2_with fail
  refine (first_any w).mono ?_
  rintro e w1 ⟨rfl, hb1⟩
  have HB1 := Lib.hid hb1
  clear hb1
  go_wp2_with fail
  refine (played_any G room v l w1 (HL.out.below HB1.out) (fun k hk => Nat.lt_of_lt_of_le (HG.out k hk) HB1.out.size) HDL.out).mono ?_
  rintro e w2 ⟨hb2, rfl | ⟨b0, F, M, c, rfl, hsub, hat, hlow, hinv, hkept, hroom, hgo⟩⟩
  · have HB2 := Lib.hid (HB1.out.trans (hb2.mono HB1.out.size))
    clear hb2
    go_wp2_with fail
    refine (first_any w2).mono ?_
    rintro e w3 ⟨rfl, hb3⟩
    have HB3 := Lib.hid (HB2.out.trans (hb3.mono HB2.out.size))
    clear hb3
    go_wp2_with fail
    go_ret
    exact ⟨rfl, HB3.out⟩
  have HB2 := Lib.hid (HB1.out.trans (hb2.mono HB1.out.size))
  have HAT := Lib.hid hat
  have HLOW : Hid (∀ k, M k → w.heap.size ≤ k) := fun k hk => by have := hlow k hk; have := HB1.out.size; omega
  have HINV := Lib.hid hinv
  have HGO := Lib.hid hgo
  clear hb2 hat hlow hinv hkept hroom hgo hsub
  by_cases hla : 400 < p.length
  · have hla' : (400 : Int) < (p.length : Int) := by omega
    go_wp2_with fail
    refine (first_any w2).mono ?_
    rintro e w3 ⟨rfl, hb3⟩
    have HB3 := Lib.hid (HB2.out.trans (hb3.mono HB2.out.size))
    clear hb3
    go_wp2_with fail
    go_ret
    exact ⟨rfl, HB3.out⟩
  have hla' : ¬ (400 : Int) < (p.length : Int) := by omega
  by_cases hlb : 3000 < dn
  · have hlb' : (3000 : Int) < (dn : Int) := by omega
    go_wp2_with fail
    refine (first_any w2).mono ?_
    rintro e w3 ⟨rfl, hb3⟩
    have HB3 := Lib.hid (HB2.out.trans (hb3.mono HB2.out.size))
    clear hb3
    go_wp2_with fail
    go_ret
    exact ⟨rfl, HB3.out⟩
  have hlb' : ¬ (3000 : Int) < (dn : Int) := by omega
  have HA : Hid (p.length ≤ 900000) := by unfold Hid; omega
  clear hla hlb
  go_wp2_with fail
  refine (reboot_any HAT.out).mono ?_
  rintro e w3 ⟨rfl, hp⟩
  obtain ⟨F3, M3, hs3⟩ := hp.stp
  have HS3 := Lib.hid hs3
  have HB3 := Lib.hid (hs3.below HB2.out HLOW.out)
  have HLOW3 : Hid (∀ k, M3 k → w.heap.size ≤ k) := hs3.low HLOW.out HB2.out.size
  clear hp hs3 hla' hlb' hsp
  obtain ⟨c3, hc3⟩ : ∃ x : CSt, x = { c with down := false } := ⟨_, rfl⟩
  have HAT3 : Hid (FcAt F3 w3 b0 c3 M3) := by rw [hc3]; exact HS3.out.at_
  have HGO3 : Hid (GoC c3 100) := by rw [hc3]; exact HGO.out.up
  have HINV3 : Hid (InvC c3) := HINV.out.same (by rw [hc3]) (by rw [hc3]) (by rw [hc3]) (by rw [hc3])
  have HD3 : Hid (c3.down = false) := by rw [hc3]; rfl
  clear hc3 HS3 HAT HGO HINV HLOW
  obtain ⟨ca, hca⟩ : ∃ x, c3.calls = x := ⟨_, rfl⟩
  have HCA := Lib.hid hca
  have hcb : 0 ≤ ca ∧ ca ≤ 100 := by have := HGO3.out.calls; omega
  obtain ⟨hcb1, hcb2⟩ := hcb
  have wca : IntKind.i64.wrap (ca + 1) = ca + 1 := IntWalk.i64_in _ (by omega)
  clear hca
  go_wp2_with fail
  refine (calls_any HAT3.out).mono ?_
  rw [HCA.out]
  rintro e wz ⟨rfl, rfl⟩
  obtain ⟨wa, hwa⟩ : ∃ x, x = w3.alloc (.cells #[.int .i64 (ca + 1), .int .i64 kind, .int .i64 0, .int .i64 0, .int .i64 0, .string ⟨#[]⟩, .slice none 0 0] 64) := ⟨_, rfl⟩
  have hba : Below w3.heap.size w3 wa := by rw [hwa]; exact (Below.refl _ _).alloc (Nat.le_refl _) _
  have HBA := Lib.hid hba
  have HATA : Hid (FcAt F3 wa b0 c3 M3) := HAT3.out.below hba
  have HEV : Hid (EvsF F3 wa (.slice (some ⟨w3.heap.size, 0, none⟩) 1 1) [(⟨ca + 1, kind, 0, 0, 0, [], []⟩ : EvM)]) := by
    rw [hwa]
    exact TmpL.one (K := evK) (F := F3) (a := (⟨ca + 1, kind, 0, 0, 0, [], []⟩ : EvM)) (d := .slice none 0 0) (Blk.new w3 64 #[.int .i64 (ca + 1), .int .i64 kind, .int .i64 0, .int .i64 0, .int .i64 0, .string ⟨#[]⟩, .slice none 0 0]) rfl (By.nil_ _ _)
  have HPL := Lib.hid (plan_any F3 M3 b0 c3 _ [(⟨ca + 1, kind, 0, 0, 0, [], []⟩ : EvM)] wa HATA.out HEV.out (by simp) (fun e he => by rw [List.mem_singleton.1 he]; simp))
  rw [hwa] at HPL
  have HWA := Lib.hid hwa
  clear hwa hba
  go_wp2_with fail
  refine HPL.out.mono ?_
  rw [← HWA.out]
  rintro e w4 ⟨rfl, R, hR, hp⟩
  obtain rfl := planR_one hR (by rw [HCA.out]; show ca < ca + 1; omega)
  obtain ⟨F4, M4, hs4⟩ := hp.stp
  have HB3a := Lib.hid (HB3.out.trans (HBA.out.mono HB3.out.size))
  have HB4 := Lib.hid (hs4.below HB3a.out HLOW3.out)
  have HLOW4 : Hid (∀ k, M4 k → w.heap.size ≤ k) := hs4.low HLOW3.out HB3a.out.size
  obtain ⟨c4, hc4⟩ : ∃ x : CSt, x = { c3 with plan := [(⟨ca + 1, kind, 0, 0, 0, [], []⟩ : EvM)] } := ⟨_, rfl⟩
  have HAT4 : Hid (FcAt F4 w4 b0 c4 M4) := by rw [hc4]; exact hs4.at_
  have HGO4 : Hid (GoC c4 100) := by rw [hc4]; exact HGO3.out.planned (by simp) (fun e he => by rw [List.mem_singleton.1 he]; simp)
  have HINV4 : Hid (InvC c4) := HINV3.out.same (by rw [hc4]) (by rw [hc4]) (by rw [hc4]) (by rw [hc4])
  have HPL4 : Hid (c4.plan = [(⟨ca + 1, kind, 0, 0, 0, [], []⟩ : EvM)] ∧ c4.calls = ca ∧ c4.down = false) := by rw [hc4]; exact ⟨rfl, HCA.out, HD3.out⟩
  clear hR hp hs4 hc4 HPL HEV HATA HWA HAT3 HGO3 HINV3 HD3 HCA HLOW3
  have HSM : Hid (CSmall c4) := HGO4.out.small (by decide)
  go_wp2_with fail
  refine (copy_any HAT4.out HSM.out (Nat.le_trans HGO4.out.plan (by decide))).mono ?_
  rintro e w5 ⟨bw, MW, rfl, hatw, hb5, hloww⟩
  obtain ⟨FW, hFW⟩ : ∃ X, grow F4 w4 w5 MW = X := ⟨_, rfl⟩
  obtain ⟨hap1, hap2⟩ := copy_ap (w' := w5) HAT4.out hloww
  rw [hFW] at hatw hap1
  have HATW := Lib.hid hatw
  have HAPW := Lib.hid hap1
  have HAT5 := Lib.hid (HAT4.out.below hb5)
  have HB5 := Lib.hid (HB4.out.trans (hb5.mono HB4.out.size))
  clear hatw hb5 hloww hap1 hap2 hFW
  go_wp2_with fail
  refine (copy_any HAT5.out HSM.out (Nat.le_trans HGO4.out.plan (by decide))).mono ?_
  rintro e w6 ⟨bo, MO, rfl, hato, hb6, hlowo⟩
  obtain ⟨FO, hFO⟩ : ∃ X, grow F4 w5 w6 MO = X := ⟨_, rfl⟩
  obtain ⟨hap1, hap2⟩ := copy_ap (w' := w6) HAT5.out hlowo
  rw [hFO] at hato hap1
  have HATO := Lib.hid hato
  have HAPO := Lib.hid hap1
  have HAPF := Lib.hid hap2
  have HAPWO : Hid (Ap FW MW MO) := fun k hk => by
    have h1 := hlowo k hk
    exact ⟨fun hf => by have := HATW.out.low k hf; omega, fun hm => by have := HATW.out.lt k hm; omega⟩
  have HAT6 := Lib.hid (HAT5.out.below hb6)
  have HATW6 := Lib.hid (HATW.out.below hb6)
  have HB6 := Lib.hid (HB5.out.trans (hb6.mono HB5.out.size))
  have HLOWO : Hid (∀ k, MO k → w.heap.size ≤ k) := fun k hk => by have := hlowo k hk; have := HB5.out.size; omega
  clear hato hb6 hlowo hap1 hap2 hFO
  go_wp2_with fail
  refine (plan_any FO MO bo c4 (.slice none 0 0) [] w6 HATO.out (InL.nil_ evK FO w6).tmp (Nat.zero_le _) (fun e he => by cases he)).mono ?_
  rintro e w7 ⟨rfl, R, hR, hp⟩
  obtain rfl := planR_nil hR
  obtain ⟨FO1, MO1, hs7⟩ := hp.stp
  have HS7 := Lib.hid hs7
  have HB7 := Lib.hid (hs7.below HB6.out HLOWO.out)
  have HLOWO1 : Hid (∀ k, MO1 k → w.heap.size ≤ k) := hs7.low HLOWO.out HB6.out.size
  have HAT7 : Hid (FcAt F4 w7 b0 c4 M4) := HAT6.out.stay HAPF.out hs7.only
  have HATW7 : Hid (FcAt FW w7 bw c4 MW) := HATW6.out.stay HAPWO.out hs7.only
  have HAPO1 : Hid (Ap FO1 MO1 M4) := HAPO.out.own (fun k hk => HAT6.out.lt k hk) hs7.mm hs7.ff
  have HAPF1 : Hid (Ap F4 M4 MO1) := HAPF.out.step HAT6.out hs7.mm
  have HAPWO1 : Hid (Ap FW MW MO1) := HAPWO.out.step HATW6.out hs7.mm
  clear hR hp hs7
  by_cases hkk : ¬ (kind = 3 ∨ kind = 2)
  · have k3 : (kind != 3) = true := bne_iff_ne.2 (fun h => hkk (.inl h))
    have k2 : (kind != 2) = true := bne_iff_ne.2 (fun h => hkk (.inr h))
    go_wp2_with fail
    refine (first_any w7).mono ?_
    rintro e w8 ⟨rfl, hb8⟩
    have HB8 := Lib.hid (HB7.out.trans (hb8.mono HB7.out.size))
    clear hb8
    go_wp2_with fail
    go_ret
    exact ⟨rfl, HB8.out⟩
  have hk : kind = 3 ∨ kind = 2 := Classical.not_not.1 hkk
  have HFA : Hid (FailAll c4 p data kind) := fails_all HINV4.out (ev := ⟨ca + 1, kind, 0, 0, 0, [], []⟩) HPL4.out.1 (by rw [HPL4.out.2.1]) HPL4.out.2.2 hk p data
  have HGX : Hid (∀ k, (G k ∧ k < w.heap.size) → G k) := fun k hk => hk.1
  obtain ⟨em, hem⟩ : ∃ x, crtE c4 p 1 data false = x := ⟨_, rfl⟩
  obtain ⟨c8, hc8⟩ : ∃ x, crtC c4 p 1 data false = x := ⟨_, rfl⟩
  obtain ⟨gm, hgm⟩ : ∃ x, crtE { c4 with plan := [] } p 1 data false = x := ⟨_, rfl⟩
  obtain ⟨c9, hc9⟩ : ∃ x, crtC { c4 with plan := [] } p 1 data false = x := ⟨_, rfl⟩
  have HEM := Lib.hid hem
  have HC8 := Lib.hid hc8
  have HGM := Lib.hid hgm
  have HC9 := Lib.hid hc9
  have HGO8 : Hid (GoC c8 101) := by rw [← hc8]; exact HGO4.out.crt p 1 data false
  have HGO7 : Hid (GoC { c4 with plan := [] } 100) := HGO4.out.planned (Nat.zero_le _) (fun e he => by cases he)
  have HGO9 : Hid (GoC c9 101) := by rw [← hc9]; exact HGO7.out.crt p 1 data false
  obtain ⟨fa1, fa2, fa3, fa4, fa5, fa6, fa7, fa8⟩ := HFA.out
  rw [hem] at fa1 fa2 fa3
  rw [hgm] at fa3 fa6
  rw [hc8] at fa4 fa5 fa6 fa7 fa8
  rw [hc9] at fa7 fa8
  have HF4 := Lib.hid fa4
  have HF5 := Lib.hid fa5
  have HF6 := Lib.hid fa6
  have HF7 := Lib.hid fa7
  have HF8 := Lib.hid fa8
  have HF2 := Lib.hid fa2
  have HF3 := Lib.hid fa3
  have em0 : (em == 0) = false := beq_eq_false_iff_ne.2 fa1
  have em0' : (em != 0) = true := bne_iff_ne.2 fa1
  have HDV7 : Hid (By (fun k => G k ∧ k < w.heap.size) w7 (.slice dA dn dc) data) := by
    have h1 := HDV.out.bound
    exact h1.only (Only.of_below (M := fun _ => False) HB7.out) (fun _ _ => id)
  have HRUN := Lib.hid (writef_any F4 M4 b0 c4 13000 p 1 (.slice dA dn dc) data (fun k => G k ∧ k < w.heap.size) w7 HAT7.out (HGO4.out.ready (by decide)) HDV7.out (fun k hk hm => by have := HLOW4.out k hm; omega) (Nat.le_trans HA.out (by decide)))
  rw [hem, hc8] at HRUN
  clear hem hc8 hgm hc9 fa1 fa2 fa3 fa4 fa5 fa6 fa7 fa8 hkk
  rcases hk with hk | hk
  · subst hk
    obtain rfl : em = 11 := HF2.out rfl
    go_wp2_with fail
    refine HRUN.out.mono ?_
    rintro e w8 ⟨rfl, hp⟩
    obtain ⟨F8, M8, hs8⟩ := hp.stp
    have HS8 := Lib.hid hs8
    have HB8 := Lib.hid (hs8.below HB7.out HLOW4.out)
    have HLOW8 : Hid (∀ k, M8 k → w.heap.size ≤ k) := hs8.low HLOW4.out HB7.out.size
    have HATO8 : Hid (FcAt FO1 w8 bo { c4 with plan := [] } MO1) := HS7.out.at_.stay HAPO1.out hs8.only
    have HATW8 : Hid (FcAt FW w8 bw c4 MW) := HATW7.out.stay HAPW.out hs8.only
    have HAPO8 : Hid (Ap FO1 MO1 M8) := HAPO1.out.step HS7.out.at_ hs8.mm
    have HAPF8 : Hid (Ap F8 M8 MO1) := HAPF1.out.own (fun k hk => HS7.out.at_.lt k hk) hs8.mm hs8.ff
    have HDV8 : Hid (By (fun k => G k ∧ k < w.heap.size) w8 (.slice dA dn dc) data) := by
      have h1 := HDV.out.bound
      exact h1.only (Only.of_below (M := fun _ => False) HB8.out) (fun _ _ => id)
    have hrun := writef_any FO1 MO1 bo { c4 with plan := [] } 13000 p 1 (.slice dA dn dc) data (fun k => G k ∧ k < w.heap.size) w8 HATO8.out (HGO7.out.ready (by decide)) HDV8.out (fun k hk hm => by have := HLOWO1.out k hm; omega) (Nat.le_trans HA.out (by decide))
    rw [HGM.out, HC9.out] at hrun
    have HRUN2 := Lib.hid hrun
    clear hp hs8 hrun HRUN
    go_wp2_with fail
    refine HRUN2.out.mono ?_
    rintro e w9 ⟨rfl, hp⟩
    obtain ⟨FO2, MO2, hs9⟩ := hp.stp
    have HS9 := Lib.hid hs9
    have HB9 := Lib.hid (hs9.below HB8.out HLOWO1.out)
    have HAT9 : Hid (FcAt F8 w9 b0 c8 M8) := HS8.out.at_.stay HAPF8.out hs9.only
    have HATW9 : Hid (FcAt FW w9 bw c4 MW) := HATW8.out.stay HAPWO1.out hs9.only
    have HAPO9 : Hid (Ap FO2 MO2 M8) := HAPO8.out.own (fun k hk => HS8.out.at_.lt k hk) hs9.mm hs9.ff
    clear hp hs9 HRUN2
    have HDV9 : Hid (∀ W, Below w.heap.size w W → By (fun k => G k ∧ k < w.heap.size) W (.slice dA dn dc) data) := fun W hW => by
      have h1 := HDV.out.bound
      exact h1.only (Only.of_below (M := fun _ => False) hW) (fun _ _ => id)
    obtain ⟨tm, htm⟩ : ∃ x, c4.time = x := ⟨_, rfl⟩
    have HTM := Lib.hid htm
    clear htm
    go_wp2_with fail
    refine (alike_any F8 M8 FW MW b0 bw c8 c4 w9 HAT9.out HATW9.out (HGO8.out.small (by decide)) HSM.out HF4.out).mono ?_
    rintro e w10 ⟨rfl, hb10⟩
    have HB10 := Lib.hid (HB9.out.trans (hb10.mono HB9.out.size))
    have HAT10 := Lib.hid (HAT9.out.below hb10)
    have HATO10 := Lib.hid (HS9.out.at_.below hb10)
    have HATW10 := Lib.hid (HATW9.out.below hb10)
    clear hb10
    go_wp2_with fail
    refine (now_any HAT10.out).mono ?_
    rw [HF5.out, HTM.out]
    rintro e wz ⟨rfl, rfl⟩
    go_wp2_with fail
    refine (now_any HATW10.out).mono ?_
    rw [HTM.out]
    rintro e wz ⟨rfl, rfl⟩
    go_wp2_with fail
    refine (first_any w10).mono ?_
    rintro e w11 ⟨rfl, hb11⟩
    have HB11 := Lib.hid (HB10.out.trans (hb11.mono HB10.out.size))
    have HAT11 := Lib.hid (HAT10.out.below hb11)
    have HATO11 := Lib.hid (HATO10.out.below hb11)
    clear hb11
    obtain ⟨c12, hc12⟩ : ∃ x, crtC c8 p 1 data false = x := ⟨_, rfl⟩
    have HGO12 : Hid (GoC c12 102) := by rw [← hc12]; exact HGO8.out.crt p 1 data false
    have HC12 := Lib.hid hc12
    have hrun := writef_any F8 M8 b0 c8 14000 p 1 (.slice dA dn dc) data (fun k => G k ∧ k < w.heap.size) w11 HAT11.out (⟨HGO8.out.fits.more (by decide), by have := HGO8.out.plan; omega, ⟨HGO8.out.calls.1, by have := HGO8.out.calls.2; omega⟩, fun e he => Nat.le_trans (HGO8.out.paths e he) (by decide)⟩) (HDV9.out w11 HB11.out) (fun k hk hm => by have := HLOW8.out k hm; omega) (Nat.le_trans HA.out (by decide))
    rw [HF6.out, hc12] at hrun
    have HRUN3 := Lib.hid hrun
    clear hc12 hrun
    go_wp2_with fail
    refine HRUN3.out.mono ?_
    rintro e w12 ⟨rfl, hp⟩
    obtain ⟨F12, M12, hs12⟩ := hp.stp
    have HS12 := Lib.hid hs12
    have HB12 := Lib.hid (hs12.below HB11.out HLOW8.out)
    have HATO12 : Hid (FcAt FO2 w12 bo c9 MO2) := HATO11.out.stay HAPO9.out hs12.only
    clear hp hs12 HRUN3
    obtain ⟨cx, hcx⟩ : ∃ x, c9.calls = x := ⟨_, rfl⟩
    have HCX := Lib.hid hcx
    have hcy : 0 ≤ cx ∧ cx ≤ 101 := by have := HGO9.out.calls; omega
    obtain ⟨hcy1, hcy2⟩ := hcy
    have wcx : IntKind.i64.wrap (cx + 1) = cx + 1 := IntWalk.i64_in _ (by omega)
    have HCZ : Hid (c12.calls = cx + 1) := by
      have h1 := HF8.out
      rw [HC12.out, hcx] at h1
      exact h1
    clear hcx
    by_cases hg0 : gm = 0
    · subst hg0
      go_wp2_with fail
      refine (alike_any F12 M12 FO2 MO2 b0 bo c12 c9 w12 HS12.out.at_ HATO12.out (HGO12.out.small (by decide)) (HGO9.out.small (by decide)) (by have h1 := HF7.out; rw [HC12.out] at h1; exact h1)).mono ?_
      rintro e w13 ⟨rfl, hb13⟩
      have HB13 := Lib.hid (HB12.out.trans (hb13.mono HB12.out.size))
      have HAT13 := Lib.hid (HS12.out.at_.below hb13)
      have HATO13 := Lib.hid (HATO12.out.below hb13)
      clear hb13
      go_wp2_with fail
      refine (calls_any HAT13.out).mono ?_
      rw [HCZ.out]
      rintro e wz ⟨rfl, rfl⟩
      go_wp2_with fail
      refine (calls_any HATO13.out).mono ?_
      rw [HCX.out]
      rintro e wz ⟨rfl, rfl⟩
      go_wp2_with fail
      go_ret
      exact ⟨by first | rfl | simp, HB13.out⟩
    · have g0 : (gm != 0) = true := bne_iff_ne.2 hg0
      have g0' : (gm == 0) = false := beq_eq_false_iff_ne.2 hg0
      have HB13 := Lib.hid HB12.out
      have HAT13 := Lib.hid HS12.out.at_
      have HATO13 := Lib.hid HATO12.out
      go_wp2_with fail
      refine (calls_any HAT13.out).mono ?_
      rw [HCZ.out]
      rintro e wz ⟨rfl, rfl⟩
      go_wp2_with fail
      refine (calls_any HATO13.out).mono ?_
      rw [HCX.out]
      rintro e wz ⟨rfl, rfl⟩
      go_wp2_with fail
      go_ret
      exact ⟨by first | rfl | simp, HB13.out⟩
  · subst hk
    by_cases hz : gm = 0
    · subst hz
      obtain rfl : em = 10 := HF3.out rfl rfl
      go_wp2_with fail
      refine HRUN.out.mono ?_
      rintro e w8 ⟨rfl, hp⟩
      obtain ⟨F8, M8, hs8⟩ := hp.stp
      have HS8 := Lib.hid hs8
      have HB8 := Lib.hid (hs8.below HB7.out HLOW4.out)
      have HLOW8 : Hid (∀ k, M8 k → w.heap.size ≤ k) := hs8.low HLOW4.out HB7.out.size
      have HATO8 : Hid (FcAt FO1 w8 bo { c4 with plan := [] } MO1) := HS7.out.at_.stay HAPO1.out hs8.only
      have HATW8 : Hid (FcAt FW w8 bw c4 MW) := HATW7.out.stay HAPW.out hs8.only
      have HAPO8 : Hid (Ap FO1 MO1 M8) := HAPO1.out.step HS7.out.at_ hs8.mm
      have HAPF8 : Hid (Ap F8 M8 MO1) := HAPF1.out.own (fun k hk => HS7.out.at_.lt k hk) hs8.mm hs8.ff
      have HDV8 : Hid (By (fun k => G k ∧ k < w.heap.size) w8 (.slice dA dn dc) data) := by
        have h1 := HDV.out.bound
        exact h1.only (Only.of_below (M := fun _ => False) HB8.out) (fun _ _ => id)
      have hrun := writef_any FO1 MO1 bo { c4 with plan := [] } 13000 p 1 (.slice dA dn dc) data (fun k => G k ∧ k < w.heap.size) w8 HATO8.out (HGO7.out.ready (by decide)) HDV8.out (fun k hk hm => by have := HLOWO1.out k hm; omega) (Nat.le_trans HA.out (by decide))
      rw [HGM.out, HC9.out] at hrun
      have HRUN2 := Lib.hid hrun
      clear hp hs8 hrun HRUN
      go_wp2_with fail
      refine HRUN2.out.mono ?_
      rintro e w9 ⟨rfl, hp⟩
      obtain ⟨FO2, MO2, hs9⟩ := hp.stp
      have HS9 := Lib.hid hs9
      have HB9 := Lib.hid (hs9.below HB8.out HLOWO1.out)
      have HAT9 : Hid (FcAt F8 w9 b0 c8 M8) := HS8.out.at_.stay HAPF8.out hs9.only
      have HATW9 : Hid (FcAt FW w9 bw c4 MW) := HATW8.out.stay HAPWO1.out hs9.only
      have HAPO9 : Hid (Ap FO2 MO2 M8) := HAPO8.out.own (fun k hk => HS8.out.at_.lt k hk) hs9.mm hs9.ff
      clear hp hs9 HRUN2
      have HDV9 : Hid (∀ W, Below w.heap.size w W → By (fun k => G k ∧ k < w.heap.size) W (.slice dA dn dc) data) := fun W hW => by
        have h1 := HDV.out.bound
        exact h1.only (Only.of_below (M := fun _ => False) hW) (fun _ _ => id)
      obtain ⟨tm, htm⟩ : ∃ x, c4.time = x := ⟨_, rfl⟩
      have HTM := Lib.hid htm
      clear htm
      go_wp2_with fail
      refine (alike_any F8 M8 FW MW b0 bw c8 c4 w9 HAT9.out HATW9.out (HGO8.out.small (by decide)) HSM.out HF4.out).mono ?_
      rintro e w10 ⟨rfl, hb10⟩
      have HB10 := Lib.hid (HB9.out.trans (hb10.mono HB9.out.size))
      have HAT10 := Lib.hid (HAT9.out.below hb10)
      have HATO10 := Lib.hid (HS9.out.at_.below hb10)
      have HATW10 := Lib.hid (HATW9.out.below hb10)
      clear hb10
      go_wp2_with fail
      refine (now_any HAT10.out).mono ?_
      rw [HF5.out, HTM.out]
      rintro e wz ⟨rfl, rfl⟩
      go_wp2_with fail
      refine (now_any HATW10.out).mono ?_
      rw [HTM.out]
      rintro e wz ⟨rfl, rfl⟩
      go_wp2_with fail
      refine (first_any w10).mono ?_
      rintro e w11 ⟨rfl, hb11⟩
      have HB11 := Lib.hid (HB10.out.trans (hb11.mono HB10.out.size))
      have HAT11 := Lib.hid (HAT10.out.below hb11)
      have HATO11 := Lib.hid (HATO10.out.below hb11)
      clear hb11
      obtain ⟨c12, hc12⟩ : ∃ x, crtC c8 p 1 data false = x := ⟨_, rfl⟩
      have HGO12 : Hid (GoC c12 102) := by rw [← hc12]; exact HGO8.out.crt p 1 data false
      have HC12 := Lib.hid hc12
      have hrun := writef_any F8 M8 b0 c8 14000 p 1 (.slice dA dn dc) data (fun k => G k ∧ k < w.heap.size) w11 HAT11.out (⟨HGO8.out.fits.more (by decide), by have := HGO8.out.plan; omega, ⟨HGO8.out.calls.1, by have := HGO8.out.calls.2; omega⟩, fun e he => Nat.le_trans (HGO8.out.paths e he) (by decide)⟩) (HDV9.out w11 HB11.out) (fun k hk hm => by have := HLOW8.out k hm; omega) (Nat.le_trans HA.out (by decide))
      rw [HF6.out, hc12] at hrun
      have HRUN3 := Lib.hid hrun
      clear hc12 hrun
      go_wp2_with fail
      refine HRUN3.out.mono ?_
      rintro e w12 ⟨rfl, hp⟩
      obtain ⟨F12, M12, hs12⟩ := hp.stp
      have HS12 := Lib.hid hs12
      have HB12 := Lib.hid (hs12.below HB11.out HLOW8.out)
      have HATO12 : Hid (FcAt FO2 w12 bo c9 MO2) := HATO11.out.stay HAPO9.out hs12.only
      clear hp hs12 HRUN3
      obtain ⟨cx, hcx⟩ : ∃ x, c9.calls = x := ⟨_, rfl⟩
      have HCX := Lib.hid hcx
      have hcy : 0 ≤ cx ∧ cx ≤ 101 := by have := HGO9.out.calls; omega
      obtain ⟨hcy1, hcy2⟩ := hcy
      have wcx : IntKind.i64.wrap (cx + 1) = cx + 1 := IntWalk.i64_in _ (by omega)
      have HCZ : Hid (c12.calls = cx + 1) := by
        have h1 := HF8.out
        rw [HC12.out, hcx] at h1
        exact h1
      clear hcx
      · skip
        go_wp2_with fail
        refine (alike_any F12 M12 FO2 MO2 b0 bo c12 c9 w12 HS12.out.at_ HATO12.out (HGO12.out.small (by decide)) (HGO9.out.small (by decide)) (by have h1 := HF7.out; rw [HC12.out] at h1; exact h1)).mono ?_
        rintro e w13 ⟨rfl, hb13⟩
        have HB13 := Lib.hid (HB12.out.trans (hb13.mono HB12.out.size))
        have HAT13 := Lib.hid (HS12.out.at_.below hb13)
        have HATO13 := Lib.hid (HATO12.out.below hb13)
        clear hb13
        go_wp2_with fail
        refine (calls_any HAT13.out).mono ?_
        rw [HCZ.out]
        rintro e wz ⟨rfl, rfl⟩
        go_wp2_with fail
        refine (calls_any HATO13.out).mono ?_
        rw [HCX.out]
        rintro e wz ⟨rfl, rfl⟩
        go_wp2_with fail
        go_ret
        exact ⟨by first | rfl | simp, HB13.out⟩
    · have z0 : (gm != 0) = true := bne_iff_ne.2 hz
      have z0' : (gm == 0) = false := beq_eq_false_iff_ne.2 hz
      go_wp2_with fail
      refine HRUN.out.mono ?_
      rintro e w8 ⟨rfl, hp⟩
      obtain ⟨F8, M8, hs8⟩ := hp.stp
      have HS8 := Lib.hid hs8
      have HB8 := Lib.hid (hs8.below HB7.out HLOW4.out)
      have HLOW8 : Hid (∀ k, M8 k → w.heap.size ≤ k) := hs8.low HLOW4.out HB7.out.size
      have HATO8 : Hid (FcAt FO1 w8 bo { c4 with plan := [] } MO1) := HS7.out.at_.stay HAPO1.out hs8.only
      have HATW8 : Hid (FcAt FW w8 bw c4 MW) := HATW7.out.stay HAPW.out hs8.only
      have HAPO8 : Hid (Ap FO1 MO1 M8) := HAPO1.out.step HS7.out.at_ hs8.mm
      have HAPF8 : Hid (Ap F8 M8 MO1) := HAPF1.out.own (fun k hk => HS7.out.at_.lt k hk) hs8.mm hs8.ff
      have HDV8 : Hid (By (fun k => G k ∧ k < w.heap.size) w8 (.slice dA dn dc) data) := by
        have h1 := HDV.out.bound
        exact h1.only (Only.of_below (M := fun _ => False) HB8.out) (fun _ _ => id)
      have hrun := writef_any FO1 MO1 bo { c4 with plan := [] } 13000 p 1 (.slice dA dn dc) data (fun k => G k ∧ k < w.heap.size) w8 HATO8.out (HGO7.out.ready (by decide)) HDV8.out (fun k hk hm => by have := HLOWO1.out k hm; omega) (Nat.le_trans HA.out (by decide))
      rw [HGM.out, HC9.out] at hrun
      have HRUN2 := Lib.hid hrun
      clear hp hs8 hrun HRUN
      go_wp2_with fail
      refine HRUN2.out.mono ?_
      rintro e w9 ⟨rfl, hp⟩
      obtain ⟨FO2, MO2, hs9⟩ := hp.stp
      have HS9 := Lib.hid hs9
      have HB9 := Lib.hid (hs9.below HB8.out HLOWO1.out)
      have HAT9 : Hid (FcAt F8 w9 b0 c8 M8) := HS8.out.at_.stay HAPF8.out hs9.only
      have HATW9 : Hid (FcAt FW w9 bw c4 MW) := HATW8.out.stay HAPWO1.out hs9.only
      have HAPO9 : Hid (Ap FO2 MO2 M8) := HAPO8.out.own (fun k hk => HS8.out.at_.lt k hk) hs9.mm hs9.ff
      clear hp hs9 HRUN2
      have HDV9 : Hid (∀ W, Below w.heap.size w W → By (fun k => G k ∧ k < w.heap.size) W (.slice dA dn dc) data) := fun W hW => by
        have h1 := HDV.out.bound
        exact h1.only (Only.of_below (M := fun _ => False) hW) (fun _ _ => id)
      obtain ⟨tm, htm⟩ : ∃ x, c4.time = x := ⟨_, rfl⟩
      have HTM := Lib.hid htm
      clear htm
      go_wp2_with fail
      refine (alike_any F8 M8 FW MW b0 bw c8 c4 w9 HAT9.out HATW9.out (HGO8.out.small (by decide)) HSM.out HF4.out).mono ?_
      rintro e w10 ⟨rfl, hb10⟩
      have HB10 := Lib.hid (HB9.out.trans (hb10.mono HB9.out.size))
      have HAT10 := Lib.hid (HAT9.out.below hb10)
      have HATO10 := Lib.hid (HS9.out.at_.below hb10)
      have HATW10 := Lib.hid (HATW9.out.below hb10)
      clear hb10
      go_wp2_with fail
      refine (now_any HAT10.out).mono ?_
      rw [HF5.out, HTM.out]
      rintro e wz ⟨rfl, rfl⟩
      go_wp2_with fail
      refine (now_any HATW10.out).mono ?_
      rw [HTM.out]
      rintro e wz ⟨rfl, rfl⟩
      go_wp2_with fail
      refine (first_any w10).mono ?_
      rintro e w11 ⟨rfl, hb11⟩
      have HB11 := Lib.hid (HB10.out.trans (hb11.mono HB10.out.size))
      have HAT11 := Lib.hid (HAT10.out.below hb11)
      have HATO11 := Lib.hid (HATO10.out.below hb11)
      clear hb11
      obtain ⟨c12, hc12⟩ : ∃ x, crtC c8 p 1 data false = x := ⟨_, rfl⟩
      have HGO12 : Hid (GoC c12 102) := by rw [← hc12]; exact HGO8.out.crt p 1 data false
      have HC12 := Lib.hid hc12
      have hrun := writef_any F8 M8 b0 c8 14000 p 1 (.slice dA dn dc) data (fun k => G k ∧ k < w.heap.size) w11 HAT11.out (⟨HGO8.out.fits.more (by decide), by have := HGO8.out.plan; omega, ⟨HGO8.out.calls.1, by have := HGO8.out.calls.2; omega⟩, fun e he => Nat.le_trans (HGO8.out.paths e he) (by decide)⟩) (HDV9.out w11 HB11.out) (fun k hk hm => by have := HLOW8.out k hm; omega) (Nat.le_trans HA.out (by decide))
      rw [HF6.out, hc12] at hrun
      have HRUN3 := Lib.hid hrun
      clear hc12 hrun
      go_wp2_with fail
      refine HRUN3.out.mono ?_
      rintro e w12 ⟨rfl, hp⟩
      obtain ⟨F12, M12, hs12⟩ := hp.stp
      have HS12 := Lib.hid hs12
      have HB12 := Lib.hid (hs12.below HB11.out HLOW8.out)
      have HATO12 : Hid (FcAt FO2 w12 bo c9 MO2) := HATO11.out.stay HAPO9.out hs12.only
      clear hp hs12 HRUN3
      obtain ⟨cx, hcx⟩ : ∃ x, c9.calls = x := ⟨_, rfl⟩
      have HCX := Lib.hid hcx
      have hcy : 0 ≤ cx ∧ cx ≤ 101 := by have := HGO9.out.calls; omega
      obtain ⟨hcy1, hcy2⟩ := hcy
      have wcx : IntKind.i64.wrap (cx + 1) = cx + 1 := IntWalk.i64_in _ (by omega)
      have HCZ : Hid (c12.calls = cx + 1) := by
        have h1 := HF8.out
        rw [HC12.out, hcx] at h1
        exact h1
      clear hcx
      have HB13 := Lib.hid HB12.out
      have HAT13 := Lib.hid HS12.out.at_
      have HATO13 := Lib.hid HATO12.out
      go_wp2_with fail
      refine (calls_any HAT13.out).mono ?_
      rw [HCZ.out]
      rintro e wz ⟨rfl, rfl⟩
      go_wp2_with fail
      refine (calls_any HATO13.out).mono ?_
      rw [HCX.out]
      rintro e wz ⟨rfl, rfl⟩
      go_wp2_with fail
      go_ret
      exact ⟨by first | rfl | simp, HB13.out⟩
end Go.Proofs.YtaccejlalomaaaaGreat.Tx
