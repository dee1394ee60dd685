/- Texts put together: Hmv. -/
import Derived.Test.YtaccejlalomaaaaGreatQh48
/- marlaw5.FsimMoves: the walk. -/
set_option linter.unusedVariables false
set_option linter.unusedSimpArgs false
namespace Go.Proofs.YtaccejlalomaaaaGreat.Tx
open Go.RowKit Go.Maps Go.Proofs.YtaccejlalomaaaaGreat.Sh

set_option linter.unusedSimpArgs false in
set_option maxRecDepth 100000 in
set_option maxHeartbeats 12800000 in
theorem moves_any (G : Nat → Prop) (room : Int) (v : Value) (l : List LOp) (a b : List UInt8) (only : Bool) (w : World) (h : OpsF G w v l) (hG : ∀ k, G k → k < w.heap.size) (hdl : ∀ o ∈ l, o.data.length ≤ 140737488351232 ∧ ∀ e ∈ o.plan, e.data.length ≤ 140737488351232) : Calls Tryz.prog 7 #[.int .i64 room, v, .string (str a), .string (str b), .bool only] w (Yes w) := by
  have HL := Lib.hid h
  have HG := Lib.hid hG
  have HDL := Lib.hid hdl
  have hsa : (str a).size = a.length := str_size _
  have hsb : (str b).size = b.length := str_size _
  clear h hG hdl
  go_enter Tryz.func7, Tryz.ntmps7
  go_wp2_with fail
  refine (first_any w).mono ?_
  rintro e w1 ⟨rfl, hb1⟩
  have HB1 := Lib.hid hb1
  clear hb1
  go_wp2_with fail
  refine (played_any G room v l w1 (HL.out.below HB1.out) (fun k hk => Nat.lt_of_lt_of_le (HG.out k hk) HB1.out.size) HDL.out).mono ?_
  rintro e w2 ⟨hb2, rfl | ⟨b0, F, M, c, rfl, hsub, hat, hlow, hinv, hkept, hroom, hgo⟩⟩
  · have HB2 := Lib.hid (HB1.out.trans (hb2.mono HB1.out.size))
    clear hb2
    go_wp2_with fail
    refine (first_any w2).mono ?_
    rintro e w3 ⟨rfl, hb3⟩
    have HB3 := Lib.hid (HB2.out.trans (hb3.mono HB2.out.size))
    clear hb3
    go_wp2_with fail
    go_ret
    exact ⟨rfl, HB3.out⟩
  have HB2 := Lib.hid (HB1.out.trans (hb2.mono HB1.out.size))
  have HAT := Lib.hid hat
  have HLOW : Hid (∀ k, M k → w.heap.size ≤ k) := fun k hk => by have := hlow k hk; have := HB1.out.size; omega
  have HINV := Lib.hid hinv
  have HGO := Lib.hid hgo
  clear hb2 hat hlow hinv hkept hroom hgo hsub
  by_cases hla : 400 < a.length
  · have hla' : (400 : Int) < (a.length : Int) := by omega
    go_wp2_with fail
    refine (first_any w2).mono ?_
    rintro e w3 ⟨rfl, hb3⟩
    have HB3 := Lib.hid (HB2.out.trans (hb3.mono HB2.out.size))
    clear hb3
    go_wp2_with fail
    go_ret
    exact ⟨rfl, HB3.out⟩
  have hla' : ¬ (400 : Int) < (a.length : Int) := by omega
  by_cases hlb : 400 < b.length
  · have hlb' : (400 : Int) < (b.length : Int) := by omega
    go_wp2_with fail
    refine (first_any w2).mono ?_
    rintro e w3 ⟨rfl, hb3⟩
    have HB3 := Lib.hid (HB2.out.trans (hb3.mono HB2.out.size))
    clear hb3
    go_wp2_with fail
    go_ret
    exact ⟨rfl, HB3.out⟩
  have hlb' : ¬ (400 : Int) < (b.length : Int) := by omega
  have HA : Hid (a.length ≤ 900000) := by unfold Hid; omega
  have HBL : Hid (b.length ≤ 900000) := by unfold Hid; omega
  clear hla hlb
  go_wp2_with fail
  refine (plan_any F M b0 c (.slice none 0 0) [] w2 HAT.out (InL.nil_ evK F w2).tmp (Nat.zero_le _) (fun e he => by cases he)).mono ?_
  rintro e w3 ⟨rfl, R, hR, hp⟩
  obtain rfl := planR_nil hR
  obtain ⟨F3, M3, hs3⟩ := hp.stp
  have HS3 := Lib.hid hs3
  have HB3 := Lib.hid (hs3.below HB2.out HLOW.out)
  have HLOW3 : Hid (∀ k, M3 k → w.heap.size ≤ k) := hs3.low HLOW.out HB2.out.size
  clear hR hp hs3 hla' hlb' hsa hsb
  go_wp2_with fail
  refine (reboot_any HS3.out.at_).mono ?_
  rintro e w4 ⟨rfl, hp⟩
  obtain ⟨F4, M4, hs4⟩ := hp.stp
  have HS4 := Lib.hid hs4
  have HB4 := Lib.hid (hs4.below HB3.out HLOW3.out)
  have HLOW4 : Hid (∀ k, M4 k → w.heap.size ≤ k) := hs4.low HLOW3.out HB3.out.size
  clear hp hs4
  obtain ⟨c4, hc4⟩ : ∃ x : CSt, x = { { c with plan := [] } with down := false } := ⟨_, rfl⟩
  have HPD : Hid (c4.plan = [] ∧ c4.down = false) := by rw [hc4]; exact ⟨rfl, rfl⟩
  have HAT4 : Hid (FcAt F4 w4 b0 c4 M4) := by rw [hc4]; exact HS4.out.at_
  have HINV4 : Hid (InvC c4) := HINV.out.same (by rw [hc4]) (by rw [hc4]) (by rw [hc4]) (by rw [hc4])
  have HGO4 : Hid (GoC c4 100) := by rw [hc4]; exact (HGO.out.planned (Nat.zero_le _) (fun e he => by cases he)).up
  clear hc4 HS3 HS4 HAT HINV HGO HLOW HLOW3
  have HSM : Hid (CSmall c4) := HGO4.out.small (by decide)
  go_wp2_with fail
  refine (copy_any HAT4.out HSM.out (Nat.le_trans HGO4.out.plan (by decide))).mono ?_
  rintro e w5 ⟨bw, MW, rfl, hatw, hb5, hloww⟩
  have HATW := Lib.hid hatw
  have HAP := Lib.hid (copy_ap (w' := w5) HAT4.out hloww)
  have HAT5 := Lib.hid (HAT4.out.below hb5)
  have HB5 := Lib.hid (HB4.out.trans (hb5.mono HB4.out.size))
  clear hatw hb5 hloww
  go_wp2_with fail
  refine (peek_any a HAT5.out HSM.out (Nat.le_trans HA.out (by decide))).mono ?_
  rintro e w6 ⟨u6, rfl, ⟨v6, rfl, ho6⟩, hb6⟩
  obtain ⟨ta, hta⟩ : ∃ t, peekB c4.here a = t := ⟨_, rfl⟩
  obtain ⟨fa, hfa⟩ : ∃ f, peekF c4.here a = f := ⟨_, rfl⟩
  obtain ⟨A6, k6, rfl, _, _⟩ := ho6.slv
  rw [hfa] at ho6 ⊢
  rw [hta]
  rw [List.length_map] at ho6 ⊢
  obtain ⟨fl, hfl⟩ : ∃ l, fa.data.length = l := ⟨_, rfl⟩
  rw [hfl] at ho6 ⊢
  have HFL := Lib.hid hfl
  have HTA := Lib.hid hta
  have HFA := Lib.hid hfa
  have hba := hb6.alloc hb6.size (.cells #[.int .i64 fa.mode, .slice A6 fl k6, .int .i64 fa.time] 46)
  have HBA := Lib.hid hba
  have HXA : Hid (Blk (w6.alloc (.cells #[.int .i64 fa.mode, .slice A6 fl k6, .int .i64 fa.time] 46)) w6.heap.size 46 #[.int .i64 fa.mode, .slice A6 fl k6, .int .i64 fa.time]) := Blk.new _ _ _
  have HSA : Hid (By (fun k => w5.heap.size ≤ k ∧ k < w6.heap.size) (w6.alloc (.cells #[.int .i64 fa.mode, .slice A6 fl k6, .int .i64 fa.time] 46)) (.slice A6 fl k6) fa.data) := by
    have h1 : By (fun k => False ∨ (w5.heap.size ≤ k ∧ k < w6.heap.size)) w6 (.slice A6 fl k6) fa.data := OwnV.by_ ho6
    exact (h1.mono (fun k _ hk => hk.elim False.elim id)).only (Only.of_below (M := fun _ => False) ((Below.refl _ _).alloc (Nat.le_refl _) _)) (fun _ _ => id)
  have HZ56_ : Hid (w5.heap.size ≤ w6.heap.size) := hb6.size
  clear ho6 hb6 hba hta hfa hfl
  go_wp2_with fail
  refine (peek_any b (HAT5.out.below HBA.out) HSM.out (Nat.le_trans HBL.out (by decide))).mono ?_
  rintro e w7 ⟨u7, rfl, ⟨v7, rfl, ho7⟩, hb7⟩
  obtain ⟨tb, htb⟩ : ∃ t, peekB c4.here b = t := ⟨_, rfl⟩
  obtain ⟨fb, hfb⟩ : ∃ f, peekF c4.here b = f := ⟨_, rfl⟩
  obtain ⟨A7, k7, rfl, _, _⟩ := ho7.slv
  rw [hfb] at ho7 ⊢
  rw [htb]
  rw [List.length_map] at ho7 ⊢
  obtain ⟨gl, hgl⟩ : ∃ l, fb.data.length = l := ⟨_, rfl⟩
  rw [hgl] at ho7 ⊢
  have HTB := Lib.hid htb
  have hbb := hb7.alloc hb7.size (.cells #[.int .i64 fb.mode, .slice A7 gl k7, .int .i64 fb.time] 46)
  have HBB := Lib.hid (HBA.out.trans (hbb.mono HBA.out.size))
  have HXB : Hid (Blk (w7.alloc (.cells #[.int .i64 fb.mode, .slice A7 gl k7, .int .i64 fb.time] 46)) w6.heap.size 46 #[.int .i64 fa.mode, .slice A6 fl k6, .int .i64 fa.time]) := HXA.out.below hbb HXA.out.lt
  have HSB : Hid (By (fun k => w5.heap.size ≤ k ∧ k < w6.heap.size) (w7.alloc (.cells #[.int .i64 fb.mode, .slice A7 gl k7, .int .i64 fb.time] 46)) (.slice A6 fl k6) fa.data) := HSA.out.only (Only.of_below (M := fun _ => False) hbb) (fun _ _ => id)
  clear ho7 hb7 hbb htb hfb hgl
  obtain ⟨w8, hw8⟩ : ∃ x, x = w7.alloc (.cells #[.int .i64 fb.mode, .slice A7 gl k7, .int .i64 fb.time] 46) := ⟨_, rfl⟩
  have HW8 := Lib.hid hw8
  rw [← hw8] at HBB HXB HSB
  clear hw8
  have HAT8 : Hid (FcAt F4 w8 b0 c4 M4) := HAT5.out.below HBB.out
  have HATW8 : Hid (FcAt (grow F4 w4 w5 MW) w8 bw c4 MW) := HATW.out.below HBB.out
  have HB8 := Lib.hid (HB5.out.trans (HBB.out.mono HB5.out.size))
  obtain ⟨em, hem⟩ : ∃ x, mvE c4 a b only = x := ⟨_, rfl⟩
  have HEM := Lib.hid hem
  have HMC : Hid (movE c4 a b only = em ∧ movC c4 a b only = mvC { c4 with calls := c4.calls + 1 } a b only) := by
    have h1 := mov_calm HPD.out.1 HPD.out.2 a b only
    exact ⟨h1.1.trans hem, h1.2⟩
  have HCP : Hid (∀ e w9, (e = Ending.returned (.int .i64 em) ∧ FcPost F4 M4 w8 b0 (movC c4 a b only) w9) → ∃ F9 M9 c9, e = Ending.returned (.int .i64 em) ∧ Stp F4 M4 w8 b0 c9 w9 F9 M9 ∧ c9.here = (mvC c4 a b only).here ∧ CSmall c9) := fun e w9 ⟨he, hp⟩ => by
    obtain ⟨F9, M9, hs⟩ := hp.stp
    exact ⟨F9, M9, _, he, hs, by rw [HMC.out.2]; exact mv_rest _ _ _ _ _, (HGO4.out.mov a b only).small (by decide)⟩
  have HNEW : Hid (Calls Tryz.prog 40 #[.pointer (some ⟨b0, 0, none⟩), .string (str a), .string (str b)] w8 fun e w9 => only = true → e = Ending.returned (.int .i64 em) ∧ FcPost F4 M4 w8 b0 (movC c4 a b only) w9) := (movenew_any F4 M4 b0 c4 13000 a b w8 HAT8.out (HGO4.out.ready (by decide)) (Nat.le_trans HA.out (by decide)) (Nat.le_trans HBL.out (by decide))).mono fun e w9 ⟨he, hp⟩ ho => by
    subst ho
    exact ⟨by rw [he, HMC.out.1], hp⟩
  have HOLD : Hid (Calls Tryz.prog 41 #[.pointer (some ⟨b0, 0, none⟩), .string (str a), .string (str b)] w8 fun e w9 => only = false → e = Ending.returned (.int .i64 em) ∧ FcPost F4 M4 w8 b0 (movC c4 a b only) w9) := (movef_any F4 M4 b0 c4 13000 a b w8 HAT8.out (HGO4.out.ready (by decide)) (Nat.le_trans HA.out (by decide)) (Nat.le_trans HBL.out (by decide))).mono fun e w9 ⟨he, hp⟩ ho => by
    subst ho
    exact ⟨by rw [he, HMC.out.1], hp⟩
  have q0 := HXB.out.cell 0
  have q1 := HXB.out.cell 1
  have q2 := HXB.out.cell 2
  have HZ56 : Hid (w5.heap.size ≤ w6.heap.size) := HZ56_.out
  clear hem q0 q1 q2
  cases only with
  | true =>
    go_wp2_with fail
    rw [← HW8.out]
    refine HNEW.out.mono ?_
    rintro e w9 hpost
    obtain ⟨F9, M9, c9, rfl, hst, hhere, hsm9⟩ := HCP.out e w9 (hpost (by simp))
    have HST := Lib.hid hst
    have HHERE := Lib.hid hhere
    have HSM9 := Lib.hid hsm9
    have HB9 := Lib.hid (hst.below HB8.out HLOW4.out)
    have HATW9 := Lib.hid (HATW8.out.stay HAP.out.1 hst.only)
    have HSC9 : Hid (By (fun k => w5.heap.size ≤ k ∧ k < w6.heap.size) w9 (.slice A6 fl k6) fa.data) := HSB.out.only hst.only (fun k hk hm => by have := HAT4.out.lt k hm; have := HATW.out.low; have h9 := HAT5.out.lt k hm; omega)
    have HXC : Hid (Blk w9 w6.heap.size 46 #[.int .i64 fa.mode, .slice A6 fl k6, .int .i64 fa.time]) := hst.only.blk HXB.out (fun hm => by have h9 := HAT5.out.lt _ hm; have := HBA.out.size; have h10 := HXA.out.lt; have : w5.heap.size ≤ w6.heap.size := HZ56.out; omega)
    clear hst hhere hsm9 hpost
    by_cases he0 : em = 0
    · subst he0
      obtain ⟨m1, m2, m3, m4, m5, m6⟩ := mv_fine HINV4.out a b true HEM.out
      rw [HTA.out] at m1
      subst m1
      rw [HTB.out] at m3
      rw [HFA.out] at m5
      rw [← HHERE.out] at m2 m4 m5 m6
      have HM2 := Lib.hid m2
      have HM4 := Lib.hid m4
      have HM5 := Lib.hid m5
      have HM6 := Lib.hid m6
      clear m2 m4 m5 m6
      have htb : tb = false := m3 rfl
      subst htb
      clear m3
      go_wp2_with fail
      refine (peek_any b HST.out.at_ HSM9.out (Nat.le_trans HBL.out (by decide))).mono ?_
      rw [HM5.out, HM2.out]
      rintro e w10 ⟨u10, rfl, ⟨v10, rfl, ho10⟩, hb10⟩
      obtain ⟨A10, k10, rfl, _, _⟩ := ho10.slv
      rw [List.length_map, HFL.out] at ho10 ⊢
      have hba := hb10.alloc hb10.size (.cells #[.int .i64 fa.mode, .slice A10 fl k10, .int .i64 fa.time] 46)
      have HBA10 := Lib.hid hba
      have HX10 : Hid (Blk (w10.alloc (.cells #[.int .i64 fa.mode, .slice A10 fl k10, .int .i64 fa.time] 46)) w10.heap.size 46 #[.int .i64 fa.mode, .slice A10 fl k10, .int .i64 fa.time]) := Blk.new _ _ _
      have HS10 : Hid (SlV (w10.alloc (.cells #[.int .i64 fa.mode, .slice A10 fl k10, .int .i64 fa.time] 46)) (.slice A10 fl k10) (fa.data.map bv)) := ho10.slv.below ((Below.refl _ _).alloc (Nat.le_refl _) _)
      clear ho10 hb10 hba
      go_wp2_with fail
      refine (peek_any a (HST.out.at_.below HBA10.out) HSM9.out (Nat.le_trans HA.out (by decide))).mono ?_
      rintro e w11 ⟨u11, rfl, ⟨v11, rfl, ho11⟩, hb11⟩
      rw [HM4.out]
      obtain ⟨fz, hfz⟩ : ∃ f, peekF c9.here a = f := ⟨_, rfl⟩
      obtain ⟨A11, k11, rfl, _, _⟩ := ho11.slv
      rw [hfz] at ho11 ⊢
      rw [List.length_map] at ho11 ⊢
      obtain ⟨zl, hzl⟩ : ∃ l, fz.data.length = l := ⟨_, rfl⟩
      rw [hzl] at ho11 ⊢
      have hbb := hb11.alloc hb11.size (.cells #[.int .i64 fz.mode, .slice A11 zl k11, .int .i64 fz.time] 46)
      have HBB11 := Lib.hid (HBA10.out.trans (hbb.mono HBA10.out.size))
      have HX11 := Lib.hid (HX10.out.below hbb HX10.out.lt)
      have HS11 := Lib.hid (HS10.out.below hbb)
      clear ho11 hb11 hbb hfz hzl
      have HB11 := Lib.hid (HB9.out.trans (HBB11.out.mono HB9.out.size))
      go_wp2_with fail
      refine (first_any _).mono ?_
      rintro e w12 ⟨rfl, hb12⟩
      have HB12' := Lib.hid (HBB11.out.trans (hb12.mono HBB11.out.size))
      have HB12 := Lib.hid (HB11.out.trans (hb12.mono HB11.out.size))
      have HX12 := Lib.hid (HX11.out.below hb12 (by have := HX10.out.lt; have := HX11.out.lt; omega))
      have HS12 := Lib.hid (HS11.out.below hb12)
      have HXF := Lib.hid (HXC.out.below HB12'.out HXC.out.lt)
      have HSF : Hid (SlV w12 (.slice A6 fl k6) (fa.data.map bv)) := Rd.slv (by rw [List.length_map, HFL.out]; have h9 := HSC9.out.only (Only.of_below (M := fun _ => False) HB12'.out) (fun _ _ => id); have h10 := h9; unfold By at h10; rw [HFL.out] at h10; exact h10)
      clear hb12
      have q0 := HXF.out.cell 0
      have q1 := HXF.out.cell 1
      have q2 := HXF.out.cell 2
      have r0 := HX12.out.cell 0
      have r1 := HX12.out.cell 1
      have r2 := HX12.out.cell 2
      obtain ⟨u1, hu1⟩ : ∃ x, usedM c9.here = x := ⟨_, rfl⟩
      obtain ⟨u2, hu2⟩ : ∃ x, usedM c4.here = x := ⟨_, rfl⟩
      have hle : (u1 : Int) ≤ (u2 : Int) := by have := HM6.out; omega
      have hled : decide ((u1 : Int) ≤ (u2 : Int)) = true := decide_eq_true hle
      have hled' : decide (u1 ≤ u2) = true := by simp; omega
      have HU1 := Lib.hid hu1
      have HU2 := Lib.hid hu2
      clear hu1 hu2
      by_cases hab : a = b
      · subst hab
        go_wp2_with fail
        refine (tbytes_any A6 A10 fl fl k6 k10 fa.data fa.data _ HFL.out HFL.out HSF.out HS12.out true (by simp)).mono ?_
        rintro e w13 ⟨rfl, rfl⟩
        clear q0 q1 q2 r0 r1 r2
        go_wp2_with fail
        refine (fused_any (HST.out.at_.below HB12'.out)).mono ?_
        rw [HU1.out]
        rintro e w13 ⟨rfl, rfl⟩
        go_wp2_with fail
        refine (fused_any (HATW9.out.below HB12'.out)).mono ?_
        rw [HU2.out]
        rintro e w13 ⟨rfl, rfl⟩
        go_wp2_with fail
        go_ret
        exact ⟨by first | rfl | simp [hled, hled'], HB12.out⟩
      · have q1s := toList_ne (fun e : str a = str b => hab (str_inj e))
        have habd : decide (a = b) = false := decide_eq_false hab
        rw [habd]
        go_wp2_with fail
        refine (tbytes_any A6 A10 fl fl k6 k10 fa.data fa.data _ HFL.out HFL.out HSF.out HS12.out true (by simp)).mono ?_
        rintro e w13 ⟨rfl, rfl⟩
        clear q0 q1 q2 r0 r1 r2
        go_wp2_with fail
        refine (fused_any (HST.out.at_.below HB12'.out)).mono ?_
        rw [HU1.out]
        rintro e w13 ⟨rfl, rfl⟩
        go_wp2_with fail
        refine (fused_any (HATW9.out.below HB12'.out)).mono ?_
        rw [HU2.out]
        rintro e w13 ⟨rfl, rfl⟩
        go_wp2_with fail
        go_ret
        exact ⟨by first | rfl | simp [hled, hled'], HB12.out⟩
    · have hemr := HEM.out
      obtain ⟨n1, n2, n3⟩ := mv_said a b true (show mvE c4 a b true ≠ 0 by rw [hemr]; exact he0)
      rw [hemr] at n2 n3
      rw [HTB.out] at n2
      rw [HTA.out] at n3
      have HN2 := Lib.hid n2
      have HN3 := Lib.hid n3
      have HSAME : Hid (c9.here = c4.here) := by show c9.here = c4.here; rw [HHERE.out, n1]
      have e0 : (em != 0) = true := bne_iff_ne.2 he0
      have e0' : (em == 0) = false := beq_eq_false_iff_ne.2 he0
      clear hemr n1 n2 n3
      have HLIKE : Hid (∀ W, Below w9.heap.size w9 W → Calls Tryz.prog 38 #[.pointer (some ⟨b0, 0, none⟩), .pointer (some ⟨bw, 0, none⟩)] W fun e w' => e = .returned (.bool true) ∧ Below W.heap.size W w') := fun W hW => alike_any F9 M9 _ MW b0 bw c9 c4 W (HST.out.at_.below hW) (HATW9.out.below hW) HSM9.out HSM.out HSAME.out
      by_cases h8 : em = 8
      · subst h8
        obtain rfl : tb = true := (HN2.out rfl).2
        go_wp2_with fail
        refine (first_any w9).mono ?_
        rintro e w10 ⟨rfl, hb10⟩
        have HB10 := Lib.hid hb10
        clear hb10
        go_wp2_with fail
        refine (HLIKE.out w10 HB10.out).mono ?_
        rintro e w11 ⟨rfl, hb11⟩
        have HB11 := Lib.hid (HB9.out.trans ((HB10.out.trans (hb11.mono HB10.out.size)).mono HB9.out.size))
        clear hb11
        go_wp2_with fail
        go_ret
        exact ⟨rfl, HB11.out⟩
      · have e8 : (em != 8) = true := bne_iff_ne.2 h8
        have e8' : (em == 8) = false := beq_eq_false_iff_ne.2 h8
        by_cases h7 : em = 7
        · subst h7
          obtain rfl : ta = false := HN3.out rfl
          go_wp2_with fail
          refine (first_any w9).mono ?_
          rintro e w10 ⟨rfl, hb10⟩
          have HB10 := Lib.hid hb10
          clear hb10
          go_wp2_with fail
          refine (HLIKE.out w10 HB10.out).mono ?_
          rintro e w11 ⟨rfl, hb11⟩
          have HB11 := Lib.hid (HB9.out.trans ((HB10.out.trans (hb11.mono HB10.out.size)).mono HB9.out.size))
          clear hb11
          go_wp2_with fail
          go_ret
          exact ⟨rfl, HB11.out⟩
        · have e7 : (em != 7) = true := bne_iff_ne.2 h7
          have e7' : (em == 7) = false := beq_eq_false_iff_ne.2 h7
          go_wp2_with fail
          refine (first_any w9).mono ?_
          rintro e w10 ⟨rfl, hb10⟩
          have HB10 := Lib.hid hb10
          clear hb10
          go_wp2_with fail
          refine (HLIKE.out w10 HB10.out).mono ?_
          rintro e w11 ⟨rfl, hb11⟩
          have HB11 := Lib.hid (HB9.out.trans ((HB10.out.trans (hb11.mono HB10.out.size)).mono HB9.out.size))
          clear hb11
          go_wp2_with fail
          go_ret
          exact ⟨rfl, HB11.out⟩

  | false =>
    go_wp2_with fail
    rw [← HW8.out]
    refine HOLD.out.mono ?_
    rintro e w9 hpost
    obtain ⟨F9, M9, c9, rfl, hst, hhere, hsm9⟩ := HCP.out e w9 (hpost (by simp))
    have HST := Lib.hid hst
    have HHERE := Lib.hid hhere
    have HSM9 := Lib.hid hsm9
    have HB9 := Lib.hid (hst.below HB8.out HLOW4.out)
    have HATW9 := Lib.hid (HATW8.out.stay HAP.out.1 hst.only)
    have HSC9 : Hid (By (fun k => w5.heap.size ≤ k ∧ k < w6.heap.size) w9 (.slice A6 fl k6) fa.data) := HSB.out.only hst.only (fun k hk hm => by have := HAT4.out.lt k hm; have := HATW.out.low; have h9 := HAT5.out.lt k hm; omega)
    have HXC : Hid (Blk w9 w6.heap.size 46 #[.int .i64 fa.mode, .slice A6 fl k6, .int .i64 fa.time]) := hst.only.blk HXB.out (fun hm => by have h9 := HAT5.out.lt _ hm; have := HBA.out.size; have h10 := HXA.out.lt; have : w5.heap.size ≤ w6.heap.size := HZ56.out; omega)
    clear hst hhere hsm9 hpost
    by_cases he0 : em = 0
    · subst he0
      obtain ⟨m1, m2, m3, m4, m5, m6⟩ := mv_fine HINV4.out a b false HEM.out
      rw [HTA.out] at m1
      subst m1
      rw [HTB.out] at m3
      rw [HFA.out] at m5
      rw [← HHERE.out] at m2 m4 m5 m6
      have HM2 := Lib.hid m2
      have HM4 := Lib.hid m4
      have HM5 := Lib.hid m5
      have HM6 := Lib.hid m6
      clear m2 m4 m5 m6
      clear m3
      go_wp2_with fail
      refine (peek_any b HST.out.at_ HSM9.out (Nat.le_trans HBL.out (by decide))).mono ?_
      rw [HM5.out, HM2.out]
      rintro e w10 ⟨u10, rfl, ⟨v10, rfl, ho10⟩, hb10⟩
      obtain ⟨A10, k10, rfl, _, _⟩ := ho10.slv
      rw [List.length_map, HFL.out] at ho10 ⊢
      have hba := hb10.alloc hb10.size (.cells #[.int .i64 fa.mode, .slice A10 fl k10, .int .i64 fa.time] 46)
      have HBA10 := Lib.hid hba
      have HX10 : Hid (Blk (w10.alloc (.cells #[.int .i64 fa.mode, .slice A10 fl k10, .int .i64 fa.time] 46)) w10.heap.size 46 #[.int .i64 fa.mode, .slice A10 fl k10, .int .i64 fa.time]) := Blk.new _ _ _
      have HS10 : Hid (SlV (w10.alloc (.cells #[.int .i64 fa.mode, .slice A10 fl k10, .int .i64 fa.time] 46)) (.slice A10 fl k10) (fa.data.map bv)) := ho10.slv.below ((Below.refl _ _).alloc (Nat.le_refl _) _)
      clear ho10 hb10 hba
      go_wp2_with fail
      refine (peek_any a (HST.out.at_.below HBA10.out) HSM9.out (Nat.le_trans HA.out (by decide))).mono ?_
      rintro e w11 ⟨u11, rfl, ⟨v11, rfl, ho11⟩, hb11⟩
      rw [HM4.out]
      obtain ⟨fz, hfz⟩ : ∃ f, peekF c9.here a = f := ⟨_, rfl⟩
      obtain ⟨A11, k11, rfl, _, _⟩ := ho11.slv
      rw [hfz] at ho11 ⊢
      rw [List.length_map] at ho11 ⊢
      obtain ⟨zl, hzl⟩ : ∃ l, fz.data.length = l := ⟨_, rfl⟩
      rw [hzl] at ho11 ⊢
      have hbb := hb11.alloc hb11.size (.cells #[.int .i64 fz.mode, .slice A11 zl k11, .int .i64 fz.time] 46)
      have HBB11 := Lib.hid (HBA10.out.trans (hbb.mono HBA10.out.size))
      have HX11 := Lib.hid (HX10.out.below hbb HX10.out.lt)
      have HS11 := Lib.hid (HS10.out.below hbb)
      clear ho11 hb11 hbb hfz hzl
      have HB11 := Lib.hid (HB9.out.trans (HBB11.out.mono HB9.out.size))
      go_wp2_with fail
      refine (first_any _).mono ?_
      rintro e w12 ⟨rfl, hb12⟩
      have HB12' := Lib.hid (HBB11.out.trans (hb12.mono HBB11.out.size))
      have HB12 := Lib.hid (HB11.out.trans (hb12.mono HB11.out.size))
      have HX12 := Lib.hid (HX11.out.below hb12 (by have := HX10.out.lt; have := HX11.out.lt; omega))
      have HS12 := Lib.hid (HS11.out.below hb12)
      have HXF := Lib.hid (HXC.out.below HB12'.out HXC.out.lt)
      have HSF : Hid (SlV w12 (.slice A6 fl k6) (fa.data.map bv)) := Rd.slv (by rw [List.length_map, HFL.out]; have h9 := HSC9.out.only (Only.of_below (M := fun _ => False) HB12'.out) (fun _ _ => id); have h10 := h9; unfold By at h10; rw [HFL.out] at h10; exact h10)
      clear hb12
      have q0 := HXF.out.cell 0
      have q1 := HXF.out.cell 1
      have q2 := HXF.out.cell 2
      have r0 := HX12.out.cell 0
      have r1 := HX12.out.cell 1
      have r2 := HX12.out.cell 2
      obtain ⟨u1, hu1⟩ : ∃ x, usedM c9.here = x := ⟨_, rfl⟩
      obtain ⟨u2, hu2⟩ : ∃ x, usedM c4.here = x := ⟨_, rfl⟩
      have hle : (u1 : Int) ≤ (u2 : Int) := by have := HM6.out; omega
      have hled : decide ((u1 : Int) ≤ (u2 : Int)) = true := decide_eq_true hle
      have hled' : decide (u1 ≤ u2) = true := by simp; omega
      have HU1 := Lib.hid hu1
      have HU2 := Lib.hid hu2
      clear hu1 hu2
      by_cases hab : a = b
      · subst hab
        go_wp2_with fail
        refine (tbytes_any A6 A10 fl fl k6 k10 fa.data fa.data _ HFL.out HFL.out HSF.out HS12.out true (by simp)).mono ?_
        rintro e w13 ⟨rfl, rfl⟩
        clear q0 q1 q2 r0 r1 r2
        go_wp2_with fail
        refine (fused_any (HST.out.at_.below HB12'.out)).mono ?_
        rw [HU1.out]
        rintro e w13 ⟨rfl, rfl⟩
        go_wp2_with fail
        refine (fused_any (HATW9.out.below HB12'.out)).mono ?_
        rw [HU2.out]
        rintro e w13 ⟨rfl, rfl⟩
        go_wp2_with fail
        go_ret
        exact ⟨by first | rfl | simp [hled, hled'], HB12.out⟩
      · have q1s := toList_ne (fun e : str a = str b => hab (str_inj e))
        have habd : decide (a = b) = false := decide_eq_false hab
        rw [habd]
        go_wp2_with fail
        refine (tbytes_any A6 A10 fl fl k6 k10 fa.data fa.data _ HFL.out HFL.out HSF.out HS12.out true (by simp)).mono ?_
        rintro e w13 ⟨rfl, rfl⟩
        clear q0 q1 q2 r0 r1 r2
        go_wp2_with fail
        refine (fused_any (HST.out.at_.below HB12'.out)).mono ?_
        rw [HU1.out]
        rintro e w13 ⟨rfl, rfl⟩
        go_wp2_with fail
        refine (fused_any (HATW9.out.below HB12'.out)).mono ?_
        rw [HU2.out]
        rintro e w13 ⟨rfl, rfl⟩
        go_wp2_with fail
        go_ret
        exact ⟨by first | rfl | simp [hled, hled'], HB12.out⟩
    · have hemr := HEM.out
      obtain ⟨n1, n2, n3⟩ := mv_said a b false (show mvE c4 a b false ≠ 0 by rw [hemr]; exact he0)
      rw [hemr] at n2 n3
      rw [HTB.out] at n2
      rw [HTA.out] at n3
      have HN2 := Lib.hid n2
      have HN3 := Lib.hid n3
      have HSAME : Hid (c9.here = c4.here) := by show c9.here = c4.here; rw [HHERE.out, n1]
      have e0 : (em != 0) = true := bne_iff_ne.2 he0
      have e0' : (em == 0) = false := beq_eq_false_iff_ne.2 he0
      clear hemr n1 n2 n3
      have HLIKE : Hid (∀ W, Below w9.heap.size w9 W → Calls Tryz.prog 38 #[.pointer (some ⟨b0, 0, none⟩), .pointer (some ⟨bw, 0, none⟩)] W fun e w' => e = .returned (.bool true) ∧ Below W.heap.size W w') := fun W hW => alike_any F9 M9 _ MW b0 bw c9 c4 W (HST.out.at_.below hW) (HATW9.out.below hW) HSM9.out HSM.out HSAME.out
      by_cases h8 : em = 8
      · subst h8
        exact absurd (HN2.out rfl).1 (by decide)
      · have e8 : (em != 8) = true := bne_iff_ne.2 h8
        have e8' : (em == 8) = false := beq_eq_false_iff_ne.2 h8
        by_cases h7 : em = 7
        · subst h7
          obtain rfl : ta = false := HN3.out rfl
          go_wp2_with fail
          refine (first_any w9).mono ?_
          rintro e w10 ⟨rfl, hb10⟩
          have HB10 := Lib.hid hb10
          clear hb10
          go_wp2_with fail
          refine (HLIKE.out w10 HB10.out).mono ?_
          rintro e w11 ⟨rfl, hb11⟩
          have HB11 := Lib.hid (HB9.out.trans ((HB10.out.trans (hb11.mono HB10.out.size)).mono HB9.out.size))
          clear hb11
          go_wp2_with fail
          go_ret
          exact ⟨rfl, HB11.out⟩
        · have e7 : (em != 7) = true := bne_iff_ne.2 h7
          have e7' : (em == 7) = false := beq_eq_false_iff_ne.2 h7
          go_wp2_with fail
          refine (first_any w9).mono ?_
          rintro e w10 ⟨rfl, hb10⟩
          have HB10 := Lib.hid hb10
          clear hb10
          go_wp2_with fail
          refine (HLIKE.out w10 HB10.out).mono ?_
          rintro e w11 ⟨rfl, hb11⟩
          have HB11 := Lib.hid (HB9.out.trans ((HB10.out.trans (hb11.mono HB10.out.size)).mono HB9.out.size))
          clear hb11
          go_wp2_with fail
          go_ret
          exact ⟨rfl, HB11.out⟩

end Go.Proofs.YtaccejlalomaaaaGreat.Tx
