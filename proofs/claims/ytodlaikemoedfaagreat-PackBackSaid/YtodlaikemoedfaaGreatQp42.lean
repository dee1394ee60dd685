/- Texts put together: YPk8, YPk9. -/
import Derived.Test.YtodlaikemoedfaaGreatQp41
import Derived.Deep.RegionLaw
/- Package pack's reader: getElsewhere, getBytes. -/
set_option linter.unusedVariables false
set_option linter.unusedSimpArgs false
namespace Go.Proofs.YtodlaikemoedfaaGreat.Ob
open Go.RowKit Go.Proofs.YtodlaikemoedfaaGreat.Sh
open Go.Proofs.YtodlaikemoedfaaGreat.Tx (Shape InL TmpL OwnL Typed Only By Rd Datas list_appendL step_appendL)

theorem strs_eq {a b : List UInt8} (h : a = b) : ((str a).toList == (str b).toList) = true := by subst h; exact beq_self_eq_true _
theorem strs_ne {a b : List UInt8} (h : a ≠ b) : ((str a).toList == (str b).toList) = false := by
  rw [str_toList, str_toList, beq_eq_false_iff_ne]; exact h
section
variable {w0 w : World} {F : Nat → Prop} {p : Nat} {vb fv vr : Value} {k : Nat} {read : List EntM} {b : List UInt8}
set_option maxRecDepth 100000 in
set_option maxHeartbeats 3200000 in
theorem gelse_any {base : BaseM} (h : PrAt w0 w F p vb fv k vr read) (hin : PrIn w0 vb fv b base) (hk : k ≤ b.length) :
    Calls Tryz.prog 93 #[.pointer (some ⟨p, 0, none⟩)] w (TellPost w0 F p vb fv vr read w (elseP b base k)) := by
  have HS := Lib.hid hin.sl
  have HBB := Lib.hid hin.small
  have HASK := Lib.hid hin.ask
  by_cases h32 : k + 32 ≤ b.length
  · have HG : Hid (Calls Tryz.prog 90 #[.pointer (some ⟨p, 0, none⟩), .int .i64 32] w fun x w' => ∃ A c, x = .returned (.tuple #[.slice A 32 c, .int .i64 0]) ∧ Moved w0 w F p vb fv (k + 32) vr read w' ∧ Sl w0 (.slice A 32 c) ((b.drop k).take 32)) := gpiece_any h hin.sl 32 h32 hin.small
    have h32l : ((b.drop k).take 32).length = 32 := by simp; omega
    have HE := Lib.hid (fun (x : List UInt8) (hb : base (hexL ((b.drop k).take 32)) = some x) => else_by (x := x) h32 hb)
    have HEN := Lib.hid (fun (hb : base (hexL ((b.drop k).take 32)) = none) => else_none h32 hb)
    have HES := Lib.hid (fun (x : List UInt8) (hb : base (hexL ((b.drop k).take 32)) = some x) => else_sum (x := x) h32 hb)
    have HK32 := Lib.hid h32
    obtain ⟨hs, hhs⟩ : ∃ l, (b.drop k).take 32 = l := ⟨_, rfl⟩
    rw [hhs] at h32l HG HE HEN HES
    have HIDL : Hid ((hexL hs).length ≤ 64) := by show (hexL hs).length ≤ 64; rw [hexL_length, h32l]; omega
    have HSL := Lib.hid h32l
    obtain ⟨id, hid⟩ : ∃ l, hexL hs = l := ⟨_, rfl⟩
    have HID := Lib.hid hid
    rw [hid] at HE HEN HES HIDL
    obtain ⟨R, hR⟩ : ∃ R, elseP b base k = R := ⟨_, rfl⟩
    rw [hR] at HE HEN HES ⊢
    clear hin h h32 h32l hhs hid hR
    go_enter Tryz.func93, Tryz.ntmps93
    go_wp2_with fail
    refine HG.out.mono ?_
    rintro y w1 ⟨A, c, rfl, hm, hs1⟩
    have HM := Lib.hid hm
    have HS1 := Lib.hid (hs1.below hm.1.old)
    clear hm hs1
    go_wp2_with fail
    refine (hex_any _ hs w1 HS1.out (by rw [HSL.out]; omega)).mono ?_
    rw [HID.out]
    rintro y w2 ⟨rfl, hb2⟩
    have HM2 := Lib.hid (HM.out.below hb2)
    have y2 := HM2.out.1.f_
    clear hb2
    go_wp2_with fail
    refine (HASK.out w2 id HM2.out.1.old HIDL.out).mono ?_
    rintro y w3 ⟨A3, n3, c3, t, rfl, hb3, hcase⟩
    have HM3 := Lib.hid (HM2.out.below hb3)
    clear hb3 y2
    rcases hcase with ⟨hn, rfl⟩ | ⟨x, hx, rfl, hxl, hxn, hxs⟩
    · have hE := HEN.out hn
      subst hE
      clear hn
      go_wp2_with fail
      go_ret3
      exact TellPost.err (r := (7, [], 0, 0)) HM3.out (by decide)
    · have HXL := Lib.hid hxl
      have HXO := Lib.hid hxs
      have HXS := Lib.hid hxs.sl
      have HX := Lib.hid hx
      clear hxl hxs hxn hx
      go_wp2_with fail
      refine (id_any _ x w3 HXS.out (by have := HXL.out; omega)).mono ?_
      rintro y w4 ⟨rfl, hb4⟩
      have HM4 := Lib.hid (HM3.out.below hb4)
      have HXS4 := Lib.hid (HXS.out.below hb4)
      have hxp : By (fun j => p < j) w4 (.slice A3 n3 c3) x := (own_by HXO.out (fun j hj => by
        have h1 := (World.ownsRow.lt HXO.out j hj).1
        have h2 := HM2.out.1.lt
        show p < j
        omega)).only (Only.of_below (M := fun _ => False) hb4) (fun _ _ h9 => h9)
      have HXP := Lib.hid hxp
      clear hb4
      by_cases hid : idB x = id
      · have hE := HE.out x HX.out hid
        have z : ((str (hexL (sumOf x))).toList == (str id).toList) = true := strs_eq hid
        subst hE
        clear hid hxp
        go_wp2_with fail
        refine (gby_any (vx := .slice A3 n3 c3) (x := x) 1 HM4.out.1 HS.out HBB.out HK32.out HXP.out (fun h9 => Nat.lt_irrefl _ h9)).mono ?_
        rintro y w5 ht
        have ht2 := ht.after HM4.out
        obtain ⟨A4, bs4, c4, d4, k4, rfl, hrest⟩ := ht2
        have HR := Lib.hid hrest
        clear ht hrest
        go_wp2_with fail
        go_ret3
        exact ⟨A4, bs4, c4, d4, k4, rfl, HR.out⟩
      · have hE := HES.out x HX.out hid
        have z : ((str (hexL (sumOf x))).toList == (str id).toList) = false := strs_ne hid
        subst hE
        clear hid hxp
        go_wp2_with fail
        go_ret3
        exact TellPost.err (r := (5, [], 0, 0)) HM4.out (by decide)
  · rw [else_short (by omega)]
    have HG : Hid (Calls Tryz.prog 90 #[.pointer (some ⟨p, 0, none⟩), .int .i64 32] w fun x w' => x = .returned (.tuple #[.slice none 0 0, .int .i64 2]) ∧ Moved w0 w F p vb fv k vr read w') := gpiece_no h hin.sl 32 (by omega) hin.small hk
    clear hin h h32
    go_enter Tryz.func93, Tryz.ntmps93
    go_wp2_with fail
    refine HG.out.mono ?_
    rintro y w1 ⟨rfl, hm⟩
    have HM := Lib.hid hm
    clear hm
    go_wp2_with fail
    go_ret3
    exact TellPost.err (r := (2, [], 0, 0)) HM.out (by decide)
end
end Go.Proofs.YtodlaikemoedfaaGreat.Ob
/- Package pack's reader: getBytes, getHead, getObject. -/
set_option linter.unusedVariables false
set_option linter.unusedSimpArgs false
namespace Go.Proofs.YtodlaikemoedfaaGreat.Ob
open Go.RowKit Go.Proofs.YtodlaikemoedfaaGreat.Sh
open Go.Proofs.YtodlaikemoedfaaGreat.Tx (Shape InL TmpL OwnL Typed Only By Rd Datas list_appendL step_appendL)

section
variable {w0 w : World} {F : Nat → Prop} {p : Nat} {vb fv vr : Value} {k : Nat} {read : List EntM} {b : List UInt8}
theorem TellPost.fin {r : Int × List UInt8 × Nat × Nat} {e : Ending} {w1 w' : World} {k1 : Nat} (hm : Moved w0 w F p vb fv k1 vr read w1) (h : TellPost w0 F p vb fv vr read w1 r e w') :
    ∃ A n c d, e = .returned (.tuple #[.slice A n c, .int .i64 d, .int .i64 r.1]) ∧ TellPost w0 F p vb fv vr read w r e w' := by
  have h2 := h.after hm
  obtain ⟨A, bs, c, d, k', he, _⟩ := h
  exact ⟨A, _, c, _, he, h2⟩
set_option maxRecDepth 100000 in
set_option maxHeartbeats 3200000 in
theorem gbytes_any {base : BaseM} (h : PrAt w0 w F p vb fv k vr read) (hin : PrIn w0 vb fv b base) (hk : k ≤ b.length) (hrd : read.length ≤ 1000000) :
    Calls Tryz.prog 71 #[.pointer (some ⟨p, 0, none⟩)] w (TellPost w0 F p vb fv vr read w (bytesP b base read k)) := by
  by_cases h1 : k < b.length
  · have HG : Hid (Calls Tryz.prog 90 #[.pointer (some ⟨p, 0, none⟩), .int .i64 1] w fun x w' => ∃ A c, x = .returned (.tuple #[.slice A 1 c, .int .i64 0]) ∧ Moved w0 w F p vb fv (k + 1) vr read w' ∧ Sl w0 (.slice A 1 c) ((b.drop k).take 1)) := gpiece_any h hin.sl 1 h1 hin.small
    have HIN := Lib.hid hin
    have HK1 : Hid (k + 1 ≤ b.length) := h1
    have HRD := Lib.hid hrd
    have HK := Lib.hid h1
    have hne : (b.drop k).take 1 ≠ [] := by
      intro e
      have := congrArg List.length e
      simp at this
      omega
    have hge : ((b.drop k).take 1).getD 0 0 = b.getD k 0 := by simp [List.getD_eq_getElem?_getD, List.getElem?_take, List.getElem?_drop]
    have HNE := Lib.hid hne
    obtain ⟨u, hu⟩ : ∃ u, bi (b.getD k 0) = u := ⟨_, rfl⟩
    have HGE : Hid (bi (((b.drop k).take 1).getD 0 0) = u) := by unfold Hid; rw [hge, hu]
    have hz : (u = 0 ↔ b.getD k 0 = 0) ∧ (u = 1 ↔ b.getD k 0 = 1) ∧ (u = 2 ↔ b.getD k 0 = 2) := by
      have e : ∀ m : Nat, m < 256 → (u = (m : Int) ↔ b.getD k 0 = UInt8.ofNat m) := fun m hm => by
        rw [← hu, ← bi_nat m hm]
        exact ⟨fun h => bi_inj h, fun h => by rw [h]⟩
      exact ⟨e 0 (by omega), e 1 (by omega), e 2 (by omega)⟩
    have HZ := Lib.hid hz
    obtain ⟨R, hR⟩ : ∃ R, bytesP b base read k = R := ⟨_, rfl⟩
    have HR := Lib.hid hR
    rw [hR]
    clear hin h h1 hne hge hu hz hR hrd
    go_enter Tryz.func71, Tryz.ntmps71
    go_wp2_with fail
    refine HG.out.mono ?_
    rintro y w1 ⟨A, c, rfl, hm, hs1⟩
    have HM := Lib.hid hm
    obtain ⟨ad, rfl, _, x0⟩ := at_head (hs1.below hm.1.old) HNE.out
    rw [HGE.out] at x0
    clear hm hs1
    by_cases c0 : u = 0
    · subst c0
      have hr := (bytes_0 (base := base) (read := read) HK.out (HZ.out.1.1 rfl)).symm.trans HR.out
      go_wp2_with fail
      refine (gwhole_any HM.out.1 HIN.out.sl HIN.out.small HK1.out).mono ?_
      rw [hr]
      rintro y w2 ht
      obtain ⟨A4, n4, c4, d4, rfl, ht2⟩ := ht.fin HM.out
      have HT := Lib.hid ht2
      clear ht ht2 hr
      go_wp2_with fail
      go_ret3
      exact HT.out
    · by_cases c1 : u = 1
      · subst c1
        have hr := (bytes_1 (base := base) (read := read) HK.out (HZ.out.2.1.1 rfl)).symm.trans HR.out
        clear c0
        go_wp2_with fail
        refine (gahead_any HM.out.1 HIN.out.sl HIN.out.small HK1.out HRD.out).mono ?_
        rw [hr]
        rintro y w2 ht
        obtain ⟨A4, n4, c4, d4, rfl, ht2⟩ := ht.fin HM.out
        have HT := Lib.hid ht2
        clear ht ht2 hr
        go_wp2_with fail
        go_ret3
        exact HT.out
      · by_cases c2 : u = 2
        · subst c2
          have hr := (bytes_2 (base := base) (read := read) HK.out (HZ.out.2.2.1 rfl)).symm.trans HR.out
          clear c0 c1
          go_wp2_with fail
          refine (gelse_any HM.out.1 HIN.out HK1.out).mono ?_
          rw [hr]
          rintro y w2 ht
          obtain ⟨A4, n4, c4, d4, rfl, ht2⟩ := ht.fin HM.out
          have HT := Lib.hid ht2
          clear ht ht2 hr
          go_wp2_with fail
          go_ret3
          exact HT.out
        · have hr := (bytes_form (base := base) (read := read) HK.out (fun e => c0 (HZ.out.1.2 e)) (fun e => c1 (HZ.out.2.1.2 e)) (fun e => c2 (HZ.out.2.2.2 e))).symm.trans HR.out
          subst hr
          have z0 : (u == 0) = false := by rw [beq_eq_false_iff_ne]; exact c0
          have z1 : (u == 1) = false := by rw [beq_eq_false_iff_ne]; exact c1
          have z2 : (u == 2) = false := by rw [beq_eq_false_iff_ne]; exact c2
          clear c0 c1 c2
          go_wp2_with fail
          go_ret3
          exact TellPost.err (r := (4, [], 0, 0)) HM.out (by decide)
  · rw [bytes_short (by omega)]
    have HG : Hid (Calls Tryz.prog 90 #[.pointer (some ⟨p, 0, none⟩), .int .i64 1] w fun x w' => x = .returned (.tuple #[.slice none 0 0, .int .i64 2]) ∧ Moved w0 w F p vb fv k vr read w') := gpiece_no h hin.sl 1 (by omega) hin.small hk
    clear hin h h1
    go_enter Tryz.func71, Tryz.ntmps71
    go_wp2_with fail
    refine HG.out.mono ?_
    rintro y w1 ⟨rfl, hm⟩
    have HM := Lib.hid hm
    clear hm
    go_wp2_with fail
    go_ret3
    exact TellPost.err (r := (2, [], 0, 0)) HM.out (by decide)
end
end Go.Proofs.YtodlaikemoedfaaGreat.Ob
