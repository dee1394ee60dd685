/- Texts put together: VPk8, VPk9, VPkA, VPkH, VPkI. -/
import Derived.Test.YtpfjlhpahmhkhaaGreatQv37
import Derived.Deep.RegionLaw
import Derived.Lib.SlBytesConst
import Derived.Test.YtpfjlhpahmhkhaaGreatQv36
/- Package pack's reader: getElsewhere, getBytes. -/
set_option linter.unusedVariables false
set_option linter.unusedSimpArgs false
namespace Go.Proofs.YtpfjlhpahmhkhaaGreat.Ob
open Go.RowKit Go.Proofs.YtpfjlhpahmhkhaaGreat.Sh
open Go.Proofs.YtpfjlhpahmhkhaaGreat.Tx (Shape InL TmpL OwnL Typed Only By Rd Datas list_appendL step_appendL)
theorem strs_eq {a b : List UInt8} (h : a = b) : ((str a).toList == (str b).toList) = true := by subst h; exact beq_self_eq_true _
theorem strs_ne {a b : List UInt8} (h : a ≠ b) : ((str a).toList == (str b).toList) = false := by
 rw [str_toList, str_toList, beq_eq_false_iff_ne]; exact h
section
variable {w0 w : World} {F : Nat → Prop} {p : Nat} {vb fv vr : Value} {k : Nat} {read : List EntM} {b : List UInt8}
set_option maxRecDepth 100000 in
set_option maxHeartbeats 3200000 in
theorem gelse_any {base : BaseM} (h : PrAt w0 w F p vb fv k vr read) (hin : PrIn w0 vb fv b base) (hk : k ≤ b.length) :
  Calls Tryz.prog 303 #[.pointer (some ⟨p, 0, none⟩)] w (TellPost w0 F p vb fv vr read w (elseP b base k)) := by
 have HS := Lib.hid hin.sl
 have HBB := Lib.hid hin.small
 have HASK := Lib.hid hin.ask
 by_cases h32 : k + 32 ≤ b.length
 ·have HG : Hid (Calls Tryz.prog 300 #[.pointer (some ⟨p, 0, none⟩), .int .i64 32] w fun x w' => ∃ A c, x = .returned (.tuple #[.slice A 32 c, .int .i64 0]) ∧ Moved w0 w F p vb fv (k + 32) vr read w' ∧ Sl w0 (.slice A 32 c) ((b.drop k).take 32)) := gpiece_any h hin.sl 32 h32 hin.small
  have h32l : ((b.drop k).take 32).length = 32 := by simp; omega
  have HE := Lib.hid (fun (x : List UInt8) (hb : base (hexL ((b.drop k).take 32)) = some x) => else_by (x := x) h32 hb)
  have HEN := Lib.hid (fun (hb : base (hexL ((b.drop k).take 32)) = none) => else_none h32 hb)
  have HES := Lib.hid (fun (x : List UInt8) (hb : base (hexL ((b.drop k).take 32)) = some x) => else_sum (x := x) h32 hb)
  have HK32 := Lib.hid h32
  obtain ⟨hs, hhs⟩ : ∃ l, (b.drop k).take 32 = l := ⟨_, rfl⟩
  rw [hhs] at h32l HG HE HEN HES
  have HIDL : Hid ((hexL hs).length ≤ 64) := by show (hexL hs).length ≤ 64; rw [hexL_length, h32l]; omega
  have HSL := Lib.hid h32l
  obtain ⟨id, hid⟩ : ∃ l, hexL hs = l := ⟨_, rfl⟩
  have HID := Lib.hid hid
  rw [hid] at HE HEN HES HIDL
  obtain ⟨R, hR⟩ : ∃ R, elseP b base k = R := ⟨_, rfl⟩
  rw [hR] at HE HEN HES ⊢
  clear hin h h32 h32l hhs hid hR
  go_enter Tryz.func303, Tryz.ntmps303
  go_wp2_with fail
  refine HG.out.mono ?_
  rintro y w1 ⟨A, c, rfl, hm, hs1⟩
  have HM := Lib.hid hm
  have HS1 := Lib.hid (hs1.below hm.1.old)
  clear hm hs1
  go_wp2_with fail
  refine (hex_any _ hs w1 HS1.out (by rw [HSL.out]; omega)).mono ?_
  rw [HID.out]
  rintro y w2 ⟨rfl, hb2⟩
  have HM2 := Lib.hid (HM.out.below hb2)
  have y2 := HM2.out.1.f_
  clear hb2
  go_wp2_with fail
  refine (HASK.out w2 id HM2.out.1.old HIDL.out).mono ?_
  rintro y w3 ⟨A3, n3, c3, t, rfl, hb3, hcase⟩
  have HM3 := Lib.hid (HM2.out.below hb3)
  clear hb3 y2
  rcases hcase with ⟨hn, rfl⟩ | ⟨x, hx, rfl, hxl, hxn, hxs⟩
  ·have hE := HEN.out hn
   subst hE
   clear hn
   go_wp2_with fail
   go_ret3
   exact TellPost.err (r := (7, [], 0, 0)) HM3.out (by decide)
  ·have HXL := Lib.hid hxl
   have HXO := Lib.hid hxs
   have HXS := Lib.hid hxs.sl
   have HX := Lib.hid hx
   clear hxl hxs hxn hx
   go_wp2_with fail
   refine (id_any _ x w3 HXS.out (by have := HXL.out; omega)).mono ?_
   rintro y w4 ⟨rfl, hb4⟩
   have HM4 := Lib.hid (HM3.out.below hb4)
   have HXS4 := Lib.hid (HXS.out.below hb4)
   have hxp : By (fun j => p < j) w4 (.slice A3 n3 c3) x := (own_by HXO.out (fun j hj => by
    have h1 := (World.ownsRow.lt HXO.out j hj).1
    have h2 := HM2.out.1.lt
    show p < j
    omega)).only (Only.of_below (M := fun _ => False) hb4) (fun _ _ h9 => h9)
   have HXP := Lib.hid hxp
   clear hb4
   by_cases hid : idB x = id
   ·have hE := HE.out x HX.out hid
    have z : ((str (hexL (sumOf x))).toList == (str id).toList) = true := strs_eq hid
    subst hE
    clear hid hxp
    go_wp2_with fail
    refine (gby_any (vx := .slice A3 n3 c3) (x := x) 1 HM4.out.1 HS.out HBB.out HK32.out HXP.out (fun h9 => Nat.lt_irrefl _ h9)).mono ?_
    rintro y w5 ht
    have ht2 := ht.after HM4.out
    obtain ⟨A4, bs4, c4, d4, k4, rfl, hrest⟩ := ht2
    have HR := Lib.hid hrest
    clear ht hrest
    go_wp2_with fail
    go_ret3
    exact ⟨A4, bs4, c4, d4, k4, rfl, HR.out⟩
   ·have hE := HES.out x HX.out hid
    have z : ((str (hexL (sumOf x))).toList == (str id).toList) = false := strs_ne hid
    subst hE
    clear hid hxp
    go_wp2_with fail
    go_ret3
    exact TellPost.err (r := (5, [], 0, 0)) HM4.out (by decide)
 ·rw [else_short (by omega)]
  have HG : Hid (Calls Tryz.prog 300 #[.pointer (some ⟨p, 0, none⟩), .int .i64 32] w fun x w' => x = .returned (.tuple #[.slice none 0 0, .int .i64 2]) ∧ Moved w0 w F p vb fv k vr read w') := gpiece_no h hin.sl 32 (by omega) hin.small hk
  clear hin h h32
  go_enter Tryz.func303, Tryz.ntmps303
  go_wp2_with fail
  refine HG.out.mono ?_
  rintro y w1 ⟨rfl, hm⟩
  have HM := Lib.hid hm
  clear hm
  go_wp2_with fail
  go_ret3
  exact TellPost.err (r := (2, [], 0, 0)) HM.out (by decide)
end
end Go.Proofs.YtpfjlhpahmhkhaaGreat.Ob
/- Package pack's reader: getBytes, getHead, getObject. -/
set_option linter.unusedVariables false
set_option linter.unusedSimpArgs false
namespace Go.Proofs.YtpfjlhpahmhkhaaGreat.Ob
open Go.RowKit Go.Proofs.YtpfjlhpahmhkhaaGreat.Sh
open Go.Proofs.YtpfjlhpahmhkhaaGreat.Tx (Shape InL TmpL OwnL Typed Only By Rd Datas list_appendL step_appendL)
section
variable {w0 w : World} {F : Nat → Prop} {p : Nat} {vb fv vr : Value} {k : Nat} {read : List EntM} {b : List UInt8}
theorem TellPost.fin {r : Int × List UInt8 × Nat × Nat} {e : Ending} {w1 w' : World} {k1 : Nat} (hm : Moved w0 w F p vb fv k1 vr read w1) (h : TellPost w0 F p vb fv vr read w1 r e w') :
  ∃ A n c d, e = .returned (.tuple #[.slice A n c, .int .i64 d, .int .i64 r.1]) ∧ TellPost w0 F p vb fv vr read w r e w' := by
 have h2 := h.after hm
 obtain ⟨A, bs, c, d, k', he, _⟩ := h
 exact ⟨A, _, c, _, he, h2⟩
set_option maxRecDepth 100000 in
set_option maxHeartbeats 3200000 in
theorem gbytes_any {base : BaseM} (h : PrAt w0 w F p vb fv k vr read) (hin : PrIn w0 vb fv b base) (hk : k ≤ b.length) (hrd : read.length ≤ 1000000) :
  Calls Tryz.prog 250 #[.pointer (some ⟨p, 0, none⟩)] w (TellPost w0 F p vb fv vr read w (bytesP b base read k)) := by
 by_cases h1 : k < b.length
 ·have HG : Hid (Calls Tryz.prog 300 #[.pointer (some ⟨p, 0, none⟩), .int .i64 1] w fun x w' => ∃ A c, x = .returned (.tuple #[.slice A 1 c, .int .i64 0]) ∧ Moved w0 w F p vb fv (k + 1) vr read w' ∧ Sl w0 (.slice A 1 c) ((b.drop k).take 1)) := gpiece_any h hin.sl 1 h1 hin.small
  have HIN := Lib.hid hin
  have HK1 : Hid (k + 1 ≤ b.length) := h1
  have HRD := Lib.hid hrd
  have HK := Lib.hid h1
  have hne : (b.drop k).take 1 ≠ [] := by
   intro e
   have := congrArg List.length e
   simp at this
   omega
  have hge : ((b.drop k).take 1).getD 0 0 = b.getD k 0 := by simp [List.getD_eq_getElem?_getD, List.getElem?_take, List.getElem?_drop]
  have HNE := Lib.hid hne
  obtain ⟨u, hu⟩ : ∃ u, bi (b.getD k 0) = u := ⟨_, rfl⟩
  have HGE : Hid (bi (((b.drop k).take 1).getD 0 0) = u) := by unfold Hid; rw [hge, hu]
  have hz : (u = 0 ↔ b.getD k 0 = 0) ∧ (u = 1 ↔ b.getD k 0 = 1) ∧ (u = 2 ↔ b.getD k 0 = 2) := by
   have e : ∀ m : Nat, m < 256 → (u = (m : Int) ↔ b.getD k 0 = UInt8.ofNat m) := fun m hm => by
    rw [← hu, ← bi_nat m hm]
    exact ⟨fun h => bi_inj h, fun h => by rw [h]⟩
   exact ⟨e 0 (by omega), e 1 (by omega), e 2 (by omega)⟩
  have HZ := Lib.hid hz
  obtain ⟨R, hR⟩ : ∃ R, bytesP b base read k = R := ⟨_, rfl⟩
  have HR := Lib.hid hR
  rw [hR]
  clear hin h h1 hne hge hu hz hR hrd
  go_enter Tryz.func250, Tryz.ntmps250
  go_wp2_with fail
  refine HG.out.mono ?_
  rintro y w1 ⟨A, c, rfl, hm, hs1⟩
  have HM := Lib.hid hm
  obtain ⟨ad, rfl, _, x0⟩ := at_head (hs1.below hm.1.old) HNE.out
  rw [HGE.out] at x0
  clear hm hs1
  by_cases c0 : u = 0
  ·subst c0
   have hr := (bytes_0 (base := base) (read := read) HK.out (HZ.out.1.1 rfl)).symm.trans HR.out
   go_wp2_with fail
   refine (gwhole_any HM.out.1 HIN.out.sl HIN.out.small HK1.out).mono ?_
   rw [hr]
   rintro y w2 ht
   obtain ⟨A4, n4, c4, d4, rfl, ht2⟩ := ht.fin HM.out
   have HT := Lib.hid ht2
   clear ht ht2 hr
   go_wp2_with fail
   go_ret3
   exact HT.out
  ·by_cases c1 : u = 1
   ·subst c1
    have hr := (bytes_1 (base := base) (read := read) HK.out (HZ.out.2.1.1 rfl)).symm.trans HR.out
    clear c0
    go_wp2_with fail
    refine (gahead_any HM.out.1 HIN.out.sl HIN.out.small HK1.out HRD.out).mono ?_
    rw [hr]
    rintro y w2 ht
    obtain ⟨A4, n4, c4, d4, rfl, ht2⟩ := ht.fin HM.out
    have HT := Lib.hid ht2
    clear ht ht2 hr
    go_wp2_with fail
    go_ret3
    exact HT.out
   ·by_cases c2 : u = 2
    ·subst c2
     have hr := (bytes_2 (base := base) (read := read) HK.out (HZ.out.2.2.1 rfl)).symm.trans HR.out
     clear c0 c1
     go_wp2_with fail
     refine (gelse_any HM.out.1 HIN.out HK1.out).mono ?_
     rw [hr]
     rintro y w2 ht
     obtain ⟨A4, n4, c4, d4, rfl, ht2⟩ := ht.fin HM.out
     have HT := Lib.hid ht2
     clear ht ht2 hr
     go_wp2_with fail
     go_ret3
     exact HT.out
    ·have hr := (bytes_form (base := base) (read := read) HK.out (fun e => c0 (HZ.out.1.2 e)) (fun e => c1 (HZ.out.2.1.2 e)) (fun e => c2 (HZ.out.2.2.2 e))).symm.trans HR.out
     subst hr
     have z0 : (u == 0) = false := by rw [beq_eq_false_iff_ne]; exact c0
     have z1 : (u == 1) = false := by rw [beq_eq_false_iff_ne]; exact c1
     have z2 : (u == 2) = false := by rw [beq_eq_false_iff_ne]; exact c2
     clear c0 c1 c2
     go_wp2_with fail
     go_ret3
     exact TellPost.err (r := (4, [], 0, 0)) HM.out (by decide)
 ·rw [bytes_short (by omega)]
  have HG : Hid (Calls Tryz.prog 300 #[.pointer (some ⟨p, 0, none⟩), .int .i64 1] w fun x w' => x = .returned (.tuple #[.slice none 0 0, .int .i64 2]) ∧ Moved w0 w F p vb fv k vr read w') := gpiece_no h hin.sl 1 (by omega) hin.small hk
  clear hin h h1
  go_enter Tryz.func250, Tryz.ntmps250
  go_wp2_with fail
  refine HG.out.mono ?_
  rintro y w1 ⟨rfl, hm⟩
  have HM := Lib.hid hm
  clear hm
  go_wp2_with fail
  go_ret3
  exact TellPost.err (r := (2, [], 0, 0)) HM.out (by decide)
end
end Go.Proofs.YtpfjlhpahmhkhaaGreat.Ob
/- Package pack's reader: getHead, getObject. -/
set_option linter.unusedVariables false
set_option linter.unusedSimpArgs false
namespace Go.Proofs.YtpfjlhpahmhkhaaGreat.Ob
open Go.RowKit Go.Proofs.YtpfjlhpahmhkhaaGreat.Sh
open Go.Proofs.YtpfjlhpahmhkhaaGreat.Tx (Shape InL TmpL OwnL Typed Only By Rd Datas list_appendL step_appendL)
theorem sl_lit (w : World) (bs : List UInt8) (cs : Array Value) (fr : Nat × Nat) (hcs : cs.toList = bs.map bv) (n : Nat) (hn : bs.length = n) (h1 : n ≤ 1000) : Sl (w.alloc (.cells cs 5 fr)) (.slice (some ⟨w.heap.size, 0, none⟩) n n) bs := by
 subst hn
 refine ⟨_, _, rfl, Nat.le_refl _, by unfold maxLen; omega, fun h0 => ⟨_, rfl, by simp, fun j hj => ?_⟩, fun e => by cases e⟩
 rw [Addr.add_mid, cell_of_row _ _ _ cs 5 fr (heap_alloc_new w _), Nat.zero_add, ← Array.getElem?_toList, hcs, List.getElem?_map, List.getElem?_eq_getElem hj, List.getD_eq_getElem?_getD, List.getElem?_eq_getElem hj]
 rfl
def mkW (w : World) : World := w.alloc (.cells #[.int .u8 77, .int .u8 80, .int .u8 49] 5 (3, 4))
theorem mk_sl (w : World) : Sl (mkW w) (.slice (some ⟨w.heap.size, 0, none⟩) 3 3) markL := sl_lit w _ _ _ (by unfold markL bv bi; rfl) 3 rfl (by omega)
theorem mk_below (w : World) : Below w.heap.size w (mkW w) := (Below.refl _ _).alloc (Nat.le_refl _) _
section
variable {w0 w : World} {F : Nat → Prop} {p : Nat} {vb fv vr : Value} {k : Nat} {read : List EntM} {b : List UInt8}
def HeadPost (w0 : World) (F : Nat → Prop) (p : Nat) (vb fv vr : Value) (b : List UInt8) (w : World) (e : Ending) (w' : World) : Prop :=
 (∃ r k' : Nat, r ≠ 0 ∧ e = .returned (.tuple #[.int .i64 0, .int .i64 (r : Int)]) ∧ Moved w0 w F p vb fv k' vr [] w' ∧ ∀ base, bodyP b base = ((r : Int), [])) ∨
 (∃ n q : Nat, e = .returned (.tuple #[.int .i64 (n : Int), .int .i64 0]) ∧ Moved w0 w F p vb fv q vr [] w' ∧ q ≤ b.length ∧ n ≤ 512 ∧ ∀ base, bodyP b base = loopP b base n [] q)
set_option maxRecDepth 100000 in
set_option maxHeartbeats 3200000 in
theorem ghead_any (h : PrAt w0 w F p vb fv k vr []) (hs : Sl w0 vb b) (hb : b.length ≤ 1000000) (h4 : 4 ≤ b.length) :
  Calls Tryz.prog 184 #[.pointer (some ⟨p, 0, none⟩)] w (HeadPost w0 F p vb fv vr b w) := by
 have H := Lib.hid h
 have HS := Lib.hid hs
 have HB := Lib.hid hb
 have H4 := Lib.hid h4
 have y0 := h.b_
 have kb : (convert 32 32 (.slice (some ⟨w.heap.size, 0, none⟩) 3 3)).run Tryz.prog (w.alloc (.cells #[.int .u8 77, .int .u8 80, .int .u8 49] 5)) = .ok (.slice (some ⟨w.heap.size, 0, none⟩) 3 3) (mkW w) := Lib.run_convert_bytes_const (P := Tryz.prog) w 32 5 #[.int .u8 77, .int .u8 80, .int .u8 49] 3 3 Tryz.underlying32 Tryz.underlying5
 have HMK := Lib.hid (mk_sl w)
 have HMB := Lib.hid (mk_below w)
 clear h hs hb h4
 go_enter Tryz.func184, Tryz.ntmps184
 go_wp2_with fail
 refine (bpre_any _ _ b markL _ (HS.out.below (H.out.below HMB.out).old) HMK.out (by have := H4.out; show 3 ≤ b.length; omega)).mono ?_
 rintro y w' ⟨rfl, rfl⟩
 have HM := Lib.hid (show Moved w0 w F p vb fv k vr [] (mkW w) from ⟨H.out.below HMB.out, Only.of_below HMB.out⟩)
 generalize mkW w = w1 at *
 have h3 : List.take markL.length b = b.take 3 := rfl
 rw [h3]
 by_cases hm : b.take 3 = markL
 ·have z : (b.take 3 == markL) = true := by rw [hm]; exact beq_self_eq_true _
  obtain ⟨t, ht⟩ : ∃ t, (b.take 3 == markL) = t := ⟨_, rfl⟩
  rw [ht] at z ⊢
  subst z
  have HMM := Lib.hid hm
  clear hm ht kb y0 h3
  have y1 := HM.out.1.at_
  have y1f : w1.frozen? ⟨p, 1, none⟩ = false := HM.out.1.blk.frozen 1
  go_upto_region 4 with (fail)
  have HM2 : Hid (Moved w0 w F p vb fv 3 vr [] (w1.setCell ⟨p, 1, none⟩ (.int .i64 3))) := ⟨HM.out.1.setAt 3, HM.out.2.set_ (.inl rfl) _⟩
  generalize w1.setCell ⟨p, 1, none⟩ (.int .i64 3) = w2 at *
  clear y1 y1f
  rcases getR_cases b 3 (by have := H4.out; omega) with ⟨e, hg, he⟩ | ⟨n, hg, hl, hn, _⟩
  ·have hne : e ≠ 0 := by omega
   have HG := Lib.hid (gnum_any HM2.out.1 HS.out hg 0 (fun h0 => absurd h0 hne) (fun _ => rfl))
   have HNE := Lib.hid hne
   have HE : Hid (∃ r : Nat, r ≠ 0 ∧ e = (r : Int) ∧ ∀ base, bodyP b base = (e, [])) := by
    rcases he with rfl | rfl
    ·exact ⟨2, by decide, rfl, fun base => body_err HMM.out hg hne⟩
    ·exact ⟨4, by decide, rfl, fun base => body_err HMM.out hg hne⟩
   have z : (e != 0) = true := by rw [bne_iff_ne]; exact hne
   clear hne he hg
   go_wp2_with fail
   refine HG.out.mono ?_
   rintro y w3 ⟨rfl, hm⟩
   rw [if_neg HNE.out] at hm
   have HM3 := Lib.hid (HM2.out.then_ hm)
   clear hm
   go_wp2_with fail
   go_ret2
   obtain ⟨r, hr0, hre, hrb⟩ := HE.out
   subst hre
   exact .inl ⟨r, 3, hr0, rfl, HM3.out, hrb⟩
  ·have HG := Lib.hid (gnum_any HM2.out.1 HS.out hg (3 + (putL n).length) (fun _ => rfl) (fun h0 => absurd rfl h0))
   obtain ⟨q, hq⟩ : ∃ q, 3 + (putL n).length = q := ⟨_, rfl⟩
   rw [hq] at hg hl HG
   have HL := Lib.hid hl
   by_cases hlim : n ≤ 512
   ·have z : (n : Int) ≤ 512 := by omega
    have HBD : Hid (∀ base, bodyP b base = loopP b base n [] q) := fun base => body_loop HMM.out hg hlim
    have HLIM := Lib.hid hlim
    clear hg hl hn hq hlim
    go_wp2_with fail
    refine HG.out.mono ?_
    rintro y w3 ⟨rfl, hm⟩
    simp only [if_true] at hm
    have HM3 := Lib.hid (HM2.out.then_ hm)
    clear hm
    go_wp2_with fail
    go_ret2
    exact .inr ⟨n, q, rfl, HM3.out, HL.out, HLIM.out, HBD.out⟩
   ·have z : (512 : Int) < (n : Int) := by omega
    have HBD : Hid (∀ base, bodyP b base = (14, [])) := fun base => body_limit HMM.out hg z
    clear hg hl hn hq hlim
    go_wp2_with fail
    refine HG.out.mono ?_
    rintro y w3 ⟨rfl, hm⟩
    simp only [if_true] at hm
    have HM3 := Lib.hid (HM2.out.then_ hm)
    clear hm
    go_wp2_with fail
    go_ret2
    exact .inl ⟨14, q, by decide, rfl, HM3.out, HBD.out⟩
 ·have z : (b.take 3 == markL) = false := by rw [beq_eq_false_iff_ne]; exact hm
  obtain ⟨t, ht⟩ : ∃ t, (b.take 3 == markL) = t := ⟨_, rfl⟩
  rw [ht] at z ⊢
  subst z
  have HMM := Lib.hid hm
  clear hm ht kb y0 h3
  go_wp2_with fail
  go_ret2
  exact .inl ⟨4, k, by decide, rfl, HM.out, fun base => body_form HMM.out⟩
end
end Go.Proofs.YtpfjlhpahmhkhaaGreat.Ob
/- Package pack: Write. -/
set_option linter.unusedVariables false
set_option linter.unusedSimpArgs false
namespace Go.Proofs.YtpfjlhpahmhkhaaGreat.Ob
open Go.RowKit Go.Proofs.YtpfjlhpahmhkhaaGreat.Sh
open Go.Proofs.YtpfjlhpahmhkhaaGreat.Tx (Shape InL TmpL OwnL Typed Only By Rd Datas list_appendL step_appendL)
theorem same_addr (A : Option Addr) (c : Nat) : (if c = 0 then A else A.map (·.add 0)) = A := by
 split
 ·rfl
 ·cases A with
  | none => rfl
  | some x => show some (x.add 0) = some x; simp [Addr.add]
theorem p_sizeL (w : World) : (sizeOf (Tryz.prog.elem 42)).run Tryz.prog w = .ok 1 w := by kernel_rfl
theorem p_sizeI (w : World) : (sizeOf (Tryz.prog.elem 77)).run Tryz.prog w = .ok 1 w := by kernel_rfl
set_option maxRecDepth 100000 in
theorem front_l (A : Option Addr) (l c k : Nat) (n : Int) (hn : n = (k : Int)) (hkc : k ≤ c) (w : World) :
  (Instr.slice 42 (.slice A l c) none (some (.int .i64 n)) none).run Tryz.prog w = .ok (.slice A k c) w := by
 subst hn
 rw [run_slice_h w 42 A l c Tryz.underlying42 .i64 k (by omega) (by omega), p_sizeL]
 show Result.ok (Value.slice (if c = 0 then A else A.map (·.add 0)) _ _) _ = _
 rw [same_addr, Int.toNat_natCast, Nat.sub_zero, Nat.sub_zero]
set_option maxRecDepth 100000 in
theorem front_i (A : Option Addr) (l c k : Nat) (n : Int) (hn : n = (k : Int)) (hkc : k ≤ c) (w : World) :
  (Instr.slice 77 (.slice A l c) none (some (.int .i64 n)) none).run Tryz.prog w = .ok (.slice A k c) w := by
 subst hn
 rw [run_slice_h w 77 A l c Tryz.underlying77 .i64 k (by omega) (by omega), p_sizeI]
 show Result.ok (Value.slice (if c = 0 then A else A.map (·.add 0)) _ _) _ = _
 rw [same_addr, Int.toNat_natCast, Nat.sub_zero, Nat.sub_zero]
theorem LsV.take {w : World} {A : Option Addr} {n c : Nat} {l : List (List UInt8)} (h : LsV w (.slice A n c) l) (k : Nat) (hk : k ≤ l.length) : LsV w (.slice A k c) (l.take k) := by
 obtain ⟨A', c', hv, h1, h2⟩ := h.slice
 injection hv with e1 e2 e3
 subst e1 e3
 have hlk : (l.take k).length = k := by rw [List.length_take]; omega
 have := LsV.mk (w := w) (A := A) (c := c) (l := l.take k) (fun j => match A with
  | some ad => (w.cell? (ad.add j)).getD undef
  | none => undef) (by rw [hlk]; omega) h2 (fun e => by
   subst e
   cases hq : l with
   | nil => simp
   | cons x r =>
    obtain ⟨ad, _, _, e, _⟩ := h.at_ 0 x (by rw [hq]; rfl)
    cases e) (fun j a hj => by
  rw [List.getElem?_take] at hj
  split at hj
  ·obtain ⟨ad, A2, c2, rfl, hc, _, _, hs⟩ := h.at_ j a hj
   have hlt := World.block_lt_of_cell? w _ hc
   rw [block_of_add] at hlt
   refine ⟨ad, rfl, hlt, ?_, ?_⟩
   ·show _ = some ((w.cell? (ad.add j)).getD undef)
    rw [hc]; rfl
   ·show Sl w ((w.cell? (ad.add j)).getD undef) a
    rw [hc]; exact hs
  ·cases hj)
 rwa [hlk] at this
theorem take_getD (l : List (List UInt8)) (n j : Nat) (h : j < n) : (l.take n).getD j [] = l.getD j [] := by
 rw [List.getD_eq_getElem?_getD, List.getElem?_take, if_pos h, ← List.getD_eq_getElem?_getD]
theorem put_take (l : List (List UInt8)) (ds : List Nat) (i : Nat) (hds : ds.length = i) : putP (l.take (i + 1)) ds i = putP l ds i := by
 have hn : ∀ o, nearP (l.take (i + 1)) ds o i = nearP l ds o i := fun o => by
  have := near_take l ds o i (i + 1) (by omega)
  rwa [List.take_of_length_le (by omega : ds.length ≤ i + 1)] at this
 cases hc : nearP l ds (l.getD i []) i with
 | none => rw [put_none hc, put_none (by rw [take_getD _ _ _ (by omega), hn]; exact hc), take_getD _ _ _ (by omega)]
 | some k =>
  have hk := (near_some hc).1
  by_cases hlt : (makeD (l.getD k []) (l.getD i [])).length < (l.getD i []).length
  ·rw [put_ahead hc hlt, put_ahead (k := k) (by rw [take_getD _ _ _ (by omega), hn]; exact hc) (by rw [take_getD _ _ _ (by omega), take_getD _ _ _ (by omega)]; exact hlt), take_getD _ _ _ (by omega), take_getD _ _ _ (by omega)]
  ·rw [put_whole hc hlt, put_whole (k := k) (by rw [take_getD _ _ _ (by omega), hn]; exact hc) (by rw [take_getD _ _ _ (by omega), take_getD _ _ _ (by omega)]; exact hlt), take_getD _ _ _ (by omega)]
theorem writes_big (l : List (List UInt8)) (hl : ∀ o ∈ l, o.length ≤ 20000) (hll : l.length ≤ 512) : ∀ i, i ≤ l.length → (writesP l i).1.length ≤ 20 + 20100 * i
 | 0 => fun _ => by
  show (markL ++ putL l.length).length ≤ _
  have := putL_len9 (show l.length ≤ 72057594037927936 from by omega)
  rw [List.length_append]
  show 3 + _ ≤ _
  omega
 | i + 1 => fun h => by
  have ih := writes_big l hl hll i (by omega)
  have hm : (l.getD i []).length ≤ 20000 := hl _ (by rw [List.getD_eq_getElem?_getD, List.getElem?_eq_getElem (by omega)]; exact List.getElem_mem _)
  have h9 := putL_len9 (show (l.getD i []).length ≤ 72057594037927936 from by omega)
  have hp : (putP l (writesP l i).2 i).1.length ≤ 20100 := by
   cases hn : nearP l (writesP l i).2 (l.getD i []) i with
   | none => rw [put_none hn]; simp only [wholeE, List.length_cons, List.length_append]; omega
   | some k =>
    by_cases hlt : (makeD (l.getD k []) (l.getD i [])).length < (l.getD i []).length
    ·rw [put_ahead hn hlt]
     have h8 := putL_len9 (show i - k ≤ 72057594037927936 from by omega)
     have h7 := putL_len9 (show (makeD (l.getD k []) (l.getD i [])).length ≤ 72057594037927936 from by omega)
     simp only [aheadE, List.length_cons, List.length_append]
     omega
    ·rw [put_whole hn hlt]; simp only [wholeE, List.length_cons, List.length_append]; omega
  show ((_ : List UInt8) ++ _).length ≤ _
  rw [List.length_append]
  omega
set_option maxRecDepth 100000 in
set_option maxHeartbeats 800000 in
theorem pnum_lit (g n : Nat) (w : World) (h : Sl w (.slice (some ⟨g, 0, none⟩) 3 3) markL) (hn : n ≤ 72057594037927936) :
  Calls Tryz.prog 180 #[.slice (some ⟨g, 0, none⟩) 3 3, .int .i64 (n : Int)] w fun e w' => ∃ A m c, e = .returned (.slice A m c) ∧ Own w' w.heap.size (.slice A m c) (markL ++ putL n) ∧ Below w.heap.size w w' := by
 have H := Lib.hid h
 clear h
 go_enter Tryz.func180, Tryz.ntmps180
 go_wp2_with fail
 refine (put_any n w hn).mono ?_
 rintro e w1 ⟨u, rfl, hu, hb⟩
 obtain ⟨A, c, rfl, h1, h2, h3, h4⟩ := hu.sl
 have HI := Lib.hid h3.reads
 have HB := Lib.hid hb
 have hs := putL_len9 hn
 have hp := putL_pos n
 obtain ⟨_, _, e0, _, _, hI0, _⟩ := H.out.below hb
 injection e0 with e1 _ _
 subst e1
 have HM := Lib.hid hI0.reads
 obtain ⟨l, hl'⟩ : ∃ l, (putL n).length = l := ⟨_, rfl⟩
 have HLL := Lib.hid hl'
 rw [hl'] at HI hs hp ⊢
 obtain ⟨ad, rfl, _, hca⟩ := HI.out.2 hp
 obtain ⟨ad0, e3, _, hcm⟩ := HM.out.2 (by decide)
 injection e3 with e3
 subst e3
 obtain ⟨i0, hi, hz0, hz1, hz2⟩ := info_parts info5
 have HCA := Lib.hid hca
 have HCM := Lib.hid hcm
 have hl2 : ((putL n).map bv).length = l * 1 := by rw [List.length_map, hl', Nat.mul_one]
 have HL2 := Lib.hid hl2
 have hfull : 3 < 3 + l := by omega
 have b1 : 3 + l ≤ maxLen := by unfold maxLen; omega
 have b2 : (3 + l) * 1 ≤ 140737488355328 := by omega
 clear hu hb h1 h2 h3 h4 hs hl' hca hcm hl2 hI0
 go_wp2_with (at_builtin; refine wpList_append_grows w1 rfl (.tmp 12) (.tmp 13) 32 rfl 5 i0 (.int .u8 0) 1 1 Tryz.underlying32 hi hz0 hz1 hz2 rfl (by decide) (some ⟨g, 0, none⟩) 3 3 (markL.map bv) rfl (fun e => by cases e) rfl (fun b hb j u hu => by injection hb with hb; subst hb; exact HCM.out j u hu) ad l c ((putL n).map bv) rfl HL2.out (fun j u hu => HCA.out j u hu) (bv_one _) hfull b1 b2 ?_; intro v3 w3 ho3 hg3; have HO3 := Lib.hid ho3; have HG3 := Lib.hid hg3; clear ho3 hg3)
 have ho : Own w3 w1.heap.size v3 (markL ++ putL n) := by
  unfold Own
  rw [List.length_append, HLL.out, List.map_append]
  exact HO3.out
 obtain ⟨A3, m3, c3, hv3⟩ := own_slice ho
 subst hv3
 have HO := Lib.hid ho
 clear ho
 go_wp2_with fail
 go_ret
 exact ⟨A3, m3, c3, rfl, Own.based HO.out HB.out.size, HB.out.trans (((Below.refl w1.heap.size w1).grown HG3.out (Nat.le_refl _) (fun k hk => by cases hk)).mono HB.out.size)⟩
end Go.Proofs.YtpfjlhpahmhkhaaGreat.Ob
/- Package pack: Write, whole. -/
set_option linter.unusedVariables false
set_option linter.unusedSimpArgs false
namespace Go.Proofs.YtpfjlhpahmhkhaaGreat.Ob
open Go.RowKit Go.Proofs.YtpfjlhpahmhkhaaGreat.Sh
open Go.Proofs.YtpfjlhpahmhkhaaGreat.Tx (Shape InL TmpL OwnL Typed Only By Rd Datas list_appendL step_appendL)
def WritePost (l : List (List UInt8)) (w : World) (e : Ending) (w' : World) : Prop :=
 ∃ A m c, e = .returned (.tuple #[.slice A m c, .int .i64 (writeP l).1]) ∧ Below w.heap.size w w' ∧ Own w' w.heap.size (.slice A m c) (writeP l).2
def dsZ (n : Nat) (ds : List Nat) : List Int := (ds.map fun (d : Nat) => (d : Int)) ++ List.replicate (n - ds.length) 0
theorem dsZ_slv {w : World} {g n : Nat} {ds : List Nat} (h : BlkI w g (dsZ n ds)) (hn : ds.length ≤ n) (hm : n ≤ 2000000) : SlV w (.slice (some ⟨g, 0, none⟩) ds.length n) (dsV ds) := by
 refine ⟨some ⟨g, 0, none⟩, n, by rw [dsV, List.length_map], by rw [dsV, List.length_map]; exact hn, by unfold maxLen; omega, ⟨by rw [dsV, List.length_map, Nat.mul_one], fun _ => ⟨_, rfl, Blk.lt h, fun j u hu => ?_⟩⟩, fun e => by cases e⟩
 have hj : j < ds.length := by have := (List.getElem?_eq_some_iff.1 hu).1; rwa [dsV, List.length_map] at this
 have hl : (dsZ n ds).length = n := by unfold dsZ; rw [List.length_append, List.length_map, List.length_replicate]; omega
 rw [Addr.add_mid, Nat.zero_add, h.cell j (by rw [hl]; omega), ← hu]
 unfold dsZ dsV
 rw [List.getD_eq_getElem?_getD, List.getElem?_append_left (by rw [List.length_map]; exact hj), List.getElem?_map, List.getElem?_map, List.getElem?_eq_getElem hj]
 rfl
theorem dsZ_set (n : Nat) (ds : List Nat) (d : Nat) (h : ds.length < n) : (dsZ n ds).set ds.length (d : Int) = dsZ n (ds ++ [d]) := by
 unfold dsZ
 rw [List.set_append_right _ _ (by rw [List.length_map]; exact Nat.le_refl _), List.length_map, Nat.sub_self, List.map_append, List.append_assoc, List.length_append, List.length_singleton]
 obtain ⟨m, hm⟩ : ∃ m, n - ds.length = m + 1 := ⟨n - ds.length - 1, by omega⟩
 rw [hm, show n - (ds.length + 1) = m from by omega]
 rfl
theorem decB_ne {o : List UInt8} (h : decB o = true) : o ≠ [] := fun e => by rw [e, decB_nil] at h; cases h
set_option maxRecDepth 100000 in
set_option maxHeartbeats 6400000 in
theorem write_any (v : Value) (l : List (List UInt8)) (w : World) (h : LsV w v l) (hl : l.length ≤ 1000000) : Calls Tryz.prog 112 #[v] w (WritePost l w) := by
 have HMP := Lib.hid (mayPack_any v l w h hl)
 have HL := Lib.hid h
 obtain ⟨A, c, rfl, hlc, hcm⟩ := h.slice
 unfold maxLen at hcm
 obtain ⟨n, hn⟩ : ∃ n, l.length = n := ⟨_, rfl⟩
 rw [hn] at HMP HL hlc hl ⊢
 have HN := Lib.hid hn
 have hcs := write_cases l
 have HCS := Lib.hid hcs
 obtain ⟨r, hr⟩ : ∃ r, (writeP l).1 = r := ⟨_, rfl⟩
 rw [hr] at HMP
 have HR := Lib.hid hr
 clear h hn hcs hr
 by_cases h0 : r = 0
 ·subst h0
  obtain ⟨h5, hlo, hdo, hw⟩ : l.length ≤ 512 ∧ (∀ o ∈ l, o.length ≤ 20000) ∧ (∀ o ∈ l, decB o = true) ∧ writeP l = (0, (writesP l l.length).1 ++ sumOf (writesP l l.length).1) := by
   rcases HCS.out with ⟨_, e⟩ | ⟨_, _, e⟩ | ⟨_, _, _, e⟩ | h
   ·have := HR.out; rw [e] at this; exact absurd this (by decide)
   ·have := HR.out; rw [e] at this; exact absurd this (by decide)
   ·have := HR.out; rw [e] at this; exact absurd this (by decide)
   ·exact h
  rw [HN.out] at h5 hw
  have HLO := Lib.hid hlo
  have HDO := Lib.hid hdo
  have HBIG := Lib.hid (writes_big l hlo (by rw [HN.out]; exact h5))
  have hP : WritePost l w = fun e w' => ∃ A m c, e = .returned (.tuple #[.slice A m c, .int .i64 0]) ∧ Below w.heap.size w w' ∧ Own w' w.heap.size (.slice A m c) ((writesP l n).1 ++ sumOf (writesP l n).1) := by
   unfold WritePost
   rw [hw]
  rw [hP]
  clear hlo hdo hw hP
  have hmk := fun W => d_make_ints n (by omega) W
  go_enter Tryz.func112, Tryz.ntmps112
  go_wp2_with fail
  refine HMP.out.mono ?_
  rintro y w1 ⟨rfl, hb1⟩
  have HB1 := Lib.hid hb1
  have kb : (convert 32 32 (.slice (some ⟨w1.heap.size, 0, none⟩) 3 3)).run Tryz.prog (w1.alloc (.cells #[.int .u8 77, .int .u8 80, .int .u8 49] 5)) = .ok (.slice (some ⟨w1.heap.size, 0, none⟩) 3 3) (mkW w1) := Lib.run_convert_bytes_const (P := Tryz.prog) w1 32 5 #[.int .u8 77, .int .u8 80, .int .u8 49] 3 3 Tryz.underlying32 Tryz.underlying5
  have HMK := Lib.hid (mk_sl w1)
  have HMB := Lib.hid (hb1.trans ((mk_below w1).mono hb1.size))
  clear hb1
  go_wp2_with fail
  refine (pnum_lit w1.heap.size n (mkW w1) HMK.out (by omega)).mono ?_
  rintro y w2 ⟨A2, m2, c2, rfl, ho2, hb2⟩
  have hz2 := HMB.out.size
  have HB2 := Lib.hid (HMB.out.trans (hb2.mono hz2))
  have HO2 : Hid (Own w2 w.heap.size (.slice A2 m2 c2) (writesP l 0).1) := by
   have h9 := Own.based ho2 hz2
   show Own w2 w.heap.size (.slice A2 m2 c2) (markL ++ putL l.length)
   rw [HN.out]; exact h9
  clear ho2 hb2 kb hz2
  have hbi : BlkI (w2.alloc (.cells (madeCells #[.int .i64 0] n) 3)) w2.heap.size (dsZ n []) := by
   have := BlkI.made w2 n
   exact this
  have HBI := Lib.hid hbi
  have HB3 : Hid (Below w.heap.size w (w2.alloc (.cells (madeCells #[.int .i64 0] n) 3))) := HB2.out.alloc HB2.out.size _
  have HO3 : Hid (Own (w2.alloc (.cells (madeCells #[.int .i64 0] n) 3)) w.heap.size (.slice A2 m2 c2) (writesP l 0).1) := HO2.out.alloc _
  clear hbi
  obtain ⟨gd, hgd⟩ : ∃ g, w2.heap.size = g := ⟨_, rfl⟩
  have HGD : Hid (w.heap.size ≤ gd) := by unfold Hid; rw [← hgd]; exact HB2.out.size
  rw [hgd] at HBI
  go_wp2_with fail
  try rw [hgd]
  clear hgd
  go_loopw [5, 23] (fun vb x wr => ∃ (i : Nat), i ≤ n ∧ x = .int .i64 (i : Int) ∧ Below w.heap.size w wr ∧ (∃ A3 m3 c3, vb = .slice A3 m3 c3 ∧ Own wr w.heap.size (.slice A3 m3 c3) (writesP l i).1) ∧ BlkI wr gd (dsZ n (writesP l i).2)) (fun _ x _ => n - (intOf x).toNat)
  case atStart => exact ⟨0, Nat.zero_le _, rfl, HB3.out, ⟨_, _, _, rfl, HO3.out⟩, HBI.out⟩
  case round =>
   obtain ⟨i, hi, rfl, hb, ⟨A3, m3, c3, rfl, ho⟩, hbi⟩ := hrel
   have HB := Lib.hid hb
   have HO := Lib.hid ho
   have HBD := Lib.hid hbi
   clear hb ho hbi
   have z0 : (0 : Int) ≤ (i : Int) := by omega
   by_cases hlt : i < n
   ·have z1 : (i : Int) < (n : Int) := by omega
    have hdl := writes_depths l i
    have kl := fun W => front_l A n c (i + 1) ((i : Int) + 1) (by omega) (by omega) W
    have kd := fun W => front_i (some ⟨gd, 0, none⟩) n n i (i : Int) rfl (by omega) W
    have hx0 := HBD.out.cell i (by unfold dsZ; rw [List.length_append, List.length_map, List.length_replicate, hdl]; omega)
    have hx0f : wr.frozen? ⟨gd, i, none⟩ = false := Blk.frozen HBD.out i
    have hsd := dsZ_slv HBD.out (by rw [hdl]; omega) (by omega)
    rw [hdl] at hsd
    have hne9 : ∀ k, (Value.slice A3 m3 c3).ownBlock = some k → gd ≠ k := fun k hk => by
     rcases HO.out.2 with ⟨e, _⟩ | ⟨g, cap, cur, e, _, hg, _⟩
     ·rw [e] at hk; cases hk
     ·rw [e] at hk
      have e' : g = k := by simpa [Value.ownBlock] using hk
      subst e'
      exact Blk.ne_ HBD.out hg (by decide)
    have HNE9 := Lib.hid hne9
    have hmi : i + 1 ≤ l.length := by rw [HN.out]; omega
    have HPO := Lib.hid (putObject_any (.slice A3 m3 c3) (.slice A (i + 1) c) (.slice (some ⟨gd, 0, none⟩) i n) (writesP l i).1 (l.take (i + 1)) (writesP l i).2 i w.heap.size w)
    have hput := put_take l (writesP l i).2 i hdl
    have hlk : (l.take (i + 1)).length = i + 1 := by rw [List.length_take]; omega
    have HPC : Hid (∀ W, (W = wr ∨ W = wr.drew) → Calls Tryz.prog 181 #[.slice A3 m3 c3, .slice A (i + 1) c, .slice (some ⟨gd, 0, none⟩) i n] W fun e w' => ∃ A4 m4 c4, e = .returned (.tuple #[.slice A4 m4 c4, .int .i64 ((putP l (writesP l i).2 i).2 : Int)]) ∧ Below w.heap.size w w' ∧ Own w' w.heap.size (.slice A4 m4 c4) (writesP l (i + 1)).1 ∧ BlkI w' gd (dsZ n (writesP l i).2)) := by
     intro W hW
     have hWz : W.heap.size = wr.heap.size := by rcases hW with rfl | rfl; rfl; rfl
     have hO : Own W w.heap.size (.slice A3 m3 c3) (writesP l i).1 := by rcases hW with rfl | rfl; exact HO.out; exact HO.out.drew
     have hBW : Below w.heap.size w W := by rcases hW with rfl | rfl; exact HB.out; exact HB.out.drew
     have hBD : BlkI W gd (dsZ n (writesP l i).2) := by rcases hW with rfl | rfl; exact HBD.out; exact Blk.drew HBD.out
     have hsdW : SlV W (.slice (some ⟨gd, 0, none⟩) i n) (dsV (writesP l i).2) := by
      have h9 := dsZ_slv hBD (by rw [hdl]; omega) (by omega)
      rwa [hdl] at h9
     have hbig := HBIG.out i (by rw [HN.out]; omega)
     refine (HPO.out W hO (LsV.take HL.out (i + 1) hmi) hBW (Nat.le_refl _) hBW.size hsdW (fun ad m' c' k e hk => by injection e with e; injection e with e; rw [← e]; exact HNE9.out k hk) hlk hdl (by omega) (fun o ho => HLO.out o (List.mem_of_mem_take ho)) (fun o ho => decB_ne (HDO.out o (List.mem_of_mem_take ho))) (by omega)).mono ?_
     rintro e w' ⟨v', he, ho', hon', _⟩
     rw [hput] at he ho'
     obtain ⟨A4, m4, c4, hv4⟩ := own_slice ho'
     subst hv4
     exact ⟨A4, m4, c4, he, ⟨(hBW.trans (grw_below hO hon' hBW.size)).os, (hBW.trans (grw_below hO hon' hBW.size)).tape, (hBW.trans (grw_below hO hon' hBW.size)).output, (hBW.trans (grw_below hO hon' hBW.size)).size, (hBW.trans (grw_below hO hon' hBW.size)).block⟩, ho', hon'.blk hBD (fun e9 => HNE9.out gd e9 rfl)⟩
    obtain ⟨dv, hdv⟩ : ∃ d, (putP l (writesP l i).2 i).2 = d := ⟨_, rfl⟩
    have HDV := Lib.hid hdv
    rw [hdv] at HPC
    have HDL := Lib.hid hdl
    have HLT := Lib.hid hlt
    obtain ⟨z9, hz9⟩ : ∃ z, (dsZ n (writesP l i).2).getD i 0 = z := ⟨_, rfl⟩
    rw [hz9] at hx0
    obtain ⟨m1, hm1⟩ : ∃ m, i + 1 = m := ⟨_, rfl⟩
    rw [hm1] at kl HPC
    have HM1 := Lib.hid hm1
    have zm : (i : Int) + 1 ≤ (c : Int) := by omega
    have hwr : IntKind.i64.wrap ((i : Int) + 1) = (i : Int) + 1 := by rw [IntKind.wrap_i64]; omega
    clear HPO hput hlk hmi hsd hdl hne9 hdv hlt hz9 hm1
    go_upto_region 9 with (fail)
    go_region_held3 (fun _ => True) (exact trivial)
     (first | (go_at_call 181; refine (HPC.out _ (by first | exact Or.inl rfl | exact Or.inr rfl)).mono ?_; rintro y w4 ⟨A4, m4, c4, rfl, hb4, ho4, hbd4⟩; rw [← HM1.out] at ho4; have hln : i < (dsZ n (writesP l i).2).length := (by unfold dsZ; rw [List.length_append, List.length_map, List.length_replicate, HDL.out]; have := HLT.out; omega); have x5 : w4.cell? ⟨gd, i, none⟩ = some (.int .i64 ((dsZ n (writesP l i).2).getD i 0)) := hbd4.cell i hln; have x5f : w4.frozen? ⟨gd, i, none⟩ = false := Blk.frozen hbd4 i; have HB4 := Lib.hid hb4; have HO4 := Lib.hid ho4; have HBD4 := Lib.hid hbd4; clear hb4 ho4 hbd4 hln))
    go_wp2_with fail
    have HB5 : Hid (Below w.heap.size w (w4.setCell ⟨gd, i, none⟩ (.int .i64 (dv : Int)))) := (((Only.of_below (M := fun _ => False) HB4.out).set_ (g := gd) (i := i) (.inr HGD.out) _)).below
    have HBD5 : Hid (BlkI (w4.setCell ⟨gd, i, none⟩ (.int .i64 (dv : Int))) gd (dsZ n (writesP l (i + 1)).2)) := by
     have h9 := BlkI.set HBD4.out i (dv : Int)
     have h8 := dsZ_set n (writesP l i).2 dv (by rw [HDL.out]; exact HLT.out)
     rw [HDL.out] at h8
     rw [h8] at h9
     show BlkI _ gd (dsZ n ((writesP l i).2 ++ [(putP l (writesP l i).2 i).2]))
     rw [HDV.out]
     exact h9
    have HO5 : Hid (Own (w4.setCell ⟨gd, i, none⟩ (.int .i64 (dv : Int))) w.heap.size (.slice A4 m4 c4) (writesP l (i + 1)).1) := by
     rcases HO4.out.2 with ⟨e, e2⟩ | ⟨g, cap, cur, e, h1, h2, h3, h4, h5', h6⟩
     ·exact ⟨HO4.out.1, .inl ⟨e, e2⟩⟩
     ·exact ⟨HO4.out.1, .inr ⟨g, cap, cur, e, h1, Blk.far h2 (by intro e9; subst e9; exact Blk.ne_ HBD4.out h2 (by decide) rfl) _, h3, h4, h5', h6⟩⟩
    go_roundw
    case rel => exact ⟨i + 1, by have := HLT.out; omega, by go_num, HB5.out, ⟨_, _, _, rfl, HO5.out⟩, HBD5.out⟩
    case measure => have := HLT.out; simp [intOf]; omega
   ·obtain rfl : i = n := by omega
    have hbig := HBIG.out i (by rw [HN.out]; exact Nat.le_refl _)
    have hlen9 : (writesP l i).1.length ≤ 100000000 := by omega
    obtain ⟨W9, hW9⟩ : ∃ W9, (writesP l i).1 = W9 := ⟨_, rfl⟩
    rw [hW9] at HO hlen9
    have HW9 := Lib.hid hW9
    have HS := Lib.hid HO.out.sl
    have HLN := Lib.hid hlen9
    clear hbig hlt hW9
    go_wp2_with fail
    refine (ssum_sl _ W9 _ HS.out (by have := HLN.out; omega)).mono ?_
    rintro y w5 ⟨v5, rfl, ho5, hb5⟩
    obtain ⟨A5, c5, rfl, _, _⟩ := ho5.length
    have HR5 := Lib.hid ho5
    have HO9 := Lib.hid (HO.out.below hb5)
    have HB9 := Lib.hid (HB.out.trans (hb5.mono HB.out.size))
    have hrr : Reads w5 w5.heap.size 1 A5 (sumOf W9).length ((sumOf W9).map bv) := by
     obtain ⟨A', c', e, _, _, hI, _⟩ := ho5.sl
     injection e with e1 _ _
     subst e1
     exact hI.reads
    obtain ⟨sl, hsl⟩ : ∃ n, (sumOf W9).length = n := ⟨_, rfl⟩
    rw [hsl] at hrr ⊢
    have HRR := Lib.hid hrr
    have hsm : W9.length + sl ≤ 140737488355328 := by have := HLN.out; rw [← hsl, sumOf_length]; omega
    have hz5 := HB9.out.size
    clear ho5 hb5 hrr hsl hlen9
    go_wp2_with (at_builtin; refine app_grw rfl (.tmp 42) (.tmp 44) rfl w5 w.heap.size (.slice A3 m3 c3) W9 rfl HO9.out _ A5 sl c5 (sumOf W9) rfl HRR.out hsm hz5 ?_; intro v7 w7 ho7 hon7 hk7; have HO7 := Lib.hid ho7; have HN7 := Lib.hid hon7; obtain ⟨A7, m7, c7, hv7⟩ := own_slice ho7; subst hv7; clear ho7 hon7 hk7)
    go_ret2
    exact ⟨A7, m7, c7, rfl, HB9.out.trans (grw_below HO9.out HN7.out hz5), by rw [HW9.out]; exact HO7.out⟩
 ·have z : (r != 0) = true := by rw [bne_iff_ne]; exact h0
  have hw2 : (writeP l).2 = [] := by
   rcases HCS.out with ⟨_, e⟩ | ⟨_, _, e⟩ | ⟨_, _, _, e⟩ | ⟨_, _, _, e⟩
   ·rw [e]
   ·rw [e]
   ·rw [e]
   ·exact absurd (by have := HR.out; rw [e] at this; exact this.symm) h0
  have hP : WritePost l w = fun e w' => ∃ A m c, e = .returned (.tuple #[.slice A m c, .int .i64 r]) ∧ Below w.heap.size w w' ∧ Own w' w.heap.size (.slice A m c) [] := by
   unfold WritePost
   rw [HR.out, hw2]
  rw [hP]
  clear h0 hw2 hP
  go_enter Tryz.func112, Tryz.ntmps112
  go_wp2_with fail
  refine HMP.out.mono ?_
  rintro y w1 ⟨rfl, hb1⟩
  have HB1 := Lib.hid hb1
  clear hb1
  go_wp2_with fail
  go_ret2
  exact ⟨none, 0, 0, rfl, HB1.out, Own.nil_ _ _⟩
end Go.Proofs.YtpfjlhpahmhkhaaGreat.Ob
