/- Texts put together: YPk8, YPk9, YPkA, YPkH. -/
import Derived.Test.YteffiedolcjjlaaGreatQw33
import Derived.Deep.RegionLaw
import Derived.Lib.SlBytesConst
import Derived.Test.YteffiedolcjjlaaGreatQw32
/- Package pack's reader: getElsewhere, getBytes. -/
set_option linter.unusedVariables false
set_option linter.unusedSimpArgs false
namespace Go.Proofs.YteffiedolcjjlaaGreat.Ob
open Go.RowKit Go.Proofs.YteffiedolcjjlaaGreat.Sh
open Go.Proofs.YteffiedolcjjlaaGreat.Tx (Shape InL TmpL OwnL Typed Only By Rd Datas list_appendL step_appendL)

theorem strs_eq {a b : List UInt8} (h : a = b) : ((str a).toList == (str b).toList) = true := by subst h; exact beq_self_eq_true _
theorem strs_ne {a b : List UInt8} (h : a ≠ b) : ((str a).toList == (str b).toList) = false := by
  rw [str_toList, str_toList, beq_eq_false_iff_ne]; exact h
section
variable {w0 w : World} {F : Nat → Prop} {p : Nat} {vb fv vr : Value} {k : Nat} {read : List EntM} {b : List UInt8}
set_option maxRecDepth 100000 in
set_option maxHeartbeats 3200000 in
theorem gelse_any {base : BaseM} (h : PrAt w0 w F p vb fv k vr read) (hin : PrIn w0 vb fv b base) (hk : k ≤ b.length) :
    Calls Tryz.prog 169 #[.pointer (some ⟨p, 0, none⟩)] w (TellPost w0 F p vb fv vr read w (elseP b base k)) := by
  have HS := Lib.hid hin.sl
  have HBB := Lib.hid hin.small
  have HASK := Lib.hid hin.ask
  by_cases h32 : k + 32 ≤ b.length
  · have HG : Hid (Calls Tryz.prog 166 #[.pointer (some ⟨p, 0, none⟩), .int .i64 32] w fun x w' => ∃ A c, x = .returned (.tuple #[.slice A 32 c, .int .i64 0]) ∧ Moved w0 w F p vb fv (k + 32) vr read w' ∧ Sl w0 (.slice A 32 c) ((b.drop k).take 32)) := gpiece_any h hin.sl 32 h32 hin.small
    have h32l : ((b.drop k).take 32).length = 32 := by simp; omega
    have HE := Lib.hid (fun (x : List UInt8) (hb : base (hexL ((b.drop k).take 32)) = some x) => else_by (x := x) h32 hb)
    have HEN := Lib.hid (fun (hb : base (hexL ((b.drop k).take 32)) = none) => else_none h32 hb)
    have HES := Lib.hid (fun (x : List UInt8) (hb : base (hexL ((b.drop k).take 32)) = some x) => else_sum (x := x) h32 hb)
    have HK32 := Lib.hid h32
    obtain ⟨hs, hhs⟩ : ∃ l, (b.drop k).take 32 = l := ⟨_, rfl⟩
    rw [hhs] at h32l HG HE HEN HES
    have HIDL : Hid ((hexL hs).length ≤ 64) := by show (hexL hs).length ≤ 64; rw [hexL_length, h32l]; omega
    have HSL := Lib.hid h32l
    obtain ⟨id, hid⟩ : ∃ l, hexL hs = l := ⟨_, rfl⟩
    have HID := Lib.hid hid
    rw [hid] at HE HEN HES HIDL
    obtain ⟨R, hR⟩ : ∃ R, elseP b base k = R := ⟨_, rfl⟩
    rw [hR] at HE HEN HES ⊢
    clear hin h h32 h32l hhs hid hR
    go_enter Tryz.func169, Tryz.ntmps169
    go_wp2_with fail
    refine HG.out.mono ?_
    rintro y w1 ⟨A, c, rfl, hm, hs1⟩
    have HM := Lib.hid hm
    have HS1 := Lib.hid (hs1.below hm.1.old)
    clear hm hs1
    go_wp2_with fail
    refine (hex_any _ hs w1 HS1.out (by rw [HSL.out]; omega)).mono ?_
    rw [HID.out]
    rintro y w2 ⟨rfl, hb2⟩
    have HM2 := Lib.hid (HM.out.below hb2)
    have y2 := HM2.out.1.f_
    clear hb2
    go_wp2_with fail
    refine (HASK.out w2 id HM2.out.1.old HIDL.out).mono ?_
    rintro y w3 ⟨A3, n3, c3, t, rfl, hb3, hcase⟩
    have HM3 := Lib.hid (HM2.out.below hb3)
    clear hb3 y2
    rcases hcase with ⟨hn, rfl⟩ | ⟨x, hx, rfl, hxl, hxn, hxs⟩
    · have hE := HEN.out hn
      subst hE
      clear hn
      go_wp2_with fail
      go_ret3
      exact TellPost.err (r := (7, [], 0, 0)) HM3.out (by decide)
    · have HXL := Lib.hid hxl
      have HXO := Lib.hid hxs
      have HXS := Lib.hid hxs.sl
      have HX := Lib.hid hx
      clear hxl hxs hxn hx
      go_wp2_with fail
      refine (id_any _ x w3 HXS.out (by have := HXL.out; omega)).mono ?_
      rintro y w4 ⟨rfl, hb4⟩
      have HM4 := Lib.hid (HM3.out.below hb4)
      have HXS4 := Lib.hid (HXS.out.below hb4)
      have hxp : By (fun j => p < j) w4 (.slice A3 n3 c3) x := (own_by HXO.out (fun j hj => by
        have h1 := (World.ownsRow.lt HXO.out j hj).1
        have h2 := HM2.out.1.lt
        show p < j
        omega)).only (Only.of_below (M := fun _ => False) hb4) (fun _ _ h9 => h9)
      have HXP := Lib.hid hxp
      clear hb4
      by_cases hid : idB x = id
      · have hE := HE.out x HX.out hid
        have z : ((str (hexL (sumOf x))).toList == (str id).toList) = true := strs_eq hid
        subst hE
        clear hid hxp
        go_wp2_with fail
        refine (gby_any (vx := .slice A3 n3 c3) (x := x) 1 HM4.out.1 HS.out HBB.out HK32.out HXP.out (fun h9 => Nat.lt_irrefl _ h9)).mono ?_
        rintro y w5 ht
        have ht2 := ht.after HM4.out
        obtain ⟨A4, bs4, c4, d4, k4, rfl, hrest⟩ := ht2
        have HR := Lib.hid hrest
        clear ht hrest
        go_wp2_with fail
        go_ret3
        exact ⟨A4, bs4, c4, d4, k4, rfl, HR.out⟩
      · have hE := HES.out x HX.out hid
        have z : ((str (hexL (sumOf x))).toList == (str id).toList) = false := strs_ne hid
        subst hE
        clear hid hxp
        go_wp2_with fail
        go_ret3
        exact TellPost.err (r := (5, [], 0, 0)) HM4.out (by decide)
  · rw [else_short (by omega)]
    have HG : Hid (Calls Tryz.prog 166 #[.pointer (some ⟨p, 0, none⟩), .int .i64 32] w fun x w' => x = .returned (.tuple #[.slice none 0 0, .int .i64 2]) ∧ Moved w0 w F p vb fv k vr read w') := gpiece_no h hin.sl 32 (by omega) hin.small hk
    clear hin h h32
    go_enter Tryz.func169, Tryz.ntmps169
    go_wp2_with fail
    refine HG.out.mono ?_
    rintro y w1 ⟨rfl, hm⟩
    have HM := Lib.hid hm
    clear hm
    go_wp2_with fail
    go_ret3
    exact TellPost.err (r := (2, [], 0, 0)) HM.out (by decide)
end
end Go.Proofs.YteffiedolcjjlaaGreat.Ob
/- Package pack's reader: getBytes, getHead, getObject. -/
set_option linter.unusedVariables false
set_option linter.unusedSimpArgs false
namespace Go.Proofs.YteffiedolcjjlaaGreat.Ob
open Go.RowKit Go.Proofs.YteffiedolcjjlaaGreat.Sh
open Go.Proofs.YteffiedolcjjlaaGreat.Tx (Shape InL TmpL OwnL Typed Only By Rd Datas list_appendL step_appendL)

section
variable {w0 w : World} {F : Nat → Prop} {p : Nat} {vb fv vr : Value} {k : Nat} {read : List EntM} {b : List UInt8}
theorem TellPost.fin {r : Int × List UInt8 × Nat × Nat} {e : Ending} {w1 w' : World} {k1 : Nat} (hm : Moved w0 w F p vb fv k1 vr read w1) (h : TellPost w0 F p vb fv vr read w1 r e w') :
    ∃ A n c d, e = .returned (.tuple #[.slice A n c, .int .i64 d, .int .i64 r.1]) ∧ TellPost w0 F p vb fv vr read w r e w' := by
  have h2 := h.after hm
  obtain ⟨A, bs, c, d, k', he, _⟩ := h
  exact ⟨A, _, c, _, he, h2⟩
set_option maxRecDepth 100000 in
set_option maxHeartbeats 3200000 in
theorem gbytes_any {base : BaseM} (h : PrAt w0 w F p vb fv k vr read) (hin : PrIn w0 vb fv b base) (hk : k ≤ b.length) (hrd : read.length ≤ 1000000) :
    Calls Tryz.prog 127 #[.pointer (some ⟨p, 0, none⟩)] w (TellPost w0 F p vb fv vr read w (bytesP b base read k)) := by
  by_cases h1 : k < b.length
  · have HG : Hid (Calls Tryz.prog 166 #[.pointer (some ⟨p, 0, none⟩), .int .i64 1] w fun x w' => ∃ A c, x = .returned (.tuple #[.slice A 1 c, .int .i64 0]) ∧ Moved w0 w F p vb fv (k + 1) vr read w' ∧ Sl w0 (.slice A 1 c) ((b.drop k).take 1)) := gpiece_any h hin.sl 1 h1 hin.small
    have HIN := Lib.hid hin
    have HK1 : Hid (k + 1 ≤ b.length) := h1
    have HRD := Lib.hid hrd
    have HK := Lib.hid h1
    have hne : (b.drop k).take 1 ≠ [] := by
      intro e
      have := congrArg List.length e
      simp at this
      omega
    have hge : ((b.drop k).take 1).getD 0 0 = b.getD k 0 := by simp [List.getD_eq_getElem?_getD, List.getElem?_take, List.getElem?_drop]
    have HNE := Lib.hid hne
    obtain ⟨u, hu⟩ : ∃ u, bi (b.getD k 0) = u := ⟨_, rfl⟩
    have HGE : Hid (bi (((b.drop k).take 1).getD 0 0) = u) := by unfold Hid; rw [hge, hu]
    have hz : (u = 0 ↔ b.getD k 0 = 0) ∧ (u = 1 ↔ b.getD k 0 = 1) ∧ (u = 2 ↔ b.getD k 0 = 2) := by
      have e : ∀ m : Nat, m < 256 → (u = (m : Int) ↔ b.getD k 0 = UInt8.ofNat m) := fun m hm => by
        rw [← hu, ← bi_nat m hm]
        exact ⟨fun h => bi_inj h, fun h => by rw [h]⟩
      exact ⟨e 0 (by omega), e 1 (by omega), e 2 (by omega)⟩
    have HZ := Lib.hid hz
    obtain ⟨R, hR⟩ : ∃ R, bytesP b base read k = R := ⟨_, rfl⟩
    have HR := Lib.hid hR
    rw [hR]
    clear hin h h1 hne hge hu hz hR hrd
    go_enter Tryz.func127, Tryz.ntmps127
    go_wp2_with fail
    refine HG.out.mono ?_
    rintro y w1 ⟨A, c, rfl, hm, hs1⟩
    have HM := Lib.hid hm
    obtain ⟨ad, rfl, _, x0⟩ := at_head (hs1.below hm.1.old) HNE.out
    rw [HGE.out] at x0
    clear hm hs1
    by_cases c0 : u = 0
    · subst c0
      have hr := (bytes_0 (base := base) (read := read) HK.out (HZ.out.1.1 rfl)).symm.trans HR.out
      go_wp2_with fail
      refine (gwhole_any HM.out.1 HIN.out.sl HIN.out.small HK1.out).mono ?_
      rw [hr]
      rintro y w2 ht
      obtain ⟨A4, n4, c4, d4, rfl, ht2⟩ := ht.fin HM.out
      have HT := Lib.hid ht2
      clear ht ht2 hr
      go_wp2_with fail
      go_ret3
      exact HT.out
    · by_cases c1 : u = 1
      · subst c1
        have hr := (bytes_1 (base := base) (read := read) HK.out (HZ.out.2.1.1 rfl)).symm.trans HR.out
        clear c0
        go_wp2_with fail
        refine (gahead_any HM.out.1 HIN.out.sl HIN.out.small HK1.out HRD.out).mono ?_
        rw [hr]
        rintro y w2 ht
        obtain ⟨A4, n4, c4, d4, rfl, ht2⟩ := ht.fin HM.out
        have HT := Lib.hid ht2
        clear ht ht2 hr
        go_wp2_with fail
        go_ret3
        exact HT.out
      · by_cases c2 : u = 2
        · subst c2
          have hr := (bytes_2 (base := base) (read := read) HK.out (HZ.out.2.2.1 rfl)).symm.trans HR.out
          clear c0 c1
          go_wp2_with fail
          refine (gelse_any HM.out.1 HIN.out HK1.out).mono ?_
          rw [hr]
          rintro y w2 ht
          obtain ⟨A4, n4, c4, d4, rfl, ht2⟩ := ht.fin HM.out
          have HT := Lib.hid ht2
          clear ht ht2 hr
          go_wp2_with fail
          go_ret3
          exact HT.out
        · have hr := (bytes_form (base := base) (read := read) HK.out (fun e => c0 (HZ.out.1.2 e)) (fun e => c1 (HZ.out.2.1.2 e)) (fun e => c2 (HZ.out.2.2.2 e))).symm.trans HR.out
          subst hr
          have z0 : (u == 0) = false := by rw [beq_eq_false_iff_ne]; exact c0
          have z1 : (u == 1) = false := by rw [beq_eq_false_iff_ne]; exact c1
          have z2 : (u == 2) = false := by rw [beq_eq_false_iff_ne]; exact c2
          clear c0 c1 c2
          go_wp2_with fail
          go_ret3
          exact TellPost.err (r := (4, [], 0, 0)) HM.out (by decide)
  · rw [bytes_short (by omega)]
    have HG : Hid (Calls Tryz.prog 166 #[.pointer (some ⟨p, 0, none⟩), .int .i64 1] w fun x w' => x = .returned (.tuple #[.slice none 0 0, .int .i64 2]) ∧ Moved w0 w F p vb fv k vr read w') := gpiece_no h hin.sl 1 (by omega) hin.small hk
    clear hin h h1
    go_enter Tryz.func127, Tryz.ntmps127
    go_wp2_with fail
    refine HG.out.mono ?_
    rintro y w1 ⟨rfl, hm⟩
    have HM := Lib.hid hm
    clear hm
    go_wp2_with fail
    go_ret3
    exact TellPost.err (r := (2, [], 0, 0)) HM.out (by decide)
end
end Go.Proofs.YteffiedolcjjlaaGreat.Ob
/- Package pack's reader: getHead, getObject. -/
set_option linter.unusedVariables false
set_option linter.unusedSimpArgs false
namespace Go.Proofs.YteffiedolcjjlaaGreat.Ob
open Go.RowKit Go.Proofs.YteffiedolcjjlaaGreat.Sh
open Go.Proofs.YteffiedolcjjlaaGreat.Tx (Shape InL TmpL OwnL Typed Only By Rd Datas list_appendL step_appendL)

theorem sl_lit (w : World) (bs : List UInt8) (cs : Array Value) (fr : Nat × Nat) (hcs : cs.toList = bs.map bv) (n : Nat) (hn : bs.length = n) (h1 : n ≤ 1000) : Sl (w.alloc (.cells cs 5 fr)) (.slice (some ⟨w.heap.size, 0, none⟩) n n) bs := by
  subst hn
  refine ⟨_, _, rfl, Nat.le_refl _, by unfold maxLen; omega, fun h0 => ⟨_, rfl, by simp, fun j hj => ?_⟩, fun e => by cases e⟩
  rw [Addr.add_mid, cell_of_row _ _ _ cs 5 fr (heap_alloc_new w _), Nat.zero_add, ← Array.getElem?_toList, hcs, List.getElem?_map, List.getElem?_eq_getElem hj, List.getD_eq_getElem?_getD, List.getElem?_eq_getElem hj]
  rfl
/-- The mark, laid as a constant. -/
def mkW (w : World) : World := w.alloc (.cells #[.int .u8 77, .int .u8 80, .int .u8 49] 5 (3, 4))
theorem mk_sl (w : World) : Sl (mkW w) (.slice (some ⟨w.heap.size, 0, none⟩) 3 3) markL := sl_lit w _ _ _ (by unfold markL bv bi; rfl) 3 rfl (by omega)
theorem mk_below (w : World) : Below w.heap.size w (mkW w) := (Below.refl _ _).alloc (Nat.le_refl _) _
section
variable {w0 w : World} {F : Nat → Prop} {p : Nat} {vb fv vr : Value} {k : Nat} {read : List EntM} {b : List UInt8}
/-- What getHead leaves: how many objects, where they begin. -/
def HeadPost (w0 : World) (F : Nat → Prop) (p : Nat) (vb fv vr : Value) (b : List UInt8) (w : World) (e : Ending) (w' : World) : Prop :=
  (∃ r k' : Nat, r ≠ 0 ∧ e = .returned (.tuple #[.int .i64 0, .int .i64 (r : Int)]) ∧ Moved w0 w F p vb fv k' vr [] w' ∧ ∀ base, bodyP b base = ((r : Int), [])) ∨
  (∃ n q : Nat, e = .returned (.tuple #[.int .i64 (n : Int), .int .i64 0]) ∧ Moved w0 w F p vb fv q vr [] w' ∧ q ≤ b.length ∧ n ≤ 512 ∧ ∀ base, bodyP b base = loopP b base n [] q)
set_option maxRecDepth 100000 in
set_option maxHeartbeats 3200000 in
theorem ghead_any (h : PrAt w0 w F p vb fv k vr []) (hs : Sl w0 vb b) (hb : b.length ≤ 1000000) (h4 : 4 ≤ b.length) :
    Calls Tryz.prog 90 #[.pointer (some ⟨p, 0, none⟩)] w (HeadPost w0 F p vb fv vr b w) := by
  have H := Lib.hid h
  have HS := Lib.hid hs
  have HB := Lib.hid hb
  have H4 := Lib.hid h4
  have y0 := h.b_
  have kb : (convert 51 51 (.slice (some ⟨w.heap.size, 0, none⟩) 3 3)).run Tryz.prog (w.alloc (.cells #[.int .u8 77, .int .u8 80, .int .u8 49] 5)) = .ok (.slice (some ⟨w.heap.size, 0, none⟩) 3 3) (mkW w) := Lib.run_convert_bytes_const (P := Tryz.prog) w 51 5 #[.int .u8 77, .int .u8 80, .int .u8 49] 3 3 Tryz.underlying51 Tryz.underlying5
  have HMK := Lib.hid (mk_sl w)
  have HMB := Lib.hid (mk_below w)
  clear h hs hb h4
  go_enter Tryz.func90, Tryz.ntmps90
  go_wp2_with fail
  refine (bpre_any _ _ b markL _ (HS.out.below (H.out.below HMB.out).old) HMK.out (by have := H4.out; show 3 ≤ b.length; omega)).mono ?_
  rintro y w' ⟨rfl, rfl⟩
  have HM := Lib.hid (show Moved w0 w F p vb fv k vr [] (mkW w) from ⟨H.out.below HMB.out, Only.of_below HMB.out⟩)
  generalize mkW w = w1 at *
  have h3 : List.take markL.length b = b.take 3 := rfl
  rw [h3]
  by_cases hm : b.take 3 = markL
  · have z : (b.take 3 == markL) = true := by rw [hm]; exact beq_self_eq_true _
    obtain ⟨t, ht⟩ : ∃ t, (b.take 3 == markL) = t := ⟨_, rfl⟩
    rw [ht] at z ⊢
    subst z
    have HMM := Lib.hid hm
    clear hm ht kb y0 h3
    have y1 := HM.out.1.at_
    have y1f : w1.frozen? ⟨p, 1, none⟩ = false := HM.out.1.blk.frozen 1
    go_upto_region 4 with (fail)
    have HM2 : Hid (Moved w0 w F p vb fv 3 vr [] (w1.setCell ⟨p, 1, none⟩ (.int .i64 3))) := ⟨HM.out.1.setAt 3, HM.out.2.set_ (.inl rfl) _⟩
    generalize w1.setCell ⟨p, 1, none⟩ (.int .i64 3) = w2 at *
    clear y1 y1f
    rcases getR_cases b 3 (by have := H4.out; omega) with ⟨e, hg, he⟩ | ⟨n, hg, hl, hn, _⟩
    · have hne : e ≠ 0 := by omega
      have HG := Lib.hid (gnum_any HM2.out.1 HS.out hg 0 (fun h0 => absurd h0 hne) (fun _ => rfl))
      have HNE := Lib.hid hne
      have HE : Hid (∃ r : Nat, r ≠ 0 ∧ e = (r : Int) ∧ ∀ base, bodyP b base = (e, [])) := by
        rcases he with rfl | rfl
        · exact ⟨2, by decide, rfl, fun base => body_err HMM.out hg hne⟩
        · exact ⟨4, by decide, rfl, fun base => body_err HMM.out hg hne⟩
      have z : (e != 0) = true := by rw [bne_iff_ne]; exact hne
      clear hne he hg
      go_wp2_with fail
      refine HG.out.mono ?_
      rintro y w3 ⟨rfl, hm⟩
      rw [if_neg HNE.out] at hm
      have HM3 := Lib.hid (HM2.out.then_ hm)
      clear hm
      go_wp2_with fail
      go_ret2
      obtain ⟨r, hr0, hre, hrb⟩ := HE.out
      subst hre
      exact .inl ⟨r, 3, hr0, rfl, HM3.out, hrb⟩
    · have HG := Lib.hid (gnum_any HM2.out.1 HS.out hg (3 + (putL n).length) (fun _ => rfl) (fun h0 => absurd rfl h0))
      obtain ⟨q, hq⟩ : ∃ q, 3 + (putL n).length = q := ⟨_, rfl⟩
      rw [hq] at hg hl HG
      have HL := Lib.hid hl
      by_cases hlim : n ≤ 512
      · have z : (n : Int) ≤ 512 := by omega
        have HBD : Hid (∀ base, bodyP b base = loopP b base n [] q) := fun base => body_loop HMM.out hg hlim
        have HLIM := Lib.hid hlim
        clear hg hl hn hq hlim
        go_wp2_with fail
        refine HG.out.mono ?_
        rintro y w3 ⟨rfl, hm⟩
        simp only [if_true] at hm
        have HM3 := Lib.hid (HM2.out.then_ hm)
        clear hm
        go_wp2_with fail
        go_ret2
        exact .inr ⟨n, q, rfl, HM3.out, HL.out, HLIM.out, HBD.out⟩
      · have z : (512 : Int) < (n : Int) := by omega
        have HBD : Hid (∀ base, bodyP b base = (14, [])) := fun base => body_limit HMM.out hg z
        clear hg hl hn hq hlim
        go_wp2_with fail
        refine HG.out.mono ?_
        rintro y w3 ⟨rfl, hm⟩
        simp only [if_true] at hm
        have HM3 := Lib.hid (HM2.out.then_ hm)
        clear hm
        go_wp2_with fail
        go_ret2
        exact .inl ⟨14, q, by decide, rfl, HM3.out, HBD.out⟩
  · have z : (b.take 3 == markL) = false := by rw [beq_eq_false_iff_ne]; exact hm
    obtain ⟨t, ht⟩ : ∃ t, (b.take 3 == markL) = t := ⟨_, rfl⟩
    rw [ht] at z ⊢
    subst z
    have HMM := Lib.hid hm
    clear hm ht kb y0 h3
    go_wp2_with fail
    go_ret2
    exact .inl ⟨4, k, by decide, rfl, HM.out, fun base => body_form HMM.out⟩
end
end Go.Proofs.YteffiedolcjjlaaGreat.Ob
/- Package pack: Write. -/
set_option linter.unusedVariables false
set_option linter.unusedSimpArgs false
namespace Go.Proofs.YteffiedolcjjlaaGreat.Ob
open Go.RowKit Go.Proofs.YteffiedolcjjlaaGreat.Sh
open Go.Proofs.YteffiedolcjjlaaGreat.Tx (Shape InL TmpL OwnL Typed Only By Rd Datas list_appendL step_appendL)

theorem same_addr (A : Option Addr) (c : Nat) : (if c = 0 then A else A.map (·.add 0)) = A := by
  split
  · rfl
  · cases A with
    | none => rfl
    | some x => show some (x.add 0) = some x; simp [Addr.add]
theorem p_sizeL (w : World) : (sizeOf (Tryz.prog.elem 22)).run Tryz.prog w = .ok 1 w := by kernel_rfl
theorem p_sizeI (w : World) : (sizeOf (Tryz.prog.elem 43)).run Tryz.prog w = .ok 1 w := by kernel_rfl
set_option maxRecDepth 100000 in
theorem front_l (A : Option Addr) (l c k : Nat) (n : Int) (hn : n = (k : Int)) (hkc : k ≤ c) (w : World) :
    (Instr.slice 22 (.slice A l c) none (some (.int .i64 n)) none).run Tryz.prog w = .ok (.slice A k c) w := by
  subst hn
  rw [run_slice_h w 22 A l c Tryz.underlying22 .i64 k (by omega) (by omega), p_sizeL]
  show Result.ok (Value.slice (if c = 0 then A else A.map (·.add 0)) _ _) _ = _
  rw [same_addr, Int.toNat_natCast, Nat.sub_zero, Nat.sub_zero]
set_option maxRecDepth 100000 in
theorem front_i (A : Option Addr) (l c k : Nat) (n : Int) (hn : n = (k : Int)) (hkc : k ≤ c) (w : World) :
    (Instr.slice 43 (.slice A l c) none (some (.int .i64 n)) none).run Tryz.prog w = .ok (.slice A k c) w := by
  subst hn
  rw [run_slice_h w 43 A l c Tryz.underlying43 .i64 k (by omega) (by omega), p_sizeI]
  show Result.ok (Value.slice (if c = 0 then A else A.map (·.add 0)) _ _) _ = _
  rw [same_addr, Int.toNat_natCast, Nat.sub_zero, Nat.sub_zero]
theorem LsV.take {w : World} {A : Option Addr} {n c : Nat} {l : List (List UInt8)} (h : LsV w (.slice A n c) l) (k : Nat) (hk : k ≤ l.length) : LsV w (.slice A k c) (l.take k) := by
  obtain ⟨A', c', hv, h1, h2⟩ := h.slice
  injection hv with e1 e2 e3
  subst e1 e3
  have hlk : (l.take k).length = k := by rw [List.length_take]; omega
  have := LsV.mk (w := w) (A := A) (c := c) (l := l.take k) (fun j => match A with
    | some ad => (w.cell? (ad.add j)).getD undef
    | none => undef) (by rw [hlk]; omega) h2 (fun e => by
      subst e
      cases hq : l with
      | nil => simp
      | cons x r =>
        obtain ⟨ad, _, _, e, _⟩ := h.at_ 0 x (by rw [hq]; rfl)
        cases e) (fun j a hj => by
    rw [List.getElem?_take] at hj
    split at hj
    · obtain ⟨ad, A2, c2, rfl, hc, _, _, hs⟩ := h.at_ j a hj
      have hlt := World.block_lt_of_cell? w _ hc
      rw [block_of_add] at hlt
      refine ⟨ad, rfl, hlt, ?_, ?_⟩
      · show _ = some ((w.cell? (ad.add j)).getD undef)
        rw [hc]; rfl
      · show Sl w ((w.cell? (ad.add j)).getD undef) a
        rw [hc]; exact hs
    · cases hj)
  rwa [hlk] at this
theorem take_getD (l : List (List UInt8)) (n j : Nat) (h : j < n) : (l.take n).getD j [] = l.getD j [] := by
  rw [List.getD_eq_getElem?_getD, List.getElem?_take, if_pos h, ← List.getD_eq_getElem?_getD]
theorem put_take (l : List (List UInt8)) (ds : List Nat) (i : Nat) (hds : ds.length = i) : putP (l.take (i + 1)) ds i = putP l ds i := by
  have hn : ∀ o, nearP (l.take (i + 1)) ds o i = nearP l ds o i := fun o => by
    have := near_take l ds o i (i + 1) (by omega)
    rwa [List.take_of_length_le (by omega : ds.length ≤ i + 1)] at this
  cases hc : nearP l ds (l.getD i []) i with
  | none => rw [put_none hc, put_none (by rw [take_getD _ _ _ (by omega), hn]; exact hc), take_getD _ _ _ (by omega)]
  | some k =>
    have hk := (near_some hc).1
    by_cases hlt : (makeD (l.getD k []) (l.getD i [])).length < (l.getD i []).length
    · rw [put_ahead hc hlt, put_ahead (k := k) (by rw [take_getD _ _ _ (by omega), hn]; exact hc) (by rw [take_getD _ _ _ (by omega), take_getD _ _ _ (by omega)]; exact hlt), take_getD _ _ _ (by omega), take_getD _ _ _ (by omega)]
    · rw [put_whole hc hlt, put_whole (k := k) (by rw [take_getD _ _ _ (by omega), hn]; exact hc) (by rw [take_getD _ _ _ (by omega), take_getD _ _ _ (by omega)]; exact hlt), take_getD _ _ _ (by omega)]
theorem writes_big (l : List (List UInt8)) (hl : ∀ o ∈ l, o.length ≤ 20000) (hll : l.length ≤ 512) : ∀ i, i ≤ l.length → (writesP l i).1.length ≤ 20 + 20100 * i
  | 0 => fun _ => by
    show (markL ++ putL l.length).length ≤ _
    have := putL_len9 (show l.length ≤ 72057594037927936 from by omega)
    rw [List.length_append]
    show 3 + _ ≤ _
    omega
  | i + 1 => fun h => by
    have ih := writes_big l hl hll i (by omega)
    have hm : (l.getD i []).length ≤ 20000 := hl _ (by rw [List.getD_eq_getElem?_getD, List.getElem?_eq_getElem (by omega)]; exact List.getElem_mem _)
    have h9 := putL_len9 (show (l.getD i []).length ≤ 72057594037927936 from by omega)
    have hp : (putP l (writesP l i).2 i).1.length ≤ 20100 := by
      cases hn : nearP l (writesP l i).2 (l.getD i []) i with
      | none => rw [put_none hn]; simp only [wholeE, List.length_cons, List.length_append]; omega
      | some k =>
        by_cases hlt : (makeD (l.getD k []) (l.getD i [])).length < (l.getD i []).length
        · rw [put_ahead hn hlt]
          have h8 := putL_len9 (show i - k ≤ 72057594037927936 from by omega)
          have h7 := putL_len9 (show (makeD (l.getD k []) (l.getD i [])).length ≤ 72057594037927936 from by omega)
          simp only [aheadE, List.length_cons, List.length_append]
          omega
        · rw [put_whole hn hlt]; simp only [wholeE, List.length_cons, List.length_append]; omega
    show ((_ : List UInt8) ++ _).length ≤ _
    rw [List.length_append]
    omega
set_option maxRecDepth 100000 in
set_option maxHeartbeats 800000 in
theorem pnum_lit (g n : Nat) (w : World) (h : Sl w (.slice (some ⟨g, 0, none⟩) 3 3) markL) (hn : n ≤ 72057594037927936) :
    Calls Tryz.prog 48 #[.slice (some ⟨g, 0, none⟩) 3 3, .int .i64 (n : Int)] w fun e w' => ∃ A m c, e = .returned (.slice A m c) ∧ Own w' w.heap.size (.slice A m c) (markL ++ putL n) ∧ Below w.heap.size w w' := by
  have H := Lib.hid h
  clear h
  go_enter Tryz.func48, Tryz.ntmps48
  go_wp2_with fail
  refine (put_any n w hn).mono ?_
  rintro e w1 ⟨u, rfl, hu, hb⟩
  obtain ⟨A, c, rfl, h1, h2, h3, h4⟩ := hu.sl
  have HI := Lib.hid h3.reads
  have HB := Lib.hid hb
  have hs := putL_len9 hn
  have hp := putL_pos n
  obtain ⟨_, _, e0, _, _, hI0, _⟩ := H.out.below hb
  injection e0 with e1 _ _
  subst e1
  have HM := Lib.hid hI0.reads
  obtain ⟨l, hl'⟩ : ∃ l, (putL n).length = l := ⟨_, rfl⟩
  have HLL := Lib.hid hl'
  rw [hl'] at HI hs hp ⊢
  obtain ⟨ad, rfl, _, hca⟩ := HI.out.2 hp
  obtain ⟨ad0, e3, _, hcm⟩ := HM.out.2 (by decide)
  injection e3 with e3
  subst e3
  obtain ⟨i0, hi, hz0, hz1, hz2⟩ := info_parts info5
  have HCA := Lib.hid hca
  have HCM := Lib.hid hcm
  have hl2 : ((putL n).map bv).length = l * 1 := by rw [List.length_map, hl', Nat.mul_one]
  have HL2 := Lib.hid hl2
  have hfull : 3 < 3 + l := by omega
  have b1 : 3 + l ≤ maxLen := by unfold maxLen; omega
  have b2 : (3 + l) * 1 ≤ 140737488355328 := by omega
  clear hu hb h1 h2 h3 h4 hs hl' hca hcm hl2 hI0
  go_wp2_with (at_builtin; refine wpList_append_grows w1 rfl (.tmp 12) (.tmp 13) 51 rfl 5 i0 (.int .u8 0) 1 1 Tryz.underlying51 hi hz0 hz1 hz2 rfl (by decide) (some ⟨g, 0, none⟩) 3 3 (markL.map bv) rfl (fun e => by cases e) rfl (fun b hb j u hu => by injection hb with hb; subst hb; exact HCM.out j u hu) ad l c ((putL n).map bv) rfl HL2.out (fun j u hu => HCA.out j u hu) (bv_one _) hfull b1 b2 ?_; intro v3 w3 ho3 hg3; have HO3 := Lib.hid ho3; have HG3 := Lib.hid hg3; clear ho3 hg3)
  have ho : Own w3 w1.heap.size v3 (markL ++ putL n) := by
    unfold Own
    rw [List.length_append, HLL.out, List.map_append]
    exact HO3.out
  obtain ⟨A3, m3, c3, hv3⟩ := own_slice ho
  subst hv3
  have HO := Lib.hid ho
  clear ho
  go_wp2_with fail
  go_ret
  exact ⟨A3, m3, c3, rfl, Own.based HO.out HB.out.size, HB.out.trans (((Below.refl w1.heap.size w1).grown HG3.out (Nat.le_refl _) (fun k hk => by cases hk)).mono HB.out.size)⟩
end Go.Proofs.YteffiedolcjjlaaGreat.Ob
