/- Texts put together: VPa5. -/
import Derived.Test.YtpfjlhpahmhkhaaGreatQv51
/- marlaw10.PackParses: the walk. -/
set_option linter.unusedVariables false
set_option linter.unusedSimpArgs false
namespace Go.Proofs.YtpfjlhpahmhkhaaGreat.Ob
open Go.RowKit Go.Proofs.YtpfjlhpahmhkhaaGreat.Sh
open Go.Proofs.YtpfjlhpahmhkhaaGreat.Tx (Only Rd Shape TmpL OwnL By Typed Datas)
set_option maxRecDepth 100000 in
set_option maxHeartbeats 12800000 in
theorem pparses_any (vb : Value) (bs : List UInt8) (vl : Value) (l : List (List UInt8)) (lie : Bool) (w : World) (hb : Sl w vb bs) (hl : LsV w vl l) : Calls Tryz.prog 4 #[vb, vl, .bool lie] w (YesP w) := by
 obtain ⟨A, c, rfl, hlc, hcm, _⟩ := hb.len
 obtain ⟨AL, cL, rfl, hlL, hmL⟩ := hl.slice
 unfold maxLen at hcm hmL
 obtain ⟨R, hR⟩ : ∃ R, readP bs (srcP l lie) = R := ⟨_, rfl⟩
 have hrk := read_ok bs (srcP l lie)
 have HP1 : Hid (∀ (W : World) (v fv : Value), PrIn W v fv bs (srcP l lie) → (∃ fn f1 f2, fv = .func fn f1 f2) → Calls Tryz.prog 22 #[v, fv] W (RP1 (dataP R) (R.2.length : Int) R.1 W)) := fun W v fv h hfv => by
  have := parse_any h hfv (by have := hrk.1; omega)
  rw [hR] at this
  exact this
 have HX1 : Hid (∀ (W : World) (v fv : Value), PrIn W v fv bs (srcP l lie) → (∃ fn f1 f2, fv = .func fn f1 f2) → Calls Tryz.prog 26 #[v, fv] W (RP2 (rowsP R) R.1 W)) := fun W v fv h hfv => by
  have := index_any h hfv (by have := hrk.1; omega) (fun e he => by have := hrk.2 e he; omega)
  rw [hR] at this
  exact this
 have htl : (tIds l lie).length = l.length := by unfold tIds; rw [List.length_map, List.length_range]
 have HP2 : Hid (∀ (W : World) (v vI vO : Value), Sl W v bs → bs.length ≤ 1000000 → Tx.SlV W vI (((tIds l lie).map str).map Tx.sv) → LsV W vO l → l.length ≤ 1000000 → (∀ x ∈ l, x.length ≤ 1000000) → Calls Tryz.prog 24 #[v, .agg #[vI, vO, .pointer none]] W (RP1 (dataP R) (R.2.length : Int) R.1 W)) := fun W v vI vO h1 h2 h3 h4 h5 h6 => by
  have := rparse1_any W h1 h2 h3 h4 htl (by omega) h6
  rw [show srcK (tIds l lie) l = srcP l lie from rfl, hR] at this
  exact this
 have HX2 : Hid (∀ (W : World) (v vI vO : Value), Sl W v bs → bs.length ≤ 1000000 → Tx.SlV W vI (((tIds l lie).map str).map Tx.sv) → LsV W vO l → l.length ≤ 1000000 → (∀ x ∈ l, x.length ≤ 1000000) → Calls Tryz.prog 27 #[v, .agg #[vI, vO, .pointer none]] W (RP2 (rowsP R) R.1 W)) := fun W v vI vO h1 h2 h3 h4 h5 h6 => by
  have := rindex_any W h1 h2 h3 h4 htl (by omega) h6
  rw [show srcK (tIds l lie) l = srcP l lie from rfl, hR] at this
  exact this
 obtain ⟨rn, hrn⟩ : ∃ x, (R.2.length : Int) = x := ⟨_, rfl⟩
 obtain ⟨k1, hk1⟩ : ∃ x, R.1 = x := ⟨_, rfl⟩
 obtain ⟨dl, hdl⟩ : ∃ x, dataP R = x := ⟨_, rfl⟩
 obtain ⟨rl, hrl⟩ : ∃ x, rowsP R = x := ⟨_, rfl⟩
 rw [hrn, hk1, hdl] at HP1 HP2
 rw [hk1, hrl] at HX1 HX2
 have HRL : Hid (rl.length ≤ 512) := by
  unfold Hid
  rw [← hrl]
  unfold rowsP
  rw [← hR]
  split
  ·exact hrk.1
  ·simp
 have HSB : Hid (∀ W, Below w.heap.size w W → Sl W (.slice A bs.length c) bs) := fun W hW => hb.below hW
 have HLV : Hid (∀ W, Below w.heap.size w W → LsV W (.slice AL l.length cL) l) := fun W hW => hl.below hW
 obtain ⟨bl, hbl⟩ : ∃ x, bs.length = x := ⟨_, rfl⟩
 obtain ⟨n, hn⟩ : ∃ x, l.length = x := ⟨_, rfl⟩
 rw [hbl] at HSB hlc ⊢
 rw [hn] at HLV hlL ⊢
 have HBL := Lib.hid hbl
 have HN := Lib.hid hn
 clear hb hl hR hrk htl hrn hk1 hdl hrl hbl hn
 go_enter Tryz.func4, Tryz.ntmps4
 go_wp2_with fail
 refine (first_any w).mono ?_
 rintro e w1 ⟨rfl, hb1⟩
 have HB1 := Lib.hid hb1
 clear hb1
 by_cases h6 : bl ≤ 6000
 ·have z6 : (bl : Int) ≤ 6000 := by omega
  go_wp2_with fail
  refine (pfew_any _ l w1 (HLV.out w1 HB1.out)).mono ?_
  rintro e w2 ⟨t, rfl, ht, hb2⟩
  have HB2 := Lib.hid (HB1.out.trans (hb2.mono HB1.out.size))
  have HT := Lib.hid ht
  clear ht hb2
  cases t with
  | false =>
   go_wp2_with fail
   refine (first_then HB2.out HB2.out.size).mono ?_
   rintro e w3 ⟨rfl, hb3⟩
   have HB3 := Lib.hid hb3
   clear hb3
   go_wp2_with fail
   go_ret
   exact ⟨rfl, HB3.out⟩
  | true =>
   obtain ⟨hl40, hl15⟩ := HT.out rfl
   have HS1 : Hid (bs.length ≤ 1000000) := by unfold Hid; rw [HBL.out]; omega
   have HS2 : Hid (l.length ≤ 1000000) := by unfold Hid; omega
   have HS3 : Hid (∀ x ∈ l, x.length ≤ 1000000) := fun x hx => by have := hl15 x hx; omega
   clear hl40 hl15
   go_wp2_with fail
   refine (copyb_any _ bs w2 (HSB.out w2 HB2.out) (by have := HS1.out; omega)).mono ?_
   rintro e w3 ⟨v3, rfl, ho3, hb3⟩
   obtain ⟨A3, c3, rfl, _, _⟩ := ho3.length
   have HB3 := Lib.hid (HB2.out.trans (hb3.mono HB2.out.size))
   rw [HBL.out] at ho3 ⊢
   have HI3 : Hid (∀ W, Below w3.heap.size w3 W → Sl W (.slice A3 bl c3) bs) := fun W hW => (by have h9 := ho3.sl; exact h9.below hW)
   clear ho3 hb3
   go_wp2_with fail
   refine (source_any _ l lie w3 (HLV.out w3 HB3.out) HS2.out HS3.out).mono ?_
   rintro e w4 ⟨p1, p2, p3, rfl, hx4, hb4⟩
   have HB4 := Lib.hid (HB3.out.trans (hb4.mono HB3.out.size))
   have HF4 := Lib.hid hb4
   have HC4 := Lib.hid (HP1.out w4 _ _ (in_src (HI3.out w4 HF4.out) HS1.out hx4 HS2.out HS3.out) ⟨_, _, _, rfl⟩)
   clear hx4 hb4
   go_wp2_with fail
   refine HC4.out.mono ?_
   rintro e w5 ⟨A5, c5, rfl, hb5, hls5⟩
   have HB5 := Lib.hid (HB4.out.trans (hb5.mono HB4.out.size))
   have HF5 := Lib.hid (HF4.out.trans (hb5.mono HF4.out.size))
   have HL5 : Hid (∀ W, Below w5.heap.size w5 W → LsV W (.slice A5 dl.length c5) dl) := fun W hW => hls5.below hW
   clear hb5 hls5
   go_wp2_with fail
   refine (told_any _ l lie w5 (HLV.out w5 HB5.out) HS2.out HS3.out).mono ?_
   rintro e w6 ⟨vI, vO, rfl, hI6, hO6, hb6⟩
   have HB6 := Lib.hid (HB5.out.trans (hb6.mono HB5.out.size))
   have HF6 := Lib.hid (HF5.out.trans (hb6.mono HF5.out.size))
   have HG6 := Lib.hid hb6
   have HC6 := Lib.hid (HP2.out w6 _ _ _ (HSB.out w6 HB6.out) HS1.out hI6 hO6 HS2.out HS3.out)
   clear hI6 hO6 hb6
   go_wp2_with fail
   refine HC6.out.mono ?_
   rintro e w7 ⟨A7, c7, rfl, hb7, hls7⟩
   have HB7 := Lib.hid (HB6.out.trans (hb7.mono HB6.out.size))
   have HF7 := Lib.hid (HF6.out.trans (hb7.mono HF6.out.size))
   have HG7 := Lib.hid (HG6.out.trans (hb7.mono HG6.out.size))
   have HL7 : Hid (∀ W, Below w7.heap.size w7 W → LsV W (.slice A7 dl.length c7) dl) := fun W hW => hls7.below hW
   clear hb7 hls7
   go_wp2_with fail
   refine (source_any _ l lie w7 (HLV.out w7 HB7.out) HS2.out HS3.out).mono ?_
   rintro e w8 ⟨p4, p5, p6, rfl, hx8, hb8⟩
   have HB8 := Lib.hid (HB7.out.trans (hb8.mono HB7.out.size))
   have HF8 := Lib.hid (HF7.out.trans (hb8.mono HF7.out.size))
   have HG8 := Lib.hid (HG7.out.trans (hb8.mono HG7.out.size))
   have HH8 := Lib.hid hb8
   have HC8 := Lib.hid (HX1.out w8 _ _ (in_src (HI3.out w8 HF8.out) HS1.out hx8 HS2.out HS3.out) ⟨_, _, _, rfl⟩)
   clear hx8 hb8
   go_wp2_with fail
   refine HC8.out.mono ?_
   rintro e w9 ⟨A9, c9, rfl, hb9, hrw9⟩
   have HB9 := Lib.hid (HB8.out.trans (hb9.mono HB8.out.size))
   have HF9 := Lib.hid (HF8.out.trans (hb9.mono HF8.out.size))
   have HG9 := Lib.hid (HG8.out.trans (hb9.mono HG8.out.size))
   have HH9 := Lib.hid (HH8.out.trans (hb9.mono HH8.out.size))
   have HR9 : Hid (∀ W, Below w9.heap.size w9 W → RwV W (.slice A9 rl.length c9) rl) := fun W hW => hrw9.below hW
   clear hb9 hrw9
   go_wp2_with fail
   refine (told_any _ l lie w9 (HLV.out w9 HB9.out) HS2.out HS3.out).mono ?_
   rintro e wb ⟨vI2, vO2, rfl, hIb, hOb, hbb⟩
   have HBb := Lib.hid (HB9.out.trans (hbb.mono HB9.out.size))
   have HFb := Lib.hid (HF9.out.trans (hbb.mono HF9.out.size))
   have HGb := Lib.hid (HG9.out.trans (hbb.mono HG9.out.size))
   have HHb := Lib.hid (HH9.out.trans (hbb.mono HH9.out.size))
   have HJb := Lib.hid hbb
   have HCb := Lib.hid (HX2.out wb _ _ _ (HSB.out wb HBb.out) HS1.out hIb hOb HS2.out HS3.out)
   clear hIb hOb hbb
   go_wp2_with fail
   refine HCb.out.mono ?_
   rintro e wc ⟨Ac, cc, rfl, hbc, hrwc⟩
   have HBc := Lib.hid (HBb.out.trans (hbc.mono HBb.out.size))
   have HFc := Lib.hid (HFb.out.trans (hbc.mono HFb.out.size))
   have HGc := Lib.hid (HGb.out.trans (hbc.mono HGb.out.size))
   have HHc := Lib.hid (HHb.out.trans (hbc.mono HHb.out.size))
   have HJc := Lib.hid (HJb.out.trans (hbc.mono HJb.out.size))
   have HRc := Lib.hid hrwc
   clear hbc hrwc
   go_wp2_with fail
   refine (lists_any _ _ dl wc (HL5.out wc HGc.out) (HL7.out wc HHc.out)).mono ?_
   rintro e wd ⟨rfl, hbd⟩
   have HBd := Lib.hid (HBc.out.trans (hbd.mono HBc.out.size))
   have HFd := Lib.hid (HFc.out.trans (hbd.mono HFc.out.size))
   have HR1 := Lib.hid (HR9.out wd (HJc.out.trans (hbd.mono HJc.out.size)))
   have HR2 := Lib.hid (HRc.out.below hbd)
   have zr : (rn != rn) = false := by rw [bne_self_eq_false]
   have zk : (k1 != k1) = false := by rw [bne_self_eq_false]
   clear hbd
   obtain ⟨r, hr⟩ : ∃ x, rl.length = x := ⟨_, rfl⟩
   rw [hr] at HR1 HR2 HRL ⊢
   have HRN := Lib.hid hr
   clear hr
   go_wp2_with fail
   refine (rbytes_any _ _ bs bs wd (HI3.out wd HFd.out) (HSB.out wd HBd.out)).mono ?_
   rw [beq_self_eq_true]
   rintro e w' ⟨rfl, rfl⟩
   have hr512 : r ≤ 512 := HRL.out
   obtain ⟨wz, hwz⟩ : ∃ W, W = wd := ⟨_, rfl⟩
   subst hwz
   go_wp2_with fail
   go_loopw [18] (fun x wr => ∃ i : Nat, i ≤ r ∧ x = .int .i64 (i : Int) ∧ Below wz.heap.size wz wr) (fun x _ => r - (intOf x).toNat)
   case atStart => exact ⟨0, Nat.zero_le _, rfl, Below.refl _ _⟩
   case round =>
    obtain ⟨i, hi, rfl, hbr⟩ := hrel
    have HBR := Lib.hid hbr
    clear hbr
    have z0 : (0 : Int) ≤ (i : Int) := by omega
    by_cases hlt : i < r
    ·have z1 : (i : Int) < (r : Int) := by omega
     obtain ⟨a, hga⟩ : ∃ a, rl[i]? = some a := ⟨_, List.getElem?_eq_getElem (by have := HRN.out; omega)⟩
     obtain ⟨ad1, rfl, x0, x1, x2⟩ := (HR1.out.below HBR.out).at_ i a hga
     obtain ⟨ad2, rfl, y0, y1, y2⟩ := (HR2.out.below HBR.out).at_ i a hga
     obtain ⟨s, hs⟩ : ∃ s, str (idB a.data) = s := ⟨_, rfl⟩
     obtain ⟨p, hp⟩ : ∃ s, (a.place : Int) = s := ⟨_, rfl⟩
     obtain ⟨d, hd⟩ : ∃ s, (a.depth : Int) = s := ⟨_, rfl⟩
     rw [hs] at x0 y0
     rw [hp] at x1 y1
     rw [hd] at x2 y2
     have g1 : (s.toList == s.toList) = true := beq_self_eq_true _
     have g2 : (s.toList != s.toList) = false := bne_self_eq_false _
     have g4 : (p != p) = false := bne_self_eq_false _
     have g5 : (d != d) = false := bne_self_eq_false _
     clear hs hp hd hga
     go_wp2_with fail
     go_quiet (fail)
     go_wp2_with fail
     go_roundw
     case rel => exact ⟨i + 1, by omega, by go_num, below_drewN HBR.out _⟩
     case measure => simp [intOf]; omega
    ·obtain rfl : i = r := by omega
     have HBE := Lib.hid (HBd.out.trans (HBR.out.mono HBd.out.size))
     go_wp2_with fail
     refine (first_then HBE.out HBE.out.size).mono ?_
     rintro e w7 ⟨rfl, hb7⟩
     have HB7 := Lib.hid hb7
     clear hb7
     go_wp2_with fail
     go_ret
     exact ⟨rfl, HB7.out⟩
 ·have z6 : (6000 : Int) < (bl : Int) := by omega
  go_wp2_with fail
  refine (first_then HB1.out HB1.out.size).mono ?_
  rintro e w3 ⟨rfl, hb3⟩
  have HB3 := Lib.hid hb3
  clear hb3
  go_wp2_with fail
  go_ret
  exact ⟨rfl, HB3.out⟩
end Go.Proofs.YtpfjlhpahmhkhaaGreat.Ob
