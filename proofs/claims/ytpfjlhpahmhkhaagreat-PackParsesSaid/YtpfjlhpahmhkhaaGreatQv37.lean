/- Texts put together: VPk6, VPk7. -/
import Derived.Test.YtpfjlhpahmhkhaaGreatQv36
/- Package pack's reader: getBy, getWhole, getAhead, getElsewhere, getBytes. -/
set_option linter.unusedVariables false
set_option linter.unusedSimpArgs false
namespace Go.Proofs.YtpfjlhpahmhkhaaGreat.Ob
open Go.RowKit Go.Proofs.YtpfjlhpahmhkhaaGreat.Sh
open Go.Proofs.YtpfjlhpahmhkhaaGreat.Tx (Shape InL TmpL OwnL Typed Only By Rd Datas list_appendL step_appendL)
def AskPost (base : BaseM) (id : List UInt8) (W : World) (e : Ending) (w' : World) : Prop :=
 ∃ (A : Option Addr) (n c : Nat) (t : Bool), e = .returned (.tuple #[.slice A n c, .bool t]) ∧ Below W.heap.size W w' ∧ ((base id = none ∧ t = false) ∨ ∃ x, base id = some x ∧ t = true ∧ x.length ≤ 1000000 ∧ x.length = n ∧ Own w' W.heap.size (.slice A n c) x)
structure PrIn (w0 : World) (vb fv : Value) (b : List UInt8) (base : BaseM) : Prop where
 sl : Sl w0 vb b
 small : b.length ≤ 1000000
 ask : ∀ (W : World) (id : List UInt8), Below w0.heap.size w0 W → id.length ≤ 64 → Calls Tryz.prog 348 #[fv, .string (str id)] W (AskPost base id W)
def TellPost (w0 : World) (F : Nat → Prop) (p : Nat) (vb fv vr : Value) (read : List EntM) (w : World) (r : Int × List UInt8 × Nat × Nat) (e : Ending) (w' : World) : Prop :=
 ∃ (A : Option Addr) (bs : List UInt8) (c d k' : Nat), e = .returned (.tuple #[.slice A bs.length c, .int .i64 (d : Int), .int .i64 r.1]) ∧ Moved w0 w F p vb fv k' vr read w' ∧ Own w' w.heap.size (.slice A bs.length c) bs ∧ (r.1 = 0 → bs = r.2.1 ∧ d = r.2.2.1 ∧ k' = r.2.2.2)
section
variable {w0 w : World} {F : Nat → Prop} {p : Nat} {vb fv vr : Value} {k : Nat} {read : List EntM} {b : List UInt8}
theorem TellPost.err {w' : World} {n : Nat} {r : Int × List UInt8 × Nat × Nat} (h : Moved w0 w F p vb fv n vr read w') (he : r.1 ≠ 0) : TellPost w0 F p vb fv vr read w r (.returned (.tuple #[.slice none 0 0, .int .i64 0, .int .i64 r.1])) w' :=
 ⟨none, [], 0, 0, n, rfl, h, Own.nil_ _ _, fun h0 => absurd h0 he⟩
set_option maxRecDepth 100000 in
set_option maxHeartbeats 1600000 in
theorem gby_any {x : List UInt8} {vx : Value} {G : Nat → Prop} (dp : Nat) (h : PrAt w0 w F p vb fv k vr read) (hs : Sl w0 vb b) (hb : b.length ≤ 1000000) (hk : k ≤ b.length) (hx : By G w vx x) (hG : ¬ G p) :
  Calls Tryz.prog 347 #[.pointer (some ⟨p, 0, none⟩), vx, .int .i64 (dp : Int)] w (TellPost w0 F p vb fv vr read w ((byP b x k).1, (byP b x k).2.1, dp, (byP b x k).2.2)) := by
 have H := Lib.hid h
 have HX := Lib.hid hx
 have HS := Lib.hid hs
 have hz := h.size
 rcases getR_cases b k hk with ⟨e, hg, he⟩ | ⟨n, hg, hl, hn, _⟩
 ·have hne : e ≠ 0 := by omega
  rw [by_err hg hne]
  have HG := Lib.hid (gnum_any h hs hg 0 (fun h0 => absurd h0 hne) (fun _ => rfl))
  have HNE := Lib.hid hne
  have z : (e != 0) = true := by rw [bne_iff_ne]; exact hne
  clear h hs hx hg he hne
  go_enter Tryz.func347, Tryz.ntmps347
  go_wp2_with fail
  refine HG.out.mono ?_
  rintro y w1 ⟨rfl, hm⟩
  rw [if_neg HNE.out] at hm
  have HM := Lib.hid hm
  clear hm
  go_wp2_with fail
  go_ret3
  exact TellPost.err (r := (e, [], dp, 0)) HM.out HNE.out
 ·have HG := Lib.hid (gnum_any h hs hg (k + (putL n).length) (fun _ => rfl) (fun h0 => absurd rfl h0))
  obtain ⟨q, hq⟩ : ∃ q, k + (putL n).length = q := ⟨_, rfl⟩
  rw [hq] at hg hl HG
  by_cases hqn : q + n ≤ b.length
  ·rw [by_ok hg hqn]
   obtain ⟨D, hD⟩ : ∃ D, (b.drop q).take n = D := ⟨_, rfl⟩
   rw [hD]
   have HD := Lib.hid hD
   clear hD
   have HQ := Lib.hid hqn
   have HBB := Lib.hid hb
   clear h hs hx hg hq hn hqn
   go_enter Tryz.func347, Tryz.ntmps347
   go_wp2_with fail
   refine HG.out.mono ?_
   rintro y w1 ⟨rfl, hm⟩
   simp only [if_true] at hm
   have HM := Lib.hid hm
   clear hm
   go_wp2_with fail
   refine (gpiece_any HM.out.1 HS.out n HQ.out HBB.out).mono ?_
   rintro y w2 ⟨A, c, rfl, hm2, hs2⟩
   have HM2 := Lib.hid (HM.out.then_ hm2)
   have HS2 := Lib.hid (hs2.below hm2.1.old)
   have HX2 := Lib.hid (by_sl (HX.out.only HM2.out.2 (fun j hj e => hG (e ▸ hj))))
   clear hm2 hs2
   rw [HD.out] at HS2
   go_wp2_with fail
   refine (apply_any _ _ x D w2 HX2.out HS2.out).mono ?_
   rintro y w3 ⟨v, rfl, ho, hb3⟩
   obtain ⟨A3, c3, rfl, _, _⟩ := ho.length
   have HO := Lib.hid ho
   have HM3 := Lib.hid (HM2.out.below hb3)
   have hz3 := HM2.out.2.size
   clear ho hb3
   go_wp2_with fail
   go_ret3
   exact ⟨A3, (applyD x D).1, c3, dp, q + n, rfl, HM3.out, Own.based HO.out hz3, fun _ => ⟨rfl, rfl, rfl⟩⟩
  ·rw [by_short hg (by omega)]
   have hlt : (b.length : Int) - (q : Int) < (n : Int) := by omega
   have HLT := Lib.hid hlt
   have HBB := Lib.hid hb
   have HL := Lib.hid hl
   clear h hs hx hg hq hn hqn hlt
   go_enter Tryz.func347, Tryz.ntmps347
   go_wp2_with fail
   refine HG.out.mono ?_
   rintro y w1 ⟨rfl, hm⟩
   simp only [if_true] at hm
   have HM := Lib.hid hm
   clear hm
   go_wp2_with fail
   refine (gpiece_no HM.out.1 HS.out (n : Int) HLT.out HBB.out HL.out).mono ?_
   rintro y w2 ⟨rfl, hm2⟩
   have HM2 := Lib.hid (HM.out.then_ hm2)
   clear hm2
   go_wp2_with fail
   go_ret3
   exact TellPost.err (r := (2, [], dp, 0)) HM2.out (by show (2 : Int) ≠ 0; decide)
set_option maxRecDepth 100000 in
set_option maxHeartbeats 1600000 in
theorem gwhole_any (h : PrAt w0 w F p vb fv k vr read) (hs : Sl w0 vb b) (hb : b.length ≤ 1000000) (hk : k ≤ b.length) :
  Calls Tryz.prog 301 #[.pointer (some ⟨p, 0, none⟩)] w (TellPost w0 F p vb fv vr read w (wholeP b k)) := by
 have H := Lib.hid h
 have HS := Lib.hid hs
 rcases getR_cases b k hk with ⟨e, hg, he⟩ | ⟨n, hg, hl, hn, _⟩
 ·have hne : e ≠ 0 := by omega
  rw [whole_err hg hne]
  have HG := Lib.hid (gnum_any h hs hg 0 (fun h0 => absurd h0 hne) (fun _ => rfl))
  have HNE := Lib.hid hne
  have z : (e != 0) = true := by rw [bne_iff_ne]; exact hne
  clear h hs hg he hne
  go_enter Tryz.func301, Tryz.ntmps301
  go_wp2_with fail
  refine HG.out.mono ?_
  rintro y w1 ⟨rfl, hm⟩
  rw [if_neg HNE.out] at hm
  have HM := Lib.hid hm
  clear hm
  go_wp2_with fail
  go_ret3
  exact TellPost.err (r := (e, [], 0, 0)) HM.out HNE.out
 ·have HG := Lib.hid (gnum_any h hs hg (k + (putL n).length) (fun _ => rfl) (fun h0 => absurd rfl h0))
  obtain ⟨q, hq⟩ : ∃ q, k + (putL n).length = q := ⟨_, rfl⟩
  rw [hq] at hg hl HG
  by_cases hm20 : n ≤ 20000
  ·have hm20' : (n : Int) ≤ 20000 := by omega
   by_cases hqn : q + n ≤ b.length
   ·rw [whole_ok hg hm20 hqn]
    obtain ⟨D, hD⟩ : ∃ D, (b.drop q).take n = D := ⟨_, rfl⟩
    rw [hD]
    have HD := Lib.hid hD
    clear hD
    have HQ := Lib.hid hqn
    have HBB := Lib.hid hb
    clear h hs hg hq hn hqn hm20
    go_enter Tryz.func301, Tryz.ntmps301
    go_wp2_with fail
    refine HG.out.mono ?_
    rintro y w1 ⟨rfl, hm⟩
    simp only [if_true] at hm
    have HM := Lib.hid hm
    clear hm
    go_wp2_with fail
    refine (gpiece_any HM.out.1 HS.out n HQ.out HBB.out).mono ?_
    rintro y w2 ⟨A, c, rfl, hm2, hs2⟩
    have HM2 := Lib.hid (HM.out.then_ hm2)
    have HS2 := Lib.hid (hs2.below hm2.1.old)
    clear hm2 hs2
    have hDl : D.length = n := by rw [← HD.out]; have := HQ.out; simp; omega
    rw [HD.out] at HS2
    have HDL := Lib.hid hDl
    clear hDl
    go_wp2_with fail
    refine (bclone_any _ D w2 HS2.out (by rw [HDL.out]; omega)).mono ?_
    rintro y w3 ⟨v, rfl, ho, hb3⟩
    obtain ⟨A3, c3, rfl, _, _⟩ := ho.length
    have HO := Lib.hid ho
    have HM3 := Lib.hid (HM2.out.below hb3)
    have hz3 := HM2.out.2.size
    clear ho hb3
    go_wp2_with fail
    go_ret3
    exact ⟨A3, D, c3, 0, q + n, rfl, HM3.out, Own.based HO.out hz3, fun _ => ⟨rfl, rfl, rfl⟩⟩
   ·rw [whole_short hg (by omega) (by omega)]
    have hlt : (b.length : Int) - (q : Int) < (n : Int) := by omega
    have HLT := Lib.hid hlt
    have HBB := Lib.hid hb
    have HL := Lib.hid hl
    clear h hs hg hq hn hqn hlt hm20
    go_enter Tryz.func301, Tryz.ntmps301
    go_wp2_with fail
    refine HG.out.mono ?_
    rintro y w1 ⟨rfl, hm⟩
    simp only [if_true] at hm
    have HM := Lib.hid hm
    clear hm
    go_wp2_with fail
    refine (gpiece_no HM.out.1 HS.out (n : Int) HLT.out HBB.out HL.out).mono ?_
    rintro y w2 ⟨rfl, hm2⟩
    have HM2 := Lib.hid (HM.out.then_ hm2)
    clear hm2
    go_wp2_with fail
    refine (bclone_any _ [] w2 (Own.nil_ w2 0).sl (by simp)).mono ?_
    rintro y w3 ⟨v, rfl, ho, hb3⟩
    obtain ⟨A3, c3, rfl, _, _⟩ := ho.length
    have HO := Lib.hid ho
    have HM3 := Lib.hid (HM2.out.below hb3)
    have hz3 := HM2.out.2.size
    clear ho hb3
    go_wp2_with fail
    go_ret3
    exact ⟨A3, [], c3, 0, q, rfl, HM3.out, Own.based HO.out hz3, fun h0 => absurd h0 (by decide)⟩
  ·have hm20' : (20000 : Int) < (n : Int) := by omega
   rw [whole_long hg hm20']
   clear h hs hg hq hn hm20
   go_enter Tryz.func301, Tryz.ntmps301
   go_wp2_with fail
   refine HG.out.mono ?_
   rintro y w1 ⟨rfl, hm⟩
   simp only [if_true] at hm
   have HM := Lib.hid hm
   clear hm
   go_wp2_with fail
   go_ret3
   exact TellPost.err (r := (3, [], 0, 0)) HM.out (by decide)
end
end Go.Proofs.YtpfjlhpahmhkhaaGreat.Ob
/- Package pack's reader: getAhead, getElsewhere, getBytes. -/
set_option linter.unusedVariables false
set_option linter.unusedSimpArgs false
namespace Go.Proofs.YtpfjlhpahmhkhaaGreat.Ob
open Go.RowKit Go.Proofs.YtpfjlhpahmhkhaaGreat.Sh
open Go.Proofs.YtpfjlhpahmhkhaaGreat.Tx (Shape InL TmpL OwnL Typed Only By Rd Datas list_appendL step_appendL)
section
variable {w0 w : World} {F : Nat → Prop} {p : Nat} {vb fv vr : Value} {k : Nat} {read : List EntM} {b : List UInt8}
theorem TellPost.after {w1 w' : World} {k1 : Nat} {r : Int × List UInt8 × Nat × Nat} {e : Ending} (hm : Moved w0 w F p vb fv k1 vr read w1) (h : TellPost w0 F p vb fv vr read w1 r e w') : TellPost w0 F p vb fv vr read w r e w' := by
 obtain ⟨A, bs, c, d, k', he, h1, h2, h3⟩ := h
 exact ⟨A, bs, c, d, k', he, hm.then_ h1, Own.based h2 hm.2.size, h3⟩
theorem TellPost.after_below {w1 w' : World} {r : Int × List UInt8 × Nat × Nat} {e : Ending} (hb : Below w.heap.size w w1) (h : TellPost w0 F p vb fv vr read w1 r e w') : TellPost w0 F p vb fv vr read w r e w' := by
 obtain ⟨A, bs, c, d, k', he, h1, h2, h3⟩ := h
 exact ⟨A, bs, c, d, k', he, ⟨h1.1, (Only.of_below (M := fun j => j = p) hb).trans h1.2 (fun _ h => .inl h)⟩, Own.based h2 hb.size, h3⟩
set_option maxRecDepth 100000 in
set_option maxHeartbeats 3200000 in
theorem gahead_any (h : PrAt w0 w F p vb fv k vr read) (hs : Sl w0 vb b) (hb : b.length ≤ 1000000) (hk : k ≤ b.length) (hrd : read.length ≤ 1000000) :
  Calls Tryz.prog 302 #[.pointer (some ⟨p, 0, none⟩)] w (TellPost w0 F p vb fv vr read w (aheadP b read k)) := by
 have HS := Lib.hid hs
 have HBB := Lib.hid hb
 obtain ⟨R, rc, hvr, hrl, hrm⟩ := h.slice
 unfold maxLen at hrm
 subst hvr
 rcases getR_cases b k hk with ⟨e, hg, he⟩ | ⟨n, hg, hl, hn, _⟩
 ·have hne : e ≠ 0 := by omega
  rw [ahead_err hg hne]
  have HG := Lib.hid (gnum_any h hs hg 0 (fun h0 => absurd h0 hne) (fun _ => rfl))
  have HNE := Lib.hid hne
  have z : (e != 0) = true := by rw [bne_iff_ne]; exact hne
  clear h hs hg he hne
  go_enter Tryz.func302, Tryz.ntmps302
  go_wp2_with fail
  refine HG.out.mono ?_
  rintro y w1 ⟨rfl, hm⟩
  rw [if_neg HNE.out] at hm
  have HM := Lib.hid hm
  clear hm
  go_wp2_with fail
  go_ret3
  exact TellPost.err (r := (e, [], 0, 0)) HM.out HNE.out
 ·have HG := Lib.hid (gnum_any h hs hg (k + (putL n).length) (fun _ => rfl) (fun h0 => absurd rfl h0))
  obtain ⟨q, hq⟩ : ∃ q, k + (putL n).length = q := ⟨_, rfl⟩
  rw [hq] at hg hl HG
  have HL := Lib.hid hl
  obtain ⟨nr, hnr⟩ : ∃ n, read.length = n := ⟨_, rfl⟩
  by_cases hz : n = 0
  ·have z1 : ((n : Int) == 0) = true := by rw [beq_iff_eq]; omega
   rw [ahead_none hg (.inl (by omega))]
   clear h hs hg hq hn hl hz hnr
   go_enter Tryz.func302, Tryz.ntmps302
   go_wp2_with fail
   refine HG.out.mono ?_
   rintro y w1 ⟨rfl, hm⟩
   simp only [if_true] at hm
   have HM := Lib.hid hm
   clear hm
   go_wp2_with fail
   go_ret3
   exact TellPost.err (r := (7, [], 0, 0)) HM.out (by decide)
  ·have z1 : ((n : Int) == 0) = false := by rw [beq_eq_false_iff_ne]; omega
   by_cases hgt : nr < n
   ·have z2 : (nr : Int) < (n : Int) := by omega
    rw [ahead_none hg (.inr (by omega))]
    rw [hnr] at h HG ⊢
    clear h hs hg hq hn hl hz hgt
    go_enter Tryz.func302, Tryz.ntmps302
    go_wp2_with fail
    refine HG.out.mono ?_
    rintro y w1 ⟨rfl, hm⟩
    simp only [if_true] at hm
    have HM := Lib.hid hm
    have y3 := hm.1.r_
    clear hm
    go_wp2_with fail
    go_ret3
    exact TellPost.err (r := (7, [], 0, 0)) HM.out (by decide)
   ·have z2 : (n : Int) ≤ (nr : Int) := by omega
    obtain ⟨i, hi⟩ : ∃ i, nr - n = i := ⟨_, rfl⟩
    have zi : (nr : Int) - (n : Int) = (i : Int) := by omega
    have z3 : (0 : Int) ≤ (i : Int) := by omega
    have z4 : (i : Int) < (nr : Int) := by omega
    have hx : read[read.length - n]? = some (read[read.length - n]'(by omega)) := List.getElem?_eq_getElem _
    obtain ⟨x, hxe⟩ : ∃ x, (read[read.length - n]'(by omega)) = x := ⟨_, rfl⟩
    rw [hxe] at hx
    have hxi : read[i]? = some x := by rw [← hx, hnr, hi]
    have HXI := Lib.hid hxi
    by_cases hd : x.depth < 8
    ·rw [ahead_by hg (by omega) (by omega) hx hd]
     have z5 : (x.depth : Int) < 8 := by omega
     obtain ⟨xd, hxd⟩ : ∃ d, x.depth = d := ⟨_, rfl⟩
     have HXD := Lib.hid hxd
     rw [hxd] at z5 ⊢
     rw [hnr] at h HG hrd ⊢
     clear h hs hg hq hn hl hz hgt hx hxe hxi hd hxd
     go_enter Tryz.func302, Tryz.ntmps302
     go_wp2_with fail
     refine HG.out.mono ?_
     rintro y w1 ⟨rfl, hm⟩
     simp only [if_true] at hm
     have HM := Lib.hid hm
     have y3 := hm.1.r_
     obtain ⟨ad, A2, c2, rfl, x0, x1, x2, hc2, hm2, hby⟩ := hm.1.ent i x HXI.out
     rw [HXD.out] at x2
     have HBY := Lib.hid hby
     obtain ⟨xl, hxl⟩ : ∃ l, x.data.length = l := ⟨_, rfl⟩
     obtain ⟨xp, hxp⟩ : ∃ l, x.place = l := ⟨_, rfl⟩
     rw [hxl] at x0 HBY
     rw [hxp] at x1
     clear hm hc2 hm2 hby hxl hxp
     have hba := (Below.refl w1.heap.size w1).alloc (Nat.le_refl _) (.cells #[.slice none 0 0, .int .i64 0, .int .i64 0] 176)
     have y3a := (hba.cell (World.block_lt_of_cell? w1 _ y3)).trans y3
     have x0a := (hba.cell (World.block_lt_of_cell? w1 _ x0)).trans x0
     have x1a := (hba.cell (World.block_lt_of_cell? w1 _ x1)).trans x1
     have x2a := (hba.cell (World.block_lt_of_cell? w1 _ x2)).trans x2
     have HB : Hid (∀ o, Below w1.heap.size w1 ((w1.alloc o).drew)) := fun o => ((Below.refl _ _).alloc (Nat.le_refl _) o).drew
     clear hba
     go_upto_region 6 with (fail)
     go_region
     all_goals
      go_wp2_with fail
      refine (gby_any (vx := .slice A2 xl c2) (x := x.data) (xd + 1) (HM.out.1.below (HB.out _)) HS.out HBB.out HL.out (HBY.out.only (Only.of_below (M := fun _ => False) (HB.out _)) (fun _ _ => id)) HM.out.1.fp).mono ?_
      rintro y w2 ht
      have ht2 := (ht.after_below (HB.out _)).after HM.out
      obtain ⟨A4, bs4, c4, d4, k4, rfl, hrest⟩ := ht2
      have HR := Lib.hid hrest
      clear ht hrest
      go_wp2_with fail
      go_ret3
      exact ⟨A4, bs4, c4, d4, k4, rfl, HR.out⟩
    ·rw [ahead_deep (x := x) hg (by omega) (by omega) hx (by omega)]
     have z5 : (8 : Int) ≤ (x.depth : Int) := by omega
     obtain ⟨xd, hxd⟩ : ∃ d, x.depth = d := ⟨_, rfl⟩
     have HXD := Lib.hid hxd
     rw [hxd] at z5
     rw [hnr] at h HG hrd ⊢
     clear h hs hg hq hn hl hz hgt hx hxe hxi hd hxd
     go_enter Tryz.func302, Tryz.ntmps302
     go_wp2_with fail
     refine HG.out.mono ?_
     rintro y w1 ⟨rfl, hm⟩
     simp only [if_true] at hm
     have HM := Lib.hid hm
     have y3 := hm.1.r_
     obtain ⟨ad, A2, c2, rfl, x0, x1, x2, hc2, hm2, hby⟩ := hm.1.ent i x HXI.out
     rw [HXD.out] at x2
     obtain ⟨xl, hxl⟩ : ∃ l, x.data.length = l := ⟨_, rfl⟩
     obtain ⟨xp, hxp⟩ : ∃ l, x.place = l := ⟨_, rfl⟩
     rw [hxl] at x0
     rw [hxp] at x1
     clear hm hc2 hm2 hby hxl hxp
     have hba := (Below.refl w1.heap.size w1).alloc (Nat.le_refl _) (.cells #[.slice none 0 0, .int .i64 0, .int .i64 0] 176)
     have y3a := (hba.cell (World.block_lt_of_cell? w1 _ y3)).trans y3
     have x0a := (hba.cell (World.block_lt_of_cell? w1 _ x0)).trans x0
     have x1a := (hba.cell (World.block_lt_of_cell? w1 _ x1)).trans x1
     have x2a := (hba.cell (World.block_lt_of_cell? w1 _ x2)).trans x2
     have HB : Hid (∀ o, Below w1.heap.size w1 ((w1.alloc o).drew)) := fun o => ((Below.refl _ _).alloc (Nat.le_refl _) o).drew
     clear hba
     go_upto_region 6 with (fail)
     go_region
     all_goals
      go_wp2_with fail
      go_ret3
      exact TellPost.err (r := (14, [], 0, 0)) (HM.out.below (HB.out _)) (by decide)
end
end Go.Proofs.YtpfjlhpahmhkhaaGreat.Ob
