/- Texts put together: USc1, USr5, USr6, UGw0, UGw1, UGw2. -/
import Derived.Test.YtbenkmihkbjgeaaGreatQu24
import Derived.Test.YtbenkmihkbjgeaaGreatQu26
import Derived.Test.YtbenkmihkbjgeaaGreatProg
import Derived.WalkKit
import Derived.Shelf.SlSortCmp.KitK
/- Package store on a file system behind many calls: read, put, Put (mk_sc1.py wrote it out of Sr2, Sr3, Sr4). -/
set_option linter.unusedVariables false
set_option linter.unusedSimpArgs false
namespace Go.Proofs.YtbenkmihkbjgeaaGreat.Tx
open Go.RowKit Go.Maps Go.Proofs.YtbenkmihkbjgeaaGreat.Sh
section
variable {w w1 w2 : World} {b g i : Nat} {c c' : CSt} {Z Z' : Nat → Prop}
theorem rdq_any (p : List UInt8) (h : MineP w w1 b c Z) (hg : GoS c i) (hi : i ≤ 400000) (hp : p.length ≤ 900000) :
    Calls Tryz.prog 59 #[.pointer (some ⟨b, 0, none⟩), .string (Tx.str p)] w1 fun e w' => ∃ A dc mo ti, e = .returned (.tuple #[.agg #[.int .i64 mo, .slice A (redF c p).data.length dc, .int .i64 ti], .int .i64 (redE c p)]) ∧ By (fun k => ¬ Z k) w' (.slice A (redF c p).data.length dc) (redF c p).data ∧ MineP w w' b (bgC c).c Z ∧ Keeps w Z w1 w' := by
  obtain ⟨F, M, h1, h2, h3, h4⟩ := h
  refine (read_any F M b c _ p w1 h1 (hg.ready (by omega)) (by omega)).mono ?_
  rintro e w' ⟨u, v, M', rfl, rfl, hat, hon, hsub, hby⟩
  obtain ⟨A, dc, rfl, _, _⟩ := hby.slice
  have hP : FcPost F M w1 b (bgC c).c w' := ⟨M', hat, hon, hsub⟩
  have hm := MineP.of' h2 h3 h4 hP
  exact ⟨A, dc, _, _, rfl, hby.mono (fun k _ hk hz => (by
    obtain ⟨z1, z2, z3⟩ := h4 k hz
    rcases hk with hk | hk
    · exact z1 hk
    · have := hk.1; omega)), hm.1, hm.2⟩
theorem wrq_any (p : List UInt8) (mode : Int) (dv : Value) (d : List UInt8) (G : Nat → Prop) (h : MineP w w1 b c Z) (hg : GoS c i) (hi : i ≤ 400000) (hp : p.length ≤ 900000) (hd : By G w1 dv d) (hG : ∀ k, G k → k < w.heap.size ∨ Z k) :
    Calls Tryz.prog 49 #[.pointer (some ⟨b, 0, none⟩), .string (Tx.str p), .int .i64 mode, dv] w1 fun e w' => e = .returned (.int .i64 (crtE c p mode d false)) ∧ MineP w w' b (crtC c p mode d false) Z ∧ Keeps w Z w1 w' := by
  obtain ⟨F, M, h1, h2, h3, h4⟩ := h
  refine (writef_any F M b c _ p mode dv d G w1 h1 (hg.ready (by omega)) hd (fun k hk hm => ?_) (by omega)).mono fun e w' h => ⟨h.1, MineP.of' h2 h3 h4 h.2⟩
  rcases hG k hk with h5 | h5
  · have := h2 k hm; omega
  · exact (h4 k h5).2.1 hm
theorem mvq_any (p q : List UInt8) (h : MineP w w1 b c Z) (hg : GoS c i) (hi : i ≤ 400000) (hp : p.length ≤ 900000) (hq : q.length ≤ 900000) :
    Calls Tryz.prog 51 #[.pointer (some ⟨b, 0, none⟩), .string (Tx.str p), .string (Tx.str q)] w1 fun e w' => e = .returned (.int .i64 (movE c p q false)) ∧ MineP w w' b (movC c p q false) Z ∧ Keeps w Z w1 w' := by
  obtain ⟨F, M, h1, h2, h3, h4⟩ := h
  exact (movef_any F M b c _ p q w1 h1 (hg.ready (by omega)) (by omega) (by omega)).mono fun e w' h => ⟨h.1, MineP.of' h2 h3 h4 h.2⟩
end

set_option maxRecDepth 100000 in
set_option maxHeartbeats 3200000 in
theorem sreadq_any {w w1 : World} {b i s : Nat} {c : CSt} {Z : Nat → Prop} (n : List UInt8) (h : StAt w w1 b c s Z) (hg : GoS c i) (hi : i ≤ 400000) (hn : n.length ≤ 800000) :
    Calls Tryz.prog 181 #[.pointer (some ⟨s, 0, none⟩), .string (Tx.str n)] w1 fun e w' => ∃ v, e = .returned (.tuple #[v, .int .i64 (redE c (objP n))]) ∧ SlV w' v ((redF c (objP n)).data.map bv) ∧ StAt w w' b (bgC c).c s Z ∧ Keeps w Z w1 w' := by
  have HG := Lib.hid hg
  have hpl : (objP n).length ≤ 900000 := by rw [objP_len]; omega
  obtain ⟨h1, h2, r, h3⟩ := h
  have c1 : w1.cell? ⟨s, 1, none⟩ = some (.int .i64 r) := h3.cell 1
  have f1 : w1.frozen? ⟨s, 1, none⟩ = false := h3.frozen 1
  have H1 : Hid (StAt w w1 b c s Z) := ⟨h1, h2, r, h3⟩
  have hsl := h3.lt
  clear h1 h2 h3 hg
  go_enter Tryz.func181, Tryz.ntmps181
  go_wp2_with fail
  refine (add64 ⟨s, 1, none⟩ r 1 w1 c1 f1).mono ?_
  rintro e w' ⟨rfl, rfl⟩
  obtain ⟨H2a, hk2⟩ := H1.out.tick (IntKind.i64.wrap (r + 1))
  have H2 := Lib.hid H2a
  have HK2 := Lib.hid hk2
  clear c1 f1 H2a hk2
  generalize w1.setCell ⟨s, 1, none⟩ (.int .i64 (IntKind.i64.wrap (r + 1))) = w2 at *
  obtain ⟨g1, g2, r2, g3⟩ := H2.out
  have c0 : w2.cell? ⟨s, 0, none⟩ = some (.pointer (some ⟨b, 0, none⟩)) := g3.cell 0
  clear g1 g2 g3
  have c0d : w2.drew.cell? ⟨s, 0, none⟩ = some (.pointer (some ⟨b, 0, none⟩)) := c0
  have c0n := World.new_ne w2 _ c0
  have HSd := Lib.hid (H2.out.below ((Below.refl w2.heap.size w2).drew))
  have HKd := Lib.hid (HK2.out.below ((Below.refl w2.heap.size w2).drew))
  have hba : Below w2.heap.size w2 (w2.alloc (.cells #[.int .i64 0, .slice none 0 0, .int .i64 0] 129)).drew := ((Below.refl w2.heap.size w2).alloc (Nat.le_refl _) _).drew
  have HSa := Lib.hid ((H2.out.add (.cells #[.int .i64 0, .slice none 0 0, .int .i64 0] 129)).below ((Below.refl _ _).drew))
  have HKa := Lib.hid (HK2.out.below hba)
  have HBa : Hid (Blk (w2.alloc (.cells #[.int .i64 0, .slice none 0 0, .int .i64 0] 129)).drew w2.heap.size 129 #[.int .i64 0, .slice none 0 0, .int .i64 0]) := (Blk.new w2 _ _).drew
  clear hba
  obtain ⟨dl, hdl⟩ : ∃ x, (redF c (objP n)).data.length = x := ⟨_, rfl⟩
  have HDL := Lib.hid hdl
  have HR := Lib.hid (rdq_any (objP n) HSd.out.1 HG.out (by omega) hpl)
  have HRa := Lib.hid (rdq_any (objP n) HSa.out.1 HG.out (by omega) hpl)
  rw [hdl] at HR HRa
  clear hdl
  have HH : Hid (w.heap.size ≤ w2.heap.size ∧ s ≠ w2.heap.size ∧ ¬ Z w2.heap.size ∧ w.heap.size ≤ w2.heap.size) := ⟨H2.out.1.b_lt, fun e => c0n e.symm, fun hz => (by
    obtain ⟨F, M, _, _, _, h4⟩ := H2.out.1
    have := (h4 _ (.inl hz)).2.2
    omega), H2.out.1.b_lt⟩
  go_upto_region 2 with (fail)
  go_cut [6, 7] (fun pv er wx => RdIn w w1 b c s Z (objP n) pv er wx)
  case first =>
    go_region_held3 (fun W : World => W.cell? ⟨s, 0, none⟩ = some (.pointer (some ⟨b, 0, none⟩)))
      (first | exact q3 | exact c0d | exact c0 | go_keep)
      (first
        | (go_at_call 193; refine (splace_any n _ (by omega)).mono ?_; rintro e w4 ⟨rfl, rfl⟩)
        | (go_at_call 59; refine HR.out.mono ?_; rintro e w3 ⟨A, dc, mo, ti, rfl, sv, hm3, hk3⟩; have HS3 := Lib.hid (HSd.out.step hm3 hk3); have HK3 := Lib.hid (HKd.out.trans (hk3.fewer (fun k hk => .inl hk))); have q3 : w3.cell? ⟨s, 0, none⟩ = some (.pointer (some ⟨b, 0, none⟩)) := (by obtain ⟨_, _, _, gx⟩ := HS3.out; exact gx.cell 0); have q3n := World.new_ne w3 _ q3; have HSV := Lib.hid sv; clear hm3 hk3 sv)
        | (go_at_call 59; refine HRa.out.mono ?_; rintro e w3 ⟨A, dc, mo, ti, rfl, sv, hm3, hk3⟩; have HS3 := Lib.hid (HSa.out.step hm3 hk3); have HK3 := Lib.hid (HKa.out.trans (hk3.fewer (fun k hk => .inl (.inl hk)))); have q3 : w3.cell? ⟨s, 0, none⟩ = some (.pointer (some ⟨b, 0, none⟩)) := (by obtain ⟨_, _, _, gx⟩ := HS3.out; exact gx.cell 0); have q3n := World.new_ne w3 _ q3; have hbx := Only.blk hk3 HBa.out (fun hn => hn.1 (.inl (.inr rfl))); have k0 : w3.cell? ⟨w2.heap.size, 0, none⟩ = some (.int .i64 0) := hbx.cell 0; have k1 : w3.cell? ⟨w2.heap.size, 1, none⟩ = some (.slice none 0 0) := hbx.cell 1; have k2 : w3.cell? ⟨w2.heap.size, 2, none⟩ = some (.int .i64 0) := hbx.cell 2; have y0 : w3.frozen? ⟨w2.heap.size, 0, none⟩ = false := hbx.frozen 0; have y1 : w3.frozen? ⟨w2.heap.size, 1, none⟩ = false := hbx.frozen 1; have y2 : w3.frozen? ⟨w2.heap.size, 2, none⟩ = false := hbx.frozen 2; have HBx := Lib.hid hbx; have HSV := Lib.hid sv; clear hm3 hk3 sv hbx))
    all_goals go_wp2_with fail
    all_goals go_meet
    all_goals first
      | (refine ⟨_, A, dc, mo, ti, rfl, rfl, ?_, ?_, HS3.out.below ((Below.refl w3.heap.size w3).alloc (Nat.le_refl _) _), HK3.out.below ((Below.refl w3.heap.size w3).alloc (Nat.le_refl _) _)⟩
         · rw [HDL.out]; exact Blk.new w3 _ _
         · rw [HDL.out]; exact HSV.out.slv.below ((Below.refl w3.heap.size w3).alloc (Nat.le_refl _) _))
      | (have ho : Only (fun k => k = w2.heap.size) w3 (((w3.setCell ⟨w2.heap.size, 0, none⟩ (.int .i64 mo)).setCell ⟨w2.heap.size, 1, none⟩ (.slice A dl dc)).setCell ⟨w2.heap.size, 2, none⟩ (.int .i64 ti)) := (((Only.refl (fun k => k = w2.heap.size) w3).set_ (.inl rfl) _).set_ (.inl rfl) _).set_ (.inl rfl) _
         have hb3 := ((HBx.out.set_ 0 (.int .i64 mo)).set_ 1 (.slice A dl dc)).set_ 2 (.int .i64 ti)
         obtain ⟨z1, z2, z3, z4⟩ := HS3.out
         refine ⟨w2.heap.size, A, dc, mo, ti, rfl, rfl, ?_, ?_, StAt.fewer ⟨z1.upd ho (.inl (.inr rfl)) HH.out.1, z2, z3, Only.blk ho z4 HH.out.2.1⟩ (fun k hk => .inl hk), HK3.out.trans (ho.more (fun k _ hk => ?_))⟩
         · rw [HDL.out]; simpa using hb3
         · rw [HDL.out]; exact (HSV.out.only ho (fun k hk h => hk (.inl (.inr h)))).slv
         · subst hk; exact HH.out.2.2)
      | (trace_state; fail)
  case rest =>
    obtain ⟨g, A, dc, mo, ti, rfl, rfl, hb, hv, hs, hk⟩ := hcut
    have k1 : wc.cell? ⟨g, 1, none⟩ = some (.slice A (redF c (objP n)).data.length dc) := hb.cell 1
    have HV := Lib.hid hv
    have HS := Lib.hid hs
    have HK := Lib.hid hk
    rw [HDL.out] at k1
    clear hb hv hs hk
    go_wp2_with fail
    go_ret2
    refine ⟨_, rfl, ?_, HS.out, HK.out⟩
    rw [← HDL.out]
    exact HV.out

set_option maxRecDepth 100000 in
set_option maxHeartbeats 6400000 in
theorem sputq_in {w w1 : World} {b i s : Nat} {c : CSt} {Z G : Nat → Prop} (dv : Value) (d : List UInt8) (h : StAt w w1 b c s Z) (hg : GoS c i) (hi : i ≤ 399000) (hd : By G w1 dv d) (hG : ∀ k, G k → k < w.heap.size ∨ Z k) (hl : d.length ≤ 20000) :
    Calls Tryz.prog 150 #[.pointer (some ⟨s, 0, none⟩), .string (Tx.str (idL d)), dv] w1 fun e w' => e = .returned (.tuple #[.string (Tx.str (sptV c d)), .int .i64 (sptE c d)]) ∧ StAt w w' b (sptC c d) s Z ∧ Keeps w Z w1 w' := by
  have HIL : Hid ((idL d).length ≤ 900000) := by unfold Hid; rw [idL_len]; omega
  have HIL8 : Hid ((idL d).length ≤ 800000) := by unfold Hid; rw [idL_len]; omega
  have HPL : Hid ((objP (idL d)).length ≤ 900000) := by unfold Hid; rw [objP_len, idL_len]; omega
  have HL : Hid (¬ 20000 < d.length) := by unfold Hid; omega
  have HS := Lib.hid h
  have HGC := Lib.hid hg
  have HG1 : Hid (GoS (bgC c).c (i + 1)) := hg.bg
  have HG2 : Hid (GoS (crtC (bgC c).c tmpP 1 d false) (i + 2)) := hg.bg.crt _ _ _ _
  have HDD := Lib.hid hd
  have HGG := Lib.hid hG
  obtain ⟨dA, dc, rfl, hd1, hd2⟩ := hd.slice
  unfold maxLen at hd2
  obtain ⟨dl, hdl⟩ : ∃ x, d.length = x := ⟨_, rfl⟩
  obtain ⟨dv, hdv⟩ : ∃ x, x = Value.slice dA d.length dc := ⟨_, rfl⟩
  rw [← hdv] at HDD ⊢
  have hshort := red_short (hg.ready (by omega)) (objP (idL d))
  have HONE := HDD.out.one
  clear h hg hd hG hdl hd1 hd2 hl hdv
  go_enter Tryz.func150, Tryz.ntmps150
  go_wp2_with fail
  refine (sreadq_any (idL d) HS.out HGC.out (by omega) HIL8.out).mono ?_
  rintro e w2 ⟨v2, rfl, hv2, hs2, hk2⟩
  have HS2 := Lib.hid hs2
  have HK2 := Lib.hid hk2
  have HD2 := Lib.hid (hk2.by_ HDD.out HGG.out)
  obtain ⟨re, hre⟩ : ∃ x, redE c (objP (idL d)) = x := ⟨_, rfl⟩
  obtain ⟨dat, hdat⟩ : ∃ x, (redF c (objP (idL d))).data = x := ⟨_, rfl⟩
  have HRE : Hid (redE c (stP d) = re) := hre
  have HDAT : Hid ((redF c (stP d)).data = dat) := hdat
  rw [hre]
  rw [hdat] at hv2 hshort
  have HV2 := Lib.hid hv2
  clear hs2 hk2 hre hdat hv2 HS
  by_cases h0 : re = 0
  · subst h0
    by_cases hq : dat = d
    · have HPE : Hid (preE c d = 0) := by unfold Hid preE; rw [if_pos HRE.out, HDAT.out, if_pos hq]
      have HE : Hid (sptE c d = 0 ∧ sptC c d = (bgC c).c ∧ sptV c d = idL d) := by
        have e1 : sptE c d = 0 := by unfold sptE; rw [if_neg HL.out, if_neg (by rw [HPE.out]; decide)]; exact HPE.out
        exact ⟨e1, by unfold sptC; rw [if_neg HL.out, if_neg (by rw [HPE.out]; decide)], by unfold sptV; rw [if_pos e1]⟩
      have HEQ : Hid ((dat == d) = true) := by unfold Hid; rw [hq]; exact beq_self_eq_true _
      clear hq
      go_wp2_with fail
      refine (equal_any v2 dv dat d w2 HV2.out HD2.out.slv true HEQ.out).mono ?_
      rintro e w' ⟨rfl, rfl⟩
      go_wp2_with fail
      go_ret2
      exact ⟨by rw [HE.out.1, HE.out.2.2]; rfl, by rw [HE.out.2.1]; exact HS2.out, HK2.out⟩
    · have HEQ : Hid ((dat == d) = false) := by unfold Hid; rw [beq_eq_false_iff_ne]; exact hq
      have HNQ := Lib.hid hq
      clear hq
      go_wp2_with fail
      refine (equal_any v2 dv dat d w2 HV2.out HD2.out.slv false HEQ.out).mono ?_
      rintro e w' ⟨rfl, rfl⟩
      go_wp2_with fail
      refine (idc_any v2 dat w2 HV2.out (by omega)).mono ?_
      rintro e w2b ⟨rfl, hb2⟩
      replace HS2 := Lib.hid (HS2.out.below hb2)
      replace HK2 := Lib.hid (HK2.out.below hb2)
      replace HD2 := Lib.hid (HD2.out.only (M := fun _ => False) (Only.of_below hb2) (fun _ _ => id))
      clear hb2
      by_cases hi5 : idL dat = idL d
      · have HPE : Hid (preE c d = 5) := by unfold Hid preE; rw [if_pos HRE.out, HDAT.out, if_neg HNQ.out, if_pos hi5]
        have HE : Hid (sptE c d = 5 ∧ sptC c d = (bgC c).c ∧ sptV c d = []) := by
          have e1 : sptE c d = 5 := by unfold sptE; rw [if_neg HL.out, if_neg (by rw [HPE.out]; decide)]; exact HPE.out
          exact ⟨e1, by unfold sptC; rw [if_neg HL.out, if_neg (by rw [HPE.out]; decide)], by unfold sptV; rw [e1]; rfl⟩
        have y5 : ((str (hexL (sumOf dat))).toList == (str (idL d)).toList) = true := by
          rw [str_toList, str_toList]
          show (idL dat == idL d) = true
          rw [hi5]; exact beq_self_eq_true _
        clear hi5
        go_wp2_with fail
        go_ret2
        exact ⟨by rw [HE.out.1, HE.out.2.2]; rfl, by rw [HE.out.2.1]; exact HS2.out, HK2.out⟩
      · have HPRE : Hid (preE c d = 7) := by unfold Hid preE; rw [if_pos HRE.out, HDAT.out, if_neg HNQ.out, if_neg hi5]
        have y5 : ((str (hexL (sumOf dat))).toList == (str (idL d)).toList) = false := str_idne hi5
        clear hi5
        obtain ⟨_, _, r2, g2⟩ := HS2.out
        have c2 : w2b.cell? ⟨s, 0, none⟩ = some (.pointer (some ⟨b, 0, none⟩)) := g2.cell 0
        clear g2
        go_wp2_with fail
        refine (wrq_any tmpP 1 dv d G HS2.out.1 HG1.out (by omega) (by decide) HD2.out (fun k hk => (HGG.out k hk).imp id .inl)).mono ?_
        rintro e w3 ⟨rfl, hm3, hk3⟩
        have HS3 := Lib.hid (HS2.out.step hm3 hk3)
        have HK3 := Lib.hid (HK2.out.trans (hk3.fewer (fun k hk => .inl hk)))
        obtain ⟨er1, her1⟩ : ∃ x, crtE (bgC c).c tmpP 1 d false = x := ⟨_, rfl⟩
        have HER1 := Lib.hid her1
        rw [her1]
        clear hm3 hk3 her1
        by_cases h1 : er1 = 0
        · subst h1
          obtain ⟨_, _, r3, g3⟩ := HS3.out
          have c0 : w3.cell? ⟨s, 0, none⟩ = some (.pointer (some ⟨b, 0, none⟩)) := g3.cell 0
          have c0d : w3.drew.cell? ⟨s, 0, none⟩ = some (.pointer (some ⟨b, 0, none⟩)) := c0
          have HS3d := Lib.hid (HS3.out.below ((Below.refl _ _).drew))
          have HK3d := Lib.hid (HK3.out.below ((Below.refl _ _).drew))
          clear g3
          go_wp2_with fail
          go_region_held3 (fun W : World => W.cell? ⟨s, 0, none⟩ = some (.pointer (some ⟨b, 0, none⟩)))
            (first | exact q4 | exact c0d | exact c0)
            (first
              | (go_at_call 51; refine (mvq_any tmpP (objP (idL d)) (by exact HS3d.out.1) HG2.out (by omega) (by decide) HPL.out).mono ?_; rintro e w4 ⟨rfl, hm4, hk4⟩; have HS4 := Lib.hid (HS3d.out.step hm4 hk4); have HK4 := Lib.hid (HK3d.out.trans (hk4.fewer (fun k hk => .inl hk))); have q4 : w4.cell? ⟨s, 0, none⟩ = some (.pointer (some ⟨b, 0, none⟩)) := (by obtain ⟨_, _, _, gx⟩ := HS4.out; exact gx.cell 0); clear hm4 hk4)
              | (go_at_call 193; refine (splace_any (idL d) _ (by exact HIL.out)).mono ?_; rintro e w4 ⟨rfl, rfl⟩))
          obtain ⟨er2, her2⟩ : ∃ x, movE (crtC (bgC c).c tmpP 1 d false) tmpP (objP (idL d)) false = x := ⟨_, rfl⟩
          have HER2 := Lib.hid her2
          have HWC : Hid (sptC c d = movC (crtC (bgC c).c tmpP 1 d false) tmpP (objP (idL d)) false) := by
            unfold Hid sptC wmC
            rw [if_neg HL.out, if_pos HPRE.out, if_pos HER1.out]
            rfl
          have HWE : Hid (sptE c d = er2) := by
            unfold Hid sptE wmE
            rw [if_neg HL.out, if_pos HPRE.out, if_pos HER1.out]
            exact HER2.out
          try rw [her2]
          clear her2
          by_cases h2 : er2 = 0
          · subst h2
            have HV : Hid (sptV c d = idL d) := by unfold Hid sptV; rw [if_pos HWE.out]
            go_wp2_with fail
            go_ret2
            exact ⟨by rw [HWE.out, HV.out]; rfl, by rw [HWC.out]; exact HS4.out, HK4.out⟩
          · have y2 : (er2 != 0) = true := by simpa using h2
            have HV : Hid (sptV c d = []) := by unfold Hid sptV; rw [HWE.out, if_neg h2]
            clear h2
            go_wp2_with fail
            go_ret2
            exact ⟨by rw [HWE.out, HV.out]; rfl, by rw [HWC.out]; exact HS4.out, HK4.out⟩
        · have y1 : (er1 != 0) = true := by simpa using h1
          have HN1 : Hid (¬ crtE (bgC c).c tmpP 1 d false = 0) := by unfold Hid; rw [HER1.out]; exact h1
          have HWC : Hid (sptC c d = crtC (bgC c).c tmpP 1 d false) := by
            unfold Hid sptC wmC
            rw [if_neg HL.out, if_pos HPRE.out, if_neg HN1.out]
          have HWE : Hid (sptE c d = er1) := by
            unfold Hid sptE wmE
            rw [if_neg HL.out, if_pos HPRE.out, if_neg HN1.out]
            exact HER1.out
          have HV : Hid (sptV c d = []) := by unfold Hid sptV; rw [HWE.out, if_neg h1]
          clear h1
          go_wp2_with fail
          go_ret2
          exact ⟨by rw [HWE.out, HV.out]; rfl, by rw [HWC.out]; exact HS3.out, HK3.out⟩
  · have y0 : (re == 0) = false := beq_eq_false_iff_ne.2 h0
    have y0' : (re != 0) = true := by simpa using h0
    by_cases h7 : re = 7
    · subst h7
      have HPRE : Hid (preE c d = 7) := by unfold Hid preE; rw [if_neg (by rw [HRE.out]; decide)]; exact HRE.out
      clear h0 y0 y0'
      obtain ⟨_, _, r2, g2⟩ := HS2.out
      have c2 : w2.cell? ⟨s, 0, none⟩ = some (.pointer (some ⟨b, 0, none⟩)) := g2.cell 0
      clear g2
      go_wp2_with fail
      refine (wrq_any tmpP 1 dv d G HS2.out.1 HG1.out (by omega) (by decide) HD2.out (fun k hk => (HGG.out k hk).imp id .inl)).mono ?_
      rintro e w3 ⟨rfl, hm3, hk3⟩
      have HS3 := Lib.hid (HS2.out.step hm3 hk3)
      have HK3 := Lib.hid (HK2.out.trans (hk3.fewer (fun k hk => .inl hk)))
      obtain ⟨er1, her1⟩ : ∃ x, crtE (bgC c).c tmpP 1 d false = x := ⟨_, rfl⟩
      have HER1 := Lib.hid her1
      rw [her1]
      clear hm3 hk3 her1
      by_cases h1 : er1 = 0
      · subst h1
        obtain ⟨_, _, r3, g3⟩ := HS3.out
        have c0 : w3.cell? ⟨s, 0, none⟩ = some (.pointer (some ⟨b, 0, none⟩)) := g3.cell 0
        have c0d : w3.drew.cell? ⟨s, 0, none⟩ = some (.pointer (some ⟨b, 0, none⟩)) := c0
        have HS3d := Lib.hid (HS3.out.below ((Below.refl _ _).drew))
        have HK3d := Lib.hid (HK3.out.below ((Below.refl _ _).drew))
        clear g3
        go_wp2_with fail
        go_region_held3 (fun W : World => W.cell? ⟨s, 0, none⟩ = some (.pointer (some ⟨b, 0, none⟩)))
          (first | exact q4 | exact c0d | exact c0)
          (first
            | (go_at_call 51; refine (mvq_any tmpP (objP (idL d)) (by exact HS3d.out.1) HG2.out (by omega) (by decide) HPL.out).mono ?_; rintro e w4 ⟨rfl, hm4, hk4⟩; have HS4 := Lib.hid (HS3d.out.step hm4 hk4); have HK4 := Lib.hid (HK3d.out.trans (hk4.fewer (fun k hk => .inl hk))); have q4 : w4.cell? ⟨s, 0, none⟩ = some (.pointer (some ⟨b, 0, none⟩)) := (by obtain ⟨_, _, _, gx⟩ := HS4.out; exact gx.cell 0); clear hm4 hk4)
            | (go_at_call 193; refine (splace_any (idL d) _ (by exact HIL.out)).mono ?_; rintro e w4 ⟨rfl, rfl⟩))
        obtain ⟨er2, her2⟩ : ∃ x, movE (crtC (bgC c).c tmpP 1 d false) tmpP (objP (idL d)) false = x := ⟨_, rfl⟩
        have HER2 := Lib.hid her2
        have HWC : Hid (sptC c d = movC (crtC (bgC c).c tmpP 1 d false) tmpP (objP (idL d)) false) := by
          unfold Hid sptC wmC
          rw [if_neg HL.out, if_pos HPRE.out, if_pos HER1.out]
          rfl
        have HWE : Hid (sptE c d = er2) := by
          unfold Hid sptE wmE
          rw [if_neg HL.out, if_pos HPRE.out, if_pos HER1.out]
          exact HER2.out
        try rw [her2]
        clear her2
        by_cases h2 : er2 = 0
        · subst h2
          have HV : Hid (sptV c d = idL d) := by unfold Hid sptV; rw [if_pos HWE.out]
          go_wp2_with fail
          go_ret2
          exact ⟨by rw [HWE.out, HV.out]; rfl, by rw [HWC.out]; exact HS4.out, HK4.out⟩
        · have y2 : (er2 != 0) = true := by simpa using h2
          have HV : Hid (sptV c d = []) := by unfold Hid sptV; rw [HWE.out, if_neg h2]
          clear h2
          go_wp2_with fail
          go_ret2
          exact ⟨by rw [HWE.out, HV.out]; rfl, by rw [HWC.out]; exact HS4.out, HK4.out⟩
      · have y1 : (er1 != 0) = true := by simpa using h1
        have HN1 : Hid (¬ crtE (bgC c).c tmpP 1 d false = 0) := by unfold Hid; rw [HER1.out]; exact h1
        have HWC : Hid (sptC c d = crtC (bgC c).c tmpP 1 d false) := by
          unfold Hid sptC wmC
          rw [if_neg HL.out, if_pos HPRE.out, if_neg HN1.out]
        have HWE : Hid (sptE c d = er1) := by
          unfold Hid sptE wmE
          rw [if_neg HL.out, if_pos HPRE.out, if_neg HN1.out]
          exact HER1.out
        have HV : Hid (sptV c d = []) := by unfold Hid sptV; rw [HWE.out, if_neg h1]
        clear h1
        go_wp2_with fail
        go_ret2
        exact ⟨by rw [HWE.out, HV.out]; rfl, by rw [HWC.out]; exact HS3.out, HK3.out⟩
    · have y7 : (re != 7) = true := by simpa using h7
      have HPE : Hid (preE c d = re) := by unfold Hid preE; rw [if_neg (by rw [HRE.out]; exact h0)]; exact HRE.out
      have HE : Hid (sptE c d = re ∧ sptC c d = (bgC c).c ∧ sptV c d = []) := by
        have e1 : sptE c d = re := by unfold sptE; rw [if_neg HL.out, if_neg (by rw [HPE.out]; exact h7)]; exact HPE.out
        exact ⟨e1, by unfold sptC; rw [if_neg HL.out, if_neg (by rw [HPE.out]; exact h7)], by unfold sptV; rw [e1, if_neg h0]⟩
      clear h0 h7
      go_wp2_with fail
      go_ret2
      exact ⟨by rw [HE.out.1, HE.out.2.2]; rfl, by rw [HE.out.2.1]; exact HS2.out, HK2.out⟩
set_option maxRecDepth 100000 in
set_option maxHeartbeats 1600000 in
theorem sputq_any {w w1 : World} {b i s : Nat} {c : CSt} {Z G : Nat → Prop} (dv : Value) (d : List UInt8) (h : StAt w w1 b c s Z) (hg : GoS c i) (hi : i ≤ 399000) (hd : By G w1 dv d) (hG : ∀ k, G k → k < w.heap.size ∨ Z k) :
    Calls Tryz.prog 102 #[.pointer (some ⟨s, 0, none⟩), dv] w1 fun e w' => e = .returned (.tuple #[.string (Tx.str (sptV c d)), .int .i64 (sptE c d)]) ∧ StAt w w' b (sptC c d) s Z ∧ Keeps w Z w1 w' := by
  obtain ⟨dA, dc, rfl, hd1, hd2⟩ := hd.slice
  unfold maxLen at hd2
  by_cases hl : 20000 < d.length
  · have hli : (20000 : Int) < (d.length : Int) := by omega
    have HE : Hid (sptE c d = 3 ∧ sptC c d = c ∧ sptV c d = []) := by
      have e1 : sptE c d = 3 := by unfold sptE; rw [if_pos hl]
      exact ⟨e1, by unfold sptC; rw [if_pos hl], by unfold sptV; rw [e1]; rfl⟩
    have HS := Lib.hid h
    obtain ⟨dl, hdl⟩ : ∃ x, d.length = x := ⟨_, rfl⟩
    rw [hdl] at hli hd1 ⊢
    clear h hg hd hG hl hdl
    go_enter Tryz.func102, Tryz.ntmps102
    go_wp2_with fail
    go_ret2
    exact ⟨by rw [HE.out.1, HE.out.2.2]; rfl, by rw [HE.out.2.1]; exact HS.out, Keeps.refl _ _ _⟩
  · have hli : (d.length : Int) ≤ (20000 : Int) := by omega
    have HI := Lib.hid (idc_any _ d w1 hd.slv (by omega))
    have HP := Lib.hid (fun (W : World) (hb : Below w1.heap.size w1 W) => sputq_in _ d (h.below hb) hg hi (hd.only (M := fun _ => False) (Only.of_below hb) (fun _ _ => id)) hG (by omega))
    have HKB := Lib.hid (fun (W : World) (hb : Below w1.heap.size w1 W) => Keeps.of_below (w := w) (Z := Z) hb)
    obtain ⟨r1, hr1⟩ : ∃ x, sptV c d = x := ⟨_, rfl⟩
    obtain ⟨r2, hr2⟩ : ∃ x, sptE c d = x := ⟨_, rfl⟩
    have HR1 := Lib.hid hr1
    have HR2 := Lib.hid hr2
    obtain ⟨dl, hdl⟩ : ∃ x, d.length = x := ⟨_, rfl⟩
    rw [hdl] at hli hd1 HI HP ⊢
    clear h hg hd hG hl hdl hr1 hr2
    go_enter Tryz.func102, Tryz.ntmps102
    go_wp2_with fail
    refine HI.out.mono ?_
    rintro e w2 ⟨rfl, hb2⟩
    have HB2 := Lib.hid hb2
    clear hb2
    go_wp2_with fail
    refine (HP.out w2 HB2.out).mono ?_
    rw [HR1.out, HR2.out]
    rintro e w3 ⟨rfl, hs3, hk3⟩
    have HS3 := Lib.hid hs3
    have HK3 := Lib.hid ((HKB.out w2 HB2.out).trans hk3)
    clear hs3 hk3
    go_wp2_with fail
    go_ret2
    exact ⟨by rw [HR1.out, HR2.out]; rfl, HS3.out, HK3.out⟩
/-- Read: what it hands back belongs to nobody. -/
theorem rdn_any {w w1 : World} {b i : Nat} {c : CSt} {Z : Nat → Prop} (p : List UInt8) (h : MineP w w1 b c Z) (hg : GoS c i) (hi : i ≤ 400000) (hp : p.length ≤ 900000) :
    Calls Tryz.prog 59 #[.pointer (some ⟨b, 0, none⟩), .string (Tx.str p)] w1 fun e w' => ∃ A dc D, e = .returned (.tuple #[.agg #[.int .i64 (redF c p).mode, .slice A (redF c p).data.length dc, .int .i64 (redF c p).time], .int .i64 (redE c p)]) ∧ By D w' (.slice A (redF c p).data.length dc) (redF c p).data ∧ (∀ k, D k → w1.heap.size ≤ k) ∧ MineP w w' b (bgC c).c (fun k => Z k ∨ D k) ∧ Keeps w Z w1 w' := by
  obtain ⟨F, M, h1, h2, h3, h4⟩ := h
  refine (read2_any F M b c _ p w1 h1 (hg.ready (by omega)) (by omega)).mono ?_
  rintro e w' ⟨u, v, M', F2, rfl, rfl, hat, hon, hsub, hF2, hby⟩
  obtain ⟨A, dc, rfl, _, _⟩ := hby.slice
  have hz := hon.size
  refine ⟨A, dc, _, rfl, hby, fun k hk => hk.2.2.1, ⟨F2, M', hat, fun k hk => ?_, ?_, fun k hk => ?_⟩, hon.more (fun k _ hm => ⟨fun hk => (h4 k hk).2.1 hm, h2 k hm⟩)⟩
  · rcases hsub k hk with h5 | h5
    · exact h2 k h5
    · have := h3.size; omega
  · exact h3.trans ⟨hon.os, hon.tape, hon.output, hon.size, fun q hq => hon.block q (by have := h3.size; omega) (fun hm => by have := h2 q hm; omega)⟩
  · rcases hk with hk | hk
    · obtain ⟨z1, z2, z3⟩ := h4 k hk
      refine ⟨fun hf => ?_, fun hm => ?_, by omega⟩
      · rcases hF2 k hf with h5 | h5
        · exact z1 h5
        · omega
      · rcases hsub k hm with h5 | h5
        · exact z2 h5
        · omega
    · exact ⟨hk.1, hk.2.1, hk.2.2.2⟩
end Go.Proofs.YtbenkmihkbjgeaaGreat.Tx
/- Package store: List. -/
set_option linter.unusedVariables false
set_option linter.unusedSimpArgs false
namespace Go.Proofs.YtbenkmihkbjgeaaGreat.Tx
open Go.RowKit Go.Maps Go.Proofs.YtbenkmihkbjgeaaGreat.Sh
def SlsPost (w w1 : World) (b : Nat) (c : CSt) (s : Nat) (Z : Nat → Prop) (e : Ending) (w' : World) : Prop :=
 ∃ v wm, e = .returned (.tuple #[v, .int .i64 (lisE c objD)]) ∧ StAt w w' b (bgC c).c s Z ∧ Keeps w Z w1 w' ∧ w1.heap.size ≤ wm.heap.size ∧ Below wm.heap.size wm w' ∧ OwnV 9 w' wm.heap.size v (((slsV c).map str).map sv)
end Go.Proofs.YtbenkmihkbjgeaaGreat.Tx
/- marlaw7: first. -/
set_option linter.unusedVariables false
set_option linter.unusedSimpArgs false
namespace Go.Proofs.YtbenkmihkbjgeaaGreat.Tx
open Go.RowKit Go.Maps Go.Proofs.YtbenkmihkbjgeaaGreat.Sh
end Go.Proofs.YtbenkmihkbjgeaaGreat.Tx
/- slices.swapRangeCmpFunc at structs, over any program that bears its body: it exchanges two runs of a row. -/
namespace Go.Proofs.YtbenkmihkbjgeaaGreat.Wk
open Go.Shelf Go.RowKit Go.Lib Go.Sort
def swapN {α : Type} [Inhabited α] (d : Array α) (a b : Nat) : Nat → Array α
 | 0 => d
 | n + 1 => swp (swapN d a b n) (a + n) (b + n)
structure TypesAs (P : Program) (k : Nat) : Prop where
 mixed : P.follows .mixedOrders = true
 t3 : P.underlying 3 = some (TypeDesc.int IntKind.i64)
 a3 : ∀ w, (isAgg 3).run P w = .ok false w
 z3 : ∀ w, (Go.sizeOf 3).run P w = .ok 1 w
 t4 : P.underlying 4 = some TypeDesc.bool
 a4 : ∀ w, (isAgg 4).run P w = .ok false w
 z4 : ∀ w, (Go.sizeOf 4).run P w = .ok 1 w
 t33 : P.underlying 46 = some (TypeDesc.slice 147)
 a33 : ∀ w, (isAgg 46).run P w = .ok false w
 z33 : ∀ w, (Go.sizeOf 46).run P w = .ok 1 w
 tU : P.underlying 249 = some (TypeDesc.int IntKind.u64)
 aU : ∀ w, (isAgg 249).run P w = .ok false w
 zU : ∀ w, (Go.sizeOf 249).run P w = .ok 1 w
 aE : ∀ w, (isAgg 147).run P w = .ok true w
 zE : ∀ w, (Go.sizeOf 147).run P w = .ok k w
end Go.Proofs.YtbenkmihkbjgeaaGreat.Wk
/- slices.rotateCmpFunc at structs, over any program that bears its body: the rows are those that were there. -/
namespace Go.Proofs.YtbenkmihkbjgeaaGreat.Wk
open Go.Shelf Go.RowKit Go.Lib Go.Sort
def Moved {α : Type} [Inhabited α] (d d' : Array α) : Prop := d'.size = d.size ∧ ∀ i, i < d.size → ∃ j, j < d.size ∧ d'[i]! = d[j]!
section
variable {α : Type} [Inhabited α]
end
def StepPost {α : Type} [Inhabited α] (enc : α → List Value) (k : Nat) (w0 : World) (blk off : Nat) (d : Array α) (e : Ending) (w' : World) : Prop := e = .returned (.tuple #[]) ∧ ∃ d', Moved d d' ∧ SWK enc k w0 blk off d' w'
section
variable {P : Program} {α : Type} [Inhabited α] {k : Nat}
end
end Go.Proofs.YtbenkmihkbjgeaaGreat.Wk
/- fsim.Plan's comparison of events by their call: what the sort asks of it. -/
namespace Go.Proofs.YtbenkmihkbjgeaaGreat.Wk
open Go.Shelf Go.RowKit Go.Lib Go.Sort
def cmpI (x y : Int) : Int := if x < y then -1 else if y < x then 1 else 0
end Go.Proofs.YtbenkmihkbjgeaaGreat.Wk
