/- Texts put together: Rx1. -/
import Derived.Test.YtalnfiegkkkkgaaGreatQr39
/- marlaw8.RefsExpect: the walk. -/
set_option linter.unusedVariables false
set_option linter.unusedSimpArgs false
namespace Go.Proofs.YtalnfiegkkkkgaaGreat.Tx
open Go.RowKit Go.Maps Go.Proofs.YtalnfiegkkkkgaaGreat.Sh

set_option maxRecDepth 100000 in
theorem rflag_any (t : Bool) (w : World) : Calls Tryz.prog 54 #[.bool t] w fun e w' => e = .returned (.int .i64 (if t = true then 1 else 0)) ∧ w = w' := by
  cases t with
  | false =>
    go_enter Tryz.func54, Tryz.ntmps54
    go_wp2
    go_ret
    exact ⟨rfl, rfl⟩
  | true =>
    go_enter Tryz.func54, Tryz.ntmps54
    go_wp2
    go_ret
    exact ⟨rfl, rfl⟩
set_option maxRecDepth 100000 in
set_option maxHeartbeats 12800000 in
theorem expect_any (G : Nat → Prop) (v : Value) (l : List ROp) (w : World) (h : OpsR G w v l) (hG : ∀ k, G k → k < w.heap.size) : Calls Tryz.prog 9 #[v] w (Yes w) := by
  have HL := Lib.hid h
  have HG := Lib.hid hG
  obtain ⟨A, c, rfl, hlc, hcm, _⟩ := h
  obtain ⟨n, hnn⟩ : ∃ n, l.length = n := ⟨_, rfl⟩
  have HN := Lib.hid hnn
  rw [hnn] at hlc HL ⊢
  unfold maxLen at hcm
  clear hnn hG
  go_enter Tryz.func9, Tryz.ntmps9
  go_wp2_with fail
  refine (rfirst_any w).mono ?_
  rintro e w1 ⟨rfl, hb1⟩
  have HB1 := Lib.hid hb1
  clear hb1
  go_wp2_with fail
  refine (new_any (fun _ => False) 1048576 w1 (fun _ h => h.elim)).mono ?_
  rintro e w2 ⟨hb2, ⟨h1, _⟩ | ⟨_, b, M, _, hM, rfl, hat⟩⟩
  · exact absurd h1 (by decide)
  have H2 : Hid (Mine w w2 b (newC 1048576)) := ⟨_, M, hat, fun k hk => Nat.le_trans HB1.out.size (hM k hk), HB1.out.trans (hb2.mono HB1.out.size)⟩
  clear hb2 hM hat
  have HEND : Hid (∀ w', Below w.heap.size w w' → Calls Tryz.prog 39 #[] w' fun e w'' => e = .returned (.bool true) ∧ Below w.heap.size w w'') := fun w' hb => (rfirst_any w').mono fun e w'' h => ⟨h.1, hb.trans (h.2.mono hb.size)⟩
  by_cases h30 : 30 < n
  · have k30 : (30 : Int) < (n : Int) := by omega
    clear h30
    go_wp2_with fail
    obtain ⟨_, _, _, _, hbm⟩ := H2.out
    refine (HEND.out w2 hbm).mono ?_
    rintro e w3 ⟨rfl, hb3⟩
    have HB3 := Lib.hid hb3
    clear hb3 hbm
    go_wp2_with fail
    go_ret
    exact ⟨rfl, HB3.out⟩
  · have k30 : ¬ (30 : Int) < (n : Int) := by omega
    have HL2 : Hid (OpsR G w2 (.slice A n c) l) := by obtain ⟨_, _, _, _, hbm⟩ := H2.out; exact HL.out.below hbm
    have HG2 : Hid (∀ k, G k → k < w2.heap.size) := by obtain ⟨_, _, _, _, hbm⟩ := H2.out; exact fun k hk => Nat.lt_of_lt_of_le (HG.out k hk) hbm.size
    go_wp2_with fail
    refine (rfew_any G _ l w2 HL2.out HG2.out).mono ?_
    rintro e w3 ⟨t, rfl, ht, hb3⟩
    have H3 := Lib.hid (H2.out.below hb3)
    have HT := Lib.hid ht
    clear hb3 ht
    cases t with
    | false =>
      go_wp2_with fail
      obtain ⟨_, _, _, _, hbm⟩ := H3.out
      refine (HEND.out w3 hbm).mono ?_
      rintro e w4 ⟨rfl, hb4⟩
      have HB4 := Lib.hid hb4
      clear hb4 hbm
      go_wp2_with fail
      go_ret
      exact ⟨rfl, HB4.out⟩
    | true =>
      have HF := Lib.hid (HT.out rfl)
      clear HT
      go_wp2_with fail
      go_loopw [5, 6] (fun nv i wr => ∃ (k : Nat) (now : List UInt8) (cs : CSt), k ≤ n ∧ i = .int .i64 k ∧ nv = .string (str now) ∧ Mine w wr b cs ∧ GoC cs (10 * k) ∧ ExpS now cs ∧ now.length ≤ 900000) (fun _ i _ => n - (intOf i).toNat)
      case atStart => exact ⟨0, [], newC 1048576, by omega, rfl, rfl, H3.out, GoC.new_ _, ⟨⟨rfl, rfl⟩, rfl, .inl ⟨rfl, rfl⟩⟩, by decide⟩
      case round =>
        obtain ⟨k, now, cs, hk, rfl, rfl, hmine, hgo, hexp, hnl⟩ := hrel
        have HM := Lib.hid hmine
        have HGO := Lib.hid hgo
        have HEX := Lib.hid hexp
        have HNL := Lib.hid hnl
        have hbm : Below w.heap.size w wr := by obtain ⟨_, _, _, _, hbm⟩ := hmine; exact hbm
        clear hmine hgo hexp hnl
        have k0 : (0 : Int) ≤ (k : Int) := by omega
        by_cases hlt : k < n
        · have k1 : (k : Int) < (n : Int) := by omega
          have hkl : k < l.length := by rw [HN.out]; exact hlt
          obtain ⟨A', c', hv, _, _, hat⟩ := HL.out.below hbm
          injection hv with e1 e2 e3
          subst e1
          clear e2 e3
          obtain ⟨ad, dv, pv, rfl, hGa, hal, hoc⟩ := hat k l[k] (List.getElem?_eq_getElem hkl)
          clear hat
          have HRF : Hid (RFew l[k]) := HF.out.2.1 _ (List.getElem_mem hkl)
          generalize l[k] = o at *
          obtain ⟨rk, nm, ol, nw, fo⟩ := o
          obtain ⟨kd, mo, ke, tn', pa, de, da, pl⟩ := fo
          obtain ⟨hdv, hplan, x0, x1, x2, x3, x4, x5, x6, x7, x8, x9, x10, x11⟩ := hoc
          dsimp only at x0 x1 x2 x3 x4 x5 x6 x7 x8 x9 x10 x11 hdv hplan
          obtain ⟨dA, dc, rfl, _, _⟩ := hdv.slice
          obtain ⟨pA, pc, rfl, _, _⟩ := evs_slice hplan.tmp
          clear hkl hGa hal hdv hplan
          go_upto_region 11 with (fail)
          obtain ⟨wx, hwx⟩ : ∃ x, x = wr.alloc (.cells #[.int .i64 rk, .string (str nm), .string (str ol), .string (str nw), .int .i64 kd, .int .i64 mo, .int .i64 ke, .int .i64 tn', .string (str pa), .string (str de), .slice dA da.length dc, .slice pA pl.length pc] 81) := ⟨_, rfl⟩
          have HK : Hid (MineK w wx b cs wr.heap.size 81 #[.int .i64 rk, .string (str nm), .string (str ol), .string (str nw), .int .i64 kd, .int .i64 mo, .int .i64 ke, .int .i64 tn', .string (str pa), .string (str de), .slice dA da.length dc, .slice pA pl.length pc]) := by rw [hwx]; exact MineK.start HM.out _ _
          rw [← hwx]
          clear hwx hbm x0 x1 x2 x3 x4 x5 x6 x7 x8 x9 x10 x11
          have y0 := HK.out.blk.cell 0
          have y2 := HK.out.blk.cell 2
          have y3 := HK.out.blk.cell 3
          obtain ⟨g, hg⟩ : ∃ x, x = wr.heap.size := ⟨_, rfl⟩
          rw [← hg] at HK y0 y2 y3 ⊢
          clear hg
          have htn : (str now).toList = now := str_toList _
          have hto : (str ol).toList = ol := str_toList _
          have HRN : Hid (nw.length ≤ 900000 ∧ ol.length ≤ 900000) := ⟨Nat.le_trans HRF.out.new (by decide), Nat.le_trans HRF.out.old (by decide)⟩
          have HK10 : Hid (10 * k ≤ 600) := by unfold Hid; omega
          go_upto_block 2 with (fail)
          go_cut [5] (fun nv wy => ∃ now' cs', nv = .string (str now') ∧ Mine w wy b cs' ∧ GoC cs' (10 * k + 5) ∧ ExpS now' cs' ∧ now'.length ≤ 900000)
          case first =>
            by_cases h1 : rk = 1
            · subst h1
              obtain ⟨vv, hv⟩ : ∃ t, validB nw = t := ⟨_, rfl⟩
              have HV := Lib.hid hv
              clear hv
              go_wp2_with fail
              refine (valid_any nw vv HV.out wx (by have := HRN.out.1; omega)).mono ?_
              rintro e w5 ⟨rfl, rfl⟩
              cases vv with
              | false =>
                have HST : Hid ((setE cs hdN ol nw = 0 ↔ setG now ol nw = true) ∧ ExpS (if setG now ol nw = true then nw else now) (setC cs hdN ol nw)) := HEX.out.set_ ol nw
                have HGD : Hid (setG now ol nw = false) := by unfold setG; rw [HV.out]; rfl
                obtain ⟨es, hes⟩ : ∃ x, setE cs hdN ol nw = x := ⟨_, rfl⟩
                have HES := Lib.hid hes
                clear hes
                have HRS : Hid (ExpS now (setC cs hdN ol nw)) := by have h := HST.out.2; rw [HGD.out] at h; exact h
                have he0 : (es == 0) = false := by rw [beq_eq_false_iff_ne]; intro x; have := HST.out.1.1 (HES.out.trans x); rw [HGD.out] at this; cases this
                clear HST
                go_wp2_with fail
                refine (set_k hdN ol nw HK.out HGO.out (by have := HK10.out; omega) (by decide) HRN.out.2 HRN.out.1).mono ?_
                rintro e w5 ⟨rfl, hk5⟩
                rw [HES.out]
                have HK5 := Lib.hid hk5
                have y3 := hk5.blk.cell 3
                clear hk5
                go_wp2_with fail
                go_meet
                exact ⟨now, _, rfl, HK5.out.mine, HGO.out.set_ hdN ol nw, HRS.out, HNL.out⟩
              | true =>
                by_cases heq : ol = now
                · have hq : (ol == now) = true := by rw [heq]; exact beq_self_eq_true _
                  have HQ := Lib.hid heq
                  clear heq
                  have HST : Hid ((setE cs hdN ol nw = 0 ↔ setG now ol nw = true) ∧ ExpS (if setG now ol nw = true then nw else now) (setC cs hdN ol nw)) := HEX.out.set_ ol nw
                  have HGD : Hid (setG now ol nw = true) := by unfold setG; rw [HV.out, decide_eq_true HQ.out]; rfl
                  obtain ⟨es, hes⟩ : ∃ x, setE cs hdN ol nw = x := ⟨_, rfl⟩
                  have HES := Lib.hid hes
                  clear hes
                  have HRS : Hid (ExpS nw (setC cs hdN ol nw)) := by have h := HST.out.2; rw [HGD.out] at h; exact h
                  have he0 : es = 0 := HES.out.symm.trans (HST.out.1.2 HGD.out)
                  subst he0
                  clear HST
                  go_wp2_with fail
                  refine (set_k hdN ol nw HK.out HGO.out (by have := HK10.out; omega) (by decide) HRN.out.2 HRN.out.1).mono ?_
                  rintro e w5 ⟨rfl, hk5⟩
                  rw [HES.out]
                  have HK5 := Lib.hid hk5
                  have y3 := hk5.blk.cell 3
                  clear hk5
                  go_wp2_with fail
                  go_meet
                  exact ⟨nw, _, rfl, HK5.out.mine, HGO.out.set_ hdN ol nw, HRS.out, HRN.out.1⟩
                · have hq : (ol == now) = false := list_other heq
                  have HQ := Lib.hid heq
                  clear heq
                  have HST : Hid ((setE cs hdN ol nw = 0 ↔ setG now ol nw = true) ∧ ExpS (if setG now ol nw = true then nw else now) (setC cs hdN ol nw)) := HEX.out.set_ ol nw
                  have HGD : Hid (setG now ol nw = false) := by unfold setG; rw [HV.out, decide_eq_false HQ.out]; rfl
                  obtain ⟨es, hes⟩ : ∃ x, setE cs hdN ol nw = x := ⟨_, rfl⟩
                  have HES := Lib.hid hes
                  clear hes
                  have HRS : Hid (ExpS now (setC cs hdN ol nw)) := by have h := HST.out.2; rw [HGD.out] at h; exact h
                  have he0 : (es == 0) = false := by rw [beq_eq_false_iff_ne]; intro x; have := HST.out.1.1 (HES.out.trans x); rw [HGD.out] at this; cases this
                  clear HST
                  go_wp2_with fail
                  refine (set_k hdN ol nw HK.out HGO.out (by have := HK10.out; omega) (by decide) HRN.out.2 HRN.out.1).mono ?_
                  rintro e w5 ⟨rfl, hk5⟩
                  rw [HES.out]
                  have HK5 := Lib.hid hk5
                  have y3 := hk5.blk.cell 3
                  clear hk5
                  go_wp2_with fail
                  go_meet
                  exact ⟨now, _, rfl, HK5.out.mine, HGO.out.set_ hdN ol nw, HRS.out, HNL.out⟩
            · have h1' : (rk == 1) = false := by rw [beq_eq_false_iff_ne]; exact h1
              by_cases h2 : rk = 2
              · subst h2
                by_cases hne : now = []
                · subst hne
                  have HNE : Hid (([] : List UInt8) = []) := rfl
                  obtain ⟨z2, z3⟩ := str_nil (p := []) rfl
                  have HST : Hid ((delE cs hdN ol = 0 ↔ delG [] ol = true) ∧ ExpS (if delG [] ol = true then [] else []) (delC cs hdN ol)) := HEX.out.del_ ol
                  have HGD : Hid (delG [] ol = false) := by unfold delG; rw [decide_eq_true HNE.out]; rfl
                  obtain ⟨es, hes⟩ : ∃ x, delE cs hdN ol = x := ⟨_, rfl⟩
                  have HES := Lib.hid hes
                  clear hes
                  have HRS : Hid (ExpS [] (delC cs hdN ol)) := by have h := HST.out.2; rw [HGD.out] at h; exact h
                  have he0 : (es == 0) = false := by rw [beq_eq_false_iff_ne]; intro x; have := HST.out.1.1 (HES.out.trans x); rw [HGD.out] at this; cases this
                  clear HST
                  go_wp2_with fail
                  refine (del_mine hdN ol HK.out.mine HGO.out (by have := HK10.out; omega) (by decide) HRN.out.2).mono ?_
                  rintro e w5 ⟨rfl, hk5⟩
                  rw [HES.out]
                  have HK5 := Lib.hid hk5
                  clear hk5
                  go_wp2_with fail
                  go_meet
                  exact ⟨[], _, rfl, HK5.out, (HGO.out.del_ hdN ol).upto (by omega), HRS.out, HNL.out⟩
                · have HNE := Lib.hid hne
                  obtain ⟨z2, z3⟩ := str_some hne
                  have z4 : now.isEmpty = false := by cases now with | nil => exact absurd rfl hne | cons x y => rfl
                  clear hne
                  by_cases heq : ol = now
                  · have hq : (ol == now) = true := by rw [heq]; exact beq_self_eq_true _
                    have HQ := Lib.hid heq
                    clear heq
                    have HST : Hid ((delE cs hdN ol = 0 ↔ delG now ol = true) ∧ ExpS (if delG now ol = true then [] else now) (delC cs hdN ol)) := HEX.out.del_ ol
                    have HGD : Hid (delG now ol = true) := by unfold delG; rw [decide_eq_false HNE.out, decide_eq_true HQ.out]; rfl
                    obtain ⟨es, hes⟩ : ∃ x, delE cs hdN ol = x := ⟨_, rfl⟩
                    have HES := Lib.hid hes
                    clear hes
                    have HRS : Hid (ExpS [] (delC cs hdN ol)) := by have h := HST.out.2; rw [HGD.out] at h; exact h
                    have he0 : es = 0 := HES.out.symm.trans (HST.out.1.2 HGD.out)
                    subst he0
                    clear HST
                    go_wp2_with fail
                    refine (del_mine hdN ol HK.out.mine HGO.out (by have := HK10.out; omega) (by decide) HRN.out.2).mono ?_
                    rintro e w5 ⟨rfl, hk5⟩
                    rw [HES.out]
                    have HK5 := Lib.hid hk5
                    clear hk5
                    go_wp2_with fail
                    go_meet
                    exact ⟨[], _, rfl, HK5.out, (HGO.out.del_ hdN ol).upto (by omega), HRS.out, by decide⟩
                  · have hq : (ol == now) = false := list_other heq
                    have HQ := Lib.hid heq
                    clear heq
                    have HST : Hid ((delE cs hdN ol = 0 ↔ delG now ol = true) ∧ ExpS (if delG now ol = true then [] else now) (delC cs hdN ol)) := HEX.out.del_ ol
                    have HGD : Hid (delG now ol = false) := by unfold delG; rw [decide_eq_false HNE.out, decide_eq_false HQ.out]; rfl
                    obtain ⟨es, hes⟩ : ∃ x, delE cs hdN ol = x := ⟨_, rfl⟩
                    have HES := Lib.hid hes
                    clear hes
                    have HRS : Hid (ExpS now (delC cs hdN ol)) := by have h := HST.out.2; rw [HGD.out] at h; exact h
                    have he0 : (es == 0) = false := by rw [beq_eq_false_iff_ne]; intro x; have := HST.out.1.1 (HES.out.trans x); rw [HGD.out] at this; cases this
                    clear HST
                    go_wp2_with fail
                    refine (del_mine hdN ol HK.out.mine HGO.out (by have := HK10.out; omega) (by decide) HRN.out.2).mono ?_
                    rintro e w5 ⟨rfl, hk5⟩
                    rw [HES.out]
                    have HK5 := Lib.hid hk5
                    clear hk5
                    go_wp2_with fail
                    go_meet
                    exact ⟨now, _, rfl, HK5.out, (HGO.out.del_ hdN ol).upto (by omega), HRS.out, HNL.out⟩
              · have h2' : (rk == 2) = false := by rw [beq_eq_false_iff_ne]; exact h2
                clear h1 h2
                go_wp2_with fail
                go_meet
                exact ⟨now, cs, rfl, HK.out.mine, HGO.out.upto (by omega), HEX.out, HNL.out⟩
          case rest =>
            obtain ⟨now', cs', rfl, hmine, hgo, hexp, hnl⟩ := hcut
            have HM5 := Lib.hid hmine
            have HGO5 := Lib.hid hgo
            have HGT := Lib.hid hexp.get_
            have HLS := Lib.hid hexp.get_.2.2.list_
            have HNL5 := Lib.hid hnl
            have htn' : (str now').toList = now' := str_toList _
            clear hmine hgo hexp hnl
            by_cases hne : now' = []
            · subst hne
              have HNE : Hid (([] : List UInt8) = []) := rfl
              obtain ⟨z2, z3⟩ := str_nil (p := []) rfl
              obtain ⟨ge, hge⟩ : ∃ x, getE cs' hdN = x := ⟨_, rfl⟩
              have HGE := Lib.hid hge
              clear hge
              have he0 : (ge == 0) = false := by rw [beq_eq_false_iff_ne]; intro x; exact HGT.out.2.1.1 (HGE.out.trans x) HNE.out
              go_wp2_with fail
              refine (get_mine hdN HM5.out HGO5.out (by have := HK10.out; omega) (by decide)).mono ?_
              rintro e w6 ⟨rfl, hm6⟩
              have HM6 := Lib.hid hm6
              rw [HGE.out, HGT.out.1]
              clear hm6
              go_wp2_with fail
              refine (list_mine HM6.out (HGO5.out.get_ hdN) (by have := HK10.out; omega)).mono ?_
              rintro e w7 ⟨LA, lc, rfl, hm7⟩
              have HM7 := Lib.hid hm7
              rw [HLS.out.1, HLS.out.2.1, if_pos HNE.out]
              clear hm7
              go_wp2_with fail
              refine (rflag_any false w7).mono ?_
              rintro e w8 ⟨rfl, rfl⟩
              go_wp2_with fail
              go_roundw
              case rel => exact ⟨k + 1, _, _, by omega, by go_num, rfl, HM7.out, (HGO5.out.get_ hdN).bg.upto (by omega), HLS.out.2.2, HNL5.out⟩
              case measure => simp [intOf]; omega
            · obtain ⟨z2, z3⟩ := str_some hne
              have HNE := Lib.hid hne
              have z4 : now'.isEmpty = false := by cases now' with | nil => exact absurd rfl hne | cons x y => rfl
              clear hne
              obtain ⟨ge, hge⟩ : ∃ x, getE cs' hdN = x := ⟨_, rfl⟩
              have HGE := Lib.hid hge
              clear hge
              have he0 : ge = 0 := HGE.out.symm.trans (HGT.out.2.1.2 HNE.out)
              subst he0
              go_wp2_with fail
              refine (get_mine hdN HM5.out HGO5.out (by have := HK10.out; omega) (by decide)).mono ?_
              rintro e w6 ⟨rfl, hm6⟩
              have HM6 := Lib.hid hm6
              rw [HGE.out, HGT.out.1]
              clear hm6
              go_wp2_with fail
              refine (list_mine HM6.out (HGO5.out.get_ hdN) (by have := HK10.out; omega)).mono ?_
              rintro e w7 ⟨LA, lc, rfl, hm7⟩
              have HM7 := Lib.hid hm7
              rw [HLS.out.1, HLS.out.2.1, if_neg HNE.out]
              clear hm7
              go_wp2_with fail
              refine (rflag_any true w7).mono ?_
              rintro e w8 ⟨rfl, rfl⟩
              go_wp2_with fail
              go_roundw
              case rel => exact ⟨k + 1, _, _, by omega, by go_num, rfl, HM7.out, (HGO5.out.get_ hdN).bg.upto (by omega), HLS.out.2.2, HNL5.out⟩
              case measure => simp [intOf]; omega
        · obtain rfl : k = n := by omega
          go_wp2_with fail
          refine (HEND.out wr hbm).mono ?_
          rintro e w4 ⟨rfl, hb4⟩
          have HB4 := Lib.hid hb4
          clear hb4 hbm
          go_wp2_with fail
          go_ret
          exact ⟨rfl, HB4.out⟩
end Go.Proofs.YtalnfiegkkkkgaaGreat.Tx
