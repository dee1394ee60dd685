/- Texts put together: WFx13. -/
import Derived.Test.YtpfjlhpahmhkhaaGreatQf13
/- The reference's file system: begin. -/
namespace Go.Proofs.YtpfjlhpahmhkhaaGreat.Tx
open Go.RowKit Go.Proofs.YtpfjlhpahmhkhaaGreat.Sh

/-- Events that are read. -/
def EvsTmp (F : Nat → Prop) (w : World) (v : Value) (l : List EvM) : Prop := TmpL evK F w v l
theorem RefX.evs {F : Nat → Prop} {w : World} {b : Nat} {st : FSM} {x : FsV} (h : RefX F w b st x) : ∃ (A : Option Addr) (c : Nat), x.plan = .slice A st.plan.length c ∧ st.plan.length ≤ c ∧ c ≤ maxLen ∧ EvsTmp F w (.slice A st.plan.length c) st.plan := by
  obtain ⟨A, c, h1, h2, h3⟩ := h.plan.tmp.slice
  refine ⟨A, c, h1, h2, h3, ?_⟩
  have := h.plan.tmp
  rw [h1] at this
  exact this
/-- An event's cells, in events that are read. -/
theorem ev_cells {F : Nat → Prop} {w : World} {A : Option Addr} {n c : Nat} {l : List EvM} (h : EvsTmp F w (.slice A n c) l) (k : Nat) (e : EvM) (hk : l[k]? = some e) :
    ∃ (ad : Addr) (dA : Option Addr) (dc : Nat), A = some ad ∧ By F w (.slice dA e.data.length dc) e.data ∧ w.cell? (ad.add (k * 7)) = some (.int .i64 e.at_) ∧ w.cell? ⟨(ad.add (k * 7)).block, (ad.add (k * 7)).off + 1, none⟩ = some (.int .i64 e.kind) ∧
      w.cell? ⟨(ad.add (k * 7)).block, (ad.add (k * 7)).off + 2, none⟩ = some (.int .i64 e.mode) ∧ w.cell? ⟨(ad.add (k * 7)).block, (ad.add (k * 7)).off + 3, none⟩ = some (.int .i64 e.keep) ∧ w.cell? ⟨(ad.add (k * 7)).block, (ad.add (k * 7)).off + 4, none⟩ = some (.int .i64 e.torn) ∧
      w.cell? ⟨(ad.add (k * 7)).block, (ad.add (k * 7)).off + 5, none⟩ = some (.string (str e.path)) ∧ w.cell? ⟨(ad.add (k * 7)).block, (ad.add (k * 7)).off + 6, none⟩ = some (.slice dA e.data.length dc) := by
  obtain ⟨ad, d, hA, hby, hc⟩ := TmpL.at_ h k e hk
  obtain ⟨dA, dc, rfl, _, _⟩ := By.slice (bs := e.data) hby
  have e' : ∀ j u, 0 < j → (evK.cells e (.slice dA e.data.length dc))[j]? = some u → w.cell? ⟨(ad.add (k * 7)).block, (ad.add (k * 7)).off + j, none⟩ = some u := fun j u hj hu => by
    rw [← add_field _ _ j hj]; exact hc j u hu
  exact ⟨ad, dA, dc, hA, hby, hc 0 _ rfl, e' 1 _ (by decide) rfl, e' 2 _ (by decide) rfl, e' 3 _ (by decide) rfl, e' 4 _ (by decide) rfl, e' 5 _ (by decide) rfl, e' 6 _ (by decide) rfl⟩
theorem beg_zero (st : FSM) : begM st 0 = ⟨false, false, { st with calls := st.calls + 1 }⟩ := rfl
/-- What has been done at the k-th event, in memory. -/
def BegAt (F M : Nat → Prop) (w : World) (b : Nat) (st : FSM) (k : Nat) (wr : World) : Prop := FsPost F M w b (begM st k).st wr

set_option maxRecDepth 100000 in
set_option maxHeartbeats 6400000 in
theorem rbegin_any (F M : Nat → Prop) (b : Nat) (st : FSM) (N : Nat) (w : World) (h : RefAt F w b st M) (hf : Fits st N) (hN : N + 2 * st.plan.length ≤ 900000) (hc : 0 ≤ st.calls ∧ st.calls ≤ 4000000000000) (hp : ∀ e ∈ st.plan, e.path.length ≤ 1000000) :
    Calls Tryz.prog 163 #[.pointer (some ⟨b, 0, none⟩)] w fun e w' => e = .returned (.tuple #[.bool (beginM st).full, .int .i64 (beginE st)]) ∧ FsPost F M w b (beginM st).st w' := by
  have H := Lib.hid h
  have HF := Lib.hid hf
  have HN := Lib.hid hN
  have HP := Lib.hid hp
  obtain ⟨x, hX, hM⟩ := h
  have c5 : w.cell? ⟨b, 5, none⟩ = some (.int .i64 st.calls) := hX.blk.cell 5
  have c5f : w.frozen? ⟨b, 5, none⟩ = false := hX.blk.frozen 5
  obtain ⟨cl, hcl⟩ : ∃ cl, st.calls = cl := ⟨_, rfl⟩
  rw [hcl] at c5 hc
  have hc1 := hc.1
  have hc2 := hc.2
  have HCL := Lib.hid hcl
  obtain ⟨pl, hpl⟩ : ∃ pl, st.plan.length = pl := ⟨_, rfl⟩
  have HPL := Lib.hid hpl
  have hpl9 : pl ≤ 450000 := by omega
  have HB0 : Hid (BegAt F M w b st 0 (w.setCell ⟨b, 5, none⟩ (.int .i64 (cl + 1)))) := by
    unfold Hid BegAt
    rw [beg_zero]
    exact cell_fin (st' := { st with calls := st.calls + 1 }) 5 (.int .i64 (cl + 1)) hX hM (by rw [← hcl]; rfl) rfl rfl rfl rfl rfl
  clear hX hM hf hN hp hcl hpl hc
  go_enter Tryz.func163, Tryz.ntmps163
  go_upto_region 2 with (fail)
  generalize w.setCell ⟨b, 5, none⟩ (.int .i64 (cl + 1)) = w0 at *
  go_wp2_with fail
  go_loopw [4, 5, 6] (fun u v i wr => ∃ k : Nat, k ≤ pl ∧ u = .bool (begM st k).full ∧ v = .bool (begM st k).broken ∧ i = .int .i64 k ∧ BegAt F M w b st k wr) (fun _ _ i _ => pl - (intOf i).toNat)
  case atStart => exact ⟨0, Nat.zero_le _, rfl, rfl, rfl, HB0.out⟩
  case round =>
    obtain ⟨k, hk, rfl, rfl, rfl, hbg⟩ := hrel
    have HBG := Lib.hid hbg
    obtain ⟨M1, hat, hon, hsub⟩ := hbg
    obtain ⟨y, hY, hM1⟩ := hat
    have HKE := Lib.hid (beg_keeps st k)
    have y7 : wr.cell? ⟨b, 7, none⟩ = some (.bool (begM st k).st.down) := hY.blk.cell 7
    have y5 : wr.cell? ⟨b, 5, none⟩ = some (.int .i64 (cl + 1)) := by
      have := hY.blk.cell 5
      rw [← HCL.out, ← HKE.out.2.1]; exact this
    obtain ⟨PA, pc, hPA, hpc1, hpc2, hptmp⟩ := hY.evs
    have hl2 : (begM st k).st.plan.length = pl := by rw [HKE.out.1]; exact HPL.out
    have y4 : wr.cell? ⟨b, 4, none⟩ = some (.slice PA pl pc) := by rw [← hl2, ← hPA]; exact hY.blk.cell 4
    rw [hl2] at hpc1 hptmp
    rw [HKE.out.1] at hptmp
    have hblt := hY.blk.lt
    have HON := Lib.hid hon
    have HSUB := Lib.hid hsub
    have HY := Lib.hid hY
    have HM1 := Lib.hid hM1
    have HPT := Lib.hid hptmp
    unfold maxLen at hpc2
    clear hY hM1 hon hsub hptmp hPA hl2
    obtain ⟨fu, hfu⟩ : ∃ fu, (begM st k).full = fu := ⟨_, rfl⟩
    obtain ⟨br, hbr⟩ : ∃ br, (begM st k).broken = br := ⟨_, rfl⟩
    obtain ⟨dn, hdn⟩ : ∃ dn, (begM st k).st.down = dn := ⟨_, rfl⟩
    rw [hdn] at y7
    rw [hfu, hbr]
    have HFU := Lib.hid hfu
    have HBR := Lib.hid hbr
    have HDN := Lib.hid hdn
    clear hfu hbr hdn
    have k0 : (0 : Int) ≤ (k : Int) := by omega
    by_cases hlt : k < pl
    · have k1 : (k : Int) < (pl : Int) := by omega
      obtain ⟨e, he⟩ : ∃ e, st.plan[k]? = some e := ⟨_, List.getElem?_eq_getElem (by rw [HPL.out]; omega)⟩
      obtain ⟨ad, dA, dc, rfl, hby, x0, x1, x2, x3, x4, x5, x6⟩ := ev_cells HPT.out k e he
      have HNX := Lib.hid (beg_next he)
      have HBY := Lib.hid hby
      have HPE := Lib.hid (HP.out e (List.mem_of_getElem? he))
      have HFE := Lib.hid (HF.out.beg k)
      obtain ⟨wb, hwb⟩ : ∃ wb, wb = wr.alloc (.cells #[.int .i64 e.at_, .int .i64 e.kind, .int .i64 e.mode, .int .i64 e.keep, .int .i64 e.torn, .string (str e.path), .slice dA e.data.length dc] 169) := ⟨_, rfl⟩
      have hBb : Below wr.heap.size wr wb := by rw [hwb]; exact (Below.refl _ _).alloc (Nat.le_refl _) _
      have hbox : Blk wb wr.heap.size 169 #[.int .i64 e.at_, .int .i64 e.kind, .int .i64 e.mode, .int .i64 e.keep, .int .i64 e.torn, .string (str e.path), .slice dA e.data.length dc] := by rw [hwb]; exact Blk.new _ _ _
      have z0 : wb.cell? ⟨wr.heap.size, 0, none⟩ = some (.int .i64 e.at_) := hbox.cell 0
      have z1 : wb.cell? ⟨wr.heap.size, 1, none⟩ = some (.int .i64 e.kind) := hbox.cell 1
      have z2 : wb.cell? ⟨wr.heap.size, 2, none⟩ = some (.int .i64 e.mode) := hbox.cell 2
      have z3 : wb.cell? ⟨wr.heap.size, 3, none⟩ = some (.int .i64 e.keep) := hbox.cell 3
      have z4 : wb.cell? ⟨wr.heap.size, 4, none⟩ = some (.int .i64 e.torn) := hbox.cell 4
      have z5 : wb.cell? ⟨wr.heap.size, 5, none⟩ = some (.string (str e.path)) := hbox.cell 5
      have z6 : wb.cell? ⟨wr.heap.size, 6, none⟩ = some (.slice dA e.data.length dc) := hbox.cell 6
      have y5b : wb.cell? ⟨b, 5, none⟩ = some (.int .i64 (cl + 1)) := by
        have := (HY.out.blk.below hBb hblt).cell 5
        rw [← HCL.out, ← HKE.out.2.1]; exact this
      have HATB : Hid (∀ n, RefAt (grow F w wr M1) (wb.drewN n) b (begM st k).st M1) := fun n => RefAt.below ⟨y, HY.out, HM1.out⟩ (below_drewN hBb n)
      have HSTEP : Hid (∀ n st2 w2, FsPost (grow F w wr M1) M1 (wb.drewN n) b st2 w2 → FsPost F M w b st2 w2) := fun n _ _ h => FsPost.trans HON.out HSUB.out (FsPost.of_below (below_drewN hBb n) h)
      have HBYB : Hid (∀ n, By (grow F w wr M1) (wb.drewN n) (.slice dA e.data.length dc) e.data) := fun n => hby.only (Only.of_below (M := fun _ => False) (below_drewN hBb n)) (fun _ _ => id)
      clear he hby hbox hBb
      go_upto_region 7 with (fail)
      rw [← hwb]
      obtain ⟨ea, hea⟩ : ∃ ea, e.at_ = ea := ⟨_, rfl⟩
      obtain ⟨q, hq⟩ : ∃ q, e.kind = q := ⟨_, rfl⟩
      have HEA := Lib.hid hea
      have HQ := Lib.hid hq
      rw [hea, hq]
      rw [hea] at z0
      rw [hq] at z1
      clear hwb x0 x1 x2 x3 x4 x5 x6 y4 y5 y7 hea hq
      have HC9 : Hid ((begM st k).st.calls = cl + 1) := by unfold Hid; rw [HKE.out.2.1, HCL.out]
      have hnw := HN.out
      rw [HPL.out] at hnw
      have hbig : N + 2 * k + 2 ≤ 900000 := by omega
      have HBIG := Lib.hid hbig
      have HSAME : Hid (∀ n, FsPost F M w b (begM st k).st (wb.drewN n)) := fun n => HSTEP.out n _ _ (FsPost.refl (HATB.out n))
      clear hnw hbig
      by_cases hne : ea = cl + 1
      · subst hne
        by_cases h1 : q = 1
        · subst h1
          have HE : Hid (begM st (k + 1) = { begM st k with st := crashM (begM st k).st e.keep e.torn }) := by
            unfold Hid
            rw [HNX.out]
            unfold evM
            rw [if_pos (by rw [HEA.out, HC9.out]), if_pos HQ.out]
          go_quiet (fail)
          go_wp2_with fail
          refine (rcrash_any _ M1 b (begM st k).st e.keep e.torn _ (HATB.out _) (by have := HFE.out.both; have := HBIG.out; omega) (fun o ho => by have := (HFE.out.prow o ho).2; omega)).mono ?_
          rintro e2 w2 ⟨rfl, hpost⟩
          have HP2 := Lib.hid (HSTEP.out _ _ _ hpost)
          clear hpost
          go_wp2_with fail
          go_roundw
          case rel => exact ⟨k + 1, by omega, by rw [HE.out]; exact congrArg Value.bool HFU.out.symm, by rw [HE.out]; exact congrArg Value.bool HBR.out.symm, by go_num, by unfold BegAt; rw [HE.out]; exact HP2.out⟩
          case measure => simp [intOf]; omega
        · have e1 : (q == 1) = false := by rw [beq_eq_false_iff_ne]; exact h1
          by_cases h2 : q = 2
          · subst h2
            have HE : Hid (begM st (k + 1) = { begM st k with full := true }) := by
              unfold Hid
              rw [HNX.out]
              unfold evM
              rw [if_pos (by rw [HEA.out, HC9.out]), if_neg (by rw [HQ.out]; exact h1), if_pos HQ.out]
            clear h1 e1
            go_quiet (fail)
            go_wp2_with fail
            go_roundw
            case rel => exact ⟨k + 1, by omega, by rw [HE.out], by rw [HE.out]; exact congrArg Value.bool HBR.out.symm, by go_num, by unfold BegAt; rw [HE.out]; exact HSAME.out _⟩
            case measure => simp [intOf]; omega
          · have e2 : (q == 2) = false := by rw [beq_eq_false_iff_ne]; exact h2
            by_cases h3 : q = 3
            · subst h3
              have HE : Hid (begM st (k + 1) = { begM st k with broken := true }) := by
                unfold Hid
                rw [HNX.out]
                unfold evM
                rw [if_pos (by rw [HEA.out, HC9.out]), if_neg (by rw [HQ.out]; exact h1), if_neg (by rw [HQ.out]; exact h2), if_pos HQ.out]
              clear h1 e1 h2 e2
              go_quiet (fail)
              go_wp2_with fail
              go_roundw
              case rel => exact ⟨k + 1, by omega, by rw [HE.out]; exact congrArg Value.bool HFU.out.symm, by rw [HE.out], by go_num, by unfold BegAt; rw [HE.out]; exact HSAME.out _⟩
              case measure => simp [intOf]; omega
            · have e3 : (q == 3) = false := by rw [beq_eq_false_iff_ne]; exact h3
              by_cases h4 : q = 4
              · subst h4
                have HE : Hid (begM st (k + 1) = { begM st k with st := userWM (begM st k).st e.path e.mode e.data }) := by
                  unfold Hid
                  rw [HNX.out]
                  unfold evM
                  rw [if_pos (by rw [HEA.out, HC9.out]), if_neg (by rw [HQ.out]; exact h1), if_neg (by rw [HQ.out]; exact h2), if_neg (by rw [HQ.out]; exact h3), if_pos HQ.out]
                clear h1 e1 h2 e2 h3 e3
                go_quiet (fail)
                go_wp2_with fail
                refine (ruserw_any _ M1 b (begM st k).st e.path e.mode (.slice dA e.data.length dc) e.data _ (HATB.out _) _ (HBYB.out _) (fun j hj hm => HY.out.apart j hj ((HM1.out j).1 hm)) HPE.out (fun r hr => by have := (HFE.out.nrow r hr).1; omega) (HFE.out.used (by have := HBIG.out; omega)) ⟨HFE.out.time0, by have := HFE.out.time; have := HBIG.out; omega⟩
                  (by have := HFE.out.now; have := HBIG.out; omega) (by have := HFE.out.both; have := HBIG.out; omega) (by have := (HFE.out.put e.path e.mode e.data false false 1152921504606846976).now; have := HBIG.out; omega) (by have := HFE.out.user; have := HBIG.out; omega)).mono ?_
                rintro e2 w2 ⟨rfl, hpost⟩
                have HP2 := Lib.hid (HSTEP.out _ _ _ hpost)
                clear hpost
                go_wp2_with fail
                go_roundw
                case rel => exact ⟨k + 1, by omega, by rw [HE.out]; exact congrArg Value.bool HFU.out.symm, by rw [HE.out]; exact congrArg Value.bool HBR.out.symm, by go_num, by unfold BegAt; rw [HE.out]; exact HP2.out⟩
                case measure => simp [intOf]; omega
              · have e4 : (q == 4) = false := by rw [beq_eq_false_iff_ne]; exact h4
                by_cases h5 : q = 5
                · subst h5
                  have HE : Hid (begM st (k + 1) = { begM st k with st := userRM (begM st k).st e.path }) := by
                    unfold Hid
                    rw [HNX.out]
                    unfold evM
                    rw [if_pos (by rw [HEA.out, HC9.out]), if_neg (by rw [HQ.out]; exact h1), if_neg (by rw [HQ.out]; exact h2), if_neg (by rw [HQ.out]; exact h3), if_neg (by rw [HQ.out]; exact h4), if_pos HQ.out]
                  clear h1 e1 h2 e2 h3 e3 h4 e4
                  go_quiet (fail)
                  go_wp2_with fail
                  refine (ruserr_any _ M1 b (begM st k).st e.path _ (HATB.out _) HPE.out ⟨HFE.out.time0, by have := HFE.out.time; have := HBIG.out; omega⟩
                    (by have := HFE.out.now; have := HBIG.out; omega) (by have := HFE.out.both; have := HBIG.out; omega) (by have := (HFE.out.drop e.path).now; have := HBIG.out; omega) (by have := HFE.out.user; have := HBIG.out; omega)).mono ?_
                  rintro e2 w2 ⟨rfl, hpost⟩
                  have HP2 := Lib.hid (HSTEP.out _ _ _ hpost)
                  clear hpost
                  go_wp2_with fail
                  go_roundw
                  case rel => exact ⟨k + 1, by omega, by rw [HE.out]; exact congrArg Value.bool HFU.out.symm, by rw [HE.out]; exact congrArg Value.bool HBR.out.symm, by go_num, by unfold BegAt; rw [HE.out]; exact HP2.out⟩
                  case measure => simp [intOf]; omega
                · have e5 : (q == 5) = false := by rw [beq_eq_false_iff_ne]; exact h5
                  have HE : Hid (begM st (k + 1) = begM st k) := by
                    unfold Hid
                    rw [HNX.out]
                    unfold evM
                    rw [if_pos (by rw [HEA.out, HC9.out]), if_neg (by rw [HQ.out]; exact h1), if_neg (by rw [HQ.out]; exact h2), if_neg (by rw [HQ.out]; exact h3), if_neg (by rw [HQ.out]; exact h4), if_neg (by rw [HQ.out]; exact h5)]
                  clear h1 h2 h3 h4 h5
                  go_quiet (fail)
                  go_wp2_with fail
                  go_roundw
                  case rel => exact ⟨k + 1, by omega, by rw [HE.out]; exact congrArg Value.bool HFU.out.symm, by rw [HE.out]; exact congrArg Value.bool HBR.out.symm, by go_num, by unfold BegAt; rw [HE.out]; exact HSAME.out _⟩
                  case measure => simp [intOf]; omega
      · have hne' : (ea == cl + 1) = false := by rw [beq_eq_false_iff_ne]; exact hne
        have HE : Hid (begM st (k + 1) = begM st k) := by
          unfold Hid
          rw [HNX.out]
          unfold evM
          rw [if_neg (by rw [HEA.out, HC9.out]; exact hne)]
        clear hne
        go_quiet (fail)
        go_wp2_with fail
        go_roundw
        case rel => exact ⟨k + 1, by omega, by rw [HE.out]; exact congrArg Value.bool HFU.out.symm, by rw [HE.out]; exact congrArg Value.bool HBR.out.symm, by go_num, by unfold BegAt; rw [HE.out]; exact HSAME.out _⟩
        case measure => simp [intOf]; omega
    · obtain rfl : k = pl := by omega
      have HBM : Hid (beginM st = begM st k) := by unfold Hid beginM; rw [HPL.out]
      clear hlt
      have HFIN := Lib.hid (show FsPost F M w b (beginM st).st wr by rw [HBM.out]; exact HBG.out)
      cases dn with
      | true =>
        have HEE : Hid (beginE st = 12) := by unfold Hid beginE; rw [HBM.out, if_pos HDN.out]
        go_wp2_with fail
        go_ret2
        exact ⟨by rw [HEE.out, HBM.out, HFU.out]; rfl, HFIN.out⟩
      | false =>
        cases br with
        | true =>
          have HEE : Hid (beginE st = 11) := by unfold Hid beginE; rw [HBM.out, if_neg (by rw [HDN.out]; decide), if_pos HBR.out]
          go_wp2_with fail
          go_ret2
          exact ⟨by rw [HEE.out, HBM.out, HFU.out]; rfl, HFIN.out⟩
        | false =>
          have HEE : Hid (beginE st = 0) := by unfold Hid beginE; rw [HBM.out, if_neg (by rw [HDN.out]; decide), if_neg (by rw [HBR.out]; decide)]
          go_wp2_with fail
          go_ret2
          exact ⟨by rw [HEE.out, HBM.out, HFU.out]; rfl, HFIN.out⟩
end Go.Proofs.YtpfjlhpahmhkhaaGreat.Tx
