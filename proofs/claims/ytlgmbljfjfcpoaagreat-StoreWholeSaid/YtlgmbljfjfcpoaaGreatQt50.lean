/- Texts put together: YSr8. -/
import Derived.Test.YtlgmbljfjfcpoaaGreatQt49
/- marlaw7.StoreWhole: the walk. -/
set_option linter.unusedVariables false
set_option linter.unusedSimpArgs false
namespace Go.Proofs.YtlgmbljfjfcpoaaGreat.Tx
open Go.RowKit Go.Maps Go.Proofs.YtlgmbljfjfcpoaaGreat.Sh

theorem pathsM_len (R : List RowM) : (pathsM R).length = R.length := by unfold pathsM; rw [List.length_map]
theorem below_drewN7 (B : Nat) (w : World) (n : Nat) : RowKit.Below B w (w.drewN n) := ⟨rfl, rfl, rfl, Nat.le_refl _, fun k hk => rfl⟩
/-- What Put told of. -/
def Said (c : CSt) (ts : List (List UInt8)) : Prop := ∀ t ∈ ts, HasT c t ∧ t.length = 64
theorem Said.put {c : CSt} {ts : List (List UInt8)} (h : Said c ts) (hs : SInv c) (b : List UInt8) : Said (sptC c b) ts := fun t ht => ⟨(h t ht).1.put hs b, (h t ht).2⟩
theorem Said.more {c : CSt} {ts : List (List UInt8)} (h : Said c ts) (hs : SInv c) {b : List UInt8} (he : sptE c b = 0) : Said (sptC c b) (ts ++ [idL b]) := fun t ht => by
  rcases List.mem_append.1 ht with ht | ht
  · exact h.put hs b t ht
  · rw [List.mem_singleton.1 ht]
    exact ⟨hs.said he, idL_len b⟩
set_option maxRecDepth 100000 in
set_option maxHeartbeats 12800000 in
theorem whole_any (G : Nat → Prop) (a0 : Option Addr) (n cap0 : Nat) (AA : Nat → Option Addr) (LL CC : Nat → Nat) (RR : Nat → List UInt8) (v : Value) (l : List EvM) (room keep torn : Int) (w : World) (hr : RowsAt w a0 AA LL CC RR n) (hnm : n ≤ maxLen) (h : InL evK G w v l) (hG : ∀ k, G k → k < w.heap.size) (hdl : ∀ e ∈ l, e.data.length ≤ 140737488351232) :
    Calls Tryz.prog 3 #[.int .i64 room, .slice a0 n cap0, v, .int .i64 keep, .int .i64 torn] w (Yes w) := by
  have HL := Lib.hid h
  have HG := Lib.hid hG
  have HDL := Lib.hid hdl
  have HRR := Lib.hid hr
  obtain ⟨A, c, rfl, hlc, hcm⟩ := evs_slice h.tmp
  obtain ⟨m, hmm⟩ : ∃ m, l.length = m := ⟨_, rfl⟩
  have HM := Lib.hid hmm
  rw [hmm] at hlc HL ⊢
  unfold maxLen at hcm hnm
  clear h hmm hG hdl hr
  go_enter Tryz.func3, Tryz.ntmps3
  go_wp2_with fail
  refine (sfirst_any w).mono ?_
  rintro e w1 ⟨rfl, hb1⟩
  have HB1 := Lib.hid hb1
  clear hb1
  go_upto_block 0 with (fail)
  go_cut [11] (fun u wx => ∃ j : Int, u = .int .i64 j ∧ RowKit.Below w.heap.size w wx)
  case first =>
    go_wp2_with fail
    go_loopw [11, 12] (fun u i wr => ∃ (j : Int) (k : Nat), k ≤ n ∧ u = .int .i64 j ∧ i = .int .i64 k ∧ RowKit.Below w.heap.size w wr) (fun _ i _ => n - (intOf i).toNat)
    case atStart => exact ⟨0, 0, by omega, rfl, rfl, HB1.out⟩
    case round =>
      obtain ⟨j, k, hk, rfl, rfl, hb⟩ := hrel
      have HB := Lib.hid hb
      have k0 : (0 : Int) ≤ (k : Int) := by omega
      by_cases hlt : k < n
      · have k1 : (k : Int) < (n : Int) := by omega
        by_cases h60 : k < 60
        · have k6 : (k : Int) < (60 : Int) := by omega
          obtain ⟨ad, rfl, hba, hc, _, hsl⟩ := (HRR.out.below hb) k hlt
          clear hba hsl hb
          go_wp2_with fail
          go_roundw
          case rel => exact ⟨_, k + 1, by omega, rfl, by go_num, HB.out⟩
          case measure => simp [intOf]; omega
        · have k6 : ¬ (k : Int) < (60 : Int) := by omega
          clear hb
          go_wp2_with fail
          go_meet
          exact ⟨_, rfl, HB.out⟩
      · have k1 : ¬ (k : Int) < (n : Int) := by omega
        clear hb
        go_wp2_with fail
        go_meet
        exact ⟨_, rfl, HB.out⟩
  case rest =>
    obtain ⟨j, rfl, hb2⟩ := hcut
    have HB2 := Lib.hid hb2
    clear hb2
    have HEND : Hid (∀ w', Below w.heap.size w w' → Calls Tryz.prog 5 #[] w' fun e w'' => e = .returned (.bool true) ∧ Below w.heap.size w w'') := fun w' hb => (sfirst_any w').mono fun e w'' h => ⟨h.1, hb.trans (h.2.mono hb.size)⟩
    go_wp2_with fail
    refine (new_any (fun _ => False) room wc (fun _ h => h.elim)).mono ?_
    rintro e w3 ⟨hb3, ⟨h1, rfl⟩ | ⟨h1, b0, M, _, hM, rfl, hat⟩⟩
    · have HB3 := Lib.hid (HB2.out.trans (hb3.mono HB2.out.size))
      clear hb3 h1
      go_wp2_with fail
      refine (HEND.out w3 HB3.out).mono ?_
      rintro e w4 ⟨rfl, hb4⟩
      have HB4 := Lib.hid hb4
      clear hb4
      go_wp2_with fail
      go_ret
      exact ⟨rfl, HB4.out⟩
    have H3 : Hid (Mine w w3 b0 (newC room)) := ⟨_, M, hat, fun k hk => Nat.le_trans HB2.out.size (hM k hk), HB2.out.trans (hb3.mono HB2.out.size)⟩
    clear hb3 hM hat h1
    go_upto_region 9 with (fail)
    go_cut [74] (fun cv wx => ∃ t, cv = .bool t ∧ Mine w wx b0 (newC room) ∧ (t = false → n ≤ 60 ∧ m ≤ 60 ∧ ∀ e ∈ l, e.path.length ≤ 400))
    case first =>
      by_cases hn60 : 60 < n
      · have k6 : (60 : Int) < (n : Int) := by omega
        clear hn60
        go_wp2_with fail
        go_meet
        exact ⟨true, rfl, H3.out, fun h => (by cases h)⟩
      have k6 : ¬ (60 : Int) < (n : Int) := by omega
      by_cases hj : 40000 < j
      · go_wp2_with fail
        go_meet
        exact ⟨true, rfl, H3.out, fun h => (by cases h)⟩
      have HL2 : Hid (InL evK G w3 (.slice A m c) l) := by obtain ⟨_, _, _, _, hbm⟩ := H3.out; exact HL.out.below hbm
      go_wp2_with fail
      refine (fewev_any G _ l w3 HL2.out.tmp).mono ?_
      rintro e w4 ⟨tf, rfl, htf, hb4⟩
      have H4 := Lib.hid (H3.out.below hb4)
      have HTF := Lib.hid htf
      clear hb4 htf
      cases tf with
      | false =>
        go_wp2_with fail
        go_meet
        exact ⟨true, rfl, H4.out, fun h => (by cases h)⟩
      | true =>
        have HF := Lib.hid (HTF.out rfl)
        clear HTF
        go_wp2_with fail
        go_meet
        exact ⟨false, by simp [k6, hj], H4.out, fun _ => ⟨by omega, by have h := HF.out.1; rw [HM.out] at h; exact h, HF.out.2⟩⟩
    case rest =>
      obtain ⟨t, rfl, hm3, ht⟩ := hcut
      have HM3 := Lib.hid hm3
      have HT := Lib.hid ht
      clear hm3 ht
      cases t with
      | true =>
        go_wp2_with fail
        obtain ⟨_, _, _, _, hbm⟩ := HM3.out
        refine (HEND.out _ hbm).mono ?_
        rintro e w4 ⟨rfl, hb4⟩
        have HB4 := Lib.hid hb4
        clear hb4 hbm
        go_wp2_with fail
        go_ret
        exact ⟨rfl, HB4.out⟩
      | false =>
        have HPRE := Lib.hid (HT.out rfl)
        clear HT
        have hn60 : n ≤ 60 := HPRE.out.1
        have hm60 : m ≤ 60 := HPRE.out.2.1
        go_wp2_with fail
        go_loopw [15] (fun i wr => ∃ k : Nat, k ≤ m ∧ i = .int .i64 k ∧ Mine w wr b0 (newC room) ∧ ∀ e ∈ l.take k, e.kind ≠ 4 ∧ e.kind ≠ 5) (fun i _ => m - (intOf i).toNat)
        case atStart => exact ⟨0, by omega, rfl, HM3.out, fun e he => (by simp at he)⟩
        case round =>
          obtain ⟨k, hk, rfl, hm, hks⟩ := hrel
          have HMR := Lib.hid hm
          have HKS := Lib.hid hks
          have hbm : Below w.heap.size w wr := by obtain ⟨_, _, _, _, hbm⟩ := hm; exact hbm
          clear hm hks
          have k0 : (0 : Int) ≤ (k : Int) := by omega
          by_cases hlt : k < m
          · have k1 : (k : Int) < (m : Int) := by omega
            obtain ⟨ev, he⟩ : ∃ e, l[k]? = some e := ⟨_, List.getElem?_eq_getElem (by rw [HM.out]; exact hlt)⟩
            obtain ⟨ad, dA, dc, rfl, hby, x0, x1, x2, x3, x4, x5, x6⟩ := ev_cells (show EvsTmp G wr (.slice A m c) l from (HL.out.below hbm).tmp) k ev he
            have HX : Hid (l.take (k + 1) = l.take k ++ [ev]) := by
              obtain ⟨hl, e1⟩ := List.getElem?_eq_some_iff.1 he
              show l.take (k + 1) = l.take k ++ [ev]
              rw [List.take_succ_eq_append_getElem hl, e1]
            obtain ⟨kd, hkd⟩ : ∃ x, ev.kind = x := ⟨_, rfl⟩
            rw [hkd] at x1
            have HKD := Lib.hid hkd
            clear hby x0 x2 x3 x4 x5 x6 he hkd
            by_cases h4 : kd = 4
            · subst h4
              go_wp2_with fail
              refine (HEND.out wr hbm).mono ?_
              rintro e w4 ⟨rfl, hb4⟩
              have HB4 := Lib.hid hb4
              clear hb4 hbm
              go_wp2_with fail
              go_ret
              exact ⟨rfl, HB4.out⟩
            · have y4 : (kd == 4) = false := by rw [beq_eq_false_iff_ne]; exact h4
              by_cases h5 : kd = 5
              · subst h5
                clear h4 y4
                go_wp2_with fail
                refine (HEND.out wr hbm).mono ?_
                rintro e w4 ⟨rfl, hb4⟩
                have HB4 := Lib.hid hb4
                clear hb4 hbm
                go_wp2_with fail
                go_ret
                exact ⟨rfl, HB4.out⟩
              · have y5 : (kd == 5) = false := by rw [beq_eq_false_iff_ne]; exact h5
                have H45 : Hid (kd ≠ 4 ∧ kd ≠ 5) := ⟨h4, h5⟩
                clear h4 h5 hbm
                go_wp2_with fail
                go_roundw
                case rel =>
                  refine ⟨k + 1, by omega, by go_num, HMR.out, fun e he => ?_⟩
                  rw [HX.out] at he
                  rcases List.mem_append.1 he with he | he
                  · exact HKS.out e he
                  · rw [List.mem_singleton.1 he, HKD.out]; exact H45.out
                case measure => simp [intOf]; omega
          · obtain rfl : m = k := by omega
            have HKA : Hid (∀ e ∈ l, e.kind ≠ 4 ∧ e.kind ≠ 5) := by
              have h := HKS.out
              rw [List.take_of_length_le (Nat.le_of_eq HM.out)] at h
              exact h
            clear hbm
            go_wp2_with fail
            refine (plan_in HMR.out HL.out HG.out (by rw [HM.out]; omega) HDL.out).mono ?_
            rintro e w5 ⟨rfl, R, hR, hm5⟩
            have HRK : Hid ((∀ e ∈ R, e.kind ≠ 4 ∧ e.kind ≠ 5) ∧ R.length ≤ 60 ∧ ∀ e ∈ R, e.path.length ≤ 400) := by
              refine ⟨fun e he => HKA.out e (hR.mem e he).1, ?_, fun e he => HPRE.out.2.2 e (hR.mem e he).1⟩
              rw [hR.len]
              have h1 := List.length_filter_le (fun e : EvM => decide ((newC room).calls < e.at_)) l
              rw [HM.out] at h1
              omega
            obtain ⟨c3, hc3⟩ : ∃ x : CSt, x = { newC room with plan := R } := ⟨_, rfl⟩
            have HJ3 : Hid (SInv c3) := by rw [hc3]; exact (SInv.new_ room).planned HRK.out.1
            have HG3 : Hid (GoC c3 0) := by rw [hc3]; exact ⟨(GoC.new_ room).fits.plan R, (GoC.new_ room).calls, HRK.out.2.1, HRK.out.2.2⟩
            rw [← hc3] at hm5
            have HM5 := Lib.hid (MineP.start hm5)
            clear hR hm5 hc3 hm60
            go_wp2_with fail
            refine (open_any HM5.out).mono ?_
            rintro e w6 ⟨s, rfl, hs6, _⟩
            have HS6 := Lib.hid (Told.start hs6)
            clear hs6
            go_wp2_with fail
            go_loopw [17, 18] (fun u i wr => ∃ (k : Nat) (c : CSt) (ts : List (List UInt8)), k ≤ n ∧ i = .int .i64 k ∧ Told w wr b0 c s u ts ∧ SInv c ∧ GoC c (3 * k) ∧ ts.length ≤ k ∧ Said c ts) (fun _ i _ => n - (intOf i).toNat)
            case atStart => exact ⟨0, c3, [], by omega, rfl, HS6.out, HJ3.out, HG3.out, Nat.le_refl _, fun t ht => (by cases ht)⟩
            case round =>
              obtain ⟨k, ck, ts, hk, rfl, hto, hsi, hgo, htl, hsd⟩ := hrel
              have HTO := Lib.hid hto
              have HSI := Lib.hid hsi
              have HGO := Lib.hid hgo
              have HSD := Lib.hid hsd
              have HTL := Lib.hid htl
              clear hto hsi hgo hsd htl
              have k0 : (0 : Int) ≤ (k : Int) := by omega
              have hbm : Below w.heap.size w wr := HTO.out.1.bel
              by_cases hlt : k < n
              · have k1 : (k : Int) < (n : Int) := by omega
                obtain ⟨ad, rfl, hba, hc, _, hsl⟩ := (HRR.out.below hbm) k hlt
                have HBY : Hid (By (Low w) wr (.slice (AA k) (LL k) (CC k)) (RR k)) := by
                  obtain ⟨_, _, _, _, _, hsl0⟩ := HRR.out k hlt
                  exact (by_of_sl hsl0).only (Only.of_below (M := fun _ => False) hbm) (fun _ _ => id)
                clear hba hsl hbm
                go_wp2_with fail
                refine (sputs_any _ (RR k) HTO.out.1 HGO.out (by omega) HBY.out (fun j hj => .inl hj)).mono ?_
                rintro e w7 ⟨rfl, hs7, hk7⟩
                have HTO7 := Lib.hid (HTO.out.keeps hs7 hk7)
                obtain ⟨er, her⟩ : ∃ x, sptE ck (RR k) = x := ⟨_, rfl⟩
                have HER := Lib.hid her
                have hz7 : w.heap.size ≤ w7.heap.size := HTO7.out.1.bel.size
                rw [her]
                clear hs7 hk7 her
                by_cases h0 : er = 0
                · subst h0
                  have HV : Hid (sptV ck (RR k) = idL (RR k)) := by unfold Hid sptV; rw [if_pos HER.out]
                  rw [HV.out]
                  obtain ⟨id, hid⟩ : ∃ x, idL (RR k) = x := ⟨_, rfl⟩
                  have HID := Lib.hid hid
                  rw [hid]
                  clear hid
                  have hsm : (ts.map str).length + 1 ≤ 2000000 := by rw [List.length_map]; have := HTL.out; omega
                  go_wp2_with (at_builtin; refine append_text_g rfl (.tmp 128) (.tmp 130) rfl w7 w.heap.size u17 (ts.map str) rfl HTO7.out.2 (str id) rfl hsm hz7 ?_; intro v8 w8 ho8 hg8 hk8; have HO8 := Lib.hid ho8; have HG8 := Lib.hid hg8; have HK8 := Lib.hid hk8; clear ho8 hg8 hk8)
                  go_roundw
                  case rel =>
                    refine ⟨k + 1, sptC ck (RR k), ts ++ [id], by omega, by go_num, ?_, HSI.out.put _, HGO.out.put (RR k), by rw [List.length_append, List.length_singleton]; have := HTL.out; omega, ?_⟩
                    · exact (HTO7.out.below ((Below.refl _ _).alloc (Nat.le_refl _) _)).app HG8.out (by simpa using HO8.out) HK8.out
                    · rw [← HID.out]; exact HSD.out.more HSI.out HER.out
                  case measure => simp [intOf]; omega
                · have HV : Hid (sptV ck (RR k) = []) := by unfold Hid sptV; rw [HER.out, if_neg h0]
                  rw [HV.out]
                  obtain ⟨z2, z3⟩ := str_nil (p := []) rfl
                  have y0 : (er == 0) = false := by rw [beq_eq_false_iff_ne]; exact h0
                  clear h0
                  go_wp2_with fail
                  go_roundw
                  case rel => exact ⟨k + 1, sptC ck (RR k), ts, by omega, by go_num, HTO7.out, HSI.out.put _, HGO.out.put (RR k), by have := HTL.out; omega, HSD.out.put HSI.out _⟩
                  case measure => simp [intOf]; omega
              · obtain rfl : n = k := by omega
                clear hbm
                refine withS fun hid => ?_
                let rec auxd : domS hid := by
                  clear auxd
                  delta domS
                  clear hid
                  have HGN : Hid (GoC ck 180) := HGO.out.upto (by omega)
                  have HTN : Hid (ts.length ≤ 60) := Nat.le_trans HTL.out hn60
                  go_wp2_with fail
                  refine (up7 HTO.out.mine).mono ?_
                  rintro e w7 ⟨rfl, rfl⟩
                  obtain ⟨dn, hdn⟩ : ∃ x, ck.down = x := ⟨_, rfl⟩
                  have HDN := Lib.hid hdn
                  rw [hdn]
                  clear hdn
                  obtain ⟨wq, hwq⟩ : ∃ x, x = wr := ⟨_, rfl⟩
                  subst hwq
                  go_upto_if 135 with (fail)
                  go_cut [] (fun wx => Mine w wx b0 ck)
                  case first =>
                    cases dn with
                    | true =>
                      go_wp2_with fail
                      go_meet
                      exact HTO.out.mine
                    | false =>
                      obtain ⟨tA, tc, hu17, _, _⟩ := HTO.out.2.length
                      simp only [List.length_map] at hu17
                      obtain ⟨tn, htn⟩ : ∃ x, ts.length = x := ⟨_, rfl⟩
                      have HTNN := Lib.hid htn
                      have htn60 : tn ≤ 60 := by rw [← htn]; exact HTN.out
                      rw [htn] at hu17
                      subst hu17
                      have HOT : Hid (OwnV 9 wq w.heap.size (.slice tA tn tc) ((ts.map str).map sv)) := HTO.out.2
                      have HMM7 := Lib.hid HTO.out.mine
                      clear htn
                      go_wp2_with fail
                      go_loopw [21] (fun i wx => ∃ k : Nat, k ≤ tn ∧ i = .int .i64 k ∧ Mine w wx b0 ck ∧ RowKit.Below wq.heap.size wq wx) (fun i _ => tn - (intOf i).toNat)
                      case atStart => exact ⟨0, by omega, rfl, HMM7.out, Below.refl _ _⟩
                      case round =>
                        obtain ⟨k2, hk2, rfl, hm2, hb2⟩ := hrel
                        have HM2 := Lib.hid hm2
                        have HB22 := Lib.hid hb2
                        have kk0 : (0 : Int) ≤ (k2 : Int) := by omega
                        by_cases hlt2 : k2 < tn
                        · have kk1 : (k2 : Int) < (tn : Int) := by omega
                          have kk2 : (k2 : Int) ≤ (tn : Int) := by omega
                          have hkt : k2 < ts.length := by rw [HTNN.out]; exact hlt2
                          obtain ⟨t, ht⟩ : ∃ t, ts[k2] = t := ⟨_, rfl⟩
                          have hmem : t ∈ ts := by rw [← ht]; exact List.getElem_mem hkt
                          obtain ⟨hha, htl⟩ := HSD.out t hmem
                          have HPB : Hid (peekB ck.here (objP t) = true) := hha HDN.out
                          have hov := HOT.out.below hb2
                          obtain ⟨A', c', he, _, _, hrd⟩ := hov.slv.len
                          injection he with he1 he2 he3
                          subst he1
                          clear he2 he3
                          simp only [List.length_map] at hrd
                          have hkm' : k2 < (ts.map str).length := by rw [List.length_map]; exact hkt
                          have hta := texts_at (xs := ts.map str) (by simpa using hrd) k2 hkm'
                          obtain ⟨ad, rfl, hcell⟩ := hta
                          have hcell2 : wr.cell? (ad.add k2) = some (.string (str t)) := by rw [hcell]; simp [ht]
                          have hbig : ¬ 9223372036854775807 < 4 + (str t).size := by rw [str_size, htl]; omega
                          have HPL : Hid ((objP t).length ≤ 1000000) := by unfold Hid; rw [objP_len, htl]; omega
                          clear hov hrd hkm' hcell ht hkt hm2 hb2 hha htl hmem
                          go_wp2_with fail
                          rw [splace_cat]
                          refine (peek_mine (objP t) HM2.out (HGN.out.small7 (by omega)) HPL.out).mono ?_
                          rintro e w9 ⟨fA, fc, rfl, _, hm9, hb9⟩
                          rw [HPB.out]
                          have HM9 := Lib.hid hm9
                          have HB9 := Lib.hid (HB22.out.trans (hb9.mono HB22.out.size))
                          clear hm9 hb9
                          go_wp2_with fail
                          go_roundw
                          case rel =>
                            refine ⟨_, _, _, _, _, _, _, _, _, _, _, _, _, _, _, _, _, _, _, _, _, _, ⟨k2 + 1, by omega, ?_, ?_, ?_⟩, rfl⟩
                            · go_num
                            · exact HM9.out.below ((Below.refl _ _).alloc (Nat.le_refl _) _)
                            · exact HB9.out.alloc HB9.out.size _
                          case measure => simp [intOf]; omega
                        · have kk1 : ¬ (k2 : Int) < (tn : Int) := by omega
                          clear hm2 hb2
                          go_wp2_with fail
                          go_meet
                          exact HM2.out
                  case rest =>
                    have HM7 := Lib.hid hcut
                    go_wp2_with fail
                    refine (crash7 keep torn HM7.out (HGN.out.small7 (by omega))).mono ?_
                    rintro e w8 ⟨rfl, hm8⟩
                    obtain ⟨c5, hc5⟩ : ∃ x, crC ck keep torn = x := ⟨_, rfl⟩
                    have HJ5 : Hid (SInv c5) := by rw [← hc5]; exact HSI.out.cr keep torn
                    have HG5 : Hid (GoC c5 181) := by
                      rw [← hc5]
                      exact HGN.out.does (o := ⟨10, 0, keep, torn, [], [], [], []⟩) ⟨Nat.zero_le _, Nat.zero_le _, Nat.zero_le _, Nat.zero_le _, fun _ h => (by cases h)⟩
                    have HSM : Hid (CSmall c5) := HG5.out.small7 (by omega)
                    rw [hc5] at hm8
                    have HM8 := Lib.hid hm8
                    clear hm8 hc5 hcut
                    go_wp2_with fail
                    refine (paths_mine HM8.out HSM.out).mono ?_
                    rintro e w9 ⟨⟨pv, rfl, ho9, hb9⟩, hm9⟩
                    obtain ⟨pA, pc, hpv, _, _⟩ := ho9.length
                    simp only [List.length_map] at hpv
                    obtain ⟨PL, hPL⟩ : ∃ x, pathsM c5.here = x := ⟨_, rfl⟩
                    have HPLL := Lib.hid hPL
                    obtain ⟨pn, hpn⟩ : ∃ x, PL.length = x := ⟨_, rfl⟩
                    have hpn9 : pn ≤ 900000 := by rw [← hpn, ← hPL, pathsM_len]; have := HSM.out.here; omega
                    have HPN := Lib.hid hpn
                    rw [hPL, hpn] at hpv
                    rw [hPL] at ho9
                    subst hpv
                    have HO9 := Lib.hid ho9
                    have HM9 := Lib.hid hm9
                    clear hPL hpn ho9 hm9 hb9
                    go_wp2_with fail
                    go_loopw [25] (fun i wx => ∃ k : Nat, k ≤ pn ∧ i = .int .i64 k ∧ Mine w wx b0 c5 ∧ RowKit.Below w9.heap.size w9 wx) (fun i _ => pn - (intOf i).toNat)
                    case atStart => exact ⟨0, by omega, rfl, HM9.out, Below.refl _ _⟩
                    case round =>
                      obtain ⟨k2, hk2, rfl, hm2, hb2⟩ := hrel
                      have HM2 := Lib.hid hm2
                      have HB22 := Lib.hid hb2
                      have kk0 : (0 : Int) ≤ (k2 : Int) := by omega
                      by_cases hlt2 : k2 < pn
                      · have kk1 : (k2 : Int) < (pn : Int) := by omega
                        have kk2 : (k2 : Int) ≤ (pn : Int) := by omega
                        have hkt : k2 < PL.length := by rw [HPN.out]; exact hlt2
                        obtain ⟨q, hq⟩ : ∃ t, PL[k2] = t := ⟨_, rfl⟩
                        have hmem : q ∈ pathsM c5.here := by rw [HPLL.out, ← hq]; exact List.getElem_mem hkt
                        obtain ⟨f, hf⟩ : ∃ x, peekF c5.here q = x := ⟨_, rfl⟩
                        have HQ : Hid (q = tmpP ∨ q = stP f.data) := by have h := HJ5.out.path hmem; rw [hf] at h; exact h
                        have hql : q.length ≤ 1000 := by
                          unfold pathsM at hmem
                          obtain ⟨r, hr, rfl⟩ := List.mem_map.1 hmem
                          exact (HSM.out.hrow r hr).1
                        have HF := Lib.hid hf
                        have hov := HO9.out.below hb2
                        obtain ⟨A', c', he, _, _, hrd⟩ := hov.slv.len
                        injection he with he1 he2 he3
                        subst he1
                        clear he2 he3
                        simp only [List.length_map] at hrd
                        have hkm' : k2 < (PL.map str).length := by rw [List.length_map]; exact hkt
                        have hta := texts_at (xs := PL.map str) (by simpa using hrd) k2 hkm'
                        obtain ⟨ad, rfl, hcell⟩ := hta
                        have hcell2 : wr.cell? (ad.add k2) = some (.string (str q)) := by rw [hcell]; simp [hq]
                        have HCL : Hid (∀ W, RowKit.Below wr.heap.size wr W → W.cell? (ad.add k2) = some (.string (str q))) := fun W hb => (hb.cell (p := ad.add k2) (World.block_lt_of_cell? _ _ hcell2)).trans hcell2
                        clear hov hrd hkm' hcell hq hkt hm2 hb2 hmem hf
                        go_wp2_with fail
                        refine (peek_mine q HM2.out HSM.out (by omega)).mono ?_
                        rintro e w10 ⟨fA, fc, rfl, hsv, hm10, hb10⟩
                        rw [HF.out] at hsv ⊢
                        obtain ⟨fd, hfd⟩ : ∃ x, f.data.length = x := ⟨_, rfl⟩
                        rw [hfd] at hsv ⊢
                        have HSV := Lib.hid hsv
                        have HM10 := Lib.hid hm10
                        have HB10 := Lib.hid hb10
                        obtain ⟨fm, hfm⟩ : ∃ x, f.mode = x := ⟨_, rfl⟩
                        obtain ⟨ft, hft⟩ : ∃ x, f.time = x := ⟨_, rfl⟩
                        rw [hfm, hft]
                        have z1 := HCL.out w10 hb10
                        have z2 : (w10.alloc (.cells #[.int .i64 fm, .slice fA fd fc, .int .i64 ft] 40)).cell? (ad.add k2) = some (.string (str q)) := HCL.out _ (hb10.alloc hb10.size _)
                        clear hsv hm10 hb10 hfm hft
                        go_wp2_with fail
                        have HBA : Hid (RowKit.Below wr.heap.size wr (w10.alloc (.cells #[.int .i64 fm, .slice fA fd fc, .int .i64 ft] 40))) := HB10.out.alloc HB10.out.size _
                        have HMA : Hid (Mine w (w10.alloc (.cells #[.int .i64 fm, .slice fA fd fc, .int .i64 ft] 40)) b0 c5) := HM10.out.below ((Below.refl _ _).alloc (Nat.le_refl _) _)
                        have HSA : Hid (SlV (w10.alloc (.cells #[.int .i64 fm, .slice fA fd fc, .int .i64 ft] 40)) (.slice fA fd fc) (f.data.map bv)) := HSV.out.below ((Below.refl _ _).alloc (Nat.le_refl _) _)
                        have hbx : Blk (w10.alloc (.cells #[.int .i64 fm, .slice fA fd fc, .int .i64 ft] 40)) w10.heap.size 40 #[.int .i64 fm, .slice fA fd fc, .int .i64 ft] := Blk.new _ _ _
                        obtain ⟨g, hg⟩ : ∃ x, w10.heap.size = x := ⟨_, rfl⟩
                        rw [hg] at hbx
                        rw [hg]
                        obtain ⟨wa, hwa⟩ : ∃ x, x = w10.alloc (.cells #[.int .i64 fm, .slice fA fd fc, .int .i64 ft] 40) := ⟨_, rfl⟩
                        rw [← hwa] at HBA HMA HSA hbx z2 ⊢
                        have HBX := Lib.hid hbx
                        clear hwa hg z1 hbx
                        refine (nsplit_any q wa (by omega)).mono ?_
                        rintro e w11 ⟨sv11, rfl, ho11, hb11⟩
                        have HB11 := Lib.hid hb11
                        have HB11' := Lib.hid (HBA.out.trans (hb11.mono HBA.out.size))
                        have HM11 := Lib.hid (HMA.out.below hb11)
                        have HS11 := Lib.hid (HSA.out.below hb11)
                        have z3 := HCL.out w11 HB11'.out
                        have hb11x := HBX.out.below hb11 HBX.out.lt
                        have HBX11 := Lib.hid hb11x
                        go_upto_region 43 with (fail)
                        go_cut [198] (fun cv wx => cv = .bool false ∧ Mine w wx b0 c5 ∧ RowKit.Below wr.heap.size wr wx)
                        case first =>
                          have z3d : w11.drew.cell? (ad.add k2) = some (.string (str q)) := z3
                          obtain ⟨sA, sn, sc, hsv⟩ : ∃ A n c, sv11 = .slice A n c := by obtain ⟨A, c, e, _, _⟩ := ho11.length; exact ⟨_, _, _, e⟩
                          subst hsv
                          rcases HQ.out with hq | hq
                          · have y1 : ((str q).toList == [115, 47, 116]) = true := by rw [str_toList, hq]; decide
                            have y2 : (str q).toList = [115, 47, 116] := by rw [str_toList, hq]; rfl
                            clear hq ho11 hb11x hb11
                            go_quiet (fail)
                            all_goals
                              go_wp2_with fail
                              go_meet
                              first
                              | exact ⟨rfl, HM11.out, HB11'.out⟩
                              | exact ⟨rfl, HM11.out.below (below_drewN7 _ _ _), HB11'.out.trans ((below_drewN7 _ _ _).mono HB11'.out.size)⟩
                              | (trace_state; fail)
                          · have hfdl : f.data.length ≤ 1000000 := by rw [← HF.out]; have := peek_short HSM.out.hrow q; omega
                            have HFDL := Lib.hid hfdl
                            have hnm : namesL q = [[115], [111], idL f.data] := by rw [hq, namesL_yes (stP_path _), stP_names]
                            obtain ⟨id, hid⟩ : ∃ x, idL f.data = x := ⟨_, rfl⟩
                            have HIDD : Hid (hexL (sumOf f.data) = id) := hid
                            rw [hnm, hid] at ho11
                            obtain ⟨A', c', he, _, _, hrd⟩ := ho11.slv.len
                            injection he with he1 he2 he3
                            subst he1
                            have hsn : sn = 3 := he2
                            subst hsn
                            clear he2 he3
                            have hta := texts_at (xs := [str [115], str [111], str id]) (by simpa using hrd) 2 (by simp)
                            obtain ⟨sad, rfl, hcell⟩ := hta
                            have z5 : w11.cell? ⟨sad.block, sad.off + 2, none⟩ = some (.string (str id)) := hcell
                            have z4 : w11.cell? ⟨g, 1, none⟩ = some (.slice fA fd fc) := HBX11.out.cell 1
                            have y1 : ((str q).toList == [115, 47, 116]) = false := by rw [str_toList, hq, beq_eq_false_iff_ne]; exact obj_tmp _
                            have y2 : ¬ ((str q).toList = [115, 47, 116]) := by rw [str_toList, hq]; exact obj_tmp _
                            have y3 : ((str id).toList == (str id).toList) = true := beq_self_eq_true _
                            have HK5 : Hid (∀ W, RowKit.Below w11.heap.size w11 W → W.cell? (ad.add k2) = some (.string (str q)) ∧ W.cell? ⟨g, 1, none⟩ = some (.slice fA fd fc) ∧ W.cell? ⟨sad.block, sad.off + 2, none⟩ = some (.string (str id))) := fun W hb => ⟨(hb.cell (p := ad.add k2) (World.block_lt_of_cell? _ _ z3)).trans z3, (hb.cell (p := ⟨g, 1, none⟩) (World.block_lt_of_cell? _ _ z4)).trans z4, (hb.cell (p := ⟨sad.block, sad.off + 2, none⟩) (World.block_lt_of_cell? _ _ z5)).trans z5⟩
                            have q11 := HK5.out w11.drew ((Below.refl _ _).drew)
                            clear hq ho11 hb11x hb11 hrd hcell hnm hid hfdl
                            go_region_held3 (fun W : World => W.cell? (ad.add k2) = some (.string (str q)) ∧ W.cell? ⟨g, 1, none⟩ = some (.slice fA fd fc) ∧ W.cell? ⟨sad.block, sad.off + 2, none⟩ = some (.string (str id)))
                              (first | exact q12 | exact q11)
                              (first | (go_at_call 16; refine (idc_any _ f.data _ (by exact HS11.out.drew) HFDL.out).mono ?_; rintro e w12 ⟨rfl, hb12⟩; rw [HIDD.out]; have hb12' : RowKit.Below w11.heap.size w11 w12 := ((Below.refl w11.heap.size w11).drew).trans hb12; have q12 := HK5.out w12 hb12'; have HB12 := Lib.hid hb12'; clear hb12 hb12'))
                            all_goals
                              go_wp2_with fail
                              go_meet
                              first
                              | exact ⟨rfl, HM11.out.below HB12.out, HB11'.out.trans (HB12.out.mono HB11'.out.size)⟩
                              | exact ⟨by simp, HM11.out.below HB12.out, HB11'.out.trans (HB12.out.mono HB11'.out.size)⟩
                              | (trace_state; fail)
                        case rest =>
                          obtain ⟨rfl, hm12, hb12⟩ := hcut
                          have HM12 := Lib.hid hm12
                          have HB12 := Lib.hid (HB22.out.trans (hb12.mono HB22.out.size))
                          clear hm12 hb12
                          go_wp2_with fail
                          go_roundw
                          case rel => exact ⟨k2 + 1, by omega, by go_num, HM12.out, HB12.out⟩
                          case measure => simp [intOf]; omega
                      · have kk1 : ¬ (k2 : Int) < (pn : Int) := by omega
                        clear hm2 hb2
                        go_wp2_with fail
                        obtain ⟨_, _, _, _, hbm⟩ := HM2.out
                        refine (HEND.out _ hbm).mono ?_
                        rintro e w10 ⟨rfl, hb10⟩
                        have HB10 := Lib.hid hb10
                        clear hb10 hbm
                        go_wp2_with fail
                        go_ret
                        exact ⟨rfl, HB10.out⟩
                exact auxd
end Go.Proofs.YtlgmbljfjfcpoaaGreat.Tx
