/- Chapter 15: Chunks, the document's. -/
import Derived.Test.YtbejgljljjjjcaaDf6
set_option linter.unusedVariables false
set_option linter.unusedSimpArgs false
namespace Go.Proofs.Ytbejgljljjjjcaa.Ln
open Go.RowKit Go.Proofs.Ytbejgljljjjjcaa.Sh Go.Proofs.Ytbejgljljjjjcaa.Tx

theorem cErr_ok {o a b : List ByteArray} (h : o.length ≤ 200 ∧ a.length ≤ 200 ∧ b.length ≤ 200) : cErr o a b = 0 ∧ cLst o a b = chunksL o a b := ⟨if_pos h, if_pos h⟩
theorem cErr_no {o a b : List ByteArray} (h : ¬ (o.length ≤ 200 ∧ a.length ≤ 200 ∧ b.length ≤ 200)) : cErr o a b = 14 ∧ cLst o a b = [] := ⟨if_neg h, if_neg h⟩
set_option maxRecDepth 100000 in
set_option maxHeartbeats 6400000 in
theorem rchunks_any (v1 v2 v3 : Value) (o a b : List ByteArray) (w : World) (h1 : SlV w v1 (o.map sv)) (h2 : SlV w v2 (a.map sv)) (h3 : SlV w v3 (b.map sv)) :
    Calls Try.prog 13 #[v1, v2, v3] w (ChkP 62 w o a b) := by
  have HM1 := Lib.hid (rmatch_any v1 v2 o a w h1 h2)
  have HM2 := Lib.hid (fun W (hW : Below w.heap.size w W) => rmatch_any v1 v3 o b W (h1.below hW) (h3.below hW))
  obtain ⟨A1, c1, rfl, hl1, hm1, _⟩ := h1.len
  obtain ⟨A2, c2, rfl, hl2, hm2, _⟩ := h2.len
  obtain ⟨A3, c3, rfl, hl3, hm3, _⟩ := h3.len
  rw [List.length_map] at h1 h2 h3 hl1 hl2 hl3 HM1 HM2 ⊢
  rw [List.length_map] at HM1 HM2 ⊢
  rw [List.length_map]
  have H1 := Lib.hid h1
  have H2 := Lib.hid h2
  have H3 := Lib.hid h3
  unfold maxLen at hm1 hm2 hm3
  unfold ChkP
  unfold MatP at HM1 HM2
  obtain ⟨no, hno⟩ : ∃ n, o.length = n := ⟨_, rfl⟩
  obtain ⟨na, hna⟩ : ∃ n, a.length = n := ⟨_, rfl⟩
  obtain ⟨nb, hnb⟩ : ∃ n, b.length = n := ⟨_, rfl⟩
  have HNO := Lib.hid hno
  have HNA := Lib.hid hna
  have HNB := Lib.hid hnb
  rcases mErr3 o a with ⟨eE, eP, ho, ha⟩ | ⟨eE, eP, hno'⟩
  · rw [eE, eP] at HM1
    clear eE eP
    rcases mErr3 o b with ⟨eE, eP, _, hb⟩ | ⟨eE, eP, hno'⟩
    · rw [eE, eP] at HM2
      clear eE eP
      obtain ⟨hE, hL⟩ := cErr_ok ⟨ho, ha, hb⟩
      rw [hE, hL]
      have hp1 := prs_small ho ha
      have hp2 := prs_small ho hb
      have HT1 : Hid (∀ (W : World) (v : Value), SlK 2 W v ((prsL 0 0 o a).map prC) → Calls Try.prog 28 #[v, .int .i64 (no : Int)] W (ToP W no (prsL 0 0 o a))) := fun W v hv => to_any v _ no W hv hp1.1 (by omega) (fun p hp => by rw [← HNO.out]; exact (hp1.2 p hp).1)
      have HT2 : Hid (∀ (W : World) (v : Value), SlK 2 W v ((prsL 0 0 o b).map prC) → Calls Try.prog 28 #[v, .int .i64 (no : Int)] W (ToP W no (prsL 0 0 o b))) := fun W v hv => to_any v _ no W hv hp2.1 (by omega) (fun p hp => by rw [← HNO.out]; exact (hp2.2 p hp).1)
      obtain ⟨R, hR⟩ : ∃ R, chunksL o a b = R := ⟨_, rfl⟩
      have HR := Lib.hid hR
      obtain ⟨f, hf⟩ : ∃ f, atL (prsL 0 0 o a) = f := ⟨_, rfl⟩
      obtain ⟨g, hg⟩ : ∃ g, atL (prsL 0 0 o b) = g := ⟨_, rfl⟩
      have HKR : Hid (kepL o a b = restL f g no 0) := by unfold Hid; rw [kep_rest, hf, hg, HNO.out]
      have HKO := Lib.hid (kep_ok o a b)
      have HFO : Hid (∀ m v, f m = some v → v < na) := fun m v h => by rw [← hf] at h; rw [← HNA.out]; exact (atL_ok (prsOk_all o a) h).2.1
      have HGO : Hid (∀ m v, g m = some v → v < nb) := fun m v h => by rw [← hg] at h; rw [← HNB.out]; exact (atL_ok (prsOk_all o b) h).2.1
      have HFL : Hid (∀ m v, f m = some v → o[m]? = a[v]?) := fun m v h => by rw [← hf] at h; exact (atL_ok (prsOk_all o a) h).2.2.1
      have HGL : Hid (∀ m v, g m = some v → o[m]? = b[v]?) := fun m v h => by rw [← hg] at h; exact (atL_ok (prsOk_all o b) h).2.2.1
      unfold ToP at HT1 HT2
      rw [hf] at HT1
      rw [hg] at HT2
      rw [hR]
      rw [hno] at H1 hl1 HM1 HM2 ho ⊢
      rw [hna] at H2 hl2 HM1 ha ⊢
      rw [hnb] at H3 hl3 HM2 hb ⊢
      have HSZ : Hid (no ≤ 200 ∧ na ≤ 200 ∧ nb ≤ 200) := ⟨ho, ha, hb⟩
      clear hp1 hp2 hR hf hg h1 h2 h3 hno hna hnb hE hL ho ha hb
      go_enter Try.func13, Try.ntmps13
      go_wp2_with fail
      refine HM1.out.mono ?_
      rintro e w1 ⟨p1, rfl, hp1, hb1⟩
      have HP1 := Lib.hid hp1.sl
      have HB1 := Lib.hid hb1
      clear hp1 hb1
      go_wp2_with fail
      refine (HM2.out w1 HB1.out).mono ?_
      rintro e w2 ⟨p2, rfl, hp2, hb2⟩
      have HP1a := Lib.hid (HP1.out.below hb2)
      have HP2 := Lib.hid hp2.sl
      have HB2 := Lib.hid (HB1.out.trans (hb2.mono HB1.out.size))
      clear hp2 hb2
      go_wp2_with fail
      refine (HT1.out w2 _ HP1a.out).mono ?_
      rintro e w3 ⟨gx, rfl, hfx, hgx, hb3⟩
      have HX3 := Lib.hid hfx
      have HP2a := Lib.hid (HP2.out.below hb3)
      have HB3 := Lib.hid (HB2.out.trans (hb3.mono HB2.out.size))
      clear hfx hgx hb3
      go_wp2_with fail
      refine (HT2.out w3 _ HP2a.out).mono ?_
      rintro e w4 ⟨gy, rfl, hfy, hgy, hb4⟩
      have HX := Lib.hid (fun W (hW : Below w4.heap.size w4 W) => (HX3.out.below hb4 HX3.out.lt).below hW (by have := HX3.out.lt; have := hb4.size; omega))
      have HY := Lib.hid (fun W (hW : Below w4.heap.size w4 W) => hfy.below hW hfy.lt)
      have HB4 := Lib.hid (HB3.out.trans (hb4.mono HB3.out.size))
      clear hfy hgy hb4
      go_wp2_with fail
      go_loopw [13, 14, 15, 16] (fun v x y z wr => ∃ (i j k : Nat) (C : List CkM), x = .int .i64 (i : Int) ∧ y = .int .i64 (j : Int) ∧ z = .int .i64 (k : Int) ∧ R = C ++ chkL o a b (endT o a b) (restL f g (no - i) i) (i, j, k) (i, j, k) ∧ KOk o a b (i, j, k) (restL f g (no - i) i) ∧ C.length ≤ i + j + k ∧ OwnCk 62 wr w4.heap.size v C ∧ Below w4.heap.size w4 wr) (fun _ x y z _ => no + na + nb - ((intOf x).toNat + (intOf y).toNat + (intOf z).toNat))
      case atStart => exact ⟨0, 0, 0, [], rfl, rfl, rfl, by rw [← HR.out, Nat.sub_zero, ← HKR.out]; rfl, by rw [Nat.sub_zero, ← HKR.out]; exact HKO.out, Nat.le_refl _, OwnCk.nil_ _ _ _, Below.refl _ _⟩
      case round =>
        obtain ⟨i, j, k, C, rfl, rfl, rfl, hRC, hko, hcl, hown, hbl⟩ := hrel
        have HRC := Lib.hid hRC
        have HKO2 := Lib.hid hko
        have HOW := Lib.hid hown
        have HB := Lib.hid hbl
        have HXr := Lib.hid (HX.out wr hbl)
        have HYr := Lib.hid (HY.out wr hbl)
        have hle := hko.le
        have HSZ2 := HSZ.out
        have hi : i ≤ no := by have := hle.1; unfold endT at this; rw [HNO.out] at this; exact this
        have hj : j ≤ na := by have := hle.2.1; unfold endT at this; rw [HNA.out] at this; exact this
        have hk : k ≤ nb := by have := hle.2.2; unfold endT at this; rw [HNB.out] at this; exact this
        clear hRC hko hown hbl hle
        have x0 : (0 : Int) ≤ (i : Int) := by omega
        have x1 : (0 : Int) ≤ (j : Int) := by omega
        have x2 : (0 : Int) ≤ (k : Int) := by omega
        by_cases hend : i = no ∧ j = na ∧ k = nb
        · obtain ⟨rfl, rfl, rfl⟩ := hend
          have HE : Hid (R = C) := by
            have hT : endT o a b = (i, j, k) := by unfold endT; rw [HNO.out, HNA.out, HNB.out]
            unfold Hid
            rw [HRC.out, ← hT, chk_end o a b _ (by rw [hT]; exact HKO2.out), List.append_nil]
          have y0 : ¬ (i : Int) < (i : Int) := by omega
          have y1 : ¬ (j : Int) < (j : Int) := by omega
          have y2 : ¬ (k : Int) < (k : Int) := by omega
          go_wp2_with fail
          go_ret2
          exact ⟨_, rfl, by rw [HE.out]; exact HOW.out.base HB4.out.size, HB4.out.trans (HB.out.mono HB4.out.size)⟩
        · go_upto_region 10 with (fail)
          go_cut [64] from 49 to 196 (fun cv wx => cv = .bool true ∧ wr = wx)
          case first =>
            by_cases y0 : (i : Int) < (no : Int)
            · go_wp2_with fail
              go_meet
              exact ⟨rfl, rfl⟩
            · by_cases y1 : (j : Int) < (na : Int)
              · go_wp2_with fail
                go_meet
                exact ⟨rfl, rfl⟩
              · have y2 : (k : Int) < (nb : Int) := by omega
                go_wp2_with fail
                go_meet
                exact ⟨rfl, rfl⟩
          case rest =>
            obtain ⟨rfl, rfl⟩ := hcut
            go_wp2_with fail
            go_loopw [17] (fun x wq => ∃ n : Nat, x = .int .i64 (n : Int) ∧ wr = wq ∧ i + n ≤ no ∧ j + n ≤ na ∧ k + n ≤ nb ∧ R = C ++ chkL o a b (endT o a b) (restL f g (no - (i + n)) (i + n)) (i, j, k) (onT (i, j, k) n) ∧ KOk o a b (onT (i, j, k) n) (restL f g (no - (i + n)) (i + n)) ∧ cutL a j (j + n) = cutL o i (i + n) ∧ cutL b k (k + n) = cutL o i (i + n)) (fun x _ => no - (intOf x).toNat)
            case atStart => exact ⟨0, rfl, rfl, hi, hj, hk, HRC.out, HKO2.out, by rw [Nat.add_zero, Nat.add_zero, cut_none, cut_none], by rw [Nat.add_zero, Nat.add_zero, cut_none, cut_none]⟩
            case round =>
              obtain ⟨n, rfl, rfl, hin, hjn, hkn, hR2, hk2, hca, hcb⟩ := hrel
              have HR2 := Lib.hid hR2
              have HK2 := Lib.hid hk2
              have HCA := Lib.hid hca
              have HCB := Lib.hid hcb
              clear hR2 hk2 hca hcb
              have n0 : (0 : Int) ≤ (n : Int) := by omega
              obtain ⟨dd, hdd⟩ : ∃ dd, decide (i + n < no ∧ f (i + n) = some (j + n) ∧ g (i + n) = some (k + n)) = dd := ⟨_, rfl⟩
              have HDD := Lib.hid hdd
              clear hdd
              go_upto_region 12 with (fail)
              go_cut [94] from 65 to 96 (fun cv wx => cv = .bool dd ∧ wr = wx)
              case first =>
                by_cases q0 : i + n < no
                · have y0 : (i : Int) + (n : Int) < (no : Int) := by omega
                  have xc := HXr.out.cell (i + n) q0
                  have yc := HYr.out.cell (i + n) q0
                  obtain ⟨xv, hxv⟩ : ∃ v, atI (f (i + n)) = v := ⟨_, rfl⟩
                  obtain ⟨yv, hyv⟩ : ∃ v, atI (g (i + n)) = v := ⟨_, rfl⟩
                  rw [hxv] at xc
                  rw [hyv] at yc
                  by_cases q1 : xv = ((j + n : Nat) : Int)
                  · by_cases q2 : yv = ((k + n : Nat) : Int)
                    · have ht : dd = true := by rw [← HDD.out]; exact decide_eq_true ⟨q0, atI_eq.1 (hxv.trans q1), atI_eq.1 (hyv.trans q2)⟩
                      subst ht
                      rw [q1] at xc
                      rw [q2] at yc
                      clear hxv hyv q1 q2
                      go_wp2_with fail
                      go_meet
                      exact ⟨rfl, rfl⟩
                    · have ht : dd = false := by rw [← HDD.out]; exact decide_eq_false (fun h => q2 (hyv.symm.trans (atI_eq.2 h.2.2)))
                      subst ht
                      rw [q1] at xc
                      have q3 : (yv == (k : Int) + (n : Int)) = false := beq_eq_false_iff_ne.2 (by omega)
                      clear hxv hyv q1 q2
                      go_wp2_with fail
                      go_meet
                      exact ⟨rfl, rfl⟩
                  · have ht : dd = false := by rw [← HDD.out]; exact decide_eq_false (fun h => q1 (hxv.symm.trans (atI_eq.2 h.2.1)))
                    subst ht
                    have q3 : (xv == (j : Int) + (n : Int)) = false := beq_eq_false_iff_ne.2 (by omega)
                    clear hxv hyv q1
                    go_wp2_with fail
                    go_meet
                    exact ⟨rfl, rfl⟩
                · have y0 : ¬ (i : Int) + (n : Int) < (no : Int) := by omega
                  have ht : dd = false := by rw [← HDD.out]; exact decide_eq_false (fun h => q0 h.1)
                  subst ht
                  go_wp2_with fail
                  go_meet
                  exact ⟨rfl, rfl⟩
              case rest =>
                obtain ⟨rfl, rfl⟩ := hcut
                cases dd with
                | true =>
                  obtain ⟨q0, q1, q2⟩ := of_decide_eq_true HDD.out
                  have HTK : Hid (restL f g (no - (i + n)) (i + n) = onT (i, j, k) n :: restL f g (no - (i + (n + 1))) (i + (n + 1))) := by
                    unfold Hid
                    rw [show no - (i + n) = (no - (i + (n + 1))) + 1 by omega]
                    exact rest_some q1 q2
                  have HJN : Hid (j + n < na ∧ k + n < nb) := ⟨HFO.out _ _ q1, HGO.out _ _ q2⟩
                  have HCA2 : Hid (cutL a j (j + (n + 1)) = cutL o i (i + (n + 1)) ∧ cutL b k (k + (n + 1)) = cutL o i (i + (n + 1))) := by
                    have hlt : i + n < o.length := by rw [HNO.out]; exact q0
                    have hoi : o[i + n]? = some (o[i + n]'hlt) := List.getElem?_eq_getElem hlt
                    have e1 := HFL.out _ _ q1
                    have e2 := HGL.out _ _ q2
                    rw [hoi] at e1 e2
                    exact ⟨by rw [cut_snoc a j n _ e1.symm, cut_snoc o i n _ hoi, HCA.out], by rw [cut_snoc b k n _ e2.symm, cut_snoc o i n _ hoi, HCB.out]⟩
                  clear q1 q2
                  go_wp2_with fail
                  go_roundw
                  case rel => exact ⟨n + 1, by go_num, trivial, by omega, by have := HJN.out; omega, by have := HJN.out; omega, by rw [HR2.out, chk_take HTK.out, onT_on], by have h := HK2.out; rw [HTK.out] at h; have h2 := h.2.2.2.2.2.2; rw [onT_on] at h2; exact h2, HCA2.out.1, HCA2.out.2⟩
                  case measure => simp [intOf]; omega
                | false =>
                  have hnd := of_decide_eq_false HDD.out
                  have HHD : Hid ((restL f g (no - (i + n)) (i + n))[0]? ≠ some (onT (i, j, k) n)) := by
                    intro he
                    obtain ⟨_, r1, r2⟩ := rest_head _ _ _ he
                    refine hnd ⟨?_, r1, r2⟩
                    rcases Nat.lt_or_ge (i + n) no with h | h
                    · exact h
                    · rw [show no - (i + n) = 0 by omega] at he
                      cases he
                  clear hnd
                  by_cases hn0 : n = 0
                  · subst hn0
                    have HHD0 : Hid ((restL f g (no - i) i)[0]? ≠ some (i, j, k)) := HHD.out
                    clear HHD HR2 HK2 HCA HCB HDD
                    go_wp2_with fail
                    go_loopw [19] (fun x wq => ∃ m : Nat, x = .int .i64 (m : Int) ∧ wr = wq ∧ i ≤ m ∧ m ≤ no ∧ restL f g (no - i) i = restL f g (no - m) m) (fun x _ => no - (intOf x).toNat)
                    case atStart => exact ⟨i, rfl, rfl, Nat.le_refl _, hi, rfl⟩
                    case round =>
                      obtain ⟨m, rfl, rfl, him, hmn, hrm⟩ := hrel
                      have HRM := Lib.hid hrm
                      clear hrm
                      have m0 : (0 : Int) ≤ (m : Int) := by omega
                      obtain ⟨dd, hdd⟩ : ∃ dd, decide (m < no ∧ (f m = none ∨ g m = none)) = dd := ⟨_, rfl⟩
                      have HDD := Lib.hid hdd
                      clear hdd
                      go_upto_region 19 with (fail)
                      go_cut [142] from 125 to 144 (fun cv wx => cv = .bool dd ∧ wr = wx)
                      case first =>
                        by_cases q0 : m < no
                        · have y0 : (m : Int) < (no : Int) := by omega
                          have xc := HXr.out.cell m q0
                          have yc := HYr.out.cell m q0
                          obtain ⟨xv, hxv⟩ : ∃ v, atI (f m) = v := ⟨_, rfl⟩
                          obtain ⟨yv, hyv⟩ : ∃ v, atI (g m) = v := ⟨_, rfl⟩
                          rw [hxv] at xc
                          rw [hyv] at yc
                          by_cases q1 : xv < 0
                          · have ht : dd = true := by rw [← HDD.out]; exact decide_eq_true ⟨q0, .inl (atI_neg.1 (by rw [hxv]; exact q1))⟩
                            subst ht
                            clear hxv hyv
                            go_wp2_with fail
                            go_meet
                            exact ⟨rfl, rfl⟩
                          · by_cases q2 : yv < 0
                            · have ht : dd = true := by rw [← HDD.out]; exact decide_eq_true ⟨q0, .inr (atI_neg.1 (by rw [hyv]; exact q2))⟩
                              subst ht
                              clear hxv hyv
                              go_wp2_with fail
                              go_meet
                              exact ⟨rfl, rfl⟩
                            · have ht : dd = false := by rw [← HDD.out]; exact decide_eq_false (fun h => h.2.elim (fun h => q1 (by rw [← hxv]; exact atI_neg.2 h)) (fun h => q2 (by rw [← hyv]; exact atI_neg.2 h)))
                              subst ht
                              clear hxv hyv
                              go_wp2_with fail
                              go_meet
                              exact ⟨rfl, rfl⟩
                        · have y0 : ¬ (m : Int) < (no : Int) := by omega
                          have ht : dd = false := by rw [← HDD.out]; exact decide_eq_false (fun h => q0 h.1)
                          subst ht
                          go_wp2_with fail
                          go_meet
                          exact ⟨rfl, rfl⟩
                      case rest =>
                        obtain ⟨rfl, rfl⟩ := hcut
                        cases dd with
                        | true =>
                          obtain ⟨q0, q1⟩ := of_decide_eq_true HDD.out
                          have HNX : Hid (restL f g (no - i) i = restL f g (no - (m + 1)) (m + 1)) := by
                            unfold Hid
                            rw [HRM.out, show no - m = (no - (m + 1)) + 1 by omega]
                            exact rest_none q1
                          clear q1
                          go_wp2_with fail
                          go_roundw
                          case rel => exact ⟨m + 1, by go_num, trivial, by omega, by omega, HNX.out⟩
                          case measure => simp [intOf]; omega
                        | false =>
                          have hnd := of_decide_eq_false HDD.out
                          clear HDD
                          go_upto_if 152 with (fail)
                          go_cut [20, 21] from 49 to 196 (fun x y wx => ∃ u v : Nat, x = .int .i64 (u : Int) ∧ y = .int .i64 (v : Int) ∧ (m, u, v) = nextT (endT o a b) (restL f g (no - i) i) ∧ Below wr.heap.size wr wx)
                          case first =>
                            by_cases q0 : m < no
                            · have y0 : (m : Int) < (no : Int) := by omega
                              obtain ⟨u, hu⟩ : ∃ u, f m = some u := by
                                cases h : f m with
                                | none => exact absurd ⟨q0, .inl h⟩ hnd
                                | some u => exact ⟨u, rfl⟩
                              obtain ⟨v, hv⟩ : ∃ v, g m = some v := by
                                cases h : g m with
                                | none => exact absurd ⟨q0, .inr h⟩ hnd
                                | some u => exact ⟨u, rfl⟩
                              have xc := HXr.out.cell m q0
                              have yc := HYr.out.cell m q0
                              have e1 : atI (f m) = (u : Int) := by rw [hu]; rfl
                              have e2 : atI (g m) = (v : Int) := by rw [hv]; rfl
                              rw [e1] at xc
                              rw [e2] at yc
                              have HNT : Hid ((m, u, v) = nextT (endT o a b) (restL f g (no - i) i)) := by
                                unfold Hid
                                rw [HRM.out, show no - m = (no - (m + 1)) + 1 by omega, rest_some hu hv]
                                rfl
                              clear hu hv e1 e2 hnd
                              go_wp2_with fail
                              go_quiet (fail)
                              go_wp2_with fail
                              go_meet
                              exact ⟨u, v, rfl, rfl, HNT.out, below_drewN (Below.refl _ _) _⟩
                            · have y0 : ¬ (m : Int) < (no : Int) := by omega
                              have HNT : Hid ((m, na, nb) = nextT (endT o a b) (restL f g (no - i) i)) := by
                                unfold Hid
                                rw [HRM.out, show no - m = 0 by omega, show m = no by omega, ← HNO.out, ← HNA.out, ← HNB.out]
                                rfl
                              go_wp2_with fail
                              go_meet
                              exact ⟨na, nb, rfl, rfl, HNT.out, Below.refl _ _⟩
                          case rest =>
                            obtain ⟨u, v, rfl, rfl, hnt, hbc⟩ := hcut
                            obtain ⟨wk, rfl⟩ : ∃ W, W = wc := ⟨_, rfl⟩
                            have HBC := Lib.hid hbc
                            have HKN : Hid (leT (i, j, k) (m, u, v) ∧ leT (m, u, v) (endT o a b) ∧ KOk o a b (m, u, v) (restL f g (no - m) m)) := by
                              have h := next_ok HKO2.out
                              rw [← hnt] at h
                              rw [← HRM.out]
                              exact h
                            obtain ⟨kd, hkd⟩ : ∃ kd, kindL (cutL o i m) (cutL a j u) (cutL b k v) = kd := ⟨_, rfl⟩
                            obtain ⟨Lo, hLo⟩ : ∃ L, cutL o i m = L := ⟨_, rfl⟩
                            obtain ⟨La, hLa⟩ : ∃ L, cutL a j u = L := ⟨_, rfl⟩
                            obtain ⟨Lb, hLb⟩ : ∃ L, cutL b k v = L := ⟨_, rfl⟩
                            have hju : j ≤ u ∧ u ≤ na := ⟨HKN.out.1.2.1, by have := HKN.out.2.1.2.1; unfold endT at this; rw [HNA.out] at this; exact this⟩
                            have hkv : k ≤ v ∧ v ≤ nb := ⟨HKN.out.1.2.2, by have := HKN.out.2.1.2.2; unfold endT at this; rw [HNB.out] at this; exact this⟩
                            have hne : (i, j, k) ≠ nextT (endT o a b) (restL f g (no - i) i) := next_ne (tog_zero HHD0.out) (fun e => hend (by
                              unfold endT at e
                              rw [HNO.out, HNA.out, HNB.out] at e
                              injection e with e1 e2
                              injection e2 with e2 e3
                              exact ⟨e1, e2, e3⟩))
                            have HMV : Hid (i + j + k < m + u + v) := by
                              have h := HKN.out.1.lt (by rw [hnt]; exact hne)
                              exact h
                            have HRN : Hid (R = (C ++ [⟨kd, Lo, La, Lb⟩]) ++ chkL o a b (endT o a b) (restL f g (no - m) m) (m, u, v) (m, u, v)) := by
                              unfold Hid
                              have h := chk_gap o a b (restL f g (no - i) i) (i, j, k) (tog_zero HHD0.out) hne
                              rw [HRC.out, h, ← hnt, List.append_assoc, ← HRM.out]
                              unfold pieceL
                              simp only
                              rw [hkd, hLo, hLa, hLb]
                              rfl
                            rw [hLo, hLa, hLb] at hkd
                            have HLL : Hid (Lo.length ≤ 200 ∧ La.length ≤ 200 ∧ Lb.length ≤ 200) := by
                              unfold Hid
                              rw [← hLo, ← hLa, ← hLb, cut_len o i m (by rw [HNO.out]; exact hmn), cut_len a j u (by rw [HNA.out]; exact hju.2), cut_len b k v (by rw [HNB.out]; exact hkv.2)]
                              omega
                            have HBW : Hid (Below w.heap.size w wk) := HB4.out.trans ((HB.out.trans (HBC.out.mono HB.out.size)).mono HB4.out.size)
                            have g1 : ∀ W, (Instr.slice 22 (.slice A1 no c1) (some (.int .i64 (i : Int))) (some (.int .i64 (m : Int))) none).run Try.prog W = .ok (.slice (if c1 = i then A1 else A1.map (·.add i)) (m - i) (c1 - i)) W := fun W => t_mid A1 no c1 i m _ _ rfl rfl him (by omega) W
                            have g2 : ∀ W, (Instr.slice 22 (.slice A2 na c2) (some (.int .i64 (j : Int))) (some (.int .i64 (u : Int))) none).run Try.prog W = .ok (.slice (if c2 = j then A2 else A2.map (·.add j)) (u - j) (c2 - j)) W := fun W => t_mid A2 na c2 j u _ _ rfl rfl hju.1 (by omega) W
                            have g3 : ∀ W, (Instr.slice 22 (.slice A3 nb c3) (some (.int .i64 (k : Int))) (some (.int .i64 (v : Int))) none).run Try.prog W = .ok (.slice (if c3 = k then A3 else A3.map (·.add k)) (v - k) (c3 - k)) W := fun W => t_mid A3 nb c3 k v _ _ rfl rfl hkv.1 (by omega) W
                            have s1 := slv_mid H1.out i m him (by rw [List.length_map, HNO.out]; exact hmn)
                            have s2 := slv_mid H2.out j u hju.1 (by rw [List.length_map, HNA.out]; exact hju.2)
                            have s3 := slv_mid H3.out k v hkv.1 (by rw [List.length_map, HNB.out]; exact hkv.2)
                            rw [← List.map_drop, ← List.map_take, show (o.drop i).take (m - i) = Lo from hLo] at s1
                            rw [← List.map_drop, ← List.map_take, show (a.drop j).take (u - j) = La from hLa] at s2
                            rw [← List.map_drop, ← List.map_take, show (b.drop k).take (v - k) = Lb from hLb] at s3
                            obtain ⟨V1, hV1⟩ : ∃ x, Value.slice (if c1 = i then A1 else A1.map (·.add i)) (m - i) (c1 - i) = x := ⟨_, rfl⟩
                            obtain ⟨V2, hV2⟩ : ∃ x, Value.slice (if c2 = j then A2 else A2.map (·.add j)) (u - j) (c2 - j) = x := ⟨_, rfl⟩
                            obtain ⟨V3, hV3⟩ : ∃ x, Value.slice (if c3 = k then A3 else A3.map (·.add k)) (v - k) (c3 - k) = x := ⟨_, rfl⟩
                            simp only [hV1] at g1 s1
                            simp only [hV2] at g2 s2
                            simp only [hV3] at g3 s3
                            have HC1 : Hid (∀ W, Below wk.heap.size wk W → Calls Try.prog 11 #[V1] W (TextsPost W Lo)) := fun W hW => copyt_any _ Lo W ((s1.below HBW.out).below hW) (by have := HLL.out; omega)
                            have HC2 : Hid (∀ W, Below wk.heap.size wk W → Calls Try.prog 11 #[V2] W (TextsPost W La)) := fun W hW => copyt_any _ La W ((s2.below HBW.out).below hW) (by have := HLL.out; omega)
                            have HC3 : Hid (∀ W, Below wk.heap.size wk W → Calls Try.prog 11 #[V3] W (TextsPost W Lb)) := fun W hW => copyt_any _ Lb W ((s3.below HBW.out).below hW) (by have := HLL.out; omega)
                            have HKD : Hid (∀ W, Below wk.heap.size wk W → Calls Try.prog 29 #[V1, V2, V3] W (KindP Lo La Lb W)) := fun W hW => rkind_any V1 V2 V3 Lo La Lb W ((s1.below HBW.out).below hW) ((s2.below HBW.out).below hW) ((s3.below HBW.out).below hW)
                            unfold KindP at HKD
                            rw [hkd] at HKD
                            unfold TextsPost at HC1 HC2 HC3
                            clear hnt hbc hkd hLo hLa hLb hne s1 s2 s3 hV1 hV2 hV3 hnd HKR HKO HT1 HT2 HFO HGO HFL HGL HM1 HM2
                            go_upto_region 24 with (fail)
                            go_cut [22] from 49 to 196 (fun x wx => ∃ gc E1 f1 E2 f2 E3 f3, x = .pointer (some ⟨gc, 0, none⟩) ∧ Blk wx gc 62 #[.int .i64 (kd : Int), .slice E1 Lo.length f1, .slice E2 La.length f2, .slice E3 Lb.length f3] ∧ OwnV 9 wx wk.heap.size (.slice E1 Lo.length f1) (Lo.map sv) ∧ OwnV 9 wx wk.heap.size (.slice E2 La.length f2) (La.map sv) ∧ OwnV 9 wx wk.heap.size (.slice E3 Lb.length f3) (Lb.map sv) ∧ Below wk.heap.size wk wx)
                            case first => as_aux_lemma =>
                              refine wp_region_held_drew (S := (fun W => Below wk.heap.size wk W)) (by kernel_rfl) ?_ (fun hHeld => ?_)
                              · try dsimp only
                                exact (Below.refl _ _).drew
                              refine take_at (i := 0) (d := 161) (oi := { dst := some 161, op := Op.move (Operand.tmp 0), type := 22, pos := "ref.go:181", after := #[], guard := none }) (v := ?_) (by kernel_rfl) (by kernel_rfl) (by kernel_rfl) (by kernel_rfl) (by kernel_rfl) (fun _ _ _ h => h) (Or.inl ⟨by kernel_rfl, ?_⟩) (by assumption) ?_
                              rotate_left
                              · intro W hSw
                                try dsimp only at hSw
                                go_simp
                                first | done | with_reducible rfl
                              try simp only [Act.put, List.setIfInBounds_toArray, List.set_cons_zero, List.set_cons_succ]
                              refine take_at (i := 1) (d := 162) (oi := { dst := some 162, op := Op.move (Operand.tmp 14), type := 3, pos := "ref.go:181", after := #[], guard := none }) (v := ?_) (by kernel_rfl) (by kernel_rfl) (by kernel_rfl) (by kernel_rfl) (by kernel_rfl) (fun _ _ _ h => h) (Or.inl ⟨by kernel_rfl, ?_⟩) (by assumption) ?_
                              rotate_left
                              · intro W hSw
                                try dsimp only at hSw
                                go_simp
                                first | done | with_reducible rfl
                              try simp only [Act.put, List.setIfInBounds_toArray, List.set_cons_zero, List.set_cons_succ]
                              refine take_at (i := 2) (d := 163) (oi := { dst := some 163, op := Op.move (Operand.tmp 19), type := 3, pos := "ref.go:181", after := #[], guard := none }) (v := ?_) (by kernel_rfl) (by kernel_rfl) (by kernel_rfl) (by kernel_rfl) (by kernel_rfl) (fun _ _ _ h => h) (Or.inl ⟨by kernel_rfl, ?_⟩) (by assumption) ?_
                              rotate_left
                              · intro W hSw
                                try dsimp only at hSw
                                go_simp
                                first | done | with_reducible rfl
                              try simp only [Act.put, List.setIfInBounds_toArray, List.set_cons_zero, List.set_cons_succ]
                              refine take_at (i := 3) (d := 164) (oi := { dst := some 164, op := Op.slice 22 (Operand.tmp 161) (some (Operand.tmp 162)) (some (Operand.tmp 163)) none, type := 22, pos := "ref.go:181", after := #[{ on := 0, ground := Ground.data }, { on := 1, ground := Ground.data }, { on := 2, ground := Ground.data }], guard := none }) (v := ?_) (by kernel_rfl) (by kernel_rfl) (by kernel_rfl) (by kernel_rfl) (by kernel_rfl) (fun _ _ _ h => h) (Or.inl ⟨by kernel_rfl, ?_⟩) (by assumption) ?_
                              rotate_left
                              · intro W hSw
                                try dsimp only at hSw
                                go_simp
                                first | done | with_reducible rfl
                              try simp only [Act.put, List.setIfInBounds_toArray, List.set_cons_zero, List.set_cons_succ]
                              refine take_at (i := 4) (d := 165) (oi := { dst := some 165, op := Op.move (Operand.tmp 1), type := 22, pos := "ref.go:181", after := #[], guard := none }) (v := ?_) (by kernel_rfl) (by kernel_rfl) (by kernel_rfl) (by kernel_rfl) (by kernel_rfl) (fun _ _ _ h => h) (Or.inl ⟨by kernel_rfl, ?_⟩) (by assumption) ?_
                              rotate_left
                              · intro W hSw
                                try dsimp only at hSw
                                go_simp
                                first | done | with_reducible rfl
                              try simp only [Act.put, List.setIfInBounds_toArray, List.set_cons_zero, List.set_cons_succ]
                              refine take_at (i := 5) (d := 166) (oi := { dst := some 166, op := Op.move (Operand.tmp 15), type := 3, pos := "ref.go:181", after := #[], guard := none }) (v := ?_) (by kernel_rfl) (by kernel_rfl) (by kernel_rfl) (by kernel_rfl) (by kernel_rfl) (fun _ _ _ h => h) (Or.inl ⟨by kernel_rfl, ?_⟩) (by assumption) ?_
                              rotate_left
                              · intro W hSw
                                try dsimp only at hSw
                                go_simp
                                first | done | with_reducible rfl
                              try simp only [Act.put, List.setIfInBounds_toArray, List.set_cons_zero, List.set_cons_succ]
                              refine take_at (i := 6) (d := 167) (oi := { dst := some 167, op := Op.move (Operand.tmp 20), type := 3, pos := "ref.go:181", after := #[], guard := none }) (v := ?_) (by kernel_rfl) (by kernel_rfl) (by kernel_rfl) (by kernel_rfl) (by kernel_rfl) (fun _ _ _ h => h) (Or.inl ⟨by kernel_rfl, ?_⟩) (by assumption) ?_
                              rotate_left
                              · intro W hSw
                                try dsimp only at hSw
                                go_simp
                                first | done | with_reducible rfl
                              try simp only [Act.put, List.setIfInBounds_toArray, List.set_cons_zero, List.set_cons_succ]
                              refine take_at (i := 7) (d := 168) (oi := { dst := some 168, op := Op.slice 22 (Operand.tmp 165) (some (Operand.tmp 166)) (some (Operand.tmp 167)) none, type := 22, pos := "ref.go:181", after := #[{ on := 4, ground := Ground.data }, { on := 5, ground := Ground.data }, { on := 6, ground := Ground.data }], guard := none }) (v := ?_) (by kernel_rfl) (by kernel_rfl) (by kernel_rfl) (by kernel_rfl) (by kernel_rfl) (fun _ _ _ h => h) (Or.inl ⟨by kernel_rfl, ?_⟩) (by assumption) ?_
                              rotate_left
                              · intro W hSw
                                try dsimp only at hSw
                                go_simp
                                first | done | with_reducible rfl
                              try simp only [Act.put, List.setIfInBounds_toArray, List.set_cons_zero, List.set_cons_succ]
                              refine take_at (i := 8) (d := 169) (oi := { dst := some 169, op := Op.move (Operand.tmp 2), type := 22, pos := "ref.go:181", after := #[], guard := none }) (v := ?_) (by kernel_rfl) (by kernel_rfl) (by kernel_rfl) (by kernel_rfl) (by kernel_rfl) (fun _ _ _ h => h) (Or.inl ⟨by kernel_rfl, ?_⟩) (by assumption) ?_
                              rotate_left
                              · intro W hSw
                                try dsimp only at hSw
                                go_simp
                                first | done | with_reducible rfl
                              try simp only [Act.put, List.setIfInBounds_toArray, List.set_cons_zero, List.set_cons_succ]
                              refine take_at (i := 9) (d := 170) (oi := { dst := some 170, op := Op.move (Operand.tmp 16), type := 3, pos := "ref.go:181", after := #[], guard := none }) (v := ?_) (by kernel_rfl) (by kernel_rfl) (by kernel_rfl) (by kernel_rfl) (by kernel_rfl) (fun _ _ _ h => h) (Or.inl ⟨by kernel_rfl, ?_⟩) (by assumption) ?_
                              rotate_left
                              · intro W hSw
                                try dsimp only at hSw
                                go_simp
                                first | done | with_reducible rfl
                              try simp only [Act.put, List.setIfInBounds_toArray, List.set_cons_zero, List.set_cons_succ]
                              refine take_at (i := 10) (d := 171) (oi := { dst := some 171, op := Op.move (Operand.tmp 21), type := 3, pos := "ref.go:181", after := #[], guard := none }) (v := ?_) (by kernel_rfl) (by kernel_rfl) (by kernel_rfl) (by kernel_rfl) (by kernel_rfl) (fun _ _ _ h => h) (Or.inl ⟨by kernel_rfl, ?_⟩) (by assumption) ?_
                              rotate_left
                              · intro W hSw
                                try dsimp only at hSw
                                go_simp
                                first | done | with_reducible rfl
                              try simp only [Act.put, List.setIfInBounds_toArray, List.set_cons_zero, List.set_cons_succ]
                              refine take_at (i := 11) (d := 172) (oi := { dst := some 172, op := Op.slice 22 (Operand.tmp 169) (some (Operand.tmp 170)) (some (Operand.tmp 171)) none, type := 22, pos := "ref.go:181", after := #[{ on := 8, ground := Ground.data }, { on := 9, ground := Ground.data }, { on := 10, ground := Ground.data }], guard := none }) (v := ?_) (by kernel_rfl) (by kernel_rfl) (by kernel_rfl) (by kernel_rfl) (by kernel_rfl) (fun _ _ _ h => h) (Or.inl ⟨by kernel_rfl, ?_⟩) (by assumption) ?_
                              rotate_left
                              · intro W hSw
                                try dsimp only at hSw
                                go_simp
                                first | done | with_reducible rfl
                              try simp only [Act.put, List.setIfInBounds_toArray, List.set_cons_zero, List.set_cons_succ]
                              refine take_at (i := 13) (d := 174) (oi := { dst := some 174, op := Op.move (Operand.tmp 0), type := 22, pos := "ref.go:181", after := #[], guard := none }) (v := ?_) (by kernel_rfl) (by kernel_rfl) (by kernel_rfl) (by kernel_rfl) (by kernel_rfl) (fun _ _ _ h => h) (Or.inl ⟨by kernel_rfl, ?_⟩) (by assumption) ?_
                              rotate_left
                              · intro W hSw
                                try dsimp only at hSw
                                go_simp
                                first | done | with_reducible rfl
                              try simp only [Act.put, List.setIfInBounds_toArray, List.set_cons_zero, List.set_cons_succ]
                              refine take_at (i := 14) (d := 175) (oi := { dst := some 175, op := Op.move (Operand.tmp 14), type := 3, pos := "ref.go:181", after := #[], guard := none }) (v := ?_) (by kernel_rfl) (by kernel_rfl) (by kernel_rfl) (by kernel_rfl) (by kernel_rfl) (fun _ _ _ h => h) (Or.inl ⟨by kernel_rfl, ?_⟩) (by assumption) ?_
                              rotate_left
                              · intro W hSw
                                try dsimp only at hSw
                                go_simp
                                first | done | with_reducible rfl
                              try simp only [Act.put, List.setIfInBounds_toArray, List.set_cons_zero, List.set_cons_succ]
                              refine take_at (i := 15) (d := 176) (oi := { dst := some 176, op := Op.move (Operand.tmp 19), type := 3, pos := "ref.go:181", after := #[], guard := none }) (v := ?_) (by kernel_rfl) (by kernel_rfl) (by kernel_rfl) (by kernel_rfl) (by kernel_rfl) (fun _ _ _ h => h) (Or.inl ⟨by kernel_rfl, ?_⟩) (by assumption) ?_
                              rotate_left
                              · intro W hSw
                                try dsimp only at hSw
                                go_simp
                                first | done | with_reducible rfl
                              try simp only [Act.put, List.setIfInBounds_toArray, List.set_cons_zero, List.set_cons_succ]
                              refine take_at (i := 16) (d := 177) (oi := { dst := some 177, op := Op.slice 22 (Operand.tmp 174) (some (Operand.tmp 175)) (some (Operand.tmp 176)) none, type := 22, pos := "ref.go:181", after := #[{ on := 13, ground := Ground.data }, { on := 14, ground := Ground.data }, { on := 15, ground := Ground.data }], guard := none }) (v := ?_) (by kernel_rfl) (by kernel_rfl) (by kernel_rfl) (by kernel_rfl) (by kernel_rfl) (fun _ _ _ h => h) (Or.inl ⟨by kernel_rfl, ?_⟩) (by assumption) ?_
                              rotate_left
                              · intro W hSw
                                try dsimp only at hSw
                                go_simp
                                first | done | with_reducible rfl
                              try simp only [Act.put, List.setIfInBounds_toArray, List.set_cons_zero, List.set_cons_succ]
                              refine take_at (i := 18) (d := 179) (oi := { dst := some 179, op := Op.move (Operand.tmp 1), type := 22, pos := "ref.go:181", after := #[], guard := none }) (v := ?_) (by kernel_rfl) (by kernel_rfl) (by kernel_rfl) (by kernel_rfl) (by kernel_rfl) (fun _ _ _ h => h) (Or.inl ⟨by kernel_rfl, ?_⟩) (by assumption) ?_
                              rotate_left
                              · intro W hSw
                                try dsimp only at hSw
                                go_simp
                                first | done | with_reducible rfl
                              try simp only [Act.put, List.setIfInBounds_toArray, List.set_cons_zero, List.set_cons_succ]
                              refine take_at (i := 19) (d := 180) (oi := { dst := some 180, op := Op.move (Operand.tmp 15), type := 3, pos := "ref.go:181", after := #[], guard := none }) (v := ?_) (by kernel_rfl) (by kernel_rfl) (by kernel_rfl) (by kernel_rfl) (by kernel_rfl) (fun _ _ _ h => h) (Or.inl ⟨by kernel_rfl, ?_⟩) (by assumption) ?_
                              rotate_left
                              · intro W hSw
                                try dsimp only at hSw
                                go_simp
                                first | done | with_reducible rfl
                              try simp only [Act.put, List.setIfInBounds_toArray, List.set_cons_zero, List.set_cons_succ]
                              refine take_at (i := 20) (d := 181) (oi := { dst := some 181, op := Op.move (Operand.tmp 20), type := 3, pos := "ref.go:181", after := #[], guard := none }) (v := ?_) (by kernel_rfl) (by kernel_rfl) (by kernel_rfl) (by kernel_rfl) (by kernel_rfl) (fun _ _ _ h => h) (Or.inl ⟨by kernel_rfl, ?_⟩) (by assumption) ?_
                              rotate_left
                              · intro W hSw
                                try dsimp only at hSw
                                go_simp
                                first | done | with_reducible rfl
                              try simp only [Act.put, List.setIfInBounds_toArray, List.set_cons_zero, List.set_cons_succ]
                              refine take_at (i := 21) (d := 182) (oi := { dst := some 182, op := Op.slice 22 (Operand.tmp 179) (some (Operand.tmp 180)) (some (Operand.tmp 181)) none, type := 22, pos := "ref.go:181", after := #[{ on := 18, ground := Ground.data }, { on := 19, ground := Ground.data }, { on := 20, ground := Ground.data }], guard := none }) (v := ?_) (by kernel_rfl) (by kernel_rfl) (by kernel_rfl) (by kernel_rfl) (by kernel_rfl) (fun _ _ _ h => h) (Or.inl ⟨by kernel_rfl, ?_⟩) (by assumption) ?_
                              rotate_left
                              · intro W hSw
                                try dsimp only at hSw
                                go_simp
                                first | done | with_reducible rfl
                              try simp only [Act.put, List.setIfInBounds_toArray, List.set_cons_zero, List.set_cons_succ]
                              refine take_at (i := 23) (d := 184) (oi := { dst := some 184, op := Op.move (Operand.tmp 2), type := 22, pos := "ref.go:181", after := #[], guard := none }) (v := ?_) (by kernel_rfl) (by kernel_rfl) (by kernel_rfl) (by kernel_rfl) (by kernel_rfl) (fun _ _ _ h => h) (Or.inl ⟨by kernel_rfl, ?_⟩) (by assumption) ?_
                              rotate_left
                              · intro W hSw
                                try dsimp only at hSw
                                go_simp
                                first | done | with_reducible rfl
                              try simp only [Act.put, List.setIfInBounds_toArray, List.set_cons_zero, List.set_cons_succ]
                              refine take_at (i := 24) (d := 185) (oi := { dst := some 185, op := Op.move (Operand.tmp 16), type := 3, pos := "ref.go:181", after := #[], guard := none }) (v := ?_) (by kernel_rfl) (by kernel_rfl) (by kernel_rfl) (by kernel_rfl) (by kernel_rfl) (fun _ _ _ h => h) (Or.inl ⟨by kernel_rfl, ?_⟩) (by assumption) ?_
                              rotate_left
                              · intro W hSw
                                try dsimp only at hSw
                                go_simp
                                first | done | with_reducible rfl
                              try simp only [Act.put, List.setIfInBounds_toArray, List.set_cons_zero, List.set_cons_succ]
                              refine take_at (i := 25) (d := 186) (oi := { dst := some 186, op := Op.move (Operand.tmp 21), type := 3, pos := "ref.go:181", after := #[], guard := none }) (v := ?_) (by kernel_rfl) (by kernel_rfl) (by kernel_rfl) (by kernel_rfl) (by kernel_rfl) (fun _ _ _ h => h) (Or.inl ⟨by kernel_rfl, ?_⟩) (by assumption) ?_
                              rotate_left
                              · intro W hSw
                                try dsimp only at hSw
                                go_simp
                                first | done | with_reducible rfl
                              try simp only [Act.put, List.setIfInBounds_toArray, List.set_cons_zero, List.set_cons_succ]
                              refine take_at (i := 26) (d := 187) (oi := { dst := some 187, op := Op.slice 22 (Operand.tmp 184) (some (Operand.tmp 185)) (some (Operand.tmp 186)) none, type := 22, pos := "ref.go:181", after := #[{ on := 23, ground := Ground.data }, { on := 24, ground := Ground.data }, { on := 25, ground := Ground.data }], guard := none }) (v := ?_) (by kernel_rfl) (by kernel_rfl) (by kernel_rfl) (by kernel_rfl) (by kernel_rfl) (fun _ _ _ h => h) (Or.inl ⟨by kernel_rfl, ?_⟩) (by assumption) ?_
                              rotate_left
                              · intro W hSw
                                try dsimp only at hSw
                                go_simp
                                first | done | with_reducible rfl
                              try simp only [Act.put, List.setIfInBounds_toArray, List.set_cons_zero, List.set_cons_succ]
                              refine wpAnyH_ready (rs := [12, 29]) (by kernel_rfl) (by simp) (AllReadyH.cons (o := { dst := some 173, op := Op.call { callee := Callee.value (Operand.func 29), args := #[Operand.tmp 164, Operand.tmp 168, Operand.tmp 172], argTypes := #[22, 22, 22] }, type := 3, pos := "ref.go:181", after := #[{ on := 3, ground := Ground.data }, { on := 7, ground := Ground.data }, { on := 11, ground := Ground.data }], guard := none }) (by kernel_rfl) (fun K hK => ?_) (AllReadyH.cons (o := { dst := some 22, op := Op.alloc 62, type := 0, pos := "ref.go:181", after := #[], guard := none }) (by kernel_rfl) (fun K hK => ?_) AllReadyH.nil))
                              · as_aux_lemma =>
                                  go_simp
                                  refine (HKD.out _ (Below.refl wk.heap.size wk).drew).mono ?_
                                  rintro e ws1 ⟨rfl, hb⟩
                                  have HS1 : Hid (Below wk.heap.size wk ws1) := ((Below.refl wk.heap.size wk).drew).trans (hb.mono ((Below.refl wk.heap.size wk).drew).size)
                                  clear hb
                                  try go_wp2_with fail
                                  refine hK.out _ _ ?_ (fun hHeld => ?_)
                                  · try dsimp only
                                    exact HS1.out
                                  clear hK K
                                  try simp only [Act.put, List.setIfInBounds_toArray, List.set_cons_zero, List.set_cons_succ]
                                  refine wpAnyH_ready (rs := [17, 29]) (by kernel_rfl) (by simp) (AllReadyH.cons (o := { dst := some 178, op := Op.call { callee := Callee.value (Operand.func 11), args := #[Operand.tmp 177], argTypes := #[22] }, type := 22, pos := "ref.go:181", after := #[{ on := 16, ground := Ground.data }, { on := 12, ground := Ground.chain }], guard := none }) (by kernel_rfl) (fun K hK => ?_) (AllReadyH.cons (o := { dst := some 22, op := Op.alloc 62, type := 0, pos := "ref.go:181", after := #[], guard := none }) (by kernel_rfl) (fun K hK => ?_) AllReadyH.nil))
                                  · as_aux_lemma =>
                                      go_simp
                                      refine (HC1.out _ HS1.out).mono ?_
                                      rintro e ws2 ⟨d1, rfl, ho, hb⟩
                                      obtain ⟨E1, f1, hv, _, _⟩ := ho.length
                                      rw [List.length_map] at hv
                                      subst hv
                                      have HS2 : Hid (Below wk.heap.size wk ws2) := (HS1.out).trans (hb.mono (HS1.out).size)
                                      have HO1_2 := Lib.hid (ho.base (HS1.out).size)
                                      clear ho hb
                                      try go_wp2_with fail
                                      refine hK.out _ _ ?_ (fun hHeld => ?_)
                                      · try dsimp only
                                        exact HS2.out
                                      clear hK K
                                      try simp only [Act.put, List.setIfInBounds_toArray, List.set_cons_zero, List.set_cons_succ]
                                      refine wpAnyH_ready (rs := [22, 29]) (by kernel_rfl) (by simp) (AllReadyH.cons (o := { dst := some 183, op := Op.call { callee := Callee.value (Operand.func 11), args := #[Operand.tmp 182], argTypes := #[22] }, type := 22, pos := "ref.go:181", after := #[{ on := 21, ground := Ground.data }, { on := 17, ground := Ground.chain }], guard := none }) (by kernel_rfl) (fun K hK => ?_) (AllReadyH.cons (o := { dst := some 22, op := Op.alloc 62, type := 0, pos := "ref.go:181", after := #[], guard := none }) (by kernel_rfl) (fun K hK => ?_) AllReadyH.nil))
                                      · as_aux_lemma =>
                                          go_simp
                                          refine (HC2.out _ HS2.out).mono ?_
                                          rintro e ws3 ⟨d2, rfl, ho, hb⟩
                                          obtain ⟨E2, f2, hv, _, _⟩ := ho.length
                                          rw [List.length_map] at hv
                                          subst hv
                                          have HS3 : Hid (Below wk.heap.size wk ws3) := (HS2.out).trans (hb.mono (HS2.out).size)
                                          have HO2_3 := Lib.hid (ho.base (HS2.out).size)
                                          have HO1_3 := Lib.hid (HO1_2.out.below hb)
                                          clear ho hb
                                          try go_wp2_with fail
                                          refine hK.out _ _ ?_ (fun hHeld => ?_)
                                          · try dsimp only
                                            exact HS3.out
                                          clear hK K
                                          try simp only [Act.put, List.setIfInBounds_toArray, List.set_cons_zero, List.set_cons_succ]
                                          refine wpAnyH_ready (rs := [27, 29]) (by kernel_rfl) (by simp) (AllReadyH.cons (o := { dst := some 188, op := Op.call { callee := Callee.value (Operand.func 11), args := #[Operand.tmp 187], argTypes := #[22] }, type := 22, pos := "ref.go:181", after := #[{ on := 26, ground := Ground.data }, { on := 22, ground := Ground.chain }], guard := none }) (by kernel_rfl) (fun K hK => ?_) (AllReadyH.cons (o := { dst := some 22, op := Op.alloc 62, type := 0, pos := "ref.go:181", after := #[], guard := none }) (by kernel_rfl) (fun K hK => ?_) AllReadyH.nil))
                                          · as_aux_lemma =>
                                              go_simp
                                              refine (HC3.out _ HS3.out).mono ?_
                                              rintro e ws4 ⟨d3, rfl, ho, hb⟩
                                              obtain ⟨E3, f3, hv, _, _⟩ := ho.length
                                              rw [List.length_map] at hv
                                              subst hv
                                              have HS4 : Hid (Below wk.heap.size wk ws4) := (HS3.out).trans (hb.mono (HS3.out).size)
                                              have HO3_4 := Lib.hid (ho.base (HS3.out).size)
                                              have HO1_4 := Lib.hid (HO1_3.out.below hb)
                                              have HO2_4 := Lib.hid (HO2_3.out.below hb)
                                              clear ho hb
                                              try go_wp2_with fail
                                              refine hK.out _ _ ?_ (fun hHeld => ?_)
                                              · try dsimp only
                                                exact HS4.out
                                              clear hK K
                                              try simp only [Act.put, List.setIfInBounds_toArray, List.set_cons_zero, List.set_cons_succ]
                                              refine take_at (i := 28) (d := 189) (oi := { dst := some 189, op := Op.build 62 #[(0, Operand.tmp 173), (1, Operand.tmp 178), (2, Operand.tmp 183), (3, Operand.tmp 188)], type := 62, pos := "ref.go:181", after := #[{ on := 12, ground := Ground.data }, { on := 17, ground := Ground.data }, { on := 22, ground := Ground.data }, { on := 27, ground := Ground.data }], guard := none }) (v := ?_) (by kernel_rfl) (by kernel_rfl) (by kernel_rfl) (by kernel_rfl) (by kernel_rfl) (fun _ _ _ h => h) (Or.inl ⟨by kernel_rfl, ?_⟩) (by assumption) ?_
                                              rotate_left
                                              · intro W hSw
                                                try dsimp only at hSw
                                                go_simp
                                                first | done | with_reducible rfl
                                              try simp only [Act.put, List.setIfInBounds_toArray, List.set_cons_zero, List.set_cons_succ]
                                              refine wpAnyH_ready (rs := [29]) (by kernel_rfl) (by simp) (AllReadyH.cons (o := { dst := some 22, op := Op.alloc 62, type := 0, pos := "ref.go:181", after := #[], guard := none }) (by kernel_rfl) (fun K hK => ?_) AllReadyH.nil)
                                              go_simp
                                              obtain ⟨ws5, hn⟩ : ∃ W, W = ws4.alloc (.cells #[.int .i64 0, .slice none 0 0, .slice none 0 0, .slice none 0 0] 62) := ⟨_, rfl⟩
                                              obtain ⟨gc, hk⟩ : ∃ k, k = ws4.heap.size := ⟨_, rfl⟩
                                              try rw [← hn]
                                              try rw [← hk]
                                              have HS5 : Hid (Below wk.heap.size wk ws5) := by unfold Hid; rw [hn]; exact HS4.out.alloc HS4.out.size _
                                              have HK_5 : Hid (Blk ws5 gc 62 #[.int .i64 0, .slice none 0 0, .slice none 0 0, .slice none 0 0]) := by unfold Hid; rw [hn, hk]; exact Blk.new ws4 _ _
                                              have HGC : Hid (wk.heap.size ≤ gc) := by unfold Hid; rw [hk]; exact HS4.out.size
                                              have hb : Below ws4.heap.size ws4 ws5 := by rw [hn]; exact (Below.refl _ _).alloc (Nat.le_refl _) _
                                              have HO1_5 := Lib.hid (HO1_4.out.below hb)
                                              have HO2_5 := Lib.hid (HO2_4.out.below hb)
                                              have HO3_5 := Lib.hid (HO3_4.out.below hb)
                                              clear hb
                                              clear hn hk
                                              try go_wp2_with fail
                                              refine hK.out _ _ ?_ (fun hHeld => ?_)
                                              · try dsimp only
                                                exact HS5.out
                                              clear hK K
                                              try simp only [Act.put, List.setIfInBounds_toArray, List.set_cons_zero, List.set_cons_succ]
                                              refine wpAnyH_ready (rs := [30]) (by kernel_rfl) (by simp) (AllReadyH.cons (o := { dst := none, op := Op.store 62 (Operand.tmp 22) (Operand.tmp 189), type := 0, pos := "ref.go:181", after := #[{ on := 29, ground := Ground.data }, { on := 28, ground := Ground.data }, { on := 27, ground := Ground.chain }, { on := 0, ground := Ground.phase }, { on := 1, ground := Ground.phase }, { on := 2, ground := Ground.phase }, { on := 3, ground := Ground.phase }, { on := 4, ground := Ground.phase }, { on := 5, ground := Ground.phase }, { on := 6, ground := Ground.phase }, { on := 7, ground := Ground.phase }, { on := 8, ground := Ground.phase }, { on := 9, ground := Ground.phase }, { on := 10, ground := Ground.phase }, { on := 11, ground := Ground.phase }, { on := 12, ground := Ground.phase }, { on := 13, ground := Ground.phase }, { on := 14, ground := Ground.phase }, { on := 15, ground := Ground.phase }, { on := 16, ground := Ground.phase }, { on := 17, ground := Ground.phase }, { on := 18, ground := Ground.phase }, { on := 19, ground := Ground.phase }, { on := 20, ground := Ground.phase }, { on := 21, ground := Ground.phase }, { on := 22, ground := Ground.phase }, { on := 23, ground := Ground.phase }, { on := 24, ground := Ground.phase }, { on := 25, ground := Ground.phase }, { on := 26, ground := Ground.phase }, { on := 27, ground := Ground.phase }, { on := 28, ground := Ground.phase }, { on := 29, ground := Ground.phase }], guard := none }) (by kernel_rfl) (fun K hK => ?_) AllReadyH.nil)
                                              have HA1 : (Value.slice E1 (List.length Lo) f1).ownBlock ≠ some gc := own_apart HO1_5.out HK_5.out (by decide)
                                              have HA2 : (Value.slice E2 (List.length La) f2).ownBlock ≠ some gc := own_apart HO2_5.out HK_5.out (by decide)
                                              have HA3 : (Value.slice E3 (List.length Lb) f3).ownBlock ≠ some gc := own_apart HO3_5.out HK_5.out (by decide)
                                              have k0 := HK_5.out.cell 0
                                              have k1 := HK_5.out.cell 1
                                              have k2 := HK_5.out.cell 2
                                              have k3 := HK_5.out.cell 3
                                              have kf0 : ws5.frozen? ⟨gc, 0, none⟩ = false := HK_5.out.frozen 0
                                              have kf1 : ws5.frozen? ⟨gc, 1, none⟩ = false := HK_5.out.frozen 1
                                              have kf2 : ws5.frozen? ⟨gc, 2, none⟩ = false := HK_5.out.frozen 2
                                              have kf3 : ws5.frozen? ⟨gc, 3, none⟩ = false := HK_5.out.frozen 3
                                              go_simp
                                              obtain ⟨ws6, hn⟩ : ∃ W, W = ((((ws5.setCell ⟨gc, 0, none⟩ (.int .i64 (kd : Int))).setCell ⟨gc, 1, none⟩ (.slice E1 (List.length Lo) f1)).setCell ⟨gc, 2, none⟩ (.slice E2 (List.length La) f2)).setCell ⟨gc, 3, none⟩ (.slice E3 (List.length Lb) f3)) := ⟨_, rfl⟩
                                              try rw [← hn]
                                              have HS6 : Hid (Below wk.heap.size wk ws6) := by unfold Hid; rw [hn]; exact ((((HS5.out.setCell (by exact HGC.out) _).setCell (by exact HGC.out) _).setCell (by exact HGC.out) _).setCell (by exact HGC.out) _)
                                              have HK_6 : Hid (Blk ws6 gc 62 #[.int .i64 (kd : Int), .slice E1 (List.length Lo) f1, .slice E2 (List.length La) f2, .slice E3 (List.length Lb) f3]) := by unfold Hid; rw [hn]; have hq := ((((HK_5.out.set_ 0 (.int .i64 (kd : Int))).set_ 1 (.slice E1 (List.length Lo) f1)).set_ 2 (.slice E2 (List.length La) f2)).set_ 3 (.slice E3 (List.length Lb) f3)); simp at hq; exact hq
                                              have HO1_6 : Hid (OwnV 9 ws6 wk.heap.size (.slice E1 (List.length Lo) f1) (Lo.map sv)) := by unfold Hid; rw [hn]; exact (((HO1_5.out.apart HA1 _).apart HA1 _).apart HA1 _).apart HA1 _
                                              have HO2_6 : Hid (OwnV 9 ws6 wk.heap.size (.slice E2 (List.length La) f2) (La.map sv)) := by unfold Hid; rw [hn]; exact (((HO2_5.out.apart HA2 _).apart HA2 _).apart HA2 _).apart HA2 _
                                              have HO3_6 : Hid (OwnV 9 ws6 wk.heap.size (.slice E3 (List.length Lb) f3) (Lb.map sv)) := by unfold Hid; rw [hn]; exact (((HO3_5.out.apart HA3 _).apart HA3 _).apart HA3 _).apart HA3 _
                                              clear hn k0 k1 k2 k3 kf0 kf1 kf2 kf3 HA1 HA2 HA3
                                              try go_wp2_with fail
                                              refine hK.out _ _ ?_ (fun hHeld => ?_)
                                              · try dsimp only
                                                exact HS6.out
                                              clear hK K
                                              refine wpAnyH_done (by kernel_rfl) ?_ _
                                              go_wp2_with fail
                                              go_meet
                                              exact ⟨gc, _, _, _, _, _, _, rfl, HK_6.out, HO1_6.out, HO2_6.out, HO3_6.out, HS6.out⟩
                                          · as_aux_lemma =>
                                              go_simp
                                              obtain ⟨ws4, hn⟩ : ∃ W, W = ws3.alloc (.cells #[.int .i64 0, .slice none 0 0, .slice none 0 0, .slice none 0 0] 62) := ⟨_, rfl⟩
                                              obtain ⟨gc, hk⟩ : ∃ k, k = ws3.heap.size := ⟨_, rfl⟩
                                              try rw [← hn]
                                              try rw [← hk]
                                              have HS4 : Hid (Below wk.heap.size wk ws4) := by unfold Hid; rw [hn]; exact HS3.out.alloc HS3.out.size _
                                              have HK_4 : Hid (Blk ws4 gc 62 #[.int .i64 0, .slice none 0 0, .slice none 0 0, .slice none 0 0]) := by unfold Hid; rw [hn, hk]; exact Blk.new ws3 _ _
                                              have HGC : Hid (wk.heap.size ≤ gc) := by unfold Hid; rw [hk]; exact HS3.out.size
                                              have hb : Below ws3.heap.size ws3 ws4 := by rw [hn]; exact (Below.refl _ _).alloc (Nat.le_refl _) _
                                              have HO1_4 := Lib.hid (HO1_3.out.below hb)
                                              have HO2_4 := Lib.hid (HO2_3.out.below hb)
                                              clear hb
                                              clear hn hk
                                              try go_wp2_with fail
                                              refine hK.out _ _ ?_ (fun hHeld => ?_)
                                              · try dsimp only
                                                exact HS4.out
                                              clear hK K
                                              try simp only [Act.put, List.setIfInBounds_toArray, List.set_cons_zero, List.set_cons_succ]
                                              refine wpAnyH_ready (rs := [27]) (by kernel_rfl) (by simp) (AllReadyH.cons (o := { dst := some 188, op := Op.call { callee := Callee.value (Operand.func 11), args := #[Operand.tmp 187], argTypes := #[22] }, type := 22, pos := "ref.go:181", after := #[{ on := 26, ground := Ground.data }, { on := 22, ground := Ground.chain }], guard := none }) (by kernel_rfl) (fun K hK => ?_) AllReadyH.nil)
                                              go_simp
                                              refine (HC3.out _ HS4.out).mono ?_
                                              rintro e ws5 ⟨d3, rfl, ho, hb⟩
                                              obtain ⟨E3, f3, hv, _, _⟩ := ho.length
                                              rw [List.length_map] at hv
                                              subst hv
                                              have HS5 : Hid (Below wk.heap.size wk ws5) := (HS4.out).trans (hb.mono (HS4.out).size)
                                              have HO3_5 := Lib.hid (ho.base (HS4.out).size)
                                              have HO1_5 := Lib.hid (HO1_4.out.below hb)
                                              have HO2_5 := Lib.hid (HO2_4.out.below hb)
                                              have HK_5 := Lib.hid (HK_4.out.below hb HK_4.out.lt)
                                              clear ho hb
                                              try go_wp2_with fail
                                              refine hK.out _ _ ?_ (fun hHeld => ?_)
                                              · try dsimp only
                                                exact HS5.out
                                              clear hK K
                                              try simp only [Act.put, List.setIfInBounds_toArray, List.set_cons_zero, List.set_cons_succ]
                                              refine take_at (i := 28) (d := 189) (oi := { dst := some 189, op := Op.build 62 #[(0, Operand.tmp 173), (1, Operand.tmp 178), (2, Operand.tmp 183), (3, Operand.tmp 188)], type := 62, pos := "ref.go:181", after := #[{ on := 12, ground := Ground.data }, { on := 17, ground := Ground.data }, { on := 22, ground := Ground.data }, { on := 27, ground := Ground.data }], guard := none }) (v := ?_) (by kernel_rfl) (by kernel_rfl) (by kernel_rfl) (by kernel_rfl) (by kernel_rfl) (fun _ _ _ h => h) (Or.inl ⟨by kernel_rfl, ?_⟩) (by assumption) ?_
                                              rotate_left
                                              · intro W hSw
                                                try dsimp only at hSw
                                                go_simp
                                                first | done | with_reducible rfl
                                              try simp only [Act.put, List.setIfInBounds_toArray, List.set_cons_zero, List.set_cons_succ]
                                              refine wpAnyH_ready (rs := [30]) (by kernel_rfl) (by simp) (AllReadyH.cons (o := { dst := none, op := Op.store 62 (Operand.tmp 22) (Operand.tmp 189), type := 0, pos := "ref.go:181", after := #[{ on := 29, ground := Ground.data }, { on := 28, ground := Ground.data }, { on := 27, ground := Ground.chain }, { on := 0, ground := Ground.phase }, { on := 1, ground := Ground.phase }, { on := 2, ground := Ground.phase }, { on := 3, ground := Ground.phase }, { on := 4, ground := Ground.phase }, { on := 5, ground := Ground.phase }, { on := 6, ground := Ground.phase }, { on := 7, ground := Ground.phase }, { on := 8, ground := Ground.phase }, { on := 9, ground := Ground.phase }, { on := 10, ground := Ground.phase }, { on := 11, ground := Ground.phase }, { on := 12, ground := Ground.phase }, { on := 13, ground := Ground.phase }, { on := 14, ground := Ground.phase }, { on := 15, ground := Ground.phase }, { on := 16, ground := Ground.phase }, { on := 17, ground := Ground.phase }, { on := 18, ground := Ground.phase }, { on := 19, ground := Ground.phase }, { on := 20, ground := Ground.phase }, { on := 21, ground := Ground.phase }, { on := 22, ground := Ground.phase }, { on := 23, ground := Ground.phase }, { on := 24, ground := Ground.phase }, { on := 25, ground := Ground.phase }, { on := 26, ground := Ground.phase }, { on := 27, ground := Ground.phase }, { on := 28, ground := Ground.phase }, { on := 29, ground := Ground.phase }], guard := none }) (by kernel_rfl) (fun K hK => ?_) AllReadyH.nil)
                                              have HA1 : (Value.slice E1 (List.length Lo) f1).ownBlock ≠ some gc := own_apart HO1_5.out HK_5.out (by decide)
                                              have HA2 : (Value.slice E2 (List.length La) f2).ownBlock ≠ some gc := own_apart HO2_5.out HK_5.out (by decide)
                                              have HA3 : (Value.slice E3 (List.length Lb) f3).ownBlock ≠ some gc := own_apart HO3_5.out HK_5.out (by decide)
                                              have k0 := HK_5.out.cell 0
                                              have k1 := HK_5.out.cell 1
                                              have k2 := HK_5.out.cell 2
                                              have k3 := HK_5.out.cell 3
                                              have kf0 : ws5.frozen? ⟨gc, 0, none⟩ = false := HK_5.out.frozen 0
                                              have kf1 : ws5.frozen? ⟨gc, 1, none⟩ = false := HK_5.out.frozen 1
                                              have kf2 : ws5.frozen? ⟨gc, 2, none⟩ = false := HK_5.out.frozen 2
                                              have kf3 : ws5.frozen? ⟨gc, 3, none⟩ = false := HK_5.out.frozen 3
                                              go_simp
                                              obtain ⟨ws6, hn⟩ : ∃ W, W = ((((ws5.setCell ⟨gc, 0, none⟩ (.int .i64 (kd : Int))).setCell ⟨gc, 1, none⟩ (.slice E1 (List.length Lo) f1)).setCell ⟨gc, 2, none⟩ (.slice E2 (List.length La) f2)).setCell ⟨gc, 3, none⟩ (.slice E3 (List.length Lb) f3)) := ⟨_, rfl⟩
                                              try rw [← hn]
                                              have HS6 : Hid (Below wk.heap.size wk ws6) := by unfold Hid; rw [hn]; exact ((((HS5.out.setCell (by exact HGC.out) _).setCell (by exact HGC.out) _).setCell (by exact HGC.out) _).setCell (by exact HGC.out) _)
                                              have HK_6 : Hid (Blk ws6 gc 62 #[.int .i64 (kd : Int), .slice E1 (List.length Lo) f1, .slice E2 (List.length La) f2, .slice E3 (List.length Lb) f3]) := by unfold Hid; rw [hn]; have hq := ((((HK_5.out.set_ 0 (.int .i64 (kd : Int))).set_ 1 (.slice E1 (List.length Lo) f1)).set_ 2 (.slice E2 (List.length La) f2)).set_ 3 (.slice E3 (List.length Lb) f3)); simp at hq; exact hq
                                              have HO1_6 : Hid (OwnV 9 ws6 wk.heap.size (.slice E1 (List.length Lo) f1) (Lo.map sv)) := by unfold Hid; rw [hn]; exact (((HO1_5.out.apart HA1 _).apart HA1 _).apart HA1 _).apart HA1 _
                                              have HO2_6 : Hid (OwnV 9 ws6 wk.heap.size (.slice E2 (List.length La) f2) (La.map sv)) := by unfold Hid; rw [hn]; exact (((HO2_5.out.apart HA2 _).apart HA2 _).apart HA2 _).apart HA2 _
                                              have HO3_6 : Hid (OwnV 9 ws6 wk.heap.size (.slice E3 (List.length Lb) f3) (Lb.map sv)) := by unfold Hid; rw [hn]; exact (((HO3_5.out.apart HA3 _).apart HA3 _).apart HA3 _).apart HA3 _
                                              clear hn k0 k1 k2 k3 kf0 kf1 kf2 kf3 HA1 HA2 HA3
                                              try go_wp2_with fail
                                              refine hK.out _ _ ?_ (fun hHeld => ?_)
                                              · try dsimp only
                                                exact HS6.out
                                              clear hK K
                                              refine wpAnyH_done (by kernel_rfl) ?_ _
                                              go_wp2_with fail
                                              go_meet
                                              exact ⟨gc, _, _, _, _, _, _, rfl, HK_6.out, HO1_6.out, HO2_6.out, HO3_6.out, HS6.out⟩
                                      · as_aux_lemma =>
                                          go_simp
                                          obtain ⟨ws3, hn⟩ : ∃ W, W = ws2.alloc (.cells #[.int .i64 0, .slice none 0 0, .slice none 0 0, .slice none 0 0] 62) := ⟨_, rfl⟩
                                          obtain ⟨gc, hk⟩ : ∃ k, k = ws2.heap.size := ⟨_, rfl⟩
                                          try rw [← hn]
                                          try rw [← hk]
                                          have HS3 : Hid (Below wk.heap.size wk ws3) := by unfold Hid; rw [hn]; exact HS2.out.alloc HS2.out.size _
                                          have HK_3 : Hid (Blk ws3 gc 62 #[.int .i64 0, .slice none 0 0, .slice none 0 0, .slice none 0 0]) := by unfold Hid; rw [hn, hk]; exact Blk.new ws2 _ _
                                          have HGC : Hid (wk.heap.size ≤ gc) := by unfold Hid; rw [hk]; exact HS2.out.size
                                          have hb : Below ws2.heap.size ws2 ws3 := by rw [hn]; exact (Below.refl _ _).alloc (Nat.le_refl _) _
                                          have HO1_3 := Lib.hid (HO1_2.out.below hb)
                                          clear hb
                                          clear hn hk
                                          try go_wp2_with fail
                                          refine hK.out _ _ ?_ (fun hHeld => ?_)
                                          · try dsimp only
                                            exact HS3.out
                                          clear hK K
                                          try simp only [Act.put, List.setIfInBounds_toArray, List.set_cons_zero, List.set_cons_succ]
                                          refine wpAnyH_ready (rs := [22]) (by kernel_rfl) (by simp) (AllReadyH.cons (o := { dst := some 183, op := Op.call { callee := Callee.value (Operand.func 11), args := #[Operand.tmp 182], argTypes := #[22] }, type := 22, pos := "ref.go:181", after := #[{ on := 21, ground := Ground.data }, { on := 17, ground := Ground.chain }], guard := none }) (by kernel_rfl) (fun K hK => ?_) AllReadyH.nil)
                                          go_simp
                                          refine (HC2.out _ HS3.out).mono ?_
                                          rintro e ws4 ⟨d2, rfl, ho, hb⟩
                                          obtain ⟨E2, f2, hv, _, _⟩ := ho.length
                                          rw [List.length_map] at hv
                                          subst hv
                                          have HS4 : Hid (Below wk.heap.size wk ws4) := (HS3.out).trans (hb.mono (HS3.out).size)
                                          have HO2_4 := Lib.hid (ho.base (HS3.out).size)
                                          have HO1_4 := Lib.hid (HO1_3.out.below hb)
                                          have HK_4 := Lib.hid (HK_3.out.below hb HK_3.out.lt)
                                          clear ho hb
                                          try go_wp2_with fail
                                          refine hK.out _ _ ?_ (fun hHeld => ?_)
                                          · try dsimp only
                                            exact HS4.out
                                          clear hK K
                                          try simp only [Act.put, List.setIfInBounds_toArray, List.set_cons_zero, List.set_cons_succ]
                                          refine wpAnyH_ready (rs := [27]) (by kernel_rfl) (by simp) (AllReadyH.cons (o := { dst := some 188, op := Op.call { callee := Callee.value (Operand.func 11), args := #[Operand.tmp 187], argTypes := #[22] }, type := 22, pos := "ref.go:181", after := #[{ on := 26, ground := Ground.data }, { on := 22, ground := Ground.chain }], guard := none }) (by kernel_rfl) (fun K hK => ?_) AllReadyH.nil)
                                          go_simp
                                          refine (HC3.out _ HS4.out).mono ?_
                                          rintro e ws5 ⟨d3, rfl, ho, hb⟩
                                          obtain ⟨E3, f3, hv, _, _⟩ := ho.length
                                          rw [List.length_map] at hv
                                          subst hv
                                          have HS5 : Hid (Below wk.heap.size wk ws5) := (HS4.out).trans (hb.mono (HS4.out).size)
                                          have HO3_5 := Lib.hid (ho.base (HS4.out).size)
                                          have HO1_5 := Lib.hid (HO1_4.out.below hb)
                                          have HK_5 := Lib.hid (HK_4.out.below hb HK_4.out.lt)
                                          have HO2_5 := Lib.hid (HO2_4.out.below hb)
                                          clear ho hb
                                          try go_wp2_with fail
                                          refine hK.out _ _ ?_ (fun hHeld => ?_)
                                          · try dsimp only
                                            exact HS5.out
                                          clear hK K
                                          try simp only [Act.put, List.setIfInBounds_toArray, List.set_cons_zero, List.set_cons_succ]
                                          refine take_at (i := 28) (d := 189) (oi := { dst := some 189, op := Op.build 62 #[(0, Operand.tmp 173), (1, Operand.tmp 178), (2, Operand.tmp 183), (3, Operand.tmp 188)], type := 62, pos := "ref.go:181", after := #[{ on := 12, ground := Ground.data }, { on := 17, ground := Ground.data }, { on := 22, ground := Ground.data }, { on := 27, ground := Ground.data }], guard := none }) (v := ?_) (by kernel_rfl) (by kernel_rfl) (by kernel_rfl) (by kernel_rfl) (by kernel_rfl) (fun _ _ _ h => h) (Or.inl ⟨by kernel_rfl, ?_⟩) (by assumption) ?_
                                          rotate_left
                                          · intro W hSw
                                            try dsimp only at hSw
                                            go_simp
                                            first | done | with_reducible rfl
                                          try simp only [Act.put, List.setIfInBounds_toArray, List.set_cons_zero, List.set_cons_succ]
                                          refine wpAnyH_ready (rs := [30]) (by kernel_rfl) (by simp) (AllReadyH.cons (o := { dst := none, op := Op.store 62 (Operand.tmp 22) (Operand.tmp 189), type := 0, pos := "ref.go:181", after := #[{ on := 29, ground := Ground.data }, { on := 28, ground := Ground.data }, { on := 27, ground := Ground.chain }, { on := 0, ground := Ground.phase }, { on := 1, ground := Ground.phase }, { on := 2, ground := Ground.phase }, { on := 3, ground := Ground.phase }, { on := 4, ground := Ground.phase }, { on := 5, ground := Ground.phase }, { on := 6, ground := Ground.phase }, { on := 7, ground := Ground.phase }, { on := 8, ground := Ground.phase }, { on := 9, ground := Ground.phase }, { on := 10, ground := Ground.phase }, { on := 11, ground := Ground.phase }, { on := 12, ground := Ground.phase }, { on := 13, ground := Ground.phase }, { on := 14, ground := Ground.phase }, { on := 15, ground := Ground.phase }, { on := 16, ground := Ground.phase }, { on := 17, ground := Ground.phase }, { on := 18, ground := Ground.phase }, { on := 19, ground := Ground.phase }, { on := 20, ground := Ground.phase }, { on := 21, ground := Ground.phase }, { on := 22, ground := Ground.phase }, { on := 23, ground := Ground.phase }, { on := 24, ground := Ground.phase }, { on := 25, ground := Ground.phase }, { on := 26, ground := Ground.phase }, { on := 27, ground := Ground.phase }, { on := 28, ground := Ground.phase }, { on := 29, ground := Ground.phase }], guard := none }) (by kernel_rfl) (fun K hK => ?_) AllReadyH.nil)
                                          have HA1 : (Value.slice E1 (List.length Lo) f1).ownBlock ≠ some gc := own_apart HO1_5.out HK_5.out (by decide)
                                          have HA2 : (Value.slice E2 (List.length La) f2).ownBlock ≠ some gc := own_apart HO2_5.out HK_5.out (by decide)
                                          have HA3 : (Value.slice E3 (List.length Lb) f3).ownBlock ≠ some gc := own_apart HO3_5.out HK_5.out (by decide)
                                          have k0 := HK_5.out.cell 0
                                          have k1 := HK_5.out.cell 1
                                          have k2 := HK_5.out.cell 2
                                          have k3 := HK_5.out.cell 3
                                          have kf0 : ws5.frozen? ⟨gc, 0, none⟩ = false := HK_5.out.frozen 0
                                          have kf1 : ws5.frozen? ⟨gc, 1, none⟩ = false := HK_5.out.frozen 1
                                          have kf2 : ws5.frozen? ⟨gc, 2, none⟩ = false := HK_5.out.frozen 2
                                          have kf3 : ws5.frozen? ⟨gc, 3, none⟩ = false := HK_5.out.frozen 3
                                          go_simp
                                          obtain ⟨ws6, hn⟩ : ∃ W, W = ((((ws5.setCell ⟨gc, 0, none⟩ (.int .i64 (kd : Int))).setCell ⟨gc, 1, none⟩ (.slice E1 (List.length Lo) f1)).setCell ⟨gc, 2, none⟩ (.slice E2 (List.length La) f2)).setCell ⟨gc, 3, none⟩ (.slice E3 (List.length Lb) f3)) := ⟨_, rfl⟩
                                          try rw [← hn]
                                          have HS6 : Hid (Below wk.heap.size wk ws6) := by unfold Hid; rw [hn]; exact ((((HS5.out.setCell (by exact HGC.out) _).setCell (by exact HGC.out) _).setCell (by exact HGC.out) _).setCell (by exact HGC.out) _)
                                          have HK_6 : Hid (Blk ws6 gc 62 #[.int .i64 (kd : Int), .slice E1 (List.length Lo) f1, .slice E2 (List.length La) f2, .slice E3 (List.length Lb) f3]) := by unfold Hid; rw [hn]; have hq := ((((HK_5.out.set_ 0 (.int .i64 (kd : Int))).set_ 1 (.slice E1 (List.length Lo) f1)).set_ 2 (.slice E2 (List.length La) f2)).set_ 3 (.slice E3 (List.length Lb) f3)); simp at hq; exact hq
                                          have HO1_6 : Hid (OwnV 9 ws6 wk.heap.size (.slice E1 (List.length Lo) f1) (Lo.map sv)) := by unfold Hid; rw [hn]; exact (((HO1_5.out.apart HA1 _).apart HA1 _).apart HA1 _).apart HA1 _
                                          have HO2_6 : Hid (OwnV 9 ws6 wk.heap.size (.slice E2 (List.length La) f2) (La.map sv)) := by unfold Hid; rw [hn]; exact (((HO2_5.out.apart HA2 _).apart HA2 _).apart HA2 _).apart HA2 _
                                          have HO3_6 : Hid (OwnV 9 ws6 wk.heap.size (.slice E3 (List.length Lb) f3) (Lb.map sv)) := by unfold Hid; rw [hn]; exact (((HO3_5.out.apart HA3 _).apart HA3 _).apart HA3 _).apart HA3 _
                                          clear hn k0 k1 k2 k3 kf0 kf1 kf2 kf3 HA1 HA2 HA3
                                          try go_wp2_with fail
                                          refine hK.out _ _ ?_ (fun hHeld => ?_)
                                          · try dsimp only
                                            exact HS6.out
                                          clear hK K
                                          refine wpAnyH_done (by kernel_rfl) ?_ _
                                          go_wp2_with fail
                                          go_meet
                                          exact ⟨gc, _, _, _, _, _, _, rfl, HK_6.out, HO1_6.out, HO2_6.out, HO3_6.out, HS6.out⟩
                                  · as_aux_lemma =>
                                      go_simp
                                      obtain ⟨ws2, hn⟩ : ∃ W, W = ws1.alloc (.cells #[.int .i64 0, .slice none 0 0, .slice none 0 0, .slice none 0 0] 62) := ⟨_, rfl⟩
                                      obtain ⟨gc, hk⟩ : ∃ k, k = ws1.heap.size := ⟨_, rfl⟩
                                      try rw [← hn]
                                      try rw [← hk]
                                      have HS2 : Hid (Below wk.heap.size wk ws2) := by unfold Hid; rw [hn]; exact HS1.out.alloc HS1.out.size _
                                      have HK_2 : Hid (Blk ws2 gc 62 #[.int .i64 0, .slice none 0 0, .slice none 0 0, .slice none 0 0]) := by unfold Hid; rw [hn, hk]; exact Blk.new ws1 _ _
                                      have HGC : Hid (wk.heap.size ≤ gc) := by unfold Hid; rw [hk]; exact HS1.out.size
                                      clear hn hk
                                      try go_wp2_with fail
                                      refine hK.out _ _ ?_ (fun hHeld => ?_)
                                      · try dsimp only
                                        exact HS2.out
                                      clear hK K
                                      try simp only [Act.put, List.setIfInBounds_toArray, List.set_cons_zero, List.set_cons_succ]
                                      refine wpAnyH_ready (rs := [17]) (by kernel_rfl) (by simp) (AllReadyH.cons (o := { dst := some 178, op := Op.call { callee := Callee.value (Operand.func 11), args := #[Operand.tmp 177], argTypes := #[22] }, type := 22, pos := "ref.go:181", after := #[{ on := 16, ground := Ground.data }, { on := 12, ground := Ground.chain }], guard := none }) (by kernel_rfl) (fun K hK => ?_) AllReadyH.nil)
                                      go_simp
                                      refine (HC1.out _ HS2.out).mono ?_
                                      rintro e ws3 ⟨d1, rfl, ho, hb⟩
                                      obtain ⟨E1, f1, hv, _, _⟩ := ho.length
                                      rw [List.length_map] at hv
                                      subst hv
                                      have HS3 : Hid (Below wk.heap.size wk ws3) := (HS2.out).trans (hb.mono (HS2.out).size)
                                      have HO1_3 := Lib.hid (ho.base (HS2.out).size)
                                      have HK_3 := Lib.hid (HK_2.out.below hb HK_2.out.lt)
                                      clear ho hb
                                      try go_wp2_with fail
                                      refine hK.out _ _ ?_ (fun hHeld => ?_)
                                      · try dsimp only
                                        exact HS3.out
                                      clear hK K
                                      try simp only [Act.put, List.setIfInBounds_toArray, List.set_cons_zero, List.set_cons_succ]
                                      refine wpAnyH_ready (rs := [22]) (by kernel_rfl) (by simp) (AllReadyH.cons (o := { dst := some 183, op := Op.call { callee := Callee.value (Operand.func 11), args := #[Operand.tmp 182], argTypes := #[22] }, type := 22, pos := "ref.go:181", after := #[{ on := 21, ground := Ground.data }, { on := 17, ground := Ground.chain }], guard := none }) (by kernel_rfl) (fun K hK => ?_) AllReadyH.nil)
                                      go_simp
                                      refine (HC2.out _ HS3.out).mono ?_
                                      rintro e ws4 ⟨d2, rfl, ho, hb⟩
                                      obtain ⟨E2, f2, hv, _, _⟩ := ho.length
                                      rw [List.length_map] at hv
                                      subst hv
                                      have HS4 : Hid (Below wk.heap.size wk ws4) := (HS3.out).trans (hb.mono (HS3.out).size)
                                      have HO2_4 := Lib.hid (ho.base (HS3.out).size)
                                      have HK_4 := Lib.hid (HK_3.out.below hb HK_3.out.lt)
                                      have HO1_4 := Lib.hid (HO1_3.out.below hb)
                                      clear ho hb
                                      try go_wp2_with fail
                                      refine hK.out _ _ ?_ (fun hHeld => ?_)
                                      · try dsimp only
                                        exact HS4.out
                                      clear hK K
                                      try simp only [Act.put, List.setIfInBounds_toArray, List.set_cons_zero, List.set_cons_succ]
                                      refine wpAnyH_ready (rs := [27]) (by kernel_rfl) (by simp) (AllReadyH.cons (o := { dst := some 188, op := Op.call { callee := Callee.value (Operand.func 11), args := #[Operand.tmp 187], argTypes := #[22] }, type := 22, pos := "ref.go:181", after := #[{ on := 26, ground := Ground.data }, { on := 22, ground := Ground.chain }], guard := none }) (by kernel_rfl) (fun K hK => ?_) AllReadyH.nil)
                                      go_simp
                                      refine (HC3.out _ HS4.out).mono ?_
                                      rintro e ws5 ⟨d3, rfl, ho, hb⟩
                                      obtain ⟨E3, f3, hv, _, _⟩ := ho.length
                                      rw [List.length_map] at hv
                                      subst hv
                                      have HS5 : Hid (Below wk.heap.size wk ws5) := (HS4.out).trans (hb.mono (HS4.out).size)
                                      have HO3_5 := Lib.hid (ho.base (HS4.out).size)
                                      have HK_5 := Lib.hid (HK_4.out.below hb HK_4.out.lt)
                                      have HO1_5 := Lib.hid (HO1_4.out.below hb)
                                      have HO2_5 := Lib.hid (HO2_4.out.below hb)
                                      clear ho hb
                                      try go_wp2_with fail
                                      refine hK.out _ _ ?_ (fun hHeld => ?_)
                                      · try dsimp only
                                        exact HS5.out
                                      clear hK K
                                      try simp only [Act.put, List.setIfInBounds_toArray, List.set_cons_zero, List.set_cons_succ]
                                      refine take_at (i := 28) (d := 189) (oi := { dst := some 189, op := Op.build 62 #[(0, Operand.tmp 173), (1, Operand.tmp 178), (2, Operand.tmp 183), (3, Operand.tmp 188)], type := 62, pos := "ref.go:181", after := #[{ on := 12, ground := Ground.data }, { on := 17, ground := Ground.data }, { on := 22, ground := Ground.data }, { on := 27, ground := Ground.data }], guard := none }) (v := ?_) (by kernel_rfl) (by kernel_rfl) (by kernel_rfl) (by kernel_rfl) (by kernel_rfl) (fun _ _ _ h => h) (Or.inl ⟨by kernel_rfl, ?_⟩) (by assumption) ?_
                                      rotate_left
                                      · intro W hSw
                                        try dsimp only at hSw
                                        go_simp
                                        first | done | with_reducible rfl
                                      try simp only [Act.put, List.setIfInBounds_toArray, List.set_cons_zero, List.set_cons_succ]
                                      refine wpAnyH_ready (rs := [30]) (by kernel_rfl) (by simp) (AllReadyH.cons (o := { dst := none, op := Op.store 62 (Operand.tmp 22) (Operand.tmp 189), type := 0, pos := "ref.go:181", after := #[{ on := 29, ground := Ground.data }, { on := 28, ground := Ground.data }, { on := 27, ground := Ground.chain }, { on := 0, ground := Ground.phase }, { on := 1, ground := Ground.phase }, { on := 2, ground := Ground.phase }, { on := 3, ground := Ground.phase }, { on := 4, ground := Ground.phase }, { on := 5, ground := Ground.phase }, { on := 6, ground := Ground.phase }, { on := 7, ground := Ground.phase }, { on := 8, ground := Ground.phase }, { on := 9, ground := Ground.phase }, { on := 10, ground := Ground.phase }, { on := 11, ground := Ground.phase }, { on := 12, ground := Ground.phase }, { on := 13, ground := Ground.phase }, { on := 14, ground := Ground.phase }, { on := 15, ground := Ground.phase }, { on := 16, ground := Ground.phase }, { on := 17, ground := Ground.phase }, { on := 18, ground := Ground.phase }, { on := 19, ground := Ground.phase }, { on := 20, ground := Ground.phase }, { on := 21, ground := Ground.phase }, { on := 22, ground := Ground.phase }, { on := 23, ground := Ground.phase }, { on := 24, ground := Ground.phase }, { on := 25, ground := Ground.phase }, { on := 26, ground := Ground.phase }, { on := 27, ground := Ground.phase }, { on := 28, ground := Ground.phase }, { on := 29, ground := Ground.phase }], guard := none }) (by kernel_rfl) (fun K hK => ?_) AllReadyH.nil)
                                      have HA1 : (Value.slice E1 (List.length Lo) f1).ownBlock ≠ some gc := own_apart HO1_5.out HK_5.out (by decide)
                                      have HA2 : (Value.slice E2 (List.length La) f2).ownBlock ≠ some gc := own_apart HO2_5.out HK_5.out (by decide)
                                      have HA3 : (Value.slice E3 (List.length Lb) f3).ownBlock ≠ some gc := own_apart HO3_5.out HK_5.out (by decide)
                                      have k0 := HK_5.out.cell 0
                                      have k1 := HK_5.out.cell 1
                                      have k2 := HK_5.out.cell 2
                                      have k3 := HK_5.out.cell 3
                                      have kf0 : ws5.frozen? ⟨gc, 0, none⟩ = false := HK_5.out.frozen 0
                                      have kf1 : ws5.frozen? ⟨gc, 1, none⟩ = false := HK_5.out.frozen 1
                                      have kf2 : ws5.frozen? ⟨gc, 2, none⟩ = false := HK_5.out.frozen 2
                                      have kf3 : ws5.frozen? ⟨gc, 3, none⟩ = false := HK_5.out.frozen 3
                                      go_simp
                                      obtain ⟨ws6, hn⟩ : ∃ W, W = ((((ws5.setCell ⟨gc, 0, none⟩ (.int .i64 (kd : Int))).setCell ⟨gc, 1, none⟩ (.slice E1 (List.length Lo) f1)).setCell ⟨gc, 2, none⟩ (.slice E2 (List.length La) f2)).setCell ⟨gc, 3, none⟩ (.slice E3 (List.length Lb) f3)) := ⟨_, rfl⟩
                                      try rw [← hn]
                                      have HS6 : Hid (Below wk.heap.size wk ws6) := by unfold Hid; rw [hn]; exact ((((HS5.out.setCell (by exact HGC.out) _).setCell (by exact HGC.out) _).setCell (by exact HGC.out) _).setCell (by exact HGC.out) _)
                                      have HK_6 : Hid (Blk ws6 gc 62 #[.int .i64 (kd : Int), .slice E1 (List.length Lo) f1, .slice E2 (List.length La) f2, .slice E3 (List.length Lb) f3]) := by unfold Hid; rw [hn]; have hq := ((((HK_5.out.set_ 0 (.int .i64 (kd : Int))).set_ 1 (.slice E1 (List.length Lo) f1)).set_ 2 (.slice E2 (List.length La) f2)).set_ 3 (.slice E3 (List.length Lb) f3)); simp at hq; exact hq
                                      have HO1_6 : Hid (OwnV 9 ws6 wk.heap.size (.slice E1 (List.length Lo) f1) (Lo.map sv)) := by unfold Hid; rw [hn]; exact (((HO1_5.out.apart HA1 _).apart HA1 _).apart HA1 _).apart HA1 _
                                      have HO2_6 : Hid (OwnV 9 ws6 wk.heap.size (.slice E2 (List.length La) f2) (La.map sv)) := by unfold Hid; rw [hn]; exact (((HO2_5.out.apart HA2 _).apart HA2 _).apart HA2 _).apart HA2 _
                                      have HO3_6 : Hid (OwnV 9 ws6 wk.heap.size (.slice E3 (List.length Lb) f3) (Lb.map sv)) := by unfold Hid; rw [hn]; exact (((HO3_5.out.apart HA3 _).apart HA3 _).apart HA3 _).apart HA3 _
                                      clear hn k0 k1 k2 k3 kf0 kf1 kf2 kf3 HA1 HA2 HA3
                                      try go_wp2_with fail
                                      refine hK.out _ _ ?_ (fun hHeld => ?_)
                                      · try dsimp only
                                        exact HS6.out
                                      clear hK K
                                      refine wpAnyH_done (by kernel_rfl) ?_ _
                                      go_wp2_with fail
                                      go_meet
                                      exact ⟨gc, _, _, _, _, _, _, rfl, HK_6.out, HO1_6.out, HO2_6.out, HO3_6.out, HS6.out⟩
                              · as_aux_lemma =>
                                  go_simp
                                  obtain ⟨ws1, hn⟩ : ∃ W, W = (wk.alloc (.cells #[.int .i64 0, .slice none 0 0, .slice none 0 0, .slice none 0 0] 62)).drew := ⟨_, rfl⟩
                                  obtain ⟨gc, hk⟩ : ∃ k, k = wk.heap.size := ⟨_, rfl⟩
                                  try rw [← hn]
                                  try rw [← hk]
                                  have HS1 : Hid (Below wk.heap.size wk ws1) := by unfold Hid; rw [hn]; exact ((Below.refl _ _).alloc (Nat.le_refl _) _).drew
                                  have HK_1 : Hid (Blk ws1 gc 62 #[.int .i64 0, .slice none 0 0, .slice none 0 0, .slice none 0 0]) := by unfold Hid; rw [hn, hk]; exact Blk.new wk _ _
                                  have HGC : Hid (wk.heap.size ≤ gc) := by unfold Hid; rw [hk]; exact Nat.le_refl _
                                  clear hn hk
                                  try go_wp2_with fail
                                  refine hK.out _ _ ?_ (fun hHeld => ?_)
                                  · try dsimp only
                                    exact HS1.out
                                  clear hK K
                                  try simp only [Act.put, List.setIfInBounds_toArray, List.set_cons_zero, List.set_cons_succ]
                                  refine wpAnyH_ready (rs := [12]) (by kernel_rfl) (by simp) (AllReadyH.cons (o := { dst := some 173, op := Op.call { callee := Callee.value (Operand.func 29), args := #[Operand.tmp 164, Operand.tmp 168, Operand.tmp 172], argTypes := #[22, 22, 22] }, type := 3, pos := "ref.go:181", after := #[{ on := 3, ground := Ground.data }, { on := 7, ground := Ground.data }, { on := 11, ground := Ground.data }], guard := none }) (by kernel_rfl) (fun K hK => ?_) AllReadyH.nil)
                                  go_simp
                                  refine (HKD.out _ HS1.out).mono ?_
                                  rintro e ws2 ⟨rfl, hb⟩
                                  have HS2 : Hid (Below wk.heap.size wk ws2) := (HS1.out).trans (hb.mono (HS1.out).size)
                                  have HK_2 := Lib.hid (HK_1.out.below hb HK_1.out.lt)
                                  clear hb
                                  try go_wp2_with fail
                                  refine hK.out _ _ ?_ (fun hHeld => ?_)
                                  · try dsimp only
                                    exact HS2.out
                                  clear hK K
                                  try simp only [Act.put, List.setIfInBounds_toArray, List.set_cons_zero, List.set_cons_succ]
                                  refine wpAnyH_ready (rs := [17]) (by kernel_rfl) (by simp) (AllReadyH.cons (o := { dst := some 178, op := Op.call { callee := Callee.value (Operand.func 11), args := #[Operand.tmp 177], argTypes := #[22] }, type := 22, pos := "ref.go:181", after := #[{ on := 16, ground := Ground.data }, { on := 12, ground := Ground.chain }], guard := none }) (by kernel_rfl) (fun K hK => ?_) AllReadyH.nil)
                                  go_simp
                                  refine (HC1.out _ HS2.out).mono ?_
                                  rintro e ws3 ⟨d1, rfl, ho, hb⟩
                                  obtain ⟨E1, f1, hv, _, _⟩ := ho.length
                                  rw [List.length_map] at hv
                                  subst hv
                                  have HS3 : Hid (Below wk.heap.size wk ws3) := (HS2.out).trans (hb.mono (HS2.out).size)
                                  have HO1_3 := Lib.hid (ho.base (HS2.out).size)
                                  have HK_3 := Lib.hid (HK_2.out.below hb HK_2.out.lt)
                                  clear ho hb
                                  try go_wp2_with fail
                                  refine hK.out _ _ ?_ (fun hHeld => ?_)
                                  · try dsimp only
                                    exact HS3.out
                                  clear hK K
                                  try simp only [Act.put, List.setIfInBounds_toArray, List.set_cons_zero, List.set_cons_succ]
                                  refine wpAnyH_ready (rs := [22]) (by kernel_rfl) (by simp) (AllReadyH.cons (o := { dst := some 183, op := Op.call { callee := Callee.value (Operand.func 11), args := #[Operand.tmp 182], argTypes := #[22] }, type := 22, pos := "ref.go:181", after := #[{ on := 21, ground := Ground.data }, { on := 17, ground := Ground.chain }], guard := none }) (by kernel_rfl) (fun K hK => ?_) AllReadyH.nil)
                                  go_simp
                                  refine (HC2.out _ HS3.out).mono ?_
                                  rintro e ws4 ⟨d2, rfl, ho, hb⟩
                                  obtain ⟨E2, f2, hv, _, _⟩ := ho.length
                                  rw [List.length_map] at hv
                                  subst hv
                                  have HS4 : Hid (Below wk.heap.size wk ws4) := (HS3.out).trans (hb.mono (HS3.out).size)
                                  have HO2_4 := Lib.hid (ho.base (HS3.out).size)
                                  have HK_4 := Lib.hid (HK_3.out.below hb HK_3.out.lt)
                                  have HO1_4 := Lib.hid (HO1_3.out.below hb)
                                  clear ho hb
                                  try go_wp2_with fail
                                  refine hK.out _ _ ?_ (fun hHeld => ?_)
                                  · try dsimp only
                                    exact HS4.out
                                  clear hK K
                                  try simp only [Act.put, List.setIfInBounds_toArray, List.set_cons_zero, List.set_cons_succ]
                                  refine wpAnyH_ready (rs := [27]) (by kernel_rfl) (by simp) (AllReadyH.cons (o := { dst := some 188, op := Op.call { callee := Callee.value (Operand.func 11), args := #[Operand.tmp 187], argTypes := #[22] }, type := 22, pos := "ref.go:181", after := #[{ on := 26, ground := Ground.data }, { on := 22, ground := Ground.chain }], guard := none }) (by kernel_rfl) (fun K hK => ?_) AllReadyH.nil)
                                  go_simp
                                  refine (HC3.out _ HS4.out).mono ?_
                                  rintro e ws5 ⟨d3, rfl, ho, hb⟩
                                  obtain ⟨E3, f3, hv, _, _⟩ := ho.length
                                  rw [List.length_map] at hv
                                  subst hv
                                  have HS5 : Hid (Below wk.heap.size wk ws5) := (HS4.out).trans (hb.mono (HS4.out).size)
                                  have HO3_5 := Lib.hid (ho.base (HS4.out).size)
                                  have HK_5 := Lib.hid (HK_4.out.below hb HK_4.out.lt)
                                  have HO1_5 := Lib.hid (HO1_4.out.below hb)
                                  have HO2_5 := Lib.hid (HO2_4.out.below hb)
                                  clear ho hb
                                  try go_wp2_with fail
                                  refine hK.out _ _ ?_ (fun hHeld => ?_)
                                  · try dsimp only
                                    exact HS5.out
                                  clear hK K
                                  try simp only [Act.put, List.setIfInBounds_toArray, List.set_cons_zero, List.set_cons_succ]
                                  refine take_at (i := 28) (d := 189) (oi := { dst := some 189, op := Op.build 62 #[(0, Operand.tmp 173), (1, Operand.tmp 178), (2, Operand.tmp 183), (3, Operand.tmp 188)], type := 62, pos := "ref.go:181", after := #[{ on := 12, ground := Ground.data }, { on := 17, ground := Ground.data }, { on := 22, ground := Ground.data }, { on := 27, ground := Ground.data }], guard := none }) (v := ?_) (by kernel_rfl) (by kernel_rfl) (by kernel_rfl) (by kernel_rfl) (by kernel_rfl) (fun _ _ _ h => h) (Or.inl ⟨by kernel_rfl, ?_⟩) (by assumption) ?_
                                  rotate_left
                                  · intro W hSw
                                    try dsimp only at hSw
                                    go_simp
                                    first | done | with_reducible rfl
                                  try simp only [Act.put, List.setIfInBounds_toArray, List.set_cons_zero, List.set_cons_succ]
                                  refine wpAnyH_ready (rs := [30]) (by kernel_rfl) (by simp) (AllReadyH.cons (o := { dst := none, op := Op.store 62 (Operand.tmp 22) (Operand.tmp 189), type := 0, pos := "ref.go:181", after := #[{ on := 29, ground := Ground.data }, { on := 28, ground := Ground.data }, { on := 27, ground := Ground.chain }, { on := 0, ground := Ground.phase }, { on := 1, ground := Ground.phase }, { on := 2, ground := Ground.phase }, { on := 3, ground := Ground.phase }, { on := 4, ground := Ground.phase }, { on := 5, ground := Ground.phase }, { on := 6, ground := Ground.phase }, { on := 7, ground := Ground.phase }, { on := 8, ground := Ground.phase }, { on := 9, ground := Ground.phase }, { on := 10, ground := Ground.phase }, { on := 11, ground := Ground.phase }, { on := 12, ground := Ground.phase }, { on := 13, ground := Ground.phase }, { on := 14, ground := Ground.phase }, { on := 15, ground := Ground.phase }, { on := 16, ground := Ground.phase }, { on := 17, ground := Ground.phase }, { on := 18, ground := Ground.phase }, { on := 19, ground := Ground.phase }, { on := 20, ground := Ground.phase }, { on := 21, ground := Ground.phase }, { on := 22, ground := Ground.phase }, { on := 23, ground := Ground.phase }, { on := 24, ground := Ground.phase }, { on := 25, ground := Ground.phase }, { on := 26, ground := Ground.phase }, { on := 27, ground := Ground.phase }, { on := 28, ground := Ground.phase }, { on := 29, ground := Ground.phase }], guard := none }) (by kernel_rfl) (fun K hK => ?_) AllReadyH.nil)
                                  have HA1 : (Value.slice E1 (List.length Lo) f1).ownBlock ≠ some gc := own_apart HO1_5.out HK_5.out (by decide)
                                  have HA2 : (Value.slice E2 (List.length La) f2).ownBlock ≠ some gc := own_apart HO2_5.out HK_5.out (by decide)
                                  have HA3 : (Value.slice E3 (List.length Lb) f3).ownBlock ≠ some gc := own_apart HO3_5.out HK_5.out (by decide)
                                  have k0 := HK_5.out.cell 0
                                  have k1 := HK_5.out.cell 1
                                  have k2 := HK_5.out.cell 2
                                  have k3 := HK_5.out.cell 3
                                  have kf0 : ws5.frozen? ⟨gc, 0, none⟩ = false := HK_5.out.frozen 0
                                  have kf1 : ws5.frozen? ⟨gc, 1, none⟩ = false := HK_5.out.frozen 1
                                  have kf2 : ws5.frozen? ⟨gc, 2, none⟩ = false := HK_5.out.frozen 2
                                  have kf3 : ws5.frozen? ⟨gc, 3, none⟩ = false := HK_5.out.frozen 3
                                  go_simp
                                  obtain ⟨ws6, hn⟩ : ∃ W, W = ((((ws5.setCell ⟨gc, 0, none⟩ (.int .i64 (kd : Int))).setCell ⟨gc, 1, none⟩ (.slice E1 (List.length Lo) f1)).setCell ⟨gc, 2, none⟩ (.slice E2 (List.length La) f2)).setCell ⟨gc, 3, none⟩ (.slice E3 (List.length Lb) f3)) := ⟨_, rfl⟩
                                  try rw [← hn]
                                  have HS6 : Hid (Below wk.heap.size wk ws6) := by unfold Hid; rw [hn]; exact ((((HS5.out.setCell (by exact HGC.out) _).setCell (by exact HGC.out) _).setCell (by exact HGC.out) _).setCell (by exact HGC.out) _)
                                  have HK_6 : Hid (Blk ws6 gc 62 #[.int .i64 (kd : Int), .slice E1 (List.length Lo) f1, .slice E2 (List.length La) f2, .slice E3 (List.length Lb) f3]) := by unfold Hid; rw [hn]; have hq := ((((HK_5.out.set_ 0 (.int .i64 (kd : Int))).set_ 1 (.slice E1 (List.length Lo) f1)).set_ 2 (.slice E2 (List.length La) f2)).set_ 3 (.slice E3 (List.length Lb) f3)); simp at hq; exact hq
                                  have HO1_6 : Hid (OwnV 9 ws6 wk.heap.size (.slice E1 (List.length Lo) f1) (Lo.map sv)) := by unfold Hid; rw [hn]; exact (((HO1_5.out.apart HA1 _).apart HA1 _).apart HA1 _).apart HA1 _
                                  have HO2_6 : Hid (OwnV 9 ws6 wk.heap.size (.slice E2 (List.length La) f2) (La.map sv)) := by unfold Hid; rw [hn]; exact (((HO2_5.out.apart HA2 _).apart HA2 _).apart HA2 _).apart HA2 _
                                  have HO3_6 : Hid (OwnV 9 ws6 wk.heap.size (.slice E3 (List.length Lb) f3) (Lb.map sv)) := by unfold Hid; rw [hn]; exact (((HO3_5.out.apart HA3 _).apart HA3 _).apart HA3 _).apart HA3 _
                                  clear hn k0 k1 k2 k3 kf0 kf1 kf2 kf3 HA1 HA2 HA3
                                  try go_wp2_with fail
                                  refine hK.out _ _ ?_ (fun hHeld => ?_)
                                  · try dsimp only
                                    exact HS6.out
                                  clear hK K
                                  refine wpAnyH_done (by kernel_rfl) ?_ _
                                  go_wp2_with fail
                                  go_meet
                                  exact ⟨gc, _, _, _, _, _, _, rfl, HK_6.out, HO1_6.out, HO2_6.out, HO3_6.out, HS6.out⟩
                            case rest =>
                              obtain ⟨gc, E1, f1, E2, f2, E3, f3, rfl, hgc, ho1, ho2, ho3, hbd⟩ := hcut
                              have k0 := hgc.cell 0
                              have k1 := hgc.cell 1
                              have k2 := hgc.cell 2
                              have k3 := hgc.cell 3
                              have HO1 := Lib.hid ho1
                              have HO2 := Lib.hid ho2
                              have HO3 := Lib.hid ho3
                              have HBD := Lib.hid (HB.out.trans ((HBC.out.trans (hbd.mono HBC.out.size)).mono HB.out.size))
                              have HOW7 := Lib.hid ((HOW.out.below HBC.out).below hbd)
                              have hwz : w4.heap.size ≤ wk.heap.size := Nat.le_trans HB.out.size HBC.out.size
                              have hwz7 : w4.heap.size ≤ wc.heap.size := HBD.out.size
                              have hcl2 : C.length + 1 ≤ 2000000 := by omega
                              clear hgc ho1 ho2 ho3 hbd
                              go_wp2_with (at_builtin; refine append_ck Try.underlying30 info_rck (by decide) rfl (.tmp 190) (.tmp 192) rfl _ w4.heap.size u13 C rfl HOW7.out kd _ _ _ Lo La Lb (HO1.out.base hwz) (HO2.out.base hwz) (HO3.out.base hwz) rfl hcl2 hwz7 ?_; intro v8 w8 ho8 hb8 hk8; have HO8 := Lib.hid ho8; have HB8 := Lib.hid (HBD.out.trans hb8); clear ho8 hb8 hk8)
                              go_roundw
                              case rel => exact ⟨m, u, v, _, rfl, rfl, rfl, HRN.out, HKN.out.2.2, by rw [List.length_append]; show C.length + 1 ≤ _; have := HMV.out; omega, HO8.out, HB8.out⟩
                              case measure => simp [intOf]; have := HMV.out; omega
                  · have n1 : (0 : Int) < (n : Int) := by omega
                    have HST : Hid (R = (C ++ [⟨1, cutL o i (i + n), cutL o i (i + n), cutL o i (i + n)⟩]) ++ chkL o a b (endT o a b) (restL f g (no - (i + n)) (i + n)) (i + n, j + n, k + n) (i + n, j + n, k + n)) := by
                      unfold Hid
                      have hne : ¬ (i, j, k) = onT (i, j, k) n := fun e => by have := congrArg Prod.fst e; unfold onT at this; simp only at this; omega
                      rw [HR2.out, chk_turn _ _ _ _ _ _ _ HHD.out, stabL, if_neg hne, List.append_assoc]
                      have e1 := HCA.out
                      have e2 := HCB.out
                      unfold pieceL onT
                      simp only
                      rw [e1, e2]
                    have HK3 : Hid (KOk o a b (i + n, j + n, k + n) (restL f g (no - (i + n)) (i + n))) := HK2.out
                    have hmo : ∀ W, (Instr.slice 22 (.slice A1 no c1) (some (.int .i64 (i : Int))) (some (.int .i64 ((i : Int) + (n : Int)))) none).run Try.prog W = .ok (.slice (if c1 = i then A1 else A1.map (·.add i)) (i + n - i) (c1 - i)) W := fun W => t_mid A1 no c1 i (i + n) _ _ rfl (by omega) (by omega) (by omega) W
                    have hsm := slv_mid H1.out i (i + n) (by omega) (by rw [List.length_map, HNO.out]; exact hin)
                    rw [← List.map_drop, ← List.map_take] at hsm
                    have HL : Hid ((cutL o i (i + n)).length ≤ 200) := by unfold Hid; rw [cut_len o i (i + n) (by rw [HNO.out]; exact hin)]; omega
                    obtain ⟨L, hL⟩ : ∃ L, cutL o i (i + n) = L := ⟨_, rfl⟩
                    obtain ⟨D1, hD1⟩ : ∃ x, (if c1 = i then A1 else A1.map (·.add i)) = x := ⟨_, rfl⟩
                    obtain ⟨dl, hdl⟩ : ∃ x, i + n - i = x := ⟨_, rfl⟩
                    obtain ⟨dc, hdc⟩ : ∃ x, c1 - i = x := ⟨_, rfl⟩
                    have hL2 : (o.drop i).take (i + n - i) = L := hL
                    rw [hdl] at hL2
                    simp only [hD1, hdl, hdc] at hmo hsm
                    rw [hL2] at hsm
                    rw [hL] at HST HL
                    have HSM := Lib.hid (fun W (hW : Below w.heap.size w W) => hsm.below hW)
                    have HC : Hid (∀ W, Below w.heap.size w W → Calls Try.prog 11 #[.slice D1 dl dc] W (TextsPost W L)) := fun W hW => copyt_any _ L W (HSM.out W hW) (by have := HL.out; omega)
                    unfold TextsPost at HC
                    have HBr : Hid (Below w.heap.size w wr) := HB4.out.trans (HB.out.mono HB4.out.size)
                    have hwz := HB.out.size
                    clear hsm hL hL2 hD1 hdl hdc
                    go_wp2_with fail
                    refine (HC.out wr HBr.out).mono ?_
                    rintro e w5 ⟨d1, rfl, ho1, hb5⟩
                    obtain ⟨E1, f1, hv1, _, _⟩ := ho1.length
                    rw [List.length_map] at hv1
                    subst hv1
                    have HB5 := Lib.hid hb5
                    have HO1 := Lib.hid ho1
                    clear ho1 hb5
                    go_wp2_with fail
                    refine (HC.out w5 (HBr.out.trans (HB5.out.mono HBr.out.size))).mono ?_
                    rintro e w6 ⟨d2, rfl, ho2, hb6⟩
                    obtain ⟨E2, f2, hv2, _, _⟩ := ho2.length
                    rw [List.length_map] at hv2
                    subst hv2
                    have HB6 := Lib.hid (HB5.out.trans (hb6.mono HB5.out.size))
                    have HO1' := Lib.hid (HO1.out.below hb6)
                    have HO2 := Lib.hid (ho2.base HB5.out.size)
                    clear ho2 hb6
                    go_wp2_with fail
                    refine (HC.out w6 (HBr.out.trans (HB6.out.mono HBr.out.size))).mono ?_
                    rintro e w7 ⟨d3, rfl, ho3, hb7⟩
                    obtain ⟨E3, f3, hv3, _, _⟩ := ho3.length
                    rw [List.length_map] at hv3
                    subst hv3
                    have HB7 := Lib.hid (HB6.out.trans (hb7.mono HB6.out.size))
                    have HO1'' := Lib.hid (HO1'.out.below hb7)
                    have HO2' := Lib.hid (HO2.out.below hb7)
                    have HO3 := Lib.hid (ho3.base HB6.out.size)
                    have HOW7 := Lib.hid (HOW.out.below HB7.out)
                    have hwz7 : w4.heap.size ≤ w7.heap.size := Nat.le_trans hwz HB7.out.size
                    have hcl2 : C.length + 1 ≤ 2000000 := by omega
                    clear ho3 hb7
                    go_wp2_with (at_builtin; refine append_ck Try.underlying30 info_rck (by decide) rfl (.tmp 105) (.tmp 113) rfl w7 w4.heap.size u13 C rfl HOW7.out 1 _ _ _ L L L (HO1''.out.base hwz) (HO2'.out.base hwz) (HO3.out.base hwz) rfl hcl2 hwz7 ?_; intro v8 w8 ho8 hb8 hk8; have HO8 := Lib.hid ho8; have HB8 := Lib.hid (HB.out.trans ((HB7.out.mono HB.out.size).trans hb8)); clear ho8 hb8 hk8)
                    go_roundw
                    case rel => exact ⟨i + n, j + n, k + n, _, by go_num, by go_num, by go_num, HST.out, HK3.out, by rw [List.length_append]; show C.length + 1 ≤ _; omega, HO8.out, HB8.out⟩
                    case measure => simp [intOf]; omega
    · rw [eE, eP] at HM2
      clear eE eP
      obtain ⟨hE, hL⟩ := cErr_no (o := o) (a := a) (b := b) (fun h => hno' ⟨h.1, h.2.2⟩)
      rw [hE, hL]
      rw [hno] at H1 hl1 HM1 HM2 ⊢
      rw [hna] at H2 hl2 HM1 ⊢
      rw [hnb] at H3 hl3 HM2 ⊢
      clear h1 h2 h3 hno hna hnb hE hL ho ha hno'
      go_enter Try.func13, Try.ntmps13
      go_wp2_with fail
      refine HM1.out.mono ?_
      rintro e w1 ⟨p1, rfl, hp1, hb1⟩
      have HB1 := Lib.hid hb1
      clear hp1 hb1
      go_wp2_with fail
      refine (HM2.out w1 HB1.out).mono ?_
      rintro e w2 ⟨p2, rfl, hp2, hb2⟩
      have HB2 := Lib.hid (HB1.out.trans (hb2.mono HB1.out.size))
      clear hp2 hb2
      go_wp2_with fail
      go_ret2
      exact ⟨_, rfl, OwnCk.nil_ _ _ _, HB2.out⟩
  · rw [eE, eP] at HM1
    clear eE eP
    obtain ⟨hE, hL⟩ := cErr_no (o := o) (a := a) (b := b) (fun h => hno' ⟨h.1, h.2.1⟩)
    rw [hE, hL]
    rw [hno] at H1 hl1 HM1 ⊢
    rw [hna] at H2 hl2 HM1 ⊢
    rw [hnb] at H3 hl3 ⊢
    clear h1 h2 h3 hno hna hnb hE hL hno' HM2
    go_enter Try.func13, Try.ntmps13
    go_wp2_with fail
    refine HM1.out.mono ?_
    rintro e w1 ⟨p1, rfl, hp1, hb1⟩
    have HB1 := Lib.hid hb1
    clear hp1 hb1
    go_wp2_with fail
    go_ret2
    exact ⟨_, rfl, OwnCk.nil_ _ _ _, HB1.out⟩
end Go.Proofs.Ytbejgljljjjjcaa.Ln
