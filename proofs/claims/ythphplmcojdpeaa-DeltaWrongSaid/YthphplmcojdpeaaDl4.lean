/- The document's step (inserts, others), its Apply. -/
import Derived.Test.YthphplmcojdpeaaDl3
set_option linter.unusedVariables false
set_option linter.unusedSimpArgs false
namespace Go.Proofs.Ythphplmcojdpeaa
open Go.RowKit

theorem d_kindn {d : List UInt8} {k : Nat} {u : UInt8} {n : Nat} (hu : d.getD k 0 ≠ u) (hn : u.toNat = n) : (bi (d.getD k 0) != (n : Int)) = true := by
  rw [bne, d_kind hu hn]; rfl

set_option maxRecDepth 100000 in
set_option maxHeartbeats 1600000 in
theorem rstep_ins (vb vd : Value) (base d : List UInt8) (k : Nat) (left : Int) (w : World) (hb : Sl w vb base) (hd : Sl w vd d) (hk : k < d.length) (h2 : d.getD k 0 = 2) :
    Calls Try.prog 29 #[vb, vd, .int .i64 (k : Int), .int .i64 left] w (StepRPost w (stepR base d k left)) := by
  obtain ⟨A, c, rfl, hl, hcm, hI⟩ := hb.len
  obtain ⟨D, cd, rfl, hld, hcmd, hId⟩ := hd.len
  obtain ⟨ad, rfl, hcell⟩ := hId.at_ k hk
  rw [h2, bi2] at hcell
  unfold maxLen at hcm hcmd
  have hk2 : (k : Int) < (d.length : Int) := by omega
  have hk3 : (0 : Int) ≤ (k : Int) := by omega
  have HD := Lib.hid hd
  have ek : ((k + 1 : Nat) : Int) = (k : Int) + 1 := by omega
  rcases getR_cases d (k + 1) hk with ⟨e, h, he⟩ | ⟨n, h, hla, hn, _⟩
  · rw [stepR_err (ins_err h2 h (by omega)) (by omega)]
    rw [ek] at h
    have HG := Lib.hid (rget_any _ d _ _ _ _ w hd h)
    have hne : (e != 0) = true := by rcases he with rfl | rfl <;> rfl
    have heq : (e == 0) = false := by rcases he with rfl | rfl <;> rfl
    obtain ⟨l, hL⟩ : ∃ l, d.length = l := ⟨_, rfl⟩
    rw [hL] at hld hk2 HG ⊢
    clear h h2 hd hI hb hL hk HD he
    go_enter Try.func29, Try.ntmps29
    go_wp2_with fail
    refine HG.out.mono ?_
    rintro x w1 ⟨rfl, hb1⟩
    have HB1 := Lib.hid hb1
    clear hb1 hcell
    go_wp2
    go_ret3
    exact ⟨_, rfl, Sl.nil_ _, HB1.out⟩
  · have HG := Lib.hid (rget_any _ d _ _ _ _ w hd h)
    rw [ek] at HG
    have hn2 : (n : Int) ≤ 72057594037927936 := by omega
    have hn3 : (0 : Int) ≤ (n : Int) := by omega
    obtain ⟨q, hQ⟩ : ∃ q, k + 1 + (putL n).length = q := ⟨_, rfl⟩
    rw [hQ] at h hla HG
    have hq3 : (0 : Int) ≤ (q : Int) := by omega
    have hq4 : (q : Int) ≤ (d.length : Int) := by omega
    by_cases hz : n = 0
    · subst hz
      rw [stepR_err (ins_zero h2 h) (by omega)]
      obtain ⟨l, hL⟩ : ∃ l, d.length = l := ⟨_, rfl⟩
      rw [hL] at hld hk2 hq4 HG ⊢
      clear h h2 hd hI hb hL hk HD hQ hla
      go_enter Try.func29, Try.ntmps29
      go_wp2_with fail
      refine HG.out.mono ?_
      rintro x w1 ⟨rfl, hb1⟩
      have HB1 := Lib.hid hb1
      clear hb1 hcell
      go_wp2
      go_ret3
      exact ⟨_, rfl, Sl.nil_ _, HB1.out⟩
    · have hz2 : ((n : Int) == 0) = false := beq_eq_false_iff_ne.2 (by omega)
      by_cases hr : q + n ≤ d.length
      · have hs0 := ins_ok (base := base) h2 h hz hr
        have hpl : ((d.drop q).take n).length = n := by simp; omega
        have hr2 : (n : Int) ≤ (d.length : Int) - (q : Int) := by omega
        by_cases hlf : left < (n : Int)
        · rw [stepR_long hs0 (by rw [hpl]; exact hlf)]
          obtain ⟨l, hL⟩ : ∃ l, d.length = l := ⟨_, rfl⟩
          rw [hL] at hld hk2 hq4 hr2 HG ⊢
          clear h h2 hd hI hb hL hk HD hQ hla hs0 hpl hz
          go_enter Try.func29, Try.ntmps29
          go_wp2_with fail
          refine HG.out.mono ?_
          rintro x w1 ⟨rfl, hb1⟩
          have HB1 := Lib.hid hb1
          clear hb1 hcell
          go_wp2
          go_ret3
          exact ⟨_, rfl, Sl.nil_ _, HB1.out⟩
        · have hlf2 : (n : Int) ≤ left := by omega
          rw [stepR_ok hs0 (by rw [hpl]; exact hlf2)]
          have HS := Lib.hid (fun W (hW : Below w.heap.size w W) => (hd.below hW).mid q (q + n) (by omega) hr)
          rw [show q + n - q = n from by omega] at HS
          have hs := fun W => d_mid (some ad) d.length cd q (q + n) (q : Int) ((q : Int) + (n : Int)) rfl (by omega) (by omega) (by omega) W
          rw [show q + n - q = n from by omega] at hs
          obtain ⟨T, hT⟩ : ∃ T, (if cd = q then some ad else (some ad).map (·.add q)) = T := ⟨_, rfl⟩
          rw [hT] at hs HS
          obtain ⟨l, hL⟩ : ∃ l, d.length = l := ⟨_, rfl⟩
          rw [hL] at hld hk2 hq4 hr2 hs HG ⊢
          have e2 : (((q + n : Nat) : Int)) = (q : Int) + (n : Int) := by omega
          rw [e2]
          clear h h2 hd hI hb hL hk HD hQ hla hs0 hpl hz e2 hT hr hlf
          go_enter Try.func29, Try.ntmps29
          go_wp2_with fail
          refine HG.out.mono ?_
          rintro x w1 ⟨rfl, hb1⟩
          have HB1 := Lib.hid hb1
          clear hb1 hcell
          go_wp2
          go_ret3
          exact ⟨_, rfl, HS.out _ HB1.out, HB1.out⟩
      · rw [stepR_err (ins_short h2 h (by omega) (by omega)) (by omega)]
        have hr2 : (d.length : Int) - (q : Int) < (n : Int) := by omega
        obtain ⟨l, hL⟩ : ∃ l, d.length = l := ⟨_, rfl⟩
        rw [hL] at hld hk2 hq4 hr2 HG ⊢
        clear h h2 hd hI hb hL hk HD hQ hla hz hr
        go_enter Try.func29, Try.ntmps29
        go_wp2_with fail
        refine HG.out.mono ?_
        rintro x w1 ⟨rfl, hb1⟩
        have HB1 := Lib.hid hb1
        clear hb1 hcell
        go_wp2
        go_ret3
        exact ⟨_, rfl, Sl.nil_ _, HB1.out⟩

set_option maxRecDepth 100000 in
set_option maxHeartbeats 1600000 in
theorem rstep_any (vb vd : Value) (base d : List UInt8) (k : Nat) (left : Int) (w : World) (hb : Sl w vb base) (hd : Sl w vd d) (hk : k < d.length) :
    Calls Try.prog 29 #[vb, vd, .int .i64 (k : Int), .int .i64 left] w (StepRPost w (stepR base d k left)) := by
  by_cases h1 : d.getD k 0 = 1
  · exact rstep_copy vb vd base d k left w hb hd hk h1
  · by_cases h2 : d.getD k 0 = 2
    · exact rstep_ins vb vd base d k left w hb hd hk h2
    · obtain ⟨D, cd, rfl, hld, hcmd, hId⟩ := hd.len
      obtain ⟨ad, rfl, hcell⟩ := hId.at_ k hk
      unfold maxLen at hcmd
      have hk2 : (k : Int) < (d.length : Int) := by omega
      have hk3 : (0 : Int) ≤ (k : Int) := by omega
      have n1 := d_kindn h1 (n := 1) rfl
      have n2 := d_kindn h2 (n := 2) rfl
      rw [stepR_err (step_none h1 h2) (by omega)]
      obtain ⟨u, hu⟩ : ∃ u, bi (d.getD k 0) = u := ⟨_, rfl⟩
      rw [hu] at hcell n1 n2
      obtain ⟨l, hL⟩ : ∃ l, d.length = l := ⟨_, rfl⟩
      rw [hL] at hld hk2 ⊢
      have n1' : (u != 1) = true := n1
      have n2' : (u != 2) = true := n2
      clear hL hd hId h1 h2 hb hk n1 n2 hu
      go_enter Try.func29, Try.ntmps29
      go_wp2
      go_ret3
      exact ⟨_, rfl, Sl.nil_ _, Below.refl _ _⟩

set_option maxRecDepth 100000 in
set_option maxHeartbeats 1600000 in
theorem rapply_any (vb vd : Value) (base d : List UInt8) (w : World) (hb : Sl w vb base) (hd : Sl w vd d) :
    Calls Try.prog 16 #[vb, vd] w (ApplyPost w (applyD base d)) := by
  obtain ⟨A, c, hvb, hl, hcm, hI⟩ := hb.len
  unfold maxLen at hcm
  rcases two_cases d 0 (Nat.zero_le _) with ⟨e, h, he⟩ | ⟨a, b, h, hq, ha, hb'⟩
  · have h : two d 0 = (0, 0, 0, e) := h
    rw [apply_err h (by omega)]
    have HG := Lib.hid (rsizes_any vd d _ _ _ _ w hd h)
    have hne : (e != 0) = true := by rcases he with rfl | rfl <;> rfl
    subst hvb
    clear h hd hb hI he
    go_enter Try.func16, Try.ntmps16
    go_wp2_with fail
    refine HG.out.mono ?_
    rintro x w1 ⟨rfl, hb1⟩
    have HB1 := Lib.hid hb1
    clear hb1
    go_wp2
    go_ret2
    exact ⟨_, rfl, Own.nil_ _ _, HB1.out⟩
  · rw [Nat.zero_add] at h hq
    have h : two d 0 = ((a : Int), (b : Int), (((putL a).length + (putL b).length : Nat) : Int), 0) := h
    have HG := Lib.hid (rsizes_any vd d _ _ _ _ w hd h)
    have HB := Lib.hid hb
    subst hvb
    obtain ⟨l, hL⟩ : ∃ l, base.length = l := ⟨_, rfl⟩
    rw [hL] at hl HB ⊢
    by_cases hal : a = l
    · subst hal
      by_cases hbl : 20000 < b
      · rw [apply_long h (by rw [hL]) (by omega)]
        have hbl2 : (20000 : Int) < (b : Int) := by omega
        clear h hd hb hI hbl hq HB hL hcm hl
        go_enter Try.func16, Try.ntmps16
        go_wp2_with fail
        refine HG.out.mono ?_
        rintro x w1 ⟨rfl, hb1⟩
        have HB1 := Lib.hid hb1
        clear hb1
        go_wp2
        go_ret2
        exact ⟨_, rfl, Own.nil_ _ _, HB1.out⟩
      · have hrun := apply_run (base := base) (by rw [hL]; exact h) (by omega)
        obtain ⟨R, hR⟩ : ∃ R, applyD base d = R := ⟨_, rfl⟩
        rw [hR] at hrun ⊢
        have HRUN := Lib.hid hrun
        have HD := Lib.hid hd
        have hbl2 : (b : Int) ≤ (20000 : Int) := by omega
        have hb0 : (0 : Int) ≤ (b : Int) := by omega
        have HNA := Lib.hid (fun W => rnum_any a W ha)
        have HNB := Lib.hid (fun W => rnum_any b W hb')
        obtain ⟨n, hN⟩ : ∃ n, d.length = n := ⟨_, rfl⟩
        obtain ⟨D, cd, hvd, hld, hcmd, hId⟩ := hd.len
        unfold maxLen at hcmd
        subst hvd
        have h9a := putL_len9 ha
        have h9b := putL_len9 hb'
        rw [hN] at hq hld HRUN HG HD ⊢
        have HN := Lib.hid hN
        have HQ0 := Lib.hid hq
        clear h hd hb hI hrun hbl hId hN hR hL hq
        go_enter Try.func16, Try.ntmps16
        go_wp2_with fail
        refine HG.out.mono ?_
        rintro x w1 ⟨rfl, hb1⟩
        have HB1 := Lib.hid hb1
        clear hb1
        go_wp2_with fail
        refine (HNA.out _).mono ?_
        rintro x w2 ⟨v2, rfl, ho2, hb2⟩
        have HB2 := Lib.hid (HB1.out.trans (hb2.mono HB1.out.size))
        obtain ⟨A2, c2, rfl, hl2, hm2⟩ := ho2.length
        unfold maxLen at hm2
        obtain ⟨la, hla⟩ : ∃ la, (putL a).length = la := ⟨_, rfl⟩
        rw [hla] at h9a hl2 HRUN HQ0 ⊢
        clear hb2 ho2 hla
        go_wp2_with fail
        refine (HNB.out _).mono ?_
        rintro x w3 ⟨v3, rfl, ho3, hb3⟩
        have HB3 := Lib.hid (HB2.out.trans (hb3.mono HB2.out.size))
        obtain ⟨A3, c3, rfl, hl3, hm3⟩ := ho3.length
        unfold maxLen at hm3
        obtain ⟨lb, hlb⟩ : ∃ lb, (putL b).length = lb := ⟨_, rfl⟩
        rw [hlb] at h9b hl3 HRUN HQ0 ⊢
        clear hb3 ho3 hlb
        go_wp2_with fail
        go_loopw [9, 10] (fun x v wr => ∃ (k : Nat) (out : List UInt8) (f : Nat), x = .int .i64 k ∧ k ≤ n ∧ out.length ≤ b ∧ n - k < f ∧ Own wr w.heap.size v out ∧ Below w.heap.size w wr ∧ runD base d b f k out = R) (fun x _ _ => n - (intOf x).toNat)
        case atStart => exact ⟨la + lb, [], n + 1, rfl, HQ0.out, by simp, by omega, Own.nil_ _ _, HB3.out, HRUN.out.symm⟩
        case round =>
          obtain ⟨k, out, f, rfl, hk, hol, hf, ho, hbw, hrd⟩ := hrel
          obtain ⟨f, rfl⟩ : ∃ g, f = g + 1 := ⟨f - 1, by omega⟩
          obtain ⟨A1, c1, rfl, hl1, hm1⟩ := ho.length
          unfold maxLen at hm1
          have HO := Lib.hid ho
          have HBW := Lib.hid hbw
          have HRD := Lib.hid hrd
          have hwz := hbw.size
          have HDr := Lib.hid (HD.out.below hbw)
          have HBr := Lib.hid (HB.out.below hbw)
          clear ho hbw hrd
          obtain ⟨m, hM⟩ : ∃ m, out.length = m := ⟨_, rfl⟩
          rw [hM] at hol hl1 HO ⊢
          have HM := Lib.hid hM
          clear hM
          have hm5 : (m : Int) ≤ (b : Int) := by omega
          have hm4 : (0 : Int) ≤ (m : Int) := by omega
          by_cases hkn : k < n
          · have hkn2 : (k : Int) < (n : Int) := by omega
            have hkd : k < d.length := by rw [HN.out]; exact hkn
            have HS := Lib.hid (rstep_any _ _ base d k ((b : Int) - (m : Int)) wr HBr.out HDr.out hkd)
            rcases step_cases base d k hkd with ⟨e, hs, h1, h2⟩ | ⟨p, q', hs, h1, h2, h3⟩
            · rw [stepR_err hs (by omega)] at HS
              have hres := HRD.out
              rw [run_err hkd hs (by omega)] at hres
              have HRES := Lib.hid hres
              have hne : (e != 0) = true := by simp; omega
              clear hkd hs h1 h2 hkn hres
              go_wp2_with fail
              refine HS.out.mono ?_
              rintro x w4 ⟨v, rfl, hv, hb4⟩
              have HB4 := Lib.hid (HBW.out.trans (hb4.mono hwz))
              clear hv hb4
              go_wp2
              go_ret2
              exact ⟨_, by rw [← HRES.out]; rfl, by rw [← HRES.out]; exact Own.nil_ _ _, HB4.out⟩
            · by_cases hlong : b < m + p.length
              · rw [stepR_long hs (by omega)] at HS
                have hres := HRD.out
                rw [run_long hkd hs (by rw [HM.out]; exact hlong)] at hres
                have HRES := Lib.hid hres
                clear hkd hs hkn hres h1 h2 h3 hlong
                go_wp2_with fail
                refine HS.out.mono ?_
                rintro x w4 ⟨v, rfl, hv, hb4⟩
                have HB4 := Lib.hid (HBW.out.trans (hb4.mono hwz))
                clear hv hb4
                go_wp2
                go_ret2
                exact ⟨_, by rw [← HRES.out]; rfl, by rw [← HRES.out]; exact Own.nil_ _ _, HB4.out⟩
              · rw [stepR_ok hs (by omega)] at HS
                have hres := HRD.out
                rw [run_on hkd hs (by rw [HM.out]; omega)] at hres
                have HRES := Lib.hid hres
                obtain ⟨pl, hpl⟩ : ∃ pl, p.length = pl := ⟨_, rfl⟩
                have hsm : out.length + pl ≤ 140737488355328 := by have := HM.out; omega
                have hmp : m + pl ≤ b := by omega
                have hq2 : q' ≤ n := by have := HN.out; omega
                have hkq : n - q' < f := by omega
                have HKQ := Lib.hid h1
                clear hkd hs hkn hres h2 h3 hlong h1
                go_wp2_with fail
                refine HS.out.mono ?_
                rintro x w4 ⟨v, rfl, hv, hb4⟩
                have HB4 := Lib.hid (HBW.out.trans (hb4.mono hwz))
                have HO4 := Lib.hid (HO.out.below hb4)
                obtain ⟨P, cp, rfl, hp1, hp2, hp3⟩ := hv.len
                have HP3 := Lib.hid hp3.reads
                have HPL := Lib.hid hpl
                unfold maxLen at hp2
                rw [hpl] at hp1 HP3 ⊢
                have hwz4 := HB4.out.size
                clear hv hp3 hpl hb4 hwz
                go_wp2_with (at_builtin; refine append_bytes rfl (.tmp 58) (.tmp 59) rfl w4 w.heap.size _ out rfl HO4.out _ P pl cp p rfl HP3.out hsm hwz4 ?_; intro v5 w5 ho5 hb5; have HO5 := Lib.hid ho5; have HB5 := Lib.hid hb5; clear ho5 hb5)
                refine ⟨⟨q', out ++ p, f, rfl, hq2, ?_, hkq, HO5.out, HB4.out.trans HB5.out, HRES.out⟩, ?_⟩
                · rw [List.length_append, HM.out, HPL.out]; exact hmp
                · have := HKQ.out; simp [intOf]; omega
          · have hkn2 : (n : Int) ≤ (k : Int) := by omega
            have hres := HRD.out
            rw [run_end (by rw [HN.out]; omega), HM.out] at hres
            have HRES := Lib.hid hres
            clear hres hkn
            by_cases hsh : m < b
            · have hsh2 : (m : Int) < (b : Int) := by omega
              have hres := HRES.out
              rw [if_pos hsh] at hres
              have HRES2 := Lib.hid hres
              clear hres hsh
              go_wp2
              go_ret2
              exact ⟨_, by rw [← HRES2.out]; rfl, by rw [← HRES2.out]; exact Own.nil_ _ _, HBW.out⟩
            · have hsh2 : (b : Int) ≤ (m : Int) := by omega
              have hres := HRES.out
              rw [if_neg hsh] at hres
              have HRES2 := Lib.hid hres
              clear hres hsh
              go_wp2
              go_ret2
              exact ⟨_, by rw [← HRES2.out]; rfl, by rw [← HRES2.out]; exact HO.out, HBW.out⟩
    · rw [apply_sum (base := base) h (by rw [hL]; omega)]
      have hne : ((a : Int) != (l : Int)) = true := by simp; omega
      clear h hd hb hI hq HB hal hL
      go_enter Try.func16, Try.ntmps16
      go_wp2_with fail
      refine HG.out.mono ?_
      rintro x w1 ⟨rfl, hb1⟩
      have HB1 := Lib.hid hb1
      clear hb1
      go_wp2
      go_ret2
      exact ⟨_, rfl, Own.nil_ _ _, HB1.out⟩
end Go.Proofs.Ythphplmcojdpeaa
