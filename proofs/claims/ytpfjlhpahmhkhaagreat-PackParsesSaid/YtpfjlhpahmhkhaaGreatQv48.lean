/- Texts put together: VPa1. -/
import Derived.Test.YtpfjlhpahmhkhaaGreatQv47
import Derived.BigQuiet
import Derived.Handy
/- The document's one: the object at a place of a pack. -/
set_option linter.unusedVariables false
set_option linter.unusedSimpArgs false
namespace Go.Proofs.YtpfjlhpahmhkhaaGreat.Ob
open Go.RowKit Go.Proofs.YtpfjlhpahmhkhaaGreat.Sh
open Go.Proofs.YtpfjlhpahmhkhaaGreat.Tx (Only Rd reads_at)
def OnePost (r : Int × List UInt8 × Nat × Nat) (w : World) (e : Ending) (w' : World) : Prop :=
 ∃ (A : Option Addr) (n c : Nat) (di ki : Int), e = .returned (.tuple #[.slice A n c, .int .i64 di, .int .i64 ki, .int .i64 r.1]) ∧ Below w.heap.size w w' ∧ (r.1 = 0 → Own w' w.heap.size (.slice A n c) r.2.1 ∧ r.2.1.length = n ∧ di = (r.2.2.1 : Int) ∧ ki = (r.2.2.2 : Int))
theorem sl_at {w : World} {A : Option Addr} {n c : Nat} {o : List UInt8} (h : Sl w (.slice A n c) o) (k : Nat) (hk : k < o.length) : ∃ ad, A = some ad ∧ w.cell? (ad.add k) = some (.int .u8 (bi (o.getD k 0))) := by
 obtain ⟨A', c', hv, _, _, hI, _⟩ := h
 injection hv with e1 e2 e3
 subst e1
 obtain ⟨ad, e, _, hc⟩ := hI (by omega)
 exact ⟨ad, e, hc k hk⟩
theorem one_stop {b : List UInt8} {base : BaseM} {read : List EntM} {k : Nat} {r : Int × List UInt8 × Nat × Nat} (h : bytesP b base read k = r) (hr : r.1 ≠ 0) : oneP b base read k = r := by
 rw [one_err (by rw [h]; exact hr), h]
theorem one_yes {b : List UInt8} {base : BaseM} {read : List EntM} {k : Nat} {r : Int × List UInt8 × Nat × Nat} (h : bytesP b base read k = r) (hr : r.1 = 0) (hd : decB r.2.1 = true) : oneP b base read k = r := by
 rw [one_ok (by rw [h]; exact hr) (by rw [h]; exact hd), h]
theorem one_no {b : List UInt8} {base : BaseM} {read : List EntM} {k : Nat} {r : Int × List UInt8 × Nat × Nat} (h : bytesP b base read k = r) (hr : r.1 = 0) (hd : decB r.2.1 = false) : oneP b base read k = (4, [], 0, 0) :=
 one_form (by rw [h]; exact hr) (by rw [h]; exact hd)
set_option maxRecDepth 100000 in
set_option maxHeartbeats 12800000 in
theorem rone_any {vb vD vR vI vO : Value} {b : List UInt8} {read : List EntM} {ids objs : List (List UInt8)} (k : Nat) (w : World) (hb : Sl w vb b) (hbl : b.length ≤ 1000000) (hD : LsV w vD (read.map fun e => e.data)) (hR : RwV w vR read) (hrl : read.length ≤ 100000)
  (hrs : ∀ e ∈ read, e.data.length ≤ 1000000 ∧ e.depth ≤ 1000) (hkk : k ≤ 1000000) (hI : Tx.SlV w vI ((ids.map str).map Tx.sv)) (hO : LsV w vO objs) (hlen : ids.length = objs.length) (hil : ids.length ≤ 1000000) (hos : ∀ x ∈ objs, x.length ≤ 1000000) :
  Calls Tryz.prog 189 #[vb, .int .i64 (k : Int), vD, vR, .agg #[vI, vO, .pointer none]] w (OnePost (oneP b (srcK ids objs) read k) w) := by
 obtain ⟨A, c, rfl, hlc, hcm, _⟩ := hb.len
 obtain ⟨AD, cD, rfl, hlD, hmD⟩ := hD.slice
 obtain ⟨AR, cR, rfl, hlR, hmR⟩ := hR.slice
 obtain ⟨AO, cO, rfl, hlO, hmO⟩ := hO.slice
 obtain ⟨AI, mI, cI, rfl⟩ : ∃ A m c, vI = .slice A m c := by
  obtain ⟨A, c, e, _⟩ := hI
  exact ⟨A, _, c, e⟩
 rw [List.length_map] at hD hlD ⊢
 unfold maxLen at hcm hmD hmR hmO
 obtain ⟨m, hm⟩ : ∃ m, read.length = m := ⟨_, rfl⟩
 rw [hm] at hD hlD hR hlR hrl ⊢
 obtain ⟨l, hl⟩ : ∃ l, b.length = l := ⟨_, rfl⟩
 rw [hl] at hb hbl hlc ⊢
 have HL := Lib.hid hl
 have HM := Lib.hid hm
 have HSB : Hid (∀ W, Below w.heap.size w W → Sl W (.slice A l c) b) := fun W hW => hb.below hW
 have HLD : Hid (∀ W, Below w.heap.size w W → LsV W (.slice AD m cD) (read.map fun e => e.data)) := fun W hW => hD.below hW
 have HLR : Hid (∀ W, Below w.heap.size w W → RwV W (.slice AR m cR) read) := fun W hW => hR.below hW
 have HGE : Hid (∀ W (id : ByteArray), Below w.heap.size w W → Calls Tryz.prog 126 #[.agg #[.slice AI mI cI, .slice AO objs.length cO, .pointer none], .string id] W (AskR (srcK ids objs) id W)) := fun W id hW => sget_any id (hI.below hW) (hO.below hW) hlen hil hos
 obtain ⟨lo, hlo⟩ : ∃ lo, objs.length = lo := ⟨_, rfl⟩
 rw [hlo] at HGE hlO ⊢
 have HRS := Lib.hid hrs
 have HOS := Lib.hid hos
 obtain ⟨P, hP⟩ : ∃ P, oneP b (srcK ids objs) read k = P := ⟨_, rfl⟩
 have HP := Lib.hid hP
 rw [hP]
 obtain ⟨wa, hwa⟩ : ∃ W, W = w.alloc (.cells #[.slice AI mI cI, .slice AO lo cO, .pointer none] 53) := ⟨_, rfl⟩
 have HBA : Hid (Below w.heap.size w wa) := by unfold Hid; rw [hwa]; exact (Below.refl _ _).alloc (Nat.le_refl _) _
 have HBK : Hid (Blk wa w.heap.size 53 #[.slice AI mI cI, .slice AO lo cO, .pointer none]) := by unfold Hid; rw [hwa]; exact Blk.new _ _ _
 clear hb hD hR hI hO hlen hil hos hrs hm hl hP hlo hlO hmO
 have z0 : (0 : Int) ≤ (k : Int) := by omega
 by_cases hkl : k < l
 ·have z1 : (k : Int) < (l : Int) := by omega
  have hat := sl_at (HSB.out wa HBA.out) k (by have := HL.out; omega)
  obtain ⟨ad, rfl, yc⟩ := hat
  have HKL : Hid (k < b.length) := by unfold Hid; rw [HL.out]; exact hkl
  obtain ⟨u, hu⟩ : ∃ u, b.getD k 0 = u := ⟨_, rfl⟩
  rw [hu] at yc
  by_cases h0 : u = 0
  ·have HU : Hid (b.getD k 0 = 0) := by unfold Hid; rw [hu, h0]
   rw [h0, show bi (0 : UInt8) = 0 from by unfold bi; decide] at yc
   have HPB : Hid (bytesP b (srcK ids objs) read k = wholeP b (k + 1)) := bytes_0 HKL.out HU.out
   clear hu h0
   go_enter Tryz.func189, Tryz.ntmps189
   go_upto_region 1 with (fail)
   rw [← hwa]
   clear hwa
   go_wp2_with fail
   clear yc
   have hq1 : k + 1 ≤ b.length := by have := HL.out; omega
   have hgc := getR_cases b (k + 1) hq1
   have hip : ((k + 1 : Nat) : Int) = (k : Int) + 1 := by omega
   rcases hgc with ⟨e, hg, he⟩ | ⟨n, hg, hl5, hn5, _⟩
   ·have hne : e ≠ 0 := by omega
    have z : (e != 0) = true := by rw [bne_iff_ne]; exact hne
    have HNE := Lib.hid hne
    have HG := Lib.hid hg
    have hg2 := hg
    rw [hip] at hg2
    refine (rget_any _ b _ 0 0 e wa (HSB.out _ HBA.out) hg2).mono ?_
    rintro y w5 ⟨rfl, hb5⟩
    have HB5 := Lib.hid (HBA.out.trans (hb5.mono HBA.out.size))
    clear hb5 hg hg2 hne he hip
    have hre : P = (e, [], 0, 0) := by rw [← HP.out]; exact one_stop (HPB.out.trans (whole_err HG.out HNE.out)) HNE.out
    subst hre
    go_wp2_with fail
    go_returns
    exact ⟨none, 0, 0, 0, 0, rfl, HB5.out, fun h => absurd h HNE.out⟩
   ·obtain ⟨q, hq⟩ : ∃ q, k + 1 + (putL n).length = q := ⟨_, rfl⟩
    rw [hq] at hg hl5
    have HG := Lib.hid hg
    have hg2 := hg
    rw [hip] at hg2
    refine (rget_any _ b _ (n : Int) (q : Int) 0 wa (HSB.out _ HBA.out) hg2).mono ?_
    rintro y w5 ⟨rfl, hb5⟩
    have HB5 := Lib.hid (HBA.out.trans (hb5.mono HBA.out.size))
    have HF5 := Lib.hid hb5
    have HQL : Hid (q ≤ b.length) := hl5
    have zq0 : (0 : Int) ≤ (q : Int) := by omega
    have zq1 : (q : Int) ≤ 1000000 := by have := HL.out; omega
    have zn0 : (0 : Int) ≤ (n : Int) := by omega
    have zn1 : (n : Int) ≤ 72057594037927936 := by omega
    clear hb5 hg hg2 hip hq1 hq
    by_cases h20 : n ≤ 20000
    ·have z20 : (n : Int) ≤ 20000 := by omega
     by_cases hqn : q + n ≤ b.length
     ·have hqn2 : q + n ≤ l := by rw [← HL.out]; exact hqn
      have z30 : (n : Int) ≤ (l : Int) - (q : Int) := by omega
      have e1 : q + n - q = n := by omega
      have HSD := Lib.hid (Sl.mid (HSB.out w5 HB5.out) q (q + n) (by omega) hqn)
      rw [e1] at HSD
      have ks := fun W => d_mid (some ad) l c q (q + n) (q : Int) ((q : Int) + (n : Int)) rfl (by omega) (by omega) (by omega) W
      rw [e1] at ks
      obtain ⟨T, hT⟩ : ∃ T, (if c = q then some ad else (some ad).map (·.add q)) = T := ⟨_, rfl⟩
      rw [hT] at ks HSD
      have HQN : Hid (q + n ≤ b.length) := hqn
      have hDl : ((b.drop q).take n).length = n := by rw [List.length_take, List.length_drop]; omega
      obtain ⟨D, hD⟩ : ∃ D, (b.drop q).take n = D := ⟨_, rfl⟩
      rw [hD] at HSD hDl
      have HD := Lib.hid hD
      have HDL := Lib.hid hDl
      have HN1 : Hid (n ≤ 1000000) := by unfold Hid; omega
      clear hqn hqn2 e1 hT hD hDl
      go_wp2_with fail
      refine (copyb_any _ D w5 HSD.out (by rw [HDL.out]; have := HN1.out; omega)).mono ?_
      rintro y w6 ⟨v6, rfl, ho6, hb6⟩
      obtain ⟨A6, c6, rfl, _, _⟩ := ho6.length
      rw [HDL.out] at ho6 ⊢
      have HO6 := Lib.hid ho6
      have HB6 := Lib.hid (HB5.out.trans (hb6.mono HB5.out.size))
      have HZ5 : Hid (w.heap.size ≤ w5.heap.size) := HB5.out.size
      have hb6c := hb6
      clear ho6 hb6
      go_wp2_with fail
      refine (rdec_is _ D _ (by have h9 := HO6.out.sl; exact h9) (by rw [HDL.out]; have := HN1.out; omega)).mono ?_
      rintro y w8 ⟨k8, a1, a2, a3, n1, d1, n2, d2, n3, d3, s1, s2, s3, t1, t2, rfl, hk8, hb8⟩
      have HB8 := Lib.hid (HB6.out.trans (hb8.mono HB6.out.size))
      have HBZ : Hid (∀ o, Below w.heap.size w (w8.alloc o)) := fun o => HB8.out.alloc HB8.out.size o
      have HOZ : Hid (∀ o, Own (w8.alloc o) w.heap.size (.slice A6 n c6) D) := fun o => (((Own.based HO6.out HZ5.out)).below hb8).alloc o
      clear hb8
      by_cases hk0 : k8 = 0
      ·subst hk0
       have HT : Hid (decB D = true) := hk8.symm
       clear hk8
       have hre : P = (0, D, 0, q + n) := by rw [← HP.out]; exact one_yes (HPB.out.trans (by rw [whole_ok HG.out (by omega) HQN.out, HD.out])) rfl HT.out
       subst hre
       go_wp2_with fail
       go_returns
       exact ⟨_, _, _, _, _, rfl, HBZ.out _, fun _ => ⟨HOZ.out _, HDL.out, by first | rfl | omega, by first | rfl | omega⟩⟩
      ·have hdf : decB D = false := by rw [← hk8, beq_eq_false_iff_ne]; exact hk0
       have zk : (k8 != 0) = true := by rw [bne_iff_ne]; exact hk0
       have HF := Lib.hid hdf
       clear hk8 hdf hk0
       have hre : P = (4, [], 0, 0) := by rw [← HP.out]; exact one_no (r := (0, D, 0, q + n)) (HPB.out.trans (by rw [whole_ok HG.out (by omega) HQN.out, HD.out])) rfl HF.out
       subst hre
       go_wp2_with fail
       go_returns
       exact ⟨none, 0, 0, 0, 0, rfl, HBZ.out _, fun h => absurd h (by show (4 : Int) ≠ 0; decide)⟩
     ·have z30 : (l : Int) - (q : Int) < (n : Int) := by have := HL.out; omega
      have hre : P = (2, [], 0, 0) := by rw [← HP.out]; exact one_stop (HPB.out.trans (whole_short HG.out (by omega) (by omega))) (by decide)
      subst hre
      go_wp2_with fail
      go_returns
      exact ⟨none, 0, 0, 0, 0, rfl, HB5.out, fun h => absurd h (by show (2 : Int) ≠ 0; decide)⟩
    ·have z20 : (20000 : Int) < (n : Int) := by omega
     have hre : P = (3, [], 0, 0) := by rw [← HP.out]; exact one_stop (HPB.out.trans (whole_long HG.out (by omega))) (by decide)
     subst hre
     go_wp2_with fail
     go_returns
     exact ⟨none, 0, 0, 0, 0, rfl, HB5.out, fun h => absurd h (by show (3 : Int) ≠ 0; decide)⟩
  ·by_cases h1 : u = 1
   ·have HU : Hid (b.getD k 0 = 1) := by unfold Hid; rw [hu, h1]
    rw [h1, show bi (1 : UInt8) = 1 from by unfold bi; decide] at yc
    have HPB : Hid (bytesP b (srcK ids objs) read k = aheadP b read (k + 1)) := bytes_1 HKL.out HU.out
    clear hu h0 h1
    go_enter Tryz.func189, Tryz.ntmps189
    go_upto_region 1 with (fail)
    rw [← hwa]
    clear hwa
    go_wp2_with fail
    clear yc
    have hq1 : k + 1 ≤ b.length := by have := HL.out; omega
    have hgc := getR_cases b (k + 1) hq1
    have hip : ((k + 1 : Nat) : Int) = (k : Int) + 1 := by omega
    rcases hgc with ⟨e, hg, he⟩ | ⟨n1, hg, hl5, hn5, _⟩
    ·have hne : e ≠ 0 := by omega
     have z : (e != 0) = true := by rw [bne_iff_ne]; exact hne
     have HNE := Lib.hid hne
     have HG := Lib.hid hg
     have hg2 := hg
     rw [hip] at hg2
     refine (rget_any _ b _ 0 0 e wa (HSB.out _ HBA.out) hg2).mono ?_
     rintro y w5 ⟨rfl, hb5⟩
     have HB5 := Lib.hid (HBA.out.trans (hb5.mono HBA.out.size))
     clear hb5 hg hg2 hne he hip
     have hre : P = (e, [], 0, 0) := by rw [← HP.out]; exact one_stop (HPB.out.trans (ahead_err HG.out HNE.out)) HNE.out
     subst hre
     go_wp2_with fail
     go_returns
     exact ⟨none, 0, 0, 0, 0, rfl, HB5.out, fun h => absurd h HNE.out⟩
    ·obtain ⟨q1, hq⟩ : ∃ q, k + 1 + (putL n1).length = q := ⟨_, rfl⟩
     rw [hq] at hg hl5
     have HG1 := Lib.hid hg
     have hg2 := hg
     rw [hip] at hg2
     refine (rget_any _ b _ (n1 : Int) (q1 : Int) 0 wa (HSB.out _ HBA.out) hg2).mono ?_
     rintro y w2 ⟨rfl, hb5⟩
     have HB2 := Lib.hid (HBA.out.trans (hb5.mono HBA.out.size))
     have zp0 : (0 : Int) ≤ (q1 : Int) := by omega
     have zp1 : (q1 : Int) ≤ 1000000 := by have := HL.out; omega
     have zo0 : (0 : Int) ≤ (n1 : Int) := by omega
     have zo1 : (n1 : Int) ≤ 72057594037927936 := by omega
     clear hb5 hg hg2 hip hq1 hq
     by_cases hz : n1 = 0
     ·subst hz
      have hre : P = (7, [], 0, 0) := by rw [← HP.out]; exact one_stop (HPB.out.trans (ahead_none HG1.out (.inl rfl))) (by decide)
      subst hre
      go_wp2_with fail
      go_returns
      exact ⟨none, 0, 0, 0, 0, rfl, HB2.out, fun h => absurd h (by show (7 : Int) ≠ 0; decide)⟩
     ·have zz : (1 : Int) ≤ (n1 : Int) := by omega
      by_cases hnm : m < n1
      ·have zm : (m : Int) < (n1 : Int) := by omega
       have hre : P = (7, [], 0, 0) := by rw [← HP.out]; exact one_stop (HPB.out.trans (ahead_none HG1.out (.inr (by have := HM.out; omega)))) (by decide)
       subst hre
       go_wp2_with fail
       go_returns
       exact ⟨none, 0, 0, 0, 0, rfl, HB2.out, fun h => absurd h (by show (7 : Int) ≠ 0; decide)⟩
      ·have zm : (n1 : Int) ≤ (m : Int) := by omega
       obtain ⟨j, hj⟩ : ∃ j, m - n1 = j := ⟨_, rfl⟩
       have zj : (m : Int) - (n1 : Int) = (j : Int) := by omega
       have zj0 : (0 : Int) ≤ (j : Int) := by omega
       have zj1 : (j : Int) < (m : Int) := by omega
       obtain ⟨X, hX⟩ : ∃ X, read[j]? = some X := ⟨_, List.getElem?_eq_getElem (by have := HM.out; omega)⟩
       have HXS : Hid (X.data.length ≤ 1000000 ∧ X.depth ≤ 1000) := HRS.out X (List.mem_of_getElem? hX)
       have hXD : (read.map fun e => e.data)[j]? = some X.data := by rw [List.getElem?_map, hX]; rfl
       obtain ⟨adD, A2, c2, rfl, y1w, _, _, hsx⟩ := (HLD.out w (Below.refl _ _)).at_ j X.data hXD
       obtain ⟨adR, rfl, _, _, y2w⟩ := (HLR.out w (Below.refl _ _)).at_ j X hX
       have y1 := (HB2.out.cell (World.block_lt_of_cell? w _ y1w)).trans y1w
       have y2 := (HB2.out.cell (World.block_lt_of_cell? w _ y2w)).trans y2w
       have HAH : Hid (read[read.length - n1]? = some X) := by unfold Hid; rw [HM.out, hj]; exact hX
       obtain ⟨x, hx⟩ : ∃ x, X.data = x := ⟨_, rfl⟩
       obtain ⟨dx, hdx⟩ : ∃ x, X.depth = x := ⟨_, rfl⟩
       have HXX := Lib.hid hx
       have HDX := Lib.hid hdx
       rw [hx] at y1 hsx
       rw [hdx] at y2
       have zd0 : (0 : Int) ≤ (dx : Int) := by omega
       have zd1 : (dx : Int) ≤ 1000 := by have := HXS.out.2; omega
       obtain ⟨xl, hxl⟩ : ∃ n, x.length = n := ⟨_, rfl⟩
       rw [hxl] at y1 hsx
       have HX : Hid (∀ W, Below w.heap.size w W → Sl W (.slice A2 xl c2) x) := fun W hW => hsx.below hW
       have HNZ : Hid (0 < n1 ∧ n1 ≤ read.length) := by unfold Hid; rw [HM.out]; omega
       have hq1L : q1 ≤ b.length := hl5
       clear hj hX hXD hsx hx hdx hz hnm hxl y1w y2w
       by_cases hd8 : dx < 8
       ·have z8 : (dx : Int) + 1 ≤ 8 := by omega
        have HPB1 : Hid (bytesP b (srcK ids objs) read k = ((byP b x q1).1, (byP b x q1).2.1, dx + 1, (byP b x q1).2.2)) := by
         unfold Hid
         rw [HPB.out, ahead_by HG1.out HNZ.out.1 HNZ.out.2 HAH.out (by rw [HDX.out]; exact hd8), HXX.out, HDX.out]
        go_upto_region 16 with (fail)
        go_quiet (fail)
        have HB3 : Hid (Below w.heap.size w (w2.drewN nq)) := below_drewN HB2.out _
        obtain ⟨w3, hw3⟩ : ∃ W, W = w2.drewN nq := ⟨_, rfl⟩
        rw [← hw3] at HB3 ⊢
        clear hw3 y1 y2
        go_wp2_with fail
        have hq1 : q1 ≤ b.length := by have := HL.out; omega
        have hgc := getR_cases b (q1) hq1
        have hip : ((q1 : Nat) : Int) = (q1 : Int) := by omega
        rcases hgc with ⟨e, hg, he⟩ | ⟨n, hg, hl5, hn5, _⟩
        ·have hne : e ≠ 0 := by omega
         have z : (e != 0) = true := by rw [bne_iff_ne]; exact hne
         have HNE := Lib.hid hne
         have HG := Lib.hid hg
         have hg2 := hg
         rw [hip] at hg2
         refine (rget_any _ b _ 0 0 e w3 (HSB.out _ HB3.out) hg2).mono ?_
         rintro y w5 ⟨rfl, hb5⟩
         have HB5 := Lib.hid (HB3.out.trans (hb5.mono HB3.out.size))
         clear hb5 hg hg2 hne he hip
         have hre : P = (e, [], (dx + 1), 0) := by rw [← HP.out]; exact one_stop (by rw [HPB1.out, by_err HG.out HNE.out]) HNE.out
         subst hre
         go_wp2_with fail
         go_returns
         exact ⟨none, 0, 0, 0, 0, rfl, HB5.out, fun h => absurd h HNE.out⟩
        ·obtain ⟨q, hq⟩ : ∃ q, q1 + (putL n).length = q := ⟨_, rfl⟩
         rw [hq] at hg hl5
         have HG := Lib.hid hg
         have hg2 := hg
         rw [hip] at hg2
         refine (rget_any _ b _ (n : Int) (q : Int) 0 w3 (HSB.out _ HB3.out) hg2).mono ?_
         rintro y w5 ⟨rfl, hb5⟩
         have HB5 := Lib.hid (HB3.out.trans (hb5.mono HB3.out.size))
         have HF5 := Lib.hid hb5
         have HQL : Hid (q ≤ b.length) := hl5
         have zq0 : (0 : Int) ≤ (q : Int) := by omega
         have zq1 : (q : Int) ≤ 1000000 := by have := HL.out; omega
         have zn0 : (0 : Int) ≤ (n : Int) := by omega
         have zn1 : (n : Int) ≤ 72057594037927936 := by omega
         clear hb5 hg hg2 hip hq1 hq
         by_cases hqn : q + n ≤ b.length
         ·have hqn2 : q + n ≤ l := by rw [← HL.out]; exact hqn
          have z30 : (n : Int) ≤ (l : Int) - (q : Int) := by omega
          have e1 : q + n - q = n := by omega
          have HSD := Lib.hid (Sl.mid (HSB.out w5 HB5.out) q (q + n) (by omega) hqn)
          rw [e1] at HSD
          have ks := fun W => d_mid (some ad) l c q (q + n) (q : Int) ((q : Int) + (n : Int)) rfl (by omega) (by omega) (by omega) W
          rw [e1] at ks
          obtain ⟨T, hT⟩ : ∃ T, (if c = q then some ad else (some ad).map (·.add q)) = T := ⟨_, rfl⟩
          rw [hT] at ks HSD
          have HQN : Hid (q + n ≤ b.length) := hqn
          have hDl : ((b.drop q).take n).length = n := by rw [List.length_take, List.length_drop]; omega
          obtain ⟨D, hD⟩ : ∃ D, (b.drop q).take n = D := ⟨_, rfl⟩
          rw [hD] at HSD hDl
          have HD := Lib.hid hD
          have HDL := Lib.hid hDl
          have HN1 : Hid (n ≤ 1000000) := by unfold Hid; omega
          clear hqn hqn2 e1 hT hD hDl
          go_wp2_with fail
          refine (copyb_any _ D w5 HSD.out (by rw [HDL.out]; have := HN1.out; omega)).mono ?_
          rintro y w6 ⟨v6, rfl, ho6, hb6⟩
          obtain ⟨A6, c6, rfl, _, _⟩ := ho6.length
          rw [HDL.out] at ho6 ⊢
          have HO6 := Lib.hid ho6
          have HB6 := Lib.hid (HB5.out.trans (hb6.mono HB5.out.size))
          have HZ5 : Hid (w.heap.size ≤ w5.heap.size) := HB5.out.size
          have hb6c := hb6
          clear ho6 hb6
          go_wp2_with fail
          refine (rapply_any _ _ x D w6 (HX.out w6 HB6.out) (by have h9 := HO6.out.sl; exact h9)).mono ?_
          clear hb6c
          rintro y w7 ⟨v7, rfl, ho7, hb7⟩
          have HAL := Lib.hid (apply_le x D)
          obtain ⟨A7, c7, rfl, _, _⟩ := ho7.length
          have HB7 := Lib.hid (HB6.out.trans (hb7.mono HB6.out.size))
          have HZ6 : Hid (w.heap.size ≤ w6.heap.size) := HB6.out.size
          have HO7 := Lib.hid ho7
          obtain ⟨E, hE⟩ : ∃ E, (applyD x D).1 = E := ⟨_, rfl⟩
          obtain ⟨k7, hk7⟩ : ∃ E, (applyD x D).2 = E := ⟨_, rfl⟩
          rw [hE] at HO7 HAL ⊢
          rw [hk7]
          have HE := Lib.hid hE
          have HK7 := Lib.hid hk7
          obtain ⟨el, hel⟩ : ∃ n, E.length = n := ⟨_, rfl⟩
          rw [hel] at HO7 ⊢
          have HEL := Lib.hid hel
          clear ho7 hb7 hE hk7 hel
          have HBY : Hid (bytesP b (srcK ids objs) read k = (k7, E, (dx + 1), q + n)) := by
           unfold Hid
           rw [HPB1.out, by_ok HG.out HQN.out, HD.out, HE.out, HK7.out]
          by_cases h7 : k7 = 0
          ·subst h7
           go_wp2_with fail
           refine (rdec_is _ E _ (by have h9 := HO7.out.sl; exact h9) (by have := HAL.out; omega)).mono ?_
           rintro y w8 ⟨k8, a1, a2, a3, n1, d1, n2, d2, n3, d3, s1, s2, s3, t1, t2, rfl, hk8, hb8⟩
           have HB8 := Lib.hid (HB7.out.trans (hb8.mono HB7.out.size))
           have HBZ : Hid (∀ o, Below w.heap.size w (w8.alloc o)) := fun o => HB8.out.alloc HB8.out.size o
           have HOZ : Hid (∀ o, Own (w8.alloc o) w.heap.size (.slice A7 el c7) E) := fun o => (((Own.based HO7.out HZ6.out)).below hb8).alloc o
           clear hb8
           by_cases hk0 : k8 = 0
           ·subst hk0
            have HT : Hid (decB E = true) := hk8.symm
            clear hk8
            have hre : P = (0, E, (dx + 1), q + n) := by rw [← HP.out]; exact one_yes (HBY.out) rfl HT.out
            subst hre
            go_wp2_with fail
            go_returns
            exact ⟨_, _, _, _, _, rfl, HBZ.out _, fun _ => ⟨HOZ.out _, HEL.out, by first | rfl | omega, by first | rfl | omega⟩⟩
           ·have hdf : decB E = false := by rw [← hk8, beq_eq_false_iff_ne]; exact hk0
            have zk : (k8 != 0) = true := by rw [bne_iff_ne]; exact hk0
            have HF := Lib.hid hdf
            clear hk8 hdf hk0
            have hre : P = (4, [], 0, 0) := by rw [← HP.out]; exact one_no (r := (0, E, (dx + 1), q + n)) (HBY.out) rfl HF.out
            subst hre
            go_wp2_with fail
            go_returns
            exact ⟨none, 0, 0, 0, 0, rfl, HBZ.out _, fun h => absurd h (by show (4 : Int) ≠ 0; decide)⟩
          ·have z7 : (k7 != 0) = true := by rw [bne_iff_ne]; exact h7
           have HNE := Lib.hid h7
           have hre : P = (k7, E, (dx + 1), q + n) := by rw [← HP.out]; exact one_stop HBY.out HNE.out
           subst hre
           clear h7
           go_wp2_with fail
           go_returns
           exact ⟨none, 0, 0, 0, 0, rfl, HB7.out, fun h => absurd h HNE.out⟩
         ·have z30 : (l : Int) - (q : Int) < (n : Int) := by have := HL.out; omega
          have hre : P = (2, [], (dx + 1), 0) := by rw [← HP.out]; exact one_stop (by rw [HPB1.out, by_short HG.out (by omega)]) (by show (2 : Int) ≠ 0; decide)
          subst hre
          go_wp2_with fail
          go_returns
          exact ⟨none, 0, 0, 0, 0, rfl, HB5.out, fun h => absurd h (by show (2 : Int) ≠ 0; decide)⟩
       ·have z8 : (8 : Int) < (dx : Int) + 1 := by omega
        go_upto_region 16 with (fail)
        go_quiet (fail)
        have HB3 : Hid (Below w.heap.size w (w2.drewN nq)) := below_drewN HB2.out _
        obtain ⟨w3, hw3⟩ : ∃ W, W = w2.drewN nq := ⟨_, rfl⟩
        rw [← hw3] at HB3 ⊢
        clear hw3 y1 y2
        have hre : P = (14, [], 0, 0) := by rw [← HP.out]; exact one_stop (HPB.out.trans (ahead_deep HG1.out HNZ.out.1 HNZ.out.2 HAH.out (by rw [HDX.out]; omega))) (by decide)
        subst hre
        go_wp2_with fail
        go_returns
        exact ⟨none, 0, 0, 0, 0, rfl, HB3.out, fun h => absurd h (by show (14 : Int) ≠ 0; decide)⟩
   ·by_cases h2 : u = 2
    ·have HU : Hid (b.getD k 0 = 2) := by unfold Hid; rw [hu, h2]
     rw [h2, show bi (2 : UInt8) = 2 from by unfold bi; decide] at yc
     have HPB : Hid (bytesP b (srcK ids objs) read k = elseP b (srcK ids objs) (k + 1)) := bytes_2 HKL.out HU.out
     clear hu h0 h1 h2
     by_cases hs : l < k + 1 + 32
     ·have zs : (l : Int) - ((k : Int) + 1) < 32 := by omega
      go_enter Tryz.func189, Tryz.ntmps189
      go_upto_region 1 with (fail)
      rw [← hwa]
      clear hwa
      go_wp2_with fail
      clear yc
      have hre : P = (2, [], 0, 0) := by rw [← HP.out]; exact one_stop (HPB.out.trans (else_short (by have := HL.out; omega))) (by decide)
      subst hre
      go_wp2_with fail
      go_returns
      exact ⟨none, 0, 0, 0, 0, rfl, HBA.out, fun h => absurd h (by show (2 : Int) ≠ 0; decide)⟩
     ·have zs : (32 : Int) ≤ (l : Int) - ((k : Int) + 1) := by omega
      have hfit : k + 1 + 32 ≤ b.length := by have := HL.out; omega
      have HFT : Hid (k + 1 + 32 ≤ b.length) := hfit
      have e1 : k + 1 + 32 - (k + 1) = 32 := by omega
      have HSD := Lib.hid (Sl.mid (HSB.out wa HBA.out) (k + 1) (k + 1 + 32) (by omega) hfit)
      rw [e1] at HSD
      have ks := fun W => d_mid (some ad) l c (k + 1) (k + 1 + 32) ((k : Int) + 1) ((k : Int) + 1 + 32) (by omega) (by omega) (by omega) (by omega) W
      rw [e1] at ks
      obtain ⟨T, hT⟩ : ∃ T, (if c = k + 1 then some ad else (some ad).map (·.add (k + 1))) = T := ⟨_, rfl⟩
      rw [hT] at ks HSD
      obtain ⟨I, hI⟩ : ∃ I, (b.drop (k + 1)).take 32 = I := ⟨_, rfl⟩
      rw [hI] at HSD
      have HIL : Hid (I.length ≤ 1000000) := by unfold Hid; rw [← hI, List.length_take]; omega
      have HI := Lib.hid hI
      clear hfit e1 hT hI hs
      go_enter Tryz.func189, Tryz.ntmps189
      go_upto_region 1 with (fail)
      rw [← hwa]
      clear hwa
      go_wp2_with fail
      clear yc
      clear ks
      refine (rhex_any _ I wa HSD.out HIL.out).mono ?_
      rintro y w2 ⟨rfl, hb2⟩
      have HB2 := Lib.hid (HBA.out.trans (hb2.mono HBA.out.size))
      have n0 := (HBK.out.below hb2 HBK.out.lt).cell 0
      have n1 := (HBK.out.below hb2 HBK.out.lt).cell 1
      have n2 := (HBK.out.below hb2 HBK.out.lt).cell 2
      clear hb2
      obtain ⟨hh, hhh⟩ : ∃ x, hexL I = x := ⟨_, rfl⟩
      rw [hhh]
      have HH : Hid (hexL ((b.drop (k + 1)).take 32) = hh) := by unfold Hid; rw [HI.out]; exact hhh
      clear hhh
      go_wp2_with fail
      refine (HGE.out w2 (str hh) HB2.out).mono ?_
      rintro y w3 ⟨A3, n3, c3, t, rfl, hb3, hcase⟩
      have HB3 := Lib.hid (HB2.out.trans (hb3.mono HB2.out.size))
      have HZ2 : Hid (w.heap.size ≤ w2.heap.size) := HB2.out.size
      rw [str_toList] at hcase
      clear hb3 n0 n1 n2
      rcases hcase with ⟨hno, rfl, rfl, rfl, rfl⟩ | ⟨x, hx, rfl, hxl, hox⟩
      ·have HNO := Lib.hid hno
       clear hno
       have hre : P = (7, [], 0, 0) := by rw [← HP.out]; exact one_stop (HPB.out.trans (else_none HFT.out (by rw [HH.out]; exact HNO.out))) (by decide)
       subst hre
       go_wp2_with fail
       go_returns
       exact ⟨none, 0, 0, 0, 0, rfl, HB3.out, fun h => absurd h (by show (7 : Int) ≠ 0; decide)⟩
      ·have HXX := Lib.hid hx
       have HXL := Lib.hid hxl
       have HOX := Lib.hid (Own.based hox HZ2.out)
       have HXS : Hid (x.length ≤ 1000000) := HOS.out x (srcK_mem hx)
       clear hx hxl hox
       have HX0 : Hid (∀ W, Below w3.heap.size w3 W → Sl W (.slice A3 n3 c3) x) := fun W hW => (by have h9 := HOX.out.sl; exact h9.below hW)
       go_wp2_with fail
       refine (rid_any _ x w3 (HX0.out w3 (Below.refl _ _)) (by have := HXS.out; omega)).mono ?_
       rintro y w4 ⟨rfl, hb4⟩
       have HB4 := Lib.hid (HB3.out.trans (hb4.mono HB3.out.size))
       have HX4 := Lib.hid (HX0.out w4 hb4)
       have HX : Hid (∀ W, Below w4.heap.size w4 W → Sl W (.slice A3 n3 c3) x) := fun W hW => HX4.out.below hW
       obtain ⟨hi, hhi⟩ : ∃ y, hexL (sumOf x) = y := ⟨_, rfl⟩
       rw [hhi]
       have HHI : Hid (idB x = hi) := hhi
       have st1 := str_toList hi
       have st2 := str_toList hh
       clear hhi hb4
       by_cases he : hi = hh
       ·have t1 : (hi == hh) = true := beq_iff_eq.2 he
        have t2 : (hi != hh) = false := by rw [bne, t1]; rfl
        have HPB1 : Hid (bytesP b (srcK ids objs) read k = ((byP b x (k + 1 + 32)).1, (byP b x (k + 1 + 32)).2.1, 1, (byP b x (k + 1 + 32)).2.2)) := by
         unfold Hid
         rw [HPB.out, else_by HFT.out (by rw [HH.out]; exact HXX.out) (by rw [HH.out, HHI.out]; exact he)]
        clear he
        go_wp2_with fail
        have hq1 : k + 1 + 32 ≤ b.length := by have := HL.out; omega
        have hgc := getR_cases b (k + 1 + 32) hq1
        have hip : ((k + 1 + 32 : Nat) : Int) = (k : Int) + 1 + 32 := by omega
        rcases hgc with ⟨e, hg, he⟩ | ⟨n, hg, hl5, hn5, _⟩
        ·have hne : e ≠ 0 := by omega
         have z : (e != 0) = true := by rw [bne_iff_ne]; exact hne
         have HNE := Lib.hid hne
         have HG := Lib.hid hg
         have hg2 := hg
         rw [hip] at hg2
         refine (rget_any _ b _ 0 0 e w4 (HSB.out _ HB4.out) hg2).mono ?_
         rintro y w5 ⟨rfl, hb5⟩
         have HB5 := Lib.hid (HB4.out.trans (hb5.mono HB4.out.size))
         clear hb5 hg hg2 hne he hip
         have hre : P = (e, [], 1, 0) := by rw [← HP.out]; exact one_stop (by rw [HPB1.out, by_err HG.out HNE.out]) HNE.out
         subst hre
         go_wp2_with fail
         go_returns
         exact ⟨none, 0, 0, 0, 0, rfl, HB5.out, fun h => absurd h HNE.out⟩
        ·obtain ⟨q, hq⟩ : ∃ q, k + 1 + 32 + (putL n).length = q := ⟨_, rfl⟩
         rw [hq] at hg hl5
         have HG := Lib.hid hg
         have hg2 := hg
         rw [hip] at hg2
         refine (rget_any _ b _ (n : Int) (q : Int) 0 w4 (HSB.out _ HB4.out) hg2).mono ?_
         rintro y w5 ⟨rfl, hb5⟩
         have HB5 := Lib.hid (HB4.out.trans (hb5.mono HB4.out.size))
         have HF5 := Lib.hid hb5
         have HQL : Hid (q ≤ b.length) := hl5
         have zq0 : (0 : Int) ≤ (q : Int) := by omega
         have zq1 : (q : Int) ≤ 1000000 := by have := HL.out; omega
         have zn0 : (0 : Int) ≤ (n : Int) := by omega
         have zn1 : (n : Int) ≤ 72057594037927936 := by omega
         clear hb5 hg hg2 hip hq1 hq
         by_cases hqn : q + n ≤ b.length
         ·have hqn2 : q + n ≤ l := by rw [← HL.out]; exact hqn
          have z30 : (n : Int) ≤ (l : Int) - (q : Int) := by omega
          have e1 : q + n - q = n := by omega
          have HSD := Lib.hid (Sl.mid (HSB.out w5 HB5.out) q (q + n) (by omega) hqn)
          rw [e1] at HSD
          have ks := fun W => d_mid (some ad) l c q (q + n) (q : Int) ((q : Int) + (n : Int)) rfl (by omega) (by omega) (by omega) W
          rw [e1] at ks
          obtain ⟨T, hT⟩ : ∃ T, (if c = q then some ad else (some ad).map (·.add q)) = T := ⟨_, rfl⟩
          rw [hT] at ks HSD
          have HQN : Hid (q + n ≤ b.length) := hqn
          have hDl : ((b.drop q).take n).length = n := by rw [List.length_take, List.length_drop]; omega
          obtain ⟨D, hD⟩ : ∃ D, (b.drop q).take n = D := ⟨_, rfl⟩
          rw [hD] at HSD hDl
          have HD := Lib.hid hD
          have HDL := Lib.hid hDl
          have HN1 : Hid (n ≤ 1000000) := by unfold Hid; omega
          clear hqn hqn2 e1 hT hD hDl
          go_wp2_with fail
          refine (copyb_any _ D w5 HSD.out (by rw [HDL.out]; have := HN1.out; omega)).mono ?_
          rintro y w6 ⟨v6, rfl, ho6, hb6⟩
          obtain ⟨A6, c6, rfl, _, _⟩ := ho6.length
          rw [HDL.out] at ho6 ⊢
          have HO6 := Lib.hid ho6
          have HB6 := Lib.hid (HB5.out.trans (hb6.mono HB5.out.size))
          have HZ5 : Hid (w.heap.size ≤ w5.heap.size) := HB5.out.size
          have hb6c := hb6
          clear ho6 hb6
          go_wp2_with fail
          refine (rapply_any _ _ x D w6 (HX.out w6 (HF5.out.trans (hb6c.mono HF5.out.size))) (by have h9 := HO6.out.sl; exact h9)).mono ?_
          clear hb6c
          rintro y w7 ⟨v7, rfl, ho7, hb7⟩
          have HAL := Lib.hid (apply_le x D)
          obtain ⟨A7, c7, rfl, _, _⟩ := ho7.length
          have HB7 := Lib.hid (HB6.out.trans (hb7.mono HB6.out.size))
          have HZ6 : Hid (w.heap.size ≤ w6.heap.size) := HB6.out.size
          have HO7 := Lib.hid ho7
          obtain ⟨E, hE⟩ : ∃ E, (applyD x D).1 = E := ⟨_, rfl⟩
          obtain ⟨k7, hk7⟩ : ∃ E, (applyD x D).2 = E := ⟨_, rfl⟩
          rw [hE] at HO7 HAL ⊢
          rw [hk7]
          have HE := Lib.hid hE
          have HK7 := Lib.hid hk7
          obtain ⟨el, hel⟩ : ∃ n, E.length = n := ⟨_, rfl⟩
          rw [hel] at HO7 ⊢
          have HEL := Lib.hid hel
          clear ho7 hb7 hE hk7 hel
          have HBY : Hid (bytesP b (srcK ids objs) read k = (k7, E, 1, q + n)) := by
           unfold Hid
           rw [HPB1.out, by_ok HG.out HQN.out, HD.out, HE.out, HK7.out]
          by_cases h7 : k7 = 0
          ·subst h7
           go_wp2_with fail
           refine (rdec_is _ E _ (by have h9 := HO7.out.sl; exact h9) (by have := HAL.out; omega)).mono ?_
           rintro y w8 ⟨k8, a1, a2, a3, n1, d1, n2, d2, n3, d3, s1, s2, s3, t1, t2, rfl, hk8, hb8⟩
           have HB8 := Lib.hid (HB7.out.trans (hb8.mono HB7.out.size))
           have HBZ : Hid (∀ o, Below w.heap.size w (w8.alloc o)) := fun o => HB8.out.alloc HB8.out.size o
           have HOZ : Hid (∀ o, Own (w8.alloc o) w.heap.size (.slice A7 el c7) E) := fun o => (((Own.based HO7.out HZ6.out)).below hb8).alloc o
           clear hb8
           by_cases hk0 : k8 = 0
           ·subst hk0
            have HT : Hid (decB E = true) := hk8.symm
            clear hk8
            have hre : P = (0, E, 1, q + n) := by rw [← HP.out]; exact one_yes (HBY.out) rfl HT.out
            subst hre
            go_wp2_with fail
            go_returns
            exact ⟨_, _, _, _, _, rfl, HBZ.out _, fun _ => ⟨HOZ.out _, HEL.out, by first | rfl | omega, by first | rfl | omega⟩⟩
           ·have hdf : decB E = false := by rw [← hk8, beq_eq_false_iff_ne]; exact hk0
            have zk : (k8 != 0) = true := by rw [bne_iff_ne]; exact hk0
            have HF := Lib.hid hdf
            clear hk8 hdf hk0
            have hre : P = (4, [], 0, 0) := by rw [← HP.out]; exact one_no (r := (0, E, 1, q + n)) (HBY.out) rfl HF.out
            subst hre
            go_wp2_with fail
            go_returns
            exact ⟨none, 0, 0, 0, 0, rfl, HBZ.out _, fun h => absurd h (by show (4 : Int) ≠ 0; decide)⟩
          ·have z7 : (k7 != 0) = true := by rw [bne_iff_ne]; exact h7
           have HNE := Lib.hid h7
           have hre : P = (k7, E, 1, q + n) := by rw [← HP.out]; exact one_stop HBY.out HNE.out
           subst hre
           clear h7
           go_wp2_with fail
           go_returns
           exact ⟨none, 0, 0, 0, 0, rfl, HB7.out, fun h => absurd h HNE.out⟩
         ·have z30 : (l : Int) - (q : Int) < (n : Int) := by have := HL.out; omega
          have hre : P = (2, [], 1, 0) := by rw [← HP.out]; exact one_stop (by rw [HPB1.out, by_short HG.out (by omega)]) (by show (2 : Int) ≠ 0; decide)
          subst hre
          go_wp2_with fail
          go_returns
          exact ⟨none, 0, 0, 0, 0, rfl, HB5.out, fun h => absurd h (by show (2 : Int) ≠ 0; decide)⟩
       ·have t1 : (hi == hh) = false := beq_eq_false_iff_ne.2 he
        have t2 : (hi != hh) = true := by rw [bne, t1]; rfl
        have HNE2 := Lib.hid he
        clear he
        have hre : P = (5, [], 0, 0) := by rw [← HP.out]; exact one_stop (HPB.out.trans (else_sum HFT.out (by rw [HH.out]; exact HXX.out) (by rw [HH.out, HHI.out]; exact HNE2.out))) (by decide)
        subst hre
        go_wp2_with fail
        go_returns
        exact ⟨none, 0, 0, 0, 0, rfl, HB4.out, fun h => absurd h (by show (5 : Int) ≠ 0; decide)⟩
    ·have g0 : (bi u == 0) = false := by rw [beq_eq_false_iff_ne]; intro e; exact h0 (bi_inj (by rw [e]; unfold bi; decide))
     have g1 : (bi u == 1) = false := by rw [beq_eq_false_iff_ne]; intro e; exact h1 (bi_inj (by rw [e]; unfold bi; decide))
     have g2 : (bi u == 2) = false := by rw [beq_eq_false_iff_ne]; intro e; exact h2 (bi_inj (by rw [e]; unfold bi; decide))
     have HPB : Hid (bytesP b (srcK ids objs) read k = (4, [], 0, 0)) := bytes_form HKL.out (by rw [hu]; exact h0) (by rw [hu]; exact h1) (by rw [hu]; exact h2)
     obtain ⟨ub, hub⟩ : ∃ x, bi u = x := ⟨_, rfl⟩
     rw [hub] at yc g0 g1 g2
     clear hu h0 h1 h2 hub
     go_enter Tryz.func189, Tryz.ntmps189
     go_upto_region 1 with (fail)
     rw [← hwa]
     clear hwa
     go_wp2_with fail
     clear yc
     have hre : P = (4, [], 0, 0) := by rw [← HP.out]; exact one_stop HPB.out (by decide)
     subst hre
     go_wp2_with fail
     go_returns
     exact ⟨none, 0, 0, 0, 0, rfl, HBA.out, fun h => absurd h (by show (4 : Int) ≠ 0; decide)⟩
 ·have z1 : (l : Int) ≤ (k : Int) := by omega
  have hre : P = (2, [], 0, 0) := by rw [← HP.out]; exact one_stop (bytes_short (by have := HL.out; omega)) (by decide)
  subst hre
  go_enter Tryz.func189, Tryz.ntmps189
  go_wp2_with fail
  rw [← hwa]
  go_returns
  exact ⟨none, 0, 0, 0, 0, rfl, HBA.out, fun h => absurd h (by show (2 : Int) ≠ 0; decide)⟩
end Go.Proofs.YtpfjlhpahmhkhaaGreat.Ob
