/- Texts put together: Ry1. -/
import Derived.Test.YtalnfiegkkkkgaaGreatQr46
import Derived.Test.YtalnfiegkkkkgaaGreatQr40
import Derived.Test.YtalnfiegkkkkgaaGreatQr14
/- marlaw8.RefsApart: the walk. -/
set_option linter.unusedVariables false
set_option linter.unusedSimpArgs false
namespace Go.Proofs.YtalnfiegkkkkgaaGreat.Tx
open Go.RowKit Go.Maps Go.Proofs.YtalnfiegkkkkgaaGreat.Sh

set_option maxRecDepth 100000 in
set_option maxHeartbeats 12800000 in
theorem apart_any (G : Nat → Prop) (v : Value) (l : List ROp) (lk : List UInt8) (w : World) (h : OpsR G w v l) (hG : ∀ k, G k → k < w.heap.size) : Calls Tryz.prog 10 #[v, .string (Tx.str lk)] w (Yes w) := by
  have HL := Lib.hid h
  have HG := Lib.hid hG
  obtain ⟨A, c, rfl, hlc, hcm, _⟩ := h
  obtain ⟨n, hnn⟩ : ∃ n, l.length = n := ⟨_, rfl⟩
  have HN := Lib.hid hnn
  rw [hnn] at hlc HL ⊢
  unfold maxLen at hcm
  have hslk := str_size lk
  obtain ⟨ll, hll⟩ : ∃ x, lk.length = x := ⟨_, rfl⟩
  rw [hll] at hslk
  have HLL := Lib.hid hll
  clear hnn hG hll
  have hmm := @run_makeMap Tryz.prog
  have hlc1 := lock_cat lk
  go_enter Tryz.func10, Tryz.ntmps10
  go_wp2_with fail
  refine (rfirst_any w).mono ?_
  rintro e w1 ⟨rfl, hb1⟩
  have HB1 := Lib.hid hb1
  clear hb1
  go_wp2_with fail
  refine (new_any (fun _ => False) 1048576 w1 (fun _ h => h.elim)).mono ?_
  rintro e w2 ⟨hb2, ⟨h1, _⟩ | ⟨_, b, M, _, hM, rfl, hat⟩⟩
  · exact absurd h1 (by decide)
  have H2 : Hid (Mine w w2 b (newC 1048576)) := ⟨_, M, hat, fun k hk => Nat.le_trans HB1.out.size (hM k hk), HB1.out.trans (hb2.mono HB1.out.size)⟩
  clear hb2 hM hat
  have HEND : Hid (∀ w', Below w.heap.size w w' → Calls Tryz.prog 39 #[] w' fun e w'' => e = .returned (.bool true) ∧ Below w.heap.size w w'') := fun w' hb => (rfirst_any w').mono fun e w'' h => ⟨h.1, hb.trans (h.2.mono hb.size)⟩
  by_cases h30 : 30 < n
  · have k30 : (30 : Int) < (n : Int) := by omega
    clear h30
    go_wp2_with fail
    obtain ⟨_, _, _, _, hbm⟩ := H2.out
    refine (HEND.out w2 hbm).mono ?_
    rintro e w3 ⟨rfl, hb3⟩
    have HB3 := Lib.hid hb3
    clear hb3 hbm
    go_wp2_with fail
    go_ret
    exact ⟨rfl, HB3.out⟩
  · have k30 : ¬ (30 : Int) < (n : Int) := by omega
    have HL2 : Hid (OpsR G w2 (.slice A n c) l) := by obtain ⟨_, _, _, _, hbm⟩ := H2.out; exact HL.out.below hbm
    have HG2 : Hid (∀ k, G k → k < w2.heap.size) := by obtain ⟨_, _, _, _, hbm⟩ := H2.out; exact fun k hk => Nat.lt_of_lt_of_le (HG.out k hk) hbm.size
    go_wp2_with fail
    refine (rfew_any G _ l w2 HL2.out HG2.out).mono ?_
    rintro e w3 ⟨t, rfl, ht, hb3⟩
    have H3 := Lib.hid (H2.out.below hb3)
    have HT := Lib.hid ht
    clear hb3 ht
    cases t with
    | false =>
      go_wp2_with fail
      obtain ⟨_, _, _, _, hbm⟩ := H3.out
      refine (HEND.out w3 hbm).mono ?_
      rintro e w4 ⟨rfl, hb4⟩
      have HB4 := Lib.hid hb4
      clear hb4 hbm
      go_wp2_with fail
      go_ret
      exact ⟨rfl, HB4.out⟩
    | true =>
      have HF := Lib.hid (HT.out rfl)
      clear HT
      by_cases h100 : 100 < ll
      · have k100 : (100 : Int) < (ll : Int) := by omega
        clear h100
        go_wp2_with fail
        obtain ⟨_, _, _, _, hbm⟩ := H3.out
        refine (HEND.out w3 hbm).mono ?_
        rintro e w4 ⟨rfl, hb4⟩
        have HB4 := Lib.hid hb4
        clear hb4 hbm
        go_wp2_with fail
        go_ret
        exact ⟨rfl, HB4.out⟩
      · have k100 : ¬ (100 : Int) < (ll : Int) := by omega
        have kcat : ¬ 9223372036854775807 < 4 + (str lk).size := by rw [hslk]; omega
        have HLK : Hid ((lockP lk).length ≤ 1000000) := by unfold Hid; rw [lockP_len, HLL.out]; omega
        go_wp2_with fail
        obtain ⟨F3, M3, a1, a2, a3⟩ := H3.out
        refine (userw_any F3 M3 b _ _ (lockP lk) 1 _ [] (fun _ => False) w3 a1 (GoC.new_ 1048576).fits (by omega) (By.nil_ _ _) (fun _ h => h.elim) HLK.out).mono ?_
        rintro e w4 ⟨rfl, hp4⟩
        have H4 : Hid (Mine w w4 b (uwC (newC 1048576) (lockP lk) 1 [])) := Mine.of a2 a3 hp4
        clear hp4 a1 a2 a3
        obtain ⟨st, hst, hap, hlen⟩ := aps_user lk
        obtain ⟨c0, hc0⟩ : ∃ x, uwC (newC 1048576) (lockP lk) 1 [] = x := ⟨_, rfl⟩
        have HGO0 : Hid (GoC c0 1) := by
          rw [← hc0]
          exact (GoC.new_ 1048576).does (o := ⟨8, 1, 0, 0, lockP lk, [], [], []⟩) ⟨by show (lockP lk).length ≤ 400; rw [lockP_len, HLL.out]; omega, Nat.zero_le _, Nat.zero_le _, Nat.zero_le _, fun _ h => (by cases h)⟩
        rw [hc0] at H4 hap hlen
        obtain ⟨es, hes⟩ : ∃ x, uwE (newC 1048576) (lockP lk) 1 [] = x := ⟨_, rfl⟩
        rw [hes] at hst ⊢
        have HAP := Lib.hid hap
        have HLEN := Lib.hid hlen
        have hesb : (es == 0) = st := by
          cases st with
          | true => have := hst.2 rfl; rw [this]; rfl
          | false => rw [beq_eq_false_iff_ne]; intro x; exact absurd (hst.1 x) (by decide)
        clear hap hlen hc0 hes hst
        go_wp2_with fail
        obtain ⟨mb, hmb⟩ : ∃ x, x = w4.heap.size := ⟨_, rfl⟩
        obtain ⟨w5, hw5⟩ : ∃ x, x = w4.alloc (.map #[] 0) := ⟨_, rfl⟩
        have HW5 : Hid (ApW w w5 b c0 mb (fun k => k = mb) (fun _ => none) 0) := by
          obtain ⟨_, _, _, _, hbm⟩ := H4.out
          rw [hw5, hmb]
          exact ⟨((MineP.start H4.out).add (.map #[] 0)).fewer (fun k hk => .inr hk), rfl, ⟨.map [], _, World.ownsMap_made w4 Tryz.prog 9 hv, HavOK.empty, Nat.le_refl _⟩, hbm.size⟩
        rw [← hw5, ← hmb]
        clear hw5 hmb hmm
        go_loopw [9] (fun i wr => ∃ (k : Nat) (H : Hav) (cs : CSt), k ≤ n ∧ i = .int .i64 k ∧ ApW w wr b cs mb (fun k => k = mb) H k ∧ GoC cs (1 + 6 * k) ∧ ApS st lk H cs ∧ cs.here.length ≤ k + 1) (fun i _ => n - (intOf i).toNat)
        case atStart => exact ⟨0, fun _ => none, c0, by omega, rfl, HW5.out, HGO0.out, HAP.out, HLEN.out⟩
        case round =>
          obtain ⟨k, H, cs, hk, rfl, hw, hgo, has, hlen⟩ := hrel
          have HW := Lib.hid hw
          have HGO := Lib.hid hgo
          have HAS := Lib.hid has
          have HLE := Lib.hid hlen
          have hbm : Below w.heap.size w wr := hw.mine.bel
          clear hw hgo has hlen
          have k0 : (0 : Int) ≤ (k : Int) := by omega
          by_cases hlt : k < n
          · have k1 : (k : Int) < (n : Int) := by omega
            have HK30 : Hid (k < 30) := by unfold Hid; omega
            have hkl : k < l.length := by rw [HN.out]; exact hlt
            obtain ⟨A', c', hv', _, _, hat⟩ := HL.out.below hbm
            injection hv' with e1 e2 e3
            subst e1
            clear e2 e3
            obtain ⟨ad, dv, pv, rfl, hGa, hal, hoc⟩ := hat k l[k] (List.getElem?_eq_getElem hkl)
            clear hat
            have HRF : Hid (RFew l[k]) := HF.out.2.1 _ (List.getElem_mem hkl)
            generalize l[k] = o at *
            obtain ⟨rk, nm, ol, nw, fo⟩ := o
            obtain ⟨kd, mo, ke, tn', pa, de, da, pl⟩ := fo
            obtain ⟨hdv, hplan, x0, x1, x2, x3, x4, x5, x6, x7, x8, x9, x10, x11⟩ := hoc
            dsimp only at x0 x1 x2 x3 x4 x5 x6 x7 x8 x9 x10 x11 hdv hplan
            obtain ⟨dA, dc, rfl, _, _⟩ := hdv.slice
            obtain ⟨pA, pc, rfl, _, _⟩ := evs_slice hplan.tmp
            clear hkl hGa hal hdv hplan
            go_upto_region 12 with (fail)
            obtain ⟨wx, hwx⟩ : ∃ x, x = wr.alloc (.cells #[.int .i64 rk, .string (str nm), .string (str ol), .string (str nw), .int .i64 kd, .int .i64 mo, .int .i64 ke, .int .i64 tn', .string (str pa), .string (str de), .slice dA da.length dc, .slice pA pl.length pc] 81) := ⟨_, rfl⟩
            obtain ⟨g, hg⟩ : ∃ x, x = wr.heap.size := ⟨_, rfl⟩
            have HWX : Hid (ApW w wx b cs mb (fun k => k = mb ∨ k = g) H k) := by rw [hwx, hg]; exact HW.out.box _ _
            have HBL : Hid (Blk wx g 81 #[.int .i64 rk, .string (str nm), .string (str ol), .string (str nw), .int .i64 kd, .int .i64 mo, .int .i64 ke, .int .i64 tn', .string (str pa), .string (str de), .slice dA da.length dc, .slice pA pl.length pc]) := by rw [hwx, hg]; exact Blk.new _ _ _
            rw [← hwx, ← hg]
            clear hwx hg hbm x0 x1 x2 x3 x4 x5 x6 x7 x8 x9 x10 x11
            have y0 := HBL.out.cell 0
            have y1 := HBL.out.cell 1
            have y3 := HBL.out.cell 3
            have HRN : Hid (nw.length ≤ 900000 ∧ nm.length ≤ 400) := ⟨Nat.le_trans HRF.out.new (by decide), HRF.out.name⟩
            have HSKIP : Hid (ApW w wx b cs mb (fun k => k = mb) H (k + 1) ∧ GoC cs (1 + 6 * (k + 1)) ∧ cs.here.length ≤ k + 1 + 1) := ⟨(HWX.out.fewer (fun k hk => .inl hk) rfl).more (by omega), HGO.out.upto (by omega), Nat.le_succ_of_le HLE.out⟩
            by_cases h1 : rk = 1
            · subst h1
              obtain ⟨vv, hv⟩ : ∃ t, validB nw = t := ⟨_, rfl⟩
              have HV := Lib.hid hv
              clear hv
              go_wp2_with fail
              refine (valid_any nw vv HV.out wx (by have := HRN.out.1; omega)).mono ?_
              rintro e w6 ⟨rfl, rfl⟩
              cases vv with
              | false =>
                go_wp2_with fail
                go_roundw
                case rel => exact ⟨k + 1, H, cs, by omega, by go_num, HSKIP.out.1, HSKIP.out.2.1, HAS.out, HSKIP.out.2.2⟩
                case measure => simp [intOf]; omega
              | true =>
                obtain ⟨D, nD, d1, d2, d3⟩ := HWX.out.own
                have HOWN := Lib.hid d1
                have HKEY := Lib.hid (key_str nm (by have := HRN.out.2; omega))
                have HLOOK : Hid (∀ v ps, hv v = some (D.atKey (.string nm) (.held (.string ⟨#[]⟩)), ps) → v = .string (str (oldOf H nm))) := d2.look nm
                have HOL : Hid ((oldOf H nm).length ≤ 900000) := by
                  unfold Hid oldOf
                  cases hx : H nm with
                  | none => decide
                  | some id => show id.length ≤ 900000; rw [valid_len (HAS.out.refs nm id hx).2.1]; omega
                have HST := Lib.hid (HAS.out.set_ HGO.out.fits.hrow (by have := HLE.out; have := HK30.out; omega) (n := nm) HV.out)
                obtain ⟨es, hes⟩ : ∃ x, setE cs nm (oldOf H nm) nw = x := ⟨_, rfl⟩
                have HES := Lib.hid hes
                obtain ⟨c5, hc5⟩ : ∃ x, setC cs nm (oldOf H nm) nw = x := ⟨_, rfl⟩
                have HC5 := Lib.hid hc5
                have HG5 : Hid (GoC c5 (1 + 6 * k + 5)) := by rw [← hc5]; exact HGO.out.set_ _ _ _
                rw [hes, hc5] at HST
                clear d1 d2 d3 hes hc5
                go_wp2_with (at_lookup; refine wpList_lookup_own _ rfl _ _ 98 rfl 9 9 lawS Tryz.underlying98 hv (zeroS _) (.held (.string ⟨#[]⟩)) [] rfl mb _ D rfl (by exact HOWN.out) _ (.string nm) rfl (by exact HKEY.out) ?_; intro v ps hv'; obtain rfl := HLOOK.out v ps hv'; clear hv')
                refine (set_p nm (oldOf H nm) nw HWX.out.mine HGO.out (by have := HK30.out; omega) (by have := HRN.out.2; omega) HOL.out HRN.out.1).mono ?_
                rintro e w6 ⟨rfl, hp6⟩
                rw [HES.out]
                rw [HC5.out] at hp6
                have HW6 := Lib.hid (HWX.out.step hp6)
                have HB6 := Lib.hid (hp6.2.blk HBL.out (fun x => x (.inr rfl)))
                have y1' := HB6.out.cell 1
                have y3' := HB6.out.cell 3
                clear hp6 y0 y1 y3
                go_upto_region 14 with (fail)
                go_cut [108] (fun cv wy => cv = .bool (kept st lk nm) ∧ ApW w wy b c5 mb (fun k => k = mb ∨ k = g) H k ∧ Blk wy g 81 #[.int .i64 1, .string (str nm), .string (str ol), .string (str nw), .int .i64 kd, .int .i64 mo, .int .i64 ke, .int .i64 tn', .string (str pa), .string (str de), .slice dA da.length dc, .slice pA pl.length pc])
                case first =>
                  have y1 := HB6.out.cell 1
                  have hcn := lock_cat nm
                  have hsn : ¬ 9223372036854775807 < 4 + (str nm).size := by rw [str_size]; have := HRN.out.2; omega
                  have htn : (str nm).toList = nm := str_toList _
                  have htl : (str lk).toList = lk := str_toList _
                  have HLN : Hid ((lockP nm).length ≤ 1000000) := by unfold Hid; rw [lockP_len]; have := HRN.out.2; omega
                  cases st with
                  | false =>
                    have HKP : Hid (kept false lk nm = false) := rfl
                    go_wp2_with fail
                    go_meet
                    exact ⟨by rw [HKP.out], HW6.out, HB6.out⟩
                  | true =>
                    by_cases heq : nm = lk
                    · have hq : (nm == lk) = true := by rw [heq]; exact beq_self_eq_true _
                      have HKP : Hid (kept true lk nm = true) := by unfold Hid kept; rw [decide_eq_true heq]; rfl
                      clear heq
                      go_wp2_with fail
                      go_meet
                      exact ⟨by rw [HKP.out], HW6.out, HB6.out⟩
                    · have hq : (nm == lk) = false := list_other heq
                      have HKP : Hid (kept true lk nm = (underB (lockP lk) (lockP nm) || underB (lockP nm) (lockP lk))) := by unfold Hid kept; rw [decide_eq_false heq]; rfl
                      obtain ⟨u1, hu1⟩ : ∃ x, underB (lockP lk) (lockP nm) = x := ⟨_, rfl⟩
                      obtain ⟨u2, hu2⟩ : ∃ x, underB (lockP nm) (lockP lk) = x := ⟨_, rfl⟩
                      have HU1 := Lib.hid hu1
                      have HU2 := Lib.hid hu2
                      rw [hu1, hu2] at HKP
                      clear heq hu1 hu2
                      go_wp2_with fail
                      refine (nunder_any (lockP lk) (lockP nm) _ HLK.out HLN.out).mono ?_
                      rintro e w7 ⟨rfl, hb7⟩
                      rw [HU1.out]
                      have HW7 := Lib.hid (HW6.out.below hb7)
                      have HB7 := Lib.hid (HB6.out.below hb7 HB6.out.lt)
                      have y1 := HB7.out.cell 1
                      clear hb7
                      cases u1 with
                      | true =>
                        have HKQ : Hid (kept true lk nm = true) := HKP.out
                        go_wp2_with fail
                        go_meet
                        exact ⟨by rw [HKQ.out], HW7.out, HB7.out⟩
                      | false =>
                        have HKQ : Hid (kept true lk nm = u2) := HKP.out
                        go_wp2_with fail
                        refine (nunder_any (lockP nm) (lockP lk) _ HLN.out HLK.out).mono ?_
                        rintro e w8 ⟨rfl, hb8⟩
                        rw [HU2.out]
                        have HW8 := Lib.hid (HW7.out.below hb8)
                        have HB8 := Lib.hid (HB7.out.below hb8 HB7.out.lt)
                        clear hb8
                        go_wp2_with fail
                        go_meet
                        exact ⟨by rw [HKQ.out], HW8.out, HB8.out⟩
                case rest =>
                  obtain ⟨rfl, hw7, hb7⟩ := hcut
                  have HW7 := Lib.hid hw7
                  have HB7 := Lib.hid hb7
                  clear hw7 hb7 y1' y3'
                  have y1 := HB7.out.cell 1
                  have y3 := HB7.out.cell 3
                  obtain ⟨kp, hkp⟩ : ∃ x, kept st lk nm = x := ⟨_, rfl⟩
                  rw [hkp] at HST ⊢
                  clear hkp
                  cases kp with
                  | true =>
                    have HS1 := Lib.hid (HST.out.1 rfl)
                    have he0 : (es == 0) = false := by rw [beq_eq_false_iff_ne]; exact HS1.out.1
                    clear HST
                    go_wp2_with fail
                    go_roundw
                    case rel => exact ⟨k + 1, H, c5, by omega, by go_num, (HW7.out.fewer (fun k hk => .inl hk) rfl).more (by omega), HG5.out.upto (by omega), HS1.out.2.1, by have := HS1.out.2.2; have := HLE.out; omega⟩
                    case measure => simp [intOf]; omega
                  | false =>
                    have HS1 := Lib.hid (HST.out.2 rfl)
                    clear HST
                    obtain ⟨nb, hnb⟩ : ∃ x, nameB nm = x := ⟨_, rfl⟩
                    have HNB := Lib.hid hnb
                    rw [hnb] at HS1
                    clear hnb
                    go_wp2_with fail
                    refine (cname_any nm _ (by have := HRN.out.2; omega)).mono ?_
                    rintro e w8 ⟨rfl, rfl⟩
                    rw [HNB.out]
                    cases nb with
                    | false =>
                      have he0 : (es == 0) = false := by rw [beq_eq_false_iff_ne]; intro x; exact absurd (HS1.out.1.1 x) (by decide)
                      go_wp2_with fail
                      go_roundw
                      case rel => exact ⟨k + 1, H, c5, by omega, by go_num, (HW7.out.fewer (fun k hk => .inl hk) rfl).more (by omega), HG5.out.upto (by omega), HS1.out.2.2.1 trivial, by have := HS1.out.2.2.2; have := HLE.out; omega⟩
                      case measure => simp [intOf]; omega
                    | true =>
                      have he0 : es = 0 := HS1.out.1.2 rfl
                      subst he0
                      obtain ⟨E, nE, f1, f2, f3⟩ := HW7.out.own
                      have HE1 := Lib.hid f1
                      have HE2 := Lib.hid f2
                      have HE3 := Lib.hid f3
                      have HESZ : Hid (nE < maxLen) := by unfold Hid maxLen; have := HK30.out; omega
                      clear f1 f2 f3
                      go_wp2_with (at_mapUpdate; refine wpList_mapUpdate_own _ rfl _ _ _ 98 rfl 9 9 lawS Tryz.underlying98 hv mb _ E rfl (by exact HE1.out) (by exact HESZ.out) _ _ (.string nm) rfl rfl (by exact HKEY.out) (.held (.string (str nw))) [] rfl ?_; intro w9 hown9 hgr9; have HO9 := Lib.hid hown9; have HG9 := Lib.hid hgr9; clear hown9 hgr9)
                      go_roundw
                      case rel => exact ⟨k + 1, H.set nm nw, c5, by omega, by go_num, (HW7.out.put HE2.out (own_map HE1.out) HE3.out nm nw HO9.out HG9.out).fewer (fun k hk => .inl hk) rfl, HG5.out.upto (by omega), HS1.out.2.1 trivial, by have := HS1.out.2.2.2; have := HLE.out; omega⟩
                      case measure => simp [intOf]; omega
            · have h1' : (rk != 1) = true := by simpa using h1
              have h1'' : (rk == 1) = false := by rw [beq_eq_false_iff_ne]; exact h1
              clear h1
              go_wp2_with fail
              go_roundw
              case rel => exact ⟨k + 1, H, cs, by omega, by go_num, HSKIP.out.1, HSKIP.out.2.1, HAS.out, HSKIP.out.2.2⟩
              case measure => simp [intOf]; omega
          · obtain rfl : k = n := by omega
            go_wp2_with fail
            go_loopw [12] (fun i wq => ∃ (j : Nat) (cs' : CSt), j ≤ k ∧ i = .int .i64 j ∧ ApW w wq b cs' mb (fun q => q = mb) H k ∧ GoC cs' (1 + 6 * k + j) ∧ ApS st lk H cs') (fun i _ => k - (intOf i).toNat)
            case atStart => exact ⟨0, cs, by omega, rfl, HW.out, HGO.out, HAS.out⟩
            case round =>
              obtain ⟨j, cs', hj, rfl, hw, hgo, has⟩ := hrel
              have HW' := Lib.hid hw
              have HGO' := Lib.hid hgo
              have HAS' := Lib.hid has
              have hbm' : Below w.heap.size w wr := hw.mine.bel
              clear hw hgo has
              have j0 : (0 : Int) ≤ (j : Int) := by omega
              by_cases hlt' : j < k
              · have j1 : (j : Int) < (k : Int) := by omega
                have hkl : j < l.length := by rw [HN.out]; exact hlt'
                obtain ⟨A', c', hv', _, _, hat⟩ := HL.out.below hbm'
                injection hv' with e1 e2 e3
                subst e1
                clear e2 e3
                obtain ⟨ad, dv, pv, hAd, hGa, hal, hoc⟩ := hat j l[j] (List.getElem?_eq_getElem hkl)
                subst hAd
                have HRF : Hid (RFew l[j]) := HF.out.2.1 _ (List.getElem_mem hkl)
                have HAT : Hid (∀ wz, Below w.heap.size w wz → wz.cell? ⟨(ad.add (j * 12)).block, (ad.add (j * 12)).off + 1, none⟩ = some (.string (str l[j].name))) := fun wz hb => by
                  obtain ⟨A2, c2, hv2, _, _, hat2⟩ := HL.out.below hb
                  injection hv2 with e1 e2 e3
                  subst e1
                  obtain ⟨ad2, _, _, e, _, _, hoc2⟩ := hat2 j l[j] (List.getElem?_eq_getElem hkl)
                  injection e with e
                  subst e
                  exact hoc2.name
                obtain ⟨nm, hnm⟩ : ∃ x, l[j].name = x := ⟨_, rfl⟩
                have HRN : Hid (nm.length ≤ 400) := by rw [← hnm]; exact HRF.out.name
                rw [hnm] at HAT
                have x1 := HAT.out wr hbm'
                clear hat hoc hnm hkl hGa hal HRF
                have HGT := Lib.hid (HAS'.out.get_ nm)
                obtain ⟨ge, hge⟩ : ∃ x, getE cs' nm = x := ⟨_, rfl⟩
                obtain ⟨z, hz⟩ : ∃ x, oldOf H nm = x := ⟨_, rfl⟩
                obtain ⟨hs, hhs⟩ : ∃ x, (H nm).isSome = x := ⟨_, rfl⟩
                have HGE := Lib.hid hge
                have HZ := Lib.hid hz
                have HHS := Lib.hid hhs
                rw [hge, hz, hhs] at HGT
                clear hge hz hhs
                have heq0 : (ge == 0) = hs := by
                  cases hs with
                  | true => have := HGT.out.2.1.2 rfl; rw [this]; rfl
                  | false => rw [beq_eq_false_iff_ne]; intro x; exact absurd (HGT.out.2.1.1 x) (by decide)
                have htz : (str z).toList = z := str_toList _
                have hzz : (z == z) = true := beq_self_eq_true _
                go_wp2_with fail
                refine (get_p nm HW'.out.mine HGO'.out (by have := k30; omega) (by have := HRN.out; omega)).mono ?_
                rintro e w6 ⟨rfl, hp6⟩
                rw [HGE.out, HGT.out.1]
                have HW6 := Lib.hid (HW'.out.step hp6)
                have x1' := HAT.out w6 hp6.1.bel
                obtain ⟨D, nD, d1, d2, d3⟩ := HW6.out.own
                have HOWN := Lib.hid d1
                have HKEY := Lib.hid (key_str nm (by have := HRN.out; omega))
                have HLOOK : Hid (∀ v ps, hv v = some (D.atKey (.string nm) (.held (.string ⟨#[]⟩)), ps) → v = .string (str z)) := fun v ps hv' => by
                  rw [d2.look nm v ps hv']
                  exact congrArg (fun q => Value.string (str q)) HZ.out
                have HHAS : Hid (Maps.has D (.string nm) = hs) := (d2.has_ nm).trans HHS.out
                clear hp6 d1 d2 d3 x1
                go_wp2_with (at_lookup; refine wpList_lookup_own_ok _ rfl _ _ 98 rfl 9 9 lawS Tryz.underlying98 hv (zeroS _) (.held (.string ⟨#[]⟩)) [] rfl mb _ D rfl (by exact HOWN.out) _ (.string nm) rfl (by exact HKEY.out) ?_; intro v ps hv'; obtain rfl := HLOOK.out v ps hv'; rw [HHAS.out]; clear hv')
                cases hs with
                | true =>
                  have hge0 : ge = 0 := HGT.out.2.1.2 rfl
                  subst hge0
                  clear heq0
                  go_wp2_with fail
                  go_roundw
                  case rel => first | exact ⟨j + 1, by omega, by omega, getC cs' nm, HW6.out, (HGO'.out.get_ nm).upto (by omega), HGT.out.2.2.1⟩ | exact ⟨j + 1, getC cs' nm, by omega, by go_num, HW6.out, (HGO'.out.get_ nm).upto (by omega), HGT.out.2.2.1⟩
                  case measure => simp [intOf]; omega
                | false =>
                  go_wp2_with fail
                  go_roundw
                  case rel => exact ⟨j + 1, getC cs' nm, by omega, by go_num, HW6.out, (HGO'.out.get_ nm).upto (by omega), HGT.out.2.2.1⟩
                  case measure => simp [intOf]; omega
              · obtain rfl : j = k := by omega
                have HUL := Lib.hid HAS'.out.unlock
                have HRL : Hid ((rlsV cs' lockD).length ≤ 1 ∧ ∀ n ∈ rlsV cs' lockD, n.length ≤ 900000) := by
                  unfold Hid
                  rw [HAS'.out.locks]
                  split
                  · refine ⟨by simp, fun q hq => ?_⟩
                    rw [List.mem_singleton.1 hq, HLL.out]
                    omega
                  · exact ⟨by simp, fun q hq => (by cases hq)⟩
                cases st with
                | false =>
                  have HUN : Hid (ulkN cs' = 0) := by have h := HUL.out.2; exact h
                  go_wp2_with fail
                  refine (unlock_mine HW'.out.mine.mine HGO'.out (by have := HRL.out.1; omega) HRL.out.2).mono ?_
                  rintro e w6 ⟨rfl, hm6⟩
                  rw [HUL.out.1, HUN.out]
                  have HM6 := Lib.hid hm6
                  clear hm6
                  go_wp2_with fail
                  obtain ⟨_, _, _, _, hbm6⟩ := HM6.out
                  refine (HEND.out w6 hbm6).mono ?_
                  rintro e w7 ⟨rfl, hb7⟩
                  have HB7 := Lib.hid hb7
                  clear hb7 hbm6
                  go_wp2_with fail
                  refine (rflag_any false w7).mono ?_
                  rintro e w8 ⟨rfl, rfl⟩
                  go_wp2_with fail
                  go_ret
                  exact ⟨rfl, HB7.out⟩
                | true =>
                  obtain ⟨nb, hnb⟩ : ∃ x, nameB lk = x := ⟨_, rfl⟩
                  have HNB := Lib.hid hnb
                  clear hnb
                  cases nb with
                  | false =>
                    have HUN : Hid (ulkN cs' = 0) := by have h := HUL.out.2; rw [HNB.out] at h; exact h
                    go_wp2_with fail
                    refine (unlock_mine HW'.out.mine.mine HGO'.out (by have := HRL.out.1; omega) HRL.out.2).mono ?_
                    rintro e w6 ⟨rfl, hm6⟩
                    rw [HUL.out.1, HUN.out]
                    have HM6 := Lib.hid hm6
                    clear hm6
                    go_wp2_with fail
                    obtain ⟨_, _, _, _, hbm6⟩ := HM6.out
                    refine (HEND.out w6 hbm6).mono ?_
                    rintro e w7 ⟨rfl, hb7⟩
                    have HB7 := Lib.hid hb7
                    clear hb7 hbm6
                    go_wp2_with fail
                    refine (cname_any lk w7 (by rw [HLL.out]; omega)).mono ?_
                    rintro e w8 ⟨rfl, rfl⟩
                    rw [HNB.out]
                    go_wp2_with fail
                    refine (rflag_any false w7).mono ?_
                    rintro e w8 ⟨rfl, rfl⟩
                    go_wp2_with fail
                    go_ret
                    exact ⟨rfl, HB7.out⟩
                  | true =>
                    have HUN : Hid (ulkN cs' = 1) := by have h := HUL.out.2; rw [HNB.out] at h; exact h
                    go_wp2_with fail
                    refine (unlock_mine HW'.out.mine.mine HGO'.out (by have := HRL.out.1; omega) HRL.out.2).mono ?_
                    rintro e w6 ⟨rfl, hm6⟩
                    rw [HUL.out.1, HUN.out]
                    have HM6 := Lib.hid hm6
                    clear hm6
                    go_wp2_with fail
                    obtain ⟨_, _, _, _, hbm6⟩ := HM6.out
                    refine (HEND.out w6 hbm6).mono ?_
                    rintro e w7 ⟨rfl, hb7⟩
                    have HB7 := Lib.hid hb7
                    clear hb7 hbm6
                    go_wp2_with fail
                    refine (cname_any lk w7 (by rw [HLL.out]; omega)).mono ?_
                    rintro e w8 ⟨rfl, rfl⟩
                    rw [HNB.out]
                    go_wp2_with fail
                    refine (rflag_any true w7).mono ?_
                    rintro e w8 ⟨rfl, rfl⟩
                    go_wp2_with fail
                    go_ret
                    exact ⟨rfl, HB7.out⟩
end Go.Proofs.YtalnfiegkkkkgaaGreat.Tx
