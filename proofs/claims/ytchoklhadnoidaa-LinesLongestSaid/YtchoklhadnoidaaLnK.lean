/- LinesLongest: the walk. -/
import Derived.Test.YtchoklhadnoidaaLnF
import Derived.Test.YtchoklhadnoidaaLnR
set_option linter.unusedVariables false
set_option linter.unusedSimpArgs false
namespace Go.Proofs.Ytchoklhadnoidaa.Ln
open Go.RowKit Go.Proofs.Ytchoklhadnoidaa.Sh Go.Proofs.Ytchoklhadnoidaa.Tx

/-- What the second loop has found: a common subsequence of the lines ahead of k and of j. -/
def Com (a b : List ByteArray) (n k j : Nat) : Prop := ∃ s : List ByteArray, s.length = n ∧ s.Sublist (a.take k) ∧ s.Sublist (b.take j)
theorem Com.more {a b : List ByteArray} {n k j i m : Nat} {x : ByteArray} (h : Com a b n k j) (hk : k ≤ i) (hj : j ≤ m) (ha : a[i]? = some x) (hb : b[m]? = some x) : Com a b (n + 1) (i + 1) (m + 1) := by
  obtain ⟨s, h1, h2, h3⟩ := h
  exact ⟨s ++ [x], by rw [List.length_append, h1]; rfl, sub_more h2 hk ha, sub_more h3 hj hb⟩
theorem Com.le {a b : List ByteArray} {n k j : Nat} (h : Com a b n k j) : n ≤ lenL a b := by
  obtain ⟨s, h1, h2, h3⟩ := h
  rw [← h1]
  exact common_le h2 h3
set_option maxRecDepth 100000 in
set_option maxHeartbeats 6400000 in
theorem longest_in (v0 v1 v2 : Value) (a b : List ByteArray) (z : List Int) (w : World) (h1 : SlV w v0 (a.map sv)) (h2 : SlV w v1 (b.map sv)) (h3 : SlV w v2 (z.map iv)) (m1 : ∀ s ∈ a, s.size ≤ maxLen) (m2 : ∀ s ∈ b, s.size ≤ maxLen) (m3 : ∀ n ∈ z, -9223372036854775808 ≤ n ∧ n ≤ 9223372036854775807) :
    Calls Try.prog 7 #[v0, v1, v2] w (Yes w) := by
  have H1 := Lib.hid h1
  have H2 := Lib.hid h2
  have H3 := Lib.hid h3
  have M1 := Lib.hid m1
  have M2 := Lib.hid m2
  have M3 := Lib.hid m3
  obtain ⟨A0, c0, rfl, hl0, hm0, _⟩ := h1.len
  obtain ⟨A1, c1, rfl, hl1, hm1, _⟩ := h2.len
  obtain ⟨A2, c2, rfl, hl2, hm2, _⟩ := h3.len
  unfold maxLen at hm0 hm1 hm2
  simp only [List.length_map] at H1 H2 H3 hl0 hl1 hl2 ⊢
  obtain ⟨la, hla⟩ : ∃ n, a.length = n := ⟨_, rfl⟩
  obtain ⟨lb, hlb⟩ : ∃ n, b.length = n := ⟨_, rfl⟩
  obtain ⟨lz, hlz⟩ : ∃ n, z.length = n := ⟨_, rfl⟩
  rw [hla] at H1 hl0 ⊢
  rw [hlb] at H2 hl1 ⊢
  rw [hlz] at H3 hl2 ⊢
  have HLA := Lib.hid hla
  have HLB := Lib.hid hlb
  have HLZ := Lib.hid hlz
  clear h1 h2 h3 m1 m2 m3 hla hlb hlz
  go_enter Try.func7, Try.ntmps7
  go_wp2_with fail
  refine (first_any w).mono ?_
  rintro e w1 ⟨rfl, hb1⟩
  have HB1 := Lib.hid hb1
  clear hb1
  go_wp2_with fail
  refine (few_any _ a w1 (H1.out.below HB1.out) M1.out).mono ?_
  rintro e w1' ⟨rfl, rfl⟩
  rcases few_cases a with fa | fa
  rotate_left
  · rw [fa]
    go_wp2_with fail
    refine (first_any w1).mono ?_
    rintro e w2 ⟨rfl, hb2⟩
    have HB2 := Lib.hid (HB1.out.trans (hb2.mono HB1.out.size))
    go_wp2_with fail
    go_ret
    exact ⟨rfl, HB2.out⟩
  rw [fa]
  go_wp2_with fail
  refine (few_any _ b w1 (H2.out.below HB1.out) M2.out).mono ?_
  rintro e w1' ⟨rfl, rfl⟩
  rcases few_cases b with fb | fb
  rotate_left
  · rw [fb]
    go_wp2_with fail
    refine (first_any w1).mono ?_
    rintro e w2 ⟨rfl, hb2⟩
    have HB2 := Lib.hid (HB1.out.trans (hb2.mono HB1.out.size))
    go_wp2_with fail
    go_ret
    exact ⟨rfl, HB2.out⟩
  rw [fb]
  by_cases ca : (la : Int) > 60
  · go_wp2_with fail
    refine (first_any w1).mono ?_
    rintro e w2 ⟨rfl, hb2⟩
    have HB2 := Lib.hid (HB1.out.trans (hb2.mono HB1.out.size))
    go_wp2_with fail
    go_ret
    exact ⟨rfl, HB2.out⟩
  by_cases cb : (lb : Int) > 60
  · go_wp2_with fail
    refine (first_any w1).mono ?_
    rintro e w2 ⟨rfl, hb2⟩
    have HB2 := Lib.hid (HB1.out.trans (hb2.mono HB1.out.size))
    go_wp2_with fail
    go_ret
    exact ⟨rfl, HB2.out⟩
  by_cases cz : (lz : Int) > 60
  · go_wp2_with fail
    refine (first_any w1).mono ?_
    rintro e w2 ⟨rfl, hb2⟩
    have HB2 := Lib.hid (HB1.out.trans (hb2.mono HB1.out.size))
    go_wp2_with fail
    go_ret
    exact ⟨rfl, HB2.out⟩
  have h200 : a.length ≤ 200 ∧ b.length ≤ 200 := by rw [HLA.out, HLB.out]; omega
  have h200' : b.length ≤ 200 ∧ a.length ≤ 200 := ⟨h200.2, h200.1⟩
  have eE : mErr a b = 0 := if_pos h200
  have eP : mPrs a b = prsL 0 0 a b := if_pos h200
  have eE' : mErr b a = 0 := if_pos h200'
  have eP' : mPrs b a = prsL 0 0 b a := if_pos h200'
  have hlen : (prsL 0 0 b a).length = (prsL 0 0 a b).length := by rw [prs_short _ 0 0 (Nat.le_refl _), prs_short _ 0 0 (Nat.le_refl _), lenL_comm _ (Nat.le_refl _)]
  have hpl : (prsL 0 0 a b).length = lenL a b := prs_short _ 0 0 (Nat.le_refl _)
  have hok : PrsOk a b 0 0 (prsL 0 0 a b) := prs_ok (A := a) (B := b) _ 0 0 (Nat.le_refl _) rfl rfl (Nat.zero_le _) (Nat.zero_le _)
  have hle := lenL_le _ a b (Nat.le_refl _)
  obtain ⟨R, hR⟩ : ∃ R, prsL 0 0 a b = R := ⟨_, rfl⟩
  have HMT : Hid (∀ W, Below w.heap.size w W → Calls Try.prog 20 #[.slice A0 la c0, .slice A1 lb c1] W fun e w' => ∃ v, e = .returned (.tuple #[v, .int .i64 0]) ∧ SlK 2 w' v (R.map prC) ∧ Below W.heap.size W w') := fun W hW => (match_any _ _ a b W (H1.out.below hW) (H2.out.below hW)).mono fun e w' h => by
    obtain ⟨v, he, ho, hb⟩ := h
    rw [eE] at he
    rw [eP, hR] at ho
    exact ⟨v, he, ho.sl, hb⟩
  have HMT2 : Hid (∀ W, Below w.heap.size w W → Calls Try.prog 20 #[.slice A1 lb c1, .slice A0 la c0] W fun e w' => ∃ A c, e = .returned (.tuple #[.slice A R.length c, .int .i64 0]) ∧ Below W.heap.size W w') := fun W hW => (match_any _ _ b a W (H2.out.below hW) (H1.out.below hW)).mono fun e w' h => by
    obtain ⟨v, he, ho, hb⟩ := h
    rw [eE'] at he
    obtain ⟨A, c, rfl, _⟩ := ho.slice
    rw [List.length_map, eP', hlen, hR] at he
    exact ⟨A, c, he, hb⟩
  rw [hR] at hpl hok
  obtain ⟨lr, hlr⟩ : ∃ n, R.length = n := ⟨_, rfl⟩
  rw [hlr] at hpl HMT2
  have HLR := Lib.hid hlr
  have HPL := Lib.hid hpl
  have HOK := Lib.hid hok
  have hlr60 : lr ≤ 60 := by rw [hpl]; rw [HLA.out] at hle; omega
  clear eE eP eE' eP' hlen hpl hok hle hR h200 h200' hlr
  go_wp2_with fail
  refine (HMT.out w1 HB1.out).mono ?_
  rintro e w2 ⟨vp, rfl, hp, hb2⟩
  obtain ⟨A3, c3, rfl, hl3, hm3, hr3⟩ := hp
  rw [List.length_map] at hl3 ⊢
  rw [HLR.out] at hl3 ⊢
  unfold maxLen at hm3
  have HP : Hid (SlK 2 w2 (.slice A3 lr c3) (R.map prC)) := ⟨A3, c3, by rw [List.length_map, HLR.out], by rw [List.length_map, HLR.out]; exact hl3, hm3, hr3⟩
  have HB2 := Lib.hid (HB1.out.trans (hb2.mono HB1.out.size))
  clear hb2 HMT HB1 hr3
  go_wp2_with fail
  go_loopw [9] (fun x wr => ∃ i : Nat, i ≤ lr ∧ x = .int .i64 (i : Int) ∧ Below w2.heap.size w2 wr) (fun x _ => lr - (intOf x).toNat)
  case atStart => exact ⟨0, Nat.zero_le _, rfl, Below.refl _ _⟩
  case round =>
    obtain ⟨i, hi, rfl, hb⟩ := hrel
    have HB := Lib.hid hb
    have HBW := Lib.hid (HB2.out.trans (hb.mono HB2.out.size))
    clear hb
    have z0 : (0 : Int) ≤ (i : Int) := by omega
    by_cases hlt : i < lr
    · have z1 : (i : Int) < (lr : Int) := by omega
      have hil : i < R.length := by rw [HLR.out]; exact hlt
      obtain ⟨p, q, hpq⟩ : ∃ p q, R[i]? = some (p, q) := ⟨_, _, List.getElem?_eq_getElem hil⟩
      obtain ⟨_, _, g1, g2, g3⟩ := prsOk_at HOK.out i p q hpq
      obtain ⟨x, hx⟩ : ∃ x, a[p]? = some x := ⟨_, List.getElem?_eq_getElem g1⟩
      rw [hx] at g3
      rw [HLA.out] at g1
      rw [HLB.out] at g2
      obtain ⟨ad3, rfl, x0, x1⟩ := pr_at (HP.out.below HB.out) i p q hpq
      obtain ⟨ad0, rfl, x2⟩ := texts_cell (H1.out.below HBW.out) p x hx
      obtain ⟨ad1, rfl, x3⟩ := texts_cell (H2.out.below HBW.out) q x g3.symm
      have t0 : (0 : Int) ≤ (p : Int) := by omega
      have t1 : (p : Int) < (la : Int) := by omega
      have t2 : (0 : Int) ≤ (q : Int) := by omega
      have t3 : (q : Int) < (lb : Int) := by omega
      have t4 : ¬ (p : Int) < 0 := by omega
      have t5 : ¬ (la : Int) ≤ (p : Int) := by omega
      have t6 : ¬ (q : Int) < 0 := by omega
      have t7 : ¬ (lb : Int) ≤ (q : Int) := by omega
      have d4 : decide ((p : Int) < 0) = false := decide_eq_false t4
      have d5 : decide ((la : Int) ≤ (p : Int)) = false := decide_eq_false t5
      have d6 : decide ((q : Int) < 0) = false := decide_eq_false t6
      have d7 : decide ((lb : Int) ≤ (q : Int)) = false := decide_eq_false t7
      have n5 : decide (la ≤ p) = false := decide_eq_false (by omega)
      have n7 : decide (lb ≤ q) = false := decide_eq_false (by omega)
      clear hil hx g3
      cases i with
      | zero =>
        as_aux_lemma =>
          clear hpq
          have e0 : ad3.add 0 = ad3 := by simp [Addr.add]
          rw [Nat.zero_mul, e0] at x0 x1
          go_wp2_with fail
          go_quiet (fail)
          go_wp2_with fail
          go_roundw
          case rel => exact ⟨1, by omega, by go_num, by first | exact HB.out | exact below_drewN HB.out _ | exact HB.out.drew⟩
          case measure => simp [intOf]; omega
      | succ k =>
        as_aux_lemma =>
          have hkl : k < R.length := by rw [HLR.out]; omega
          obtain ⟨p', q', hpq'⟩ : ∃ p q, R[k]? = some (p, q) := ⟨_, _, List.getElem?_eq_getElem hkl⟩
          obtain ⟨u1, u2⟩ := prsOk_up HOK.out k p' q' p q hpq' hpq
          obtain ⟨_, ea, x4, x5⟩ := pr_at (HP.out.below HB.out) k p' q' hpq'
          injection ea with ea
          subst ea
          have t8 : ¬ (p : Int) ≤ (p' : Int) := by omega
          have t9 : ¬ (q : Int) ≤ (q' : Int) := by omega
          have d8 : decide ((p : Int) ≤ (p' : Int)) = false := decide_eq_false t8
          have n8 : decide (p ≤ p') = false := decide_eq_false (by omega)
          have n9 : decide (q ≤ q') = false := decide_eq_false (by omega)
          have d9 : decide ((q : Int) ≤ (q' : Int)) = false := decide_eq_false t9
          have y0 : (0 : Int) ≤ (k : Int) := by omega
          have dk : decide (0 < (k : Int) + 1) = true := decide_eq_true (by omega)
          have y1 : (k : Int) < (lr : Int) := by omega
          have y2 : (k : Int) + 1 < (lr : Int) := by omega
          have wk : IntKind.i64.wrap (k : Int) = (k : Int) := by rw [IntKind.wrap_i64]; omega
          rw [show ((k + 1 : Nat) : Int) = (k : Int) + 1 by omega] at z0 z1 ⊢
          clear hpq hpq' hkl
          go_wp2_with fail
          go_quiet (fail)
          go_wp2_with fail
          go_roundw
          case rel => exact ⟨k + 1 + 1, by omega, by go_num, by first | exact HB.out | exact below_drewN HB.out _ | exact HB.out.drew⟩
          case measure => simp [intOf]; omega
    · have hilr : lr = i := by omega
      subst hilr
      as_aux_lemma =>
        have HB3 := HBW
        clear HB HBW HP HB2
        obtain ⟨w3, hw3⟩ : ∃ x, x = wr := ⟨_, rfl⟩
        subst hw3
        go_wp2_with fail
        go_loopw [10, 11, 12, 13] (fun v10 v11 v12 v13 wx => ∃ (n k j i : Nat), i ≤ lz ∧ k ≤ la ∧ j ≤ lb ∧ n ≤ i ∧ v10 = .int .i64 (n : Int) ∧ v11 = .int .i64 (k : Int) ∧ v12 = .int .i64 (j : Int) ∧ v13 = .int .i64 (i : Int) ∧ Com a b n k j ∧ Below w3.heap.size w3 wx) (fun _ _ _ v13 _ => lz - (intOf v13).toNat)
        case atStart => exact ⟨0, 0, 0, 0, Nat.zero_le _, Nat.zero_le _, Nat.zero_le _, Nat.zero_le _, rfl, rfl, rfl, rfl, ⟨[], rfl, List.nil_sublist _, List.nil_sublist _⟩, Below.refl _ _⟩
        case round =>
          obtain ⟨wx, hwx⟩ : ∃ x, x = wr := ⟨_, rfl⟩
          subst hwx
          obtain ⟨n, k, j, i, hi2, hk, hj, hni, rfl, rfl, rfl, rfl, hcom, hbx⟩ := hrel
          have HCOM := Lib.hid hcom
          have HBX := Lib.hid hbx
          have HBXW := Lib.hid (HB3.out.trans (hbx.mono HB3.out.size))
          clear hcom hbx
          have y0 : (0 : Int) ≤ (i : Int) := by omega
          by_cases hiz : i < lz
          · have y1 : (i : Int) < (lz : Int) := by omega
            have hil : i < z.length := by rw [HLZ.out]; exact hiz
            obtain ⟨t, ht⟩ : ∃ t, z[i]? = some t := ⟨_, List.getElem?_eq_getElem hil⟩
            obtain ⟨ad2, rfl, x0⟩ := int_cell (H3.out.below HBXW.out) i t ht
            have htb := M3.out t (List.mem_of_getElem? ht)
            clear hil ht
            by_cases c1 : t < (k : Int)
            · go_wp2_with fail
              go_roundw
              case rel => exact ⟨n, k, j, i + 1, by omega, hk, hj, by omega, rfl, rfl, rfl, by go_num, HCOM.out, HBX.out⟩
              case measure => simp [intOf]; omega
            · by_cases c2 : (la : Int) ≤ t
              · go_wp2_with fail
                go_roundw
                case rel => exact ⟨n, k, j, i + 1, by omega, hk, hj, by omega, rfl, rfl, rfl, by go_num, HCOM.out, HBX.out⟩
                case measure => simp [intOf]; omega
              · obtain ⟨p, rfl⟩ := Int.eq_ofNat_of_zero_le (show (0 : Int) ≤ t by omega)
                have c3 : k ≤ p := by omega
                have c4 : p < la := by omega
                have c5 : (0 : Int) ≤ (p : Int) := by omega
                have c6 : (p : Int) < (la : Int) := by omega
                have hpl : p < a.length := by rw [HLA.out]; exact c4
                obtain ⟨x, hx⟩ : ∃ x, a[p]? = some x := ⟨_, List.getElem?_eq_getElem hpl⟩
                obtain ⟨ad0, rfl, x1⟩ := texts_cell (H1.out.below HBXW.out) p x hx
                have HX := Lib.hid hx
                clear hpl hx htb
                go_wp2_with fail
                go_loopw [14] (fun v14 wy => ∃ m : Nat, j ≤ m ∧ m ≤ lb ∧ v14 = .int .i64 (m : Int) ∧ Below wx.heap.size wx wy) (fun v14 _ => lb - (intOf v14).toNat)
                case atStart => exact ⟨j, Nat.le_refl _, hj, rfl, Below.refl _ _⟩
                case round =>
                  obtain ⟨wy, hwy⟩ : ∃ x, x = wr := ⟨_, rfl⟩
                  subst hwy
                  obtain ⟨m, hjm, hm, rfl, hby⟩ := hrel
                  have HBY := Lib.hid hby
                  have HBYW := Lib.hid (HBXW.out.trans (hby.mono HBXW.out.size))
                  have HBXY := Lib.hid (HBX.out.trans (hby.mono HBX.out.size))
                  have g0 : (0 : Int) ≤ (m : Int) := by omega
                  have x2 : wy.cell? (ad2.add i) = some (.int .i64 (p : Int)) := (hby.cell (p := ad2.add i) (World.block_lt_of_cell? wx _ x0)).trans x0
                  have x3 : wy.cell? (ad0.add p) = some (.string x) := (hby.cell (p := ad0.add p) (World.block_lt_of_cell? wx _ x1)).trans x1
                  clear hby
                  by_cases hmb : m < lb
                  · have g1 : (m : Int) < (lb : Int) := by omega
                    have e1 : decide ((m : Int) < (lb : Int)) = true := decide_eq_true g1
                    have hml : m < b.length := by rw [HLB.out]; exact hmb
                    obtain ⟨y, hy⟩ : ∃ y, b[m]? = some y := ⟨_, List.getElem?_eq_getElem hml⟩
                    obtain ⟨ad1, rfl, x4⟩ := texts_cell (H2.out.below HBYW.out) m y hy
                    have HY := Lib.hid hy
                    clear hml hy
                    by_cases he : y = x
                    · subst he
                      have HC2 := Lib.hid (HCOM.out.more c3 hjm HX.out HY.out)
                      go_wp2_with fail
                      go_quiet (fail)
                      go_wp2_with fail
                      go_quiet (fail)
                      go_wp2_with fail
                      go_roundw
                      case rel => exact ⟨n + 1, p + 1, m + 1, i + 1, by omega, by omega, by omega, by omega, by go_num, by go_num, by go_num, by go_num, HC2.out, by first | exact HBXY.out | exact below_drewN HBXY.out _⟩
                      case measure => simp [intOf]; omega
                    · have hne := toList_ne he
                      go_wp2_with fail
                      go_quiet (fail)
                      go_wp2_with fail
                      go_roundw
                      case rel => exact ⟨m + 1, by omega, by omega, by go_num, by first | exact HBY.out | exact below_drewN HBY.out _⟩
                      case measure => simp [intOf]; omega
                  · obtain rfl : m = lb := by omega
                    have g1 : ¬ (m : Int) < (m : Int) := by omega
                    have e1 : decide ((m : Int) < (m : Int)) = false := decide_eq_false g1
                    go_wp2_with fail
                    go_quiet (fail)
                    go_wp2_with fail
                    go_roundw
                    case rel => exact ⟨n, k, j, i + 1, by omega, hk, hj, by omega, rfl, rfl, rfl, by go_num, HCOM.out, by first | exact HBXY.out | exact below_drewN HBXY.out _⟩
                    case measure => simp [intOf]; omega
          · obtain rfl : i = lz := by omega
            have hnl := HCOM.out.le
            rw [← HPL.out] at hnl
            have g1 : (n : Int) ≤ (lr : Int) := by omega
            go_wp2_with fail
            refine (HMT2.out wx HBXW.out).mono ?_
            rintro e w5 ⟨A5, c5, rfl, hb5⟩
            have HB5 := Lib.hid (HBXW.out.trans (hb5.mono HBXW.out.size))
            clear hb5
            go_wp2_with fail
            refine (first_any w5).mono ?_
            rintro e w6 ⟨rfl, hb6⟩
            have HB6 := Lib.hid (HB5.out.trans (hb6.mono HB5.out.size))
            clear hb6
            go_wp2_with fail
            go_ret
            exact ⟨rfl, HB6.out⟩
theorem linesLongest_walk (a0 : Option Addr) (len0 cap0 : Nat) (z0 : List ByteArray) (a1 : Option Addr) (len1 cap1 : Nat) (z1 : List ByteArray) (a2 : Option Addr) (len2 cap2 : Nat) (z2 : List Int) (w : World) (w0 : IsTexts w a0 len0 cap0 z0) (w1 : IsTexts w a1 len1 cap1 z1) (w2 : IsRow .i64 w a2 len2 cap2 z2) :
    Calls Try.prog 7 #[.slice a0 len0 cap0, .slice a1 len1 cap1, .slice a2 len2 cap2] w (Yes w) := by
  obtain ⟨a, ha, h1, m1⟩ := w0.slv
  obtain ⟨b, hb, h2, m2⟩ := w1.slv
  obtain ⟨z, hz, h3, m3⟩ := w2.ints
  exact longest_in _ _ _ a b z w h1 h2 h3 m1 m2 m3
end Go.Proofs.Ytchoklhadnoidaa.Ln
