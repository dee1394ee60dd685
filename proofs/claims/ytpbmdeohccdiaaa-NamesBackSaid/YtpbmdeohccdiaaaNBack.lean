/- The walk of NamesBack. -/
import Derived.Test.YtpbmdeohccdiaaaNm3
import Derived.Test.YtpbmdeohccdiaaaTq1
namespace Go.Proofs.Ytpbmdeohccdiaaa.Tx
open Go.RowKit Go.Proofs.Ytpbmdeohccdiaaa.Sh

def sumTo (ls : List (List UInt8)) (i : Nat) : Nat := ((ls.take i).map List.length).sum
theorem sumTo_next {ls : List (List UInt8)} {i : Nat} (h : i < ls.length) : sumTo ls (i + 1) = sumTo ls i + ls[i].length := by
  unfold sumTo
  rw [List.take_succ_eq_append_getElem h, List.map_append, List.sum_append]
  simp
theorem sumTo_le {ls : List (List UInt8)} {b : Nat} (h : ∀ p ∈ ls, p.length ≤ b) : ∀ i, i ≤ ls.length → sumTo ls i ≤ b * i
  | 0, _ => by simp [sumTo]
  | i + 1, hi => by
    rw [sumTo_next (by omega)]
    have h1 := sumTo_le h i (by omega)
    have h2 := h ls[i] (List.getElem_mem (by omega))
    rw [Nat.mul_add]
    omega
def goodTo (ls : List (List UInt8)) (i : Nat) : Bool := decide (1 ≤ ls.length) && decide (ls.length ≤ 8) && (ls.take i).all nameB
theorem goodTo_next {ls : List (List UInt8)} {i : Nat} (h : i < ls.length) : goodTo ls (i + 1) = (goodTo ls i && nameB ls[i]) := by
  unfold goodTo
  rw [List.take_succ_eq_append_getElem h, List.all_append]
  simp [Bool.and_assoc]
/-- What the statement's numbers say of a list that is joined. -/
theorem good_join (ls : List (List UInt8)) : joinOk ls = (goodTo ls ls.length && decide (((ls.length : Int) - 1) + (sumTo ls ls.length : Nat) ≤ 200)) := by
  rw [joinOk_eq]
  unfold goodTo sumTo
  rw [List.take_length]
  cases ls with
  | nil => rfl
  | cons p r =>
    have h := joinL_length (g := 47) (l := p :: r) (by simp)
    congr 1
    rw [decide_eq_decide]
    omega

set_option maxRecDepth 100000 in
set_option maxHeartbeats 12800000 in
theorem back_in (v : Value) (ls : List (List UInt8)) (xs : List UInt8) (w : World) (h : SlV w v ((ls.map str).map sv)) (hsz : ∀ p ∈ ls, p.length ≤ maxLen) :
    Calls Try.prog 6 #[.string (str xs), v] w (Yes w) := by
  have H := Lib.hid h
  obtain ⟨A, c, rfl, hlc, hcm, _⟩ := h.len
  rw [List.length_map, List.length_map] at hlc H ⊢
  unfold maxLen at hcm
  obtain ⟨n, hN⟩ : ∃ n, ls.length = n := ⟨_, rfl⟩
  rw [hN] at hlc H ⊢
  have HN := Lib.hid hN
  have HSZ := Lib.hid hsz
  have z1 := str_size xs
  obtain ⟨l1, hl1⟩ : ∃ l, xs.length = l := ⟨_, rfl⟩
  rw [hl1] at z1
  have HL1 := Lib.hid hl1
  clear h hsz hl1 hN
  by_cases hbig : 1000 < l1
  · have g1 : (1000 : Int) < (l1 : Int) := by omega
    go_enter Try.func6, Try.ntmps6
    go_wp2_with fail
    refine (first_then (Below.refl _ _)).mono ?_
    rintro e w1 ⟨rfl, hb1⟩
    have HB1 := Lib.hid hb1
    clear hb1
    go_wp2_with fail
    refine (first_then HB1.out).mono ?_
    rintro e w2 ⟨rfl, hb2⟩
    have HB2 := Lib.hid hb2
    clear hb2
    go_wp2_with fail
    go_ret
    exact ⟨rfl, HB2.out⟩
  · have g1 : (l1 : Int) ≤ 1000 := by omega
    have HX1 : Hid (xs.length ≤ 1000000) := by unfold Hid; rw [HL1.out]; omega
    go_enter Try.func6, Try.ntmps6
    go_wp2_with fail
    refine (first_then (Below.refl _ _)).mono ?_
    rintro e w1 ⟨rfl, hb1⟩
    have HB1 := Lib.hid hb1
    clear hb1
    go_wp2_with fail
    refine (few_any (.slice A n c) ls _ (H.out.below HB1.out) HSZ.out).mono ?_
    rintro e w2 ⟨t, rfl, ht, rfl⟩
    have HT := Lib.hid ht
    clear ht
    cases t with
    | false =>
      go_wp2_with fail
      refine (first_then HB1.out).mono ?_
      rintro e w2 ⟨rfl, hb2⟩
      have HB2 := Lib.hid hb2
      clear hb2
      go_wp2_with fail
      go_ret
      exact ⟨rfl, HB2.out⟩
    | true =>
      have hfew := HT.out rfl
      have HFW := Lib.hid hfew
      have HNN : Hid (ls.length ≤ 1000000 ∧ ∀ p ∈ ls, p.length ≤ 1000000) := ⟨by omega, fun p hp => by have := hfew.2 p hp; omega⟩
      have n100 : n ≤ 100 := by rw [← HN.out]; exact hfew.1
      have n0 : (0 : Int) ≤ (n : Int) := by omega
      have n1 : (n : Int) ≤ 100 := by omega
      clear hfew
      go_wp2_with fail
      refine (nsplit_any xs _ HX1.out).mono ?_
      rintro e w3 ⟨v3, rfl, ho3, hb3⟩
      obtain ⟨Ap, cp, rfl, hpc, hpm⟩ := ho3.length
      obtain ⟨m, hM⟩ : ∃ m, (namesL xs).length = m := ⟨_, rfl⟩
      rw [List.length_map, List.length_map, hM] at ho3 hpc ⊢
      have hm2 : m ≤ 1001 := by have h1 := namesL_few xs; have h2 := HL1.out; omega
      unfold maxLen at hpm
      have HM := Lib.hid hM
      have HO3 := Lib.hid (ho3.base HB1.out.size)
      have HB3 := Lib.hid (HB1.out.trans (hb3.mono HB1.out.size))
      clear ho3 hb3 HB1 hM
      go_wp2_with fail
      refine (npath_any xs _ HX1.out).mono ?_
      rintro e w4 ⟨rfl, hb4⟩
      have HO4 := Lib.hid (HO3.out.below hb4)
      have HB4 := Lib.hid (HB3.out.trans (hb4.mono HB3.out.size))
      clear hb4 HB3 HO3
      obtain ⟨t, ht⟩ : ∃ t, pathB xs = t := ⟨_, rfl⟩
      rw [ht]
      have HP := Lib.hid ht
      clear ht
      cases t with
      | false =>
        have hm0 : m = 0 := by
          rw [← HM.out]
          unfold namesL
          rw [if_neg (by rw [HP.out]; decide)]
          rfl
        subst hm0
        obtain ⟨wo, hwo⟩ : ∃ wo, wo = w4 := ⟨_, rfl⟩
        subst hwo
        have HBW := HB4
        clear HB4 HO4
        have hg0 : goodTo ls 0 = (decide (1 ≤ n) && decide (n ≤ 8)) := by unfold goodTo; rw [HN.out]; simp
        have HG0 := Lib.hid hg0
        clear hg0
        have hc3 : n = 0 ∨ (1 ≤ n ∧ n ≤ 8) ∨ 8 < n := by omega
        obtain ⟨gb, hgb, hgc⟩ : ∃ gb : Bool, goodTo ls 0 = gb ∧ ((n = 0 ∧ gb = false) ∨ ((1 : Int) ≤ (n : Int) ∧ (n : Int) ≤ 8 ∧ gb = true) ∨ ((8 : Int) < (n : Int) ∧ (1 : Int) ≤ (n : Int) ∧ gb = false)) := by
          refine ⟨_, rfl, ?_⟩
          rw [HG0.out]
          rcases hc3 with e | ⟨e1, e2⟩ | e
          · left; exact ⟨e, by simp [e]⟩
          · right; left; exact ⟨by omega, by omega, by simp [e1, e2]⟩
          · right; right; exact ⟨by omega, by omega, by simp; omega⟩
        have HGB := Lib.hid hgb
        clear hgb hc3
        rcases hgc with ⟨e1, rfl⟩ | ⟨e1, e2, rfl⟩ | ⟨e1, e2, rfl⟩
        · subst e1
          go_wp2_with fail
          go_loopw [9, 10, 11] (fun nn gg i wr => ∃ k : Nat, k ≤ 0 ∧ i = .int .i64 k ∧ nn = .int .i64 (((0 : Nat) : Int) - 1 + (sumTo ls k : Nat)) ∧ gg = .bool (goodTo ls k) ∧ Below w.heap.size w wr) (fun _ _ i _ => 0 - (intOf i).toNat)
          case atStart => exact ⟨0, Nat.zero_le _, rfl, by first | rfl | (simp [sumTo]; done) | (simp [sumTo]; rfl), by first | (rw [HGB.out]; done) | (rw [HGB.out]; simp; omega), HBW.out⟩
          case round =>
            clear HBW
            obtain ⟨k, hk, rfl, rfl, rfl, hb⟩ := hrel
            have HB := Lib.hid hb
            clear hb
            have k0 : (0 : Int) ≤ (k : Int) := by omega
            have hs := sumTo_le (b := 5000) HFW.out.2 k (by rw [HN.out]; exact hk)
            have hs5 : sumTo ls k ≤ 500000 := by have : 5000 * k ≤ 500000 := by omega
                                                 omega
            obtain ⟨S, hS⟩ : ∃ S, sumTo ls k = S := ⟨_, rfl⟩
            obtain ⟨gk, hgk⟩ : ∃ gk, goodTo ls k = gk := ⟨_, rfl⟩
            rw [hS] at hs5 ⊢
            rw [hgk]
            have HS := Lib.hid hS
            have HGK := Lib.hid hgk
            have s0 : (0 : Int) ≤ (S : Int) := by omega
            have s1 : (S : Int) ≤ 500000 := by omega
            clear hS hgk hs
            by_cases hlt : k < 0
            · omega
            · obtain rfl : k = 0 := by omega
              have hgf : gk = false := by rw [← HGK.out]; exact HGB.out
              subst hgf
              have hgj := good_join ls
              rw [HN.out, HGK.out, HS.out] at hgj
              obtain ⟨o, ho⟩ : ∃ o, joinOk ls = o := ⟨_, rfl⟩
              rw [ho] at hgj
              have HGJ := Lib.hid hgj
              have HOK := Lib.hid ho
              clear ho hgj
              go_wp2_with fail
              refine (njoin_any _ ls _ (H.out.below HB.out) HNN.out.1 HNN.out.2).mono ?_
              rintro e9 w9 ⟨rfl, hb9⟩
              have HB9 := Lib.hid (HB.out.trans (hb9.mono HB.out.size))
              clear hb9 HB
              cases o with
              | false =>
                have HJN := Lib.hid (joined_no HOK.out)
                rw [HJN.out.1, HJN.out.2]
                rw [show str [] = (⟨#[]⟩ : ByteArray) from rfl]
                all_goals
                  go_wp2_with fail
                  refine (first_then HB9.out).mono ?_
                  rintro e10 w10 ⟨rfl, hb10⟩
                  have HB10 := Lib.hid hb10
                  clear hb10
                  go_wp2_with fail
                  go_ret
                  exact ⟨rfl, HB10.out⟩
              | true =>
                have h9 := HGJ.out
                simp at h9
        · go_wp2_with fail
          go_loopw [9, 10, 11] (fun nn gg i wr => ∃ k : Nat, k ≤ n ∧ i = .int .i64 k ∧ nn = .int .i64 ((n : Int) - 1 + (sumTo ls k : Nat)) ∧ gg = .bool (goodTo ls k) ∧ Below w.heap.size w wr) (fun _ _ i _ => n - (intOf i).toNat)
          case atStart => exact ⟨0, Nat.zero_le _, rfl, by first | rfl | (simp [sumTo]; done) | (simp [sumTo]; rfl), by first | (rw [HGB.out]; done) | (rw [HGB.out]; simp; omega), HBW.out⟩
          case round =>
            clear HBW
            obtain ⟨k, hk, rfl, rfl, rfl, hb⟩ := hrel
            have HB := Lib.hid hb
            clear hb
            have k0 : (0 : Int) ≤ (k : Int) := by omega
            have hs := sumTo_le (b := 5000) HFW.out.2 k (by rw [HN.out]; exact hk)
            have hs5 : sumTo ls k ≤ 500000 := by have : 5000 * k ≤ 500000 := by omega
                                                 omega
            obtain ⟨S, hS⟩ : ∃ S, sumTo ls k = S := ⟨_, rfl⟩
            obtain ⟨gk, hgk⟩ : ∃ gk, goodTo ls k = gk := ⟨_, rfl⟩
            rw [hS] at hs5 ⊢
            rw [hgk]
            have HS := Lib.hid hS
            have HGK := Lib.hid hgk
            have s0 : (0 : Int) ≤ (S : Int) := by omega
            have s1 : (S : Int) ≤ 500000 := by omega
            clear hS hgk hs
            by_cases hlt : k < n
            · have k1 : (k : Int) < (n : Int) := by omega
              have hkl : k < ls.length := by rw [HN.out]; exact hlt
              obtain ⟨_, _, hve, _, _, hR⟩ := (H.out.below HB.out).len
              injection hve with q1 q2 q3
              subst q1
              obtain ⟨ad, hA, hcell⟩ := reads_at hR k (sv (str ls[k])) (by rw [List.map_map, List.getElem?_map, List.getElem?_eq_getElem hkl]; rfl)
              have hcell' : wr.cell? (ad.add k) = some (.string (str ls[k])) := hcell
              subst hA
              have hsn := sumTo_next hkl
              have hgn := goodTo_next hkl
              have hpl := HFW.out.2 ls[k] (List.getElem_mem hkl)
              have hpz := str_size ls[k]
              obtain ⟨p, hp⟩ : ∃ p, ls[k] = p := ⟨_, rfl⟩
              rw [hp] at hcell' hsn hgn hpl hpz
              obtain ⟨lp, hlp⟩ : ∃ lp, p.length = lp := ⟨_, rfl⟩
              rw [hlp] at hsn hpl hpz
              rw [HS.out] at hsn
              rw [HGK.out] at hgn
              have HSN := Lib.hid hsn
              have HGN := Lib.hid hgn
              have HLP := Lib.hid hlp
              have p0 : (0 : Int) ≤ (lp : Int) := by omega
              have p1 : (lp : Int) ≤ 5000 := by omega
              clear hsn hgn hp hlp hcell hR q2 q3
              cases gk with
              | false =>
                go_wp2_with fail
                go_roundw
                case rel => exact ⟨k + 1, by omega, by go_num, by rw [HSN.out]; congr 1; omega, by rw [HGN.out]; rfl, HB.out⟩
                case measure => simp [intOf]; omega
              | true =>
                go_wp2_with fail
                refine (nname_any p _ (by rw [HLP.out]; omega)).mono ?_
                rintro e9 w9 ⟨rfl, hb9⟩
                have HB9 := Lib.hid (HB.out.trans (hb9.mono HB.out.size))
                obtain ⟨tp, htp⟩ : ∃ tp, nameB p = tp := ⟨_, rfl⟩
                rw [htp]
                have HTP := Lib.hid htp
                clear htp hb9 HB
                go_wp2_with fail
                go_roundw
                case rel => exact ⟨k + 1, by omega, by go_num, by rw [HSN.out]; congr 1; omega, by rw [HGN.out, HTP.out]; rfl, HB9.out⟩
                case measure => simp [intOf]; omega
            · obtain rfl : k = n := by omega
              have hgj := good_join ls
              rw [HN.out, HGK.out, HS.out] at hgj
              obtain ⟨o, ho⟩ : ∃ o, joinOk ls = o := ⟨_, rfl⟩
              rw [ho] at hgj
              have HGJ := Lib.hid hgj
              have HOK := Lib.hid ho
              clear ho hgj
              go_wp2_with fail
              refine (njoin_any _ ls _ (H.out.below HB.out) HNN.out.1 HNN.out.2).mono ?_
              rintro e9 w9 ⟨rfl, hb9⟩
              have HB9 := Lib.hid (HB.out.trans (hb9.mono HB.out.size))
              clear hb9 HB
              cases o with
              | false =>
                have HJN := Lib.hid (joined_no HOK.out)
                rw [HJN.out.1, HJN.out.2]
                have hcs : gk = false ∨ (gk = true ∧ (200 : Int) < (k : Int) - 1 + (S : Int)) := by
                  have h9 := HGJ.out
                  cases gk
                  · exact .inl rfl
                  · right
                    simp at h9
                    exact ⟨rfl, by omega⟩
                rw [show str [] = (⟨#[]⟩ : ByteArray) from rfl]
                rcases hcs with rfl | ⟨rfl, hcs⟩
                all_goals
                  go_wp2_with fail
                  refine (first_then HB9.out).mono ?_
                  rintro e10 w10 ⟨rfl, hb10⟩
                  have HB10 := Lib.hid hb10
                  clear hb10
                  go_wp2_with fail
                  go_ret
                  exact ⟨rfl, HB10.out⟩
              | true =>
                have HJY := Lib.hid (joined_yes HOK.out)
                have HJS := Lib.hid (joined_split HOK.out)
                have hcs : gk = true ∧ (k : Int) - 1 + (S : Int) ≤ 200 := by
                  have h9 := HGJ.out
                  cases gk
                  · simp at h9
                  · simp at h9
                    exact ⟨rfl, by omega⟩
                obtain ⟨rfl, hcs⟩ := hcs
                have hjl : (joinT ls).length ≤ 1000000 := by have := pathB_len HJS.out.1; omega
                have HJL := Lib.hid hjl
                rw [HJY.out.2]
                obtain ⟨js, hjs⟩ : ∃ js, joinT ls = js := ⟨_, rfl⟩
                rw [hjs] at HJS HJL ⊢
                clear hjs hjl
                go_wp2_with fail
                refine (first_then HB9.out).mono ?_
                rintro e10 w10 ⟨rfl, hb10⟩
                have HB10 := Lib.hid hb10
                clear hb10 HB9
                go_wp2_with fail
                refine (npath_any js _ HJL.out).mono ?_
                rintro e11 w11 ⟨rfl, hb11⟩
                rw [HJS.out.1]
                have HB11 := Lib.hid (HB10.out.trans (hb11.mono HB10.out.size))
                clear hb11 HB10
                go_wp2_with fail
                refine (nsplit_any js _ HJL.out).mono ?_
                rintro e12 w12 ⟨v12, rfl, ho12, hb12⟩
                rw [HJS.out.2] at ho12
                have HO12 := Lib.hid ho12
                have HB12 := Lib.hid (HB11.out.trans (hb12.mono HB11.out.size))
                clear ho12 hb12 HB11
                go_wp2_with fail
                refine (texts_same v12 _ _ _ HO12.out.slv (H.out.below HB12.out)).mono ?_
                rintro e13 w13 ⟨rfl, hb13⟩
                have HB13 := Lib.hid (HB12.out.trans (hb13.mono HB12.out.size))
                clear hb13 HB12
                go_wp2_with fail
                go_ret
                exact ⟨rfl, HB13.out⟩
        · go_wp2_with fail
          go_loopw [9, 10, 11] (fun nn gg i wr => ∃ k : Nat, k ≤ n ∧ i = .int .i64 k ∧ nn = .int .i64 ((n : Int) - 1 + (sumTo ls k : Nat)) ∧ gg = .bool (goodTo ls k) ∧ Below w.heap.size w wr) (fun _ _ i _ => n - (intOf i).toNat)
          case atStart => exact ⟨0, Nat.zero_le _, rfl, by first | rfl | (simp [sumTo]; done) | (simp [sumTo]; rfl), by first | (rw [HGB.out]; done) | (rw [HGB.out]; simp; omega), HBW.out⟩
          case round =>
            clear HBW
            obtain ⟨k, hk, rfl, rfl, rfl, hb⟩ := hrel
            have HB := Lib.hid hb
            clear hb
            have k0 : (0 : Int) ≤ (k : Int) := by omega
            have hs := sumTo_le (b := 5000) HFW.out.2 k (by rw [HN.out]; exact hk)
            have hs5 : sumTo ls k ≤ 500000 := by have : 5000 * k ≤ 500000 := by omega
                                                 omega
            obtain ⟨S, hS⟩ : ∃ S, sumTo ls k = S := ⟨_, rfl⟩
            obtain ⟨gk, hgk⟩ : ∃ gk, goodTo ls k = gk := ⟨_, rfl⟩
            rw [hS] at hs5 ⊢
            rw [hgk]
            have HS := Lib.hid hS
            have HGK := Lib.hid hgk
            have s0 : (0 : Int) ≤ (S : Int) := by omega
            have s1 : (S : Int) ≤ 500000 := by omega
            clear hS hgk hs
            by_cases hlt : k < n
            · have k1 : (k : Int) < (n : Int) := by omega
              have hkl : k < ls.length := by rw [HN.out]; exact hlt
              obtain ⟨_, _, hve, _, _, hR⟩ := (H.out.below HB.out).len
              injection hve with q1 q2 q3
              subst q1
              obtain ⟨ad, hA, hcell⟩ := reads_at hR k (sv (str ls[k])) (by rw [List.map_map, List.getElem?_map, List.getElem?_eq_getElem hkl]; rfl)
              have hcell' : wr.cell? (ad.add k) = some (.string (str ls[k])) := hcell
              subst hA
              have hsn := sumTo_next hkl
              have hgn := goodTo_next hkl
              have hpl := HFW.out.2 ls[k] (List.getElem_mem hkl)
              have hpz := str_size ls[k]
              obtain ⟨p, hp⟩ : ∃ p, ls[k] = p := ⟨_, rfl⟩
              rw [hp] at hcell' hsn hgn hpl hpz
              obtain ⟨lp, hlp⟩ : ∃ lp, p.length = lp := ⟨_, rfl⟩
              rw [hlp] at hsn hpl hpz
              rw [HS.out] at hsn
              rw [HGK.out] at hgn
              have HSN := Lib.hid hsn
              have HGN := Lib.hid hgn
              have HLP := Lib.hid hlp
              have p0 : (0 : Int) ≤ (lp : Int) := by omega
              have p1 : (lp : Int) ≤ 5000 := by omega
              clear hsn hgn hp hlp hcell hR q2 q3
              cases gk with
              | false =>
                go_wp2_with fail
                go_roundw
                case rel => exact ⟨k + 1, by omega, by go_num, by rw [HSN.out]; congr 1; omega, by rw [HGN.out]; rfl, HB.out⟩
                case measure => simp [intOf]; omega
              | true =>
                go_wp2_with fail
                refine (nname_any p _ (by rw [HLP.out]; omega)).mono ?_
                rintro e9 w9 ⟨rfl, hb9⟩
                have HB9 := Lib.hid (HB.out.trans (hb9.mono HB.out.size))
                obtain ⟨tp, htp⟩ : ∃ tp, nameB p = tp := ⟨_, rfl⟩
                rw [htp]
                have HTP := Lib.hid htp
                clear htp hb9 HB
                go_wp2_with fail
                go_roundw
                case rel => exact ⟨k + 1, by omega, by go_num, by rw [HSN.out]; congr 1; omega, by rw [HGN.out, HTP.out]; rfl, HB9.out⟩
                case measure => simp [intOf]; omega
            · obtain rfl : k = n := by omega
              have hgj := good_join ls
              rw [HN.out, HGK.out, HS.out] at hgj
              obtain ⟨o, ho⟩ : ∃ o, joinOk ls = o := ⟨_, rfl⟩
              rw [ho] at hgj
              have HGJ := Lib.hid hgj
              have HOK := Lib.hid ho
              clear ho hgj
              go_wp2_with fail
              refine (njoin_any _ ls _ (H.out.below HB.out) HNN.out.1 HNN.out.2).mono ?_
              rintro e9 w9 ⟨rfl, hb9⟩
              have HB9 := Lib.hid (HB.out.trans (hb9.mono HB.out.size))
              clear hb9 HB
              cases o with
              | false =>
                have HJN := Lib.hid (joined_no HOK.out)
                rw [HJN.out.1, HJN.out.2]
                have hcs : gk = false ∨ (gk = true ∧ (200 : Int) < (k : Int) - 1 + (S : Int)) := by
                  have h9 := HGJ.out
                  cases gk
                  · exact .inl rfl
                  · right
                    simp at h9
                    exact ⟨rfl, by omega⟩
                rw [show str [] = (⟨#[]⟩ : ByteArray) from rfl]
                rcases hcs with rfl | ⟨rfl, hcs⟩
                all_goals
                  go_wp2_with fail
                  refine (first_then HB9.out).mono ?_
                  rintro e10 w10 ⟨rfl, hb10⟩
                  have HB10 := Lib.hid hb10
                  clear hb10
                  go_wp2_with fail
                  go_ret
                  exact ⟨rfl, HB10.out⟩
              | true =>
                have HJY := Lib.hid (joined_yes HOK.out)
                have HJS := Lib.hid (joined_split HOK.out)
                have hcs : gk = true ∧ (k : Int) - 1 + (S : Int) ≤ 200 := by
                  have h9 := HGJ.out
                  cases gk
                  · simp at h9
                  · simp at h9
                    exact ⟨rfl, by omega⟩
                obtain ⟨rfl, hcs⟩ := hcs
                have hjl : (joinT ls).length ≤ 1000000 := by have := pathB_len HJS.out.1; omega
                have HJL := Lib.hid hjl
                rw [HJY.out.2]
                obtain ⟨js, hjs⟩ : ∃ js, joinT ls = js := ⟨_, rfl⟩
                rw [hjs] at HJS HJL ⊢
                clear hjs hjl
                go_wp2_with fail
                refine (first_then HB9.out).mono ?_
                rintro e10 w10 ⟨rfl, hb10⟩
                have HB10 := Lib.hid hb10
                clear hb10 HB9
                go_wp2_with fail
                refine (npath_any js _ HJL.out).mono ?_
                rintro e11 w11 ⟨rfl, hb11⟩
                rw [HJS.out.1]
                have HB11 := Lib.hid (HB10.out.trans (hb11.mono HB10.out.size))
                clear hb11 HB10
                go_wp2_with fail
                refine (nsplit_any js _ HJL.out).mono ?_
                rintro e12 w12 ⟨v12, rfl, ho12, hb12⟩
                rw [HJS.out.2] at ho12
                have HO12 := Lib.hid ho12
                have HB12 := Lib.hid (HB11.out.trans (hb12.mono HB11.out.size))
                clear ho12 hb12 HB11
                go_wp2_with fail
                refine (texts_same v12 _ _ _ HO12.out.slv (H.out.below HB12.out)).mono ?_
                rintro e13 w13 ⟨rfl, hb13⟩
                have HB13 := Lib.hid (HB12.out.trans (hb13.mono HB12.out.size))
                clear hb13 HB12
                go_wp2_with fail
                go_ret
                exact ⟨rfl, HB13.out⟩
      | true =>
        have hna : namesL xs = splitL 47 xs := by unfold namesL; rw [if_pos HP.out]
        have HNA := Lib.hid hna
        have hj := join_split HP.out
        have HJ := Lib.hid hj
        clear hna hj
        have hps : SlV w4 (.slice Ap m cp) (((splitL 47 xs).map str).map sv) := by rw [← HNA.out]; exact HO4.out.slv
        have HPS := Lib.hid hps
        clear hps
        have hpl : ∀ p ∈ splitL 47 xs, p.length ≤ 1000000 := fun p hp => by have h1 := piece_len hp; have h2 := HX1.out; omega
        have hpn : (splitL 47 xs).length ≤ 1000000 := by rw [← HNA.out, HM.out]; omega
        have HPL := Lib.hid (⟨hpl, hpn⟩ : _ ∧ _)
        clear hpl hpn
        go_wp2_with fail
        refine (njoin_any _ (splitL 47 xs) _ HPS.out HPL.out.2 HPL.out.1).mono ?_
        rintro e w5 ⟨rfl, hb5⟩
        rw [HJ.out.1, HJ.out.2]
        have HO5 := Lib.hid (HO4.out.below hb5)
        have HB5 := Lib.hid (HB4.out.trans (hb5.mono HB4.out.size))
        clear hb5 HB4 HO4 HPS
        have e1 : ((str xs).toList == (str xs).toList) = true := beq_self_eq_true _
        have e2 : ((str xs).toList != (str xs).toList) = false := by simp
        go_wp2_with fail
        clear e1 e2
        go_loopw [8] (fun i wr => ∃ k : Nat, k ≤ m ∧ i = .int .i64 k ∧ OwnV 9 wr w.heap.size (.slice Ap m cp) (((namesL xs).map str).map sv) ∧ Below w.heap.size w wr) (fun i _ => m - (intOf i).toNat)
        case atStart => exact ⟨0, Nat.zero_le _, rfl, HO5.out, HB5.out⟩
        case round =>
          clear HO5 HB5
          obtain ⟨k, hk, rfl, ho, hb⟩ := hrel
          have HO := Lib.hid ho
          have HB := Lib.hid hb
          clear ho hb
          have k0 : (0 : Int) ≤ (k : Int) := by omega
          by_cases hlt : k < m
          · have k1 : (k : Int) < (m : Int) := by omega
            have hkp : k < (namesL xs).length := by rw [HM.out]; exact hlt
            obtain ⟨ad, rfl, hcell⟩ := piece_at HO.out k hkp
            have hmem : (namesL xs)[k] ∈ splitL 47 xs := by rw [← HNA.out]; exact List.getElem_mem hkp
            obtain ⟨p, hp⟩ : ∃ p, (namesL xs)[k] = p := ⟨_, rfl⟩
            rw [hp] at hcell hmem
            have hnb : nameB p = true := ((pathB_iff xs).1 HP.out).2.1 p hmem
            have HNB := Lib.hid hnb
            have hpl := HPL.out.1 p hmem
            clear hp hmem hnb
            go_wp2_with fail
            refine (nname_any p _ hpl).mono ?_
            rintro e w6 ⟨rfl, hb6⟩
            rw [HNB.out]
            have HO6 := Lib.hid (HO.out.below hb6)
            have HB6 := Lib.hid (HB.out.trans (hb6.mono HB.out.size))
            clear hb6 HO HB
            go_wp2
            go_roundw
            case rel => exact ⟨k + 1, by omega, by go_num, HO6.out, HB6.out⟩
            case measure => simp [intOf]; omega
          · obtain rfl : k = m := by omega
            obtain ⟨wo, hwo⟩ : ∃ wo, wo = wr := ⟨_, rfl⟩
            subst hwo
            have HBW := HB
            clear HB HO
            have hg0 : goodTo ls 0 = (decide (1 ≤ n) && decide (n ≤ 8)) := by unfold goodTo; rw [HN.out]; simp
            have HG0 := Lib.hid hg0
            clear hg0
            have hc3 : n = 0 ∨ (1 ≤ n ∧ n ≤ 8) ∨ 8 < n := by omega
            obtain ⟨gb, hgb, hgc⟩ : ∃ gb : Bool, goodTo ls 0 = gb ∧ ((n = 0 ∧ gb = false) ∨ ((1 : Int) ≤ (n : Int) ∧ (n : Int) ≤ 8 ∧ gb = true) ∨ ((8 : Int) < (n : Int) ∧ (1 : Int) ≤ (n : Int) ∧ gb = false)) := by
              refine ⟨_, rfl, ?_⟩
              rw [HG0.out]
              rcases hc3 with e | ⟨e1, e2⟩ | e
              · left; exact ⟨e, by simp [e]⟩
              · right; left; exact ⟨by omega, by omega, by simp [e1, e2]⟩
              · right; right; exact ⟨by omega, by omega, by simp; omega⟩
            have HGB := Lib.hid hgb
            clear hgb hc3
            rcases hgc with ⟨e1, rfl⟩ | ⟨e1, e2, rfl⟩ | ⟨e1, e2, rfl⟩
            · subst e1
              go_wp2_with fail
              go_loopw [9, 10, 11] (fun nn gg i wr => ∃ k : Nat, k ≤ 0 ∧ i = .int .i64 k ∧ nn = .int .i64 (((0 : Nat) : Int) - 1 + (sumTo ls k : Nat)) ∧ gg = .bool (goodTo ls k) ∧ Below w.heap.size w wr) (fun _ _ i _ => 0 - (intOf i).toNat)
              case atStart => exact ⟨0, Nat.zero_le _, rfl, by first | rfl | (simp [sumTo]; done) | (simp [sumTo]; rfl), by first | (rw [HGB.out]; done) | (rw [HGB.out]; simp; omega), HBW.out⟩
              case round =>
                clear HBW
                obtain ⟨k, hk, rfl, rfl, rfl, hb⟩ := hrel
                have HB := Lib.hid hb
                clear hb
                have k0 : (0 : Int) ≤ (k : Int) := by omega
                have hs := sumTo_le (b := 5000) HFW.out.2 k (by rw [HN.out]; exact hk)
                have hs5 : sumTo ls k ≤ 500000 := by have : 5000 * k ≤ 500000 := by omega
                                                     omega
                obtain ⟨S, hS⟩ : ∃ S, sumTo ls k = S := ⟨_, rfl⟩
                obtain ⟨gk, hgk⟩ : ∃ gk, goodTo ls k = gk := ⟨_, rfl⟩
                rw [hS] at hs5 ⊢
                rw [hgk]
                have HS := Lib.hid hS
                have HGK := Lib.hid hgk
                have s0 : (0 : Int) ≤ (S : Int) := by omega
                have s1 : (S : Int) ≤ 500000 := by omega
                clear hS hgk hs
                by_cases hlt : k < 0
                · omega
                · obtain rfl : k = 0 := by omega
                  have hgf : gk = false := by rw [← HGK.out]; exact HGB.out
                  subst hgf
                  have hgj := good_join ls
                  rw [HN.out, HGK.out, HS.out] at hgj
                  obtain ⟨o, ho⟩ : ∃ o, joinOk ls = o := ⟨_, rfl⟩
                  rw [ho] at hgj
                  have HGJ := Lib.hid hgj
                  have HOK := Lib.hid ho
                  clear ho hgj
                  go_wp2_with fail
                  refine (njoin_any _ ls _ (H.out.below HB.out) HNN.out.1 HNN.out.2).mono ?_
                  rintro e9 w9 ⟨rfl, hb9⟩
                  have HB9 := Lib.hid (HB.out.trans (hb9.mono HB.out.size))
                  clear hb9 HB
                  cases o with
                  | false =>
                    have HJN := Lib.hid (joined_no HOK.out)
                    rw [HJN.out.1, HJN.out.2]
                    rw [show str [] = (⟨#[]⟩ : ByteArray) from rfl]
                    all_goals
                      go_wp2_with fail
                      refine (first_then HB9.out).mono ?_
                      rintro e10 w10 ⟨rfl, hb10⟩
                      have HB10 := Lib.hid hb10
                      clear hb10
                      go_wp2_with fail
                      go_ret
                      exact ⟨rfl, HB10.out⟩
                  | true =>
                    have h9 := HGJ.out
                    simp at h9
            · go_wp2_with fail
              go_loopw [9, 10, 11] (fun nn gg i wr => ∃ k : Nat, k ≤ n ∧ i = .int .i64 k ∧ nn = .int .i64 ((n : Int) - 1 + (sumTo ls k : Nat)) ∧ gg = .bool (goodTo ls k) ∧ Below w.heap.size w wr) (fun _ _ i _ => n - (intOf i).toNat)
              case atStart => exact ⟨0, Nat.zero_le _, rfl, by first | rfl | (simp [sumTo]; done) | (simp [sumTo]; rfl), by first | (rw [HGB.out]; done) | (rw [HGB.out]; simp; omega), HBW.out⟩
              case round =>
                clear HBW
                obtain ⟨k, hk, rfl, rfl, rfl, hb⟩ := hrel
                have HB := Lib.hid hb
                clear hb
                have k0 : (0 : Int) ≤ (k : Int) := by omega
                have hs := sumTo_le (b := 5000) HFW.out.2 k (by rw [HN.out]; exact hk)
                have hs5 : sumTo ls k ≤ 500000 := by have : 5000 * k ≤ 500000 := by omega
                                                     omega
                obtain ⟨S, hS⟩ : ∃ S, sumTo ls k = S := ⟨_, rfl⟩
                obtain ⟨gk, hgk⟩ : ∃ gk, goodTo ls k = gk := ⟨_, rfl⟩
                rw [hS] at hs5 ⊢
                rw [hgk]
                have HS := Lib.hid hS
                have HGK := Lib.hid hgk
                have s0 : (0 : Int) ≤ (S : Int) := by omega
                have s1 : (S : Int) ≤ 500000 := by omega
                clear hS hgk hs
                by_cases hlt : k < n
                · have k1 : (k : Int) < (n : Int) := by omega
                  have hkl : k < ls.length := by rw [HN.out]; exact hlt
                  obtain ⟨_, _, hve, _, _, hR⟩ := (H.out.below HB.out).len
                  injection hve with q1 q2 q3
                  subst q1
                  obtain ⟨ad, hA, hcell⟩ := reads_at hR k (sv (str ls[k])) (by rw [List.map_map, List.getElem?_map, List.getElem?_eq_getElem hkl]; rfl)
                  have hcell' : wr.cell? (ad.add k) = some (.string (str ls[k])) := hcell
                  subst hA
                  have hsn := sumTo_next hkl
                  have hgn := goodTo_next hkl
                  have hpl := HFW.out.2 ls[k] (List.getElem_mem hkl)
                  have hpz := str_size ls[k]
                  obtain ⟨p, hp⟩ : ∃ p, ls[k] = p := ⟨_, rfl⟩
                  rw [hp] at hcell' hsn hgn hpl hpz
                  obtain ⟨lp, hlp⟩ : ∃ lp, p.length = lp := ⟨_, rfl⟩
                  rw [hlp] at hsn hpl hpz
                  rw [HS.out] at hsn
                  rw [HGK.out] at hgn
                  have HSN := Lib.hid hsn
                  have HGN := Lib.hid hgn
                  have HLP := Lib.hid hlp
                  have p0 : (0 : Int) ≤ (lp : Int) := by omega
                  have p1 : (lp : Int) ≤ 5000 := by omega
                  clear hsn hgn hp hlp hcell hR q2 q3
                  cases gk with
                  | false =>
                    go_wp2_with fail
                    go_roundw
                    case rel => exact ⟨k + 1, by omega, by go_num, by rw [HSN.out]; congr 1; omega, by rw [HGN.out]; rfl, HB.out⟩
                    case measure => simp [intOf]; omega
                  | true =>
                    go_wp2_with fail
                    refine (nname_any p _ (by rw [HLP.out]; omega)).mono ?_
                    rintro e9 w9 ⟨rfl, hb9⟩
                    have HB9 := Lib.hid (HB.out.trans (hb9.mono HB.out.size))
                    obtain ⟨tp, htp⟩ : ∃ tp, nameB p = tp := ⟨_, rfl⟩
                    rw [htp]
                    have HTP := Lib.hid htp
                    clear htp hb9 HB
                    go_wp2_with fail
                    go_roundw
                    case rel => exact ⟨k + 1, by omega, by go_num, by rw [HSN.out]; congr 1; omega, by rw [HGN.out, HTP.out]; rfl, HB9.out⟩
                    case measure => simp [intOf]; omega
                · obtain rfl : k = n := by omega
                  have hgj := good_join ls
                  rw [HN.out, HGK.out, HS.out] at hgj
                  obtain ⟨o, ho⟩ : ∃ o, joinOk ls = o := ⟨_, rfl⟩
                  rw [ho] at hgj
                  have HGJ := Lib.hid hgj
                  have HOK := Lib.hid ho
                  clear ho hgj
                  go_wp2_with fail
                  refine (njoin_any _ ls _ (H.out.below HB.out) HNN.out.1 HNN.out.2).mono ?_
                  rintro e9 w9 ⟨rfl, hb9⟩
                  have HB9 := Lib.hid (HB.out.trans (hb9.mono HB.out.size))
                  clear hb9 HB
                  cases o with
                  | false =>
                    have HJN := Lib.hid (joined_no HOK.out)
                    rw [HJN.out.1, HJN.out.2]
                    have hcs : gk = false ∨ (gk = true ∧ (200 : Int) < (k : Int) - 1 + (S : Int)) := by
                      have h9 := HGJ.out
                      cases gk
                      · exact .inl rfl
                      · right
                        simp at h9
                        exact ⟨rfl, by omega⟩
                    rw [show str [] = (⟨#[]⟩ : ByteArray) from rfl]
                    rcases hcs with rfl | ⟨rfl, hcs⟩
                    all_goals
                      go_wp2_with fail
                      refine (first_then HB9.out).mono ?_
                      rintro e10 w10 ⟨rfl, hb10⟩
                      have HB10 := Lib.hid hb10
                      clear hb10
                      go_wp2_with fail
                      go_ret
                      exact ⟨rfl, HB10.out⟩
                  | true =>
                    have HJY := Lib.hid (joined_yes HOK.out)
                    have HJS := Lib.hid (joined_split HOK.out)
                    have hcs : gk = true ∧ (k : Int) - 1 + (S : Int) ≤ 200 := by
                      have h9 := HGJ.out
                      cases gk
                      · simp at h9
                      · simp at h9
                        exact ⟨rfl, by omega⟩
                    obtain ⟨rfl, hcs⟩ := hcs
                    have hjl : (joinT ls).length ≤ 1000000 := by have := pathB_len HJS.out.1; omega
                    have HJL := Lib.hid hjl
                    rw [HJY.out.2]
                    obtain ⟨js, hjs⟩ : ∃ js, joinT ls = js := ⟨_, rfl⟩
                    rw [hjs] at HJS HJL ⊢
                    clear hjs hjl
                    go_wp2_with fail
                    refine (first_then HB9.out).mono ?_
                    rintro e10 w10 ⟨rfl, hb10⟩
                    have HB10 := Lib.hid hb10
                    clear hb10 HB9
                    go_wp2_with fail
                    refine (npath_any js _ HJL.out).mono ?_
                    rintro e11 w11 ⟨rfl, hb11⟩
                    rw [HJS.out.1]
                    have HB11 := Lib.hid (HB10.out.trans (hb11.mono HB10.out.size))
                    clear hb11 HB10
                    go_wp2_with fail
                    refine (nsplit_any js _ HJL.out).mono ?_
                    rintro e12 w12 ⟨v12, rfl, ho12, hb12⟩
                    rw [HJS.out.2] at ho12
                    have HO12 := Lib.hid ho12
                    have HB12 := Lib.hid (HB11.out.trans (hb12.mono HB11.out.size))
                    clear ho12 hb12 HB11
                    go_wp2_with fail
                    refine (texts_same v12 _ _ _ HO12.out.slv (H.out.below HB12.out)).mono ?_
                    rintro e13 w13 ⟨rfl, hb13⟩
                    have HB13 := Lib.hid (HB12.out.trans (hb13.mono HB12.out.size))
                    clear hb13 HB12
                    go_wp2_with fail
                    go_ret
                    exact ⟨rfl, HB13.out⟩
            · go_wp2_with fail
              go_loopw [9, 10, 11] (fun nn gg i wr => ∃ k : Nat, k ≤ n ∧ i = .int .i64 k ∧ nn = .int .i64 ((n : Int) - 1 + (sumTo ls k : Nat)) ∧ gg = .bool (goodTo ls k) ∧ Below w.heap.size w wr) (fun _ _ i _ => n - (intOf i).toNat)
              case atStart => exact ⟨0, Nat.zero_le _, rfl, by first | rfl | (simp [sumTo]; done) | (simp [sumTo]; rfl), by first | (rw [HGB.out]; done) | (rw [HGB.out]; simp; omega), HBW.out⟩
              case round =>
                clear HBW
                obtain ⟨k, hk, rfl, rfl, rfl, hb⟩ := hrel
                have HB := Lib.hid hb
                clear hb
                have k0 : (0 : Int) ≤ (k : Int) := by omega
                have hs := sumTo_le (b := 5000) HFW.out.2 k (by rw [HN.out]; exact hk)
                have hs5 : sumTo ls k ≤ 500000 := by have : 5000 * k ≤ 500000 := by omega
                                                     omega
                obtain ⟨S, hS⟩ : ∃ S, sumTo ls k = S := ⟨_, rfl⟩
                obtain ⟨gk, hgk⟩ : ∃ gk, goodTo ls k = gk := ⟨_, rfl⟩
                rw [hS] at hs5 ⊢
                rw [hgk]
                have HS := Lib.hid hS
                have HGK := Lib.hid hgk
                have s0 : (0 : Int) ≤ (S : Int) := by omega
                have s1 : (S : Int) ≤ 500000 := by omega
                clear hS hgk hs
                by_cases hlt : k < n
                · have k1 : (k : Int) < (n : Int) := by omega
                  have hkl : k < ls.length := by rw [HN.out]; exact hlt
                  obtain ⟨_, _, hve, _, _, hR⟩ := (H.out.below HB.out).len
                  injection hve with q1 q2 q3
                  subst q1
                  obtain ⟨ad, hA, hcell⟩ := reads_at hR k (sv (str ls[k])) (by rw [List.map_map, List.getElem?_map, List.getElem?_eq_getElem hkl]; rfl)
                  have hcell' : wr.cell? (ad.add k) = some (.string (str ls[k])) := hcell
                  subst hA
                  have hsn := sumTo_next hkl
                  have hgn := goodTo_next hkl
                  have hpl := HFW.out.2 ls[k] (List.getElem_mem hkl)
                  have hpz := str_size ls[k]
                  obtain ⟨p, hp⟩ : ∃ p, ls[k] = p := ⟨_, rfl⟩
                  rw [hp] at hcell' hsn hgn hpl hpz
                  obtain ⟨lp, hlp⟩ : ∃ lp, p.length = lp := ⟨_, rfl⟩
                  rw [hlp] at hsn hpl hpz
                  rw [HS.out] at hsn
                  rw [HGK.out] at hgn
                  have HSN := Lib.hid hsn
                  have HGN := Lib.hid hgn
                  have HLP := Lib.hid hlp
                  have p0 : (0 : Int) ≤ (lp : Int) := by omega
                  have p1 : (lp : Int) ≤ 5000 := by omega
                  clear hsn hgn hp hlp hcell hR q2 q3
                  cases gk with
                  | false =>
                    go_wp2_with fail
                    go_roundw
                    case rel => exact ⟨k + 1, by omega, by go_num, by rw [HSN.out]; congr 1; omega, by rw [HGN.out]; rfl, HB.out⟩
                    case measure => simp [intOf]; omega
                  | true =>
                    go_wp2_with fail
                    refine (nname_any p _ (by rw [HLP.out]; omega)).mono ?_
                    rintro e9 w9 ⟨rfl, hb9⟩
                    have HB9 := Lib.hid (HB.out.trans (hb9.mono HB.out.size))
                    obtain ⟨tp, htp⟩ : ∃ tp, nameB p = tp := ⟨_, rfl⟩
                    rw [htp]
                    have HTP := Lib.hid htp
                    clear htp hb9 HB
                    go_wp2_with fail
                    go_roundw
                    case rel => exact ⟨k + 1, by omega, by go_num, by rw [HSN.out]; congr 1; omega, by rw [HGN.out, HTP.out]; rfl, HB9.out⟩
                    case measure => simp [intOf]; omega
                · obtain rfl : k = n := by omega
                  have hgj := good_join ls
                  rw [HN.out, HGK.out, HS.out] at hgj
                  obtain ⟨o, ho⟩ : ∃ o, joinOk ls = o := ⟨_, rfl⟩
                  rw [ho] at hgj
                  have HGJ := Lib.hid hgj
                  have HOK := Lib.hid ho
                  clear ho hgj
                  go_wp2_with fail
                  refine (njoin_any _ ls _ (H.out.below HB.out) HNN.out.1 HNN.out.2).mono ?_
                  rintro e9 w9 ⟨rfl, hb9⟩
                  have HB9 := Lib.hid (HB.out.trans (hb9.mono HB.out.size))
                  clear hb9 HB
                  cases o with
                  | false =>
                    have HJN := Lib.hid (joined_no HOK.out)
                    rw [HJN.out.1, HJN.out.2]
                    have hcs : gk = false ∨ (gk = true ∧ (200 : Int) < (k : Int) - 1 + (S : Int)) := by
                      have h9 := HGJ.out
                      cases gk
                      · exact .inl rfl
                      · right
                        simp at h9
                        exact ⟨rfl, by omega⟩
                    rw [show str [] = (⟨#[]⟩ : ByteArray) from rfl]
                    rcases hcs with rfl | ⟨rfl, hcs⟩
                    all_goals
                      go_wp2_with fail
                      refine (first_then HB9.out).mono ?_
                      rintro e10 w10 ⟨rfl, hb10⟩
                      have HB10 := Lib.hid hb10
                      clear hb10
                      go_wp2_with fail
                      go_ret
                      exact ⟨rfl, HB10.out⟩
                  | true =>
                    have HJY := Lib.hid (joined_yes HOK.out)
                    have HJS := Lib.hid (joined_split HOK.out)
                    have hcs : gk = true ∧ (k : Int) - 1 + (S : Int) ≤ 200 := by
                      have h9 := HGJ.out
                      cases gk
                      · simp at h9
                      · simp at h9
                        exact ⟨rfl, by omega⟩
                    obtain ⟨rfl, hcs⟩ := hcs
                    have hjl : (joinT ls).length ≤ 1000000 := by have := pathB_len HJS.out.1; omega
                    have HJL := Lib.hid hjl
                    rw [HJY.out.2]
                    obtain ⟨js, hjs⟩ : ∃ js, joinT ls = js := ⟨_, rfl⟩
                    rw [hjs] at HJS HJL ⊢
                    clear hjs hjl
                    go_wp2_with fail
                    refine (first_then HB9.out).mono ?_
                    rintro e10 w10 ⟨rfl, hb10⟩
                    have HB10 := Lib.hid hb10
                    clear hb10 HB9
                    go_wp2_with fail
                    refine (npath_any js _ HJL.out).mono ?_
                    rintro e11 w11 ⟨rfl, hb11⟩
                    rw [HJS.out.1]
                    have HB11 := Lib.hid (HB10.out.trans (hb11.mono HB10.out.size))
                    clear hb11 HB10
                    go_wp2_with fail
                    refine (nsplit_any js _ HJL.out).mono ?_
                    rintro e12 w12 ⟨v12, rfl, ho12, hb12⟩
                    rw [HJS.out.2] at ho12
                    have HO12 := Lib.hid ho12
                    have HB12 := Lib.hid (HB11.out.trans (hb12.mono HB11.out.size))
                    clear ho12 hb12 HB11
                    go_wp2_with fail
                    refine (texts_same v12 _ _ _ HO12.out.slv (H.out.below HB12.out)).mono ?_
                    rintro e13 w13 ⟨rfl, hb13⟩
                    have HB13 := Lib.hid (HB12.out.trans (hb13.mono HB12.out.size))
                    clear hb13 HB12
                    go_wp2_with fail
                    go_ret
                    exact ⟨rfl, HB13.out⟩
theorem namesBack_walk (s : ByteArray) (a : Option Addr) (len cap : Nat) (ss : List ByteArray) (w : World) (_ : s.size ≤ maxLen) (h : IsTexts w a len cap ss) :
    Calls Try.prog 6 #[.string s, .slice a len cap] w (Yes w) := by
  obtain ⟨ls, _, g1, g2⟩ := texts_of h
  obtain ⟨xs, rfl, _⟩ := str_of s
  exact back_in _ ls xs w g1 g2
end Go.Proofs.Ytpbmdeohccdiaaa.Tx
