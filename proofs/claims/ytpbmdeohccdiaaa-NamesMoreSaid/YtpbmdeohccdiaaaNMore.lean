/- The walk of NamesMore. -/
import Derived.Test.YtpbmdeohccdiaaaNm3
import Derived.Test.YtpbmdeohccdiaaaTq2
namespace Go.Proofs.Ytpbmdeohccdiaaa.Tx
open Go.RowKit Go.Proofs.Ytpbmdeohccdiaaa.Sh

theorem slv_one (w : World) (x : ByteArray) : SlV (w.alloc (.cells #[.string x] 9)) (.slice (some ⟨w.heap.size, 0, none⟩) 1 1) ([x].map sv) := slv_new w [x] _ rfl 1 rfl (by omega)

set_option maxRecDepth 100000 in
set_option maxHeartbeats 12800000 in
theorem more_in (v v' : Value) (ls ms : List (List UInt8)) (xs ys : List UInt8) (w : World) (h : SlV w v ((ls.map str).map sv)) (h' : SlV w v' ((ms.map str).map sv)) (hsz : ∀ p ∈ ls, p.length ≤ maxLen) (hsz' : ∀ p ∈ ms, p.length ≤ maxLen) :
    Calls Try.prog 8 #[v, v', .string (str xs), .string (str ys)] w (Yes w) := by
  have H := Lib.hid h
  have H' := Lib.hid h'
  have HSZ := Lib.hid hsz
  have HSZ' := Lib.hid hsz'
  have z1 := str_size xs
  have z2 := str_size ys
  obtain ⟨l1, hl1⟩ : ∃ l, xs.length = l := ⟨_, rfl⟩
  obtain ⟨l2, hl2⟩ : ∃ l, ys.length = l := ⟨_, rfl⟩
  rw [hl1] at z1
  rw [hl2] at z2
  have HL1 := Lib.hid hl1
  have HL2 := Lib.hid hl2
  clear h h' hsz hsz' hl1 hl2
  go_enter Try.func8, Try.ntmps8
  go_wp2_with fail
  refine (first_then (Below.refl _ _)).mono ?_
  rintro e w1 ⟨rfl, hb1⟩
  have HB1 := Lib.hid hb1
  clear hb1
  go_wp2_with fail
  refine (few_any v ls _ (H.out.below HB1.out) HSZ.out).mono ?_
  rintro e w2 ⟨t, rfl, ht, rfl⟩
  have HT := Lib.hid ht
  clear ht
  cases t with
  | false =>
    go_wp2_with fail
    refine (first_then HB1.out).mono ?_
    rintro e w2 ⟨rfl, hb2⟩
    have HB2 := Lib.hid hb2
    clear hb2
    go_wp2_with fail
    go_ret
    exact ⟨rfl, HB2.out⟩
  | true =>
    go_wp2_with fail
    refine (few_any v' ms _ (H'.out.below HB1.out) HSZ'.out).mono ?_
    rintro e w2 ⟨t, rfl, ht, rfl⟩
    have HT' := Lib.hid ht
    clear ht
    cases t with
    | false =>
      go_wp2_with fail
      refine (first_then HB1.out).mono ?_
      rintro e w2 ⟨rfl, hb2⟩
      have HB2 := Lib.hid hb2
      clear hb2
      go_wp2_with fail
      go_ret
      exact ⟨rfl, HB2.out⟩
    | true =>
      have hcase : (1000 : Int) < (l1 : Int) ∨ ((l1 : Int) ≤ 1000 ∧ (1000 : Int) < (l2 : Int)) ∨ ((l1 : Int) ≤ 1000 ∧ (l2 : Int) ≤ 1000) := by omega
      rcases hcase with g1 | ⟨g1, g2⟩ | ⟨g1, g2⟩
      · go_wp2_with fail
        refine (first_then HB1.out).mono ?_
        rintro e w2 ⟨rfl, hb2⟩
        have HB2 := Lib.hid hb2
        clear hb2
        go_wp2_with fail
        go_ret
        exact ⟨rfl, HB2.out⟩
      · go_wp2_with fail
        refine (first_then HB1.out).mono ?_
        rintro e w2 ⟨rfl, hb2⟩
        have HB2 := Lib.hid hb2
        clear hb2
        go_wp2_with fail
        go_ret
        exact ⟨rfl, HB2.out⟩
      · have hfew := HT.out (by first | rfl | trivial)
        have hfew' := HT'.out (by first | rfl | trivial)
        have HN : Hid (ls.length ≤ 100 ∧ ∀ p ∈ ls, p.length ≤ 1000000) := ⟨hfew.1, fun p hp => by have := hfew.2 p hp; omega⟩
        have HN' : Hid (ms.length ≤ 100 ∧ ∀ p ∈ ms, p.length ≤ 1000000) := ⟨hfew'.1, fun p hp => by have := hfew'.2 p hp; omega⟩
        have HX1 : Hid (xs.length ≤ 1000000) := by unfold Hid; rw [HL1.out]; omega
        have HX2 : Hid (ys.length ≤ 1000000) := by unfold Hid; rw [HL2.out]; omega
        clear hfew hfew'
        go_wp2_with fail
        refine (copyt_any v _ _ (H.out.below HB1.out) (by rw [List.length_map]; have := HN.out.1; omega)).mono ?_
        rintro e w3 ⟨v3, rfl, ho3, hb3⟩
        have HO3 := Lib.hid (ho3.base HB1.out.size)
        have HB3 := Lib.hid (HB1.out.trans (hb3.mono HB1.out.size))
        have hz3 := HB3.out.size
        clear ho3 hb3 HB1
        obtain ⟨A', c', hv', _, _, hR'⟩ := (H'.out.below HB3.out).len
        rw [List.length_map, List.length_map] at hv' hR'
        obtain ⟨m', hm'⟩ : ∃ m', ms.length = m' := ⟨_, rfl⟩
        rw [hm'] at hv' hR'
        subst hv'
        have HRR := Lib.hid hR'
        have HM' := Lib.hid hm'
        have hsm : (ls.map str).length + m' ≤ 2000000 := by rw [List.length_map]; have h1 := HN.out.1; have h2 := HN'.out.1; rw [hm'] at h2; omega
        clear hR' hm'
        go_wp2_with (at_builtin; refine append_texts rfl (.tmp 36) (.tmp 37) rfl w3 w.heap.size v3 (ls.map str) rfl HO3.out _ A' m' c' (ms.map str) rfl HRR.out hsm hz3 ?_; intro v4 w4 ho4 hb4; have HO4 := Lib.hid ho4; have HB4 := Lib.hid (HB3.out.trans hb4); clear ho4 hb4)
        have hboth : SlV w4 v4 (((ls ++ ms).map str).map sv) := by rw [List.map_append]; exact HO4.out.slv
        have HBO := Lib.hid hboth
        clear hboth HO3 HB3 HRR hsm hz3
        refine (nignored_any v4 (ls ++ ms) xs _ HBO.out (by rw [List.length_append]; have h1 := HN.out.1; have h2 := HN'.out.1; omega) (fun p hp => by
          rcases List.mem_append.1 hp with hp | hp
          · exact HN.out.2 p hp
          · exact HN'.out.2 p hp) HX1.out).mono ?_
        rintro e w5 ⟨rfl, hb5⟩
        rw [ignoredB_app]
        have HB5 := Lib.hid (HB4.out.trans (hb5.mono HB4.out.size))
        clear hb5 HB4 HO4 HBO
        go_wp2_with fail
        refine (nignored_any v ls xs _ (H.out.below HB5.out) (by have h1 := HN.out.1; omega) HN.out.2 HX1.out).mono ?_
        rintro e w6 ⟨rfl, hb6⟩
        have HB6 := Lib.hid (HB5.out.trans (hb6.mono HB5.out.size))
        clear hb6 HB5
        obtain ⟨ta, hta⟩ : ∃ t, ignoredB ls xs = t := ⟨_, rfl⟩
        obtain ⟨tb, htb⟩ : ∃ t, ignoredB ms xs = t := ⟨_, rfl⟩
        rw [hta, htb]
        have HTB := Lib.hid htb
        clear hta htb
        cases ta with
        | true =>
          have HB7 := HB6
          clear HB6
          go_wp2_with fail
          refine (nignored_any (.slice none 0 0) [] xs _ (SlV.nil_ _) (by simp) (fun p hp => by cases hp) HX1.out).mono ?_
          rintro e w8 ⟨rfl, hb8⟩
          rw [ignoredB_nil]
          have HB8 := Lib.hid (HB7.out.trans (hb8.mono HB7.out.size))
          clear hb8 HB7
          go_wp2_with fail
          refine (nsplit_any xs _ HX1.out).mono ?_
          rintro e w9 ⟨v9, rfl, ho9, hb9⟩
          obtain ⟨Ap, cp, rfl, hpc, hpm⟩ := ho9.length
          obtain ⟨m, hM⟩ : ∃ m, (namesL xs).length = m := ⟨_, rfl⟩
          rw [List.length_map, List.length_map, hM] at ho9 hpc ⊢
          have hm2 : m ≤ 1001 := by have h1 := namesL_few xs; have h2 := HL1.out; omega
          unfold maxLen at hpm
          have HM := Lib.hid hM
          have HO9 := Lib.hid (ho9.base HB8.out.size)
          have HB9 := Lib.hid (HB8.out.trans (hb9.mono HB8.out.size))
          clear ho9 hb9 HB8 hM
          go_wp2_with fail
          go_loopw [11] (fun i wr => ∃ k : Nat, k ≤ m ∧ i = .int .i64 k ∧ OwnV 9 wr w.heap.size (.slice Ap m cp) (((namesL xs).map str).map sv) ∧ Below w.heap.size w wr) (fun i _ => m - (intOf i).toNat)
          case atStart => exact ⟨0, Nat.zero_le _, rfl, HO9.out, HB9.out⟩
          case round =>
            clear HO9 HB9
            obtain ⟨k, hk, rfl, ho, hb⟩ := hrel
            have HO := Lib.hid ho
            have HB := Lib.hid hb
            have hwz := hb.size
            clear ho hb
            have k0 : (0 : Int) ≤ (k : Int) := by omega
            by_cases hlt : k < m
            · have k1 : (k : Int) < (m : Int) := by omega
              have hkp : k < (namesL xs).length := by rw [HM.out]; exact hlt
              obtain ⟨ad, rfl, hcell⟩ := piece_at HO.out k hkp
              have hpl := namesL_len (List.getElem_mem hkp)
              rw [HL1.out] at hpl
              have hph : (splitL 42 (namesL xs)[k]).length = 1 → ignoredB [(namesL xs)[k]] xs = true := plain_hits hkp
              have hdh : k + 1 < m → (splitL 42 (namesL xs)[k]).length = 1 → ignoredB [(namesL xs)[k] ++ [47]] xs = true := fun hk2 => dir_hits (by rw [HM.out]; exact hk2)
              have huh : underB xs ys = true → (splitL 42 (namesL xs)[k]).length = 1 → ignoredB [(namesL xs)[k]] ys = true := fun hu h1 => under_hits hkp h1 hu
              obtain ⟨p, hp⟩ : ∃ p, (namesL xs)[k] = p := ⟨_, rfl⟩
              rw [hp] at hcell hpl hph hdh huh
              have HPH := Lib.hid hph
              have HDH := Lib.hid hdh
              have HUH := Lib.hid huh
              have hp6 : p.length ≤ 1000000 := by omega
              have hadl : (ad.add k).block < wr.heap.size := World.block_lt_of_cell? wr _ hcell
              have hsl : str p ++ ⟨#[47]⟩ = str (p ++ [47]) := by rw [show (⟨#[47]⟩ : ByteArray) = str [47] from rfl, str_append]
              have HSLC := Lib.hid hsl
              have hpz := str_size p
              have hone := slv_one wr (str p)
              have hone2 := hone.below ((Below.refl _ _).alloc (Nat.le_refl _) (.cells #[.string (str p ++ ⟨#[47]⟩)] 9))
              have hdir := slv_one (wr.alloc (.cells #[.string (str p)] 9)) (str p ++ ⟨#[47]⟩)
              have hc1 : (wr.alloc (.cells #[.string (str p)] 9)).cell? (ad.add k) = some (.string (str p)) := (World.cell?_alloc_lt _ _ _ hadl).trans hcell
              have hc2 : ((wr.alloc (.cells #[.string (str p)] 9)).alloc (.cells #[.string (str p ++ ⟨#[47]⟩)] 9)).cell? (ad.add k) = some (.string (str p)) := (World.cell?_alloc_lt _ _ _ (by simp; omega)).trans hc1
              have hbw : Below w.heap.size w ((wr.alloc (.cells #[.string (str p)] 9)).alloc (.cells #[.string (str p ++ ⟨#[47]⟩)] 9)) := (HB.out.alloc hwz _).alloc (by simp; omega) _
              have hbr : Below wr.heap.size wr ((wr.alloc (.cells #[.string (str p)] 9)).alloc (.cells #[.string (str p ++ ⟨#[47]⟩)] 9)) := ((Below.refl _ _).alloc (Nat.le_refl _) _).alloc (by simp) _
              have hadl2 : (ad.add k).block < ((wr.alloc (.cells #[.string (str p)] 9)).alloc (.cells #[.string (str p ++ ⟨#[47]⟩)] 9)).heap.size := by simp; omega
              have hsz2 : (wr.alloc (.cells #[.string (str p)] 9)).heap.size = wr.heap.size + 1 := by simp
              rw [hsz2] at hdir
              have HONE := Lib.hid hone2
              have HDIR := Lib.hid hdir
              have HC2 := Lib.hid hc2
              have HBW := Lib.hid hbw
              have HBR := Lib.hid hbr
              have HAD2 := Lib.hid hadl2
              obtain ⟨lp, hlp⟩ : ∃ lp, p.length = lp := ⟨_, rfl⟩
              rw [hlp] at hpz hpl hp6
              have HLP := Lib.hid hlp
              have lp0 : (0 : Int) ≤ (lp : Int) := by omega
              have lp1 : (lp : Int) ≤ 1000 := by omega
              clear hp hph hdh huh hone hone2 hdir hc2 hbw hbr hadl2 hsz2 hsl hlp
              go_wp2_with fail
              refine (npattern_any p _ (by rw [HLP.out]; omega)).mono ?_
              rintro e2 wa ⟨rfl, hba⟩
              have hca := (hba.cell (p := ad.add k) HAD2.out).trans HC2.out
              have HBA := Lib.hid (HBW.out.trans (hba.mono HBW.out.size))
              have HBRA := Lib.hid (HBR.out.trans (hba.mono HBR.out.size))
              have HONEA := Lib.hid (HONE.out.below hba)
              have HDIRA := Lib.hid (HDIR.out.below hba)
              clear hba hcell hc1
              obtain ⟨tp, htp⟩ : ∃ tp, (patL p).isSome = tp := ⟨_, rfl⟩
              rw [htp]
              clear htp
              cases tp with
              | false =>
                have HOA := Lib.hid (HO.out.below HBRA.out)
                go_wp2_with fail
                go_roundw
                case rel => exact ⟨k + 1, by omega, by go_num, HOA.out, HBA.out⟩
                case measure => simp [intOf]; omega
              | true =>
                go_wp2_with fail
                refine (sign42 p _ (by rw [HLP.out]; omega)).mono ?_
                rintro e3 wb ⟨vb, rfl, hob, hbb⟩
                obtain ⟨Ab, cb, rfl, _, _⟩ := hob.length
                have HBB := Lib.hid (HBA.out.trans (hbb.mono HBA.out.size))
                have HBRB := Lib.hid (HBRA.out.trans (hbb.mono HBRA.out.size))
                have HONEB := Lib.hid (HONEA.out.below hbb)
                have HDIRB := Lib.hid (HDIRA.out.below hbb)
                obtain ⟨q, hq⟩ : ∃ q, (splitL 42 p).length = q := ⟨_, rfl⟩
                rw [List.length_map, List.length_map, hq]
                have HQ := Lib.hid hq
                clear hob hbb hq HONEA HDIRA HBA HBRA
                by_cases hq1 : q = 1
                · have HH1 := Lib.hid (HPH.out (by rw [HQ.out]; exact hq1))
                  have HQ1 : Hid ((splitL 42 p).length = 1) := by unfold Hid; rw [HQ.out]; exact hq1
                  subst hq1
                  go_wp2_with fail
                  refine (nignored_any _ [p] xs _ HONEB.out (by simp) (fun x hx => by simp at hx; subst hx; rw [HLP.out]; omega) HX1.out).mono ?_
                  rintro e4 wc ⟨rfl, hbc⟩
                  rw [HH1.out]
                  have HBC := Lib.hid (HBB.out.trans (hbc.mono HBB.out.size))
                  have HBRC := Lib.hid (HBRB.out.trans (hbc.mono HBRB.out.size))
                  have HONEC := Lib.hid (HONEB.out.below hbc)
                  have HDIRC := Lib.hid (HDIRB.out.below hbc)
                  clear hbc HBB HBRB HONEB HDIRB
                  by_cases hk2 : k + 1 < m
                  · have k2 : (k : Int) < (m : Int) - 1 := by omega
                    have HD1 := Lib.hid (HDH.out hk2 HQ1.out)
                    have HDD : Hid (SlV wc (.slice (some ⟨wr.heap.size + 1, 0, none⟩) 1 1) (([p ++ [47]].map str).map sv)) := by
                      have h9 := HDIRC.out
                      rw [HSLC.out] at h9
                      exact h9
                    go_wp2_with fail
                    refine (nignored_any _ [p ++ [47]] xs _ HDD.out (by simp) (fun x hx => by simp at hx; subst hx; rw [List.length_append, HLP.out]; simp; omega) HX1.out).mono ?_
                    rintro e5 wd ⟨rfl, hbd⟩
                    rw [HD1.out]
                    have HBD := Lib.hid (HBC.out.trans (hbd.mono HBC.out.size))
                    have HBRD := Lib.hid (HBRC.out.trans (hbd.mono HBRC.out.size))
                    have HONED := Lib.hid (HONEC.out.below hbd)
                    clear hbd HBC HBRC HONEC HDIRC HDD
                    go_wp2_with fail
                    refine (nunder_any xs ys _ HX1.out HX2.out).mono ?_
                    rintro e6 we ⟨rfl, hbe⟩
                    have HBE := Lib.hid (HBD.out.trans (hbe.mono HBD.out.size))
                    have HBRE := Lib.hid (HBRD.out.trans (hbe.mono HBRD.out.size))
                    have HONEE := Lib.hid (HONED.out.below hbe)
                    clear hbe HBD HBRD HONED
                    obtain ⟨tu, htu⟩ : ∃ tu, underB xs ys = tu := ⟨_, rfl⟩
                    rw [htu]
                    have HTU := Lib.hid htu
                    clear htu
                    cases tu with
                    | false =>
                      have HOE := Lib.hid (HO.out.below HBRE.out)
                      go_wp2_with fail
                      go_roundw
                      case rel => exact ⟨k + 1, by omega, by go_num, HOE.out, HBE.out⟩
                      case measure => simp [intOf]; omega
                    | true =>
                      have HU1 := Lib.hid (HUH.out HTU.out HQ1.out)
                      go_wp2_with fail
                      refine (nignored_any _ [p] ys _ HONEE.out (by simp) (fun x hx => by simp at hx; subst hx; rw [HLP.out]; omega) HX2.out).mono ?_
                      rintro e7 wf ⟨rfl, hbf⟩
                      rw [HU1.out]
                      have HBF := Lib.hid (HBE.out.trans (hbf.mono HBE.out.size))
                      have HBRF := Lib.hid (HBRE.out.trans (hbf.mono HBRE.out.size))
                      have HOF := Lib.hid (HO.out.below HBRF.out)
                      clear hbf
                      go_wp2_with fail
                      go_roundw
                      case rel => exact ⟨k + 1, by omega, by go_num, HOF.out, HBF.out⟩
                      case measure => simp [intOf]; omega
                  · have k2 : (m : Int) - 1 ≤ (k : Int) := by omega
                    have HBD := HBC
                    have HBRD := HBRC
                    have HONED := HONEC
                    obtain ⟨wd, hwd⟩ : ∃ wd, wd = wc := ⟨_, rfl⟩
                    subst hwd
                    clear HBC HBRC HONEC HDIRC
                    go_wp2_with fail
                    refine (nunder_any xs ys _ HX1.out HX2.out).mono ?_
                    rintro e6 we ⟨rfl, hbe⟩
                    have HBE := Lib.hid (HBD.out.trans (hbe.mono HBD.out.size))
                    have HBRE := Lib.hid (HBRD.out.trans (hbe.mono HBRD.out.size))
                    have HONEE := Lib.hid (HONED.out.below hbe)
                    clear hbe HBD HBRD HONED
                    obtain ⟨tu, htu⟩ : ∃ tu, underB xs ys = tu := ⟨_, rfl⟩
                    rw [htu]
                    have HTU := Lib.hid htu
                    clear htu
                    cases tu with
                    | false =>
                      have HOE := Lib.hid (HO.out.below HBRE.out)
                      go_wp2_with fail
                      go_roundw
                      case rel => exact ⟨k + 1, by omega, by go_num, HOE.out, HBE.out⟩
                      case measure => simp [intOf]; omega
                    | true =>
                      have HU1 := Lib.hid (HUH.out HTU.out HQ1.out)
                      go_wp2_with fail
                      refine (nignored_any _ [p] ys _ HONEE.out (by simp) (fun x hx => by simp at hx; subst hx; rw [HLP.out]; omega) HX2.out).mono ?_
                      rintro e7 wf ⟨rfl, hbf⟩
                      rw [HU1.out]
                      have HBF := Lib.hid (HBE.out.trans (hbf.mono HBE.out.size))
                      have HBRF := Lib.hid (HBRE.out.trans (hbf.mono HBRE.out.size))
                      have HOF := Lib.hid (HO.out.below HBRF.out)
                      clear hbf
                      go_wp2_with fail
                      go_roundw
                      case rel => exact ⟨k + 1, by omega, by go_num, HOF.out, HBF.out⟩
                      case measure => simp [intOf]; omega
                · have e1 : ((q : Int) == 1) = false := by rw [beq_eq_false_iff_ne]; omega
                  have HOB := Lib.hid (HO.out.below HBRB.out)
                  clear hq1
                  go_wp2_with fail
                  go_roundw
                  case rel => exact ⟨k + 1, by omega, by go_num, HOB.out, HBB.out⟩
                  case measure => simp [intOf]; omega
            · obtain rfl : k = m := by omega
              go_wp2_with fail
              refine (first_then HB.out).mono ?_
              rintro e2 wa ⟨rfl, hba⟩
              have HBA := Lib.hid hba
              clear hba
              go_wp2_with fail
              go_ret
              exact ⟨rfl, HBA.out⟩
        | false =>
          go_wp2_with fail
          refine (nignored_any _ ms xs _ (H'.out.below HB6.out) (by have h1 := HN'.out.1; omega) HN'.out.2 HX1.out).mono ?_
          rintro e w7 ⟨rfl, hb7⟩
          rw [HTB.out]
          have HB7 := Lib.hid (HB6.out.trans (hb7.mono HB6.out.size))
          have ebb : (tb != tb) = false := by simp
          clear hb7 HB6
          go_wp2_with fail
          clear ebb
          refine (nignored_any (.slice none 0 0) [] xs _ (SlV.nil_ _) (by simp) (fun p hp => by cases hp) HX1.out).mono ?_
          rintro e w8 ⟨rfl, hb8⟩
          rw [ignoredB_nil]
          have HB8 := Lib.hid (HB7.out.trans (hb8.mono HB7.out.size))
          clear hb8 HB7
          go_wp2_with fail
          refine (nsplit_any xs _ HX1.out).mono ?_
          rintro e w9 ⟨v9, rfl, ho9, hb9⟩
          obtain ⟨Ap, cp, rfl, hpc, hpm⟩ := ho9.length
          obtain ⟨m, hM⟩ : ∃ m, (namesL xs).length = m := ⟨_, rfl⟩
          rw [List.length_map, List.length_map, hM] at ho9 hpc ⊢
          have hm2 : m ≤ 1001 := by have h1 := namesL_few xs; have h2 := HL1.out; omega
          unfold maxLen at hpm
          have HM := Lib.hid hM
          have HO9 := Lib.hid (ho9.base HB8.out.size)
          have HB9 := Lib.hid (HB8.out.trans (hb9.mono HB8.out.size))
          clear ho9 hb9 HB8 hM
          go_wp2_with fail
          go_loopw [11] (fun i wr => ∃ k : Nat, k ≤ m ∧ i = .int .i64 k ∧ OwnV 9 wr w.heap.size (.slice Ap m cp) (((namesL xs).map str).map sv) ∧ Below w.heap.size w wr) (fun i _ => m - (intOf i).toNat)
          case atStart => exact ⟨0, Nat.zero_le _, rfl, HO9.out, HB9.out⟩
          case round =>
            clear HO9 HB9
            obtain ⟨k, hk, rfl, ho, hb⟩ := hrel
            have HO := Lib.hid ho
            have HB := Lib.hid hb
            have hwz := hb.size
            clear ho hb
            have k0 : (0 : Int) ≤ (k : Int) := by omega
            by_cases hlt : k < m
            · have k1 : (k : Int) < (m : Int) := by omega
              have hkp : k < (namesL xs).length := by rw [HM.out]; exact hlt
              obtain ⟨ad, rfl, hcell⟩ := piece_at HO.out k hkp
              have hpl := namesL_len (List.getElem_mem hkp)
              rw [HL1.out] at hpl
              have hph : (splitL 42 (namesL xs)[k]).length = 1 → ignoredB [(namesL xs)[k]] xs = true := plain_hits hkp
              have hdh : k + 1 < m → (splitL 42 (namesL xs)[k]).length = 1 → ignoredB [(namesL xs)[k] ++ [47]] xs = true := fun hk2 => dir_hits (by rw [HM.out]; exact hk2)
              have huh : underB xs ys = true → (splitL 42 (namesL xs)[k]).length = 1 → ignoredB [(namesL xs)[k]] ys = true := fun hu h1 => under_hits hkp h1 hu
              obtain ⟨p, hp⟩ : ∃ p, (namesL xs)[k] = p := ⟨_, rfl⟩
              rw [hp] at hcell hpl hph hdh huh
              have HPH := Lib.hid hph
              have HDH := Lib.hid hdh
              have HUH := Lib.hid huh
              have hp6 : p.length ≤ 1000000 := by omega
              have hadl : (ad.add k).block < wr.heap.size := World.block_lt_of_cell? wr _ hcell
              have hsl : str p ++ ⟨#[47]⟩ = str (p ++ [47]) := by rw [show (⟨#[47]⟩ : ByteArray) = str [47] from rfl, str_append]
              have HSLC := Lib.hid hsl
              have hpz := str_size p
              have hone := slv_one wr (str p)
              have hone2 := hone.below ((Below.refl _ _).alloc (Nat.le_refl _) (.cells #[.string (str p ++ ⟨#[47]⟩)] 9))
              have hdir := slv_one (wr.alloc (.cells #[.string (str p)] 9)) (str p ++ ⟨#[47]⟩)
              have hc1 : (wr.alloc (.cells #[.string (str p)] 9)).cell? (ad.add k) = some (.string (str p)) := (World.cell?_alloc_lt _ _ _ hadl).trans hcell
              have hc2 : ((wr.alloc (.cells #[.string (str p)] 9)).alloc (.cells #[.string (str p ++ ⟨#[47]⟩)] 9)).cell? (ad.add k) = some (.string (str p)) := (World.cell?_alloc_lt _ _ _ (by simp; omega)).trans hc1
              have hbw : Below w.heap.size w ((wr.alloc (.cells #[.string (str p)] 9)).alloc (.cells #[.string (str p ++ ⟨#[47]⟩)] 9)) := (HB.out.alloc hwz _).alloc (by simp; omega) _
              have hbr : Below wr.heap.size wr ((wr.alloc (.cells #[.string (str p)] 9)).alloc (.cells #[.string (str p ++ ⟨#[47]⟩)] 9)) := ((Below.refl _ _).alloc (Nat.le_refl _) _).alloc (by simp) _
              have hadl2 : (ad.add k).block < ((wr.alloc (.cells #[.string (str p)] 9)).alloc (.cells #[.string (str p ++ ⟨#[47]⟩)] 9)).heap.size := by simp; omega
              have hsz2 : (wr.alloc (.cells #[.string (str p)] 9)).heap.size = wr.heap.size + 1 := by simp
              rw [hsz2] at hdir
              have HONE := Lib.hid hone2
              have HDIR := Lib.hid hdir
              have HC2 := Lib.hid hc2
              have HBW := Lib.hid hbw
              have HBR := Lib.hid hbr
              have HAD2 := Lib.hid hadl2
              obtain ⟨lp, hlp⟩ : ∃ lp, p.length = lp := ⟨_, rfl⟩
              rw [hlp] at hpz hpl hp6
              have HLP := Lib.hid hlp
              have lp0 : (0 : Int) ≤ (lp : Int) := by omega
              have lp1 : (lp : Int) ≤ 1000 := by omega
              clear hp hph hdh huh hone hone2 hdir hc2 hbw hbr hadl2 hsz2 hsl hlp
              go_wp2_with fail
              refine (npattern_any p _ (by rw [HLP.out]; omega)).mono ?_
              rintro e2 wa ⟨rfl, hba⟩
              have hca := (hba.cell (p := ad.add k) HAD2.out).trans HC2.out
              have HBA := Lib.hid (HBW.out.trans (hba.mono HBW.out.size))
              have HBRA := Lib.hid (HBR.out.trans (hba.mono HBR.out.size))
              have HONEA := Lib.hid (HONE.out.below hba)
              have HDIRA := Lib.hid (HDIR.out.below hba)
              clear hba hcell hc1
              obtain ⟨tp, htp⟩ : ∃ tp, (patL p).isSome = tp := ⟨_, rfl⟩
              rw [htp]
              clear htp
              cases tp with
              | false =>
                have HOA := Lib.hid (HO.out.below HBRA.out)
                go_wp2_with fail
                go_roundw
                case rel => exact ⟨k + 1, by omega, by go_num, HOA.out, HBA.out⟩
                case measure => simp [intOf]; omega
              | true =>
                go_wp2_with fail
                refine (sign42 p _ (by rw [HLP.out]; omega)).mono ?_
                rintro e3 wb ⟨vb, rfl, hob, hbb⟩
                obtain ⟨Ab, cb, rfl, _, _⟩ := hob.length
                have HBB := Lib.hid (HBA.out.trans (hbb.mono HBA.out.size))
                have HBRB := Lib.hid (HBRA.out.trans (hbb.mono HBRA.out.size))
                have HONEB := Lib.hid (HONEA.out.below hbb)
                have HDIRB := Lib.hid (HDIRA.out.below hbb)
                obtain ⟨q, hq⟩ : ∃ q, (splitL 42 p).length = q := ⟨_, rfl⟩
                rw [List.length_map, List.length_map, hq]
                have HQ := Lib.hid hq
                clear hob hbb hq HONEA HDIRA HBA HBRA
                by_cases hq1 : q = 1
                · have HH1 := Lib.hid (HPH.out (by rw [HQ.out]; exact hq1))
                  have HQ1 : Hid ((splitL 42 p).length = 1) := by unfold Hid; rw [HQ.out]; exact hq1
                  subst hq1
                  go_wp2_with fail
                  refine (nignored_any _ [p] xs _ HONEB.out (by simp) (fun x hx => by simp at hx; subst hx; rw [HLP.out]; omega) HX1.out).mono ?_
                  rintro e4 wc ⟨rfl, hbc⟩
                  rw [HH1.out]
                  have HBC := Lib.hid (HBB.out.trans (hbc.mono HBB.out.size))
                  have HBRC := Lib.hid (HBRB.out.trans (hbc.mono HBRB.out.size))
                  have HONEC := Lib.hid (HONEB.out.below hbc)
                  have HDIRC := Lib.hid (HDIRB.out.below hbc)
                  clear hbc HBB HBRB HONEB HDIRB
                  by_cases hk2 : k + 1 < m
                  · have k2 : (k : Int) < (m : Int) - 1 := by omega
                    have HD1 := Lib.hid (HDH.out hk2 HQ1.out)
                    have HDD : Hid (SlV wc (.slice (some ⟨wr.heap.size + 1, 0, none⟩) 1 1) (([p ++ [47]].map str).map sv)) := by
                      have h9 := HDIRC.out
                      rw [HSLC.out] at h9
                      exact h9
                    go_wp2_with fail
                    refine (nignored_any _ [p ++ [47]] xs _ HDD.out (by simp) (fun x hx => by simp at hx; subst hx; rw [List.length_append, HLP.out]; simp; omega) HX1.out).mono ?_
                    rintro e5 wd ⟨rfl, hbd⟩
                    rw [HD1.out]
                    have HBD := Lib.hid (HBC.out.trans (hbd.mono HBC.out.size))
                    have HBRD := Lib.hid (HBRC.out.trans (hbd.mono HBRC.out.size))
                    have HONED := Lib.hid (HONEC.out.below hbd)
                    clear hbd HBC HBRC HONEC HDIRC HDD
                    go_wp2_with fail
                    refine (nunder_any xs ys _ HX1.out HX2.out).mono ?_
                    rintro e6 we ⟨rfl, hbe⟩
                    have HBE := Lib.hid (HBD.out.trans (hbe.mono HBD.out.size))
                    have HBRE := Lib.hid (HBRD.out.trans (hbe.mono HBRD.out.size))
                    have HONEE := Lib.hid (HONED.out.below hbe)
                    clear hbe HBD HBRD HONED
                    obtain ⟨tu, htu⟩ : ∃ tu, underB xs ys = tu := ⟨_, rfl⟩
                    rw [htu]
                    have HTU := Lib.hid htu
                    clear htu
                    cases tu with
                    | false =>
                      have HOE := Lib.hid (HO.out.below HBRE.out)
                      go_wp2_with fail
                      go_roundw
                      case rel => exact ⟨k + 1, by omega, by go_num, HOE.out, HBE.out⟩
                      case measure => simp [intOf]; omega
                    | true =>
                      have HU1 := Lib.hid (HUH.out HTU.out HQ1.out)
                      go_wp2_with fail
                      refine (nignored_any _ [p] ys _ HONEE.out (by simp) (fun x hx => by simp at hx; subst hx; rw [HLP.out]; omega) HX2.out).mono ?_
                      rintro e7 wf ⟨rfl, hbf⟩
                      rw [HU1.out]
                      have HBF := Lib.hid (HBE.out.trans (hbf.mono HBE.out.size))
                      have HBRF := Lib.hid (HBRE.out.trans (hbf.mono HBRE.out.size))
                      have HOF := Lib.hid (HO.out.below HBRF.out)
                      clear hbf
                      go_wp2_with fail
                      go_roundw
                      case rel => exact ⟨k + 1, by omega, by go_num, HOF.out, HBF.out⟩
                      case measure => simp [intOf]; omega
                  · have k2 : (m : Int) - 1 ≤ (k : Int) := by omega
                    have HBD := HBC
                    have HBRD := HBRC
                    have HONED := HONEC
                    obtain ⟨wd, hwd⟩ : ∃ wd, wd = wc := ⟨_, rfl⟩
                    subst hwd
                    clear HBC HBRC HONEC HDIRC
                    go_wp2_with fail
                    refine (nunder_any xs ys _ HX1.out HX2.out).mono ?_
                    rintro e6 we ⟨rfl, hbe⟩
                    have HBE := Lib.hid (HBD.out.trans (hbe.mono HBD.out.size))
                    have HBRE := Lib.hid (HBRD.out.trans (hbe.mono HBRD.out.size))
                    have HONEE := Lib.hid (HONED.out.below hbe)
                    clear hbe HBD HBRD HONED
                    obtain ⟨tu, htu⟩ : ∃ tu, underB xs ys = tu := ⟨_, rfl⟩
                    rw [htu]
                    have HTU := Lib.hid htu
                    clear htu
                    cases tu with
                    | false =>
                      have HOE := Lib.hid (HO.out.below HBRE.out)
                      go_wp2_with fail
                      go_roundw
                      case rel => exact ⟨k + 1, by omega, by go_num, HOE.out, HBE.out⟩
                      case measure => simp [intOf]; omega
                    | true =>
                      have HU1 := Lib.hid (HUH.out HTU.out HQ1.out)
                      go_wp2_with fail
                      refine (nignored_any _ [p] ys _ HONEE.out (by simp) (fun x hx => by simp at hx; subst hx; rw [HLP.out]; omega) HX2.out).mono ?_
                      rintro e7 wf ⟨rfl, hbf⟩
                      rw [HU1.out]
                      have HBF := Lib.hid (HBE.out.trans (hbf.mono HBE.out.size))
                      have HBRF := Lib.hid (HBRE.out.trans (hbf.mono HBRE.out.size))
                      have HOF := Lib.hid (HO.out.below HBRF.out)
                      clear hbf
                      go_wp2_with fail
                      go_roundw
                      case rel => exact ⟨k + 1, by omega, by go_num, HOF.out, HBF.out⟩
                      case measure => simp [intOf]; omega
                · have e1 : ((q : Int) == 1) = false := by rw [beq_eq_false_iff_ne]; omega
                  have HOB := Lib.hid (HO.out.below HBRB.out)
                  clear hq1
                  go_wp2_with fail
                  go_roundw
                  case rel => exact ⟨k + 1, by omega, by go_num, HOB.out, HBB.out⟩
                  case measure => simp [intOf]; omega
            · obtain rfl : k = m := by omega
              go_wp2_with fail
              refine (first_then HB.out).mono ?_
              rintro e2 wa ⟨rfl, hba⟩
              have HBA := Lib.hid hba
              clear hba
              go_wp2_with fail
              go_ret
              exact ⟨rfl, HBA.out⟩
theorem namesMore_walk (a : Option Addr) (len cap : Nat) (ss : List ByteArray) (a' : Option Addr) (len' cap' : Nat) (ss' : List ByteArray) (s t : ByteArray) (w : World) (h : IsTexts w a len cap ss) (h' : IsTexts w a' len' cap' ss') (_ : s.size ≤ maxLen) (_ : t.size ≤ maxLen) :
    Calls Try.prog 8 #[.slice a len cap, .slice a' len' cap', .string s, .string t] w (Yes w) := by
  obtain ⟨ls, _, g1, g2⟩ := texts_of h
  obtain ⟨ms, _, g3, g4⟩ := texts_of h'
  obtain ⟨xs, rfl, _⟩ := str_of s
  obtain ⟨ys, rfl, _⟩ := str_of t
  exact more_in _ _ ls ms xs ys w g1 g3 g2 g4
end Go.Proofs.Ytpbmdeohccdiaaa.Tx
