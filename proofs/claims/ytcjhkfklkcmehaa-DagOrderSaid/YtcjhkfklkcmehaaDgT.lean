/- DagTops: the law's walk. -/
import Derived.Test.YtcjhkfklkcmehaaDgI
import Derived.Test.YtcjhkfklkcmehaaDgP
import Derived.Deep.RegionHeld3
set_option linter.unusedVariables false
set_option linter.unusedSimpArgs false
namespace Go.Proofs.Ytcjhkfklkcmehaa.Tx
open Go.RowKit Go.Maps Go.Proofs.Ytcjhkfklkcmehaa.Sh

theorem any_take (p : ByteArray → Bool) (l : List ByteArray) (k : Nat) (hk : k < l.length) : (l.take (k + 1)).any p = ((l.take k).any p || p l[k]) := by
  rw [List.take_succ_eq_append_getElem hk, List.any_append]
  simp
/-- Behind what is below w the example answers as ever. -/
theorem first_then {w w1 : World} (h : Below w.heap.size w w1) : Calls Try.prog 8 #[] w1 (Yes w) :=
  (gfirst_any w1).mono fun e w' ⟨he, hb⟩ => ⟨he, h.trans (hb.mono h.size)⟩
set_option maxRecDepth 100000 in
set_option maxHeartbeats 12800000 in
theorem dagTops_walk (a0 : Option Addr) (len0 cap0 : Nat) (a1 : Option Addr) (len1 cap1 : Nat) (z1 : List ByteArray) (w : World) (w0 : IsNodes w a0 len0 cap0) (w1 : IsTexts w a1 len1 cap1 z1) :
    Calls Try.prog 6 #[.slice a0 len0 cap0, .slice a1 len1 cap1] w (Yes w) := by
  obtain ⟨l, hln, hsn, hst⟩ := w0
  obtain ⟨xs, hxl, hxs, hxz⟩ := w1.slv
  have hmade := fun (W : World) (hW : Below w.heap.size w W) => gmade_any _ l W (hln.below hW) hsn hst
  have hfew := fun (W : World) (hW : Below w.heap.size w W) => gfew_any _ xs W (hxs.below hW) hxz
  obtain ⟨A, c, hv, hlc, hcm, hR⟩ := hxs.len
  injection hv with e1 e2 e3
  subst e1 e3
  rw [List.length_map] at hlc hR e2
  subst e2
  have HMADE := Lib.hid hmade
  have HFEW := Lib.hid hfew
  have HXS := Lib.hid hxs
  have HR := Lib.hid hR
  have HSTN := Lib.hid hst
  clear hln hsn hst hmade hfew hxs hR w1 hxz hxl
  unfold maxLen at hcm
  obtain ⟨n, hn⟩ : ∃ n, xs.length = n := ⟨_, rfl⟩
  rw [hn] at HFEW HXS hlc ⊢
  have HN := Lib.hid hn
  clear hn
  go_enter Try.func6, Try.ntmps6
  go_wp2_with fail
  refine (gfirst_any w).mono ?_
  rintro e v1 ⟨rfl, hb1⟩
  have HB1 := Lib.hid hb1
  have HC1 := Lib.hid (HMADE.out v1 hb1)
  clear hb1
  go_wp2_with fail
  refine (HC1.out).mono ?_
  rintro e v2 (⟨g, rfl, hgo, hfn⟩ | ⟨rfl, hb2⟩)
  case inr =>
    have HF := Lib.hid (first_then (HB1.out.trans (hb2.mono HB1.out.size)))
    clear hb2
    go_wp2_with fail
    refine (HF.out).mono ?_
    rintro e v3 ⟨rfl, hb3⟩
    have HB3 := Lib.hid hb3
    clear hb3
    go_wp2_with fail
    go_ret
    exact ⟨rfl, HB3.out⟩
  have hb2 : Below w.heap.size w v2 := HB1.out.trans (hgo.b.mono HB1.out.size)
  have HB2 := Lib.hid hb2
  have HC2 := Lib.hid (HFEW.out v2 hb2)
  have HGO := Lib.hid hgo
  have HFN := Lib.hid hfn
  clear hb2 hgo hfn
  go_wp2_with fail
  refine (HC2.out).mono ?_
  rintro e v3 ⟨t, rfl, ht, rfl⟩
  cases t with
  | false =>
    have HF := Lib.hid (first_then HB2.out)
    clear ht
    go_wp2_with fail
    refine (HF.out).mono ?_
    rintro e v3 ⟨rfl, hb3⟩
    have HB3 := Lib.hid hb3
    clear hb3
    go_wp2_with fail
    go_ret
    exact ⟨rfl, HB3.out⟩
  | true =>
  have hft := ht rfl
  have hgk := gk_whole HFN.out HSTN.out
  obtain ⟨⟨Z, hat, hz⟩, hgb⟩ := HGO.out
  have hgs := hgk.gs (by omega)
  have HFT := Lib.hid hft
  have hw := hgk.w
  obtain ⟨G, hG⟩ : ∃ G, madeG l = G := ⟨_, rfl⟩
  rw [hG] at hat hgs hw
  have HW := Lib.hid hw
  have HGS := Lib.hid hgs
  have HAT := Lib.hid hat
  have htops := gtopsx_any Z g G _ xs v2 hat hw hgs (HXS.out.below HB2.out) (fun s hs => by have := hft.2 s hs; omega) (by have := hft.1; omega)
  have HTOPS := Lib.hid htops
  have his : Hid (∀ (W : World) (a b : ByteArray), Below v2.heap.size v2 W → a.size ≤ 1000000 → b.size ≤ 1000000 → Calls Try.prog 31 #[.pointer (some ⟨g, 0, none⟩), .string a, .string b] W fun e w' => e = .returned (.bool (isG G a b)) ∧ Below W.heap.size W w') := fun W a b hW ha hb => gis_any Z g G a b W (HAT.out.below hW) HW.out HGS.out ha hb
  clear ht hft hgk hat hz hgb hgs hw hG htops
  go_wp2_with fail
  refine (HTOPS.out).mono ?_
  rintro e v3 ⟨hb3, ⟨hall, vt, rfl, hot⟩ | ⟨hall, rfl⟩⟩
  case inr =>
    have HF := Lib.hid (first_then (HB2.out.trans (hb3.mono HB2.out.size)))
    clear hb3 hall
    go_wp2_with fail
    refine (HF.out).mono ?_
    rintro e v3 ⟨rfl, hb3⟩
    have HB3 := Lib.hid hb3
    clear hb3
    go_wp2_with fail
    go_ret
    exact ⟨rfl, HB3.out⟩
  have hw := HW.out
  have htc := fun s hs => tops_any (xs := xs) (s := s) hw hall hs
  have hta := fun i j a b ha hb hij => tops_apart (i := i) (j := j) (a := a) (b := b) hw hall ha hb hij
  have hto := fun s hs => tops_of (s := s) hall hs
  obtain ⟨htt1, htt2⟩ := tops_tops hw hall
  have hsl := hot.slv
  obtain ⟨ts, hts⟩ : ∃ ts, topT G xs = ts := ⟨_, rfl⟩
  rw [hts] at htc hta hto hsl htt1 htt2
  have hsz : ∀ s ∈ ts, s.size ≤ 1000000 := fun s hs => by have := HFT.out.2 s (hto s hs); omega
  obtain ⟨At, ct, hvt, hmt, hct, hRt⟩ := hsl.len
  rw [List.length_map] at hvt hmt hRt
  obtain ⟨m, hm⟩ : ∃ m, ts.length = m := ⟨_, rfl⟩
  rw [hm] at hvt hmt
  subst hvt
  have hm20 : m ≤ 20 := by
    have h1 : ts.length ≤ (uniqT xs).length := by
      rw [← hts]
      unfold topT
      rw [List.length_map]
      have := (top_sub (par := parAt G) (ps := plsL G (uniqT xs))).length_le
      rwa [pls_len] at this
    have := uniqT_len xs
    have := HFT.out.1
    omega
  have HB3 := Lib.hid (HB2.out.trans (hb3.mono HB2.out.size))
  have HB23 := Lib.hid hb3
  have HTC := Lib.hid htc
  have HTA := Lib.hid hta
  have HTO := Lib.hid hto
  have HTT := Lib.hid htt2
  have HSL := Lib.hid hsl
  have HRT := Lib.hid hRt
  have HM := Lib.hid hm
  have HSZ := Lib.hid hsz
  have hn20 : n ≤ 20 := by rw [← HN.out]; exact HFT.out.1
  have htops2 : Hid (∀ W : World, Below v3.heap.size v3 W → Calls Try.prog 27 #[.pointer (some ⟨g, 0, none⟩), .slice At m ct] W (AskPost W true ts)) := fun W hW => by
    have := gtopsx_any Z g G _ ts W (HAT.out.below (HB23.out.trans (hW.mono HB23.out.size))) HW.out HGS.out (HSL.out.below hW) HSZ.out (by rw [HM.out]; omega)
    rwa [htt1, htt2] at this
  have hall' := hall
  clear hb3 hall hall' hot hw htc hta hto htt1 htt2 hsl hts hsz hm hRt hct hmt
  unfold maxLen at *
  go_wp2_with fail
  go_loopw [8, 9, 10] (fun i _ _ wr => ∃ k : Nat, k ≤ n ∧ i = .int .i64 k ∧ Below v3.heap.size v3 wr) (fun i _ _ _ => n - (intOf i).toNat)
  case atStart => exact ⟨0, Nat.zero_le _, rfl, Below.refl _ _⟩
  case round =>
    obtain ⟨i, hi, rfl, hbw⟩ := hrel
    have HBW := Lib.hid hbw
    clear hbw
    have z0 : (0 : Int) ≤ (i : Int) := by omega
    by_cases hlt : i < n
    · have z1 : (i : Int) < (n : Int) := by omega
      have hil : i < xs.length := by rw [HN.out]; exact hlt
      obtain ⟨ad, rfl, hcell⟩ := texts_at HR.out i hil
      have hxm : xs[i] ∈ xs := List.getElem_mem hil
      have hxz : xs[i].size ≤ 1000000 := by have := HFT.out.2 _ hxm; omega
      have HANY := Lib.hid (HTC.out _ hxm)
      have hbk := World.block_lt_of_cell? w _ hcell
      generalize xs[i] = x at *
      have HXC : Hid (∀ W : World, Below w.heap.size w W → W.cell? (ad.add i) = some (.string x)) := fun W hW => (hW.cell hbk).trans hcell
      have HXZ := Lib.hid hxz
      obtain ⟨wo, hwo⟩ : ∃ wo, wo = wr := ⟨_, rfl⟩
      subst hwo
      clear hil hxm hxz hcell hbk
      go_wp2_with fail
      go_loopw [9, 10] (fun b k wr => ∃ j : Nat, j ≤ m ∧ k = .int .i64 j ∧ b = .bool ((ts.take j).any (isG G x)) ∧ Below v3.heap.size v3 wr) (fun _ k _ => m - (intOf k).toNat)
      case atStart => exact ⟨0, Nat.zero_le _, rfl, rfl, HBW.out⟩
      case round =>
        obtain ⟨j, hj, rfl, rfl, hbw⟩ := hrel
        have HBI := Lib.hid hbw
        have y0 : (0 : Int) ≤ (j : Int) := by omega
        obtain ⟨b, hb⟩ : ∃ b, (ts.take j).any (isG G x) = b := ⟨_, rfl⟩
        rw [hb]
        by_cases hjm : j < m
        · have y1 : (j : Int) < (m : Int) := by omega
          have hjl : j < ts.length := by rw [HM.out]; exact hjm
          have hsucc := any_take (isG G x) ts j hjl
          rw [hb] at hsucc
          obtain ⟨at_, rfl, hct⟩ := texts_at ((HRT.out.below hbw).more hbw.size) j hjl
          have hyz := HSZ.out ts[j] (List.getElem_mem hjl)
          generalize ts[j] = y at *
          have HSU := Lib.hid hsucc
          cases b with
          | true =>
            clear hb hsucc hct hbw hjl hyz
            go_wp2_with fail
            go_quiet (fail)
            go_wp2_with fail
            go_roundw
            case rel => exact ⟨j + 1, by omega, by go_num, by rw [HSU.out]; rfl, below_drewN HBI.out _⟩
            case measure => simp [intOf]; omega
          | false =>
            have hwW := HB3.out.trans (hbw.mono HB3.out.size)
            have q0 : wr.cell? (ad.add i) = some (.string x) := HXC.out wr hwW
            have q1 : wr.cell? (at_.add j) = some (.string y) := hct
            have HC := Lib.hid (his.out wr.drew x y ((HB23.out.trans (hbw.mono HB23.out.size)).drew) HXZ.out hyz)
            have hbk2 := World.block_lt_of_cell? wr _ hct
            have HBK2 := Lib.hid hbk2
            clear hb hsucc hct hbw hjl hyz hbk2 hwW
            go_wp2_with fail
            go_region_held3 (fun W => W.cell? (ad.add i) = some (.string x) ∧ W.cell? (at_.add j) = some (.string y)) (first | exact q2 | exact ⟨q0, q1⟩) (first
              | (go_at_call 31; refine (HC.out).mono ?_; rintro e w5 ⟨rfl, hb5⟩; have HB5 := Lib.hid (HBI.out.drew.trans (hb5.mono HBI.out.size)); have q2 : w5.cell? (ad.add i) = some (.string x) ∧ w5.cell? (at_.add j) = some (.string y) := ⟨HXC.out w5 (HB3.out.trans (HB5.out.mono HB3.out.size)), (hb5.cell (p := at_.add j) HBK2.out).trans q1⟩; clear hb5))
            go_wp2_with fail
            go_roundw
            case rel => exact ⟨j + 1, by omega, by go_num, by rw [HSU.out]; rfl, HB5.out⟩
            case measure => simp [intOf]; omega
        · obtain rfl : j = m := by omega
          have e1 : b = true := by
            rw [← hb, List.take_of_length_le (by rw [HM.out]; omega)]
            exact HANY.out
          subst e1
          clear hb hbw
          go_wp2_with fail
          go_roundw
          case rel => exact ⟨i + 1, by omega, by go_num, HBI.out⟩
          case measure => simp [intOf]; omega
    · obtain rfl : i = n := by omega
      obtain ⟨vq, hvq⟩ : ∃ vq, vq = wr := ⟨_, rfl⟩
      subst hvq
      clear hlt z0 hi
      go_wp2_with fail
      go_loopw [11, 12] (fun i _ wr => ∃ k : Nat, k ≤ m ∧ i = .int .i64 k ∧ Below v3.heap.size v3 wr) (fun i _ _ => m - (intOf i).toNat)
      case atStart => exact ⟨0, Nat.zero_le _, rfl, HBW.out⟩
      case round =>
        obtain ⟨p, hp, rfl, hbw⟩ := hrel
        have HBO := Lib.hid hbw
        clear hbw
        have x0 : (0 : Int) ≤ (p : Int) := by omega
        by_cases hpm : p < m
        · have x1 : (p : Int) < (m : Int) := by omega
          have hpl : p < ts.length := by rw [HM.out]; exact hpm
          obtain ⟨y, hy⟩ : ∃ y, ts[p]? = some y := ⟨_, List.getElem?_eq_getElem hpl⟩
          have hpm' : y ∈ ts := List.mem_of_getElem? hy
          have HPZ := Lib.hid (HSZ.out _ hpm')
          have HPT := Lib.hid hy
          have HHAS : Hid (∀ W : World, Below w.heap.size w W → Calls Try.prog 35 #[.slice a1 i cap1, .string y] W fun e w' => e = .returned (.bool true) ∧ W = w') := fun W hW => by
            have := rhas_any (.slice a1 i cap1) xs y W (HXS.out.below hW)
            rwa [hasT_yes (HTO.out _ hpm')] at this
          obtain ⟨wo, hwo⟩ : ∃ wo, wo = wr := ⟨_, rfl⟩
          subst hwo
          clear hpm' hy hpl
          go_wp2_with fail
          go_loopw [12] (fun k wr => ∃ j : Nat, j ≤ m ∧ k = .int .i64 j ∧ Below v3.heap.size v3 wr) (fun k _ => m - (intOf k).toNat)
          case atStart => exact ⟨0, Nat.zero_le _, rfl, HBO.out⟩
          case round =>
            obtain ⟨j, hj, rfl, hbw⟩ := hrel
            have HBI := Lib.hid hbw
            have y0 : (0 : Int) ≤ (j : Int) := by omega
            by_cases hjm : j < m
            · have y1 : (j : Int) < (m : Int) := by omega
              have hjl : j < ts.length := by rw [HM.out]; exact hjm
              have hpl : p < ts.length := by rw [HM.out]; exact hpm
              obtain ⟨at_, rfl, hct⟩ := texts_at ((HRT.out.below hbw).more hbw.size) j hjl
              obtain ⟨at2, he2, hct2⟩ := texts_at ((HRT.out.below hbw).more hbw.size) p hpl
              injection he2 with he2
              subst he2
              rw [(List.getElem?_eq_some_iff.1 HPT.out).2] at hct2
              have hyz := HSZ.out ts[j] (List.getElem_mem hjl)
              have hjt : ts[j]? = some ts[j] := List.getElem?_eq_getElem hjl
              generalize ts[j] = z at *
              have hwW := HB3.out.trans (hbw.mono HB3.out.size)
              have q1 : wr.cell? (at_.add p) = some (.string y) := hct2
              have q0 : wr.cell? (at_.add j) = some (.string z) := hct
              have hbk2 := World.block_lt_of_cell? wr _ hct
              have hbk1 := World.block_lt_of_cell? wr _ hct2
              have HBK2 := Lib.hid hbk2
              have HBK1 := Lib.hid hbk1
              have HWW := Lib.hid hwW
              by_cases hpj : p = j
              · subst hpj
                have t0 : ((p : Int) != (p : Int)) = false := bne_self_eq_false _
                clear hct hct2 hbw hjl hyz hbk2 hbk1 hwW hjt hpl q0
                go_wp2_with fail
                -- STEPS
                refine wp_region_held_drew (S := (fun w' => w'.cell? (at_.add p) = some (.string y))) (by kernel_rfl) ?_ (fun hHeld => ?_)
                · try dsimp only
                  exact q1
                refine take_at (i := 0) (d := 80) (v := ?_) rfl (by kernel_rfl) (by kernel_rfl) (by kernel_rfl) (by kernel_rfl) (fun _ _ _ h => h) (Or.inl ⟨by kernel_rfl, ?_⟩) (by assumption) ?_
                rotate_left
                · intro W hSw
                  try dsimp only at hSw
                  go_simp
                  first | done | with_reducible rfl
                try simp only [Act.put, List.setIfInBounds_toArray, List.set_cons_zero, List.set_cons_succ]
                refine take_at (i := 1) (d := 81) (v := ?_) rfl (by kernel_rfl) (by kernel_rfl) (by kernel_rfl) (by kernel_rfl) (fun _ _ _ h => h) (Or.inl ⟨by kernel_rfl, ?_⟩) (by assumption) ?_
                rotate_left
                · intro W hSw
                  try dsimp only at hSw
                  go_simp
                  first | done | with_reducible rfl
                try simp only [Act.put, List.setIfInBounds_toArray, List.set_cons_zero, List.set_cons_succ]
                refine take_at (i := 2) (d := 82) (v := ?_) rfl (by kernel_rfl) (by kernel_rfl) (by kernel_rfl) (by kernel_rfl) (fun _ _ _ h => h) (Or.inl ⟨by kernel_rfl, ?_⟩) (by assumption) ?_
                rotate_left
                · intro W hSw
                  try dsimp only at hSw
                  go_simp
                  first | done | with_reducible rfl
                try simp only [Act.put, List.setIfInBounds_toArray, List.set_cons_zero, List.set_cons_succ]
                refine take_at (i := 3) (d := 83) (v := ?_) rfl (by kernel_rfl) (by kernel_rfl) (by kernel_rfl) (by kernel_rfl) (fun _ _ _ h => h) (Or.inl ⟨by kernel_rfl, ?_⟩) (by assumption) ?_
                rotate_left
                · intro W hSw
                  try dsimp only at hSw
                  go_simp
                  first | done | with_reducible rfl
                try simp only [Act.put, List.setIfInBounds_toArray, List.set_cons_zero, List.set_cons_succ]
                refine take_at (i := 4) (d := 84) (v := undef) rfl (by kernel_rfl) (by kernel_rfl) (by kernel_rfl) (by kernel_rfl) (fun _ _ _ h => h) (Or.inr ⟨by kernel_rfl, rfl⟩) (by assumption) ?_
                try simp only [Act.put, List.setIfInBounds_toArray, List.set_cons_zero, List.set_cons_succ]
                refine take_at (i := 5) (d := 85) (v := undef) rfl (by kernel_rfl) (by kernel_rfl) (by kernel_rfl) (by kernel_rfl) (fun _ _ _ h => h) (Or.inr ⟨by kernel_rfl, rfl⟩) (by assumption) ?_
                try simp only [Act.put, List.setIfInBounds_toArray, List.set_cons_zero, List.set_cons_succ]
                refine take_at (i := 6) (d := 86) (v := undef) rfl (by kernel_rfl) (by kernel_rfl) (by kernel_rfl) (by kernel_rfl) (fun _ _ _ h => h) (Or.inr ⟨by kernel_rfl, rfl⟩) (by assumption) ?_
                try simp only [Act.put, List.setIfInBounds_toArray, List.set_cons_zero, List.set_cons_succ]
                refine take_at (i := 7) (d := 87) (v := undef) rfl (by kernel_rfl) (by kernel_rfl) (by kernel_rfl) (by kernel_rfl) (fun _ _ _ h => h) (Or.inr ⟨by kernel_rfl, rfl⟩) (by assumption) ?_
                try simp only [Act.put, List.setIfInBounds_toArray, List.set_cons_zero, List.set_cons_succ]
                refine take_at (i := 8) (d := 88) (v := undef) rfl (by kernel_rfl) (by kernel_rfl) (by kernel_rfl) (by kernel_rfl) (fun _ _ _ h => h) (Or.inr ⟨by kernel_rfl, rfl⟩) (by assumption) ?_
                try simp only [Act.put, List.setIfInBounds_toArray, List.set_cons_zero, List.set_cons_succ]
                refine take_at (i := 9) (d := 89) (v := undef) rfl (by kernel_rfl) (by kernel_rfl) (by kernel_rfl) (by kernel_rfl) (fun _ _ _ h => h) (Or.inr ⟨by kernel_rfl, rfl⟩) (by assumption) ?_
                try simp only [Act.put, List.setIfInBounds_toArray, List.set_cons_zero, List.set_cons_succ]
                refine take_at (i := 10) (d := 90) (v := undef) rfl (by kernel_rfl) (by kernel_rfl) (by kernel_rfl) (by kernel_rfl) (fun _ _ _ h => h) (Or.inr ⟨by kernel_rfl, rfl⟩) (by assumption) ?_
                try simp only [Act.put, List.setIfInBounds_toArray, List.set_cons_zero, List.set_cons_succ]
                refine take_at (i := 11) (d := 91) (v := undef) rfl (by kernel_rfl) (by kernel_rfl) (by kernel_rfl) (by kernel_rfl) (fun _ _ _ h => h) (Or.inr ⟨by kernel_rfl, rfl⟩) (by assumption) ?_
                try simp only [Act.put, List.setIfInBounds_toArray, List.set_cons_zero, List.set_cons_succ]
                refine take_at (i := 12) (d := 92) (v := undef) rfl (by kernel_rfl) (by kernel_rfl) (by kernel_rfl) (by kernel_rfl) (fun _ _ _ h => h) (Or.inr ⟨by kernel_rfl, rfl⟩) (by assumption) ?_
                try simp only [Act.put, List.setIfInBounds_toArray, List.set_cons_zero, List.set_cons_succ]
                refine take_at (i := 13) (d := 93) (v := undef) rfl (by kernel_rfl) (by kernel_rfl) (by kernel_rfl) (by kernel_rfl) (fun _ _ _ h => h) (Or.inr ⟨by kernel_rfl, rfl⟩) (by assumption) ?_
                try simp only [Act.put, List.setIfInBounds_toArray, List.set_cons_zero, List.set_cons_succ]
                refine take_at (i := 14) (d := 94) (v := ?_) rfl (by kernel_rfl) (by kernel_rfl) (by kernel_rfl) (by kernel_rfl) (fun _ _ _ h => h) (Or.inl ⟨by kernel_rfl, ?_⟩) (by assumption) ?_
                rotate_left
                · intro W hSw
                  try dsimp only at hSw
                  go_simp
                  first | done | with_reducible rfl
                try simp only [Act.put, List.setIfInBounds_toArray, List.set_cons_zero, List.set_cons_succ]
                refine take_at (i := 15) (d := 95) (v := ?_) rfl (by kernel_rfl) (by kernel_rfl) (by kernel_rfl) (by kernel_rfl) (fun _ _ _ h => h) (Or.inl ⟨by kernel_rfl, ?_⟩) (by assumption) ?_
                rotate_left
                · intro W hSw
                  try dsimp only at hSw
                  go_simp
                  first | done | with_reducible rfl
                try simp only [Act.put, List.setIfInBounds_toArray, List.set_cons_zero, List.set_cons_succ]
                refine take_at (i := 16) (d := 96) (v := ?_) rfl (by kernel_rfl) (by kernel_rfl) (by kernel_rfl) (by kernel_rfl) (fun _ _ _ h => h) (Or.inl ⟨by kernel_rfl, ?_⟩) (by assumption) ?_
                rotate_left
                · intro W hSw
                  try dsimp only at hSw
                  go_simp
                  first | done | with_reducible rfl
                try simp only [Act.put, List.setIfInBounds_toArray, List.set_cons_zero, List.set_cons_succ]
                refine take_at (i := 17) (d := 97) (v := ?_) rfl (by kernel_rfl) (by kernel_rfl) (by kernel_rfl) (by kernel_rfl) (fun _ _ _ h => h) (Or.inl ⟨by kernel_rfl, ?_⟩) (by assumption) ?_
                rotate_left
                · intro W hSw
                  try dsimp only at hSw
                  go_simp
                  first | done | with_reducible rfl
                try simp only [Act.put, List.setIfInBounds_toArray, List.set_cons_zero, List.set_cons_succ]
                refine take_at (i := 18) (d := 98) (v := ?_) rfl (by kernel_rfl) (by kernel_rfl) (by kernel_rfl) (by kernel_rfl) (fun _ _ _ h => h) (Or.inl ⟨by kernel_rfl, ?_⟩) (by assumption) ?_
                rotate_left
                · intro W hSw
                  try dsimp only at hSw
                  go_simp
                  first | done | with_reducible rfl
                try simp only [Act.put, List.setIfInBounds_toArray, List.set_cons_zero, List.set_cons_succ]
                refine take_at (i := 19) (d := 99) (v := ?_) rfl (by kernel_rfl) (by kernel_rfl) (by kernel_rfl) (by kernel_rfl) (fun _ _ _ h => h) (Or.inl ⟨by kernel_rfl, ?_⟩) (by assumption) ?_
                rotate_left
                · intro W hSw
                  try dsimp only at hSw
                  go_simp
                  first | done | with_reducible rfl
                try simp only [Act.put, List.setIfInBounds_toArray, List.set_cons_zero, List.set_cons_succ]
                refine take_at (i := 20) (d := 100) (v := ?_) rfl (by kernel_rfl) (by kernel_rfl) (by kernel_rfl) (by kernel_rfl) (fun _ _ _ h => h) (Or.inl ⟨by kernel_rfl, ?_⟩) (by assumption) ?_
                rotate_left
                · intro W hSw
                  try dsimp only at hSw
                  go_simp
                  first | done | with_reducible rfl
                try simp only [Act.put, List.setIfInBounds_toArray, List.set_cons_zero, List.set_cons_succ]
                refine wpAnyH_ready (rs := [21]) (by kernel_rfl) (by simp) (AllReadyH.cons rfl (fun K hK => ?_) AllReadyH.nil)
                go_simp
                refine (HHAS.out _ HWW.out.drew).mono ?_
                rintro e w6 ⟨rfl, rfl⟩
                try go_wp2_with fail
                refine hK.out _ _ ?_ (fun hHeld => ?_)
                · try dsimp only
                  exact q1
                clear hK K
                try simp only [Act.put, List.setIfInBounds_toArray, List.set_cons_zero, List.set_cons_succ]
                refine take_at (i := 22) (d := 102) (v := ?_) rfl (by kernel_rfl) (by kernel_rfl) (by kernel_rfl) (by kernel_rfl) (fun _ _ _ h => h) (Or.inl ⟨by kernel_rfl, ?_⟩) (by assumption) ?_
                rotate_left
                · intro W hSw
                  try dsimp only at hSw
                  go_simp
                  first | done | with_reducible rfl
                try simp only [Act.put, List.setIfInBounds_toArray, List.set_cons_zero, List.set_cons_succ]
                refine take_at (i := 23) (d := 103) (v := ?_) rfl (by kernel_rfl) (by kernel_rfl) (by kernel_rfl) (by kernel_rfl) (fun _ _ _ h => h) (Or.inl ⟨by kernel_rfl, ?_⟩) (by assumption) ?_
                rotate_left
                · intro W hSw
                  try dsimp only at hSw
                  go_simp
                  first | done | with_reducible rfl
                try simp only [Act.put, List.setIfInBounds_toArray, List.set_cons_zero, List.set_cons_succ]
                refine wpAnyH_done (by kernel_rfl) ?_ _
                go_wp2_with fail
                go_roundw
                case rel => exact ⟨p + 1, by omega, by go_num, HBI.out.drew⟩
                case measure => simp [intOf]; omega
                -- END STEPS
              · have t0 : ((p : Int) != (j : Int)) = true := by rw [bne_iff_ne]; omega
                have hf := HTA.out p j y z HPT.out hjt hpj
                have hcall := his.out wr.drew y z ((HB23.out.trans (hbw.mono HB23.out.size)).drew) HPZ.out hyz
                rw [hf] at hcall
                have HC := Lib.hid hcall
                clear hct hct2 hbw hjl hyz hbk2 hbk1 hwW hjt hpl hf hcall
                go_wp2_with fail
                go_region_held3 (fun W => W.cell? (at_.add j) = some (.string z) ∧ W.cell? (at_.add p) = some (.string y)) (first | exact q2 | exact ⟨q0, q1⟩) (first
                  | (go_at_call 35; have _k := HB5; refine (HHAS.out _ (HB3.out.trans (HB5.out.mono HB3.out.size))).mono ?_; rintro e w6 ⟨rfl, rfl⟩)
                  | (go_at_call 31; refine (HC.out).mono ?_; rintro e w5 ⟨rfl, hb5⟩; have HB5 := Lib.hid (HBI.out.drew.trans (hb5.mono HBI.out.size)); have q2 : w5.cell? (at_.add j) = some (.string z) ∧ w5.cell? (at_.add p) = some (.string y) := ⟨(hb5.cell (p := at_.add j) HBK2.out).trans q0, (hb5.cell (p := at_.add p) HBK1.out).trans q1⟩; clear hb5))
                go_wp2_with fail
                go_roundw
                case rel => exact ⟨j + 1, by omega, by go_num, HB5.out⟩
                case measure => simp [intOf]; omega
            · obtain rfl : j = m := by omega
              clear hbw
              go_wp2_with fail
              go_roundw
              case rel => exact ⟨p + 1, by omega, by go_num, HBI.out⟩
              case measure => simp [intOf]; omega
        · obtain rfl : p = m := by omega
          have HCT := Lib.hid (htops2.out wr HBO.out)
          clear hpm x0 hp
          go_wp2_with fail
          refine (HCT.out).mono ?_
          rintro e v6 ⟨hb6, ⟨_, vu, rfl, hou⟩ | ⟨hx, _⟩⟩
          case inr => cases hx
          have hb36 : Below v3.heap.size v3 v6 := HBO.out.trans (hb6.mono HBO.out.size)
          have HB36 := Lib.hid hb36
          have HOU := Lib.hid hou.slv
          clear hb6 hou hb36
          go_wp2_with fail
          refine (gfirst_any v6).mono ?_
          rintro e v7 ⟨rfl, hb7⟩
          have hb37 := HB36.out.trans (hb7.mono HB36.out.size)
          have hsame := texts_same vu _ ts v7 (HOU.out.below hb7) (HSL.out.below hb37)
          have HSAME := Lib.hid hsame
          have HB7 := Lib.hid (HB3.out.trans (hb37.mono HB3.out.size))
          clear hb7 hb37 hsame
          go_wp2_with fail
          refine (HSAME.out).mono ?_
          rintro e v8 ⟨rfl, hb8⟩
          have HB8 := Lib.hid (HB7.out.trans (hb8.mono HB7.out.size))
          clear hb8
          go_wp2_with fail
          go_ret
          exact ⟨rfl, HB8.out⟩
end Go.Proofs.Ytcjhkfklkcmehaa.Tx
