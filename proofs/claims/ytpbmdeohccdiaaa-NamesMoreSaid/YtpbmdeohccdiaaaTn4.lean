/- The reference's Join, Under, Parents, Copy. -/
import Derived.Test.YtpbmdeohccdiaaaTn2
namespace Go.Proofs.Ytpbmdeohccdiaaa.Tx
open Go.RowKit Go.Proofs.Ytpbmdeohccdiaaa.Sh

theorem str_append (a b : List UInt8) : str a ++ str b = str (a ++ b) := by
  unfold str
  apply ByteArray.ext
  rw [ByteArray.data_append]
  simp

/-- Is s beneath d? -/
def underB (d s : List UInt8) : Bool := pathB d && pathB s && decide (d.length + 1 < s.length) && (s.take d.length == d) && (s[d.length]? == some 47)
set_option maxRecDepth 100000 in
set_option maxHeartbeats 1600000 in
theorem runder_any (ds cs : List UInt8) (w : World) (hd : ds.length ≤ 1000000) (hn : cs.length ≤ 1000000) : Calls Try.prog 22 #[.string (str ds), .string (str cs)] w (BoolPost w (underB ds cs)) := by
  have hsz := str_size cs
  have hdz := str_size ds
  obtain ⟨t1, ht1⟩ : ∃ t, pathB ds = t := ⟨_, rfl⟩
  have HT1 := Lib.hid ht1
  cases t1 with
  | false =>
    have HR : Hid (underB ds cs = false) := by unfold Hid underB; rw [ht1]; rfl
    clear ht1
    go_enter Try.func22, Try.ntmps22
    go_wp2_with fail
    refine (rpath_any ds _ hd).mono ?_
    rintro e w1 ⟨rfl, hb⟩
    rw [HT1.out]
    have HB := Lib.hid hb
    clear hb
    go_wp2_with fail
    go_ret
    exact ⟨by rw [HR.out]; rfl, HB.out⟩
  | true =>
    obtain ⟨t2, ht2⟩ : ∃ t, pathB cs = t := ⟨_, rfl⟩
    have HT2 := Lib.hid ht2
    have HU : Hid (underB ds cs = (t2 && decide (ds.length + 1 < cs.length) && (cs.take ds.length == ds) && (cs[ds.length]? == some 47))) := by unfold Hid underB; rw [ht1, ht2, Bool.true_and]
    clear ht1 ht2
    have hdl : Hid (ds.length ≤ 200) := pathB_len HT1.out
    cases t2 with
    | false =>
      go_enter Try.func22, Try.ntmps22
      go_wp2_with fail
      refine (rpath_any ds _ hd).mono ?_
      rintro e w1 ⟨rfl, hb⟩
      rw [HT1.out]
      have HB := Lib.hid hb
      clear hb
      go_wp2_with fail
      refine (rpath_any cs _ hn).mono ?_
      rintro e w2 ⟨rfl, hb⟩
      rw [HT2.out]
      have HB2 := Lib.hid (HB.out.trans (hb.mono HB.out.size))
      clear hb
      go_wp2_with fail
      go_ret
      exact ⟨by rw [HU.out]; rfl, HB2.out⟩
    | true =>
      have hcl : Hid (cs.length ≤ 200) := pathB_len HT2.out
      obtain ⟨l, hL⟩ : ∃ l, cs.length = l := ⟨_, rfl⟩
      obtain ⟨m, hM⟩ : ∃ m, ds.length = m := ⟨_, rfl⟩
      rw [hL] at hsz hn
      rw [hM] at hdz hd
      have n0 : (0 : Int) ≤ (l : Int) := by omega
      have n1 : (l : Int) ≤ 200 := by have := hcl.out; omega
      have n2 : (0 : Int) ≤ (m : Int) := by omega
      have n3 : (m : Int) ≤ 200 := by have := hdl.out; omega
      have HL := Lib.hid hL
      have HM := Lib.hid hM
      clear hL hM
      by_cases h1 : m + 1 < l
      · have z1 : (m : Int) + 1 < (l : Int) := by omega
        have z2 : (m : Int) ≤ (l : Int) := by omega
        have z3 : (m : Int) < (l : Int) := by omega
        have hix := index_str cs m (by rw [HL.out]; omega)
        obtain ⟨x, hx⟩ : ∃ x, cs.getD m 0 = x := ⟨_, rfl⟩
        have hx' : cs[m]? = some x := by rw [← hx, List.getD_eq_getElem?_getD, List.getElem?_eq_getElem (by rw [HL.out]; omega)]; rfl
        rw [hx] at hix
        have hU2 : underB ds cs = ((cs.take m == ds) && (x == 47)) := by
          rw [HU.out, HL.out, HM.out, hx']
          simp [h1]
        have HU2 := Lib.hid hU2
        clear hx hx' hU2
        have hsl := slice_str cs 0 m
        have htl := str_toList ds
        have htl2 := str_toList ((cs.take m).drop 0)
        rw [List.drop_zero] at htl2 hsl
        by_cases h2 : cs.take m = ds
        · have e1 : (((str cs).extract 0 m).toList == (str ds).toList) = true := by rw [hsl, htl2, htl, h2]; exact beq_self_eq_true _
          have H2 : Hid ((cs.take m == ds) = true) := by unfold Hid; rw [h2]; exact beq_self_eq_true _
          clear hsl htl htl2 h2
          by_cases h3 : x = 47
          · subst h3
            rw [bi47] at hix
            go_enter Try.func22, Try.ntmps22
            go_wp2_with fail
            refine (rpath_any ds _ (by rw [HM.out]; exact hd)).mono ?_
            rintro e w1 ⟨rfl, hb⟩
            rw [HT1.out]
            have HB := Lib.hid hb
            clear hb
            go_wp2_with fail
            refine (rpath_any cs _ (by rw [HL.out]; exact hn)).mono ?_
            rintro e w2 ⟨rfl, hb⟩
            rw [HT2.out]
            have HB2 := Lib.hid (HB.out.trans (hb.mono HB.out.size))
            clear hb
            go_wp2_with fail
            go_ret
            exact ⟨by rw [HU2.out, H2.out]; rfl, HB2.out⟩
          · have e3 : (bi x == 47) = false := by rw [← bi47, beq_eq_false_iff_ne]; exact fun e => h3 (bi_inj e)
            have H3 : Hid ((x == 47) = false) := by unfold Hid; simpa using h3
            generalize bi x = y at *
            clear h3
            go_enter Try.func22, Try.ntmps22
            go_wp2_with fail
            refine (rpath_any ds _ (by rw [HM.out]; exact hd)).mono ?_
            rintro e w1 ⟨rfl, hb⟩
            rw [HT1.out]
            have HB := Lib.hid hb
            clear hb
            go_wp2_with fail
            refine (rpath_any cs _ (by rw [HL.out]; exact hn)).mono ?_
            rintro e w2 ⟨rfl, hb⟩
            rw [HT2.out]
            have HB2 := Lib.hid (HB.out.trans (hb.mono HB.out.size))
            clear hb
            go_wp2_with fail
            go_ret
            exact ⟨by rw [HU2.out, H2.out, H3.out]; rfl, HB2.out⟩
        · have e1 : (((str cs).extract 0 m).toList == (str ds).toList) = false := by rw [hsl, htl2, htl]; exact list_other h2
          have H2 : Hid ((cs.take m == ds) = false) := list_other h2
          clear hsl htl htl2 h2 hix
          go_enter Try.func22, Try.ntmps22
          go_wp2_with fail
          refine (rpath_any ds _ (by rw [HM.out]; exact hd)).mono ?_
          rintro e w1 ⟨rfl, hb⟩
          rw [HT1.out]
          have HB := Lib.hid hb
          clear hb
          go_wp2_with fail
          refine (rpath_any cs _ (by rw [HL.out]; exact hn)).mono ?_
          rintro e w2 ⟨rfl, hb⟩
          rw [HT2.out]
          have HB2 := Lib.hid (HB.out.trans (hb.mono HB.out.size))
          clear hb
          go_wp2_with fail
          go_ret
          exact ⟨by rw [HU2.out, H2.out]; rfl, HB2.out⟩
      · have z1 : (l : Int) ≤ (m : Int) + 1 := by omega
        have HU2 : Hid (underB ds cs = false) := by
          unfold Hid
          rw [HU.out, HL.out, HM.out]
          simp [h1]
        go_enter Try.func22, Try.ntmps22
        go_wp2_with fail
        refine (rpath_any ds _ (by rw [HM.out]; exact hd)).mono ?_
        rintro e w1 ⟨rfl, hb⟩
        rw [HT1.out]
        have HB := Lib.hid hb
        clear hb
        go_wp2_with fail
        refine (rpath_any cs _ (by rw [HL.out]; exact hn)).mono ?_
        rintro e w2 ⟨rfl, hb⟩
        rw [HT2.out]
        have HB2 := Lib.hid (HB.out.trans (hb.mono HB.out.size))
        clear hb
        go_wp2_with fail
        go_ret
        exact ⟨by rw [HU2.out]; rfl, HB2.out⟩
end Go.Proofs.Ytpbmdeohccdiaaa.Tx
