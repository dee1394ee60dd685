/- The walks of NamesUnder, NamesPaths, NamesIgnored, whole. -/
import Derived.Test.YtpbmdeohccdiaaaNm2
namespace Go.Proofs.Ytpbmdeohccdiaaa.Tx
open Go.RowKit Go.Proofs.Ytpbmdeohccdiaaa.Sh

set_option maxRecDepth 100000 in
set_option maxHeartbeats 1600000 in
theorem under_big (a b id : ByteArray) (n : Int) (w : World) (h : 1000 < a.size ∨ 1000 < b.size ∨ 1000 < id.size) :
    Calls Try.prog 4 #[.string a, .string b, .string id, .int .i64 n] w (Yes w) := by
  have hc : (1000 : Int) < (a.size : Int) ∨ ((a.size : Int) ≤ 1000 ∧ (1000 : Int) < (b.size : Int)) ∨ ((a.size : Int) ≤ 1000 ∧ (b.size : Int) ≤ 1000 ∧ (1000 : Int) < (id.size : Int)) := by omega
  clear h
  rcases hc with h1 | ⟨h1, h2⟩ | ⟨h1, h2, h3⟩
  all_goals
    go_enter Try.func4, Try.ntmps4
    go_wp2_with fail
    refine (first_then (Below.refl _ _)).mono ?_
    rintro e w1 ⟨rfl, hb1⟩
    have HB1 := Lib.hid hb1
    clear hb1
    go_wp2_with fail
    refine (first_then HB1.out).mono ?_
    rintro e w2 ⟨rfl, hb2⟩
    have HB2 := Lib.hid hb2
    clear hb2
    go_wp2_with fail
    go_ret
    exact ⟨rfl, HB2.out⟩
theorem namesUnder_walk (a b id : ByteArray) (n : Int) (w : World) (_ : a.size ≤ maxLen) (_ : b.size ≤ maxLen) (_ : id.size ≤ maxLen) (_ : (Lit.int .i64 n).wf = true) :
    Calls Try.prog 4 #[.string a, .string b, .string id, .int .i64 n] w (Yes w) := by
  by_cases h : 1000 < a.size ∨ 1000 < b.size ∨ 1000 < id.size
  · exact under_big a b id n w h
  · obtain ⟨xs, rfl, h1⟩ := str_of a
    obtain ⟨ys, rfl, h2⟩ := str_of b
    obtain ⟨is, rfl, h3⟩ := str_of id
    exact under_in xs ys is n w (by omega) (by omega) (by omega)

set_option maxRecDepth 100000 in
set_option maxHeartbeats 3200000 in
theorem ignored_in (v : Value) (ls : List (List UInt8)) (xs ps : List UInt8) (w : World) (h : SlV w v ((ls.map str).map sv)) (hsz : ∀ p ∈ ls, p.length ≤ maxLen) :
    Calls Try.prog 5 #[v, .string (str xs), .string (str ps)] w (Yes w) := by
  have H := Lib.hid h
  have HSZ := Lib.hid hsz
  have z1 := str_size xs
  have z2 := str_size ps
  obtain ⟨l1, hl1⟩ : ∃ l, xs.length = l := ⟨_, rfl⟩
  obtain ⟨l2, hl2⟩ : ∃ l, ps.length = l := ⟨_, rfl⟩
  rw [hl1] at z1
  rw [hl2] at z2
  have HL1 := Lib.hid hl1
  have HL2 := Lib.hid hl2
  clear h hsz hl1 hl2
  go_enter Try.func5, Try.ntmps5
  go_wp2_with fail
  refine (first_then (Below.refl _ _)).mono ?_
  rintro e w1 ⟨rfl, hb1⟩
  have HB1 := Lib.hid hb1
  clear hb1
  go_wp2_with fail
  refine (few_any v ls _ (H.out.below HB1.out) HSZ.out).mono ?_
  rintro e w2 ⟨t, rfl, ht, rfl⟩
  have HT := Lib.hid ht
  clear ht
  cases t with
  | false =>
    go_wp2_with fail
    refine (first_then HB1.out).mono ?_
    rintro e w2 ⟨rfl, hb2⟩
    have HB2 := Lib.hid hb2
    clear hb2
    go_wp2_with fail
    go_ret
    exact ⟨rfl, HB2.out⟩
  | true =>
    have hcase : (1000 : Int) < (l1 : Int) ∨ ((l1 : Int) ≤ 1000 ∧ (1000 : Int) < (l2 : Int)) ∨ ((l1 : Int) ≤ 1000 ∧ (l2 : Int) ≤ 1000) := by omega
    rcases hcase with g1 | ⟨g1, g2⟩ | ⟨g1, g2⟩
    · go_wp2_with fail
      refine (first_then HB1.out).mono ?_
      rintro e w2 ⟨rfl, hb2⟩
      have HB2 := Lib.hid hb2
      clear hb2
      go_wp2_with fail
      go_ret
      exact ⟨rfl, HB2.out⟩
    · go_wp2_with fail
      refine (first_then HB1.out).mono ?_
      rintro e w2 ⟨rfl, hb2⟩
      have HB2 := Lib.hid hb2
      clear hb2
      go_wp2_with fail
      go_ret
      exact ⟨rfl, HB2.out⟩
    · have hfew := HT.out rfl
      have HN : Hid (ls.length ≤ 1000000 ∧ ∀ p ∈ ls, p.length ≤ 1000000) := ⟨by omega, fun p hp => by have := hfew.2 p hp; omega⟩
      have HX1 : Hid (xs.length ≤ 1000000) := by unfold Hid; rw [HL1.out]; omega
      have HX2 : Hid (ps.length ≤ 1000000) := by unfold Hid; rw [HL2.out]; omega
      clear hfew
      go_wp2_with fail
      refine (first_then HB1.out).mono ?_
      rintro e w2 ⟨rfl, hb2⟩
      have HB2 := Lib.hid hb2
      clear hb2
      go_wp2_with fail
      refine (nignored_any v ls xs _ (H.out.below HB2.out) HN.out.1 HN.out.2 HX1.out).mono ?_
      rintro e w3 ⟨rfl, hb3⟩
      have HB3 := Lib.hid (HB2.out.trans (hb3.mono HB2.out.size))
      clear hb3
      go_wp2_with fail
      refine (rignored_any v ls xs _ (H.out.below HB3.out) HN.out.1 HN.out.2 HX1.out).mono ?_
      rintro e w4 ⟨rfl, hb4⟩
      have HB4 := Lib.hid (HB3.out.trans (hb4.mono HB3.out.size))
      clear hb4
      generalize ignoredB ls xs = t1
      have e1 : (t1 == t1) = true := beq_self_eq_true _
      go_wp2_with fail
      refine (npattern_any ps _ HX2.out).mono ?_
      rintro e w5 ⟨rfl, hb5⟩
      have HB5 := Lib.hid (HB4.out.trans (hb5.mono HB4.out.size))
      clear hb5
      go_wp2_with fail
      refine (rpatternB_any ps _ HX2.out).mono ?_
      rintro e w6 ⟨rfl, hb6⟩
      have HB6 := Lib.hid (HB5.out.trans (hb6.mono HB5.out.size))
      clear hb6
      generalize (patL ps).isSome = t2
      have e2 : (t2 == t2) = true := beq_self_eq_true _
      go_wp2_with fail
      go_ret
      exact ⟨rfl, HB6.out⟩
theorem namesIgnored_walk (a : Option Addr) (len cap : Nat) (ss : List ByteArray) (s p : ByteArray) (w : World) (h : IsTexts w a len cap ss) (_ : s.size ≤ maxLen) (_ : p.size ≤ maxLen) :
    Calls Try.prog 5 #[.slice a len cap, .string s, .string p] w (Yes w) := by
  obtain ⟨ls, _, g1, g2⟩ := texts_of h
  obtain ⟨xs, rfl, _⟩ := str_of s
  obtain ⟨ps, rfl, _⟩ := str_of p
  exact ignored_in _ ls xs ps w g1 g2

set_option maxRecDepth 100000 in
set_option maxHeartbeats 3200000 in
theorem paths_in (v : Value) (ls : List (List UInt8)) (xs : List UInt8) (w : World) (h : SlV w v ((ls.map str).map sv)) (hsz : ∀ p ∈ ls, p.length ≤ maxLen) :
    Calls Try.prog 3 #[.string (str xs), v] w (Yes w) := by
  have H := Lib.hid h
  have HSZ := Lib.hid hsz
  have z1 := str_size xs
  obtain ⟨l1, hl1⟩ : ∃ l, xs.length = l := ⟨_, rfl⟩
  rw [hl1] at z1
  have HL1 := Lib.hid hl1
  clear h hsz hl1
  by_cases hbig : 1000 < l1
  · have g1 : (1000 : Int) < (l1 : Int) := by omega
    go_enter Try.func3, Try.ntmps3
    go_wp2_with fail
    refine (first_then (Below.refl _ _)).mono ?_
    rintro e w1 ⟨rfl, hb1⟩
    have HB1 := Lib.hid hb1
    clear hb1
    go_wp2_with fail
    refine (first_then HB1.out).mono ?_
    rintro e w2 ⟨rfl, hb2⟩
    have HB2 := Lib.hid hb2
    clear hb2
    go_wp2_with fail
    go_ret
    exact ⟨rfl, HB2.out⟩
  · have g1 : (l1 : Int) ≤ 1000 := by omega
    have HX1 : Hid (xs.length ≤ 1000000) := by unfold Hid; rw [HL1.out]; omega
    go_enter Try.func3, Try.ntmps3
    go_wp2_with fail
    refine (first_then (Below.refl _ _)).mono ?_
    rintro e w1 ⟨rfl, hb1⟩
    have HB1 := Lib.hid hb1
    clear hb1
    go_wp2_with fail
    refine (few_any v ls _ (H.out.below HB1.out) HSZ.out).mono ?_
    rintro e w2 ⟨t, rfl, ht, rfl⟩
    have HT := Lib.hid ht
    clear ht
    cases t with
    | false =>
      go_wp2_with fail
      refine (first_then HB1.out).mono ?_
      rintro e w2 ⟨rfl, hb2⟩
      have HB2 := Lib.hid hb2
      clear hb2
      go_wp2_with fail
      go_ret
      exact ⟨rfl, HB2.out⟩
    | true =>
      have hfew := HT.out rfl
      have HN : Hid (ls.length ≤ 1000000 ∧ ∀ p ∈ ls, p.length ≤ 1000000) := ⟨by omega, fun p hp => by have := hfew.2 p hp; omega⟩
      clear hfew
      go_wp2_with fail
      refine (copyt_any v _ _ (H.out.below HB1.out) (by rw [List.length_map]; have := HN.out.1; omega)).mono ?_
      rintro e w3 ⟨v3, rfl, ho3, hb3⟩
      have HO3 := Lib.hid ho3
      have HB3 := Lib.hid (HB1.out.trans (hb3.mono HB1.out.size))
      clear ho3 hb3 HB1
      go_wp2_with fail
      refine (njoin_any v3 ls _ HO3.out.slv HN.out.1 HN.out.2).mono ?_
      rintro e w4 ⟨rfl, hb4⟩
      have HO4 := Lib.hid (HO3.out.below hb4)
      have HB4 := Lib.hid (HB3.out.trans (hb4.mono HB3.out.size))
      clear hb4 HB3 HO3
      go_wp2_with fail
      refine (rjoin_any v ls _ (H.out.below HB4.out) HN.out.1 HN.out.2).mono ?_
      rintro e w5 ⟨rfl, hb5⟩
      have HO5 := Lib.hid (HO4.out.below hb5)
      have HB5 := Lib.hid (HB4.out.trans (hb5.mono HB4.out.size))
      clear hb5 HB4 HO4
      obtain ⟨jt, hjt⟩ : ∃ jt, str (joinT ls) = jt := ⟨_, rfl⟩
      obtain ⟨je, hje⟩ : ∃ je, joinE ls = je := ⟨_, rfl⟩
      rw [hjt, hje]
      clear hjt hje
      have e1 : (jt.toList == jt.toList) = true := beq_self_eq_true _
      have e2 : (je == je) = true := beq_self_eq_true _
      go_wp2_with fail
      refine (first_any _).mono ?_
      rintro e w6 ⟨rfl, hb6⟩
      have HO6 := Lib.hid (HO5.out.below hb6)
      have HB6 := Lib.hid (HB5.out.trans (hb6.mono HB5.out.size))
      clear hb6 HB5 HO5
      go_wp2_with fail
      refine (nname_any xs _ HX1.out).mono ?_
      rintro e w7 ⟨rfl, hb7⟩
      have HO7 := Lib.hid (HO6.out.below hb7)
      have HB7 := Lib.hid (HB6.out.trans (hb7.mono HB6.out.size))
      clear hb7 HB6 HO6
      go_wp2_with fail
      refine (rname_any xs _ HX1.out).mono ?_
      rintro e w8 ⟨rfl, rfl⟩
      obtain ⟨t1, ht1⟩ : ∃ t, nameB xs = t := ⟨_, rfl⟩
      rw [ht1]
      clear ht1
      have e3 : (t1 == t1) = true := beq_self_eq_true _
      go_wp2_with fail
      refine (npath_any xs _ HX1.out).mono ?_
      rintro e w9 ⟨rfl, hb9⟩
      have HO9 := Lib.hid (HO7.out.below hb9)
      have HB9 := Lib.hid (HB7.out.trans (hb9.mono HB7.out.size))
      clear hb9 HB7 HO7
      go_wp2_with fail
      refine (rpath_any xs _ HX1.out).mono ?_
      rintro e w10 ⟨rfl, hb10⟩
      have HO10 := Lib.hid (HO9.out.below hb10)
      have HB10 := Lib.hid (HB9.out.trans (hb10.mono HB9.out.size))
      clear hb10 HB9 HO9
      obtain ⟨t2, ht2⟩ : ∃ t, pathB xs = t := ⟨_, rfl⟩
      rw [ht2]
      clear ht2
      have e4 : (t2 == t2) = true := beq_self_eq_true _
      go_wp2_with fail
      refine (nsplit_any xs _ HX1.out).mono ?_
      rintro e w11 ⟨v11, rfl, ho11, hb11⟩
      have HV11 := Lib.hid ho11
      have HO11 := Lib.hid (HO10.out.below hb11)
      have HB11 := Lib.hid (HB10.out.trans (hb11.mono HB10.out.size))
      clear ho11 hb11 HB10 HO10
      go_wp2_with fail
      refine (rnames_any xs _ HX1.out).mono ?_
      intro e w12 hp12
      obtain ⟨v12, rfl, ho12, hb12⟩ := rnames_post hp12
      have HV12 := Lib.hid ho12
      have HV11' := Lib.hid (HV11.out.below hb12)
      have HO12 := Lib.hid (HO11.out.below hb12)
      have HB12 := Lib.hid (HB11.out.trans (hb12.mono HB11.out.size))
      clear hp12 ho12 hb12 HB11 HO11 HV11
      go_wp2_with fail
      refine (texts_same v11 v12 _ _ HV11'.out.slv HV12.out.slv).mono ?_
      rintro e w13 ⟨rfl, hb13⟩
      have HO13 := Lib.hid (HO12.out.below hb13)
      have HB13 := Lib.hid (HB12.out.trans (hb13.mono HB12.out.size))
      clear hb13 HB12 HO12
      go_wp2_with fail
      refine (texts_same v3 v _ _ HO13.out.slv (H.out.below HB13.out)).mono ?_
      rintro e w14 ⟨rfl, hb14⟩
      have HB14 := Lib.hid (HB13.out.trans (hb14.mono HB13.out.size))
      clear hb14 HB13 HO13
      go_wp2_with fail
      go_ret
      exact ⟨rfl, HB14.out⟩
theorem namesPaths_walk (s : ByteArray) (a : Option Addr) (len cap : Nat) (ss : List ByteArray) (w : World) (_ : s.size ≤ maxLen) (h : IsTexts w a len cap ss) :
    Calls Try.prog 3 #[.string s, .slice a len cap] w (Yes w) := by
  obtain ⟨ls, _, g1, g2⟩ := texts_of h
  obtain ⟨xs, rfl, _⟩ := str_of s
  exact paths_in _ ls xs w g1 g2
end Go.Proofs.Ytpbmdeohccdiaaa.Tx
