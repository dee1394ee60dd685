/- marlaw6.ObjCuts: the walk. -/
import Derived.Test.YtcbiajajoojgmaaK2
namespace Go.Proofs.Ytcbiajajoojgmaa.Ob
open Go.RowKit Go.Proofs.Ytcbiajajoojgmaa.Sh
open Go.Proofs.Ytcbiajajoojgmaa.Tx (OwnV SlV sv bl nameB reads_at texts_at toList_ne')

theorem ObV.lits {w : World} {v : Value} {o : ObM} (h : ObV w v o) : ∃ A l c A2 l2 c2 A3 l3 c3, v = .agg #[.int .i64 o.kind, .slice A l c, .slice A2 l2 c2, .string (str o.tree), .slice A3 l3 c3, .int .i64 o.stamp, .int .i64 o.author, .string (str o.msg)] := by
  obtain ⟨d, it, ps, rfl, ⟨A, c, rfl, _⟩, ⟨A2, c2, rfl, _⟩, ⟨A3, c3, rfl, _⟩⟩ := h
  exact ⟨A, _, c, A2, _, c2, A3, _, c3, rfl⟩
theorem DecIs.ob {w w' : World} {bs : List UInt8} {v : Value} {k : Int} (h : DecIs w bs v k w') : ∃ o, ObO w' w.heap.size v o := by
  cases hd : decB bs with
  | false => exact ⟨_, h.no hd⟩
  | true => exact ⟨_, (h.yes hd).2⟩
set_option maxRecDepth 100000 in
set_option maxHeartbeats 3200000 in
theorem objCuts_walk (v : Value) (o : ObM) (cut more : Int) (w : World) (h : ObV w v o) (_hcw : (Lit.int .i64 cut).wf = true) (hmw : (Lit.int .u8 more).wf = true) : Calls Try.prog 6 #[v, .int .i64 cut, .int .u8 more] w (Yes w) := by
  have HV := Lib.hid h
  obtain ⟨A, l, c, A2, l2, c2, A3, l3, c3, rfl⟩ := h.lits
  have HMB := Lib.hid (bi_of hmw)
  clear h hmw
  have HB0 : Hid (Below w.heap.size w (w.alloc (.cells #[.int .i64 o.kind, .slice A l c, .slice A2 l2 c2, .string (str o.tree), .slice A3 l3 c3, .int .i64 o.stamp, .int .i64 o.author, .string (str o.msg)] 26))) := (Below.refl _ _).alloc (Nat.le_refl _) _
  have HK0 : Hid (Blk (w.alloc (.cells #[.int .i64 o.kind, .slice A l c, .slice A2 l2 c2, .string (str o.tree), .slice A3 l3 c3, .int .i64 o.stamp, .int .i64 o.author, .string (str o.msg)] 26)) w.heap.size 26 #[.int .i64 o.kind, .slice A l c, .slice A2 l2 c2, .string (str o.tree), .slice A3 l3 c3, .int .i64 o.stamp, .int .i64 o.author, .string (str o.msg)]) := Blk.new _ _ _
  go_enter Try.func6, Try.ntmps6
  go_wp2_with fail
  refine (first_any _).mono ?_
  rintro e w1 ⟨rfl, hb1⟩
  have HB1 := Lib.hid (Below.after HB0.out hb1)
  have HK1 := Lib.hid (HK0.out.below hb1 HK0.out.lt)
  clear hb1
  obtain ⟨x0, x1, x2, x3, x4, x5, x6, x7⟩ := box_cells HK1.out
  go_wp2_with fail
  clear x0 x1 x2 x3 x4 x5 x6 x7
  refine (few_any _ o w1 (HV.out.below HB1.out)).mono ?_
  rintro e w2 ⟨t1, rfl, ht1, hb2⟩
  have HB2 := Lib.hid (Below.after HB1.out hb2)
  have HK2 := Lib.hid (HK1.out.below hb2 HK1.out.lt)
  clear hb2 ht1
  cases t1 with
  | false =>
    go_wp2_with fail
    refine (first_any w2).mono ?_
    rintro e w3 ⟨rfl, hb3⟩
    have HB3 := Lib.hid (Below.after HB2.out hb3)
    clear hb3
    go_wp2_with fail
    go_ret
    exact ⟨rfl, HB3.out⟩
  | true =>
    obtain ⟨x0, x1, x2, x3, x4, x5, x6, x7⟩ := box_cells HK2.out
    by_cases hk1 : o.kind = 1
    · have e1 : (o.kind == 1) = true := beq_iff_eq.2 hk1
      clear hk1
      go_wp2_with fail
      clear x0 x1 x2 x3 x4 x5 x6 x7
      refine (first_any w2).mono ?_
      rintro e w3 ⟨rfl, hb3⟩
      have HB3 := Lib.hid (Below.after HB2.out hb3)
      clear hb3
      go_wp2_with fail
      go_ret
      exact ⟨rfl, HB3.out⟩
    · have e1 : (o.kind == 1) = false := beq_eq_false_iff_ne.2 hk1
      have HK := Lib.hid hk1
      clear hk1
      go_wp2_with fail
      clear x0 x1 x2 x3 x4 x5 x6 x7
      refine (encode_any _ o w2 (HV.out.below HB2.out)).mono ?_
      rintro e w3 ⟨hy, hn, hb3⟩
      have HB3 := Lib.hid (Below.after HB2.out hb3)
      obtain ⟨r, hr⟩ : ∃ r, mayB o = r := ⟨_, rfl⟩
      have HR := Lib.hid hr
      clear hr hb3
      have HFIRST : Hid (Calls Try.prog 9 #[] w3 (Yes w3)) := first_any w3
      cases r with
      | false =>
        obtain rfl := hn HR.out
        clear hy hn
        go_wp2_with fail
        refine HFIRST.out.mono ?_
        rintro e w4 ⟨rfl, hb4⟩
        have HB4 := Lib.hid (Below.after HB3.out hb4)
        clear hb4
        go_wp2_with fail
        go_ret
        exact ⟨rfl, HB4.out⟩
      | true =>
        obtain ⟨u, rfl, hu⟩ := hy HR.out
        have HU := Lib.hid hu.sl
        obtain ⟨UA, uc, rfl, hul, hum⟩ := Own.length hu
        unfold maxLen at hum
        obtain ⟨n, hn'⟩ : ∃ n, (encL o).length = n := ⟨_, rfl⟩
        have HN := Lib.hid hn'
        rw [hn'] at hul HU ⊢
        have hn4 : n ≤ 40000 := by rw [← hn']; exact encL_len HR.out
        clear hy hn hu hn'
        by_cases hc0 : cut < 0
        · go_wp2_with fail
          refine HFIRST.out.mono ?_
          rintro e w4 ⟨rfl, hb4⟩
          have HB4 := Lib.hid (Below.after HB3.out hb4)
          clear hb4
          go_wp2_with fail
          go_ret
          exact ⟨rfl, HB4.out⟩
        · obtain ⟨m, hm⟩ : ∃ m : Nat, cut = (m : Int) := ⟨cut.toNat, by omega⟩
          subst hm
          clear hc0
          have m0 : (0 : Int) ≤ (m : Int) := by omega
          by_cases hcn : n ≤ m
          · have hcn' : (n : Int) ≤ (m : Int) := by omega
            go_wp2_with fail
            refine HFIRST.out.mono ?_
            rintro e w4 ⟨rfl, hb4⟩
            have HB4 := Lib.hid (Below.after HB3.out hb4)
            clear hb4
            go_wp2_with fail
            go_ret
            exact ⟨rfl, HB4.out⟩
          · have hcn' : (m : Int) < (n : Int) := by omega
            have hfr := fun W : World => run_front UA n uc m (by omega) W
            have HF : Hid (Sl w3 (.slice (if uc = 0 then UA else UA.map (·.add 0)) m uc) ((encL o).take m)) := by
              have := HU.out
              rw [← HN.out] at this
              exact sl_front this m (by rw [HN.out]; omega)
            have HD1 : Hid (decB ((encL o).take m) = false) := dec_cut HR.out HK.out (by rw [HN.out]; omega)
            obtain ⟨A1, hA1⟩ : ∃ A1, (if uc = 0 then UA else UA.map (·.add 0)) = A1 := ⟨_, rfl⟩
            rw [hA1] at hfr HF
            clear hA1
            have HML : Hid (((encL o).take m).length ≤ 1000000) := by unfold Hid; rw [List.length_take]; omega
            go_wp2_with fail
            refine (decode_any _ _ w3 HF.out HML.out).mono ?_
            rintro e w4 ⟨v4, k4, rfl, hd4, hb4⟩
            have HD4 := Lib.hid hd4
            have HB4 := Lib.hid (Below.after HB3.out hb4)
            have HU4 := Lib.hid (HU.out.below hb4)
            obtain ⟨o4, ho4⟩ := hd4.ob
            obtain ⟨P1, p1, q1, P2, p2, q2, P3, p3, q3, rfl, -, -, -⟩ := ho4
            have HB5 : Hid (Below w.heap.size w (w4.alloc (.cells #[.int .i64 o4.kind, .slice P1 p1 q1, .slice P2 p2 q2, .string (str o4.tree), .slice P3 p3 q3, .int .i64 o4.stamp, .int .i64 o4.author, .string (str o4.msg)] 26))) := HB4.out.alloc HB4.out.size _
            have HU5 : Hid (Sl (w4.alloc (.cells #[.int .i64 o4.kind, .slice P1 p1 q1, .slice P2 p2 q2, .string (str o4.tree), .slice P3 p3 q3, .int .i64 o4.stamp, .int .i64 o4.author, .string (str o4.msg)] 26)) (.slice UA n uc) (encL o)) := HU4.out.below ((Below.refl _ _).alloc (Nat.le_refl _) _)
            clear hd4 hb4 hfr
            go_wp2_with fail
            refine (copyb_any _ (encL o) _ HU5.out (by rw [HN.out]; omega)).mono ?_
            rintro e w6 ⟨u6, rfl, ho6, hb6⟩
            have HO6 := Lib.hid ho6
            have HB6 := Lib.hid (Below.after HB5.out hb6)
            obtain ⟨B6, hB6⟩ : ∃ B, B = (w4.alloc (.cells #[.int .i64 o4.kind, .slice P1 p1 q1, .slice P2 p2 q2, .string (str o4.tree), .slice P3 p3 q3, .int .i64 o4.stamp, .int .i64 o4.author, .string (str o4.msg)] 26)).heap.size := ⟨_, rfl⟩
            rw [← hB6] at HO6
            have hz6 : B6 ≤ w6.heap.size := by rw [hB6]; exact hb6.size
            have hwB : w.heap.size ≤ B6 := by rw [hB6]; exact HB5.out.size
            have hs6 : (encL o).length + 1 ≤ 140737488355328 := by rw [HN.out]; omega
            clear ho6 hb6 hB6
            go_wp2_with (at_builtin; refine app_byte rfl (.tmp 51) (.tmp 53) rfl w6 B6 u6 (encL o) rfl HO6.out more (UInt8.ofNat more.toNat) HMB.out _ rfl rfl hs6 hz6 ?_; intro v7 w7 ho7 hb7; have HO7 := Lib.hid ho7; have HB7 := Lib.hid (HB6.out.trans (hb7.below.mono hwB)); clear ho7 hb7)
            have HD2 : Hid (decB (encL o ++ [UInt8.ofNat more.toNat]) = false) := dec_more HR.out HK.out _
            refine (decode_any _ _ w7 HO7.out.sl (by rw [List.length_append, HN.out, List.length_singleton]; omega)).mono ?_
            rintro e w8 ⟨v8, k8, rfl, hd8, hb8⟩
            have hk8 : k8 = 4 := hd8.form (by simp) HD2.out
            subst hk8
            have HB8 := Lib.hid (Below.after HB7.out hb8)
            obtain ⟨o8, ho8⟩ := hd8.ob
            obtain ⟨Q1, r1, s1, Q2, r2, s2, Q3, r3, s3, rfl, -, -, -⟩ := ho8
            have HB9 : Hid (Below w.heap.size w (w8.alloc (.cells #[.int .i64 o8.kind, .slice Q1 r1 s1, .slice Q2 r2 s2, .string (str o8.tree), .slice Q3 r3 s3, .int .i64 o8.stamp, .int .i64 o8.author, .string (str o8.msg)] 26))) := HB8.out.alloc HB8.out.size _
            clear hd8 hb8
            by_cases hm0 : m = 0
            · have hk4 : k4 = 2 := HD4.out.short (by rw [hm0]; rfl)
              subst hk4 hm0
              go_wp2_with fail
              refine (first_any _).mono ?_
              rintro e w10 ⟨rfl, hb10⟩
              have HB10 := Lib.hid (Below.after HB9.out hb10)
              clear hb10
              go_wp2_with fail
              go_ret
              exact ⟨rfl, HB10.out⟩
            · have hk4 : k4 = 4 := HD4.out.form (by
                intro e
                have := congrArg List.length e
                rw [List.length_take, HN.out] at this
                simp at this
                omega) HD1.out
              subst hk4
              have em : ((m : Int) == 0) = false := beq_eq_false_iff_ne.2 (by omega)
              clear hm0
              go_wp2_with fail
              refine (first_any _).mono ?_
              rintro e w10 ⟨rfl, hb10⟩
              have HB10 := Lib.hid (Below.after HB9.out hb10)
              clear hb10
              go_wp2_with fail
              go_ret
              exact ⟨rfl, HB10.out⟩
end Go.Proofs.Ytcbiajajoojgmaa.Ob
