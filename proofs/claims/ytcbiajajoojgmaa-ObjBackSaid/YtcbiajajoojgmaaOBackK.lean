/- marlaw6.ObjBack: the walk. -/
import Derived.Test.YtcbiajajoojgmaaK2
namespace Go.Proofs.Ytcbiajajoojgmaa.Ob
open Go.RowKit Go.Proofs.Ytcbiajajoojgmaa.Sh
open Go.Proofs.Ytcbiajajoojgmaa.Tx (OwnV SlV sv bl nameB reads_at texts_at toList_ne')

theorem ObV.lits_ {w : World} {v : Value} {o : ObM} (h : ObV w v o) : ∃ A l c A2 l2 c2 A3 l3 c3, v = .agg #[.int .i64 o.kind, .slice A l c, .slice A2 l2 c2, .string (str o.tree), .slice A3 l3 c3, .int .i64 o.stamp, .int .i64 o.author, .string (str o.msg)] := by
  obtain ⟨d, it, ps, rfl, ⟨A, c, rfl, _⟩, ⟨A2, c2, rfl, _⟩, ⟨A3, c3, rfl, _⟩⟩ := h
  exact ⟨A, _, c, A2, _, c2, A3, _, c3, rfl⟩
set_option maxRecDepth 100000 in
set_option maxHeartbeats 6400000 in
theorem objBack_w (v : Value) (o : ObM) (bv_ : Value) (bs : List UInt8) (w : World) (h : ObV w v o) (hbs : Sl w bv_ bs) : Calls Try.prog 4 #[v, bv_] w (Yes w) := by
  have HV := Lib.hid h
  obtain ⟨A, l, c, A2, l2, c2, A3, l3, c3, rfl⟩ := h.lits_
  have HBS := Lib.hid hbs
  obtain ⟨BA, bc, rfl, hblc, hbcm, _⟩ := hbs.len
  unfold maxLen at hbcm
  obtain ⟨bn, hbn⟩ : ∃ n, bs.length = n := ⟨_, rfl⟩
  have HBN := Lib.hid hbn
  rw [hbn] at hblc HBS ⊢
  obtain ⟨dd, hdd⟩ : ∃ x, decB bs = x := ⟨_, rfl⟩
  have HDV := Lib.hid hdd
  clear h hbs hbn hdd
  have HB0 : Hid (Below w.heap.size w (w.alloc (.cells #[.int .i64 o.kind, .slice A l c, .slice A2 l2 c2, .string (str o.tree), .slice A3 l3 c3, .int .i64 o.stamp, .int .i64 o.author, .string (str o.msg)] 26))) := (Below.refl _ _).alloc (Nat.le_refl _) _
  have HK0 : Hid (Blk (w.alloc (.cells #[.int .i64 o.kind, .slice A l c, .slice A2 l2 c2, .string (str o.tree), .slice A3 l3 c3, .int .i64 o.stamp, .int .i64 o.author, .string (str o.msg)] 26)) w.heap.size 26 #[.int .i64 o.kind, .slice A l c, .slice A2 l2 c2, .string (str o.tree), .slice A3 l3 c3, .int .i64 o.stamp, .int .i64 o.author, .string (str o.msg)]) := Blk.new _ _ _
  go_enter Try.func4, Try.ntmps4
  go_wp2_with fail
  refine (first_any _).mono ?_
  rintro e w1 ⟨rfl, hb1⟩
  have HB1 := Lib.hid (Below.after HB0.out hb1)
  have HK1 := Lib.hid (HK0.out.below hb1 HK0.out.lt)
  clear hb1
  obtain ⟨x0, x1, x2, x3, x4, x5, x6, x7⟩ := box_cells HK1.out
  go_wp2_with fail
  clear x0 x1 x2 x3 x4 x5 x6 x7
  refine (few_any _ o w1 (HV.out.below HB1.out)).mono ?_
  rintro e w2 ⟨t1, rfl, ht1, hb2⟩
  have HB2 := Lib.hid (Below.after HB1.out hb2)
  have HK2 := Lib.hid (HK1.out.below hb2 HK1.out.lt)
  clear hb2 ht1
  cases t1 with
  | false =>
    go_wp2_with fail
    refine (first_any _).mono ?_
    rintro e w3 ⟨rfl, hb⟩
    have Hw3 := Lib.hid (Below.after HB2.out hb)
    clear hb
    go_wp2_with fail
    go_ret
    exact ⟨rfl, Hw3.out⟩
  | true =>
    by_cases hbig : 30000 < bn
    · have hbig' : (30000 : Int) < (bn : Int) := by omega
      go_wp2_with fail
      refine (first_any _).mono ?_
      rintro e w3 ⟨rfl, hb⟩
      have Hw3 := Lib.hid (Below.after HB2.out hb)
      clear hb
      go_wp2_with fail
      go_ret
      exact ⟨rfl, Hw3.out⟩
    · have hbig' : (bn : Int) ≤ 30000 := by omega
      have HBL : Hid (bs.length ≤ 1000000) := by unfold Hid; rw [HBN.out]; omega
      clear hbig
      obtain ⟨x0, x1, x2, x3, x4, x5, x6, x7⟩ := box_cells HK2.out
      go_wp2_with fail
      clear x0 x1 x2 x3 x4 x5 x6 x7
      refine (encode_any _ o w2 (HV.out.below HB2.out)).mono ?_
      rintro e w3 ⟨hy, hn, hb3⟩
      have HB3 := Lib.hid (Below.after HB2.out hb3)
      have HK3 := Lib.hid (HK2.out.below hb3 HK2.out.lt)
      clear hb3
      obtain ⟨y0, y1, y2, y3, y4, y5, y6, y7⟩ := box_cells HK3.out
      obtain ⟨r, hr⟩ : ∃ r, mayB o = r := ⟨_, rfl⟩
      have HR := Lib.hid hr
      clear hr
      cases r with
      | false =>
        obtain rfl := hn HR.out
        clear hy hn
        go_wp2_with fail
        clear y0 y1 y2 y3 y4 y5 y6 y7
        refine (objID_any _ o w3 (HV.out.below HB3.out)).mono ?_
        rintro e w4 ⟨hiy, hin, hb4⟩
        obtain rfl := hin HR.out
        have HB4 := Lib.hid (Below.after HB3.out hb4)
        have HK4 := Lib.hid (HK3.out.below hb4 HK3.out.lt)
        clear hiy hin hb4
        obtain ⟨x0, x1, x2, x3, x4, x5, x6, x7⟩ := box_cells HK4.out
        go_wp2_with fail
        clear x0 x1 x2 x3 x4 x5 x6 x7
        refine (may_any _ o w4 (HV.out.below HB4.out)).mono ?_
        rw [HR.out]
        rintro e w5 ⟨rfl, hb5⟩
        have HB5 := Lib.hid (Below.after HB4.out hb5)
        clear hb5
        go_wp2_with fail
        refine (decode_any _ bs _ (HBS.out.below HB5.out) HBL.out).mono ?_
        rintro e wd ⟨vd, kd, rfl, hdd, hbd⟩
        have HBD := Lib.hid (Below.after HB5.out hbd)
        clear hbd
        cases dd with
        | false =>
          have hkd : (kd == 0) = false := by
            by_cases hb0 : bs = []
            · rw [hdd.short hb0]; rfl
            · rw [hdd.form hb0 HDV.out]; rfl
          obtain ⟨Q1, Qn1, Qc1, Q2, Qn2, Qc2, Q3, Qn3, Qc3, rfl, -, -, -⟩ := hdd.no HDV.out
          have HQ : Hid (Blk (wd.alloc (.cells #[.int .i64 0, .slice Q1 Qn1 Qc1, .slice Q2 Qn2 Qc2, .string (str (objK 0).tree), .slice Q3 Qn3 Qc3, .int .i64 (objK 0).stamp, .int .i64 (objK 0).author, .string (str (objK 0).msg)] 26)) wd.heap.size 26 #[.int .i64 0, .slice Q1 Qn1 Qc1, .slice Q2 Qn2 Qc2, .string (str (objK 0).tree), .slice Q3 Qn3 Qc3, .int .i64 (objK 0).stamp, .int .i64 (objK 0).author, .string (str (objK 0).msg)]) := Blk.new _ _ _
          have HBQ : Hid (Below w.heap.size w (wd.alloc (.cells #[.int .i64 0, .slice Q1 Qn1 Qc1, .slice Q2 Qn2 Qc2, .string (str (objK 0).tree), .slice Q3 Qn3 Qc3, .int .i64 (objK 0).stamp, .int .i64 (objK 0).author, .string (str (objK 0).msg)] 26))) := HBD.out.alloc HBD.out.size _
          clear hdd
          go_wp2_with fail
          refine (first_any _).mono ?_
          rintro e wf ⟨rfl, hbf⟩
          have xq := (HQ.out.below hbf HQ.out.lt).cell 0
          have HBF := Lib.hid (Below.after HBQ.out hbf)
          have ts0 := str_toList []
          clear hbf
          go_wp2_with fail
          go_ret
          exact ⟨rfl, HBF.out⟩
        | true =>
          obtain ⟨hk0, ho⟩ := hdd.yes HDV.out
          subst hk0
          obtain ⟨q, hq⟩ : ∃ q, (objR bs).1 = q := ⟨_, rfl⟩
          have hmq : mayB q = true := by
            have := HDV.out
            unfold decB at this
            rw [Bool.and_eq_true] at this
            rw [← hq]
            exact this.2
          have heq : encL q = bs := by rw [← hq]; exact enc_objR HDV.out
          have HMQ := Lib.hid hmq
          have HEQ := Lib.hid heq
          rw [hq] at ho
          obtain ⟨Q1, Qn1, Qc1, Q2, Qn2, Qc2, Q3, Qn3, Qc3, rfl, Qh1, Qh2, Qh3⟩ := ho
          have HBA : Hid (Below wd.heap.size wd (wd.alloc (.cells #[.int .i64 q.kind, .slice Q1 Qn1 Qc1, .slice Q2 Qn2 Qc2, .string (str q.tree), .slice Q3 Qn3 Qc3, .int .i64 q.stamp, .int .i64 q.author, .string (str q.msg)] 26))) := (Below.refl _ _).alloc (Nat.le_refl _) _
          have HQV : Hid (ObV (wd.alloc (.cells #[.int .i64 q.kind, .slice Q1 Qn1 Qc1, .slice Q2 Qn2 Qc2, .string (str q.tree), .slice Q3 Qn3 Qc3, .int .i64 q.stamp, .int .i64 q.author, .string (str q.msg)] 26)) (.agg #[.int .i64 q.kind, .slice Q1 Qn1 Qc1, .slice Q2 Qn2 Qc2, .string (str q.tree), .slice Q3 Qn3 Qc3, .int .i64 q.stamp, .int .i64 q.author, .string (str q.msg)]) q) := ⟨_, _, _, rfl, Qh1.sl.below HBA.out, Qh2.slI.below HBA.out, Qh3.slv.below HBA.out⟩
          have HQ : Hid (Blk (wd.alloc (.cells #[.int .i64 q.kind, .slice Q1 Qn1 Qc1, .slice Q2 Qn2 Qc2, .string (str q.tree), .slice Q3 Qn3 Qc3, .int .i64 q.stamp, .int .i64 q.author, .string (str q.msg)] 26)) wd.heap.size 26 #[.int .i64 q.kind, .slice Q1 Qn1 Qc1, .slice Q2 Qn2 Qc2, .string (str q.tree), .slice Q3 Qn3 Qc3, .int .i64 q.stamp, .int .i64 q.author, .string (str q.msg)]) := Blk.new _ _ _
          have HBQ : Hid (Below w.heap.size w (wd.alloc (.cells #[.int .i64 q.kind, .slice Q1 Qn1 Qc1, .slice Q2 Qn2 Qc2, .string (str q.tree), .slice Q3 Qn3 Qc3, .int .i64 q.stamp, .int .i64 q.author, .string (str q.msg)] 26))) := HBD.out.alloc HBD.out.size _
          clear hdd hmq heq hq Qh1 Qh2 Qh3
          go_wp2_with fail
          refine (encode_any _ q _ HQV.out).mono ?_
          rintro e we ⟨hye, hne, hbe⟩
          obtain ⟨ue, rfl, hue⟩ := hye HMQ.out
          rw [HEQ.out] at hue
          have HUE := Lib.hid hue.sl
          have HQE := Lib.hid (HQ.out.below hbe HQ.out.lt)
          have HQVE := Lib.hid (HQV.out.below hbe)
          have HBE := Lib.hid (Below.after HBQ.out hbe)
          clear hye hne hbe hue
          go_wp2_with fail
          refine (first_any _).mono ?_
          rintro e wf ⟨rfl, hbf⟩
          have HBF := Lib.hid (Below.after HBE.out hbf)
          have HQF := Lib.hid (HQE.out.below hbf HQE.out.lt)
          have HQVF := Lib.hid (HQVE.out.below hbf)
          have HUF := Lib.hid (HUE.out.below hbf)
          clear hbf
          go_wp2_with fail
          refine (bytes_any _ _ bs bs wf HUF.out (HBS.out.below HBF.out) true (beq_self_eq_true bs)).mono ?_
          rintro e wg ⟨rfl, rfl⟩
          obtain ⟨x0, x1, x2, x3, x4, x5, x6, x7⟩ := box_cells HQF.out
          go_wp2_with fail
          clear x0 x1 x2 x3 x4 x5 x6 x7
          refine (may_any _ q _ HQVF.out).mono ?_
          rw [HMQ.out]
          rintro e wh ⟨rfl, hbh⟩
          have HBH := Lib.hid (Below.after HBF.out hbh)
          clear hbh
          go_wp2_with fail
          go_ret
          exact ⟨rfl, HBH.out⟩
      | true =>
        obtain ⟨u, rfl, hu⟩ := hy HR.out
        have HU3 := Lib.hid hu.sl
        clear hy hn
        go_wp2_with fail
        clear y0 y1 y2 y3 y4 y5 y6 y7
        refine (objID_any _ o w3 (HV.out.below HB3.out)).mono ?_
        rintro e w4 ⟨hiy, hin, hb4⟩
        obtain rfl := hiy HR.out
        have HB4 := Lib.hid (Below.after HB3.out hb4)
        have HK4 := Lib.hid (HK3.out.below hb4 HK3.out.lt)
        have HU4 := Lib.hid (HU3.out.below hb4)
        clear hiy hin hb4 hu
        obtain ⟨x0, x1, x2, x3, x4, x5, x6, x7⟩ := box_cells HK4.out
        go_wp2_with fail
        clear x0 x1 x2 x3 x4 x5 x6 x7
        refine (may_any _ o w4 (HV.out.below HB4.out)).mono ?_
        rw [HR.out]
        rintro e w5 ⟨rfl, hb5⟩
        have HB5 := Lib.hid (Below.after HB4.out hb5)
        have HK5 := Lib.hid (HK4.out.below hb5 HK4.out.lt)
        have HU5 := Lib.hid (HU4.out.below hb5)
        clear hb5
        go_wp2_with fail
        refine (decode_any _ (encL o) w5 HU5.out (by have := encL_len HR.out; omega)).mono ?_
        rintro e w6 ⟨v6, k6, rfl, hd6, hb6⟩
        have HB6 := Lib.hid (Below.after HB5.out hb6)
        have HK6 := Lib.hid (HK5.out.below hb6 HK5.out.lt)
        have HU6 := Lib.hid (HU5.out.below hb6)
        obtain ⟨hk6, ho6⟩ := hd6.yes (decB_enc HR.out)
        subst hk6
        rw [show (objR (encL o)).1 = o from by rw [objR_enc HR.out]] at ho6
        obtain ⟨P1, Pn1, Pc1, P2, Pn2, Pc2, P3, Pn3, Pc3, rfl, Ph1, Ph2, Ph3⟩ := ho6
        have HBA6 : Hid (Below w6.heap.size w6 (w6.alloc (.cells #[.int .i64 o.kind, .slice P1 Pn1 Pc1, .slice P2 Pn2 Pc2, .string (str o.tree), .slice P3 Pn3 Pc3, .int .i64 o.stamp, .int .i64 o.author, .string (str o.msg)] 26))) := (Below.refl _ _).alloc (Nat.le_refl _) _
        have HPV : Hid (ObV (w6.alloc (.cells #[.int .i64 o.kind, .slice P1 Pn1 Pc1, .slice P2 Pn2 Pc2, .string (str o.tree), .slice P3 Pn3 Pc3, .int .i64 o.stamp, .int .i64 o.author, .string (str o.msg)] 26)) (.agg #[.int .i64 o.kind, .slice P1 Pn1 Pc1, .slice P2 Pn2 Pc2, .string (str o.tree), .slice P3 Pn3 Pc3, .int .i64 o.stamp, .int .i64 o.author, .string (str o.msg)]) o) := ⟨_, _, _, rfl, Ph1.sl.below HBA6.out, Ph2.slI.below HBA6.out, Ph3.slv.below HBA6.out⟩
        have HB7 : Hid (Below w.heap.size w (w6.alloc (.cells #[.int .i64 o.kind, .slice P1 Pn1 Pc1, .slice P2 Pn2 Pc2, .string (str o.tree), .slice P3 Pn3 Pc3, .int .i64 o.stamp, .int .i64 o.author, .string (str o.msg)] 26))) := HB6.out.alloc HB6.out.size _
        have HK7 : Hid (Blk (w6.alloc (.cells #[.int .i64 o.kind, .slice P1 Pn1 Pc1, .slice P2 Pn2 Pc2, .string (str o.tree), .slice P3 Pn3 Pc3, .int .i64 o.stamp, .int .i64 o.author, .string (str o.msg)] 26)) w.heap.size 26 #[.int .i64 o.kind, .slice A l c, .slice A2 l2 c2, .string (str o.tree), .slice A3 l3 c3, .int .i64 o.stamp, .int .i64 o.author, .string (str o.msg)]) := HK6.out.alloc _
        have HU7 := Lib.hid (HU6.out.below HBA6.out)
        clear hd6 hb6 Ph1 Ph2 Ph3
        obtain ⟨x0, x1, x2, x3, x4, x5, x6, x7⟩ := box_cells HK7.out
        go_wp2_with fail
        clear x0 x1 x2 x3 x4 x5 x6 x7
        refine (same_any _ _ o o _ HPV.out (HV.out.below HB7.out)).mono ?_
        rw [show sameB o o = true from sameB_iff.2 rfl]
        rintro e w8 ⟨rfl, hb8⟩
        have HB8 := Lib.hid (Below.after HB7.out hb8)
        have HU8 := Lib.hid (HU7.out.below hb8)
        clear hb8
        go_wp2_with fail
        refine (id_any _ (encL o) w8 HU8.out (by have := encL_len HR.out; omega)).mono ?_
        rintro e w9 ⟨rfl, hb9⟩
        have HB9 := Lib.hid (Below.after HB8.out hb9)
        clear hb9
        go_wp2_with fail
        refine (decode_any _ bs _ (HBS.out.below HB9.out) HBL.out).mono ?_
        rintro e wd ⟨vd, kd, rfl, hdd, hbd⟩
        have HBD := Lib.hid (Below.after HB9.out hbd)
        clear hbd
        cases dd with
        | false =>
          have hkd : (kd == 0) = false := by
            by_cases hb0 : bs = []
            · rw [hdd.short hb0]; rfl
            · rw [hdd.form hb0 HDV.out]; rfl
          obtain ⟨Q1, Qn1, Qc1, Q2, Qn2, Qc2, Q3, Qn3, Qc3, rfl, -, -, -⟩ := hdd.no HDV.out
          have HQ : Hid (Blk (wd.alloc (.cells #[.int .i64 0, .slice Q1 Qn1 Qc1, .slice Q2 Qn2 Qc2, .string (str (objK 0).tree), .slice Q3 Qn3 Qc3, .int .i64 (objK 0).stamp, .int .i64 (objK 0).author, .string (str (objK 0).msg)] 26)) wd.heap.size 26 #[.int .i64 0, .slice Q1 Qn1 Qc1, .slice Q2 Qn2 Qc2, .string (str (objK 0).tree), .slice Q3 Qn3 Qc3, .int .i64 (objK 0).stamp, .int .i64 (objK 0).author, .string (str (objK 0).msg)]) := Blk.new _ _ _
          have HBQ : Hid (Below w.heap.size w (wd.alloc (.cells #[.int .i64 0, .slice Q1 Qn1 Qc1, .slice Q2 Qn2 Qc2, .string (str (objK 0).tree), .slice Q3 Qn3 Qc3, .int .i64 (objK 0).stamp, .int .i64 (objK 0).author, .string (str (objK 0).msg)] 26))) := HBD.out.alloc HBD.out.size _
          clear hdd
          go_wp2_with fail
          refine (first_any _).mono ?_
          rintro e wf ⟨rfl, hbf⟩
          have xq := (HQ.out.below hbf HQ.out.lt).cell 0
          have HBF := Lib.hid (Below.after HBQ.out hbf)
          clear hbf
          go_wp2_with fail
          go_ret
          exact ⟨rfl, HBF.out⟩
        | true =>
          obtain ⟨hk0, ho⟩ := hdd.yes HDV.out
          subst hk0
          obtain ⟨q, hq⟩ : ∃ q, (objR bs).1 = q := ⟨_, rfl⟩
          have hmq : mayB q = true := by
            have := HDV.out
            unfold decB at this
            rw [Bool.and_eq_true] at this
            rw [← hq]
            exact this.2
          have heq : encL q = bs := by rw [← hq]; exact enc_objR HDV.out
          have HMQ := Lib.hid hmq
          have HEQ := Lib.hid heq
          rw [hq] at ho
          obtain ⟨Q1, Qn1, Qc1, Q2, Qn2, Qc2, Q3, Qn3, Qc3, rfl, Qh1, Qh2, Qh3⟩ := ho
          have HBA : Hid (Below wd.heap.size wd (wd.alloc (.cells #[.int .i64 q.kind, .slice Q1 Qn1 Qc1, .slice Q2 Qn2 Qc2, .string (str q.tree), .slice Q3 Qn3 Qc3, .int .i64 q.stamp, .int .i64 q.author, .string (str q.msg)] 26))) := (Below.refl _ _).alloc (Nat.le_refl _) _
          have HQV : Hid (ObV (wd.alloc (.cells #[.int .i64 q.kind, .slice Q1 Qn1 Qc1, .slice Q2 Qn2 Qc2, .string (str q.tree), .slice Q3 Qn3 Qc3, .int .i64 q.stamp, .int .i64 q.author, .string (str q.msg)] 26)) (.agg #[.int .i64 q.kind, .slice Q1 Qn1 Qc1, .slice Q2 Qn2 Qc2, .string (str q.tree), .slice Q3 Qn3 Qc3, .int .i64 q.stamp, .int .i64 q.author, .string (str q.msg)]) q) := ⟨_, _, _, rfl, Qh1.sl.below HBA.out, Qh2.slI.below HBA.out, Qh3.slv.below HBA.out⟩
          have HQ : Hid (Blk (wd.alloc (.cells #[.int .i64 q.kind, .slice Q1 Qn1 Qc1, .slice Q2 Qn2 Qc2, .string (str q.tree), .slice Q3 Qn3 Qc3, .int .i64 q.stamp, .int .i64 q.author, .string (str q.msg)] 26)) wd.heap.size 26 #[.int .i64 q.kind, .slice Q1 Qn1 Qc1, .slice Q2 Qn2 Qc2, .string (str q.tree), .slice Q3 Qn3 Qc3, .int .i64 q.stamp, .int .i64 q.author, .string (str q.msg)]) := Blk.new _ _ _
          have HBQ : Hid (Below w.heap.size w (wd.alloc (.cells #[.int .i64 q.kind, .slice Q1 Qn1 Qc1, .slice Q2 Qn2 Qc2, .string (str q.tree), .slice Q3 Qn3 Qc3, .int .i64 q.stamp, .int .i64 q.author, .string (str q.msg)] 26))) := HBD.out.alloc HBD.out.size _
          clear hdd hmq heq hq Qh1 Qh2 Qh3
          go_wp2_with fail
          refine (encode_any _ q _ HQV.out).mono ?_
          rintro e we ⟨hye, hne, hbe⟩
          obtain ⟨ue, rfl, hue⟩ := hye HMQ.out
          rw [HEQ.out] at hue
          have HUE := Lib.hid hue.sl
          have HQE := Lib.hid (HQ.out.below hbe HQ.out.lt)
          have HQVE := Lib.hid (HQV.out.below hbe)
          have HBE := Lib.hid (Below.after HBQ.out hbe)
          clear hye hne hbe hue
          go_wp2_with fail
          refine (first_any _).mono ?_
          rintro e wf ⟨rfl, hbf⟩
          have HBF := Lib.hid (Below.after HBE.out hbf)
          have HQF := Lib.hid (HQE.out.below hbf HQE.out.lt)
          have HQVF := Lib.hid (HQVE.out.below hbf)
          have HUF := Lib.hid (HUE.out.below hbf)
          clear hbf
          go_wp2_with fail
          refine (bytes_any _ _ bs bs wf HUF.out (HBS.out.below HBF.out) true (beq_self_eq_true bs)).mono ?_
          rintro e wg ⟨rfl, rfl⟩
          obtain ⟨x0, x1, x2, x3, x4, x5, x6, x7⟩ := box_cells HQF.out
          go_wp2_with fail
          clear x0 x1 x2 x3 x4 x5 x6 x7
          refine (may_any _ q _ HQVF.out).mono ?_
          rw [HMQ.out]
          rintro e wh ⟨rfl, hbh⟩
          have HBH := Lib.hid (Below.after HBF.out hbh)
          clear hbh
          go_wp2_with fail
          go_ret
          exact ⟨rfl, HBH.out⟩
theorem objBack_walk (v : Value) (o : ObM) (a1 : Option Addr) (len1 cap1 : Nat) (z1 : List Int) (w : World) (h : ObV w v o) (hr : IsRow .u8 w a1 len1 cap1 z1) : Calls Try.prog 4 #[v, .slice a1 len1 cap1] w (Yes w) := by
  obtain ⟨bs, _, hs⟩ := hr.sl
  exact objBack_w v o _ bs w h hs
end Go.Proofs.Ytcbiajajoojgmaa.Ob
