/- The walk of ShaCopies. -/
import Derived.Test.YtkceagckgpkfgaaC2
namespace Go.Proofs.Ytkceagckgpkfgaa
open Go.RowKit

/-- append at a step of a region that draws, guarded. -/
theorem step_append_w {P : Program} (w : World) {ops : Array Oper} {o : Oper} {a : Act} {K : Act → World → Prop} {Q : Exit → Act → World → Prop} {E : Prop} (hw : Region.wanted o (yielded ops a.tmps) = true) (s x : Operand) (t : TypeId)
    (ho : o.op = .call { callee := .builtin .append, args := #[s, x], argTypes := #[t, t] })
    (base : Nat) (e : TypeId) (i : TypeInfo) (z : Value) (size bytes : Nat) (ht : P.underlying t = some (.slice e)) (hi : P.info? e = some i) (hz : i.zero = some z)
    (hsize : i.size = size) (hby : i.bytes = bytes) (hzs : z.cells.size = size) (hsz : 0 < size)
    (v : Value) (n : Nat) (xs : List Value) (hs : a.eval s = v) (hown : w.ownsRow base e size v n xs)
    (B : Nat) (A : Option Addr) (m c : Nat) (news : List Value) (hx : a.eval x = .slice A m c) (hr : Reads w B size A m news) (h1 : ∀ u ∈ news, u.oneCell' = true)
    (h63 : n + m ≤ maxLen) (hbytes : (n + m) * bytes ≤ 140737488355328) (hbase : base ≤ w.heap.size)
    (h : ∀ v' w', w'.ownsRow base e size v' (n + m) (xs ++ news) → w.grownBy w' v.ownBlock → (v'.ownBlock = v.ownBlock ∨ v'.ownBlock = some w.heap.size) → K (a.put o.dst v') w') :
    if Region.wanted o (yielded ops a.tmps) = true then Oper.wp P o a w K Q else E := by
  rw [if_pos hw]
  exact wp_append_any w s x t ho base e i z size bytes ht hi hz hsize hby hzs hsz v n xs hs hown B A m c news hx hr h1 h63 hbytes hbase h

theorem own_app {w : World} {B m : Nat} {v : Value} {bs ms : List UInt8} (h : w.ownsRow B 5 1 v (bs.length + m) (bs.map bv ++ ms.map bv)) (hm : ms.length = m) : Own w B v (bs ++ ms) := by
  unfold Own
  rw [List.length_append, List.map_append, hm]
  exact h

set_option maxRecDepth 100000 in
set_option maxHeartbeats 8000000 in
theorem copies_in (A A1 A2 A3 : Option Addr) (c c1 c2 c3 l m k : Nat) (n : Int) (bs ms : List UInt8) (hl : bs.length = l) (hm : ms.length = m) (w : World)
    (h : Sl w (.slice A l c) bs) (h3 : Sl w (.slice A3 m c3) ms) (h1 : Sl w (.slice A1 k c1) (bs.take k)) (h2 : Sl w (.slice A2 (l - k) c2) (bs.drop k))
    (hl6 : l ≤ 6000) (hm6 : m ≤ 6000) (hn : n = (k : Int)) (hk : k ≤ l)
    (hs1 : ∀ w, (Instr.slice 22 (.slice A l c) none (some (.int .i64 n)) none).run Try.prog w = .ok (.slice A1 k c1) w)
    (hs2 : ∀ w, (Instr.slice 22 (.slice A l c) (some (.int .i64 n)) none none).run Try.prog w = .ok (.slice A2 (l - k) c2) w) :
    Calls Try.prog 6 #[.slice A l c, .slice A3 m c3, .int .i64 n] w fun e w' => e = .returned (.bool true) ∧ Below w.heap.size w w' := by
  have i1 : (l : Int) ≤ 6000 := by omega
  have i2 : (m : Int) ≤ 6000 := by omega
  have i3 : (0 : Int) ≤ n := by omega
  have i4 : n ≤ (l : Int) := by omega
  have hwr : IntKind.i64.wrap (n + (m : Int)) = n + (m : Int) := IntWalk.i64_in _ (by omega)
  have hwe : (((k + m : Nat) : Int) == n + (m : Int)) = true := beq_iff_eq.2 (by omega)
  have H := Lib.hid h
  have H1 := Lib.hid h1
  have H2 := Lib.hid h2
  have H3 := Lib.hid h3
  have HL := Lib.hid hl
  have HM := Lib.hid hm
  have HN := Lib.hid hn
  have HK := Lib.hid hk
  have HL6 := Lib.hid hl6
  have HM6 := Lib.hid hm6
  clear h h1 h2 h3 hl hm hn hk hl6 hm6
  have HS1 := Lib.hid hs1
  have HS2 := Lib.hid hs2
  have HWR := Lib.hid hwr
  have HWE := Lib.hid hwe
  clear hs1 hs2 hwr hwe
  go_enter Try.func6, Try.ntmps6
  go_wp2_with fail
  refine (first_any _).mono ?_
  rintro e w1 ⟨rfl, hb1⟩
  have HB1 := Lib.hid hb1
  clear hb1
  go_wp2_with fail
  clear i3 i4
  refine (new_any _).mono ?_
  intro e w2 hnew
  obtain ⟨b, rfl, hH2, hb2, hw2⟩ := new_hh hnew
  have hz1 := HB1.out.size
  have hbw : w.heap.size ≤ b := by omega
  have HB2 := Lib.hid (HB1.out.trans (hw2.mono hz1))
  have HH2 := Lib.hid hH2
  clear hnew hH2 hw2 hb2
  have hs1 := HS1.out
  go_wp2_with fail
  have hkl : (bs.take k).length = k := by rw [List.length_take, HL.out]; have := HK.out; omega
  have hdl : (bs.drop k).length = l - k := by rw [List.length_drop, HL.out]
  have HKL := Lib.hid hkl
  have HDL := Lib.hid hdl
  clear hkl hdl
  obtain ⟨A1', c1', e1, hc11, hc12, hI1, r1⟩ := H1.out
  obtain ⟨A2', c2', e2, hc21, hc22, hI2, r2⟩ := H2.out
  obtain ⟨A3', c3', e3, hc31, hc32, hI3, r3⟩ := H3.out
  injection e1 with e1 q1 e1c
  injection e2 with e2 q2 e2c
  injection e3 with e3 q3 e3c
  clear q1 q2 q3 r1 r2 r3
  subst e1 e1c e2 e2c e3 e3c
  have HI1 := Lib.hid hI1
  have HI2 := Lib.hid hI2
  have HI3 := Lib.hid hI3
  have HC1 := Lib.hid hc11
  have HC2 := Lib.hid hc21
  have HC3 := Lib.hid hc31
  have HD1 := Lib.hid hc12
  have HD2 := Lib.hid hc22
  have HD3 := Lib.hid hc32
  clear hI1 hI2 hI3 hc11 hc12 hc21 hc22 hc31 hc32
  have hwa := write_any b [] (bs.take k) A1 c1 w2 HH2.out (HI1.out.src HB2.out hbw) HC1.out HD1.out (by rw [HKL.out]; have := HK.out; have := HL6.out; simp; omega)
  rw [HKL.out, List.nil_append] at hwa
  refine hwa.mono ?_
  rintro e w3 ⟨rfl, hH3, hg3⟩
  have HB3 := Lib.hid (HB2.out.trans (below_of_only hg3 hbw HB2.out.size))
  have HH3 := Lib.hid hH3
  clear hwa hH3 hg3 hs1
  go_wp2_with fail
  refine (copy_any b _ _ HH3.out).mono ?_
  rintro e w4 ⟨b2, rfl, hH4, hb4, hg4⟩
  have hb3 : b < w3.heap.size := HH3.out.lt
  have hne : b ≠ b2 := by omega
  have hbw2 : w.heap.size ≤ b2 := by omega
  have HB4 := Lib.hid (HB3.out.trans (hg4.mono HB3.out.size))
  have HC4 := Lib.hid hH4
  have HH4 := Lib.hid (HH3.out.below hg4 hb3)
  clear hH4 hb4 hg4 hb3
  have hs2 := HS2.out
  go_wp2_with fail
  have hwa := write_any b (bs.take k) (bs.drop k) A2 c2 w4 HH4.out (HI2.out.src HB4.out hbw) HC2.out HD2.out (by rw [HKL.out, HDL.out]; have := HK.out; have := HL6.out; omega)
  rw [HDL.out, List.take_append_drop] at hwa
  refine hwa.mono ?_
  rintro e w5 ⟨rfl, hH5, hg5⟩
  have HB5 := Lib.hid (HB4.out.trans (below_of_only hg5 hbw HB4.out.size))
  have HH5 := Lib.hid hH5
  have HC5 := Lib.hid (HC4.out.grown hg5 (Ne.symm hne))
  clear hwa hH5 hg5 hs2
  go_wp2_with fail
  have hwa := write_any b2 (bs.take k) ms A3 c3 w5 HC5.out (HI3.out.src HB5.out hbw2) HC3.out HD3.out (by rw [HKL.out, HM.out]; have := HK.out; have := HL6.out; have := HM6.out; omega)
  rw [HM.out] at hwa
  refine hwa.mono ?_
  rintro e w6 ⟨rfl, hH6, hg6⟩
  have HB6 := Lib.hid (HB5.out.trans (below_of_only hg6 hbw2 HB5.out.size))
  have HC6 := Lib.hid hH6
  have HH6 := Lib.hid (HH5.out.grown hg6 hne)
  clear hwa hH6 hg6
  go_wp2_with fail
  refine (hsum_any b bs _ HH6.out (by rw [HL.out]; have := HL6.out; omega)).mono ?_
  rintro e w7 ⟨v7, rfl, ho7, hH7, hg7⟩
  have hb6 : b < w6.heap.size := HH6.out.lt
  have HB7 := Lib.hid (HB6.out.trans (below_of_only hg7 hbw HB6.out.size))
  have HH7 := Lib.hid hH7
  have HC7 := Lib.hid (HC6.out.grown hg7 (Ne.symm hne))
  have HO7 := Lib.hid ho7
  clear ho7 hH7 hg7
  go_wp2_with fail
  have hwa := write_any b bs [] none 0 w7 HH7.out (fun h => absurd h (by simp)) (by simp) (by unfold maxLen; omega) (by rw [HL.out]; have := HL6.out; simp; omega)
  rw [List.append_nil] at hwa
  refine hwa.mono ?_
  rintro e w8 ⟨rfl, hH8, hg8⟩
  have HB8 := Lib.hid (HB7.out.trans (below_of_only hg8 hbw HB7.out.size))
  have HH8 := Lib.hid hH8
  have HC8 := Lib.hid (HC7.out.grown hg8 (Ne.symm hne))
  have HO8 := Lib.hid (HO7.out.only hg8 hb6)
  clear hwa hH8 hg8
  go_wp2_with fail
  refine (hsum_any b bs _ HH8.out (by rw [HL.out]; have := HL6.out; omega)).mono ?_
  rintro e w9 ⟨v9, rfl, ho9, hH9, hg9⟩
  have HB9 := Lib.hid (HB8.out.trans (below_of_only hg9 hbw HB8.out.size)).drew
  have HH9 := Lib.hid hH9.drew
  have HC9 := Lib.hid (HC8.out.grown hg9 (Ne.symm hne)).drew
  have HO9 := Lib.hid ho9.sl.drew
  have HP9 := Lib.hid (HO8.out.only hg9 hb6).sl.drew
  clear ho9 hH9 hg9 hb6
  have hs1 := HS1.out
  go_wp2_with fail
  obtain ⟨i0, hi, hz0, hz1, hz2⟩ := info_parts info5
  have hwr := HWR.out
  have hlen2 : (((bs.take k ++ ms).length : Nat) : Int) = n + (m : Int) := by rw [List.length_append, HKL.out, HM.out, HN.out]; omega
  have HLEN2 := Lib.hid hlen2
  clear hlen2
  go_region_held3 (fun _ => True) (trivial)
    (first
      | (have _ := N24; go_at_call 24; have hq := hlen_any b2 _ _ HC15.out; rw [HLEN2.out] at hq; refine hq.mono ?_; rintro e w17 ⟨rfl, rfl⟩; clear hq)
      | (have _ := N13c; go_at_call 24; have hq := hlen_any b bs _ HH15.out; rw [HL.out] at hq; refine hq.mono ?_; rintro e w16 ⟨rfl, rfl⟩; clear hq; have N24 : True := trivial)
      | (go_at_call 13; refine (bytes_any v12 v15 (sumOf (bs.take k ++ ms)) (sumOf (bs.take k ++ ms)) _ HS15.out HQ15.out true (by simp)).mono ?_; rintro e w15b ⟨rfl, rfl⟩; have N13c : True := trivial)
      | (go_at_call 14; refine (ssum_sl v14 (bs.take k ++ ms) _ HO14.out (by rw [List.length_append, HKL.out, HM.out]; have := HK.out; have := HL6.out; have := HM6.out; omega)).mono ?_; rintro e w15 ⟨v15, rfl, ho15, hb15⟩; have HB15 := Lib.hid (HB14.out.trans (hb15.mono HB14.out.size)); have HH15 := Lib.hid (HH14.out.below hb15 HH14.out.lt); have HC15 := Lib.hid (HC14.out.below hb15 HC14.out.lt); have HS15 := Lib.hid (HS14.out.below hb15); have HQ15 := Lib.hid ho15.sl; clear ho15 hb15)
      | (refine step_append_w _ (by rfl) (.tmp 76) (.tmp 77) 22 rfl w12.heap.size 5 i0 (.int .u8 0) 1 1 Try.underlying22 hi hz0 hz1 hz2 rfl (by decide) v13 (bs.take k).length _ rfl HO13.out w13.heap.size A3 m c3 _ rfl HR13.out (bv_one _) (by rw [HKL.out]; have := HK.out; have := HL6.out; have := HM6.out; unfold maxLen; omega) (by rw [HKL.out]; have := HK.out; have := HL6.out; have := HM6.out; omega) HBB13.out.size ?_; intro v14 w14 hown14 hgrow14 hblk14; have HBB14 := Lib.hid (HBB13.out.trans ((Below.refl _ _).grown hgrow14 HBB13.out.size (fun k hk => (HO13.out.lt k hk).1))); have HB14 := Lib.hid (HB12.out.trans (HBB14.out.mono HB12.out.size)); have HH14 := Lib.hid (HH12.out.below HBB14.out HH12.out.lt); have HC14 := Lib.hid (HC12.out.below HBB14.out HC12.out.lt); have HS14 := Lib.hid (HS12.out.below HBB14.out); have HO14 := Lib.hid (own_app hown14 HM.out).sl; clear hown14 hgrow14 hblk14)
      | (go_at_call 10; refine (copyb_any _ (bs.take k) _ (H1.out.below HB12.out) (by rw [HKL.out]; have := HK.out; have := HL6.out; omega)).mono ?_; rintro e w13 ⟨v13, rfl, ho13, hb13⟩; have HB13 := HB12.out.trans (hb13.mono HB12.out.size); have hr13 := (HI3.out.below HB13).reads; rw [HM.out] at hr13; have HR13 := Lib.hid hr13; have HBB13 := Lib.hid hb13; have HO13 := Lib.hid ho13; clear hr13 ho13 hb13 HB13)
      | (go_at_call 25; refine (hsum_any b2 (bs.take k ++ ms) _ HC11.out (by rw [List.length_append, HKL.out, HM.out]; have := HK.out; have := HL6.out; have := HM6.out; omega)).mono ?_; rintro e w12 ⟨v12, rfl, ho12, hH12, hg12⟩; have HB12 := Lib.hid (HB11.out.trans (below_of_only hg12 hbw2 HB11.out.size)); have HC12 := Lib.hid hH12; have HH12 := Lib.hid (HH11.out.grown hg12 hne); have HS12 := Lib.hid ho12.sl; clear ho12 hH12 hg12)
      | (have _ := N13a; go_at_call 13; refine (bytes_any v9 v7 (sumOf bs) (sumOf bs) _ HO11.out HP11.out true (by simp)).mono ?_; rintro e w11b ⟨rfl, rfl⟩)
      | (go_at_call 13; refine (bytes_any v7 v11 (sumOf bs) (sumOf bs) _ HP11.out HQ11.out true (by simp)).mono ?_; rintro e w11a ⟨rfl, rfl⟩; have N13a : True := trivial)
      | (go_at_call 14; refine (ssum_sl (.slice A l c) bs _ (H.out.below HB10.out) (by rw [HL.out]; have := HL6.out; omega)).mono ?_; rintro e w11 ⟨v11, rfl, ho11, hb11⟩; have HB11 := Lib.hid (HB10.out.trans (hb11.mono HB10.out.size)); have HH11 := Lib.hid (HH10.out.below hb11 HH10.out.lt); have HC11 := Lib.hid (HC10.out.below hb11 HC10.out.lt); have HO11 := Lib.hid (HO10.out.below hb11); have HP11 := Lib.hid (HP10.out.below hb11); have HQ11 := Lib.hid ho11.sl; clear ho11 hb11)
      | (go_at_call 9; refine (first_any _).mono ?_; rintro e w10 ⟨rfl, hb10⟩; have HB10 := Lib.hid (HB9.out.trans (hb10.mono HB9.out.size)); have HH10 := Lib.hid (HH9.out.below hb10 HH9.out.lt); have HC10 := Lib.hid (HC9.out.below hb10 HC9.out.lt); have HO10 := Lib.hid (HO9.out.below hb10); have HP10 := Lib.hid (HP9.out.below hb10); clear hb10))
  all_goals
    go_wp2_with fail
    go_ret
    exact ⟨rfl, HB15.out⟩
set_option maxRecDepth 100000 in
set_option maxHeartbeats 1600000 in
/-- Where the bounds are not met. -/
theorem copies_out (A A3 : Option Addr) (c c3 l m : Nat) (n : Int) (w : World) (hn : 6000 < l ∨ 6000 < m ∨ n < 0 ∨ (l : Int) < n) :
    Calls Try.prog 6 #[.slice A l c, .slice A3 m c3, .int .i64 n] w fun e w' => e = .returned (.bool true) ∧ Below w.heap.size w w' := by
  by_cases h1 : 6000 < l
  · have j1 : (6000 : Int) < (l : Int) := by omega
    clear hn h1
    go_enter Try.func6, Try.ntmps6
    go_wp2_with fail
    refine (first_from (Below.refl _ _)).mono ?_
    rintro e w1 ⟨rfl, hb1⟩
    have HB1 := Lib.hid hb1
    clear hb1
    go_wp2_with fail
    refine (first_from HB1.out).mono ?_
    rintro e w2 ⟨rfl, hb2⟩
    go_wp2_with fail
    go_ret
    exact ⟨rfl, hb2⟩
  by_cases h2 : 6000 < m
  · have j1 : (l : Int) ≤ 6000 := by omega
    have j2 : (6000 : Int) < (m : Int) := by omega
    clear hn h1 h2
    go_enter Try.func6, Try.ntmps6
    go_wp2_with fail
    refine (first_from (Below.refl _ _)).mono ?_
    rintro e w1 ⟨rfl, hb1⟩
    have HB1 := Lib.hid hb1
    clear hb1
    go_wp2_with fail
    refine (first_from HB1.out).mono ?_
    rintro e w2 ⟨rfl, hb2⟩
    go_wp2_with fail
    go_ret
    exact ⟨rfl, hb2⟩
  by_cases h3 : n < 0
  · have j1 : (l : Int) ≤ 6000 := by omega
    have j2 : (m : Int) ≤ 6000 := by omega
    clear hn h1 h2
    go_enter Try.func6, Try.ntmps6
    go_wp2_with fail
    refine (first_from (Below.refl _ _)).mono ?_
    rintro e w1 ⟨rfl, hb1⟩
    have HB1 := Lib.hid hb1
    clear hb1
    go_wp2_with fail
    refine (first_from HB1.out).mono ?_
    rintro e w2 ⟨rfl, hb2⟩
    go_wp2_with fail
    go_ret
    exact ⟨rfl, hb2⟩
  have j1 : (l : Int) ≤ 6000 := by omega
  have j2 : (m : Int) ≤ 6000 := by omega
  have j3 : 0 ≤ n := by omega
  have j4 : (l : Int) < n := by omega
  clear hn h1 h2 h3
  go_enter Try.func6, Try.ntmps6
  go_wp2_with fail
  refine (first_from (Below.refl _ _)).mono ?_
  rintro e w1 ⟨rfl, hb1⟩
  have HB1 := Lib.hid hb1
  clear hb1
  go_wp2_with fail
  refine (first_from HB1.out).mono ?_
  rintro e w2 ⟨rfl, hb2⟩
  go_wp2_with fail
  go_ret
  exact ⟨rfl, hb2⟩

end Go.Proofs.Ytkceagckgpkfgaa
