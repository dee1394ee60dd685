/- The walk of WireCrcs. -/
import Derived.Test.YthopfbkkjfnhkaaLeast
import Derived.Deep.DeepCutAuto
namespace Go.Proofs.Ythopfbkkjfnhkaa
open Go.RowKit

theorem below2 {B : Nat} {w w1 : World} (h : Below B w w1) (hB : B ≤ w1.heap.size) (o1 o2 : Obj) : Below B w ((w1.drew.alloc o1).alloc o2) := ((h.drew).alloc hB o1).alloc (by simp; omega) o2
theorem own_empty (B : Nat) (w : World) (hB : B ≤ w.heap.size) : Own (w.alloc (.cells #[] 5)) B (.slice (some ⟨w.heap.size, 0, none⟩) 0 0) [] :=
  ⟨rfl, Or.inr ⟨w.heap.size, 0, #[], rfl, hB, heap_alloc_new w _, Nat.le_refl _, by unfold maxLen; omega, by simp, rfl⟩⟩
theorem make_len (l : Nat) (hl : l ≤ 1000000) (w : World) : (Instr.makeSlice 22 (.int .i64 (l : Int)) (.int .i64 (l : Int))).run Try.prog w = .ok (.slice (some ⟨w.heap.size, 0, none⟩) l l) (w.alloc (.cells (madeCells #[.int .u8 0] l) 5)) := by
  obtain ⟨i0, hi, hz0, hz1, hz2⟩ := info_parts info5
  have hr := run_make (P := Try.prog) w 22 5 i0 (.int .u8 0) Try.underlying22 hi hz0 .i64 .i64 l l (by omega) (by omega) (by rw [hz2]; omega) (by omega)
  rw [hz1] at hr
  simpa [Value.cells] using hr
theorem own_zeros (B : Nat) (w : World) (hB : B ≤ w.heap.size) (l : Nat) (hl : l ≤ 1000000) : Own (w.alloc (.cells (madeCells #[.int .u8 0] l) 5)) B (.slice (some ⟨w.heap.size, 0, none⟩) l l) (List.replicate l 0) := by
  refine ⟨by simp, Or.inr ⟨w.heap.size, l, _, by rw [List.length_replicate], hB, heap_alloc_new w _, by rw [List.length_replicate]; exact Nat.le_refl _, by unfold maxLen; omega, by rw [size_madeCells]; omega, ?_⟩⟩
  rw [toList_madeCells_one, List.take_replicate, List.map_replicate, List.length_replicate, Nat.mul_one, Nat.min_self]
  congr 1
  show _ = Value.int .u8 (bi 0)
  rw [bi0]
theorem Own.apart {w : World} {B : Nat} {v : Value} {bs : List UInt8} (h : Own w B v bs) {p : Addr} (hp : v.ownBlock ≠ some p.block) (u : Value) : Own (w.setCell p u) B v bs :=
  World.ownsRow.kept h (row := some p.block) ⟨rfl, rfl, rfl, by simp [World.setCell], fun i _ hne => Below.heap_setCell w p u i (fun e => hne (by rw [e]))⟩ (.inr hp)
theorem xor3_len (a b c : List UInt8) (l : Nat) (h1 : a.length = l) (h2 : b.length = l) (h3 : c.length = l) : (List.zipWith (· ^^^ ·) (List.zipWith (· ^^^ ·) a b) c).length = l := by simp; omega
theorem xor3_at (a b c : List UInt8) (k : Nat) (h1 : k < a.length) (h2 : k < b.length) (h3 : k < c.length) : (List.zipWith (· ^^^ ·) (List.zipWith (· ^^^ ·) a b) c).getD k 0 = a.getD k 0 ^^^ b.getD k 0 ^^^ c.getD k 0 := by
  simp only [List.getD_eq_getElem?_getD]
  rw [List.getElem?_eq_getElem (by simp; omega), List.getElem_zipWith, List.getElem_zipWith, List.getElem?_eq_getElem h1, List.getElem?_eq_getElem h2, List.getElem?_eq_getElem h3]
  rfl
theorem bxor (x y : UInt8) : bits .xor .u8 (bi x) (bi y) = bi (x ^^^ y) := by
  unfold bi
  have := x.toNat_lt
  have := y.toNat_lt
  rw [u8_xor_nat _ _ (by omega) (by omega), UInt8.toNat_xor]
/-- What has been filled so far. -/
def fill (x : List UInt8) (k l : Nat) : List UInt8 := x.take k ++ List.replicate (l - k) 0
theorem fill_zero (x : List UInt8) (l : Nat) : fill x 0 l = List.replicate l 0 := by unfold fill; simp
theorem fill_all (x : List UInt8) (l : Nat) (h : x.length = l) : fill x l l = x := by unfold fill; subst h; simp
theorem fill_length (x : List UInt8) (k l : Nat) (h : x.length = l) (hk : k ≤ l) : (fill x k l).length = l := by unfold fill; simp; omega
theorem fill_set (x : List UInt8) (k l : Nat) (h : x.length = l) (hk : k < l) : (fill x k l).set k (x.getD k 0) = fill x (k + 1) l := by
  unfold fill
  have e : l - k = (l - (k + 1)) + 1 := by omega
  have hl : (x.take k).length = k := by rw [List.length_take]; omega
  rw [e, List.replicate_succ, List.set_append_right _ _ (by omega), hl, Nat.sub_self, List.set_cons_zero, List.take_succ_eq_append_getElem (by omega), List.getD_eq_getElem?_getD, List.getElem?_eq_getElem (by omega), List.append_assoc]
  rfl

theorem crc_turned (xs : List UInt8) (j : Nat) (y x : UInt8) (h : j < xs.length) (hy : xs.getD j 0 = y) (hx : x ≠ 0) : crcL (xs.set j (y ^^^ x)) ≠ crcL xs := by
  have e : xs = xs.take j ++ y :: xs.drop (j + 1) := by
    rw [← hy, List.getD_eq_getElem?_getD, List.getElem?_eq_getElem h]
    show xs = xs.take j ++ xs[j] :: xs.drop (j + 1)
    rw [← List.drop_eq_getElem_cons h, List.take_append_drop]
  have hl : (xs.take j).length = j := by rw [List.length_take]; omega
  have e2 : xs.set j (y ^^^ x) = xs.take j ++ (y ^^^ x) :: xs.drop (j + 1) := by
    conv => lhs; rw [e]
    rw [List.set_append_right _ _ (by omega), hl, Nat.sub_self, List.set_cons_zero]
  rw [e2]
  conv => rhs; rw [e]
  refine crcL_ne _ _ _ _ (fun h2 => hx ?_)
  have : y ^^^ (y ^^^ x) = y ^^^ y := by rw [h2]
  rw [← UInt8.xor_assoc, UInt8.xor_self, UInt8.zero_xor] at this
  exact this
/-- A slice of l zeros and a copy of xs, both new and apart. -/
def Two (w1 : World) (l : Nat) (xs : List UInt8) (d t : Value) (W : World) : Prop :=
  ∃ gd, d = .slice (some ⟨gd, 0, none⟩) l l ∧ Own W w1.heap.size d (List.replicate l 0) ∧ Own W w1.heap.size t xs ∧ t.ownBlock ≠ some gd ∧ Below w1.heap.size w1 W
theorem two_after {w1 W0 w3 : World} {l : Nat} {xs : List UInt8} {gd ga : Nat} {t : Value} (hb : Below w1.heap.size w1 W0) (hd : Own W0 w1.heap.size (.slice (some ⟨gd, 0, none⟩) l l) (List.replicate l 0)) (ht : Own w3 w1.heap.size t xs)
    (hg : W0.grownBy w3 (some ga)) (hk : t.ownBlock = some ga ∨ t.ownBlock = some W0.heap.size) (hne : gd ≠ ga) (hlt : gd < W0.heap.size) (hga : w1.heap.size ≤ ga) : Two w1 l xs (.slice (some ⟨gd, 0, none⟩) l l) t w3 := by
  refine ⟨gd, rfl, World.ownsRow.kept hd hg (.inr fun e => hne (by simpa [Value.ownBlock] using e)), ht, ?_, hb.grown hg hb.size (fun k hk => by injection hk with hk; omega)⟩
  rcases hk with hk | hk <;> rw [hk] <;> intro e <;> injection e with e <;> omega
theorem two_before {w1 w3 : World} {l : Nat} {xs : List UInt8} {t : Value} (hb : Below w1.heap.size w1 w3) (hl : l ≤ 1000000) (ht : Own w3 w1.heap.size t xs) : Two w1 l xs (.slice (some ⟨w3.heap.size, 0, none⟩) l l) t (w3.alloc (.cells (madeCells #[.int .u8 0] l) 5)) :=
  ⟨w3.heap.size, rfl, own_zeros _ w3 hb.size l hl, ht.alloc _, fun e => by have := (World.ownsRow.lt ht _ e).2; omega, hb.alloc hb.size _⟩

set_option maxRecDepth 100000 in
set_option maxHeartbeats 1600000 in
theorem crcs_in (v1 v2 v3 : Value) (xs ys zs : List UInt8) (i : Int) (x : UInt8) (w : World) (h1 : Sl w v1 xs) (h2 : Sl w v2 ys) (h3 : Sl w v3 zs) (l : Nat) (hl1 : xs.length = l) (hl2 : ys.length = l) (hl3 : zs.length = l) (hl : l ≤ 6000) :
    Calls Try.prog 10 #[v1, v2, v3, .int .i64 i, .int .u8 (bi x)] w (Yes w) := by
  have H1 := Lib.hid h1
  have H2 := Lib.hid h2
  have H3 := Lib.hid h3
  have HL1 := Lib.hid hl1
  have HL2 := Lib.hid hl2
  have HL3 := Lib.hid hl3
  obtain ⟨A1, c1, e1, n1, m1, hI1⟩ := h1.len
  obtain ⟨A2, c2, e2, n2, m2, hI2⟩ := h2.len
  obtain ⟨A3, c3, e3, n3, m3, hI3⟩ := h3.len
  have HI1 := Lib.hid hI1
  have HI2 := Lib.hid hI2
  have HI3 := Lib.hid hI3
  clear hI1 hI2 hI3
  rw [hl1] at e1 n1
  rw [hl2] at e2 n2
  rw [hl3] at e3 n3
  subst e1 e2 e3
  unfold maxLen at m1 m2 m3
  clear hl1 hl2 hl3 h1 h2 h3
  have k1 : (l : Int) ≤ 6000 := by omega
  have hmk := make_len l (by omega)
  go_enter Try.func10, Try.ntmps10
  go_wp2_with fail
  refine (first_then (Below.refl _ _)).mono ?_
  rintro e w1 ⟨rfl, hb1⟩
  have HB1 := Lib.hid hb1
  clear hb1
  go_wp2_with fail
  obtain ⟨i0, hi, hz0, hz1, hz2⟩ := info_parts info5
  have hrd : ∀ W : World, Below w1.heap.size w1 W → Reads W W.heap.size 1 A1 l (xs.map bv) := fun W hb => by
    obtain ⟨A', c', he, _, _, hI', _⟩ := (H1.out.below HB1.out).below hb
    injection he with he _ _
    rw [he, ← HL1.out]
    exact hI'.reads
  have HRD := Lib.hid hrd
  clear hrd
  have hbA : Below w1.heap.size w1 ((w1.drew.alloc (.cells (madeCells #[.int .u8 0] l) 5)).alloc (.cells #[] 5)) := below2 (Below.refl _ _) (Nat.le_refl _) _ _
  have hbB : Below w1.heap.size w1 ((w1.drew.alloc (.cells #[] 5)).alloc (.cells (madeCells #[.int .u8 0] l) 5)) := below2 (Below.refl _ _) (Nat.le_refl _) _ _
  have hbC : Below w1.heap.size w1 (w1.drew.alloc (.cells #[] 5)) := ((Below.refl _ _).drew).alloc (Nat.le_refl _) _
  have hoA : Own ((w1.drew.alloc (.cells (madeCells #[.int .u8 0] l) 5)).alloc (.cells #[] 5)) w1.heap.size (.slice (some ⟨w1.heap.size + 1, 0, none⟩) 0 0) [] := by
    have := own_empty w1.heap.size (w1.drew.alloc (.cells (madeCells #[.int .u8 0] l) 5)) (by simp)
    simpa using this
  have hoB : Own ((w1.drew.alloc (.cells #[] 5)).alloc (.cells (madeCells #[.int .u8 0] l) 5)) w1.heap.size (.slice (some ⟨w1.heap.size, 0, none⟩) 0 0) [] := (own_empty w1.heap.size w1.drew (Nat.le_refl _)).alloc _
  have hoC : Own (w1.drew.alloc (.cells #[] 5)) w1.heap.size (.slice (some ⟨w1.heap.size, 0, none⟩) 0 0) [] := own_empty w1.heap.size w1.drew (Nat.le_refl _)
  have hdA : Own ((w1.drew.alloc (.cells (madeCells #[.int .u8 0] l) 5)).alloc (.cells #[] 5)) w1.heap.size (.slice (some ⟨w1.heap.size, 0, none⟩) l l) (List.replicate l 0) := (own_zeros w1.heap.size w1.drew (Nat.le_refl _) l (by omega)).alloc _
  have hdB : Own ((w1.drew.alloc (.cells #[] 5)).alloc (.cells (madeCells #[.int .u8 0] l) 5)) w1.heap.size (.slice (some ⟨w1.heap.size + 1, 0, none⟩) l l) (List.replicate l 0) := by
    have := own_zeros w1.heap.size (w1.drew.alloc (.cells #[] 5)) (by simp) l (by omega)
    simpa using this
  have HBA := Lib.hid hbA
  have HBB := Lib.hid hbB
  have HBC := Lib.hid hbC
  have HOA := Lib.hid hoA
  have HOB := Lib.hid hoB
  have HOC := Lib.hid hoC
  have HDA := Lib.hid hdA
  have HDB := Lib.hid hdB
  clear hbA hbB hbC hoA hoB hoC hdA hdB
  go_cut [11, 12] (fun d t wx => Two w1 l xs d t wx)
  case first =>
    go_region_held3 (fun _ => True) (trivial) (first
      | (refine step_append_any _ rfl (.tmp 37) (.tmp 38) 22 rfl w1.heap.size 5 i0 (.int .u8 0) 1 1 Try.underlying22 hi hz0 hz1 hz2 rfl (by decide) (.slice (some ⟨w1.heap.size + 1, 0, none⟩) 0 0) 0 [] rfl (by exact HOA.out) _ A1 l c1 (xs.map bv) rfl (by exact HRD.out _ HBA.out) (bv_one _) (by unfold maxLen; omega) (by omega) (by simp; omega) ?_; intro v3 w3 ho3 hg3 hk3; have HT := two_after (gd := w1.heap.size) (ga := w1.heap.size + 1) HBA.out HDA.out (show Own w3 w1.heap.size v3 xs by unfold Own; rw [HL1.out]; simpa using ho3) hg3 hk3 (by omega) (by simp; try omega) (by omega))
      | (refine step_append_any _ rfl (.tmp 37) (.tmp 38) 22 rfl w1.heap.size 5 i0 (.int .u8 0) 1 1 Try.underlying22 hi hz0 hz1 hz2 rfl (by decide) (.slice (some ⟨w1.heap.size, 0, none⟩) 0 0) 0 [] rfl (by exact HOB.out) _ A1 l c1 (xs.map bv) rfl (by exact HRD.out _ HBB.out) (bv_one _) (by unfold maxLen; omega) (by omega) (by simp; omega) ?_; intro v3 w3 ho3 hg3 hk3; have HT := two_after (gd := w1.heap.size + 1) (ga := w1.heap.size) HBB.out HDB.out (show Own w3 w1.heap.size v3 xs by unfold Own; rw [HL1.out]; simpa using ho3) hg3 hk3 (by omega) (by simp; try omega) (by omega))
      | (refine step_append_any _ rfl (.tmp 37) (.tmp 38) 22 rfl w1.heap.size 5 i0 (.int .u8 0) 1 1 Try.underlying22 hi hz0 hz1 hz2 rfl (by decide) (.slice (some ⟨w1.heap.size, 0, none⟩) 0 0) 0 [] rfl (by exact HOC.out) _ A1 l c1 (xs.map bv) rfl (by exact HRD.out _ HBC.out) (bv_one _) (by unfold maxLen; omega) (by omega) (by simp) ?_; intro v3 w3 ho3 hg3 hk3; have HT := two_before (l := l) (HBC.out.grown hg3 HBC.out.size (fun k hk => by simp [Value.ownBlock] at hk; omega)) (by omega) (show Own w3 w1.heap.size v3 xs by unfold Own; rw [HL1.out]; simpa using ho3)))
    all_goals (go_wp2_with fail; go_meet; exact HT)
  case rest =>
    obtain ⟨gd, rfl, hd, ht, hne, hb⟩ := hcut
    have HB2 := Lib.hid (HB1.out.trans (hb.mono HB1.out.size))
    have HB := Lib.hid hb
    have HD := Lib.hid hd
    have HT := Lib.hid ht
    have HNE := Lib.hid hne
    clear hb hd ht hne HBA HBB HBC HOA HOB HOC HDA HDB hmk HRD hi hz0 hz1 hz2
    obtain ⟨D, hD⟩ : ∃ D, List.zipWith (· ^^^ ·) (List.zipWith (· ^^^ ·) xs ys) zs = D := ⟨_, rfl⟩
    have hDl : D.length = l := by rw [← hD]; exact xor3_len xs ys zs l HL1.out HL2.out HL3.out
    have hDat : ∀ k, k < l → D.getD k 0 = xs.getD k 0 ^^^ ys.getD k 0 ^^^ zs.getD k 0 := fun k hk => by
      rw [← hD]; exact xor3_at xs ys zs k (by rw [HL1.out]; exact hk) (by rw [HL2.out]; exact hk) (by rw [HL3.out]; exact hk)
    have hDc : crcL D = crcL xs ^^^ crcL ys ^^^ crcL zs := by rw [← hD]; exact crcL_xor3 xs ys zs (by rw [HL1.out, HL2.out]) (by rw [HL1.out, HL3.out])
    have HDL := Lib.hid hDl
    have HDAT := Lib.hid hDat
    have HDC := Lib.hid hDc
    clear hD hDl hDat hDc
    have HD0 : Hid (Own wc w1.heap.size (.slice (some ⟨gd, 0, none⟩) l l) (fill D 0 l)) := by unfold Hid; rw [fill_zero]; exact HD.out
    go_wp2_with fail
    go_loopw [13] (fun i wr => ∃ k : Nat, k ≤ l ∧ i = .int .i64 k ∧ Own wr w1.heap.size (.slice (some ⟨gd, 0, none⟩) l l) (fill D k l) ∧ Own wr w1.heap.size u12 xs ∧ Below w1.heap.size w1 wr) (fun i _ => l - (intOf i).toNat)
    case atStart => exact ⟨0, Nat.zero_le _, rfl, HD0.out, HT.out, HB.out⟩
    case round =>
      clear HD0 HB HT HD
      obtain ⟨k, hk, rfl, hd, ht, hb⟩ := hrel
      have HD := Lib.hid hd
      have HT := Lib.hid ht
      have HBW := Lib.hid hb
      have HW := Lib.hid (HB1.out.trans (hb.mono HB1.out.size))
      clear hd ht hb
      by_cases hlt : k < l
      · obtain ⟨ad1, ha1, q1⟩ := (HI1.out.below HW.out).at_ k (by rw [HL1.out]; exact hlt)
        obtain ⟨ad2, ha2, q2⟩ := (HI2.out.below HW.out).at_ k (by rw [HL2.out]; exact hlt)
        obtain ⟨ad3, ha3, q3⟩ := (HI3.out.below HW.out).at_ k (by rw [HL3.out]; exact hlt)
        subst ha1 ha2 ha3
        have hdk := Lib.hid (HDAT.out k hlt)
        have hset := Lib.hid (fill_set D k l HDL.out hlt)
        obtain ⟨q4, q5⟩ := HD.out.cellAt k (by rw [fill_length D k l HDL.out hk]; exact hlt)
        generalize bi ((fill D k l).getD k 0) = old at *
        generalize xs.getD k 0 = x1 at *
        generalize ys.getD k 0 = x2 at *
        generalize zs.getD k 0 = x3 at *
        have y1 := bxor x1 x2
        have y2 := bxor (x1 ^^^ x2) x3
        have z1 : (0 : Int) ≤ (k : Int) := by omega
        have z2 : (k : Int) < (l : Int) := by omega
        go_wp2_with fail
        go_still_tail 17, (by kernel_rfl)
        change wpList _ _ _ _ _ wr.drew
        go_wp2
        go_roundw
        case rel =>
          refine ⟨k + 1, by omega, by go_num, ?_, HT.out.drew.apart (by simpa using HNE.out) _, (HBW.out.drew).setCell (by simp; have := HD.out.lt gd rfl; omega) _⟩
          have := HD.out.drew.setAt k (x1 ^^^ x2 ^^^ x3)
          rw [show (fill D k l).set k (x1 ^^^ x2 ^^^ x3) = fill D (k + 1) l from by rw [← hdk.out]; exact hset.out] at this
          exact this
        case measure => simp [intOf]; omega
      · obtain rfl : k = l := by omega
        rw [fill_all D k HDL.out] at HD
        clear HNE
        go_wp2_with fail
        have hc1 := crc_any _ D wr HD.out.sl
        rw [HDC.out] at hc1
        refine hc1.mono ?_
        rintro e w4 ⟨rfl, hb4⟩
        have HW4 := Lib.hid (HW.out.trans (hb4.mono HW.out.size))
        have HT4 := Lib.hid (HT.out.below hb4)
        clear hb4 hc1
        go_wp2_with fail
        refine (crc_any _ xs _ (H1.out.below HW4.out)).mono ?_
        rintro e w5 ⟨rfl, hb5⟩
        have HW5 := Lib.hid (HW4.out.trans (hb5.mono HW4.out.size))
        have HT5 := Lib.hid (HT4.out.below hb5)
        clear hb5
        go_wp2_with fail
        refine (crc_any _ ys _ (H2.out.below HW5.out)).mono ?_
        rintro e w6 ⟨rfl, hb6⟩
        have HW6 := Lib.hid (HW5.out.trans (hb6.mono HW5.out.size))
        have HT6 := Lib.hid (HT5.out.below hb6)
        clear hb6
        have y1 := wxor (crcL xs) (crcL ys)
        have y2 := wxor (crcL xs ^^^ crcL ys) (crcL zs)
        go_wp2_with fail
        refine (crc_any _ zs _ (H3.out.below HW6.out)).mono ?_
        rintro e w7 ⟨rfl, hb7⟩
        have HW7 := Lib.hid (HW6.out.trans (hb7.mono HW6.out.size))
        have HT7 := Lib.hid (HT6.out.below hb7)
        clear hb7
        by_cases hout : i < 0 ∨ (k : Int) ≤ i ∨ x = 0
        · have hcase : i < 0 ∨ (0 ≤ i ∧ (k : Int) ≤ i) ∨ (0 ≤ i ∧ i < (k : Int) ∧ (bi x == 0) = true) := by
            rcases hout with h | h | h
            · exact .inl h
            · exact .inr (.inl ⟨by omega, h⟩)
            · subst h
              by_cases h0 : i < 0
              · exact .inl h0
              · by_cases h1 : (k : Int) ≤ i
                · exact .inr (.inl ⟨by omega, h1⟩)
                · exact .inr (.inr ⟨by omega, by omega, by rw [bi0]; rfl⟩)
          clear hout
          rcases hcase with g1 | ⟨g0, g1⟩ | ⟨g0, g1, g2⟩
          all_goals
            go_wp2_with fail
            refine (first_then HW7.out).mono ?_
            rintro e w8 ⟨rfl, hb8⟩
            go_wp2
            go_ret
            exact ⟨rfl, hb8⟩
        · obtain ⟨j, rfl⟩ := Int.eq_ofNat_of_zero_le (show 0 ≤ i by omega)
          have hjk : j < k := by omega
          have g0 : (0 : Int) ≤ (j : Int) := by omega
          have g1 : (j : Int) < (k : Int) := by omega
          have g2 : (bi x == 0) = false := by
            rw [beq_eq_false_iff_ne]
            intro e
            exact hout (.inr (.inr (bi_inj (by rw [e, bi0]))))
          have hx0 : x ≠ 0 := fun e => hout (.inr (.inr e))
          have HX0 := Lib.hid hx0
          obtain ⟨gt, ct, ht, t1, t2, t3, t4, t5⟩ := HT7.out.wr (by rw [HL1.out]; omega)
          rw [HL1.out] at ht t1
          subst ht
          obtain ⟨q1, q2⟩ := HT7.out.cellAt j (by rw [HL1.out]; exact hjk)
          obtain ⟨y, hy⟩ : ∃ y, xs.getD j 0 = y := ⟨_, rfl⟩
          rw [hy] at q1
          have HY := Lib.hid hy
          have y3 := bxor y x
          have HS8 := Lib.hid (HT7.out.setAt j (y ^^^ x))
          have HW8 := Lib.hid (HW7.out.setCell (p := ⟨gt, j, none⟩) (by have := HB1.out.size; simp; omega) (.int .u8 (bi (y ^^^ x))))
          clear hout hx0 t5 hy t1 t2
          go_wp2_with fail
          refine (first_any _).mono ?_
          rintro e w9 ⟨rfl, hb9⟩
          have HW9 := Lib.hid (HW8.out.trans (hb9.mono HW8.out.size))
          have HT9 := Lib.hid (HS8.out.below hb9)
          clear hb9
          go_wp2_with fail
          have hc2 := crc_any _ _ w9 HT9.out.sl
          refine hc2.mono ?_
          rintro e w10 ⟨rfl, hb10⟩
          have HW10 := Lib.hid (HW9.out.trans (hb10.mono HW9.out.size))
          clear hb10 hc2
          go_wp2_with fail
          refine (crc_any _ xs _ (H1.out.below HW10.out)).mono ?_
          rintro e w11 ⟨rfl, hb11⟩
          have HW11 := Lib.hid (HW10.out.trans (hb11.mono HW10.out.size))
          clear hb11
          have hne : (wi (crcL (xs.set j (y ^^^ x))) == wi (crcL xs)) = false := by
            rw [beq_eq_false_iff_ne]
            intro e
            exact crc_turned xs j y x (by rw [HL1.out]; exact hjk) HY.out HX0.out (wi_inj e)
          have hne2 : (wi (crcL (xs.set j (y ^^^ x))) != wi (crcL xs)) = true := by rw [bne, hne]; rfl
          go_wp2
          go_ret
          exact ⟨rfl, HW11.out⟩

set_option maxRecDepth 100000 in
set_option maxHeartbeats 800000 in
theorem crcs_out (A1 A2 A3 : Option Addr) (l1 c1 l2 c2 l3 c3 : Nat) (i x : Int) (w : World) (h1 : l1 ≤ c1) (h2 : l2 ≤ c2) (h3 : l3 ≤ c3) (m1 : c1 ≤ maxLen) (m2 : c2 ≤ maxLen) (m3 : c3 ≤ maxLen) (h : 6000 < l1 ∨ l2 ≠ l1 ∨ l3 ≠ l1) :
    Calls Try.prog 10 #[.slice A1 l1 c1, .slice A2 l2 c2, .slice A3 l3 c3, .int .i64 i, .int .u8 x] w (Yes w) := by
  unfold maxLen at m1 m2 m3
  have hcase : (6000 < (l1 : Int)) ∨ ((l1 : Int) ≤ 6000 ∧ ((l2 : Int) != (l1 : Int)) = true) ∨ ((l1 : Int) ≤ 6000 ∧ ((l2 : Int) != (l1 : Int)) = false ∧ ((l3 : Int) != (l1 : Int)) = true) := by
    by_cases g : 6000 < l1
    · exact .inl (by omega)
    · by_cases g2 : l2 = l1
      · have : l3 ≠ l1 := by omega
        exact .inr (.inr ⟨by omega, by rw [bne_eq_false_iff_eq]; omega, by rw [bne_iff_ne]; omega⟩)
      · exact .inr (.inl ⟨by omega, by rw [bne_iff_ne]; omega⟩)
  have p1 : (l1 : Int) ≤ (c1 : Int) := by omega
  have p2 : (c1 : Int) ≤ 9223372036854775807 := by omega
  have p3 : (l2 : Int) ≤ (c2 : Int) := by omega
  have p4 : (c2 : Int) ≤ 9223372036854775807 := by omega
  have p5 : (l3 : Int) ≤ (c3 : Int) := by omega
  have p6 : (c3 : Int) ≤ 9223372036854775807 := by omega
  clear h m1 m2 m3
  rcases hcase with b1 | ⟨b1, b2⟩ | ⟨b1, b2, b3⟩
  all_goals
    go_enter Try.func10, Try.ntmps10
    go_wp2_with fail
    refine (first_then (Below.refl _ _)).mono ?_
    rintro e w1 ⟨rfl, hb1⟩
    have HB1 := Lib.hid hb1
    clear hb1
    go_wp2_with fail
    refine (first_then HB1.out).mono ?_
    rintro e w2 ⟨rfl, hb2⟩
    go_wp2_with fail
    go_ret
    exact ⟨rfl, hb2⟩

theorem wireCrcs_walk (a0 : Option Addr) (len0 cap0 : Nat) (z0 : List Int) (a1 : Option Addr) (len1 cap1 : Nat) (z1 : List Int) (a2 : Option Addr) (len2 cap2 : Nat) (z2 : List Int) (a3 a4 : Int) (w : World)
    (w0 : IsRow .u8 w a0 len0 cap0 z0) (w1 : IsRow .u8 w a1 len1 cap1 z1) (w2 : IsRow .u8 w a2 len2 cap2 z2) (_ : (Lit.int .i64 a3).wf = true) (w4 : (Lit.int .u8 a4).wf = true) :
    Calls Try.prog 10 #[.slice a0 len0 cap0, .slice a1 len1 cap1, .slice a2 len2 cap2, .int .i64 a3, .int .u8 a4] w (Yes w) := by
  obtain ⟨xs, hl0, hs0⟩ := w0.sl
  obtain ⟨ys, hl1, hs1⟩ := w1.sl
  obtain ⟨zs, hl2, hs2⟩ := w2.sl
  by_cases h : len0 ≤ 6000 ∧ len1 = len0 ∧ len2 = len0
  · rw [← bi_of w4]
    exact crcs_in _ _ _ xs ys zs a3 _ w hs0 hs1 hs2 len0 hl0 (by omega) (by omega) h.1
  · obtain ⟨_, _, e0, p0, q0, _⟩ := hs0.len
    obtain ⟨_, _, e1, p1, q1, _⟩ := hs1.len
    obtain ⟨_, _, e2, p2, q2, _⟩ := hs2.len
    injection e0 with _ e0 f0
    injection e1 with _ e1 f1
    injection e2 with _ e2 f2
    exact crcs_out a0 a1 a2 len0 cap0 len1 cap1 len2 cap2 a3 a4 w (by omega) (by omega) (by omega) (by omega) (by omega) (by omega) (by omega)
end Go.Proofs.Ythopfbkkjfnhkaa
