/- marlaw6.ObjUnlike: the walk. -/
import Derived.Test.YtcbiajajoojgmaaOb12
import Derived.Test.YtcbiajajoojgmaaOb13
import Derived.Test.YtcbiajajoojgmaaObIn
namespace Go.Proofs.Ytcbiajajoojgmaa.Ob
open Go.RowKit Go.Proofs.Ytcbiajajoojgmaa.Sh
open Go.Proofs.Ytcbiajajoojgmaa.Tx (OwnV SlV sv bl nameB reads_at texts_at toList_ne')

theorem sameB_comm (o p : ObM) : sameB o p = sameB p o := by
  rw [Bool.eq_iff_iff, sameB_iff, sameB_iff]
  exact ⟨Eq.symm, Eq.symm⟩
theorem sameB_self (o : ObM) : sameB o o = true := sameB_iff.2 rfl
theorem sameB_enc {o p : ObM} (h : mayB o = true) (h' : mayB p = true) : sameB o p = (encL o == encL p) := by
  rw [Bool.eq_iff_iff, sameB_iff, beq_iff_eq]
  exact ⟨fun e => by rw [e], encL_inj h h'⟩
theorem ObV.cells {w : World} {v : Value} {o : ObM} (h : ObV w v o) : ∃ A l c A2 l2 c2 A3 l3 c3, v = .agg #[.int .i64 o.kind, .slice A l c, .slice A2 l2 c2, .string (str o.tree), .slice A3 l3 c3, .int .i64 o.stamp, .int .i64 o.author, .string (str o.msg)] := by
  obtain ⟨d, it, ps, rfl, ⟨A, c, rfl, _⟩, ⟨A2, c2, rfl, _⟩, ⟨A3, c3, rfl, _⟩⟩ := h
  exact ⟨A, _, c, A2, _, c2, A3, _, c3, rfl⟩
set_option maxRecDepth 100000 in
set_option maxHeartbeats 3200000 in
theorem objUnlike_walk (v : Value) (o : ObM) (v' : Value) (p : ObM) (w : World) (h : ObV w v o) (h' : ObV w v' p) : Calls Try.prog 7 #[v, v'] w (Yes w) := by
  have HV := Lib.hid h
  have HV' := Lib.hid h'
  obtain ⟨A, l, c, A2, l2, c2, A3, l3, c3, rfl⟩ := h.cells
  obtain ⟨E, m, f, E2, m2, f2, E3, m3, f3, rfl⟩ := h'.cells
  clear h h'
  obtain ⟨w0, hw0⟩ : ∃ W, W = (w.alloc (.cells #[.int .i64 o.kind, .slice A l c, .slice A2 l2 c2, .string (str o.tree), .slice A3 l3 c3, .int .i64 o.stamp, .int .i64 o.author, .string (str o.msg)] 26)).alloc (.cells #[.int .i64 p.kind, .slice E m f, .slice E2 m2 f2, .string (str p.tree), .slice E3 m3 f3, .int .i64 p.stamp, .int .i64 p.author, .string (str p.msg)] 26) := ⟨_, rfl⟩
  have HW0 : Hid (Below w.heap.size w w0) := by unfold Hid; rw [hw0]; exact ((Below.refl _ _).alloc (Nat.le_refl _) _).alloc (by simp) _
  have HBA : Hid (Blk w0 w.heap.size 26 #[.int .i64 o.kind, .slice A l c, .slice A2 l2 c2, .string (str o.tree), .slice A3 l3 c3, .int .i64 o.stamp, .int .i64 o.author, .string (str o.msg)]) := by
    unfold Hid
    rw [hw0]
    exact (Blk.new w _ _).alloc _
  have HBB : Hid (Blk w0 (w.heap.size + 1) 26 #[.int .i64 p.kind, .slice E m f, .slice E2 m2 f2, .string (str p.tree), .slice E3 m3 f3, .int .i64 p.stamp, .int .i64 p.author, .string (str p.msg)]) := by
    unfold Hid
    rw [hw0, show w.heap.size + 1 = (w.alloc (.cells #[.int .i64 o.kind, .slice A l c, .slice A2 l2 c2, .string (str o.tree), .slice A3 l3 c3, .int .i64 o.stamp, .int .i64 o.author, .string (str o.msg)] 26)).heap.size from by simp]
    exact Blk.new _ _ _
  go_enter Try.func7, Try.ntmps7
  go_wp2_with fail
  rw [← hw0]
  clear hw0
  refine (first_any w0).mono ?_
  rintro e w1 ⟨rfl, hb1⟩
  have HW1 := Lib.hid (Below.after HW0.out hb1)
  have HA1 := Lib.hid (HBA.out.below hb1 HBA.out.lt)
  have HB1 := Lib.hid (HBB.out.below hb1 HBB.out.lt)
  clear hb1
  obtain ⟨x0, x1, x2, x3, x4, x5, x6, x7⟩ := box_cells HA1.out
  go_wp2_with fail
  clear x0 x1 x2 x3 x4 x5 x6 x7
  refine (few_any _ o w1 (HV.out.below HW1.out)).mono ?_
  rintro e w2 ⟨t1, rfl, ht1, hb2⟩
  have HW2 := Lib.hid (Below.after HW1.out hb2)
  have HA2 := Lib.hid (HA1.out.below hb2 HA1.out.lt)
  have HB2 := Lib.hid (HB1.out.below hb2 HB1.out.lt)
  have HT1 := Lib.hid ht1
  clear hb2 ht1
  cases t1 with
  | false =>
    go_wp2_with fail
    refine (first_any w2).mono ?_
    rintro e w3 ⟨rfl, hb3⟩
    have HW3 := Lib.hid (Below.after HW2.out hb3)
    clear hb3
    go_wp2_with fail
    go_ret
    exact ⟨rfl, HW3.out⟩
  | true =>
    obtain ⟨y0, y1, y2, y3, y4, y5, y6, y7⟩ := box_cells HB2.out
    go_wp2_with fail
    clear y0 y1 y2 y3 y4 y5 y6 y7
    refine (few_any _ p w2 (HV'.out.below HW2.out)).mono ?_
    rintro e w3 ⟨t2, rfl, ht2, hb3⟩
    have HW3 := Lib.hid (Below.after HW2.out hb3)
    have HA3 := Lib.hid (HA2.out.below hb3 HA2.out.lt)
    have HB3 := Lib.hid (HB2.out.below hb3 HB2.out.lt)
    clear hb3 ht2
    cases t2 with
    | false =>
      go_wp2_with fail
      refine (first_any w3).mono ?_
      rintro e w4 ⟨rfl, hb4⟩
      have HW4 := Lib.hid (Below.after HW3.out hb4)
      clear hb4
      go_wp2_with fail
      go_ret
      exact ⟨rfl, HW4.out⟩
    | true =>
      obtain ⟨x0, x1, x2, x3, x4, x5, x6, x7⟩ := box_cells HA3.out
      go_wp2_with fail
      clear x0 x1 x2 x3 x4 x5 x6 x7
      refine (encode_any _ o w3 (HV.out.below HW3.out)).mono ?_
      rintro e w4 ⟨hy, hn, hb4⟩
      have HW4 := Lib.hid (Below.after HW3.out hb4)
      have HA4 := Lib.hid (HA3.out.below hb4 HA3.out.lt)
      have HB4 := Lib.hid (HB3.out.below hb4 HB3.out.lt)
      clear hb4
      obtain ⟨z0, z1, z2, z3, z4, z5, z6, z7⟩ := box_cells HB4.out
      obtain ⟨r1, hr1⟩ : ∃ r, mayB o = r := ⟨_, rfl⟩
      obtain ⟨r2, hr2⟩ : ∃ r, mayB p = r := ⟨_, rfl⟩
      have HR1 := Lib.hid hr1
      have HR2 := Lib.hid hr2
      clear hr1 hr2
      cases r1 with
      | false =>
        obtain rfl := hn HR1.out
        clear hy hn
        go_wp2_with fail
        clear z0 z1 z2 z3 z4 z5 z6 z7
        refine (encode_any _ p w4 (HV'.out.below HW4.out)).mono ?_
        rintro e w5 ⟨hy, hn, hb5⟩
        have HW5 := Lib.hid (Below.after HW4.out hb5)
        have HA5 := Lib.hid (HA4.out.below hb5 HA4.out.lt)
        have HB5 := Lib.hid (HB4.out.below hb5 HB4.out.lt)
        obtain ⟨q, k, rfl⟩ : ∃ q k, e = .returned (.tuple #[q, .int .i64 k]) := by
          cases r2 with
          | false => exact ⟨_, _, hn HR2.out⟩
          | true =>
            obtain ⟨u, hu, _⟩ := hy HR2.out
            exact ⟨_, _, hu⟩
        clear hy hn hb5
        go_wp2_with fail
        have HCL : Hid (∀ W, Below w5.heap.size w5 W → (fun W : World => W.cell? ⟨w.heap.size, 0, none⟩ = some (.int .i64 o.kind) ∧ W.cell? ⟨w.heap.size, 1, none⟩ = some (.slice A l c) ∧ W.cell? ⟨w.heap.size, 2, none⟩ = some (.slice A2 l2 c2) ∧ W.cell? ⟨w.heap.size, 3, none⟩ = some (.string (str o.tree)) ∧ W.cell? ⟨w.heap.size, 4, none⟩ = some (.slice A3 l3 c3) ∧ W.cell? ⟨w.heap.size, 5, none⟩ = some (.int .i64 o.stamp) ∧ W.cell? ⟨w.heap.size, 6, none⟩ = some (.int .i64 o.author) ∧ W.cell? ⟨w.heap.size, 7, none⟩ = some (.string (str o.msg)) ∧ W.cell? ⟨w.heap.size + 1, 0, none⟩ = some (.int .i64 p.kind) ∧ W.cell? ⟨w.heap.size + 1, 1, none⟩ = some (.slice E m f) ∧ W.cell? ⟨w.heap.size + 1, 2, none⟩ = some (.slice E2 m2 f2) ∧ W.cell? ⟨w.heap.size + 1, 3, none⟩ = some (.string (str p.tree)) ∧ W.cell? ⟨w.heap.size + 1, 4, none⟩ = some (.slice E3 m3 f3) ∧ W.cell? ⟨w.heap.size + 1, 5, none⟩ = some (.int .i64 p.stamp) ∧ W.cell? ⟨w.heap.size + 1, 6, none⟩ = some (.int .i64 p.author) ∧ W.cell? ⟨w.heap.size + 1, 7, none⟩ = some (.string (str p.msg))) W) := fun W hW => by
          obtain ⟨a0, a1, a2, a3, a4, a5, a6, a7⟩ := box_cells (HA5.out.below hW HA5.out.lt)
          obtain ⟨b0, b1, b2, b3, b4, b5, b6, b7⟩ := box_cells (HB5.out.below hW HB5.out.lt)
          exact ⟨a0, a1, a2, a3, a4, a5, a6, a7, b0, b1, b2, b3, b4, b5, b6, b7⟩
        have HVA : Hid (∀ W, Below w5.heap.size w5 W → ObV W _ o) := fun W hW => HV.out.below (Below.after HW5.out hW)
        have HVB : Hid (∀ W, Below w5.heap.size w5 W → ObV W _ p) := fun W hW => HV'.out.below (Below.after HW5.out hW)
        go_region_held3 (fun W : World => W.cell? ⟨w.heap.size, 0, none⟩ = some (.int .i64 o.kind) ∧ W.cell? ⟨w.heap.size, 1, none⟩ = some (.slice A l c) ∧ W.cell? ⟨w.heap.size, 2, none⟩ = some (.slice A2 l2 c2) ∧ W.cell? ⟨w.heap.size, 3, none⟩ = some (.string (str o.tree)) ∧ W.cell? ⟨w.heap.size, 4, none⟩ = some (.slice A3 l3 c3) ∧ W.cell? ⟨w.heap.size, 5, none⟩ = some (.int .i64 o.stamp) ∧ W.cell? ⟨w.heap.size, 6, none⟩ = some (.int .i64 o.author) ∧ W.cell? ⟨w.heap.size, 7, none⟩ = some (.string (str o.msg)) ∧ W.cell? ⟨w.heap.size + 1, 0, none⟩ = some (.int .i64 p.kind) ∧ W.cell? ⟨w.heap.size + 1, 1, none⟩ = some (.slice E m f) ∧ W.cell? ⟨w.heap.size + 1, 2, none⟩ = some (.slice E2 m2 f2) ∧ W.cell? ⟨w.heap.size + 1, 3, none⟩ = some (.string (str p.tree)) ∧ W.cell? ⟨w.heap.size + 1, 4, none⟩ = some (.slice E3 m3 f3) ∧ W.cell? ⟨w.heap.size + 1, 5, none⟩ = some (.int .i64 p.stamp) ∧ W.cell? ⟨w.heap.size + 1, 6, none⟩ = some (.int .i64 p.author) ∧ W.cell? ⟨w.heap.size + 1, 7, none⟩ = some (.string (str p.msg)))
          (first | exact HCL.out _ HX8.out | exact HCL.out _ HX7.out | exact HCL.out _ HX6.out | exact HCL.out _ (Below.refl _ _).drew | exact HCL.out _ (Below.refl _ _))
          (first
            | (have _ := N7; go_at_call 21; refine (same_any _ _ p o _ (by exact HVB.out _ HX7.out) (by exact HVA.out _ HX7.out)).mono ?_; rintro e w8 ⟨rfl, hb8⟩; have HX8 := Lib.hid (HX7.out.trans (hb8.mono HX7.out.size)); clear hb8)
            | (have _ := N6; go_at_call 21; refine (same_any _ _ o p _ (by exact HVA.out _ HX6.out) (by exact HVB.out _ HX6.out)).mono ?_; rintro e w7 ⟨rfl, hb7⟩; have N7 : True := trivial; have HX7 := Lib.hid (HX6.out.trans (hb7.mono HX6.out.size)); clear hb7)
            | (go_at_call 9; refine (first_any _).mono ?_; rintro e w6 ⟨rfl, hb6⟩; have N6 : True := trivial; have HX6 := Lib.hid (show Below w5.heap.size w5 w6 from ⟨hb6.os, hb6.tape, hb6.output, hb6.size, hb6.block⟩); clear hb6))
        go_wp2_with fail
        go_ret
        exact ⟨by rw [sameB_comm o p, beq_self_eq_true]; rfl, Below.after HW5.out HX8.out⟩
      | true =>
        obtain ⟨u, rfl, hu⟩ := hy HR1.out
        clear hy hn
        go_wp2_with fail
        clear z0 z1 z2 z3 z4 z5 z6 z7
        refine (encode_any _ p w4 (HV'.out.below HW4.out)).mono ?_
        rintro e w5 ⟨hy2, hn2, hb5⟩
        have HW5 := Lib.hid (Below.after HW4.out hb5)
        have HA5 := Lib.hid (HA4.out.below hb5 HA4.out.lt)
        have HB5 := Lib.hid (HB4.out.below hb5 HB4.out.lt)
        have HU5 := Lib.hid (hu.sl.below hb5)
        clear hb5 hu
        cases r2 with
        | false =>
          obtain rfl := hn2 HR2.out
          clear hy2 hn2
          go_wp2_with fail
          have HCL : Hid (∀ W, Below w5.heap.size w5 W → (fun W : World => W.cell? ⟨w.heap.size, 0, none⟩ = some (.int .i64 o.kind) ∧ W.cell? ⟨w.heap.size, 1, none⟩ = some (.slice A l c) ∧ W.cell? ⟨w.heap.size, 2, none⟩ = some (.slice A2 l2 c2) ∧ W.cell? ⟨w.heap.size, 3, none⟩ = some (.string (str o.tree)) ∧ W.cell? ⟨w.heap.size, 4, none⟩ = some (.slice A3 l3 c3) ∧ W.cell? ⟨w.heap.size, 5, none⟩ = some (.int .i64 o.stamp) ∧ W.cell? ⟨w.heap.size, 6, none⟩ = some (.int .i64 o.author) ∧ W.cell? ⟨w.heap.size, 7, none⟩ = some (.string (str o.msg)) ∧ W.cell? ⟨w.heap.size + 1, 0, none⟩ = some (.int .i64 p.kind) ∧ W.cell? ⟨w.heap.size + 1, 1, none⟩ = some (.slice E m f) ∧ W.cell? ⟨w.heap.size + 1, 2, none⟩ = some (.slice E2 m2 f2) ∧ W.cell? ⟨w.heap.size + 1, 3, none⟩ = some (.string (str p.tree)) ∧ W.cell? ⟨w.heap.size + 1, 4, none⟩ = some (.slice E3 m3 f3) ∧ W.cell? ⟨w.heap.size + 1, 5, none⟩ = some (.int .i64 p.stamp) ∧ W.cell? ⟨w.heap.size + 1, 6, none⟩ = some (.int .i64 p.author) ∧ W.cell? ⟨w.heap.size + 1, 7, none⟩ = some (.string (str p.msg))) W) := fun W hW => by
            obtain ⟨a0, a1, a2, a3, a4, a5, a6, a7⟩ := box_cells (HA5.out.below hW HA5.out.lt)
            obtain ⟨b0, b1, b2, b3, b4, b5, b6, b7⟩ := box_cells (HB5.out.below hW HB5.out.lt)
            exact ⟨a0, a1, a2, a3, a4, a5, a6, a7, b0, b1, b2, b3, b4, b5, b6, b7⟩
          have HVA : Hid (∀ W, Below w5.heap.size w5 W → ObV W _ o) := fun W hW => HV.out.below (Below.after HW5.out hW)
          have HVB : Hid (∀ W, Below w5.heap.size w5 W → ObV W _ p) := fun W hW => HV'.out.below (Below.after HW5.out hW)
          go_region_held3 (fun W : World => W.cell? ⟨w.heap.size, 0, none⟩ = some (.int .i64 o.kind) ∧ W.cell? ⟨w.heap.size, 1, none⟩ = some (.slice A l c) ∧ W.cell? ⟨w.heap.size, 2, none⟩ = some (.slice A2 l2 c2) ∧ W.cell? ⟨w.heap.size, 3, none⟩ = some (.string (str o.tree)) ∧ W.cell? ⟨w.heap.size, 4, none⟩ = some (.slice A3 l3 c3) ∧ W.cell? ⟨w.heap.size, 5, none⟩ = some (.int .i64 o.stamp) ∧ W.cell? ⟨w.heap.size, 6, none⟩ = some (.int .i64 o.author) ∧ W.cell? ⟨w.heap.size, 7, none⟩ = some (.string (str o.msg)) ∧ W.cell? ⟨w.heap.size + 1, 0, none⟩ = some (.int .i64 p.kind) ∧ W.cell? ⟨w.heap.size + 1, 1, none⟩ = some (.slice E m f) ∧ W.cell? ⟨w.heap.size + 1, 2, none⟩ = some (.slice E2 m2 f2) ∧ W.cell? ⟨w.heap.size + 1, 3, none⟩ = some (.string (str p.tree)) ∧ W.cell? ⟨w.heap.size + 1, 4, none⟩ = some (.slice E3 m3 f3) ∧ W.cell? ⟨w.heap.size + 1, 5, none⟩ = some (.int .i64 p.stamp) ∧ W.cell? ⟨w.heap.size + 1, 6, none⟩ = some (.int .i64 p.author) ∧ W.cell? ⟨w.heap.size + 1, 7, none⟩ = some (.string (str p.msg)))
            (first | exact HCL.out _ HX8.out | exact HCL.out _ HX7.out | exact HCL.out _ HX6.out | exact HCL.out _ (Below.refl _ _).drew | exact HCL.out _ (Below.refl _ _))
            (first
              | (have _ := N7; go_at_call 21; refine (same_any _ _ p o _ (by exact HVB.out _ HX7.out) (by exact HVA.out _ HX7.out)).mono ?_; rintro e w8 ⟨rfl, hb8⟩; have HX8 := Lib.hid (HX7.out.trans (hb8.mono HX7.out.size)); clear hb8)
              | (have _ := N6; go_at_call 21; refine (same_any _ _ o p _ (by exact HVA.out _ HX6.out) (by exact HVB.out _ HX6.out)).mono ?_; rintro e w7 ⟨rfl, hb7⟩; have N7 : True := trivial; have HX7 := Lib.hid (HX6.out.trans (hb7.mono HX6.out.size)); clear hb7)
              | (go_at_call 9; refine (first_any _).mono ?_; rintro e w6 ⟨rfl, hb6⟩; have N6 : True := trivial; have HX6 := Lib.hid (show Below w5.heap.size w5 w6 from ⟨hb6.os, hb6.tape, hb6.output, hb6.size, hb6.block⟩); clear hb6))
          go_wp2_with fail
          go_ret
          exact ⟨by rw [sameB_comm o p, beq_self_eq_true]; rfl, Below.after HW5.out HX8.out⟩
        | true =>
          obtain ⟨u2, rfl, hu2⟩ := hy2 HR2.out
          have HU2 := Lib.hid hu2.sl
          clear hy2 hn2 hu2
          go_wp2_with fail
          refine (first_any w5).mono ?_
          rintro e w6 ⟨rfl, hb6⟩
          have HW6 := Lib.hid (Below.after HW5.out hb6)
          have HX6 := Lib.hid hb6
          have HA6 := Lib.hid (HA5.out.below hb6 HA5.out.lt)
          have HB6 := Lib.hid (HB5.out.below hb6 HB5.out.lt)
          clear hb6
          obtain ⟨x0, x1, x2, x3, x4, x5, x6, x7⟩ := box_cells HA6.out
          obtain ⟨y0, y1, y2, y3, y4, y5, y6, y7⟩ := box_cells HB6.out
          go_wp2_with fail
          clear x0 x1 x2 x3 x4 x5 x6 x7 y0 y1 y2 y3 y4 y5 y6 y7
          refine (same_any _ _ o p w6 (HV.out.below HW6.out) (HV'.out.below HW6.out)).mono ?_
          rintro e w7 ⟨rfl, hb7⟩
          have HW7 := Lib.hid (Below.after HW6.out hb7)
          have HX7 := Lib.hid (HX6.out.trans (hb7.mono HX6.out.size))
          have HA7 := Lib.hid (HA6.out.below hb7 HA6.out.lt)
          clear hb7
          go_wp2_with fail
          refine (bytes_any _ _ (encL o) (encL p) w7 (HU5.out.below HX7.out) (HU2.out.below HX7.out) _ rfl).mono ?_
          rintro e w8 ⟨rfl, rfl⟩
          obtain ⟨x0, x1, x2, x3, x4, x5, x6, x7⟩ := box_cells HA7.out
          have hse : (sameB o p == (encL o == encL p)) = true := by rw [sameB_enc HR1.out HR2.out, beq_self_eq_true]
          go_wp2_with fail
          clear x0 x1 x2 x3 x4 x5 x6 x7
          refine (same_any _ _ o o w7 (HV.out.below HW7.out) (HV.out.below HW7.out)).mono ?_
          rw [sameB_self]
          rintro e w9 ⟨rfl, hb9⟩
          have HW9 := Lib.hid (Below.after HW7.out hb9)
          clear hb9
          go_wp2_with fail
          go_ret
          exact ⟨rfl, HW9.out⟩
end Go.Proofs.Ytcbiajajoojgmaa.Ob
