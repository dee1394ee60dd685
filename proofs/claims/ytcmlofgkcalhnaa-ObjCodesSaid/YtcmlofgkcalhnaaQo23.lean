/- Texts put together: Ob4. -/
import Derived.Test.YtcmlofgkcalhnaaQo21
/- obj: Same. -/
namespace Go.Proofs.Ytcmlofgkcalhnaa.Ob
open Go.RowKit Go.Proofs.Ytcmlofgkcalhnaa.Sh
open Go.Proofs.Ytcmlofgkcalhnaa.Tx (OwnV SlV sv bl nameB reads_at texts_at toList_ne')

def sameB (o p : ObM) : Bool := o.kind == p.kind && o.data == p.data && o.items == p.items && o.tree == p.tree && o.parents == p.parents && o.stamp == p.stamp && o.author == p.author && o.msg == p.msg
theorem sameB_iff {o p : ObM} : sameB o p = true ↔ o = p := by
  unfold sameB
  cases o; cases p
  simp [and_assoc]
theorem Below.after {w w1 w2 : World} (h : Below w.heap.size w w1) (h2 : Below w1.heap.size w1 w2) : Below w.heap.size w w2 := h.trans (h2.mono h.size)
/-- The cells of a boxed object. -/
theorem box_cells {w : World} {b : Nat} {T : TypeId} {c0 c1 c2 c3 c4 c5 c6 c7 : Value} (h : Blk w b T #[c0, c1, c2, c3, c4, c5, c6, c7]) :
    w.cell? ⟨b, 0, none⟩ = some c0 ∧ w.cell? ⟨b, 1, none⟩ = some c1 ∧ w.cell? ⟨b, 2, none⟩ = some c2 ∧ w.cell? ⟨b, 3, none⟩ = some c3 ∧ w.cell? ⟨b, 4, none⟩ = some c4 ∧ w.cell? ⟨b, 5, none⟩ = some c5 ∧ w.cell? ⟨b, 6, none⟩ = some c6 ∧ w.cell? ⟨b, 7, none⟩ = some c7 :=
  ⟨h.cell 0, h.cell 1, h.cell 2, h.cell 3, h.cell 4, h.cell 5, h.cell 6, h.cell 7⟩
set_option maxRecDepth 100000 in
set_option maxHeartbeats 1600000 in
theorem same_any (v v' : Value) (o p : ObM) (w : World) (h : ObV w v o) (h' : ObV w v' p) : Calls Try.prog 24 #[v, v'] w (BoolPost w (sameB o p)) := by
  obtain ⟨d, it, ps, rfl, hd, hi, hp⟩ := h
  obtain ⟨d', it', ps', rfl, hd', hi', hp'⟩ := h'
  obtain ⟨k0, D, I, t0, P, s0, a0, m0⟩ := o
  obtain ⟨k1, D', I', t1, P', s1, a1, m1⟩ := p
  have HD := Lib.hid hd
  have HI := Lib.hid hi
  have HP := Lib.hid hp
  have HD' := Lib.hid hd'
  have HI' := Lib.hid hi'
  have HP' := Lib.hid hp'
  clear hd hi hp hd' hi' hp'
  show Calls _ _ #[.agg #[.int .i64 k0, d, it, .string (str t0), ps, .int .i64 s0, .int .i64 a0, .string (str m0)], .agg #[.int .i64 k1, d', it', .string (str t1), ps', .int .i64 s1, .int .i64 a1, .string (str m1)]] _ _
  obtain ⟨b0, e0⟩ : ∃ b, (k0 == k1) = b := ⟨_, rfl⟩
  obtain ⟨b1, e1⟩ : ∃ b, (D == D') = b := ⟨_, rfl⟩
  obtain ⟨b2, e2⟩ : ∃ b, (I == I') = b := ⟨_, rfl⟩
  obtain ⟨b3, e3⟩ : ∃ b, ((str t0).toList == (str t1).toList) = b := ⟨_, rfl⟩
  obtain ⟨b4, e4⟩ : ∃ b, (P == P') = b := ⟨_, rfl⟩
  obtain ⟨b5, e5⟩ : ∃ b, (s0 == s1) = b := ⟨_, rfl⟩
  obtain ⟨b6, e6⟩ : ∃ b, (a0 == a1) = b := ⟨_, rfl⟩
  obtain ⟨b7, e7⟩ : ∃ b, ((str m0).toList == (str m1).toList) = b := ⟨_, rfl⟩
  have HS : Hid (sameB ⟨k0, D, I, t0, P, s0, a0, m0⟩ ⟨k1, D', I', t1, P', s1, a1, m1⟩ = (b0 && b1 && b2 && b3 && b4 && b5 && b6 && b7)) := by
    unfold Hid sameB
    rw [← e0, ← e1, ← e2, ← e3, ← e4, ← e5, ← e6, ← e7, str_toList, str_toList, str_toList, str_toList]
  have E1 := Lib.hid e1
  have E2 := Lib.hid e2
  have E4 := Lib.hid e4
  clear e1 e2 e4
  rw [HS.out]
  clear HS
  have hw1 : Below w.heap.size w ((w.alloc (.cells #[.int .i64 k0, d, it, .string (str t0), ps, .int .i64 s0, .int .i64 a0, .string (str m0)] 32)).alloc (.cells #[.int .i64 k1, d', it', .string (str t1), ps', .int .i64 s1, .int .i64 a1, .string (str m1)] 32)) :=
    ((Below.refl _ _).alloc (Nat.le_refl _) _).alloc (by simp) _
  have HW := Lib.hid hw1
  clear hw1
  cases b0 with
  | false =>
    go_enter Try.func24, Try.ntmps24
    go_wp2_with fail
    go_ret
    exact ⟨rfl, HW.out⟩
  | true =>
    go_enter Try.func24, Try.ntmps24
    go_wp2_with fail
    obtain ⟨W, hW⟩ : ∃ W, W = ((w.alloc (.cells #[.int .i64 k0, d, it, .string (str t0), ps, .int .i64 s0, .int .i64 a0, .string (str m0)] 32)).alloc (.cells #[.int .i64 k1, d', it', .string (str t1), ps', .int .i64 s1, .int .i64 a1, .string (str m1)] 32)) := ⟨_, rfl⟩
    rw [← hW]
    have HB1 : Hid (Blk W w.heap.size 32 #[.int .i64 k0, d, it, .string (str t0), ps, .int .i64 s0, .int .i64 a0, .string (str m0)]) := by
      unfold Hid
      rw [hW]
      exact (Blk.new w _ _).alloc _
    have HB2 : Hid (Blk W (w.heap.size + 1) 32 #[.int .i64 k1, d', it', .string (str t1), ps', .int .i64 s1, .int .i64 a1, .string (str m1)]) := by
      unfold Hid
      rw [hW, show w.heap.size + 1 = (w.alloc (.cells #[.int .i64 k0, d, it, .string (str t0), ps, .int .i64 s0, .int .i64 a0, .string (str m0)] 32)).heap.size from by simp]
      exact Blk.new _ _ _
    have HWW : Hid (Below w.heap.size w W) := by unfold Hid; rw [hW]; exact HW.out
    clear hW HW
    refine (eqb_any _ _ _ _ W (HD.out.below HWW.out) (HD'.out.below HWW.out)).mono ?_
    rw [E1.out]
    rintro e W3 ⟨rfl, hb3⟩
    have C3 := Lib.hid (Below.after HWW.out hb3)
    have A3 := Lib.hid (HB1.out.below hb3 HB1.out.lt)
    have B3 := Lib.hid (HB2.out.below hb3 HB2.out.lt)
    clear hb3
    cases b1 with
    | false =>
      go_wp2_with fail
      go_ret
      exact ⟨rfl, C3.out⟩
    | true =>
      obtain ⟨-, -, x2, x3, x4, x5, x6, x7⟩ := box_cells A3.out
      obtain ⟨-, -, y2, y3, y4, y5, y6, y7⟩ := box_cells B3.out
      go_wp2_with fail
      clear x2 x3 x4 x5 x6 x7 y2 y3 y4 y5 y6 y7
      refine (eqi_any _ _ _ _ W3 (HI.out.below C3.out) (HI'.out.below C3.out)).mono ?_
      rw [E2.out]
      rintro e W4 ⟨rfl, hb4⟩
      have C4 := Lib.hid (Below.after C3.out hb4)
      have A4 := Lib.hid (A3.out.below hb4 A3.out.lt)
      have B4 := Lib.hid (B3.out.below hb4 B3.out.lt)
      clear hb4
      cases b2 with
      | false =>
        go_wp2_with fail
        go_ret
        exact ⟨rfl, C4.out⟩
      | true =>
        obtain ⟨-, -, x2, x3, x4, x5, x6, x7⟩ := box_cells A4.out
        obtain ⟨-, -, y2, y3, y4, y5, y6, y7⟩ := box_cells B4.out
        cases b3 with
        | false =>
          go_wp2_with fail
          go_ret
          exact ⟨rfl, C4.out⟩
        | true =>
          go_wp2_with fail
          clear x2 x3 x4 x5 x6 x7 y2 y3 y4 y5 y6 y7
          refine (eqt_any _ _ _ _ W4 (HP.out.below C4.out) (HP'.out.below C4.out)).mono ?_
          rw [E4.out]
          rintro e W5 ⟨rfl, hb5⟩
          have C5 := Lib.hid (Below.after C4.out hb5)
          have A5 := Lib.hid (A4.out.below hb5 A4.out.lt)
          have B5 := Lib.hid (B4.out.below hb5 B4.out.lt)
          clear hb5
          obtain ⟨-, -, x2, x3, x4, x5, x6, x7⟩ := box_cells A5.out
          obtain ⟨-, -, y2, y3, y4, y5, y6, y7⟩ := box_cells B5.out
          cases b4 <;> cases b5 <;> cases b6 <;> cases b7 <;> (go_wp2_with fail; go_ret; exact ⟨rfl, C5.out⟩)
end Go.Proofs.Ytcmlofgkcalhnaa.Ob
