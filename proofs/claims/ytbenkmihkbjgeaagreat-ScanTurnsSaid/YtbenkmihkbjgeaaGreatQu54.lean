/- Texts put together: USc23. -/
import Derived.Test.YtbenkmihkbjgeaaGreatQu37
import Derived.Test.YtbenkmihkbjgeaaGreatQu44
import Derived.BigQuiet
/- Package scan's document: two tables that are one (marref.Rows). -/
set_option linter.unusedVariables false
set_option linter.unusedSimpArgs false
namespace Go.Proofs.YtbenkmihkbjgeaaGreat.Tx
open Go.RowKit Go.Maps Go.Proofs.YtbenkmihkbjgeaaGreat.Sh S7
set_option maxRecDepth 100000 in
set_option maxHeartbeats 3200000 in
theorem rrows_same (v1 v2 : Value) (a : List RwM) (w : World) (h1 : SlR w v1 a) (h2 : SlR w v2 a) : Calls Tryz.prog 16 #[v1, v2] w (Yes w) := by
 obtain ⟨A1, c1, rfl, hx1, hx2, _, hr1⟩ := h1
 obtain ⟨A2, c2, rfl, hy1, hy2, _, hr2⟩ := h2
 have HRX := Lib.hid hr1
 have HRY := Lib.hid hr2
 obtain ⟨N, hN⟩ : ∃ N, a.length = N := ⟨_, rfl⟩
 have HN := Lib.hid hN
 rw [hN] at hx1 hy1 HRX HRY ⊢
 unfold maxLen at hx2 hy2
 clear hN hr1 hr2
 go_enter Tryz.func16, Tryz.ntmps16
 go_wp2_with fail
 go_loopw [5] (fun x wr => ∃ i : Nat, i ≤ N ∧ x = .int .i64 (i : Int) ∧ Below w.heap.size w wr) (fun x _ => N - (intOf x).toNat)
 case atStart => exact ⟨0, Nat.zero_le _, rfl, Below.refl _ _⟩
 case round =>
  obtain ⟨i, hi, rfl, hb⟩ := hrel
  have HB := Lib.hid hb
  clear hb
  have z0 : (0 : Int) ≤ (i : Int) := by omega
  by_cases hlt : i < N
  ·have z1 : (i : Int) < (N : Int) := by omega
   have hil : i < a.length := by have := HN.out; omega
   obtain ⟨r, hr⟩ : ∃ r, a[i] = r := ⟨_, rfl⟩
   have hgr : a[i]? = some r := by rw [List.getElem?_eq_getElem hil, hr]
   obtain ⟨ax, rfl, x0, x1, x2⟩ := rows_at (HRX.out.below HB.out) HN.out.symm i r hgr
   obtain ⟨ay, rfl, y0, y1, y2⟩ := rows_at (HRY.out.below HB.out) HN.out.symm i r hgr
   obtain ⟨rp, rm, ri⟩ := r
   dsimp only at x0 x1 x2 y0 y1 y2
   clear hil hr hgr
   go_wp2_with fail
   go_quiet (fail)
   go_wp2_with fail
   go_roundw
   case rel => exact ⟨i + 1, by omega, by go_num, belowN_ HB.out _⟩
   case measure => simp [intOf]; omega
  ·obtain rfl : i = N := by omega
   go_wp2_with fail
   go_ret
   exact ⟨rfl, HB.out⟩
end Go.Proofs.YtbenkmihkbjgeaaGreat.Tx
