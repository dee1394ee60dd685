/- Texts put together: USc20. -/
import Derived.Test.YtbenkmihkbjgeaaGreatQu49
import Derived.Test.YtbenkmihkbjgeaaGreatQu50
import Derived.Test.YtbenkmihkbjgeaaGreatQu46
import Derived.BigQuiet
/- marlaw13.ScanStatus: the walk. -/
set_option linter.unusedVariables false
set_option linter.unusedSimpArgs false
namespace Go.Proofs.YtbenkmihkbjgeaaGreat.Tx
open Go.RowKit Go.Maps Go.Proofs.YtbenkmihkbjgeaaGreat.Sh S7
set_option maxRecDepth 100000 in
set_option maxHeartbeats 6400000 in
theorem scanStatus_walk (v1 v2 : Value) (a b : List RwM) (w : World) (h1 : SlR w v1 a) (h2 : SlR w v2 b) : Calls Tryz.prog 5 #[v1, v2] w (Yes w) := by
 have H1 := Lib.hid h1
 have H2 := Lib.hid h2
 clear h1 h2
 go_enter Tryz.func5, Tryz.ntmps5
 go_wp2_with fail
 refine (xfirst_any w).mono ?_
 rintro e w1 ⟨rfl, hb1⟩
 have HB1 := Lib.hid hb1
 clear hb1
 go_wp2_with fail
 refine (table_any v1 a _ (H1.out.below HB1.out)).mono ?_
 rintro e w2 ⟨t, rfl, ht, hb⟩
 have HT := Lib.hid ht
 have HB2 := Lib.hid (HB1.out.trans (hb.mono HB1.out.size))
 clear ht hb HB1
 cases t with
 | false =>
  go_wp2_with fail
  refine (xfirst_any w2).mono ?_
  rintro e w9 ⟨rfl, hb9⟩
  have HB9 := Lib.hid (HB2.out.trans (hb9.mono HB2.out.size))
  clear hb9
  go_wp2_with fail
  go_ret
  exact ⟨rfl, HB9.out⟩
 | true =>
 go_wp2_with fail
 refine (table_any v2 b _ (H2.out.below HB2.out)).mono ?_
 rintro e w3 ⟨t2, rfl, ht2, hb⟩
 have HT2 := Lib.hid ht2
 have HB3 := Lib.hid (HB2.out.trans (hb.mono HB2.out.size))
 clear ht2 hb HB2
 cases t2 with
 | false =>
  go_wp2_with fail
  refine (xfirst_any w3).mono ?_
  rintro e w9 ⟨rfl, hb9⟩
  have HB9 := Lib.hid (HB3.out.trans (hb9.mono HB3.out.size))
  clear hb9
  go_wp2_with fail
  go_ret
  exact ⟨rfl, HB9.out⟩
 | true =>
 have HFA := Lib.hid (HT.out (by trivial))
 have HFB := Lib.hid (HT2.out (by trivial))
 clear HT HT2
 go_wp2_with fail
 refine (smay_any v1 a _ (H1.out.below HB3.out) HFA.out.1 HFA.out.2).mono ?_
 rintro e w4 ⟨t3, rfl, hb⟩
 have HB4 := Lib.hid (HB3.out.trans (hb.mono HB3.out.size))
 clear hb HB3
 cases t3 with
 | false =>
  go_wp2_with fail
  refine (xfirst_any w4).mono ?_
  rintro e w9 ⟨rfl, hb9⟩
  have HB9 := Lib.hid (HB4.out.trans (hb9.mono HB4.out.size))
  clear hb9
  go_wp2_with fail
  go_ret
  exact ⟨rfl, HB9.out⟩
 | true =>
 go_wp2_with fail
 refine (smay_any v2 b _ (H2.out.below HB4.out) HFB.out.1 HFB.out.2).mono ?_
 rintro e w5 ⟨t4, rfl, hb⟩
 have HB5 := Lib.hid (HB4.out.trans (hb.mono HB4.out.size))
 clear hb HB4
 cases t4 with
 | false =>
  go_wp2_with fail
  refine (xfirst_any w5).mono ?_
  rintro e w9 ⟨rfl, hb9⟩
  have HB9 := Lib.hid (HB5.out.trans (hb9.mono HB5.out.size))
  clear hb9
  go_wp2_with fail
  go_ret
  exact ⟨rfl, HB9.out⟩
 | true =>
 go_wp2_with fail
 refine (sstat_any v1 v2 a b _ (H1.out.below HB5.out) (H2.out.below HB5.out) HFA.out.1 HFB.out.1 HFA.out.2 HFB.out.2).mono ?_
 rintro e w6 ⟨vx, rfl, hox, hb⟩
 have HOX := Lib.hid hox
 have HB6 := Lib.hid (HB5.out.trans (hb.mono HB5.out.size))
 clear hb hox HB5
 go_wp2_with fail
 refine (dstat_any v1 v2 a b _ (H1.out.below HB6.out) (H2.out.below HB6.out) HFA.out.1 HFB.out.1 HFA.out.2 HFB.out.2).mono ?_
 rintro e w7 ⟨vy, rfl, hoy, hb⟩
 have hox := OwnCg.below HOX.out hb
 have HB7 := Lib.hid (HB6.out.trans (hb.mono HB6.out.size))
 obtain ⟨S, hS⟩ : ∃ S, stsM a b (uniqT (pathsT a ++ pathsT b)) = S := ⟨_, rfl⟩
 rw [hS] at hox hoy
 obtain ⟨Ax, cx, rfl, hx1, hx2, hrx⟩ := hox.slice
 obtain ⟨Ay, cy, rfl, hy1, hy2, hry⟩ := hoy.slice
 have HRX := Lib.hid hrx
 have HRY := Lib.hid hry
 obtain ⟨N, hN⟩ : ∃ N, S.length = N := ⟨_, rfl⟩
 have HN := Lib.hid hN
 rw [hN] at hx1 hy1 HRX HRY ⊢
 unfold maxLen at hx2 hy2
 clear hb hox hoy hrx hry hN hS HOX HB6
 go_wp2_with fail
 go_loopw [7] (fun x wr => ∃ i : Nat, i ≤ N ∧ x = .int .i64 (i : Int) ∧ Below w7.heap.size w7 wr) (fun x _ => N - (intOf x).toNat)
 case atStart => exact ⟨0, Nat.zero_le _, rfl, Below.refl _ _⟩
 case round =>
  obtain ⟨i, hi, rfl, hb⟩ := hrel
  have HB := Lib.hid hb
  clear hb
  have z0 : (0 : Int) ≤ (i : Int) := by omega
  by_cases hlt : i < N
  ·have z1 : (i : Int) < (N : Int) := by omega
   have hil : i < S.length := by have := HN.out; omega
   obtain ⟨r, hr⟩ : ∃ r, S[i] = r := ⟨_, rfl⟩
   have hgr : S[i]? = some r := by rw [List.getElem?_eq_getElem hil, hr]
   obtain ⟨ax, rfl, x0, x1, x2, x3, x4⟩ := cg_at (HRX.out.below HB.out) HN.out.symm i r hgr
   obtain ⟨ay, rfl, y0, y1, y2, y3, y4⟩ := cg_at (HRY.out.below HB.out) HN.out.symm i r hgr
   obtain ⟨rp, ⟨om, oi⟩, ⟨nm, ni⟩⟩ := r
   dsimp only at x0 x1 x2 x3 x4 y0 y1 y2 y3 y4
   clear hil hr hgr
   go_wp2_with fail
   go_quiet (fail)
   go_wp2_with fail
   go_roundw
   case rel => exact ⟨i + 1, by omega, by go_num, belowN_ HB.out _⟩
   case measure => simp [intOf]; omega
  ·obtain rfl : i = N := by omega
   have HB8 := Lib.hid (HB7.out.trans (HB.out.mono HB7.out.size))
   go_wp2_with fail
   refine (xfirst_any wr).mono ?_
   rintro e w8 ⟨rfl, hb8⟩
   have HB9 := Lib.hid (HB8.out.trans (hb8.mono HB8.out.size))
   clear hb8
   go_wp2_with fail
   refine (sstat_any v1 v1 a a _ (H1.out.below HB9.out) (H1.out.below HB9.out) HFA.out.1 HFA.out.1 HFA.out.2 HFA.out.2).mono ?_
   rintro e w9 ⟨vz, rfl, hoz, hb9⟩
   rw [stsM_self] at hoz
   obtain ⟨Az, cz, rfl, _, _, _⟩ := hoz.slice
   have HB10 := Lib.hid (HB9.out.trans (hb9.mono HB9.out.size))
   clear hb9 hoz
   simp only [List.length_nil]
   go_wp2_with fail
   go_ret
   exact ⟨rfl, HB10.out⟩
end Go.Proofs.YtbenkmihkbjgeaaGreat.Tx
