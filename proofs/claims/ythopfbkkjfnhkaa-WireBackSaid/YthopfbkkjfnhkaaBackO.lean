/- WireBack, whole. -/
import Derived.Test.YthopfbkkjfnhkaaBack
namespace Go.Proofs.Ythopfbkkjfnhkaa
open Go.RowKit

set_option maxRecDepth 100000 in
set_option maxHeartbeats 800000 in
theorem back_out (A0 A1 : Option Addr) (l0 c0 l1 c1 : Nat) (i : Int) (w : World) (h0 : l0 ≤ c0) (h1 : l1 ≤ c1) (m0 : c0 ≤ maxLen) (m1 : c1 ≤ maxLen) (h : 300 < l0 ∨ 6000 < l1) :
    Calls Try.prog 6 #[.slice A0 l0 c0, .slice A1 l1 c1, .int .i64 i] w (Yes w) := by
  unfold maxLen at m0 m1
  have hcase : (300 < (l0 : Int)) ∨ ((l0 : Int) ≤ 300 ∧ (6000 < (l1 : Int))) := by omega
  have p1 : (l0 : Int) ≤ (c0 : Int) := by omega
  have p2 : (c0 : Int) ≤ 9223372036854775807 := by omega
  have p3 : (l1 : Int) ≤ (c1 : Int) := by omega
  have p4 : (c1 : Int) ≤ 9223372036854775807 := by omega
  clear h m0 m1
  rcases hcase with b1 | ⟨b1, b2⟩
  all_goals
    go_enter Try.func6, Try.ntmps6
    go_wp2_with fail
    refine (first_then (Below.refl _ _)).mono ?_
    rintro e w1 ⟨rfl, hb1⟩
    have HB1 := Lib.hid hb1
    clear hb1
    go_wp2_with fail
    refine (first_then HB1.out).mono ?_
    rintro e w2 ⟨rfl, hb2⟩
    go_wp2_with fail
    go_ret
    exact ⟨rfl, hb2⟩

theorem wireBack_walk (a0 : Option Addr) (len0 cap0 : Nat) (z0 : List Int) (a1 : Option Addr) (len1 cap1 : Nat) (z1 : List Int) (a2 : Int) (w : World)
    (w0 : IsRow .i64 w a0 len0 cap0 z0) (w1 : IsRow .u8 w a1 len1 cap1 z1) (_ : (Lit.int .i64 a2).wf = true) :
    Calls Try.prog 6 #[.slice a0 len0 cap0, .slice a1 len1 cap1, .int .i64 a2] w (Yes w) := by
  obtain ⟨ns, hl0, hs0, _⟩ := w0.slv
  obtain ⟨bs, hl1, hs1⟩ := w1.sl
  by_cases h : len0 ≤ 300 ∧ len1 ≤ 6000
  · exact back_in _ _ ns bs a2 w hs0 hs1 (by omega) (by omega)
  · obtain ⟨_, _, e0, p0, q0, _⟩ := hs0.len
    obtain ⟨_, _, e1, p1, q1, _⟩ := hs1.len
    rw [List.length_map] at e0 p0
    injection e0 with _ e0 f0
    injection e1 with _ e1 f1
    exact back_out a0 a1 len0 cap0 len1 cap1 a2 w (by omega) (by omega) (by omega) (by omega) (by omega)
end Go.Proofs.Ythopfbkkjfnhkaa
