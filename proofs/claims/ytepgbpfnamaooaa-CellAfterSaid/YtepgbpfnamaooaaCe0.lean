/- Package cell: counters. -/
import Derived.Test.YtepgbpfnamaooaaShW3
import Derived.OpenShut
import Derived.Lib.Hide
namespace Go.Proofs.Ytepgbpfnamaooaa.Ce
open Go.RowKit Go.Proofs.Ytepgbpfnamaooaa.Sh

/-- Block b is a Counter at n. -/
def CN (w : World) (b : Nat) (n : Int) : Prop := Blk w b 75 #[.int .i64 n] ∧ (Lit.int .i64 n).wf = true
section
variable {w : World} {b : Nat} {n : Int}
theorem CN.cell (h : CN w b n) : w.cell? ⟨b, 0, none⟩ = some (.int .i64 n) := h.1.cell 0
theorem CN.frozen (h : CN w b n) : w.frozen? ⟨b, 0, none⟩ = false := h.1.frozen 0
theorem CN.lt (h : CN w b n) : b < w.heap.size := h.1.lt
theorem CN.alloc (h : CN w b n) (o : Obj) : CN (w.alloc o) b n := ⟨h.1.alloc o, h.2⟩
theorem CN.drew (h : CN w b n) : CN w.drew b n := h
theorem CN.drewN (h : CN w b n) (k : Nat) : CN (w.drewN k) b n := h
theorem CN.below {B : Nat} {w' : World} (h : CN w b n) (hb : Below B w w') (hg : b < B) : CN w' b n := ⟨h.1.below hb hg, h.2⟩
theorem CN.set (h : CN w b n) {m : Int} (hm : (Lit.int .i64 m).wf = true) : CN (w.setCell ⟨b, 0, none⟩ (.int .i64 m)) b m := ⟨h.1.set_ 0 _, hm⟩
theorem CN.far (h : CN w b n) {p : Addr} (hp : b ≠ p.block) (u : Value) : CN (w.setCell p u) b n := ⟨h.1.far hp u, h.2⟩
theorem CN.range (h : CN w b n) : -9223372036854775808 ≤ n ∧ n ≤ 9223372036854775807 := by
  simpa [Lit.wf, IntKind.min, IntKind.max, IntKind.signed, IntKind.bits] using h.2
end
theorem newc_any (w : World) : Calls Try.prog 16 #[] w fun e w' => ∃ b, e = .returned (.pointer (some ⟨b, 0, none⟩)) ∧ CN w' b 0 ∧ w.heap.size ≤ b ∧ Below w.heap.size w w' := by
  go_enter Try.func16, Try.ntmps16
  go_wp2
  go_ret
  exact ⟨w.heap.size, rfl, ⟨heap_alloc_new _ _, rfl⟩, Nat.le_refl _, (Below.refl _ _).alloc (Nat.le_refl _) _⟩

theorem load64 (a : Addr) (x : Int) (w : World) (h : w.cell? a = some (.int .i64 x)) :
    Calls Try.prog 25 #[.pointer (some a)] w fun e w' => e = .returned (.int .i64 x) ∧ w = w' := by
  have hl := run_call_load (P := Try.prog) Try.func37 (by kernel_rfl) (by kernel_rfl) (by kernel_rfl) .i64 (by kernel_rfl) h
  go_enter Try.func25, Try.ntmps25
  go_wp2
  go_ret
  exact ⟨rfl, rfl⟩

theorem add64 (a : Addr) (x y : Int) (w : World) (h : w.cell? a = some (.int .i64 x)) (hz : w.frozen? a = false) :
    Calls Try.prog 31 #[.pointer (some a), .int .i64 y] w fun e w' => e = .returned (.int .i64 (IntKind.i64.wrap (x + y))) ∧ w' = w.setCell a (.int .i64 (IntKind.i64.wrap (x + y))) := by
  have hl := run_call_add (P := Try.prog) Try.func44 (by kernel_rfl) (by kernel_rfl) (by kernel_rfl) .i64 (by kernel_rfl) (y := y) (s := IntKind.i64.wrap (x + y)) h hz (by simp [Op.intArith])
  generalize IntKind.i64.wrap (x + y) = s at *
  go_enter Try.func31, Try.ntmps31
  go_wp2
  go_ret
  exact ⟨rfl, rfl⟩

theorem cas64 (a : Addr) (x y : Int) (w : World) (h : w.cell? a = some (.int .i64 x)) (hz : w.frozen? a = false) :
    Calls Try.prog 32 #[.pointer (some a), .int .i64 x, .int .i64 y] w fun e w' => e = .returned (.bool true) ∧ w' = w.setCell a (.int .i64 y) := by
  have hl := run_call_cas_hit (P := Try.prog) Try.func45 (by kernel_rfl) (by kernel_rfl) (by kernel_rfl) .i64 (by kernel_rfl) (y := y) h hz
  go_enter Try.func32, Try.ntmps32
  go_wp2
  go_ret
  exact ⟨rfl, rfl⟩

theorem cget_any (b : Nat) (n : Int) (w : World) (h : CN w b n) : Calls Try.prog 19 #[.pointer (some ⟨b, 0, none⟩)] w fun e w' => e = .returned (.int .i64 n) ∧ w = w' := by
  have hc := h.cell
  go_enter Try.func19, Try.ntmps19
  go_wp2_with (go_at_call 25; refine (load64 _ n _ hc).mono ?_; rintro e w' ⟨rfl, rfl⟩)
  go_ret
  exact ⟨rfl, rfl⟩

theorem cadd_any (b : Nat) (n y : Int) (w : World) (h : CN w b n) : Calls Try.prog 17 #[.pointer (some ⟨b, 0, none⟩), .int .i64 y] w fun e w' =>
    e = .returned (.int .i64 (IntKind.i64.wrap (n + y))) ∧ w' = w.setCell ⟨b, 0, none⟩ (.int .i64 (IntKind.i64.wrap (n + y))) := by
  have hc := h.cell
  have hz := h.frozen
  have HA := Lib.hid (add64 ⟨b, 0, none⟩ n y w hc hz)
  generalize IntKind.i64.wrap (n + y) = s at *
  clear hc hz h
  go_enter Try.func17, Try.ntmps17
  go_wp2_with (go_at_call 31; refine HA.out.mono ?_; rintro e w' ⟨rfl, rfl⟩)
  go_ret
  exact ⟨rfl, rfl⟩

/-- May m be taken from n? -/
def takes (n m : Int) : Bool := decide (0 ≤ m) && decide (m ≤ n)
def TakePost (w : World) (b : Nat) (n m : Int) (e : Ending) (w' : World) : Prop :=
  (takes n m = true ∧ e = .returned (.bool true) ∧ w' = w.setCell ⟨b, 0, none⟩ (.int .i64 (n - m))) ∨ (takes n m = false ∧ e = .returned (.bool false) ∧ w = w')
theorem ctake_any (b : Nat) (n m : Int) (w : World) (h : CN w b n) : Calls Try.prog 18 #[.pointer (some ⟨b, 0, none⟩), .int .i64 m] w (TakePost w b n m) := by
  have hc := h.cell
  have hz := h.frozen
  obtain ⟨r1, r2⟩ := h.range
  by_cases h0 : m < 0
  · have ht : Hid (takes n m = false) := by unfold Hid takes; simp; omega
    go_enter Try.func18, Try.ntmps18
    go_wp2
    go_ret
    exact .inr ⟨ht.out, rfl, rfl⟩
  · by_cases h1 : n < m
    · have ht : Hid (takes n m = false) := by unfold Hid takes; simp; omega
      go_enter Try.func18, Try.ntmps18
      go_wp2
      refine wp_loop_rounds 1 ?_
      rw [rounds_succ]
      go_wp2_with (go_at_call 25; refine (load64 _ n _ hc).mono ?_; rintro e w' ⟨rfl, rfl⟩)
      go_ret
      exact .inr ⟨ht.out, rfl, rfl⟩
    · have ht : Hid (takes n m = true) := by unfold Hid takes; simp; omega
      have h0' : 0 ≤ m := by omega
      have h1' : m ≤ n := by omega
      have h2 : 0 ≤ n - m := by omega
      have h3 : IntKind.i64.wrap (n - m) = n - m := IntWalk.i64_in _ (by omega)
      have HA := Lib.hid (cas64 ⟨b, 0, none⟩ n (n - m) w hc hz)
      go_enter Try.func18, Try.ntmps18
      go_wp2
      refine wp_loop_rounds 1 ?_
      rw [rounds_succ]
      go_wp2_with (first | (go_at_call 25; refine (load64 _ n _ hc).mono ?_; rintro e w' ⟨rfl, rfl⟩) | (go_at_call 32; refine HA.out.mono ?_; rintro e w' ⟨rfl, rfl⟩))
      go_ret
      exact .inl ⟨ht.out, rfl, rfl⟩
end Go.Proofs.Ytepgbpfnamaooaa.Ce
