/- The reference: turn, digit, the constants. -/
import Derived.Test.YtepgbpfnamaooaaShW14
namespace Go.Proofs.Ytepgbpfnamaooaa.Sh
open Go.RowKit

set_option maxHeartbeats 400000 in
theorem turn_any (u : UInt32) (n : Nat) (h1 : 0 < n) (h2 : n < 32) (w : World) :
    Calls Try.prog 39 #[.int .u32 (wi u), .int .i64 (n : Int)] w fun e w' => e = .returned (.int .u32 (wi (rotl u (32 - n)))) ∧ ∃ k, w' = w.drewN k := by
  have r1 : wi u * 2 ^ (32 - n) % 4294967296 = wi (shlw u (32 - n)) := by rw [← wshl u (32 - n) (by omega), IntKind.wrap_u32]
  have r2 := wshr u n h2
  have e1 : IntKind.i64.wrap (32 - (n : Int)) = ((32 - n : Nat) : Int) := by rw [IntWalk.i64_in _ (by omega)]; omega
  have e2 := wor (shrw u n) (shlw u (32 - n))
  have e3 : (0 : Int) ≤ (n : Int) := by omega
  have e4 : (0 : Int) ≤ ((32 - n : Nat) : Int) := by omega
  have E : Hid (rotl u (32 - n) = shrw u n ||| shlw u (32 - n)) := by
    unfold Hid rotl
    rw [show 32 - (32 - n) = n from by omega, UInt32.or_comm]
  go_enter Try.func39, Try.ntmps39
  go_wp2_with fail
  go_quiet (fail)
  go_wp2_with fail
  go_ret
  exact ⟨by rw [E.out]; rfl, _, rfl⟩

def KPost (w : World) (e : Ending) (w' : World) : Prop := ∃ g, e = .returned (.slice (some ⟨g, 0, none⟩) 64 64) ∧ Blk w' g 57 kv.toArray ∧ w.heap.size ≤ g ∧ Below w.heap.size w w'
set_option maxRecDepth 100000 in
set_option maxHeartbeats 400000 in
theorem rconst_any (w : World) : Calls Try.prog 38 #[] w (KPost w) := by
  go_enter Try.func38, Try.ntmps38
  go_wp2_with fail
  go_ret
  refine ⟨w.heap.size, rfl, ?_, Nat.le_refl _, (Below.refl _ _).alloc (Nat.le_refl _) _⟩
  rw [kv_lit]
  exact heap_alloc_new _ _
end Go.Proofs.Ytepgbpfnamaooaa.Sh
