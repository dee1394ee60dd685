/- The reference: turn, digit, the constants. -/
import Derived.Test.YtkceagckgpkfgaaU1
namespace Go.Proofs.Ytkceagckgpkfgaa
open Go.RowKit

set_option maxHeartbeats 400000 in
theorem turn_any (u : UInt32) (n : Nat) (h1 : 0 < n) (h2 : n < 32) (w : World) :
    Calls Try.prog 31 #[.int .u32 (wi u), .int .i64 (n : Int)] w fun e w' => e = .returned (.int .u32 (wi (rotl u (32 - n)))) ∧ ∃ k, w' = w.drewN k := by
  have r1 : wi u * 2 ^ (32 - n) % 4294967296 = wi (shlw u (32 - n)) := by rw [← wshl u (32 - n) (by omega), IntKind.wrap_u32]
  have r2 := wshr u n h2
  have e1 : IntKind.i64.wrap (32 - (n : Int)) = ((32 - n : Nat) : Int) := by rw [IntWalk.i64_in _ (by omega)]; omega
  have e2 := wor (shrw u n) (shlw u (32 - n))
  have e3 : (0 : Int) ≤ (n : Int) := by omega
  have e4 : (0 : Int) ≤ ((32 - n : Nat) : Int) := by omega
  have E : Hid (rotl u (32 - n) = shrw u n ||| shlw u (32 - n)) := by
    unfold Hid rotl
    rw [show 32 - (32 - n) = n from by omega, UInt32.or_comm]
  go_enter Try.func31, Try.ntmps31
  go_wp2_with fail
  go_quiet (fail)
  go_wp2_with fail
  go_ret
  exact ⟨by rw [E.out]; rfl, _, rfl⟩

/-- A digit's number, -1: it is none. -/
def dgi (c : UInt8) : Int := match dv c with | some v => bi v | none => -1
set_option maxHeartbeats 400000 in
theorem digit_any (c : UInt8) (w : World) : Calls Try.prog 29 #[.int .u8 (bi c)] w fun e w' => e = .returned (.int .i64 (dgi c)) ∧ w = w' := by
  have hb := bi_lt c
  rcases dv_cases c with ⟨h1, h2⟩ | ⟨h1, h1', h2⟩ | ⟨h1, h1', h2⟩ | ⟨h1, h1', h2⟩ | ⟨h1, h2⟩
  · have hd : dgi c = -1 := by unfold dgi; rw [h2]
    rw [hd]
    clear hd h2
    generalize bi c = x at *
    go_enter Try.func29, Try.ntmps29
    go_wp2
    go_ret
    exact ⟨rfl, rfl⟩
  · have hd : dgi c = bi c - 48 := by unfold dgi; rw [h2]; exact bi_sub (bi c - 48) (by omega) (by omega)
    rw [hd]
    clear hd h2
    generalize bi c = x at *
    go_enter Try.func29, Try.ntmps29
    go_wp2
    go_ret
    exact ⟨rfl, rfl⟩
  · have hd : dgi c = -1 := by unfold dgi; rw [h2]
    rw [hd]
    clear hd h2
    generalize bi c = x at *
    go_enter Try.func29, Try.ntmps29
    go_wp2
    go_ret
    exact ⟨rfl, rfl⟩
  · have hd : dgi c = bi c - 87 := by unfold dgi; rw [h2]; exact bi_sub (bi c - 87) (by omega) (by omega)
    rw [hd]
    clear hd h2
    generalize bi c = x at *
    have e1 : x - 97 + 10 = x - 87 := by omega
    go_enter Try.func29, Try.ntmps29
    go_wp2
    go_ret
    exact ⟨by rw [← e1]; rfl, rfl⟩
  · have hd : dgi c = -1 := by unfold dgi; rw [h2]
    rw [hd]
    clear hd h2
    generalize bi c = x at *
    go_enter Try.func29, Try.ntmps29
    go_wp2
    go_ret
    exact ⟨rfl, rfl⟩

def KPost (w : World) (e : Ending) (w' : World) : Prop := ∃ g, e = .returned (.slice (some ⟨g, 0, none⟩) 64 64) ∧ Blk w' g 47 kv.toArray ∧ w.heap.size ≤ g ∧ Below w.heap.size w w'
set_option maxRecDepth 100000 in
set_option maxHeartbeats 400000 in
theorem rconst_any (w : World) : Calls Try.prog 30 #[] w (KPost w) := by
  go_enter Try.func30, Try.ntmps30
  go_wp2_with fail
  go_ret
  refine ⟨w.heap.size, rfl, ?_, Nat.le_refl _, (Below.refl _ _).alloc (Nat.le_refl _) _⟩
  rw [kv_lit]
  exact heap_alloc_new _ _
end Go.Proofs.Ytkceagckgpkfgaa
