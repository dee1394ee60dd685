/- New, Len. -/
import Derived.Test.YtcbiajajoojgmaaShW7
namespace Go.Proofs.Ytcbiajajoojgmaa.Sh
open Go.RowKit

def NewPost (w : World) (e : Ending) (w' : World) : Prop :=
  ∃ b ad, e = .returned (.pointer (some ⟨b, 0, none⟩)) ∧ HB w' b St.first (List.replicate 64 0) 0 0 0 ad ∧ w.heap.size ≤ b ∧ Below w.heap.size w w'

theorem new_cells : Array.foldl (fun (cs : Array Value) (x : Value × Nat) => cs.setIfInBounds x.snd x.fst) Try.zeroCells110 (stc St.first).zipIdx 0 (stc St.first).size = (hcl St.first (List.replicate 64 0) 0 0 0 (List.replicate 64 (.int .u32 0))).toArray := by kernel_rfl

set_option maxRecDepth 100000 in
set_option maxHeartbeats 800000 in
theorem new_any (w : World) : Calls Try.prog 66 #[] w (NewPost w) := by
  go_enter Try.func66, Try.ntmps66
  go_wp2_with fail
  refine (squares_any _).mono ?_
  rintro e w1 ⟨rfl, hb1⟩
  go_wp2_with fail
  rename_i cs heq
  have hcs : stc St.first = cs := by
    unfold stv at heq
    injection heq
  subst hcs
  go_ret
  refine ⟨w1.heap.size, List.replicate 64 (.int .u32 0), rfl, ?_, hb1.size, hb1.alloc hb1.size _⟩
  rw [new_cells]
  exact ⟨heap_alloc_new _ _, by simp, by simp⟩
end Go.Proofs.Ytcbiajajoojgmaa.Sh
