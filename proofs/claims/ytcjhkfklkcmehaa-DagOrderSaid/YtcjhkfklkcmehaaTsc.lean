/- Compare. -/
import Derived.Test.YtcjhkfklkcmehaaTq3
import Derived.Test.YtcjhkfklkcmehaaTn3
import Derived.WalkLawsBesides
namespace Go.Proofs.Ytcjhkfklkcmehaa.Tx
open Go.RowKit Go.Proofs.Ytcjhkfklkcmehaa.Sh

theorem cmp_any (s t : ByteArray) (w : World) : Calls Try.prog 51 #[.string s, .string t] w fun e w' => e = .returned (.int .i64 (cmpL s.toList t.toList)) ∧ w = w' := by
  rcases cmpL_cases s.toList t.toList with ⟨h1, h2⟩ | ⟨h1, h2, h3⟩ | ⟨h1, h2, h3⟩
  · rw [h2]
    clear h2
    go_enter Try.func51, Try.ntmps51
    go_wp2
    go_ret
    exact ⟨rfl, rfl⟩
  · rw [h3]
    clear h3
    go_enter Try.func51, Try.ntmps51
    go_wp2
    go_ret
    exact ⟨rfl, rfl⟩
  · rw [h3]
    clear h3
    go_enter Try.func51, Try.ntmps51
    go_wp2
    go_ret
    exact ⟨rfl, rfl⟩
end Go.Proofs.Ytcjhkfklkcmehaa.Tx
