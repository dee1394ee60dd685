/- Texts put together: Htw. -/
import Derived.Test.YtaccejlalomaaaaGreatQh63
import Derived.Test.YtaccejlalomaaaaGreatQh51
/- marlaw5.FsimTree: the walk, as the shell asks it. -/
set_option linter.unusedVariables false
set_option linter.unusedSimpArgs false
namespace Go.Proofs.YtaccejlalomaaaaGreat.Tx
open Go.RowKit Go.Maps Go.Proofs.YtaccejlalomaaaaGreat.Sh

theorem fsimTree_walk {p : Prop} (room : Int) (v : Value) (l : List LOp) (w : World) (_ : p) (h : OpsF (Low w) w v l) (hb : ∀ o ∈ l, o.data.length ≤ 140737488351232 ∧ ∀ e ∈ o.plan, e.data.length ≤ 140737488351232) : Calls Tryz.prog 4 #[.int .i64 room, v] w (Yes w) := by
  exact tree_any (Low w) room v l w h (fun _ hk => hk) hb
end Go.Proofs.YtaccejlalomaaaaGreat.Tx
