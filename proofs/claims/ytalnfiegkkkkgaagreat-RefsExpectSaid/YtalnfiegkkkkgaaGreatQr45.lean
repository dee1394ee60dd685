/- Texts put together: Rxw. -/
import Derived.Test.YtalnfiegkkkkgaaGreatQr40
import Derived.Test.YtalnfiegkkkkgaaGreatQr44
/- marlaw8.RefsExpect: the walk, as the shell asks it. -/
set_option linter.unusedVariables false
set_option linter.unusedSimpArgs false
namespace Go.Proofs.YtalnfiegkkkkgaaGreat.Tx
open Go.RowKit Go.Maps Go.Proofs.YtalnfiegkkkkgaaGreat.Sh

theorem refsExpect_walk (v : Value) (l : List ROp) (w : World) (h : OpsR (Low w) w v l) (hb : ∀ o ∈ l, o.f.data.length ≤ 140737488351232 ∧ ∀ e ∈ o.f.plan, e.data.length ≤ 140737488351232) : Calls Tryz.prog 9 #[v] w (Yes w) :=
  expect_any (Low w) v l w h (fun k hk => hk)
end Go.Proofs.YtalnfiegkkkkgaaGreat.Tx
