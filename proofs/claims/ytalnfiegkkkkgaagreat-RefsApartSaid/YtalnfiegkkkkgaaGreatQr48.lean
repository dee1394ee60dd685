/- Texts put together: Ryw. -/
import Derived.Test.YtalnfiegkkkkgaaGreatQr47
import Derived.Test.YtalnfiegkkkkgaaGreatQr44
/- marlaw8.RefsApart: the walk, as the shell asks it. -/
set_option linter.unusedVariables false
set_option linter.unusedSimpArgs false
namespace Go.Proofs.YtalnfiegkkkkgaaGreat.Tx
open Go.RowKit Go.Maps Go.Proofs.YtalnfiegkkkkgaaGreat.Sh

theorem refsApart_walk {p : Prop} (v : Value) (l : List ROp) (lk : ByteArray) (w : World) (h : OpsR (Low w) w v l) (hb : ∀ o ∈ l, o.f.data.length ≤ 140737488351232 ∧ ∀ e ∈ o.f.plan, e.data.length ≤ 140737488351232) (_ : p) : Calls Tryz.prog 10 #[v, .string lk] w (Yes w) := by
  rw [← strb_of lk]
  exact apart_any (Low w) v l _ w h (fun k hk => hk)
end Go.Proofs.YtalnfiegkkkkgaaGreat.Tx
