/- Texts put together: Hsw. -/
import Derived.Test.YtaccejlalomaaaaGreatQh60
import Derived.Test.YtaccejlalomaaaaGreatQh51
/- marlaw5.FsimSafe: the walk, as the shell asks it. -/
set_option linter.unusedVariables false
set_option linter.unusedSimpArgs false
namespace Go.Proofs.YtaccejlalomaaaaGreat.Tx
open Go.RowKit Go.Maps Go.Proofs.YtaccejlalomaaaaGreat.Sh

theorem fsimSafe_walk {p q r : Prop} (room : Int) (v : Value) (l : List LOp) (v2 : Value) (l2 : List LOp) (keep torn : Int) (w : World) (_ : p) (h : OpsF (Low w) w v l) (hb : ∀ o ∈ l, o.data.length ≤ 140737488351232 ∧ ∀ e ∈ o.plan, e.data.length ≤ 140737488351232) (h2 : OpsF (Low w) w v2 l2) (hb2 : ∀ o ∈ l2, o.data.length ≤ 140737488351232 ∧ ∀ e ∈ o.plan, e.data.length ≤ 140737488351232) (_ : q) (_ : r) : Calls Tryz.prog 5 #[.int .i64 room, v, v2, .int .i64 keep, .int .i64 torn] w (Yes w) :=
  safe_any (Low w) room v l v2 l2 keep torn w h (fun _ hk => hk) hb h2 hb2
end Go.Proofs.YtaccejlalomaaaaGreat.Tx
