/- Texts put together: Hkw. -/
import Derived.Test.YtaccejlalomaaaaGreatQh57
import Derived.Test.YtaccejlalomaaaaGreatQh51
/- marlaw5.FsimKeeps: the walk, as the shell asks it. -/
set_option linter.unusedVariables false
set_option linter.unusedSimpArgs false
namespace Go.Proofs.YtaccejlalomaaaaGreat.Tx
open Go.RowKit Go.Maps Go.Proofs.YtaccejlalomaaaaGreat.Sh

theorem fsimKeeps_walk {p q : Prop} (room : Int) (v : Value) (l : List LOp) (v2 : Value) (l2 : List LOp) (a : ByteArray) (dv : Value) (data : List UInt8) (w : World) (_ : p) (h : OpsF (Low w) w v l) (hb : ∀ o ∈ l, o.data.length ≤ 140737488351232 ∧ ∀ e ∈ o.plan, e.data.length ≤ 140737488351232) (h2 : OpsF (Low w) w v2 l2) (hb2 : ∀ o ∈ l2, o.data.length ≤ 140737488351232 ∧ ∀ e ∈ o.plan, e.data.length ≤ 140737488351232) (_ : q) (hd : By (Low w) w dv data) (_ : data.length ≤ 140737488351232) : Calls Tryz.prog 6 #[.int .i64 room, v, v2, .string a, dv] w (Yes w) := by
  rw [← strb_of a]
  exact keeps_any (Low w) room v l v2 l2 _ dv data w h (fun _ hk => hk) hb h2 hb2 hd
end Go.Proofs.YtaccejlalomaaaaGreat.Tx
