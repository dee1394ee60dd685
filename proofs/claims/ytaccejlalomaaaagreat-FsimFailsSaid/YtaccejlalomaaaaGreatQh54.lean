/- Texts put together: Hfw. -/
import Derived.Test.YtaccejlalomaaaaGreatQh53
import Derived.Test.YtaccejlalomaaaaGreatQh51
/- marlaw5.FsimFails: the walk, as the shell asks it. -/
set_option linter.unusedVariables false
set_option linter.unusedSimpArgs false
namespace Go.Proofs.YtaccejlalomaaaaGreat.Tx
open Go.RowKit Go.Maps Go.Proofs.YtaccejlalomaaaaGreat.Sh

theorem fsimFails_walk {p q r : Prop} (room : Int) (v : Value) (l : List LOp) (a : ByteArray) (dv : Value) (data : List UInt8) (kind : Int) (w : World) (_ : p) (h : OpsF (Low w) w v l) (hb : ∀ o ∈ l, o.data.length ≤ 140737488351232 ∧ ∀ e ∈ o.plan, e.data.length ≤ 140737488351232) (_ : q) (hd : By (Low w) w dv data) (_ : data.length ≤ 140737488351232) (_ : r) : Calls Tryz.prog 8 #[.int .i64 room, v, .string a, dv, .int .i64 kind] w (Yes w) := by
  rw [← strb_of a]
  exact fails_any (Low w) room v l _ dv data kind w h (fun _ hk => hk) hb hd
end Go.Proofs.YtaccejlalomaaaaGreat.Tx
