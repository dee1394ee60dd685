/- Texts put together: Hmw. -/
import Derived.Test.YtaccejlalomaaaaGreatQh49
import Derived.Test.YtaccejlalomaaaaGreatQh51
/- marlaw5.FsimMoves: the walk, as the shell asks it. -/
set_option linter.unusedVariables false
set_option linter.unusedSimpArgs false
namespace Go.Proofs.YtaccejlalomaaaaGreat.Tx
open Go.RowKit Go.Maps Go.Proofs.YtaccejlalomaaaaGreat.Sh

theorem fsimMoves_walk {p q r : Prop} (room : Int) (v : Value) (l : List LOp) (a b : ByteArray) (only : Bool) (w : World) (_ : p) (h : OpsF (Low w) w v l) (hb : ∀ o ∈ l, o.data.length ≤ 140737488351232 ∧ ∀ e ∈ o.plan, e.data.length ≤ 140737488351232) (_ : q) (_ : r) : Calls Tryz.prog 7 #[.int .i64 room, v, .string a, .string b, .bool only] w (Yes w) := by
  rw [← strb_of a, ← strb_of b]
  exact moves_any (Low w) room v l _ _ only w h (fun _ hk => hk) hb
end Go.Proofs.YtaccejlalomaaaaGreat.Tx
