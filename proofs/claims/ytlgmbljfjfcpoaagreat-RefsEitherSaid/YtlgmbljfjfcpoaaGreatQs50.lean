/- Texts put together: ZRzw. -/
import Derived.Test.YtlgmbljfjfcpoaaGreatQs47
import Derived.Test.YtlgmbljfjfcpoaaGreatQs49
/- marlaw8.RefsEither: the walk, as the shell asks it. -/
set_option linter.unusedVariables false
set_option linter.unusedSimpArgs false
namespace Go.Proofs.YtlgmbljfjfcpoaaGreat.Tx
open Go.RowKit Go.Maps Go.Proofs.YtlgmbljfjfcpoaaGreat.Sh

theorem refsEither_walk {p q r s t : Prop} (a b o : ByteArray) (v : Value) (l : List EvM) (keep torn : Int) (w : World) (_ : p) (_ : q) (_ : r) (h : InL evK (Low w) w v l) (hb : ∀ e ∈ l, e.data.length ≤ 140737488351232) (_ : s) (_ : t) : Calls Tryz.prog 4 #[.string a, .string b, .string o, v, .int .i64 keep, .int .i64 torn] w (Yes w) := by
  rw [← strb_of a, ← strb_of b, ← strb_of o]
  exact either_any (Low w) _ _ _ v l keep torn w h (fun k hk => hk) hb
end Go.Proofs.YtlgmbljfjfcpoaaGreat.Tx
