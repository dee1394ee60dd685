/- The reference: turn, digit, the constants. -/
import Derived.Test.YtcbiajajoojgmaaShW14
namespace Go.Proofs.Ytcbiajajoojgmaa.Sh
open Go.RowKit

def KPost (w : World) (e : Ending) (w' : World) : Prop := ∃ g, e = .returned (.slice (some ⟨g, 0, none⟩) 64 64) ∧ Blk w' g 93 kv.toArray ∧ w.heap.size ≤ g ∧ Below w.heap.size w w'
end Go.Proofs.Ytcbiajajoojgmaa.Sh
