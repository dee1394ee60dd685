/- few; the walks of NamesUnder, NamesPaths, NamesIgnored. -/
import Derived.Test.YtcmlofgkcalhnaaNm1
namespace Go.Proofs.Ytcmlofgkcalhnaa.Tx
open Go.RowKit Go.Proofs.Ytcmlofgkcalhnaa.Sh

def FewPost (w : World) (ls : List (List UInt8)) (e : Ending) (w' : World) : Prop := ∃ t, e = .returned (.bool t) ∧ (t = true → ls.length ≤ 100 ∧ ∀ p ∈ ls, p.length ≤ 5000) ∧ w = w'
theorem str_of (a : ByteArray) : ∃ cs : List UInt8, a = str cs ∧ cs.length = a.size := ⟨a.data.toList, rfl, rfl⟩
theorem texts_of {w : World} {a : Option Addr} {len cap : Nat} {ss : List ByteArray} (h : IsTexts w a len cap ss) : ∃ ls : List (List UInt8), ls.length = len ∧ SlV w (.slice a len cap) ((ls.map str).map sv) ∧ ∀ p ∈ ls, p.length ≤ maxLen := by
  obtain ⟨ts, h1, h2, h3⟩ := h.slv
  refine ⟨ts.map fun t => t.data.toList, by simpa using h1, ?_, fun p hp => ?_⟩
  · have : (ts.map fun t => t.data.toList).map str = ts := by
      rw [List.map_map]
      conv => rhs; rw [← List.map_id ts]
      rfl
    rw [this]
    exact h2
  · obtain ⟨t, ht, rfl⟩ := List.mem_map.1 hp
    exact h3 t ht

end Go.Proofs.Ytcmlofgkcalhnaa.Tx
