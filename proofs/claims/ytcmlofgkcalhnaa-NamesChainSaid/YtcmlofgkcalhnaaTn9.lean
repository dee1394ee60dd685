/- The reference's Ignored. -/
import Derived.Test.YtcmlofgkcalhnaaTn8
namespace Go.Proofs.Ytcmlofgkcalhnaa.Tx
open Go.RowKit Go.Proofs.Ytcmlofgkcalhnaa.Sh

/-- A path's names; none, if it is no path. -/
def namesL (s : List UInt8) : List (List UInt8) := if pathB s = true then splitL 47 s else []
/-- Does a pattern take one of the names ahead of place k? -/
def hitTo (f : List UInt8) (st : Bool) (b : List UInt8) (d : Bool) (l : List (List UInt8)) (k : Nat) : Bool := (List.range k).any fun j => (!d || decide (j + 1 < l.length)) && takesB f st b (l.getD j [])
def hitP (l : List (List UInt8)) (p : List UInt8) : Bool := match patL p with
  | none => false
  | some (f, st, b, d) => hitTo f st b d l l.length
def ignoredB (ps : List (List UInt8)) (s : List UInt8) : Bool := ps.any (hitP (namesL s))
theorem hitTo_succ (f : List UInt8) (st : Bool) (b : List UInt8) (d : Bool) (l : List (List UInt8)) (k : Nat) : hitTo f st b d l (k + 1) = (hitTo f st b d l k || ((!d || decide (k + 1 < l.length)) && takesB f st b (l.getD k []))) := by
  unfold hitTo
  rw [List.range_succ, List.any_append]
  simp
theorem hitTo_more {f : List UInt8} {st : Bool} {b : List UInt8} {d : Bool} {l : List (List UInt8)} {k n : Nat} (hk : k ≤ n) (h : hitTo f st b d l k = true) : hitTo f st b d l n = true := by
  induction n with
  | zero => rw [show k = 0 by omega] at h; exact h
  | succ n ih =>
    by_cases e : k = n + 1
    · rw [← e]; exact h
    · rw [hitTo_succ, ih (by omega), Bool.true_or]
theorem patCore_len (p : List UInt8) : (patCore p).length ≤ p.length := by
  unfold patCore
  split
  · rw [List.length_take]; omega
  · exact Nat.le_refl _
theorem patL_len {p f b : List UInt8} {st d : Bool} (h : patL p = some (f, st, b, d)) : f.length ≤ p.length ∧ b.length ≤ p.length := by
  have hc := patCore_len p
  unfold patL at h
  split at h
  · split at h
    · injection h with h
      injection h with h1 h
      injection h with _ h
      injection h with h2 _
      subst h1 h2
      exact ⟨hc, by simp⟩
    · rename_i a c hs
      split at h
      · cases h
      · injection h with h
        injection h with h1 h
        injection h with _ h
        injection h with h2 _
        subst h1 h2
        have g1 := piece_len (g := 42) (s := patCore p) (p := a) (by rw [hs]; simp)
        have g2 := piece_len (g := 42) (s := patCore p) (p := c) (by rw [hs]; simp)
        omega
    · cases h
  · cases h
theorem namesL_len {s p : List UInt8} (h : p ∈ namesL s) : p.length ≤ s.length := by
  unfold namesL at h
  split at h
  · exact piece_len h
  · cases h
theorem namesL_few (s : List UInt8) : (namesL s).length ≤ s.length + 1 := by
  unfold namesL
  split
  · exact splitL_length_le 47 s
  · simp
theorem rnames_post {w : World} {s : List UInt8} {e : Ending} {w' : World} (h : TextsPost w (if pathB s = true then (splitL 47 s).map str else []) e w') : TextsPost w ((namesL s).map str) e w' := by
  have : (namesL s).map str = if pathB s = true then (splitL 47 s).map str else [] := by
    unfold namesL
    split <;> rfl
  rw [this]
  exact h

end Go.Proofs.Ytcmlofgkcalhnaa.Tx
