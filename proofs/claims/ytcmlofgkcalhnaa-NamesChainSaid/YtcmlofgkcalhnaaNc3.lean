/- Package names: Join. -/
import Derived.Test.YtcmlofgkcalhnaaNc2
import Derived.Test.YtcmlofgkcalhnaaTb0
namespace Go.Proofs.Ytcmlofgkcalhnaa.Tx
open Go.RowKit Go.Proofs.Ytcmlofgkcalhnaa.Sh

theorem nameB_64 {p : List UInt8} (h : nameB p = true) : p.length ≤ 64 := by
  rw [nameB_eq] at h
  simp only [Bool.and_eq_true, decide_eq_true_eq] at h
  exact h.1.1.1.2
theorem join_bad {l : List (List UInt8)} {k : Nat} (hk : k < l.length) (h : nameB l[k] = false) : joinOk l = false := by
  rw [joinOk_eq]
  have : l.all nameB = false := by
    rw [List.all_eq_false]
    exact ⟨_, List.getElem_mem hk, by rw [h]; decide⟩
  rw [this]
  simp
/-- Where all are names: they join just if what they make is a path. -/
theorem join_path {l : List (List UInt8)} (h : ∀ (k : Nat) (hk : k < l.length), nameB l[k] = true) : joinOk l = pathB (joinL 47 l) := by
  have hall : ∀ p ∈ l, nameB p = true := fun p hp => by
    obtain ⟨i, hi, rfl⟩ := List.getElem_of_mem hp
    exact h i hi
  cases l with
  | nil => rfl
  | cons p r =>
    have he := splitL_joinL (g := 47) (ps := p :: r) (fun q hq => nameB_sign (hall q hq)) (by simp)
    unfold joinOk
    rw [he]
    simp

end Go.Proofs.Ytcmlofgkcalhnaa.Tx
