/- The reference's Join. -/
import Derived.Test.YtcmlofgkcalhnaaTn4
namespace Go.Proofs.Ytcmlofgkcalhnaa.Tx
open Go.RowKit Go.Proofs.Ytcmlofgkcalhnaa.Sh

theorem list_other' {a b : Nat} (h : a ≠ b) : (a == b) = false := by simpa using h
def joinOk (l : List (List UInt8)) : Bool := !l.isEmpty && ((splitL 47 (joinL 47 l)).length == l.length) && pathB (joinL 47 l)
def joinT (l : List (List UInt8)) : List UInt8 := if joinOk l = true then joinL 47 l else []
def joinE (l : List (List UInt8)) : Int := if joinOk l = true then 0 else 6
def JoinPost (w : World) (l : List (List UInt8)) (e : Ending) (w' : World) : Prop := e = .returned (.tuple #[.string (str (joinT l)), .int .i64 (joinE l)]) ∧ Below w.heap.size w w'
theorem joinL_len {g : UInt8} : ∀ (l : List (List UInt8)) (k : Nat), (joinL g (l.take k)).length ≤ (joinL g l).length
  | [], k => by simp
  | [p], k => by
    cases k with
    | zero => simp [joinL]
    | succ k => simp
  | p :: q :: r, k => by
    cases k with
    | zero => simp [joinL]
    | succ k =>
      cases k with
      | zero => simp [joinL]
      | succ k =>
        have h := joinL_len (g := g) (q :: r) (k + 1)
        have e1 : joinL g (p :: q :: r) = p ++ g :: joinL g (q :: r) := rfl
        have e2 : joinL g ((p :: q :: r).take (k + 1 + 1)) = p ++ g :: joinL g ((q :: r).take (k + 1)) := rfl
        rw [e1, e2]
        simp only [List.length_append, List.length_cons]
        omega
theorem joinOk_long {l : List (List UInt8)} {k : Nat} (h : 200 < (joinL 47 (l.take k)).length) : joinOk l = false := by
  have := joinL_len (g := 47) l k
  unfold joinOk
  rw [pathB_long (by omega), Bool.and_false]
theorem joinL_first {l : List (List UInt8)} (h : 0 < l.length) : joinL 47 (l.take 1) = l[0] := by
  cases l with
  | nil => simp at h
  | cons p r => rfl
theorem joinL_next {l : List (List UInt8)} {k : Nat} (h0 : 0 < k) (h : k < l.length) : joinL 47 (l.take (k + 1)) = joinL 47 (l.take k) ++ [47] ++ l[k] := by
  rw [List.take_succ_eq_append_getElem h, joinL_snoc _ (by intro e; have := congrArg List.length e; rw [List.length_take, Nat.min_eq_left (by omega), List.length_nil] at this; omega), List.append_assoc]
  rfl
theorem joined_no {l : List (List UInt8)} (h : joinOk l = false) : joinT l = [] ∧ joinE l = 6 := by unfold joinT joinE; rw [h]; exact ⟨rfl, rfl⟩
theorem joined_yes {l : List (List UInt8)} (h : joinOk l = true) : joinT l = joinL 47 l ∧ joinE l = 0 := by unfold joinT joinE; rw [h]; exact ⟨rfl, rfl⟩

end Go.Proofs.Ytcmlofgkcalhnaa.Tx
