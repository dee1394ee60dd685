/- The reference's pattern, Pattern. -/
import Derived.Test.YtcmlofgkcalhnaaTn7
namespace Go.Proofs.Ytcmlofgkcalhnaa.Tx
open Go.RowKit Go.Proofs.Ytcmlofgkcalhnaa.Sh

def patDir (p : List UInt8) : Bool := p.getLast? == some 47
def patCore (p : List UInt8) : List UInt8 := if patDir p = true then p.take (p.length - 1) else p
/-- A pattern's parts: ahead of its star, has it one, behind it, is it of directories. -/
def patL (p : List UInt8) : Option (List UInt8 × Bool × List UInt8 × Bool) :=
  if nameB (patCore p) = true then
    match splitL 42 (patCore p) with
    | [_] => some (patCore p, false, [], patDir p)
    | [a, b] => if a.isEmpty = b.isEmpty then none else some (a, true, b, patDir p)
    | _ => none
  else none
def patV : Option (List UInt8 × Bool × List UInt8 × Bool) → Value
  | none => .tuple #[.string ⟨#[]⟩, .bool false, .string ⟨#[]⟩, .bool false, .bool false]
  | some (a, s, b, d) => .tuple #[.string (str a), .bool s, .string (str b), .bool d, .bool true]
def PatPost (w : World) (p : List UInt8) (e : Ending) (w' : World) : Prop := e = .returned (patV (patL p)) ∧ Below w.heap.size w w'
theorem bi42 : bi 42 = 42 := by unfold bi; rfl
theorem patL_no {p : List UInt8} (h : nameB (patCore p) = false) : patL p = none := by unfold patL; rw [if_neg (by rw [h]; decide)]
theorem patL_one {p q y : List UInt8} (hc : patCore p = q) (hn : nameB q = true) (hs : splitL 42 q = [y]) : patL p = some (q, false, [], patDir p) := by
  unfold patL; rw [hc, if_pos hn, hs]
theorem patL_two {p q a b : List UInt8} (hc : patCore p = q) (hn : nameB q = true) (hs : splitL 42 q = [a, b]) : patL p = if a.isEmpty = b.isEmpty then none else some (a, true, b, patDir p) := by
  unfold patL; rw [hc, if_pos hn, hs]
theorem patL_ahead {p q b : List UInt8} (hc : patCore p = q) (hn : nameB q = true) (hs : splitL 42 q = [[], b]) (hb : 0 < b.length) : patL p = some ([], true, b, patDir p) := by
  rw [patL_two hc hn hs, if_neg]
  cases b with
  | nil => simp at hb
  | cons y r => simp
theorem patL_behind {p q a : List UInt8} (hc : patCore p = q) (hn : nameB q = true) (hs : splitL 42 q = [a, []]) (ha : 0 < a.length) : patL p = some (a, true, [], patDir p) := by
  rw [patL_two hc hn hs, if_neg]
  cases a with
  | nil => simp at ha
  | cons y r => simp
theorem patL_both {p q a b : List UInt8} (hc : patCore p = q) (hn : nameB q = true) (hs : splitL 42 q = [a, b]) (ha : 0 < a.length) (hb : 0 < b.length) : patL p = none := by
  rw [patL_two hc hn hs, if_pos]
  cases a with
  | nil => simp at ha
  | cons y r =>
    cases b with
    | nil => simp at hb
    | cons z t => rfl
theorem patL_many {p q : List UInt8} (hc : patCore p = q) (hn : nameB q = true) (hs : 2 < (splitL 42 q).length) : patL p = none := by
  unfold patL
  rw [hc, if_pos hn]
  split
  · rename_i h; rw [h] at hs; simp at hs
  · rename_i h; rw [h] at hs; simp at hs
  · rfl
theorem text_there {b : List UInt8} (h : 0 < b.length) : (str b).toList.isEmpty = false ∧ ((str b).toList == []) = false := by
  rw [str_toList]
  cases b with
  | nil => simp at h
  | cons c r => exact ⟨rfl, rfl⟩
theorem empty_ahead (x : ByteArray) : (⟨#[]⟩ : ByteArray) ++ x = x := by
  apply ByteArray.ext
  rw [ByteArray.data_append]
  simp
theorem empty_behind (x : ByteArray) : x ++ (⟨#[]⟩ : ByteArray) = x := by
  apply ByteArray.ext
  rw [ByteArray.data_append]
  simp
theorem pat_dir (cs : List UInt8) (k : Nat) (hk : cs.length = k + 1) : patDir cs = (cs.getD k 0 == 47) := by
  unfold patDir
  rw [List.getLast?_eq_getElem?, hk, Nat.add_sub_cancel, List.getD_eq_getElem?_getD, List.getElem?_eq_getElem (by omega)]
  simp

end Go.Proofs.Ytcmlofgkcalhnaa.Tx
