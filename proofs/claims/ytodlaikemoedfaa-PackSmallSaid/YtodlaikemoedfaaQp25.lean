/- Texts put together: YPk0, YPk1. -/
import Derived.Test.YtodlaikemoedfaaQp03
import Derived.Test.YtodlaikemoedfaaQp14
import Derived.Test.YtodlaikemoedfaaQp24
/- Packs: plain lists, no Go in it. -/
set_option linter.unusedVariables false
set_option linter.unusedSimpArgs false
namespace Go.Proofs.Ytodlaikemoedfaa.Ob
open Go.Proofs.Ytodlaikemoedfaa.Sh

/-- An object that was read. -/
structure EntM where
  data : List UInt8
  place : Nat
  depth : Nat
/-- What a base tells, by a hash as a text. -/
abbrev BaseM := List UInt8 → Option (List UInt8)
def idB (bs : List UInt8) : List UInt8 := hexL (sumOf bs)

/-- What the delta at k makes of x: what is wrong, the bytes, where it ends. -/
def byP (b x : List UInt8) (k : Nat) : Int × List UInt8 × Nat :=
  if (getR b (k : Int)).2.2 ≠ 0 then ((getR b (k : Int)).2.2, [], 0) else
    if (b.length : Int) - (getR b (k : Int)).2.1 < (getR b (k : Int)).1 then (2, [], 0) else
      ((applyD x ((b.drop (getR b (k : Int)).2.1.toNat).take (getR b (k : Int)).1.toNat)).2, (applyD x ((b.drop (getR b (k : Int)).2.1.toNat).take (getR b (k : Int)).1.toNat)).1, (getR b (k : Int)).2.1.toNat + (getR b (k : Int)).1.toNat)
/-- A whole one: what is wrong, the bytes, the depth, where it ends. -/
def wholeP (b : List UInt8) (k : Nat) : Int × List UInt8 × Nat × Nat :=
  if (getR b (k : Int)).2.2 ≠ 0 then ((getR b (k : Int)).2.2, [], 0, 0) else
    if 20000 < (getR b (k : Int)).1 then (3, [], 0, 0) else
      if (b.length : Int) - (getR b (k : Int)).2.1 < (getR b (k : Int)).1 then (2, [], 0, 0) else
        (0, (b.drop (getR b (k : Int)).2.1.toNat).take (getR b (k : Int)).1.toNat, 0, (getR b (k : Int)).2.1.toNat + (getR b (k : Int)).1.toNat)
/-- One by one ahead of it. -/
def aheadP (b : List UInt8) (read : List EntM) (k : Nat) : Int × List UInt8 × Nat × Nat :=
  if (getR b (k : Int)).2.2 ≠ 0 then ((getR b (k : Int)).2.2, [], 0, 0) else
    if (getR b (k : Int)).1 = 0 ∨ (read.length : Int) < (getR b (k : Int)).1 then (7, [], 0, 0) else
      match read[read.length - (getR b (k : Int)).1.toNat]? with
      | none => (7, [], 0, 0)
      | some x => if 8 ≤ x.depth then (14, [], 0, 0) else ((byP b x.data (getR b (k : Int)).2.1.toNat).1, (byP b x.data (getR b (k : Int)).2.1.toNat).2.1, x.depth + 1, (byP b x.data (getR b (k : Int)).2.1.toNat).2.2)
/-- One by one elsewhere. -/
def elseP (b : List UInt8) (base : BaseM) (k : Nat) : Int × List UInt8 × Nat × Nat :=
  if b.length < k + 32 then (2, [], 0, 0) else
    match base (hexL ((b.drop k).take 32)) with
    | none => (7, [], 0, 0)
    | some x => if idB x ≠ hexL ((b.drop k).take 32) then (5, [], 0, 0) else ((byP b x (k + 32)).1, (byP b x (k + 32)).2.1, 1, (byP b x (k + 32)).2.2)
/-- What is told at k, an object or not. -/
def bytesP (b : List UInt8) (base : BaseM) (read : List EntM) (k : Nat) : Int × List UInt8 × Nat × Nat :=
  if b.length ≤ k then (2, [], 0, 0) else if b.getD k 0 = 0 then wholeP b (k + 1) else if b.getD k 0 = 1 then aheadP b read (k + 1) else if b.getD k 0 = 2 then elseP b base (k + 1) else (4, [], 0, 0)
/-- The object at k. -/
def oneP (b : List UInt8) (base : BaseM) (read : List EntM) (k : Nat) : Int × List UInt8 × Nat × Nat :=
  if (bytesP b base read k).1 ≠ 0 then bytesP b base read k else if decB (bytesP b base read k).2.1 = true then bytesP b base read k else (4, [], 0, 0)
/-- The objects from k on, behind those that were read. -/
def loopP (b : List UInt8) (base : BaseM) : Nat → List EntM → Nat → Int × List EntM
  | 0, read, k => if k < b.length then (3, read) else (0, read)
  | n + 1, read, k => if (oneP b base read k).1 ≠ 0 then ((oneP b base read k).1, read) else loopP b base n (read ++ [⟨(oneP b base read k).2.1, k, (oneP b base read k).2.2.1⟩]) (oneP b base read k).2.2.2
def markL : List UInt8 := [77, 80, 49]
/-- All behind the head. -/
def bodyP (b : List UInt8) (base : BaseM) : Int × List EntM :=
  if b.take 3 ≠ markL then (4, []) else if (getR b 3).2.2 ≠ 0 then ((getR b 3).2.2, []) else if 512 < (getR b 3).1 then (14, []) else loopP b base (getR b 3).1.toNat [] (getR b 3).2.1.toNat
/-- A pack: what is wrong, what was read. -/
def readP (bs : List UInt8) (base : BaseM) : Int × List EntM :=
  if bs.length < 36 then (2, []) else if bs.drop (bs.length - 32) ≠ sumOf (bs.take (bs.length - 32)) then (5, []) else bodyP (bs.take (bs.length - 32)) base
/-- What every object that was read keeps. -/
def EntsOk (b : List UInt8) (read : List EntM) : Prop := ∀ e ∈ read, e.data.length ≤ 20000 ∧ e.place ≤ b.length ∧ e.depth ≤ 8
theorem EntsOk.nil_ (b : List UInt8) : EntsOk b [] := fun e h => by simp at h
end Go.Proofs.Ytodlaikemoedfaa.Ob
/- Packs that are written: plain lists, no Go in it. -/
set_option linter.unusedVariables false
set_option linter.unusedSimpArgs false
namespace Go.Proofs.Ytodlaikemoedfaa.Ob
open Go.Proofs.Ytodlaikemoedfaa.Sh

/-- The nearest one below i by which o may be told. -/
def nearP (l : List (List UInt8)) (ds : List Nat) (o : List UInt8) : Nat → Option Nat
  | 0 => none
  | i + 1 => if (l.getD i []).getD 0 0 = o.getD 0 0 ∧ ds.getD i 0 < 8 then some i else nearP l ds o i
theorem near_hit {l : List (List UInt8)} {ds : List Nat} {o : List UInt8} {i : Nat} (h : (l.getD i []).getD 0 0 = o.getD 0 0) (hd : ds.getD i 0 < 8) : nearP l ds o (i + 1) = some i := by rw [nearP, if_pos ⟨h, hd⟩]
theorem near_miss {l : List (List UInt8)} {ds : List Nat} {o : List UInt8} {i : Nat} (h : ¬ ((l.getD i []).getD 0 0 = o.getD 0 0 ∧ ds.getD i 0 < 8)) : nearP l ds o (i + 1) = nearP l ds o i := by rw [nearP, if_neg h]
theorem near_some {l : List (List UInt8)} {ds : List Nat} {o : List UInt8} : ∀ {i k : Nat}, nearP l ds o i = some k → k < i ∧ (l.getD k []).getD 0 0 = o.getD 0 0 ∧ ds.getD k 0 < 8
  | 0, k, h => by cases h
  | i + 1, k, h => by
    rw [nearP] at h
    split at h
    · rename_i hh
      injection h with h
      subst h
      exact ⟨by omega, hh.1, hh.2⟩
    · have := near_some h
      exact ⟨by omega, this.2⟩
def wholeE (o : List UInt8) : List UInt8 := 0 :: (putL o.length ++ o)
def aheadE (back : Nat) (d : List UInt8) : List UInt8 := 1 :: (putL back ++ (putL d.length ++ d))
/-- Object i, behind those ahead of it, whose depths are ds: its bytes, its depth. -/
def putP (l : List (List UInt8)) (ds : List Nat) (i : Nat) : List UInt8 × Nat :=
  match nearP l ds (l.getD i []) i with
  | none => (wholeE (l.getD i []), 0)
  | some k => if (makeD (l.getD k []) (l.getD i [])).length < (l.getD i []).length then (aheadE (i - k) (makeD (l.getD k []) (l.getD i [])), ds.getD k 0 + 1) else (wholeE (l.getD i []), 0)
theorem put_none {l : List (List UInt8)} {ds : List Nat} {i : Nat} (h : nearP l ds (l.getD i []) i = none) : putP l ds i = (wholeE (l.getD i []), 0) := by unfold putP; rw [h]
theorem put_ahead {l : List (List UInt8)} {ds : List Nat} {i k : Nat} (h : nearP l ds (l.getD i []) i = some k) (hl : (makeD (l.getD k []) (l.getD i [])).length < (l.getD i []).length) :
    putP l ds i = (aheadE (i - k) (makeD (l.getD k []) (l.getD i [])), ds.getD k 0 + 1) := by unfold putP; rw [h]; exact if_pos hl
theorem put_whole {l : List (List UInt8)} {ds : List Nat} {i k : Nat} (h : nearP l ds (l.getD i []) i = some k) (hl : ¬ (makeD (l.getD k []) (l.getD i [])).length < (l.getD i []).length) :
    putP l ds i = (wholeE (l.getD i []), 0) := by unfold putP; rw [h]; exact if_neg hl
/-- The first i objects, behind the head; their depths. -/
def writesP (l : List (List UInt8)) : Nat → List UInt8 × List Nat
  | 0 => (markL ++ putL l.length, [])
  | i + 1 => ((writesP l i).1 ++ (putP l (writesP l i).2 i).1, (writesP l i).2 ++ [(putP l (writesP l i).2 i).2])
theorem writes_depths (l : List (List UInt8)) : ∀ i, (writesP l i).2.length = i
  | 0 => rfl
  | i + 1 => by show ((_ : List Nat) ++ _).length = _; rw [List.length_append, writes_depths l i]; rfl
/-- Write: what is wrong, the pack. -/
def writeP (l : List (List UInt8)) : Int × List UInt8 :=
  if 512 < l.length then (14, []) else if ∃ o ∈ l, 20000 < o.length then (3, []) else if ∃ o ∈ l, decB o = false then (4, []) else (0, (writesP l l.length).1 ++ sumOf (writesP l l.length).1)
theorem write_limit {l : List (List UInt8)} (h : 512 < l.length) : writeP l = (14, []) := by unfold writeP; exact if_pos h
theorem write_long {l : List (List UInt8)} (h : l.length ≤ 512) (hl : ∃ o ∈ l, 20000 < o.length) : writeP l = (3, []) := by unfold writeP; rw [if_neg (by omega)]; exact if_pos hl
theorem write_form {l : List (List UInt8)} (h : l.length ≤ 512) (hl : ∀ o ∈ l, o.length ≤ 20000) (hf : ∃ o ∈ l, decB o = false) : writeP l = (4, []) := by
  unfold writeP; rw [if_neg (by omega), if_neg (by rintro ⟨o, ho, h2⟩; have := hl o ho; omega)]; exact if_pos hf
theorem write_ok {l : List (List UInt8)} (h : l.length ≤ 512) (hl : ∀ o ∈ l, o.length ≤ 20000) (hf : ∀ o ∈ l, decB o = true) : writeP l = (0, (writesP l l.length).1 ++ sumOf (writesP l l.length).1) := by
  unfold writeP
  rw [if_neg (by omega), if_neg (by rintro ⟨o, ho, h2⟩; have := hl o ho; omega), if_neg (by rintro ⟨o, ho, h2⟩; rw [hf o ho] at h2; cases h2)]
theorem write_cases (l : List (List UInt8)) : 512 < l.length ∧ writeP l = (14, []) ∨ (l.length ≤ 512 ∧ (∃ o ∈ l, 20000 < o.length) ∧ writeP l = (3, [])) ∨
    (l.length ≤ 512 ∧ (∀ o ∈ l, o.length ≤ 20000) ∧ (∃ o ∈ l, decB o = false) ∧ writeP l = (4, [])) ∨
    (l.length ≤ 512 ∧ (∀ o ∈ l, o.length ≤ 20000) ∧ (∀ o ∈ l, decB o = true) ∧ writeP l = (0, (writesP l l.length).1 ++ sumOf (writesP l l.length).1)) := by
  by_cases h : 512 < l.length
  · exact .inl ⟨h, write_limit h⟩
  · by_cases hl : ∃ o ∈ l, 20000 < o.length
    · exact .inr (.inl ⟨by omega, hl, write_long (by omega) hl⟩)
    · have hl' : ∀ o ∈ l, o.length ≤ 20000 := fun o ho => Nat.le_of_not_lt fun h2 => hl ⟨o, ho, h2⟩
      by_cases hf : ∃ o ∈ l, decB o = false
      · exact .inr (.inr (.inl ⟨by omega, hl', hf, write_form (by omega) hl' hf⟩))
      · have hf' : ∀ o ∈ l, decB o = true := fun o ho => by
          cases hd : decB o with
          | true => rfl
          | false => exact absurd ⟨o, ho, hd⟩ hf
        exact .inr (.inr (.inr ⟨by omega, hl', hf', write_ok (by omega) hl' hf'⟩))

/-- The entries of the first i objects. -/
def entsP (l : List (List UInt8)) : Nat → List EntM
  | 0 => []
  | i + 1 => entsP l i ++ [⟨l.getD i [], (writesP l i).1.length, (putP l (writesP l i).2 i).2⟩]
theorem depths_at (l : List (List UInt8)) : ∀ i k, k < i → (writesP l i).2.getD k 0 = (putP l (writesP l k).2 k).2
  | 0, k, h => by omega
  | i + 1, k, h => by
    show ((writesP l i).2 ++ _).getD k 0 = _
    by_cases e : k = i
    · subst e
      rw [List.getD_eq_getElem?_getD, List.getElem?_append_right (by rw [writes_depths]; exact Nat.le_refl _), writes_depths, Nat.sub_self]; rfl
    · rw [List.getD_eq_getElem?_getD, List.getElem?_append_left (by rw [writes_depths]; omega), ← List.getD_eq_getElem?_getD]
      exact depths_at l i k (by omega)

end Go.Proofs.Ytodlaikemoedfaa.Ob
