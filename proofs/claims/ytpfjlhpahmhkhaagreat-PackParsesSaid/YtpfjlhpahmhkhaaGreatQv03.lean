/- Texts put together: VTq0, VTn0, VTn1, VTn2, VTn4, VTn5, VTn6, VTn7, VTn8, VTn9, VTq1, VTq3. -/
import Derived.Test.YtpfjlhpahmhkhaaGreatQv01
import GoSem.Op.String
/- Texts cut at a sign, and joined: plain lists, no Go in it. -/
namespace Go.Proofs.YtpfjlhpahmhkhaaGreat.Tx
def splitL (g : UInt8) : List UInt8 → List (List UInt8)
 | [] => [[]]
 | c :: r => if c = g then [] :: splitL g r else match splitL g r with
  | [] => [[c]]
  | p :: ps => (c :: p) :: ps
def joinL (g : UInt8) : List (List UInt8) → List UInt8
 | [] => []
 | [p] => p
 | p :: q :: r => p ++ g :: joinL g (q :: r)
def nameB (s : List UInt8) : Bool := decide (1 ≤ s.length) && decide (s.length ≤ 64) && !(s == [46]) && !(s == [46, 46]) && s.all fun c => decide (33 ≤ c.toNat) && decide (c.toNat ≤ 126) && !(c == 47)
def pathB (s : List UInt8) : Bool := decide (s.length ≤ 200) && (splitL 47 s).all nameB && decide ((splitL 47 s).length ≤ 8)
end Go.Proofs.YtpfjlhpahmhkhaaGreat.Tx
/- marref.Split. -/
namespace Go.Proofs.YtpfjlhpahmhkhaaGreat.Tx
open Go.RowKit Go.Proofs.YtpfjlhpahmhkhaaGreat.Sh
end Go.Proofs.YtpfjlhpahmhkhaaGreat.Tx
/- The reference's Name, Path, Split. -/
namespace Go.Proofs.YtpfjlhpahmhkhaaGreat.Tx
open Go.RowKit Go.Proofs.YtpfjlhpahmhkhaaGreat.Sh
def okc (c : UInt8) : Bool := decide (33 ≤ c.toNat) && decide (c.toNat ≤ 126) && !(c == 47)
theorem nameB_eq (s : List UInt8) : nameB s = (decide (1 ≤ s.length) && decide (s.length ≤ 64) && !(s == [46]) && !(s == [46, 46]) && s.all okc) := rfl
theorem nameB_bad {s : List UInt8} {k : Nat} {c : UInt8} (h : s[k]? = some c) (hc : okc c = false) : nameB s = false := by
 rw [nameB_eq]
 have : s.all okc = false := by
  rw [List.all_eq_false]
  exact ⟨c, List.mem_of_getElem? h, by rw [hc]; decide⟩
 rw [this, Bool.and_false]
theorem nameB_good {s : List UInt8} (h1 : 1 ≤ s.length) (h2 : s.length ≤ 64) (h3 : (s == [46]) = false) (h4 : (s == [46, 46]) = false) (h : ∀ (j : Nat) (c : UInt8), s[j]? = some c → okc c = true) : nameB s = true := by
 rw [nameB_eq, h3, h4]
 have : s.all okc = true := by
  rw [List.all_eq_true]
  intro x hx
  obtain ⟨i, hi⟩ := List.getElem?_of_mem hx
  exact h i x hi
 rw [this]
 simp [h1, h2]
theorem okc_cases (c : UInt8) : (okc c = false ∧ bi c < 33) ∨ (okc c = false ∧ 33 ≤ bi c ∧ 126 < bi c) ∨ (okc c = false ∧ 33 ≤ bi c ∧ bi c ≤ 126 ∧ c = 47) ∨ (okc c = true ∧ 33 ≤ bi c ∧ bi c ≤ 126 ∧ (bi c == 47) = false) := by
 have e : bi c = (c.toNat : Int) := by unfold bi; rfl
 rw [e]
 unfold okc
 by_cases h1 : c.toNat < 33
 ·left; constructor
  ·simp; omega
  ·omega
 ·by_cases h2 : 126 < c.toNat
  ·right; left; refine ⟨by simp; omega, by omega, by omega⟩
  ·by_cases h3 : c = 47
   ·right; right; left; subst h3; exact ⟨by decide, by decide, by decide, rfl⟩
   ·right; right; right
    refine ⟨by simp; exact ⟨⟨by omega, by omega⟩, h3⟩, by omega, by omega, ?_⟩
    rw [beq_eq_false_iff_ne]
    intro h
    exact h3 (UInt8.toNat_inj.1 (by show c.toNat = 47; omega))
theorem list_other {a b : List UInt8} (h : a ≠ b) : (a == b) = false := by simpa using h
end Go.Proofs.YtpfjlhpahmhkhaaGreat.Tx
/- The reference's Path, Split. -/
namespace Go.Proofs.YtpfjlhpahmhkhaaGreat.Tx
open Go.RowKit Go.Proofs.YtpfjlhpahmhkhaaGreat.Sh
def BoolPost (w : World) (t : Bool) (e : Ending) (w' : World) : Prop := e = .returned (.bool t) ∧ Below w.heap.size w w'
end Go.Proofs.YtpfjlhpahmhkhaaGreat.Tx
/- The reference's Join, Under, Parents, Copy. -/
namespace Go.Proofs.YtpfjlhpahmhkhaaGreat.Tx
open Go.RowKit Go.Proofs.YtpfjlhpahmhkhaaGreat.Sh
def underB (d s : List UInt8) : Bool := pathB d && pathB s && decide (d.length + 1 < s.length) && (s.take d.length == d) && (s[d.length]? == some 47)
end Go.Proofs.YtpfjlhpahmhkhaaGreat.Tx
/- The reference's Parents, Copy. -/
namespace Go.Proofs.YtpfjlhpahmhkhaaGreat.Tx
open Go.RowKit Go.Proofs.YtpfjlhpahmhkhaaGreat.Sh
def parP (s : List UInt8) : Nat → List (List UInt8)
 | 0 => []
 | k + 1 => if s[k]? = some 47 then parP s k ++ [s.take k] else parP s k
def parentsL (s : List UInt8) : List (List UInt8) := if pathB s = true then parP s s.length else []
def copyL (s id : List UInt8) (n : Int) : List UInt8 := s ++ [126] ++ id.take 8 ++ List.replicate (min n 100).toNat 126
end Go.Proofs.YtpfjlhpahmhkhaaGreat.Tx
/- The reference's Join. -/
namespace Go.Proofs.YtpfjlhpahmhkhaaGreat.Tx
open Go.RowKit Go.Proofs.YtpfjlhpahmhkhaaGreat.Sh
def joinOk (l : List (List UInt8)) : Bool := !l.isEmpty && ((splitL 47 (joinL 47 l)).length == l.length) && pathB (joinL 47 l)
def joinT (l : List (List UInt8)) : List UInt8 := if joinOk l = true then joinL 47 l else []
def joinE (l : List (List UInt8)) : Int := if joinOk l = true then 0 else 6
def JoinPost (w : World) (l : List (List UInt8)) (e : Ending) (w' : World) : Prop := e = .returned (.tuple #[.string (str (joinT l)), .int .i64 (joinE l)]) ∧ Below w.heap.size w w'
end Go.Proofs.YtpfjlhpahmhkhaaGreat.Tx
/- The reference's takes. -/
namespace Go.Proofs.YtpfjlhpahmhkhaaGreat.Tx
open Go.RowKit Go.Proofs.YtpfjlhpahmhkhaaGreat.Sh
def takesB (fr : List UInt8) (star : Bool) (bk s : List UInt8) : Bool := if star = true then decide (fr.length + bk.length ≤ s.length) && (s.take fr.length == fr) && (s.drop (s.length - bk.length) == bk) else s == fr
end Go.Proofs.YtpfjlhpahmhkhaaGreat.Tx
/- The reference's pattern, Pattern. -/
namespace Go.Proofs.YtpfjlhpahmhkhaaGreat.Tx
open Go.RowKit Go.Proofs.YtpfjlhpahmhkhaaGreat.Sh
def patDir (p : List UInt8) : Bool := p.getLast? == some 47
def patCore (p : List UInt8) : List UInt8 := if patDir p = true then p.take (p.length - 1) else p
def patL (p : List UInt8) : Option (List UInt8 × Bool × List UInt8 × Bool) :=
 if nameB (patCore p) = true then
  match splitL 42 (patCore p) with
  | [_] => some (patCore p, false, [], patDir p)
  | [a, b] => if a.isEmpty = b.isEmpty then none else some (a, true, b, patDir p)
  | _ => none
 else none
def patV : Option (List UInt8 × Bool × List UInt8 × Bool) → Value
 | none => .tuple #[.string ⟨#[]⟩, .bool false, .string ⟨#[]⟩, .bool false, .bool false]
 | some (a, s, b, d) => .tuple #[.string (str a), .bool s, .string (str b), .bool d, .bool true]
def PatPost (w : World) (p : List UInt8) (e : Ending) (w' : World) : Prop := e = .returned (patV (patL p)) ∧ Below w.heap.size w w'
end Go.Proofs.YtpfjlhpahmhkhaaGreat.Tx
/- The reference's Ignored. -/
namespace Go.Proofs.YtpfjlhpahmhkhaaGreat.Tx
open Go.RowKit Go.Proofs.YtpfjlhpahmhkhaaGreat.Sh
def namesL (s : List UInt8) : List (List UInt8) := if pathB s = true then splitL 47 s else []
def hitTo (f : List UInt8) (st : Bool) (b : List UInt8) (d : Bool) (l : List (List UInt8)) (k : Nat) : Bool := (List.range k).any fun j => (!d || decide (j + 1 < l.length)) && takesB f st b (l.getD j [])
def hitP (l : List (List UInt8)) (p : List UInt8) : Bool := match patL p with
 | none => false
 | some (f, st, b, d) => hitTo f st b d l l.length
def ignoredB (ps : List (List UInt8)) (s : List UInt8) : Bool := ps.any (hitP (namesL s))
end Go.Proofs.YtpfjlhpahmhkhaaGreat.Tx
/- Names and paths: what follows of their definitions. Plain lists. -/
namespace Go.Proofs.YtpfjlhpahmhkhaaGreat.Tx
/-! Parents. -/
end Go.Proofs.YtpfjlhpahmhkhaaGreat.Tx
/- Texts in order: plain lists. -/
namespace Go.Proofs.YtpfjlhpahmhkhaaGreat.Tx
abbrev bl (a b : List UInt8) : Bool := Op.bytesLess a b
theorem bl_nil (b : List UInt8) : bl b [] = false := by cases b <;> rfl
theorem bl_cons (x y : UInt8) (a b : List UInt8) : bl (x :: a) (y :: b) = (decide (x < y) || (x == y && bl a b)) := by
 show Op.bytesLess _ _ = _
 rw [Op.bytesLess]
theorem bl_irr (a : List UInt8) : bl a a = false := by
 induction a with
 | nil => rfl
 | cons x a ih => rw [bl_cons, ih]; simp
theorem u8_tri (x y : UInt8) : x < y ∨ x = y ∨ y < x := by
 rcases Nat.lt_trichotomy x.toNat y.toNat with h | h | h
 ·exact .inl h
 ·exact .inr (.inl (UInt8.toNat_inj.1 h))
 ·exact .inr (.inr h)
theorem u8_nlt {x y : UInt8} (h : x < y) : ¬ y < x ∧ x ≠ y := by
 have h' : x.toNat < y.toNat := h
 exact ⟨fun h2 => by have : y.toNat < x.toNat := h2; omega, fun e => by subst e; omega⟩
theorem bl_tri (a : List UInt8) : ∀ b : List UInt8, bl a b = true ∨ a = b ∨ bl b a = true := by
 induction a with
 | nil => intro b; cases b with | nil => exact .inr (.inl rfl) | cons y b => exact .inl rfl
 | cons x a ih =>
  intro b
  cases b with
  | nil => exact .inr (.inr rfl)
  | cons y b =>
   rw [bl_cons, bl_cons]
   rcases u8_tri x y with h | h | h
   ·left; simp [h]
   ·subst h
    rcases ih b with h | h | h
    ·left; rw [h]; simp
    ·right; left; rw [h]
    ·right; right; rw [h]; simp
   ·right; right; simp [h]
theorem bl_asymm (a : List UInt8) : ∀ b : List UInt8, bl a b = true → bl b a = false := by
 induction a with
 | nil => intro b _; exact bl_nil b
 | cons x a ih =>
  intro b h
  cases b with
  | nil => rw [bl_nil] at h; cases h
  | cons y b =>
   rw [bl_cons] at h ⊢
   rcases u8_tri x y with h1 | h1 | h1
   ·have := u8_nlt h1
    simp [this.1]
    intro e; exact absurd e.symm this.2
   ·subst h1
    have hb : bl a b = true := by simpa using h
    rw [ih b hb]
    simp
   ·have := u8_nlt h1
    simp [this.1, this.2.symm] at h
def cmpL (a b : List UInt8) : Int := if bl a b then -1 else if a = b then 0 else 1
end Go.Proofs.YtpfjlhpahmhkhaaGreat.Tx
