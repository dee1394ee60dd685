/- Texts put together: VPk0, VPk1, VPk3. -/
import Derived.Test.YtpfjlhpahmhkhaaGreatQv29
import Derived.Test.YtpfjlhpahmhkhaaGreatQv11
import Derived.Test.YtpfjlhpahmhkhaaGreatQv21
import Derived.Test.YtpfjlhpahmhkhaaGreatQv14
import Derived.Test.YtpfjlhpahmhkhaaGreatQv25
/- Packs: plain lists, no Go in it. -/
set_option linter.unusedVariables false
set_option linter.unusedSimpArgs false
namespace Go.Proofs.YtpfjlhpahmhkhaaGreat.Ob
open Go.Proofs.YtpfjlhpahmhkhaaGreat.Sh
structure EntM where
 data : List UInt8
 place : Nat
 depth : Nat
abbrev BaseM := List UInt8 → Option (List UInt8)
def idB (bs : List UInt8) : List UInt8 := hexL (sumOf bs)
def byP (b x : List UInt8) (k : Nat) : Int × List UInt8 × Nat :=
 if (getR b (k : Int)).2.2 ≠ 0 then ((getR b (k : Int)).2.2, [], 0) else
  if (b.length : Int) - (getR b (k : Int)).2.1 < (getR b (k : Int)).1 then (2, [], 0) else
   ((applyD x ((b.drop (getR b (k : Int)).2.1.toNat).take (getR b (k : Int)).1.toNat)).2, (applyD x ((b.drop (getR b (k : Int)).2.1.toNat).take (getR b (k : Int)).1.toNat)).1, (getR b (k : Int)).2.1.toNat + (getR b (k : Int)).1.toNat)
theorem by_err {b x : List UInt8} {k : Nat} {e : Int} (h : getR b (k : Int) = (0, 0, e)) (he : e ≠ 0) : byP b x k = (e, [], 0) := by unfold byP; rw [h]; exact if_pos he
theorem by_short {b x : List UInt8} {k : Nat} {n q : Int} (h : getR b (k : Int) = (n, q, 0)) (hl : (b.length : Int) - q < n) : byP b x k = (2, [], 0) := by
 unfold byP; rw [h]; rw [if_neg (by simp)]; exact if_pos hl
theorem by_ok {b x : List UInt8} {k n q : Nat} (h : getR b (k : Int) = ((n : Int), (q : Int), 0)) (hl : q + n ≤ b.length) :
  byP b x k = ((applyD x ((b.drop q).take n)).2, (applyD x ((b.drop q).take n)).1, q + n) := by
 unfold byP; rw [h]; rw [if_neg (by simp)]; rw [if_neg (by simp only; omega)]; simp
def wholeP (b : List UInt8) (k : Nat) : Int × List UInt8 × Nat × Nat :=
 if (getR b (k : Int)).2.2 ≠ 0 then ((getR b (k : Int)).2.2, [], 0, 0) else
  if 20000 < (getR b (k : Int)).1 then (3, [], 0, 0) else
   if (b.length : Int) - (getR b (k : Int)).2.1 < (getR b (k : Int)).1 then (2, [], 0, 0) else
    (0, (b.drop (getR b (k : Int)).2.1.toNat).take (getR b (k : Int)).1.toNat, 0, (getR b (k : Int)).2.1.toNat + (getR b (k : Int)).1.toNat)
theorem whole_err {b : List UInt8} {k : Nat} {e : Int} (h : getR b (k : Int) = (0, 0, e)) (he : e ≠ 0) : wholeP b k = (e, [], 0, 0) := by unfold wholeP; rw [h]; exact if_pos he
theorem whole_long {b : List UInt8} {k : Nat} {n q : Int} (h : getR b (k : Int) = (n, q, 0)) (hl : 20000 < n) : wholeP b k = (3, [], 0, 0) := by
 unfold wholeP; rw [h]; rw [if_neg (by simp)]; exact if_pos hl
theorem whole_short {b : List UInt8} {k : Nat} {n q : Int} (h : getR b (k : Int) = (n, q, 0)) (hm : n ≤ 20000) (hl : (b.length : Int) - q < n) : wholeP b k = (2, [], 0, 0) := by
 unfold wholeP; rw [h]; rw [if_neg (by simp)]; rw [if_neg (by simp only; omega)]; exact if_pos hl
theorem whole_ok {b : List UInt8} {k n q : Nat} (h : getR b (k : Int) = ((n : Int), (q : Int), 0)) (hm : n ≤ 20000) (hl : q + n ≤ b.length) : wholeP b k = (0, (b.drop q).take n, 0, q + n) := by
 unfold wholeP; rw [h]; rw [if_neg (by simp)]; rw [if_neg (by simp only; omega)]; rw [if_neg (by simp only; omega)]; simp
def aheadP (b : List UInt8) (read : List EntM) (k : Nat) : Int × List UInt8 × Nat × Nat :=
 if (getR b (k : Int)).2.2 ≠ 0 then ((getR b (k : Int)).2.2, [], 0, 0) else
  if (getR b (k : Int)).1 = 0 ∨ (read.length : Int) < (getR b (k : Int)).1 then (7, [], 0, 0) else
   match read[read.length - (getR b (k : Int)).1.toNat]? with
   | none => (7, [], 0, 0)
   | some x => if 8 ≤ x.depth then (14, [], 0, 0) else ((byP b x.data (getR b (k : Int)).2.1.toNat).1, (byP b x.data (getR b (k : Int)).2.1.toNat).2.1, x.depth + 1, (byP b x.data (getR b (k : Int)).2.1.toNat).2.2)
theorem ahead_err {b : List UInt8} {read : List EntM} {k : Nat} {e : Int} (h : getR b (k : Int) = (0, 0, e)) (he : e ≠ 0) : aheadP b read k = (e, [], 0, 0) := by unfold aheadP; rw [h]; exact if_pos he
theorem ahead_none {b : List UInt8} {read : List EntM} {k : Nat} {n q : Int} (h : getR b (k : Int) = (n, q, 0)) (hn : n = 0 ∨ (read.length : Int) < n) : aheadP b read k = (7, [], 0, 0) := by
 unfold aheadP; rw [h]; rw [if_neg (by simp)]; exact if_pos hn
theorem ahead_deep {b : List UInt8} {read : List EntM} {k n : Nat} {q : Int} {x : EntM} (h : getR b (k : Int) = ((n : Int), q, 0)) (h0 : 0 < n) (hn : n ≤ read.length) (hx : read[read.length - n]? = some x) (hd : 8 ≤ x.depth) : aheadP b read k = (14, [], 0, 0) := by
 unfold aheadP; rw [h]; rw [if_neg (by simp)]; rw [if_neg (by simp only; omega)]
 simp only [Int.toNat_natCast, hx]
 exact if_pos hd
theorem ahead_by {b : List UInt8} {read : List EntM} {k n q : Nat} {x : EntM} (h : getR b (k : Int) = ((n : Int), (q : Int), 0)) (h0 : 0 < n) (hn : n ≤ read.length) (hx : read[read.length - n]? = some x) (hd : x.depth < 8) :
  aheadP b read k = ((byP b x.data q).1, (byP b x.data q).2.1, x.depth + 1, (byP b x.data q).2.2) := by
 unfold aheadP; rw [h]; rw [if_neg (by simp)]; rw [if_neg (by simp only; omega)]
 simp only [Int.toNat_natCast, hx]
 exact if_neg (by omega)
def elseP (b : List UInt8) (base : BaseM) (k : Nat) : Int × List UInt8 × Nat × Nat :=
 if b.length < k + 32 then (2, [], 0, 0) else
  match base (hexL ((b.drop k).take 32)) with
  | none => (7, [], 0, 0)
  | some x => if idB x ≠ hexL ((b.drop k).take 32) then (5, [], 0, 0) else ((byP b x (k + 32)).1, (byP b x (k + 32)).2.1, 1, (byP b x (k + 32)).2.2)
theorem else_short {b : List UInt8} {base : BaseM} {k : Nat} (h : b.length < k + 32) : elseP b base k = (2, [], 0, 0) := by unfold elseP; exact if_pos h
theorem else_none {b : List UInt8} {base : BaseM} {k : Nat} (h : k + 32 ≤ b.length) (hn : base (hexL ((b.drop k).take 32)) = none) : elseP b base k = (7, [], 0, 0) := by unfold elseP; rw [if_neg (by omega), hn]
theorem else_sum {b x : List UInt8} {base : BaseM} {k : Nat} (h : k + 32 ≤ b.length) (hn : base (hexL ((b.drop k).take 32)) = some x) (hi : idB x ≠ hexL ((b.drop k).take 32)) : elseP b base k = (5, [], 0, 0) := by
 unfold elseP; rw [if_neg (by omega), hn]; exact if_pos hi
theorem else_by {b x : List UInt8} {base : BaseM} {k : Nat} (h : k + 32 ≤ b.length) (hn : base (hexL ((b.drop k).take 32)) = some x) (hi : idB x = hexL ((b.drop k).take 32)) :
  elseP b base k = ((byP b x (k + 32)).1, (byP b x (k + 32)).2.1, 1, (byP b x (k + 32)).2.2) := by
 unfold elseP; rw [if_neg (by omega), hn]; exact if_neg (by simp [hi])
def bytesP (b : List UInt8) (base : BaseM) (read : List EntM) (k : Nat) : Int × List UInt8 × Nat × Nat :=
 if b.length ≤ k then (2, [], 0, 0) else if b.getD k 0 = 0 then wholeP b (k + 1) else if b.getD k 0 = 1 then aheadP b read (k + 1) else if b.getD k 0 = 2 then elseP b base (k + 1) else (4, [], 0, 0)
theorem bytes_short {b : List UInt8} {base : BaseM} {read : List EntM} {k : Nat} (h : b.length ≤ k) : bytesP b base read k = (2, [], 0, 0) := by unfold bytesP; exact if_pos h
theorem bytes_0 {b : List UInt8} {base : BaseM} {read : List EntM} {k : Nat} (h : k < b.length) (hc : b.getD k 0 = 0) : bytesP b base read k = wholeP b (k + 1) := by unfold bytesP; rw [if_neg (by omega), if_pos hc]
theorem bytes_1 {b : List UInt8} {base : BaseM} {read : List EntM} {k : Nat} (h : k < b.length) (hc : b.getD k 0 = 1) : bytesP b base read k = aheadP b read (k + 1) := by
 unfold bytesP; rw [if_neg (by omega), if_neg (by rw [hc]; decide), if_pos hc]
theorem bytes_2 {b : List UInt8} {base : BaseM} {read : List EntM} {k : Nat} (h : k < b.length) (hc : b.getD k 0 = 2) : bytesP b base read k = elseP b base (k + 1) := by
 unfold bytesP; rw [if_neg (by omega), if_neg (by rw [hc]; decide), if_neg (by rw [hc]; decide), if_pos hc]
theorem bytes_form {b : List UInt8} {base : BaseM} {read : List EntM} {k : Nat} (h : k < b.length) (h0 : b.getD k 0 ≠ 0) (h1 : b.getD k 0 ≠ 1) (h2 : b.getD k 0 ≠ 2) : bytesP b base read k = (4, [], 0, 0) := by
 unfold bytesP; rw [if_neg (by omega), if_neg h0, if_neg h1, if_neg h2]
def oneP (b : List UInt8) (base : BaseM) (read : List EntM) (k : Nat) : Int × List UInt8 × Nat × Nat :=
 if (bytesP b base read k).1 ≠ 0 then bytesP b base read k else if decB (bytesP b base read k).2.1 = true then bytesP b base read k else (4, [], 0, 0)
theorem one_err {b : List UInt8} {base : BaseM} {read : List EntM} {k : Nat} (h : (bytesP b base read k).1 ≠ 0) : oneP b base read k = bytesP b base read k := by unfold oneP; exact if_pos h
theorem one_ok {b : List UInt8} {base : BaseM} {read : List EntM} {k : Nat} (h : (bytesP b base read k).1 = 0) (hd : decB (bytesP b base read k).2.1 = true) : oneP b base read k = bytesP b base read k := by
 unfold oneP; rw [if_neg (by simp [h]), if_pos hd]
theorem one_form {b : List UInt8} {base : BaseM} {read : List EntM} {k : Nat} (h : (bytesP b base read k).1 = 0) (hd : decB (bytesP b base read k).2.1 = false) : oneP b base read k = (4, [], 0, 0) := by
 unfold oneP; rw [if_neg (by simp [h]), if_neg (by simp [hd])]
def loopP (b : List UInt8) (base : BaseM) : Nat → List EntM → Nat → Int × List EntM
 | 0, read, k => if k < b.length then (3, read) else (0, read)
 | n + 1, read, k => if (oneP b base read k).1 ≠ 0 then ((oneP b base read k).1, read) else loopP b base n (read ++ [⟨(oneP b base read k).2.1, k, (oneP b base read k).2.2.1⟩]) (oneP b base read k).2.2.2
theorem loop_end {b : List UInt8} {base : BaseM} {read : List EntM} {k : Nat} : loopP b base 0 read k = if k < b.length then (3, read) else (0, read) := rfl
theorem loop_err {b : List UInt8} {base : BaseM} {n : Nat} {read : List EntM} {k : Nat} (h : (oneP b base read k).1 ≠ 0) : loopP b base (n + 1) read k = ((oneP b base read k).1, read) := by rw [loopP, if_pos h]
theorem loop_on {b : List UInt8} {base : BaseM} {n : Nat} {read : List EntM} {k : Nat} (h : (oneP b base read k).1 = 0) : loopP b base (n + 1) read k = loopP b base n (read ++ [⟨(oneP b base read k).2.1, k, (oneP b base read k).2.2.1⟩]) (oneP b base read k).2.2.2 := by
 rw [loopP, if_neg (by simp [h])]
def markL : List UInt8 := [77, 80, 49]
def bodyP (b : List UInt8) (base : BaseM) : Int × List EntM :=
 if b.take 3 ≠ markL then (4, []) else if (getR b 3).2.2 ≠ 0 then ((getR b 3).2.2, []) else if 512 < (getR b 3).1 then (14, []) else loopP b base (getR b 3).1.toNat [] (getR b 3).2.1.toNat
theorem body_form {b : List UInt8} {base : BaseM} (h : b.take 3 ≠ markL) : bodyP b base = (4, []) := by unfold bodyP; exact if_pos h
theorem body_err {b : List UInt8} {base : BaseM} {e : Int} (h : b.take 3 = markL) (hg : getR b 3 = (0, 0, e)) (he : e ≠ 0) : bodyP b base = (e, []) := by unfold bodyP; rw [if_neg (by simp [h]), hg]; exact if_pos he
theorem body_limit {b : List UInt8} {base : BaseM} {n q : Int} (h : b.take 3 = markL) (hg : getR b 3 = (n, q, 0)) (hn : 512 < n) : bodyP b base = (14, []) := by
 unfold bodyP; rw [if_neg (by simp [h]), hg]; rw [if_neg (by simp)]; exact if_pos hn
theorem body_loop {b : List UInt8} {base : BaseM} {n q : Nat} (h : b.take 3 = markL) (hg : getR b 3 = ((n : Int), (q : Int), 0)) (hn : n ≤ 512) : bodyP b base = loopP b base n [] q := by
 unfold bodyP; rw [if_neg (by simp [h]), hg]; rw [if_neg (by simp)]; rw [if_neg (by simp only; omega)]; simp
def readP (bs : List UInt8) (base : BaseM) : Int × List EntM :=
 if bs.length < 36 then (2, []) else if bs.drop (bs.length - 32) ≠ sumOf (bs.take (bs.length - 32)) then (5, []) else bodyP (bs.take (bs.length - 32)) base
theorem read_short {bs : List UInt8} {base : BaseM} (h : bs.length < 36) : readP bs base = (2, []) := by unfold readP; exact if_pos h
theorem read_sum {bs : List UInt8} {base : BaseM} (h : 36 ≤ bs.length) (hs : bs.drop (bs.length - 32) ≠ sumOf (bs.take (bs.length - 32))) : readP bs base = (5, []) := by unfold readP; rw [if_neg (by omega)]; exact if_pos hs
theorem read_body {bs : List UInt8} {base : BaseM} (h : 36 ≤ bs.length) (hs : bs.drop (bs.length - 32) = sumOf (bs.take (bs.length - 32))) : readP bs base = bodyP (bs.take (bs.length - 32)) base := by
 unfold readP; rw [if_neg (by omega), if_neg (by simp [hs])]
theorem run_le (base d : List UInt8) (most : Nat) : ∀ (f k : Nat) (out : List UInt8), out.length ≤ most → (runD base d most f k out).1.length ≤ most := by
 intro f
 induction f with
 | zero => intro k out h; simp [runD]
 | succ f ih =>
  intro k out h
  by_cases hk : k < d.length
  ·rcases step_cases base d k hk with ⟨e, hs, h1, h2⟩ | ⟨p, q, hs, h1, h2, h3⟩
   ·rw [run_err hk hs (by omega)]; simp
   ·by_cases hl : out.length + p.length ≤ most
    ·rw [run_on hk hs hl]; exact ih _ _ (by simp; omega)
    ·rw [run_long hk hs (by omega)]; simp
  ·rw [run_end (by omega)]
   split
   ·simp
   ·exact h
theorem apply_le (base d : List UInt8) : (applyD base d).1.length ≤ 20000 := by
 rcases two_cases d 0 (Nat.zero_le _) with ⟨e, h, he⟩ | ⟨a, b, h, hq, ha, hb⟩
 ·have h : two d 0 = (0, 0, 0, e) := h
  rw [apply_err h (by omega)]; simp
 ·have h : two d 0 = ((a : Int), (b : Int), ((0 + (putL a).length + (putL b).length : Nat) : Int), 0) := h
  by_cases h1 : (a : Int) = (base.length : Int)
  ·by_cases h2 : 20000 < (b : Int)
   ·rw [apply_long h h1 h2]; simp
   ·rw [h1] at h
    rw [apply_run h (by omega)]
    exact Nat.le_trans (run_le _ _ _ _ _ _ (by simp)) (by omega)
  ·rw [apply_sum h h1]; simp
theorem by_le (b x : List UInt8) (k : Nat) (hk : k ≤ b.length) : (byP b x k).2.1.length ≤ 20000 ∧ (byP b x k).2.2 ≤ b.length := by
 rcases getR_cases b k hk with ⟨e, h, he⟩ | ⟨n, h, hl, hn, _⟩
 ·rw [by_err h (by omega)]; simp
 ·by_cases hs : k + (putL n).length + n ≤ b.length
  ·rw [by_ok h hs]; exact ⟨apply_le _ _, hs⟩
  ·rw [by_short h (by omega)]; simp
theorem whole_le (b : List UInt8) (k : Nat) (hk : k ≤ b.length) : (wholeP b k).2.1.length ≤ 20000 ∧ (wholeP b k).2.2.2 ≤ b.length ∧ (wholeP b k).2.2.1 ≤ 8 := by
 rcases getR_cases b k hk with ⟨e, h, he⟩ | ⟨n, h, hl, hn, _⟩
 ·rw [whole_err h (by omega)]; simp
 ·by_cases hm : n ≤ 20000
  ·by_cases hs : k + (putL n).length + n ≤ b.length
   ·rw [whole_ok h hm hs]; simp; omega
   ·rw [whole_short h (by omega) (by omega)]; simp
  ·rw [whole_long h (by omega)]; simp
theorem ahead_le (b : List UInt8) (read : List EntM) (k : Nat) (hk : k ≤ b.length) : (aheadP b read k).2.1.length ≤ 20000 ∧ (aheadP b read k).2.2.2 ≤ b.length ∧ (aheadP b read k).2.2.1 ≤ 8 := by
 rcases getR_cases b k hk with ⟨e, h, he⟩ | ⟨n, h, hl, hn, _⟩
 ·rw [ahead_err h (by omega)]; simp
 ·by_cases hz : n = 0 ∨ read.length < n
  ·rw [ahead_none h (by omega)]; simp
  ·have hx : read[read.length - n]? = some (read[read.length - n]'(by omega)) := List.getElem?_eq_getElem _
   by_cases hd : (read[read.length - n]'(by omega)).depth < 8
   ·rw [ahead_by h (by omega) (by omega) hx hd]
    have := by_le b (read[read.length - n]'(by omega)).data _ hl
    exact ⟨this.1, this.2, by simp only; omega⟩
   ·rw [ahead_deep h (by omega) (by omega) hx (by omega)]; simp
theorem else_le (b : List UInt8) (base : BaseM) (k : Nat) : (elseP b base k).2.1.length ≤ 20000 ∧ (elseP b base k).2.2.2 ≤ b.length ∧ (elseP b base k).2.2.1 ≤ 8 := by
 by_cases hk : k + 32 ≤ b.length
 ·cases hb : base (hexL ((b.drop k).take 32)) with
  | none => rw [else_none hk hb]; simp
  | some x =>
   by_cases hi : idB x = hexL ((b.drop k).take 32)
   ·rw [else_by hk hb hi]
    have := by_le b x _ hk
    exact ⟨this.1, this.2, by simp⟩
   ·rw [else_sum hk hb hi]; simp
 ·rw [else_short (by omega)]; simp
theorem bytes_le (b : List UInt8) (base : BaseM) (read : List EntM) (k : Nat) : (bytesP b base read k).2.1.length ≤ 20000 ∧ (bytesP b base read k).2.2.2 ≤ b.length ∧ (bytesP b base read k).2.2.1 ≤ 8 := by
 by_cases hk : k < b.length
 ·by_cases h0 : b.getD k 0 = 0
  ·rw [bytes_0 hk h0]; exact whole_le b _ hk
  ·by_cases h1 : b.getD k 0 = 1
   ·rw [bytes_1 hk h1]; exact ahead_le b read _ hk
   ·by_cases h2 : b.getD k 0 = 2
    ·rw [bytes_2 hk h2]; exact else_le b base _
    ·rw [bytes_form hk h0 h1 h2]; simp
 ·rw [bytes_short (by omega)]; simp
theorem one_le (b : List UInt8) (base : BaseM) (read : List EntM) (k : Nat) : (oneP b base read k).2.1.length ≤ 20000 ∧ (oneP b base read k).2.2.2 ≤ b.length ∧ (oneP b base read k).2.2.1 ≤ 8 := by
 have := bytes_le b base read k
 unfold oneP
 split
 ·exact this
 ·split
  ·exact this
  ·simp
def EntsOk (b : List UInt8) (read : List EntM) : Prop := ∀ e ∈ read, e.data.length ≤ 20000 ∧ e.place ≤ b.length ∧ e.depth ≤ 8
theorem EntsOk.nil_ (b : List UInt8) : EntsOk b [] := fun e h => by simp at h
end Go.Proofs.YtpfjlhpahmhkhaaGreat.Ob
/- Packs that are written: plain lists, no Go in it. -/
set_option linter.unusedVariables false
set_option linter.unusedSimpArgs false
namespace Go.Proofs.YtpfjlhpahmhkhaaGreat.Ob
open Go.Proofs.YtpfjlhpahmhkhaaGreat.Sh
def nearP (l : List (List UInt8)) (ds : List Nat) (o : List UInt8) : Nat → Option Nat
 | 0 => none
 | i + 1 => if (l.getD i []).getD 0 0 = o.getD 0 0 ∧ ds.getD i 0 < 8 then some i else nearP l ds o i
theorem near_hit {l : List (List UInt8)} {ds : List Nat} {o : List UInt8} {i : Nat} (h : (l.getD i []).getD 0 0 = o.getD 0 0) (hd : ds.getD i 0 < 8) : nearP l ds o (i + 1) = some i := by rw [nearP, if_pos ⟨h, hd⟩]
theorem near_miss {l : List (List UInt8)} {ds : List Nat} {o : List UInt8} {i : Nat} (h : ¬ ((l.getD i []).getD 0 0 = o.getD 0 0 ∧ ds.getD i 0 < 8)) : nearP l ds o (i + 1) = nearP l ds o i := by rw [nearP, if_neg h]
theorem near_some {l : List (List UInt8)} {ds : List Nat} {o : List UInt8} : ∀ {i k : Nat}, nearP l ds o i = some k → k < i ∧ (l.getD k []).getD 0 0 = o.getD 0 0 ∧ ds.getD k 0 < 8
 | 0, k, h => by cases h
 | i + 1, k, h => by
  rw [nearP] at h
  split at h
  ·rename_i hh
   injection h with h
   subst h
   exact ⟨by omega, hh.1, hh.2⟩
  ·have := near_some h
   exact ⟨by omega, this.2⟩
def wholeE (o : List UInt8) : List UInt8 := 0 :: (putL o.length ++ o)
def aheadE (back : Nat) (d : List UInt8) : List UInt8 := 1 :: (putL back ++ (putL d.length ++ d))
def putP (l : List (List UInt8)) (ds : List Nat) (i : Nat) : List UInt8 × Nat :=
 match nearP l ds (l.getD i []) i with
 | none => (wholeE (l.getD i []), 0)
 | some k => if (makeD (l.getD k []) (l.getD i [])).length < (l.getD i []).length then (aheadE (i - k) (makeD (l.getD k []) (l.getD i [])), ds.getD k 0 + 1) else (wholeE (l.getD i []), 0)
theorem put_none {l : List (List UInt8)} {ds : List Nat} {i : Nat} (h : nearP l ds (l.getD i []) i = none) : putP l ds i = (wholeE (l.getD i []), 0) := by unfold putP; rw [h]
theorem put_ahead {l : List (List UInt8)} {ds : List Nat} {i k : Nat} (h : nearP l ds (l.getD i []) i = some k) (hl : (makeD (l.getD k []) (l.getD i [])).length < (l.getD i []).length) :
  putP l ds i = (aheadE (i - k) (makeD (l.getD k []) (l.getD i [])), ds.getD k 0 + 1) := by unfold putP; rw [h]; exact if_pos hl
theorem put_whole {l : List (List UInt8)} {ds : List Nat} {i k : Nat} (h : nearP l ds (l.getD i []) i = some k) (hl : ¬ (makeD (l.getD k []) (l.getD i [])).length < (l.getD i []).length) :
  putP l ds i = (wholeE (l.getD i []), 0) := by unfold putP; rw [h]; exact if_neg hl
def writesP (l : List (List UInt8)) : Nat → List UInt8 × List Nat
 | 0 => (markL ++ putL l.length, [])
 | i + 1 => ((writesP l i).1 ++ (putP l (writesP l i).2 i).1, (writesP l i).2 ++ [(putP l (writesP l i).2 i).2])
theorem writes_depths (l : List (List UInt8)) : ∀ i, (writesP l i).2.length = i
 | 0 => rfl
 | i + 1 => by show ((_ : List Nat) ++ _).length = _; rw [List.length_append, writes_depths l i]; rfl
def writeP (l : List (List UInt8)) : Int × List UInt8 :=
 if 512 < l.length then (14, []) else if ∃ o ∈ l, 20000 < o.length then (3, []) else if ∃ o ∈ l, decB o = false then (4, []) else (0, (writesP l l.length).1 ++ sumOf (writesP l l.length).1)
theorem write_limit {l : List (List UInt8)} (h : 512 < l.length) : writeP l = (14, []) := by unfold writeP; exact if_pos h
theorem write_long {l : List (List UInt8)} (h : l.length ≤ 512) (hl : ∃ o ∈ l, 20000 < o.length) : writeP l = (3, []) := by unfold writeP; rw [if_neg (by omega)]; exact if_pos hl
theorem write_form {l : List (List UInt8)} (h : l.length ≤ 512) (hl : ∀ o ∈ l, o.length ≤ 20000) (hf : ∃ o ∈ l, decB o = false) : writeP l = (4, []) := by
 unfold writeP; rw [if_neg (by omega), if_neg (by rintro ⟨o, ho, h2⟩; have := hl o ho; omega)]; exact if_pos hf
theorem write_ok {l : List (List UInt8)} (h : l.length ≤ 512) (hl : ∀ o ∈ l, o.length ≤ 20000) (hf : ∀ o ∈ l, decB o = true) : writeP l = (0, (writesP l l.length).1 ++ sumOf (writesP l l.length).1) := by
 unfold writeP
 rw [if_neg (by omega), if_neg (by rintro ⟨o, ho, h2⟩; have := hl o ho; omega), if_neg (by rintro ⟨o, ho, h2⟩; rw [hf o ho] at h2; cases h2)]
theorem write_cases (l : List (List UInt8)) : 512 < l.length ∧ writeP l = (14, []) ∨ (l.length ≤ 512 ∧ (∃ o ∈ l, 20000 < o.length) ∧ writeP l = (3, [])) ∨
  (l.length ≤ 512 ∧ (∀ o ∈ l, o.length ≤ 20000) ∧ (∃ o ∈ l, decB o = false) ∧ writeP l = (4, [])) ∨
  (l.length ≤ 512 ∧ (∀ o ∈ l, o.length ≤ 20000) ∧ (∀ o ∈ l, decB o = true) ∧ writeP l = (0, (writesP l l.length).1 ++ sumOf (writesP l l.length).1)) := by
 by_cases h : 512 < l.length
 ·exact .inl ⟨h, write_limit h⟩
 ·by_cases hl : ∃ o ∈ l, 20000 < o.length
  ·exact .inr (.inl ⟨by omega, hl, write_long (by omega) hl⟩)
  ·have hl' : ∀ o ∈ l, o.length ≤ 20000 := fun o ho => Nat.le_of_not_lt fun h2 => hl ⟨o, ho, h2⟩
   by_cases hf : ∃ o ∈ l, decB o = false
   ·exact .inr (.inr (.inl ⟨by omega, hl', hf, write_form (by omega) hl' hf⟩))
   ·have hf' : ∀ o ∈ l, decB o = true := fun o ho => by
     cases hd : decB o with
     | true => rfl
     | false => exact absurd ⟨o, ho, hd⟩ hf
    exact .inr (.inr (.inr ⟨by omega, hl', hf', write_ok (by omega) hl' hf'⟩))
def entsP (l : List (List UInt8)) : Nat → List EntM
 | 0 => []
 | i + 1 => entsP l i ++ [⟨l.getD i [], (writesP l i).1.length, (putP l (writesP l i).2 i).2⟩]
end Go.Proofs.YtpfjlhpahmhkhaaGreat.Ob
/- What the laws of packs have in memory: lists of lists of bytes, objects that were read, rows; the reader. -/
set_option linter.unusedVariables false
set_option linter.unusedSimpArgs false
namespace Go.Proofs.YtpfjlhpahmhkhaaGreat.Ob
open Go.RowKit Go.Proofs.YtpfjlhpahmhkhaaGreat.Sh
open Go.Proofs.YtpfjlhpahmhkhaaGreat.Tx (Shape InL TmpL OwnL Typed Only By Rd Datas list_appendL step_appendL)
def entK : Shape where
 α := EntM
 cells := fun e d => [d, .int .i64 (e.place : Int), .int .i64 (e.depth : Int)]
 data := fun e => e.data
 m := 3
 pos := by decide
 len := fun _ _ => rfl
 one := fun a d hd u hu => by
  simp only [List.mem_cons, List.not_mem_nil, or_false] at hu
  rcases hu with rfl | rfl | rfl
  ·exact hd
  ·rfl
  ·rfl
def rowK : Shape where
 α := EntM
 cells := fun e _ => [.string (str (idB e.data)), .int .i64 (e.place : Int), .int .i64 (e.depth : Int)]
 data := fun _ => []
 m := 3
 pos := by decide
 len := fun _ _ => rfl
 one := fun a d hd u hu => by
  simp only [List.mem_cons, List.not_mem_nil, or_false] at hu
  rcases hu with rfl | rfl | rfl <;> rfl
theorem typed_ent : Typed Tryz.prog entK 176 172 (.agg #[.slice none 0 0, .int .i64 0, .int .i64 0]) 40 := ⟨by kernel_rfl, Tryz.underlying172, rfl, by decide⟩
theorem typed_row : Typed Tryz.prog rowK 64 55 (.agg #[.string ⟨#[]⟩, .int .i64 0, .int .i64 0]) 32 := ⟨by kernel_rfl, Tryz.underlying55, rfl, by decide⟩
theorem typed_rrow : Typed Tryz.prog rowK 65 58 (.agg #[.string ⟨#[]⟩, .int .i64 0, .int .i64 0]) 32 := ⟨by kernel_rfl, Tryz.underlying58, rfl, by decide⟩
def RwV (w : World) (v : Value) (l : List EntM) : Prop := TmpL rowK (fun _ => True) w v l
theorem RwV.below {w w' : World} {v : Value} {l : List EntM} (h : RwV w v l) (hb : Below w.heap.size w w') : RwV w' v l := TmpL.below (K := rowK) h hb
theorem RwV.slice {w : World} {v : Value} {l : List EntM} (h : RwV w v l) : ∃ A c, v = .slice A l.length c ∧ l.length ≤ c ∧ c ≤ maxLen := TmpL.slice (K := rowK) h
theorem RwV.nil_ (w : World) : RwV w (.slice none 0 0) [] := ⟨[], Rd.nil_ _ w _, Datas.nil_⟩
theorem RwV.at_ {w : World} {A : Option Addr} {n c : Nat} {l : List EntM} (h : RwV w (.slice A n c) l) (k : Nat) (a : EntM) (hk : l[k]? = some a) : ∃ (ad : Addr), A = some ad ∧ w.cell? (ad.add (k * 3)) = some (.string (str (idB a.data))) ∧
  w.cell? ⟨(ad.add (k * 3)).block, (ad.add (k * 3)).off + 1, none⟩ = some (.int .i64 (a.place : Int)) ∧ w.cell? ⟨(ad.add (k * 3)).block, (ad.add (k * 3)).off + 2, none⟩ = some (.int .i64 (a.depth : Int)) := by
 obtain ⟨ad, d, hA, hby, hc⟩ := TmpL.at_ (K := rowK) h k a hk
 refine ⟨ad, hA, ?_, ?_, ?_⟩
 ·exact hc 0 _ rfl
 ·have := hc 1 _ rfl
  rw [show rowK.m = 3 from rfl, Tx.add_field _ _ 1 (by omega)] at this
  exact this
 ·have := hc 2 _ rfl
  rw [show rowK.m = 3 from rfl, Tx.add_field _ _ 2 (by omega)] at this
  exact this
structure PrAt (w0 w : World) (F : Nat → Prop) (p : Nat) (vb fv : Value) (k : Nat) (vr : Value) (read : List EntM) : Prop where
 blk : Blk w p 271 #[vb, .int .i64 (k : Int), fv, vr]
 old : Below w0.heap.size w0 w
 pz : w0.heap.size ≤ p
 own : OwnL entK 176 F w w0.heap.size vr read
 fp : ¬ F p
 vp : ∀ k, vr.ownBlock = some k → k ≠ p
 fz : ∀ k, F k → w0.heap.size ≤ k ∧ k < w.heap.size
section
variable {w0 w w' : World} {F : Nat → Prop} {p : Nat} {vb fv vr : Value} {k : Nat} {read : List EntM}
theorem PrAt.below (h : PrAt w0 w F p vb fv k vr read) (hb : Below w.heap.size w w') : PrAt w0 w' F p vb fv k vr read where
 blk := h.blk.below hb h.blk.lt
 old := h.old.trans (hb.mono h.old.size)
 pz := h.pz
 own := h.own.only (M := fun _ => False) (Only.of_below hb) (fun _ _ => id) (fun _ _ => id)
 fp := h.fp
 vp := h.vp
 fz := fun k hk => ⟨(h.fz k hk).1, Nat.lt_of_lt_of_le (h.fz k hk).2 hb.size⟩
theorem PrAt.setAt (h : PrAt w0 w F p vb fv k vr read) (k' : Nat) : PrAt w0 (w.setCell ⟨p, 1, none⟩ (.int .i64 (k' : Int))) F p vb fv k' vr read where
 blk := h.blk.set_ 1 _
 old := ((Only.of_below (M := fun _ => False) h.old).set_ (.inr h.pz) _).below
 pz := h.pz
 own := h.own.only ((Only.refl (fun j => j = p) w).set_ (g := p) (i := 1) (Or.inl rfl) _) (fun j hj e => h.fp (e ▸ hj)) (fun j hj e => h.vp j hj e)
 fp := h.fp
 vp := h.vp
 fz := fun k hk => ⟨(h.fz k hk).1, by simpa using (h.fz k hk).2⟩
theorem PrAt.lt (h : PrAt w0 w F p vb fv k vr read) : p < w.heap.size := h.blk.lt
theorem PrAt.size (h : PrAt w0 w F p vb fv k vr read) : w0.heap.size ≤ w.heap.size := h.old.size
theorem PrAt.slice (h : PrAt w0 w F p vb fv k vr read) : ∃ A c, vr = .slice A read.length c ∧ read.length ≤ c ∧ c ≤ maxLen := TmpL.slice (K := entK) h.own.tmp
theorem PrAt.ent {A : Option Addr} {n c : Nat} (h : PrAt w0 w F p vb fv k (.slice A n c) read) (i : Nat) (a : EntM) (hk : read[i]? = some a) : ∃ (ad : Addr) (A2 : Option Addr) (c2 : Nat), A = some ad ∧ w.cell? (ad.add (i * 3)) = some (.slice A2 a.data.length c2) ∧
  w.cell? ⟨(ad.add (i * 3)).block, (ad.add (i * 3)).off + 1, none⟩ = some (.int .i64 (a.place : Int)) ∧ w.cell? ⟨(ad.add (i * 3)).block, (ad.add (i * 3)).off + 2, none⟩ = some (.int .i64 (a.depth : Int)) ∧ a.data.length ≤ c2 ∧ c2 ≤ maxLen ∧ By F w (.slice A2 a.data.length c2) a.data := by
 obtain ⟨ad, d, hA, hby, hc⟩ := TmpL.at_ (K := entK) h.own.tmp i a hk
 obtain ⟨A2, c2, e2, h1, h2⟩ := Tx.By.slice hby
 have e3 : d = .slice A2 a.data.length c2 := e2
 subst e3
 refine ⟨ad, A2, c2, hA, hc 0 _ rfl, ?_, ?_, h1, h2, hby⟩
 ·have := hc 1 _ rfl
  rw [show entK.m = 3 from rfl, Tx.add_field _ _ 1 (by omega)] at this
  exact this
 ·have := hc 2 _ rfl
  rw [show entK.m = 3 from rfl, Tx.add_field _ _ 2 (by omega)] at this
  exact this
theorem PrAt.push {w1 w2 : World} {vr' : Value} {e : EntM} {F' : Nat → Prop} (h : PrAt w0 w1 F p vb fv k vr read) (hF : ∀ k, F' k → F k ∨ (w0.heap.size ≤ k ∧ k < w1.heap.size ∧ k ≠ p))
  (ho : OwnL entK 176 F' w2 w0.heap.size vr' (read ++ [e])) (hg : w1.grownBy w2 vr.ownBlock) (hv : vr'.ownBlock = vr.ownBlock ∨ vr'.ownBlock = some w1.heap.size) :
  PrAt w0 (w2.setCell ⟨p, 3, none⟩ vr') F' p vb fv k vr' (read ++ [e]) := by
 have hfp : ¬ F' p := fun hf => by
  rcases hF p hf with h1 | h1
  ·exact h.fp h1
  ·exact h1.2.2 rfl
 have hvp : ∀ k, vr'.ownBlock = some k → k ≠ p := fun k hk e => by
  rcases hv with hv | hv
  ·exact h.vp k (hv ▸ hk) e
  ·rw [hv] at hk
   injection hk with hk
   have := h.lt
   omega
 have hb2 : Blk w2 p 271 #[vb, .int .i64 (k : Int), fv, vr] := h.blk.grown hg (fun e => h.vp p e.symm rfl)
 have ho2 : Below w0.heap.size w0 w2 := h.old.trans ((Below.refl _ _).grown hg h.size (fun g hg' => (h.own.lt g hg').1))
 exact {
  blk := hb2.set_ 3 _
  old := ((Only.of_below (M := fun _ => False) ho2).set_ (.inr h.pz) _).below
  pz := h.pz
  own := ho.only ((Only.refl (fun j => j = p) w2).set_ (g := p) (i := 3) (Or.inl rfl) _) (fun j hj e => hfp (e ▸ hj)) (fun j hj e => hvp j hj e)
  fp := hfp
  vp := hvp
  fz := fun k hk => by
   have hz : w1.heap.size ≤ w2.heap.size := hg.size
   have hz2 : (w2.setCell ⟨p, 3, none⟩ vr').heap.size = w2.heap.size := by simp
   rw [hz2]
   rcases hF k hk with h1 | h1
   ·have := h.fz k h1; omega
   ·omega }
end
end Go.Proofs.YtpfjlhpahmhkhaaGreat.Ob
