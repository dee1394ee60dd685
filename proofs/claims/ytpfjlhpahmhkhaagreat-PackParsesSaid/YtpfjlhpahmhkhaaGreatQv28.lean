/- Texts put together: VShDl0. -/
import Derived.Test.YtpfjlhpahmhkhaaGreatQv12
/- Deltas: plain lists, no Go in it. -/
set_option linter.unusedVariables false
set_option linter.unusedSimpArgs false
namespace Go.Proofs.YtpfjlhpahmhkhaaGreat.Sh
theorem getE_cases (t : List UInt8) : getE t = (0, 0, 2) ∨ getE t = (0, 0, 4) ∨
  ∃ n, getE t = (n, (putL n).length, 0) ∧ (putL n).length ≤ t.length ∧ n ≤ 72057594037927936 ∧ t.take (putL n).length = putL n := by
 by_cases h : cont t = t.length
 ·exact .inl (getE_short h)
 ·have hlt : cont t < t.length := by have := cont_le t; omega
  obtain ⟨_, hgl⟩ := cont_take hlt
  cases ho : okL (t.take (cont t + 1)) with
  | false => exact .inr (.inl (getE_form hlt ho))
  | true =>
   refine .inr (.inr ⟨valL (t.take (cont t + 1)), ?_⟩)
   have ho' := ho
   unfold okL at ho'
   rw [Bool.and_eq_true, beq_iff_eq, decide_eq_true_eq] at ho'
   have hl : (putL (valL (t.take (cont t + 1)))).length = cont t + 1 := by rw [ho'.1, hgl]
   rw [hl]
   exact ⟨getE_ok hlt ho, by omega, ho'.2, ho'.1.symm⟩
theorem getR_cases (bs : List UInt8) (k : Nat) (hk : k ≤ bs.length) : (∃ e : Int, getR bs (k : Int) = (0, 0, e) ∧ (e = 2 ∨ e = 4)) ∨
  ∃ n : Nat, getR bs (k : Int) = ((n : Int), ((k + (putL n).length : Nat) : Int), 0) ∧ k + (putL n).length ≤ bs.length ∧ n ≤ 72057594037927936 ∧ (bs.drop k).take (putL n).length = putL n := by
 rw [getR_in hk]
 rcases getE_cases (bs.drop k) with h | h | ⟨n, h, hl, hn, ht⟩
 ·left; exact ⟨2, by rw [h]; rfl, .inl rfl⟩
 ·left; exact ⟨4, by rw [h]; rfl, .inr rfl⟩
 ·right
  rw [List.length_drop] at hl
  exact ⟨n, by rw [h]; simp, by omega, hn, ht⟩
def two (bs : List UInt8) (k : Int) : Int × Int × Int × Int :=
 if (getR bs k).2.2 = 0 then
  (if (getR bs (getR bs k).2.1).2.2 = 0 then ((getR bs k).1, (getR bs (getR bs k).2.1).1, (getR bs (getR bs k).2.1).2.1, 0) else (0, 0, 0, (getR bs (getR bs k).2.1).2.2))
 else (0, 0, 0, (getR bs k).2.2)
theorem two_fst {bs : List UInt8} {k e : Int} (h : getR bs k = (0, 0, e)) (he : e ≠ 0) : two bs k = (0, 0, 0, e) := by unfold two; rw [h]; exact if_neg he
theorem two_snd {bs : List UInt8} {k a p e : Int} (h : getR bs k = (a, p, 0)) (h2 : getR bs p = (0, 0, e)) (he : e ≠ 0) : two bs k = (0, 0, 0, e) := by
 unfold two; rw [h]; rw [if_pos rfl]; show (if (getR bs p).2.2 = 0 then _ else _) = _; rw [h2]; exact if_neg he
theorem two_ok {bs : List UInt8} {k a p b q : Int} (h : getR bs k = (a, p, 0)) (h2 : getR bs p = (b, q, 0)) : two bs k = (a, b, q, 0) := by
 unfold two; rw [h]; rw [if_pos rfl]; show (if (getR bs p).2.2 = 0 then _ else _) = _; rw [h2]; exact if_pos rfl
theorem two_cases (bs : List UInt8) (k : Nat) (hk : k ≤ bs.length) : (∃ e : Int, two bs (k : Int) = (0, 0, 0, e) ∧ (e = 2 ∨ e = 4)) ∨
  ∃ a b : Nat, two bs (k : Int) = ((a : Int), (b : Int), ((k + (putL a).length + (putL b).length : Nat) : Int), 0) ∧ k + (putL a).length + (putL b).length ≤ bs.length ∧ a ≤ 72057594037927936 ∧ b ≤ 72057594037927936 := by
 rcases getR_cases bs k hk with ⟨e, h, he⟩ | ⟨a, h, hl, ha, _⟩
 ·exact .inl ⟨e, two_fst h (by omega), he⟩
 ·rcases getR_cases bs _ hl with ⟨e, h2, he⟩ | ⟨b, h2, hl2, hb, _⟩
  ·exact .inl ⟨e, two_snd h h2 (by omega), he⟩
  ·exact .inr ⟨a, b, two_ok h h2, hl2, ha, hb⟩
def stepD (base d : List UInt8) (k : Nat) : List UInt8 × Int × Int :=
 if d.getD k 0 = 1 then
  (if (two d ((k + 1 : Nat) : Int)).2.2.2 ≠ 0 then ([], 0, (two d ((k + 1 : Nat) : Int)).2.2.2) else if (two d ((k + 1 : Nat) : Int)).2.1 = 0 then ([], 0, 4) else
   if (base.length : Int) < (two d ((k + 1 : Nat) : Int)).1 + (two d ((k + 1 : Nat) : Int)).2.1 then ([], 0, 1) else
    ((base.drop (two d ((k + 1 : Nat) : Int)).1.toNat).take (two d ((k + 1 : Nat) : Int)).2.1.toNat, (two d ((k + 1 : Nat) : Int)).2.2.1, 0))
 else if d.getD k 0 = 2 then
  (if (getR d ((k + 1 : Nat) : Int)).2.2 ≠ 0 then ([], 0, (getR d ((k + 1 : Nat) : Int)).2.2) else if (getR d ((k + 1 : Nat) : Int)).1 = 0 then ([], 0, 4) else
   if (d.length : Int) - (getR d ((k + 1 : Nat) : Int)).2.1 < (getR d ((k + 1 : Nat) : Int)).1 then ([], 0, 2) else
    ((d.drop (getR d ((k + 1 : Nat) : Int)).2.1.toNat).take (getR d ((k + 1 : Nat) : Int)).1.toNat, (getR d ((k + 1 : Nat) : Int)).2.1 + (getR d ((k + 1 : Nat) : Int)).1, 0))
 else ([], 0, 4)
theorem step_none {base d : List UInt8} {k : Nat} (h1 : d.getD k 0 ≠ 1) (h2 : d.getD k 0 ≠ 2) : stepD base d k = ([], 0, 4) := by unfold stepD; rw [if_neg h1, if_neg h2]
theorem copy_err {base d : List UInt8} {k : Nat} (h1 : d.getD k 0 = 1) {e : Int} (h : two d ((k + 1 : Nat) : Int) = (0, 0, 0, e)) (he : e ≠ 0) : stepD base d k = ([], 0, e) := by
 unfold stepD; rw [if_pos h1, h]; exact if_pos he
theorem copy_zero {base d : List UInt8} {k : Nat} (h1 : d.getD k 0 = 1) {a q : Int} (h : two d ((k + 1 : Nat) : Int) = (a, 0, q, 0)) : stepD base d k = ([], 0, 4) := by
 unfold stepD; rw [if_pos h1, h]; rfl
theorem copy_range {base d : List UInt8} {k : Nat} (h1 : d.getD k 0 = 1) {a b q : Int} (h : two d ((k + 1 : Nat) : Int) = (a, b, q, 0)) (hb : b ≠ 0) (hr : (base.length : Int) < a + b) : stepD base d k = ([], 0, 1) := by
 unfold stepD; rw [if_pos h1, h]; rw [if_neg (by simp)]; rw [if_neg hb]; exact if_pos hr
theorem copy_ok {base d : List UInt8} {k : Nat} (h1 : d.getD k 0 = 1) {a b : Nat} {q : Int} (h : two d ((k + 1 : Nat) : Int) = ((a : Int), (b : Int), q, 0)) (hb : b ≠ 0) (hr : a + b ≤ base.length) :
  stepD base d k = ((base.drop a).take b, q, 0) := by
 unfold stepD; rw [if_pos h1, h]; rw [if_neg (by simp)]; rw [if_neg (by simpa using hb)]; exact if_neg (by simp only; omega)
theorem ins_err {base d : List UInt8} {k : Nat} (h2 : d.getD k 0 = 2) {e : Int} (h : getR d ((k + 1 : Nat) : Int) = (0, 0, e)) (he : e ≠ 0) : stepD base d k = ([], 0, e) := by
 unfold stepD; rw [if_neg (by rw [h2]; decide), if_pos h2, h]; exact if_pos he
theorem ins_zero {base d : List UInt8} {k : Nat} (h2 : d.getD k 0 = 2) {q : Int} (h : getR d ((k + 1 : Nat) : Int) = (0, q, 0)) : stepD base d k = ([], 0, 4) := by
 unfold stepD; rw [if_neg (by rw [h2]; decide), if_pos h2, h]; rfl
theorem ins_short {base d : List UInt8} {k : Nat} (h2 : d.getD k 0 = 2) {n q : Int} (h : getR d ((k + 1 : Nat) : Int) = (n, q, 0)) (hn : n ≠ 0) (hr : (d.length : Int) - q < n) : stepD base d k = ([], 0, 2) := by
 unfold stepD; rw [if_neg (by rw [h2]; decide), if_pos h2, h]; rw [if_neg (by simp)]; rw [if_neg hn]; exact if_pos hr
theorem ins_ok {base d : List UInt8} {k : Nat} (h2 : d.getD k 0 = 2) {n q : Nat} (h : getR d ((k + 1 : Nat) : Int) = ((n : Int), (q : Int), 0)) (hn : n ≠ 0) (hr : q + n ≤ d.length) :
  stepD base d k = ((d.drop q).take n, ((q + n : Nat) : Int), 0) := by
 unfold stepD; rw [if_neg (by rw [h2]; decide), if_pos h2, h]; rw [if_neg (by simp)]; rw [if_neg (by simpa using hn)]; rw [if_neg (by simp only; omega)]; simp
theorem step_cases (base d : List UInt8) (k : Nat) (hk : k < d.length) : (∃ e : Int, stepD base d k = ([], 0, e) ∧ 1 ≤ e ∧ e ≤ 4) ∨
  ∃ (p : List UInt8) (q : Nat), stepD base d k = (p, (q : Int), 0) ∧ k < q ∧ q ≤ d.length ∧ 0 < p.length := by
 by_cases h1 : d.getD k 0 = 1
 ·rcases two_cases d (k + 1) hk with ⟨e, h, he⟩ | ⟨a, b, h, hl, ha, hb⟩
  ·exact .inl ⟨e, copy_err h1 h (by omega), by omega, by omega⟩
  ·by_cases hz : b = 0
   ·subst hz; exact .inl ⟨4, copy_zero h1 h, by omega, by omega⟩
   ·by_cases hr : a + b ≤ base.length
    ·exact .inr ⟨_, _, copy_ok h1 h hz hr, by omega, hl, by simp; omega⟩
    ·exact .inl ⟨1, copy_range h1 h (by omega) (by omega), by omega, by omega⟩
 ·by_cases h2 : d.getD k 0 = 2
  ·rcases getR_cases d (k + 1) hk with ⟨e, h, he⟩ | ⟨n, h, hl, hn, _⟩
   ·exact .inl ⟨e, ins_err h2 h (by omega), by omega, by omega⟩
   ·by_cases hz : n = 0
    ·subst hz; exact .inl ⟨4, ins_zero h2 h, by omega, by omega⟩
    ·by_cases hr : k + 1 + (putL n).length + n ≤ d.length
     ·exact .inr ⟨_, _, ins_ok h2 h hz hr, by omega, hr, by simp; omega⟩
     ·exact .inl ⟨2, ins_short h2 h (by omega) (by omega), by omega, by omega⟩
  ·exact .inl ⟨4, step_none h1 h2, by omega, by omega⟩
def runD (base d : List UInt8) (most : Nat) : Nat → Nat → List UInt8 → List UInt8 × Int
 | 0, _, _ => ([], 0)
 | f + 1, k, out =>
  if d.length ≤ k then (if out.length < most then ([], 2) else (out, 0)) else
   if (stepD base d k).2.2 ≠ 0 then ([], (stepD base d k).2.2) else
    if most < out.length + (stepD base d k).1.length then ([], 3) else runD base d most f (stepD base d k).2.1.toNat (out ++ (stepD base d k).1)
theorem run_end {base d : List UInt8} {most f k : Nat} {out : List UInt8} (h : d.length ≤ k) : runD base d most (f + 1) k out = if out.length < most then ([], 2) else (out, 0) := by rw [runD, if_pos h]
theorem run_err {base d : List UInt8} {most f k : Nat} {out : List UInt8} (h : k < d.length) {e : Int} (hs : stepD base d k = ([], 0, e)) (he : e ≠ 0) : runD base d most (f + 1) k out = ([], e) := by
 rw [runD, if_neg (by omega), hs]; exact if_pos he
theorem run_long {base d : List UInt8} {most f k : Nat} {out p : List UInt8} {q : Int} (h : k < d.length) (hs : stepD base d k = (p, q, 0)) (hl : most < out.length + p.length) : runD base d most (f + 1) k out = ([], 3) := by
 rw [runD, if_neg (by omega), hs]; rw [if_neg (by simp)]; exact if_pos hl
theorem run_on {base d : List UInt8} {most f k q : Nat} {out p : List UInt8} (h : k < d.length) (hs : stepD base d k = (p, (q : Int), 0)) (hl : out.length + p.length ≤ most) :
  runD base d most (f + 1) k out = runD base d most f q (out ++ p) := by
 rw [runD, if_neg (by omega), hs]; rw [if_neg (by simp)]; rw [if_neg (by simp only; omega)]; simp
def applyD (base d : List UInt8) : List UInt8 × Int :=
 if (two d 0).2.2.2 ≠ 0 then ([], (two d 0).2.2.2) else if (two d 0).1 ≠ (base.length : Int) then ([], 5) else if 20000 < (two d 0).2.1 then ([], 3) else
  runD base d (two d 0).2.1.toNat (d.length + 1) (two d 0).2.2.1.toNat []
theorem apply_err {base d : List UInt8} {e : Int} (h : two d 0 = (0, 0, 0, e)) (he : e ≠ 0) : applyD base d = ([], e) := by unfold applyD; rw [h]; exact if_pos he
theorem apply_sum {base d : List UInt8} {a b q : Int} (h : two d 0 = (a, b, q, 0)) (hn : a ≠ (base.length : Int)) : applyD base d = ([], 5) := by unfold applyD; rw [h]; rw [if_neg (by simp)]; exact if_pos hn
theorem apply_long {base d : List UInt8} {a b q : Int} (h : two d 0 = (a, b, q, 0)) (hn : a = (base.length : Int)) (hb : 20000 < b) : applyD base d = ([], 3) := by
 unfold applyD; rw [h]; rw [if_neg (by simp)]; rw [if_neg (by simpa using hn)]; exact if_pos hb
theorem apply_run {base d : List UInt8} {b q : Nat} (h : two d 0 = ((base.length : Int), (b : Int), (q : Int), 0)) (hb : b ≤ 20000) : applyD base d = runD base d b (d.length + 1) q [] := by
 unfold applyD; rw [h]; rw [if_neg (by simp)]; rw [if_neg (by simp)]; rw [if_neg (by simp only; omega)]; simp
inductive Stp where
 | ins (bs : List UInt8)
 | cop (p n : Nat)
def encS : Stp → List UInt8
 | .ins bs => 2 :: (putL bs.length ++ bs)
 | .cop p n => 1 :: (putL p ++ putL n)
def toldS (base : List UInt8) : Stp → List UInt8
 | .ins bs => bs
 | .cop p n => (base.drop p).take n
def okS (base : List UInt8) : Stp → Prop
 | .ins bs => 0 < bs.length ∧ bs.length ≤ 72057594037927936
 | .cop p n => 0 < n ∧ p + n ≤ base.length
def encs (ss : List Stp) : List UInt8 := (ss.map encS).flatten
def tolds (base : List UInt8) (ss : List Stp) : List UInt8 := (ss.map (toldS base)).flatten
theorem encs_cons (s : Stp) (ss : List Stp) : encs (s :: ss) = encS s ++ encs ss := rfl
theorem encs_append (a b : List Stp) : encs (a ++ b) = encs a ++ encs b := by unfold encs; rw [List.map_append, List.flatten_append]
def headD (from_ most : Nat) : List UInt8 := putL from_ ++ putL most
end Go.Proofs.YtpfjlhpahmhkhaaGreat.Sh
