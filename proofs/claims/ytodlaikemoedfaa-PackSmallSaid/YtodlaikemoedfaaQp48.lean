/- Texts put together: YPk2. -/
import Derived.Test.YtodlaikemoedfaaQp25
/- How long packs are: plain lists, no Go in it. -/
set_option linter.unusedVariables false
set_option linter.unusedSimpArgs false
namespace Go.Proofs.Ytodlaikemoedfaa.Ob
open Go.Proofs.Ytodlaikemoedfaa.Sh

theorem putL_l2 {n : Nat} (h : n < 16384) : (putL n).length ≤ 2 := putL_len 1 n (by simpa using h)
theorem putL_l1 {n : Nat} (h : n < 128) : (putL n).length = 1 := by rw [putL_lt h]; rfl
def sumN (l : List (List UInt8)) : Nat → Nat
  | 0 => 0
  | i + 1 => sumN l i + (l.getD i []).length
theorem put_size (l : List (List UInt8)) (ds : List Nat) (i : Nat) (hl : ∀ o ∈ l, o.length ≤ 1500) (hi : i < 100) (hi2 : i < l.length) : (putP l ds i).1.length ≤ (l.getD i []).length + 3 := by
  have hgi : l.getD i [] = l[i] := by rw [List.getD_eq_getElem?_getD, List.getElem?_eq_getElem hi2]; rfl
  have hlo : (l.getD i []).length ≤ 1500 := hl _ (by rw [hgi]; exact List.getElem_mem hi2)
  have h2 := putL_l2 (show (l.getD i []).length < 16384 by omega)
  cases hn : nearP l ds (l.getD i []) i with
  | none => rw [put_none hn]; simp only [wholeE, List.length_cons, List.length_append]; omega
  | some k =>
    by_cases hlt : (makeD (l.getD k []) (l.getD i [])).length < (l.getD i []).length
    · rw [put_ahead hn hlt]
      have h1 := putL_l1 (show i - k < 128 by omega)
      have h3 := putL_l2 (show (makeD (l.getD k []) (l.getD i [])).length < 16384 by omega)
      simp only [aheadE, List.length_cons, List.length_append, h1]
      omega
    · rw [put_whole hn hlt]; simp only [wholeE, List.length_cons, List.length_append]; omega
theorem writes_size (l : List (List UInt8)) (hl : ∀ o ∈ l, o.length ≤ 1500) (hll : l.length ≤ 40) : ∀ i, i ≤ l.length → (writesP l i).1.length ≤ 4 + 3 * i + sumN l i
  | 0 => fun _ => by
    show (markL ++ putL l.length).length ≤ _
    rw [List.length_append, putL_l1 (by omega)]
    exact Nat.le_refl _
  | i + 1 => fun h => by
    have ih := writes_size l hl hll i (by omega)
    have hp := put_size l (writesP l i).2 i hl (by omega) (by omega)
    show ((_ : List UInt8) ++ _).length ≤ _
    rw [List.length_append]
    show _ ≤ 4 + 3 * (i + 1) + (sumN l i + (l.getD i []).length)
    omega
theorem near_same {l : List (List UInt8)} {ds : List Nat} {o : List UInt8} (h : (l.getD 0 []).getD 0 0 = o.getD 0 0) (hd : ds.getD 0 0 < 8) : ∀ i, 0 < i → ∃ k, nearP l ds o i = some k
  | 0 => fun h0 => by omega
  | i + 1 => fun _ => by
    by_cases hh : (l.getD i []).getD 0 0 = o.getD 0 0 ∧ ds.getD i 0 < 8
    · exact ⟨i, near_hit hh.1 hh.2⟩
    · rw [near_miss hh]
      refine near_same h hd i ?_
      rcases Nat.eq_zero_or_pos i with e | e
      · subst e; exact absurd ⟨h, hd⟩ hh
      · exact e
theorem rep_getD (o : List UInt8) (n i : Nat) (h : i < n) : (List.replicate n o).getD i [] = o := by
  rw [List.getD_eq_getElem?_getD, List.getElem?_replicate, if_pos h]; rfl
/-- The delta of a text by itself is short. -/
theorem m8_self' (b : List UInt8) (h : 8 ≤ b.length) : m8 b b = (0, b.length) := by
  have h1 : best8 b b 1 = (0, b.length) := by
    show (if 8 ≤ lcp (b.drop 0) b ∧ (best8 b b 0).2 < lcp (b.drop 0) b then (0, lcp (b.drop 0) b) else best8 b b 0) = _
    rw [List.drop_zero, lcp_self, if_pos]
    exact ⟨h, by show 0 < _; omega⟩
  have h2 : best8 b b b.length = best8 b b 1 := best8_to b b 1 b.length (by omega) (fun i _ _ => .inr (by
    rw [h1]
    exact (lcp_le _ _).2))
  unfold m8
  rw [h2, h1]
theorem make_self (b : List UInt8) (h8 : 8 ≤ b.length) (h : b.length ≤ 2000) : (makeD b b).length ≤ 8 := by
  obtain ⟨f, hf⟩ : ∃ f, b.length = f + 1 := ⟨b.length - 1, by omega⟩
  have hm := m8_self' b h8
  have hs : stepsD (m8 b) b.length b [] = [.cop 0 b.length] := by
    have := steps_cop (m := m8 b) (f := f) (t := b) (ins := []) (by omega) (by rw [hm]; show b.length ≠ 0; omega)
    rw [hm] at this
    rw [hf] at this ⊢
    rw [this, List.drop_of_length_le (by rw [hf]; exact Nat.le_refl _), steps_end]
    rfl
  have h2 := putL_l2 (show b.length < 16384 by omega)
  have h1 := putL_l1 (show (0 : Nat) < 128 by omega)
  unfold makeD headD
  rw [hs]
  simp only [encs, encS, List.map_cons, List.map_nil, List.flatten_cons, List.flatten_nil, List.length_append, List.length_cons, List.length_nil, h1]
  omega
theorem same_size (o : List UInt8) (h20 : 20 ≤ o.length) (ho : o.length ≤ 1500) (n : Nat) (hn : n ≤ 20) : ∀ i, 0 < i → i ≤ n → (writesP (List.replicate n o) i).1.length ≤ 7 + o.length + 12 * (i - 1)
  | 0 => fun h _ => by omega
  | i + 1 => fun _ hi => by
    have hp := put_size (List.replicate n o) (writesP (List.replicate n o) i).2 i (fun x hx => by rw [(List.mem_replicate.1 hx).2]; exact ho) (by omega) (by rw [List.length_replicate]; omega)
    rw [rep_getD o n i (by omega)] at hp
    rcases Nat.eq_zero_or_pos i with e | e
    · subst e
      have e2 : (writesP (List.replicate n o) (0 + 1)).1.length = (writesP (List.replicate n o) 0).1.length + (putP (List.replicate n o) (writesP (List.replicate n o) 0).2 0).1.length := by
        show ((_ : List UInt8) ++ _).length = _
        rw [List.length_append]
      have e3 : (writesP (List.replicate n o) 0).1.length = 4 := by
        show (markL ++ putL _).length = 4
        rw [List.length_append, putL_l1 (by rw [List.length_replicate]; omega)]
        rfl
      omega
    · have ih := same_size o h20 ho n hn i e (by omega)
      have h0 : (writesP (List.replicate n o) i).2.getD 0 0 < 8 := by rw [depths_at _ i 0 e]; exact Nat.zero_lt_succ _
      have hg0 := rep_getD o n 0 (by omega)
      have hgi := rep_getD o n i (by omega)
      obtain ⟨k, hk⟩ := near_same (l := List.replicate n o) (ds := (writesP (List.replicate n o) i).2) (o := o) (by rw [hg0]) h0 i e
      have hki := (near_some hk).1
      have hgk := rep_getD o n k (by omega)
      have hm := make_self o (by omega) (by omega)
      have hs : (putP (List.replicate n o) (writesP (List.replicate n o) i).2 i).1.length ≤ 12 := by
        rw [put_ahead (k := k) (by rw [hgi]; exact hk) (by rw [hgi, hgk]; omega)]
        simp only [hgi, hgk]
        have h1 := putL_l1 (show i - k < 128 by omega)
        have h3 := putL_l1 (show (makeD o o).length < 128 by omega)
        simp only [aheadE, List.length_cons, List.length_append, h1, h3]
        omega
      show ((_ : List UInt8) ++ _).length ≤ _
      rw [List.length_append]
      omega
/-- What PackSmall asks. -/
theorem small_one (l : List (List UInt8)) (hl : ∀ o ∈ l, o.length ≤ 1500) (hll : l.length ≤ 40) : ((writesP l l.length).1 ++ sumOf (writesP l l.length).1).length ≤ 37 + 4 * l.length + sumN l l.length := by
  have := writes_size l hl hll l.length (Nat.le_refl _)
  rw [List.length_append, sumOf_length]
  omega
theorem small_same (o : List UInt8) (h20 : 20 ≤ o.length) (ho : o.length ≤ 1500) (n : Nat) (h0 : 0 < n) (hn : n ≤ 20) :
    ((writesP (List.replicate n o) n).1 ++ sumOf (writesP (List.replicate n o) n).1).length ≤ 37 + (o.length + 4) * ((n + 8) / 9) + 12 * n := by
  have := same_size o h20 ho n hn n h0 (Nat.le_refl _)
  rw [List.length_append, sumOf_length]
  have h1 : 1 ≤ (n + 8) / 9 := by omega
  have h2 : (o.length + 4) * 1 ≤ (o.length + 4) * ((n + 8) / 9) := Nat.mul_le_mul_left _ h1
  omega
end Go.Proofs.Ytodlaikemoedfaa.Ob
