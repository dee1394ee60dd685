/- Deltas of a text by itself, by nothing; deltas with a step behind them: plain lists, no Go in it. -/
import Derived.Test.YthphplmcojdpeaaDm0
set_option linter.unusedVariables false
set_option linter.unusedSimpArgs false
namespace Go.Proofs.Ythphplmcojdpeaa

theorem flush_enc (p : List UInt8) : encs (flushS p) = if p = [] then [] else 2 :: (putL p.length ++ p) := by
  unfold flushS
  split
  · rfl
  · simp [encs, encS]
theorem m8_short' {base t : List UInt8} (h : t.length < 8) : m8 base t = (0, 0) := by
  rcases m8_ok base t with h' | ⟨h1, _, h3, _⟩
  · exact h'
  · omega
theorem steps_none {m : List UInt8 → Nat × Nat} : ∀ (f : Nat) (t ins : List UInt8), t.length ≤ f → (∀ t' : List UInt8, t'.length ≤ t.length → (m t').2 = 0) → stepsD m f t ins = flushS (ins ++ t) := by
  intro f
  induction f with
  | zero => intro t ins h _; have : t = [] := List.eq_nil_of_length_eq_zero (by omega); subst this; rw [steps_end, List.append_nil]
  | succ f ih =>
    intro t ins h hm
    rcases Nat.eq_zero_or_pos t.length with h0 | h0
    · have : t = [] := List.eq_nil_of_length_eq_zero h0
      subst this
      rw [steps_end, List.append_nil]
    · rw [steps_in h0 (hm t (Nat.le_refl _)), ih _ _ (by simp; omega) (fun t' h' => hm t' (by simp at h'; omega)), List.append_assoc, List.take_append_drop]
theorem putL_2 {n : Nat} (h : n < 16384) : (putL n).length ≤ 2 := putL_len 1 n (by simpa using h)
theorem putL_1 {n : Nat} (h : n < 128) : (putL n).length = 1 := by rw [putL_lt h]; rfl
/-- By nothing. -/
theorem make_nil_len (b : List UInt8) (h : b.length ≤ 2000) : b.length ≤ (makeD [] b).length ∧ (makeD [] b).length ≤ b.length + 6 := by
  have hs := steps_none (m := m8 []) b.length b [] (Nat.le_refl _) (fun t' _ => rfl)
  have h2 := putL_2 (show b.length < 16384 by omega)
  have h1 := putL_1 (show (0 : Nat) < 128 by omega)
  have hp := putL_pos b.length
  unfold makeD headD
  rw [hs, List.nil_append, flush_enc]
  simp only [List.length_append, List.length_nil, h1]
  by_cases hb : b = []
  · rw [if_pos hb, hb]; simp [putL_1]
  · rw [if_neg hb]; simp; omega
theorem make_self_small (b : List UInt8) (h : b.length < 8) : (makeD b b).length ≤ b.length + 7 := by
  have hs := steps_none (m := m8 b) b.length b [] (Nat.le_refl _) (fun t' h' => by rw [m8_short' (show t'.length < 8 by omega)])
  have h1 := putL_1 (show b.length < 128 by omega)
  unfold makeD headD
  rw [hs, List.nil_append, flush_enc]
  simp only [List.length_append, h1]
  by_cases hb : b = []
  · rw [if_pos hb]; simp
  · rw [if_neg hb]; simp [h1]; omega
theorem m8_self (b : List UInt8) (h : 8 ≤ b.length) : m8 b b = (0, b.length) := by
  have h1 : best8 b b 1 = (0, b.length) := by
    show (if 8 ≤ lcp (b.drop 0) b ∧ (best8 b b 0).2 < lcp (b.drop 0) b then (0, lcp (b.drop 0) b) else best8 b b 0) = _
    rw [List.drop_zero, lcp_self, if_pos]
    exact ⟨h, by show 0 < _; omega⟩
  have h2 : best8 b b b.length = best8 b b 1 := best8_to b b 1 b.length (by omega) (fun i _ _ => .inr (by
    rw [h1]
    exact (lcp_le _ _).2))
  unfold m8
  rw [h2, h1]
theorem make_self_len (b : List UInt8) (h8 : 8 ≤ b.length) (h : b.length ≤ 2000) : (makeD b b).length ≤ 8 := by
  obtain ⟨f, hf⟩ : ∃ f, b.length = f + 1 := ⟨b.length - 1, by omega⟩
  have hm := m8_self b h8
  have hs : stepsD (m8 b) b.length b [] = [.cop 0 b.length] := by
    have := steps_cop (m := m8 b) (f := f) (t := b) (ins := []) (by omega) (by rw [hm]; show b.length ≠ 0; omega)
    rw [hm] at this
    rw [hf] at this ⊢
    rw [this, List.drop_of_length_le (by rw [hf]; exact Nat.le_refl _), steps_end]
    rfl
  have h2 := putL_2 (show b.length < 16384 by omega)
  have h1 := putL_1 (show (0 : Nat) < 128 by omega)
  unfold makeD headD
  rw [hs]
  simp only [encs, encS, List.map_cons, List.map_nil, List.flatten_cons, List.flatten_nil, List.length_append, List.length_cons, List.length_nil, h1]
  omega

/-- A delta of one insert, and what stands behind it. -/
theorem apply_behind (a b rest : List UInt8) (hb : 0 < b.length) (ha : a.length ≤ 100) (hb2 : b.length ≤ 100) (e : Int) (he : e ≠ 0)
    (h : ∀ D k, D = (headD a.length b.length ++ encS (.ins b)) ++ rest → k = (headD a.length b.length ++ encS (.ins b)).length → k < D.length ∧ (stepD a D k = ([], 0, e) ∨ e = 3 ∧ ∃ p q, stepD a D k = (p, q, 0) ∧ 0 < p.length)) :
    applyD a ((headD a.length b.length ++ encS (.ins b)) ++ rest) = ([], e) := by
  obtain ⟨D, hD⟩ : ∃ D, (headD a.length b.length ++ encS (.ins b)) ++ rest = D := ⟨_, rfl⟩
  obtain ⟨hk, hs⟩ := h D _ hD.symm rfl
  have ht : two D 0 = ((a.length : Int), (b.length : Int), (((headD a.length b.length).length : Nat) : Int), 0) := by
    rw [← hD, List.append_assoc]
    exact two_head _ _ _ (by omega) (by omega)
  have hst := step_enc a (headD a.length b.length) rest (.ins b) ⟨hb, by omega⟩ (by omega)
  rw [← List.append_assoc, hD] at hst
  have hlen : (headD a.length b.length).length < D.length := by
    rw [← hD]
    have := encS_pos (.ins b)
    simp only [List.length_append]
    omega
  rw [hD, apply_run ht (by omega), run_on hlen hst (by show 0 + b.length ≤ _; omega)]
  have hkk : (headD a.length b.length).length + (encS (.ins b)).length = (headD a.length b.length ++ encS (.ins b)).length := by simp
  rw [hkk]
  obtain ⟨f, hf⟩ : ∃ f, D.length = f + 1 := ⟨D.length - 1, by omega⟩
  rw [hf]
  rcases hs with hs | ⟨rfl, p, q, hs, hp⟩
  · exact run_err hk hs he
  · exact run_long hk hs (by show b.length < (([] : List UInt8) ++ b).length + p.length; simp; omega)
end Go.Proofs.Ythphplmcojdpeaa
