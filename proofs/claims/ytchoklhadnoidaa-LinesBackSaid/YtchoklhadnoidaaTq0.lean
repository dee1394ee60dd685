/- Texts cut at a sign, and joined: plain lists, no Go in it. -/
namespace Go.Proofs.Ytchoklhadnoidaa.Tx

/-- A text cut at every such sign: one piece at least. -/
def splitL (g : UInt8) : List UInt8 → List (List UInt8)
  | [] => [[]]
  | c :: r => if c = g then [] :: splitL g r else match splitL g r with
    | [] => [[c]]
    | p :: ps => (c :: p) :: ps
theorem splitL_ne (g : UInt8) (s : List UInt8) : splitL g s ≠ [] := by
  cases s with
  | nil => simp [splitL]
  | cons c r =>
    unfold splitL
    split
    · simp
    · split <;> simp
theorem splitL_cons_ne {g c : UInt8} (h : c ≠ g) (r : List UInt8) : ∃ p ps, splitL g r = p :: ps ∧ splitL g (c :: r) = (c :: p) :: ps := by
  obtain ⟨p, ps, e⟩ : ∃ p ps, splitL g r = p :: ps := by
    cases hr : splitL g r with
    | nil => exact absurd hr (splitL_ne g r)
    | cons p ps => exact ⟨p, ps, rfl⟩
  refine ⟨p, ps, e, ?_⟩
  rw [splitL, if_neg h, e]
theorem splitL_sign (g : UInt8) (r : List UInt8) : splitL g (g :: r) = [] :: splitL g r := by rw [splitL, if_pos rfl]
theorem splitL_none {g : UInt8} : ∀ {l : List UInt8}, g ∉ l → splitL g l = [l]
  | [], _ => rfl
  | c :: r, h => by
    have hc : c ≠ g := fun e => h (by rw [e]; exact List.mem_cons_self)
    obtain ⟨p, ps, e1, e2⟩ := splitL_cons_ne hc r
    have := splitL_none (l := r) (fun hm => h (List.mem_cons_of_mem _ hm))
    rw [this] at e1
    injection e1 with e3 e4
    rw [e2, ← e3, ← e4]
theorem splitL_cut {g : UInt8} : ∀ {a : List UInt8}, g ∉ a → ∀ b, splitL g (a ++ g :: b) = a :: splitL g b
  | [], _, b => splitL_sign g b
  | c :: r, h, b => by
    have hc : c ≠ g := fun e => h (by rw [e]; exact List.mem_cons_self)
    obtain ⟨p, ps, e1, e2⟩ := splitL_cons_ne hc (r ++ g :: b)
    rw [splitL_cut (a := r) (fun hm => h (List.mem_cons_of_mem _ hm)) b] at e1
    injection e1 with e3 e4
    rw [List.cons_append, e2, ← e3, ← e4]
theorem splitL_mem {g : UInt8} : ∀ {s p : List UInt8}, p ∈ splitL g s → g ∉ p
  | [], p, h => by simp [splitL] at h; subst h; simp
  | c :: r, p, h => by
    by_cases hc : c = g
    · subst hc
      rw [splitL_sign] at h
      rcases List.mem_cons.1 h with rfl | h
      · simp
      · exact splitL_mem h
    · obtain ⟨q, qs, e1, e2⟩ := splitL_cons_ne hc r
      rw [e2] at h
      rcases List.mem_cons.1 h with rfl | h
      · intro hm
        rcases List.mem_cons.1 hm with e | hm
        · exact hc e.symm
        · exact splitL_mem (s := r) (by rw [e1]; exact List.mem_cons_self) hm
      · exact splitL_mem (s := r) (by rw [e1]; exact List.mem_cons_of_mem _ h)
theorem splitL_length (g : UInt8) : ∀ s : List UInt8, (splitL g s).length = s.count g + 1
  | [] => rfl
  | c :: r => by
    by_cases hc : c = g
    · subst hc
      rw [splitL_sign, List.length_cons, splitL_length c r, List.count_cons_self]
    · obtain ⟨q, qs, e1, e2⟩ := splitL_cons_ne hc r
      have := splitL_length g r
      rw [e1] at this
      rw [e2, List.length_cons, List.count_cons_of_ne hc]
      simpa using this
theorem splitL_length_le (g : UInt8) (s : List UInt8) : (splitL g s).length ≤ s.length + 1 := by
  rw [splitL_length]
  have := List.count_le_length (a := g) (l := s)
  omega

/-- Texts with a sign between. -/
def joinL (g : UInt8) : List (List UInt8) → List UInt8
  | [] => []
  | [p] => p
  | p :: q :: r => p ++ g :: joinL g (q :: r)
theorem joinL_cons {g : UInt8} {p : List UInt8} {ps : List (List UInt8)} (h : ps ≠ []) : joinL g (p :: ps) = p ++ g :: joinL g ps := by
  cases ps with
  | nil => exact absurd rfl h
  | cons q r => rfl
theorem joinL_splitL (g : UInt8) : ∀ s : List UInt8, joinL g (splitL g s) = s
  | [] => rfl
  | c :: r => by
    by_cases hc : c = g
    · subst hc
      rw [splitL_sign, joinL_cons (splitL_ne _ _), joinL_splitL c r]
      rfl
    · obtain ⟨q, qs, e1, e2⟩ := splitL_cons_ne hc r
      have := joinL_splitL g r
      rw [e1] at this
      rw [e2]
      cases qs with
      | nil => simp [joinL] at this ⊢; exact this
      | cons t ts =>
        rw [joinL_cons (by simp)] at this ⊢
        rw [List.cons_append, this]
theorem splitL_joinL {g : UInt8} : ∀ {ps : List (List UInt8)}, (∀ p ∈ ps, g ∉ p) → ps ≠ [] → splitL g (joinL g ps) = ps
  | [], _, h => absurd rfl h
  | [p], hp, _ => splitL_none (hp p List.mem_cons_self)
  | p :: q :: r, hp, _ => by
    rw [joinL_cons (by simp), splitL_cut (hp p List.mem_cons_self), splitL_joinL (fun x hx => hp x (List.mem_cons_of_mem _ hx)) (by simp)]
theorem joinL_snoc {g : UInt8} : ∀ {ps : List (List UInt8)} (p : List UInt8), ps ≠ [] → joinL g (ps ++ [p]) = joinL g ps ++ g :: p
  | [], _, h => absurd rfl h
  | [q], p, _ => rfl
  | q :: t :: r, p, _ => by
    have e : joinL g (q :: t :: r) = q ++ g :: joinL g (t :: r) := rfl
    have e2 : joinL g (q :: t :: r ++ [p]) = q ++ g :: joinL g (t :: r ++ [p]) := rfl
    rw [e, e2, joinL_snoc (ps := t :: r) p (by simp), List.append_assoc, List.cons_append]
/-- The signs behind place k of a text that has none from `fr` to k. -/
theorem drop_cut (s : List UInt8) (fr k : Nat) (h1 : fr ≤ k) (h2 : k < s.length) : s.drop fr = (s.take k).drop fr ++ s[k] :: s.drop (k + 1) := by
  have e : s = s.take k ++ s[k] :: s.drop (k + 1) := by
    rw [← List.drop_eq_getElem_cons h2, List.take_append_drop]
  have hl : fr ≤ (s.take k).length := by simp; omega
  conv => lhs; rw [e]
  rw [List.drop_append_of_le_length hl]
theorem not_mem_cut {s : List UInt8} {g : UInt8} {fr k : Nat} (h : ∀ j, fr ≤ j → j < k → s[j]? ≠ some g) : g ∉ (s.take k).drop fr := by
  intro hm
  obtain ⟨i, hi, e⟩ := List.getElem_of_mem hm
  have hi' : fr + i < (s.take k).length := by simp at hi ⊢; omega
  have e2 : (s.take k)[fr + i]'hi' = g := by rw [← e, List.getElem_drop]
  have hk : fr + i < k := by simp at hi'; omega
  refine h (fr + i) (by omega) hk ?_
  rw [List.getElem_take] at e2
  rw [List.getElem?_eq_getElem (by simp at hi'; omega), e2]

/-- A name. -/
def nameB (s : List UInt8) : Bool := decide (1 ≤ s.length) && decide (s.length ≤ 64) && !(s == [46]) && !(s == [46, 46]) && s.all fun c => decide (33 ≤ c.toNat) && decide (c.toNat ≤ 126) && !(c == 47)
/-- A path. -/
def pathB (s : List UInt8) : Bool := decide (s.length ≤ 200) && (splitL 47 s).all nameB && decide ((splitL 47 s).length ≤ 8)
end Go.Proofs.Ytchoklhadnoidaa.Tx
