/- Texts put together: Tq0, Tq3. -/
import GoSem.Op.String
/- Texts cut at a sign, and joined: plain lists, no Go in it. -/
namespace Go.Proofs.Ytecpedecgcaeoaa.Tx

/-- A text cut at every such sign: one piece at least. -/
def splitL (g : UInt8) : List UInt8 → List (List UInt8)
  | [] => [[]]
  | c :: r => if c = g then [] :: splitL g r else match splitL g r with
    | [] => [[c]]
    | p :: ps => (c :: p) :: ps
theorem splitL_ne (g : UInt8) (s : List UInt8) : splitL g s ≠ [] := by
  cases s with
  | nil => simp [splitL]
  | cons c r =>
    unfold splitL
    split
    · simp
    · split <;> simp
theorem splitL_cons_ne {g c : UInt8} (h : c ≠ g) (r : List UInt8) : ∃ p ps, splitL g r = p :: ps ∧ splitL g (c :: r) = (c :: p) :: ps := by
  obtain ⟨p, ps, e⟩ : ∃ p ps, splitL g r = p :: ps := by
    cases hr : splitL g r with
    | nil => exact absurd hr (splitL_ne g r)
    | cons p ps => exact ⟨p, ps, rfl⟩
  refine ⟨p, ps, e, ?_⟩
  rw [splitL, if_neg h, e]
theorem splitL_sign (g : UInt8) (r : List UInt8) : splitL g (g :: r) = [] :: splitL g r := by rw [splitL, if_pos rfl]
theorem splitL_none {g : UInt8} : ∀ {l : List UInt8}, g ∉ l → splitL g l = [l]
  | [], _ => rfl
  | c :: r, h => by
    have hc : c ≠ g := fun e => h (by rw [e]; exact List.mem_cons_self)
    obtain ⟨p, ps, e1, e2⟩ := splitL_cons_ne hc r
    have := splitL_none (l := r) (fun hm => h (List.mem_cons_of_mem _ hm))
    rw [this] at e1
    injection e1 with e3 e4
    rw [e2, ← e3, ← e4]
theorem splitL_cut {g : UInt8} : ∀ {a : List UInt8}, g ∉ a → ∀ b, splitL g (a ++ g :: b) = a :: splitL g b
  | [], _, b => splitL_sign g b
  | c :: r, h, b => by
    have hc : c ≠ g := fun e => h (by rw [e]; exact List.mem_cons_self)
    obtain ⟨p, ps, e1, e2⟩ := splitL_cons_ne hc (r ++ g :: b)
    rw [splitL_cut (a := r) (fun hm => h (List.mem_cons_of_mem _ hm)) b] at e1
    injection e1 with e3 e4
    rw [List.cons_append, e2, ← e3, ← e4]
theorem splitL_mem {g : UInt8} : ∀ {s p : List UInt8}, p ∈ splitL g s → g ∉ p
  | [], p, h => by simp [splitL] at h; subst h; simp
  | c :: r, p, h => by
    by_cases hc : c = g
    · subst hc
      rw [splitL_sign] at h
      rcases List.mem_cons.1 h with rfl | h
      · simp
      · exact splitL_mem h
    · obtain ⟨q, qs, e1, e2⟩ := splitL_cons_ne hc r
      rw [e2] at h
      rcases List.mem_cons.1 h with rfl | h
      · intro hm
        rcases List.mem_cons.1 hm with e | hm
        · exact hc e.symm
        · exact splitL_mem (s := r) (by rw [e1]; exact List.mem_cons_self) hm
      · exact splitL_mem (s := r) (by rw [e1]; exact List.mem_cons_of_mem _ h)
theorem splitL_length (g : UInt8) : ∀ s : List UInt8, (splitL g s).length = s.count g + 1
  | [] => rfl
  | c :: r => by
    by_cases hc : c = g
    · subst hc
      rw [splitL_sign, List.length_cons, splitL_length c r, List.count_cons_self]
    · obtain ⟨q, qs, e1, e2⟩ := splitL_cons_ne hc r
      have := splitL_length g r
      rw [e1] at this
      rw [e2, List.length_cons, List.count_cons_of_ne hc]
      simpa using this
theorem splitL_length_le (g : UInt8) (s : List UInt8) : (splitL g s).length ≤ s.length + 1 := by
  rw [splitL_length]
  have := List.count_le_length (a := g) (l := s)
  omega

/-- Texts with a sign between. -/
def joinL (g : UInt8) : List (List UInt8) → List UInt8
  | [] => []
  | [p] => p
  | p :: q :: r => p ++ g :: joinL g (q :: r)
theorem joinL_cons {g : UInt8} {p : List UInt8} {ps : List (List UInt8)} (h : ps ≠ []) : joinL g (p :: ps) = p ++ g :: joinL g ps := by
  cases ps with
  | nil => exact absurd rfl h
  | cons q r => rfl
theorem joinL_splitL (g : UInt8) : ∀ s : List UInt8, joinL g (splitL g s) = s
  | [] => rfl
  | c :: r => by
    by_cases hc : c = g
    · subst hc
      rw [splitL_sign, joinL_cons (splitL_ne _ _), joinL_splitL c r]
      rfl
    · obtain ⟨q, qs, e1, e2⟩ := splitL_cons_ne hc r
      have := joinL_splitL g r
      rw [e1] at this
      rw [e2]
      cases qs with
      | nil => simp [joinL] at this ⊢; exact this
      | cons t ts =>
        rw [joinL_cons (by simp)] at this ⊢
        rw [List.cons_append, this]
theorem splitL_joinL {g : UInt8} : ∀ {ps : List (List UInt8)}, (∀ p ∈ ps, g ∉ p) → ps ≠ [] → splitL g (joinL g ps) = ps
  | [], _, h => absurd rfl h
  | [p], hp, _ => splitL_none (hp p List.mem_cons_self)
  | p :: q :: r, hp, _ => by
    rw [joinL_cons (by simp), splitL_cut (hp p List.mem_cons_self), splitL_joinL (fun x hx => hp x (List.mem_cons_of_mem _ hx)) (by simp)]
theorem joinL_snoc {g : UInt8} : ∀ {ps : List (List UInt8)} (p : List UInt8), ps ≠ [] → joinL g (ps ++ [p]) = joinL g ps ++ g :: p
  | [], _, h => absurd rfl h
  | [q], p, _ => rfl
  | q :: t :: r, p, _ => by
    have e : joinL g (q :: t :: r) = q ++ g :: joinL g (t :: r) := rfl
    have e2 : joinL g (q :: t :: r ++ [p]) = q ++ g :: joinL g (t :: r ++ [p]) := rfl
    rw [e, e2, joinL_snoc (ps := t :: r) p (by simp), List.append_assoc, List.cons_append]
/-- The signs behind place k of a text that has none from `fr` to k. -/
theorem drop_cut (s : List UInt8) (fr k : Nat) (h1 : fr ≤ k) (h2 : k < s.length) : s.drop fr = (s.take k).drop fr ++ s[k] :: s.drop (k + 1) := by
  have e : s = s.take k ++ s[k] :: s.drop (k + 1) := by
    rw [← List.drop_eq_getElem_cons h2, List.take_append_drop]
  have hl : fr ≤ (s.take k).length := by simp; omega
  conv => lhs; rw [e]
  rw [List.drop_append_of_le_length hl]
theorem not_mem_cut {s : List UInt8} {g : UInt8} {fr k : Nat} (h : ∀ j, fr ≤ j → j < k → s[j]? ≠ some g) : g ∉ (s.take k).drop fr := by
  intro hm
  obtain ⟨i, hi, e⟩ := List.getElem_of_mem hm
  have hi' : fr + i < (s.take k).length := by simp at hi ⊢; omega
  have e2 : (s.take k)[fr + i]'hi' = g := by rw [← e, List.getElem_drop]
  have hk : fr + i < k := by simp at hi'; omega
  refine h (fr + i) (by omega) hk ?_
  rw [List.getElem_take] at e2
  rw [List.getElem?_eq_getElem (by simp at hi'; omega), e2]

/-- A name. -/
def nameB (s : List UInt8) : Bool := decide (1 ≤ s.length) && decide (s.length ≤ 64) && !(s == [46]) && !(s == [46, 46]) && s.all fun c => decide (33 ≤ c.toNat) && decide (c.toNat ≤ 126) && !(c == 47)
/-- A path. -/
def pathB (s : List UInt8) : Bool := decide (s.length ≤ 200) && (splitL 47 s).all nameB && decide ((splitL 47 s).length ≤ 8)
end Go.Proofs.Ytecpedecgcaeoaa.Tx
/- Texts in order: plain lists. -/
namespace Go.Proofs.Ytecpedecgcaeoaa.Tx

/-- Does a stand before b? -/
abbrev bl (a b : List UInt8) : Bool := Op.bytesLess a b
theorem bl_nil (b : List UInt8) : bl b [] = false := by cases b <;> rfl
theorem bl_cons (x y : UInt8) (a b : List UInt8) : bl (x :: a) (y :: b) = (decide (x < y) || (x == y && bl a b)) := by
  show Op.bytesLess _ _ = _
  rw [Op.bytesLess]
theorem bl_irr (a : List UInt8) : bl a a = false := by
  induction a with
  | nil => rfl
  | cons x a ih => rw [bl_cons, ih]; simp
theorem u8_tri (x y : UInt8) : x < y ∨ x = y ∨ y < x := by
  rcases Nat.lt_trichotomy x.toNat y.toNat with h | h | h
  · exact .inl h
  · exact .inr (.inl (UInt8.toNat_inj.1 h))
  · exact .inr (.inr h)
theorem u8_nlt {x y : UInt8} (h : x < y) : ¬ y < x ∧ x ≠ y := by
  have h' : x.toNat < y.toNat := h
  exact ⟨fun h2 => by have : y.toNat < x.toNat := h2; omega, fun e => by subst e; omega⟩
theorem bl_tri (a : List UInt8) : ∀ b : List UInt8, bl a b = true ∨ a = b ∨ bl b a = true := by
  induction a with
  | nil => intro b; cases b with | nil => exact .inr (.inl rfl) | cons y b => exact .inl rfl
  | cons x a ih =>
    intro b
    cases b with
    | nil => exact .inr (.inr rfl)
    | cons y b =>
      rw [bl_cons, bl_cons]
      rcases u8_tri x y with h | h | h
      · left; simp [h]
      · subst h
        rcases ih b with h | h | h
        · left; rw [h]; simp
        · right; left; rw [h]
        · right; right; rw [h]; simp
      · right; right; simp [h]
theorem bl_asymm (a : List UInt8) : ∀ b : List UInt8, bl a b = true → bl b a = false := by
  induction a with
  | nil => intro b _; exact bl_nil b
  | cons x a ih =>
    intro b h
    cases b with
    | nil => rw [bl_nil] at h; cases h
    | cons y b =>
      rw [bl_cons] at h ⊢
      rcases u8_tri x y with h1 | h1 | h1
      · have := u8_nlt h1
        simp [this.1]
        intro e; exact absurd e.symm this.2
      · subst h1
        have hb : bl a b = true := by simpa using h
        rw [ih b hb]
        simp
      · have := u8_nlt h1
        simp [this.1, this.2.symm] at h
theorem bl_trans (a : List UInt8) : ∀ b c : List UInt8, bl a b = true → bl b c = true → bl a c = true := by
  induction a with
  | nil =>
    intro b c h1 h2
    cases c with
    | nil => rw [bl_nil] at h2; cases h2
    | cons z c => rfl
  | cons x a ih =>
    intro b c h1 h2
    cases b with
    | nil => rw [bl_nil] at h1; cases h1
    | cons y b =>
      cases c with
      | nil => rw [bl_nil] at h2; cases h2
      | cons z c =>
        rw [bl_cons] at h1 h2 ⊢
        rcases u8_tri x y with g1 | g1 | g1
        · rcases u8_tri y z with g2 | g2 | g2
          · have : x < z := by have a1 : x.toNat < y.toNat := g1; have a2 : y.toNat < z.toNat := g2; show x.toNat < z.toNat; omega
            simp [this]
          · subst g2; simp [g1]
          · have := u8_nlt g2
            simp [this.1, this.2.symm] at h2
        · subst g1
          rcases u8_tri x z with g2 | g2 | g2
          · simp [g2]
          · subst g2
            have hb1 : bl a b = true := by simpa using h1
            have hb2 : bl b c = true := by simpa using h2
            rw [ih b c hb1 hb2]
            simp
          · have := u8_nlt g2
            simp [this.1, this.2.symm] at h2
        · have := u8_nlt g1
          simp [this.1, this.2.symm] at h1
/-- Compare. -/
def cmpL (a b : List UInt8) : Int := if bl a b then -1 else if a = b then 0 else 1
theorem cmpL_lt {a b : List UInt8} (h : bl a b = true) : cmpL a b = -1 := by unfold cmpL; rw [if_pos h]
theorem cmpL_eq (a : List UInt8) : cmpL a a = 0 := by unfold cmpL; rw [if_neg (by rw [bl_irr]; decide), if_pos rfl]
theorem cmpL_gt {a b : List UInt8} (h : bl b a = true) : cmpL a b = 1 := by
  unfold cmpL
  rw [if_neg (by rw [bl_asymm b a h]; decide), if_neg (by rintro rfl; rw [bl_irr] at h; cases h)]
theorem cmpL_neg (a b : List UInt8) : cmpL b a = - cmpL a b := by
  rcases bl_tri a b with h | h | h
  · rw [cmpL_lt h, cmpL_gt h]; rfl
  · subst h; rw [cmpL_eq]; rfl
  · rw [cmpL_lt h, cmpL_gt h]
theorem cmpL_cases (a b : List UInt8) : (Op.bytesLess a b = true ∧ cmpL a b = -1) ∨ (Op.bytesLess a b = false ∧ (a == b) = true ∧ cmpL a b = 0) ∨ (Op.bytesLess a b = false ∧ (a == b) = false ∧ cmpL a b = 1) := by
  rcases bl_tri a b with h | h | h
  · exact .inl ⟨h, cmpL_lt h⟩
  · subst h; exact .inr (.inl ⟨bl_irr a, beq_self_eq_true a, cmpL_eq a⟩)
  · refine .inr (.inr ⟨bl_asymm b a h, ?_, cmpL_gt h⟩)
    rw [beq_eq_false_iff_ne]; rintro rfl; rw [bl_irr] at h; cases h
end Go.Proofs.Ytecpedecgcaeoaa.Tx
