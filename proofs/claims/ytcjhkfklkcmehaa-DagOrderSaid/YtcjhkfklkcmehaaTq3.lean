/- Texts in order: plain lists. -/
import Derived.Test.YtcjhkfklkcmehaaTq0
import GoSem.Op.String
namespace Go.Proofs.Ytcjhkfklkcmehaa.Tx

/-- Does a stand before b? -/
abbrev bl (a b : List UInt8) : Bool := Op.bytesLess a b
theorem bl_nil (b : List UInt8) : bl b [] = false := by cases b <;> rfl
theorem bl_cons (x y : UInt8) (a b : List UInt8) : bl (x :: a) (y :: b) = (decide (x < y) || (x == y && bl a b)) := by
  show Op.bytesLess _ _ = _
  rw [Op.bytesLess]
theorem bl_irr (a : List UInt8) : bl a a = false := by
  induction a with
  | nil => rfl
  | cons x a ih => rw [bl_cons, ih]; simp
theorem u8_tri (x y : UInt8) : x < y ∨ x = y ∨ y < x := by
  rcases Nat.lt_trichotomy x.toNat y.toNat with h | h | h
  · exact .inl h
  · exact .inr (.inl (UInt8.toNat_inj.1 h))
  · exact .inr (.inr h)
theorem u8_nlt {x y : UInt8} (h : x < y) : ¬ y < x ∧ x ≠ y := by
  have h' : x.toNat < y.toNat := h
  exact ⟨fun h2 => by have : y.toNat < x.toNat := h2; omega, fun e => by subst e; omega⟩
theorem bl_tri (a : List UInt8) : ∀ b : List UInt8, bl a b = true ∨ a = b ∨ bl b a = true := by
  induction a with
  | nil => intro b; cases b with | nil => exact .inr (.inl rfl) | cons y b => exact .inl rfl
  | cons x a ih =>
    intro b
    cases b with
    | nil => exact .inr (.inr rfl)
    | cons y b =>
      rw [bl_cons, bl_cons]
      rcases u8_tri x y with h | h | h
      · left; simp [h]
      · subst h
        rcases ih b with h | h | h
        · left; rw [h]; simp
        · right; left; rw [h]
        · right; right; rw [h]; simp
      · right; right; simp [h]
theorem bl_asymm (a : List UInt8) : ∀ b : List UInt8, bl a b = true → bl b a = false := by
  induction a with
  | nil => intro b _; exact bl_nil b
  | cons x a ih =>
    intro b h
    cases b with
    | nil => rw [bl_nil] at h; cases h
    | cons y b =>
      rw [bl_cons] at h ⊢
      rcases u8_tri x y with h1 | h1 | h1
      · have := u8_nlt h1
        simp [this.1]
        intro e; exact absurd e.symm this.2
      · subst h1
        have hb : bl a b = true := by simpa using h
        rw [ih b hb]
        simp
      · have := u8_nlt h1
        simp [this.1, this.2.symm] at h
theorem bl_trans (a : List UInt8) : ∀ b c : List UInt8, bl a b = true → bl b c = true → bl a c = true := by
  induction a with
  | nil =>
    intro b c h1 h2
    cases c with
    | nil => rw [bl_nil] at h2; cases h2
    | cons z c => rfl
  | cons x a ih =>
    intro b c h1 h2
    cases b with
    | nil => rw [bl_nil] at h1; cases h1
    | cons y b =>
      cases c with
      | nil => rw [bl_nil] at h2; cases h2
      | cons z c =>
        rw [bl_cons] at h1 h2 ⊢
        rcases u8_tri x y with g1 | g1 | g1
        · rcases u8_tri y z with g2 | g2 | g2
          · have : x < z := by have a1 : x.toNat < y.toNat := g1; have a2 : y.toNat < z.toNat := g2; show x.toNat < z.toNat; omega
            simp [this]
          · subst g2; simp [g1]
          · have := u8_nlt g2
            simp [this.1, this.2.symm] at h2
        · subst g1
          rcases u8_tri x z with g2 | g2 | g2
          · simp [g2]
          · subst g2
            have hb1 : bl a b = true := by simpa using h1
            have hb2 : bl b c = true := by simpa using h2
            rw [ih b c hb1 hb2]
            simp
          · have := u8_nlt g2
            simp [this.1, this.2.symm] at h2
        · have := u8_nlt g1
          simp [this.1, this.2.symm] at h1
/-- Compare. -/
def cmpL (a b : List UInt8) : Int := if bl a b then -1 else if a = b then 0 else 1
theorem cmpL_lt {a b : List UInt8} (h : bl a b = true) : cmpL a b = -1 := by unfold cmpL; rw [if_pos h]
theorem cmpL_eq (a : List UInt8) : cmpL a a = 0 := by unfold cmpL; rw [if_neg (by rw [bl_irr]; decide), if_pos rfl]
theorem cmpL_gt {a b : List UInt8} (h : bl b a = true) : cmpL a b = 1 := by
  unfold cmpL
  rw [if_neg (by rw [bl_asymm b a h]; decide), if_neg (by rintro rfl; rw [bl_irr] at h; cases h)]
theorem cmpL_neg (a b : List UInt8) : cmpL b a = - cmpL a b := by
  rcases bl_tri a b with h | h | h
  · rw [cmpL_lt h, cmpL_gt h]; rfl
  · subst h; rw [cmpL_eq]; rfl
  · rw [cmpL_lt h, cmpL_gt h]
theorem cmpL_cases (a b : List UInt8) : (Op.bytesLess a b = true ∧ cmpL a b = -1) ∨ (Op.bytesLess a b = false ∧ (a == b) = true ∧ cmpL a b = 0) ∨ (Op.bytesLess a b = false ∧ (a == b) = false ∧ cmpL a b = 1) := by
  rcases bl_tri a b with h | h | h
  · exact .inl ⟨h, cmpL_lt h⟩
  · subst h; exact .inr (.inl ⟨bl_irr a, beq_self_eq_true a, cmpL_eq a⟩)
  · refine .inr (.inr ⟨bl_asymm b a h, ?_, cmpL_gt h⟩)
    rw [beq_eq_false_iff_ne]; rintro rfl; rw [bl_irr] at h; cases h
end Go.Proofs.Ytcjhkfklkcmehaa.Tx
