/- Texts put together: YShQ0, YShDl0. -/
import Derived.Test.YteffiedolcjjlaaGreatQw01
/- Numbers in groups of seven bits: plain lists, no Go in it. -/
namespace Go.Proofs.YteffiedolcjjlaaGreat.Sh

/-- A number in groups. -/
def putL (n : Nat) : List UInt8 := if n < 128 then [UInt8.ofNat n] else UInt8.ofNat (n % 128 + 128) :: putL (n / 128)
termination_by n
decreasing_by omega
theorem putL_lt {n : Nat} (h : n < 128) : putL n = [UInt8.ofNat n] := by rw [putL, if_pos h]
theorem putL_ge {n : Nat} (h : 128 ≤ n) : putL n = UInt8.ofNat (n % 128 + 128) :: putL (n / 128) := by rw [putL, if_neg (by omega)]
theorem putL_ind {P : Nat → Prop} (h1 : ∀ n, n < 128 → P n) (h2 : ∀ n, 128 ≤ n → P (n / 128) → P n) (n : Nat) : P n := by
  induction n using Nat.strongRecOn with
  | ind n ih =>
    by_cases h : n < 128
    · exact h1 n h
    · exact h2 n (by omega) (ih _ (by omega))
theorem putL_pos (n : Nat) : 0 < (putL n).length := by
  by_cases h : n < 128
  · rw [putL_lt h]; simp
  · rw [putL_ge (by omega)]; simp
theorem putL_len (k : Nat) : ∀ n, n < 128 ^ (k + 1) → (putL n).length ≤ k + 1 := by
  induction k with
  | zero => intro n h; rw [putL_lt (by simpa using h)]; simp
  | succ k ih =>
    intro n h
    by_cases h1 : n < 128
    · rw [putL_lt h1]; simp
    · rw [putL_ge (by omega), List.length_cons]
      have : n / 128 < 128 ^ (k + 1) := by
        rw [Nat.div_lt_iff_lt_mul (by omega), ← Nat.pow_succ]; exact h
      have := ih _ this
      omega
theorem putL_len9 {n : Nat} (h : n ≤ 72057594037927936) : (putL n).length ≤ 9 := putL_len 8 n (by
  have : (128 : Nat) ^ (8 + 1) = 9223372036854775808 := by decide
  omega)
/-- What groups are worth. -/
def valL : List UInt8 → Nat
  | [] => 0
  | c :: r => c.toNat % 128 + 128 * valL r
theorem valL_putL (n : Nat) : valL (putL n) = n := by
  induction n using putL_ind with
  | h1 n h => rw [putL_lt h]; simp [valL]; omega
  | h2 n h ih =>
    rw [putL_ge h]
    show (UInt8.ofNat (n % 128 + 128)).toNat % 128 + 128 * valL (putL (n / 128)) = n
    rw [ih, UInt8.toNat_ofNat']
    omega
theorem valL_lt (g : List UInt8) : valL g < 128 ^ g.length := by
  induction g with
  | nil => simp [valL]
  | cons c r ih =>
    show c.toNat % 128 + 128 * valL r < 128 ^ (r.length + 1)
    rw [Nat.pow_succ]
    omega
theorem valL_drop (g : List UInt8) (i : Nat) (h : i < g.length) : valL (g.drop i) = (g.getD i 0).toNat % 128 + 128 * valL (g.drop (i + 1)) := by
  rw [List.drop_eq_getElem_cons h, List.getD_eq_getElem?_getD, List.getElem?_eq_getElem h]
  rfl
/-- How many bytes ahead of the end of the number. -/
def cont : List UInt8 → Nat
  | [] => 0
  | c :: r => if 128 ≤ c.toNat then cont r + 1 else 0
theorem cont_le (t : List UInt8) : cont t ≤ t.length := by
  induction t with
  | nil => simp [cont]
  | cons c r ih =>
    by_cases h : 128 ≤ c.toNat <;> simp [cont, h]
    exact ih
theorem cont_at (t : List UInt8) : ∀ i, i < cont t → 128 ≤ (t.getD i 0).toNat := by
  induction t with
  | nil => intro i h; simp [cont] at h
  | cons c r ih =>
    intro i hi
    by_cases h : 128 ≤ c.toNat
    · simp [cont, h] at hi
      cases i with
      | zero => exact h
      | succ i => exact ih i (by omega)
    · simp [cont, h] at hi
theorem cont_end (t : List UInt8) (h : cont t < t.length) : (t.getD (cont t) 0).toNat < 128 := by
  induction t with
  | nil => simp [cont] at h
  | cons c r ih =>
    by_cases hc : 128 ≤ c.toNat
    · simp only [cont, if_pos hc] at h ⊢
      exact ih (by simpa using h)
    · simp only [cont, if_neg hc]
      show c.toNat < 128
      omega
theorem cont_eq (t : List UInt8) (k : Nat) (hk : k ≤ t.length) (h : ∀ i, i < k → 128 ≤ (t.getD i 0).toNat) (h2 : k < t.length → (t.getD k 0).toNat < 128) : cont t = k := by
  have a := cont_le t
  rcases Nat.lt_trichotomy (cont t) k with hl | he | hg
  · have := h _ hl
    have := cont_end t (by omega)
    omega
  · exact he
  · have := cont_at t k hg
    have := h2 (by omega)
    omega
/-- Is it a number's end, and just its bytes? -/
def shapeL (g : List UInt8) : Prop := g ≠ [] ∧ (∀ i, i + 1 < g.length → 128 ≤ (g.getD i 0).toNat) ∧ (g.getD (g.length - 1) 0).toNat < 128
theorem shapeL_cons {c d : UInt8} {r : List UInt8} (h : shapeL (c :: d :: r)) : 128 ≤ c.toNat ∧ shapeL (d :: r) :=
  ⟨h.2.1 0 (by simp), by simp, fun i hi => h.2.1 (i + 1) (by simpa using hi), h.2.2⟩
theorem valL_zero {g : List UInt8} (h : shapeL g) (hv : valL g = 0) : g.getD (g.length - 1) 0 = 0 := by
  induction g with
  | nil => exact absurd rfl h.1
  | cons c r ih =>
    have hv' : c.toNat % 128 + 128 * valL r = 0 := hv
    cases r with
    | nil =>
      have hc : c.toNat < 128 := h.2.2
      show c = 0
      exact UInt8.toNat_inj.1 (by show c.toNat = 0; omega)
    | cons d r => exact ih (shapeL_cons h).2 (by omega)
theorem byte_val (c : UInt8) (h : 128 ≤ c.toNat) (v : Nat) : UInt8.ofNat ((c.toNat % 128 + 128 * v) % 128 + 128) = c := by
  apply UInt8.toNat_inj.1
  have := c.toNat_lt
  rw [UInt8.toNat_ofNat']
  omega
theorem putL_valL {g : List UInt8} (h : shapeL g) (hz : g.length = 1 ∨ g.getD (g.length - 1) 0 ≠ 0) : putL (valL g) = g := by
  induction g with
  | nil => exact absurd rfl h.1
  | cons c r ih =>
    cases r with
    | nil =>
      have hc : c.toNat < 128 := h.2.2
      have e : valL [c] = c.toNat := by show c.toNat % 128 + 128 * 0 = _; omega
      rw [e, putL_lt hc]
      simp
    | cons d r =>
      obtain ⟨hc, hs⟩ := shapeL_cons h
      have hl : (d :: r).getD ((d :: r).length - 1) 0 ≠ 0 := hz.resolve_left (by simp)
      have hv : valL (d :: r) ≠ 0 := fun e => hl (valL_zero hs e)
      show putL (c.toNat % 128 + 128 * valL (d :: r)) = _
      rw [putL_ge (by omega), show (c.toNat % 128 + 128 * valL (d :: r)) / 128 = valL (d :: r) from by omega, ih hs (Or.inr hl), byte_val c hc]
theorem putL_not {g : List UInt8} (h : 1 < g.length) (hl : g.getD (g.length - 1) 0 = 0) : ∀ n, putL n ≠ g := by
  intro n
  induction n using putL_ind generalizing g with
  | h1 n hn => rw [putL_lt hn]; intro e; rw [← e] at h; simp at h
  | h2 n hn ih =>
    rw [putL_ge hn]
    intro e
    cases g with
    | nil => simp at h
    | cons c r =>
      injection e with _ e
      by_cases h1 : 1 < r.length
      · refine ih h1 ?_ e
        cases r with
        | nil => simp at h1
        | cons d r => exact hl
      · cases r with
        | nil => simp at h
        | cons d r =>
          have hr : r = [] := by cases r with | nil => rfl | cons _ _ => simp at h1
          subst hr
          have hd : d = 0 := hl
          subst hd
          have h2 := congrArg valL e
          rw [valL_putL] at h2
          have h3 : n / 128 = 0 := by rw [h2]; rfl
          omega
theorem shapeL_putL (n : Nat) : shapeL (putL n) := by
  induction n using putL_ind with
  | h1 n h =>
    rw [putL_lt h]
    refine ⟨by simp, fun i hi => by simp at hi, ?_⟩
    show (UInt8.ofNat n).toNat < 128
    rw [UInt8.toNat_ofNat']; omega
  | h2 n h ih =>
    rw [putL_ge h]
    have hp := putL_pos (n / 128)
    refine ⟨by simp, fun i hi => ?_, ?_⟩
    · cases i with
      | zero => show 128 ≤ (UInt8.ofNat (n % 128 + 128)).toNat; rw [UInt8.toNat_ofNat']; omega
      | succ i => exact ih.2.1 i (by simpa using hi)
    · have := ih.2.2
      rw [List.length_cons, Nat.add_sub_cancel]
      obtain ⟨m, hm⟩ : ∃ m, (putL (n / 128)).length = m + 1 := ⟨(putL (n / 128)).length - 1, by omega⟩
      rw [hm] at this ⊢
      exact this
theorem cont_take {t : List UInt8} (h : cont t < t.length) : shapeL (t.take (cont t + 1)) ∧ (t.take (cont t + 1)).length = cont t + 1 := by
  have hl : (t.take (cont t + 1)).length = cont t + 1 := by rw [List.length_take]; omega
  refine ⟨⟨fun e => by rw [e] at hl; simp at hl, fun i hi => ?_, ?_⟩, hl⟩
  · rw [hl] at hi
    rw [List.getD_eq_getElem?_getD, List.getElem?_take, if_pos (by omega), ← List.getD_eq_getElem?_getD]
    exact cont_at t i (by omega)
  · rw [hl, Nat.add_sub_cancel, List.getD_eq_getElem?_getD, List.getElem?_take, if_pos (by omega), ← List.getD_eq_getElem?_getD]
    exact cont_end t h
theorem cont_putL (n : Nat) (r : List UInt8) : cont (putL n ++ r) + 1 = (putL n).length := by
  have hs := shapeL_putL n
  have hp := putL_pos n
  have : cont (putL n ++ r) = (putL n).length - 1 := by
    refine cont_eq _ _ (by simp; omega) (fun i hi => ?_) (fun _ => ?_)
    · rw [List.getD_eq_getElem?_getD, List.getElem?_append_left (by omega), ← List.getD_eq_getElem?_getD]
      exact hs.2.1 i (by omega)
    · rw [List.getD_eq_getElem?_getD, List.getElem?_append_left (by omega), ← List.getD_eq_getElem?_getD]
      exact hs.2.2
  omega

/-- May these bytes stand for a number? -/
def okL (g : List UInt8) : Bool := putL (valL g) == g && decide (valL g ≤ 72057594037927936)
theorem okL_long {g : List UInt8} (h : 9 < g.length) : okL g = false := by
  unfold okL
  rw [Bool.and_eq_false_iff]
  by_cases hv : valL g ≤ 72057594037927936
  · left
    rw [beq_eq_false_iff_ne]
    intro e
    have := putL_len9 hv
    rw [e] at this
    omega
  · right; exact decide_eq_false hv
theorem okL_zero {g : List UInt8} (h : 1 < g.length) (hl : g.getD (g.length - 1) 0 = 0) : okL g = false := by
  unfold okL
  rw [beq_eq_false_iff_ne.2 (putL_not h hl _), Bool.false_and]
theorem okL_else {g : List UInt8} (h : shapeL g) (hz : g.length = 1 ∨ g.getD (g.length - 1) 0 ≠ 0) : okL g = decide (valL g ≤ 72057594037927936) := by
  unfold okL
  rw [beq_iff_eq.2 (putL_valL h hz), Bool.true_and]
theorem okL_putL {n : Nat} (h : n ≤ 72057594037927936) : okL (putL n) = true := by
  unfold okL
  rw [valL_putL, beq_self_eq_true, Bool.true_and]
  exact decide_eq_true h

/-- What reading at the head of t answers: the number, its size, what went wrong. -/
def getE (t : List UInt8) : Nat × Nat × Nat :=
  if cont t = t.length then (0, 0, 2) else if okL (t.take (cont t + 1)) = true then (valL (t.take (cont t + 1)), cont t + 1, 0) else (0, 0, 4)
theorem getE_short {t : List UInt8} (h : cont t = t.length) : getE t = (0, 0, 2) := by unfold getE; rw [if_pos h]
theorem getE_form {t : List UInt8} (h : cont t < t.length) (ho : okL (t.take (cont t + 1)) = false) : getE t = (0, 0, 4) := by unfold getE; rw [if_neg (by omega), if_neg (by rw [ho]; decide)]
theorem getE_ok {t : List UInt8} (h : cont t < t.length) (ho : okL (t.take (cont t + 1)) = true) : getE t = (valL (t.take (cont t + 1)), cont t + 1, 0) := by unfold getE; rw [if_neg (by omega), if_pos ho]
theorem getE_putL {n : Nat} (h : n ≤ 72057594037927936) (r : List UInt8) : getE (putL n ++ r) = (n, (putL n).length, 0) := by
  have hc := cont_putL n r
  have e : (putL n ++ r).take (cont (putL n ++ r) + 1) = putL n := by rw [hc, List.take_left]
  rw [getE_ok (by rw [List.length_append]; omega) (by rw [e]; exact okL_putL h), e, valL_putL, hc]
/-- ... and at a place of bs: the number, its end, what went wrong. -/
def getR (bs : List UInt8) (at_ : Int) : Int × Int × Int :=
  if at_ < 0 ∨ (bs.length : Int) < at_ then (0, 0, 1) else
    if (getE (bs.drop at_.toNat)).2.2 = 0 then (((getE (bs.drop at_.toNat)).1 : Int), at_ + ((getE (bs.drop at_.toNat)).2.1 : Int), 0) else (0, 0, ((getE (bs.drop at_.toNat)).2.2 : Int))
theorem getR_range {bs : List UInt8} {a : Int} (h : a < 0 ∨ (bs.length : Int) < a) : getR bs a = (0, 0, 1) := by unfold getR; rw [if_pos h]
theorem getR_in {bs : List UInt8} {k : Nat} (h : k ≤ bs.length) : getR bs k = if (getE (bs.drop k)).2.2 = 0 then (((getE (bs.drop k)).1 : Int), (k : Int) + ((getE (bs.drop k)).2.1 : Int), 0) else (0, 0, ((getE (bs.drop k)).2.2 : Int)) := by
  unfold getR
  rw [if_neg (by omega), Int.toNat_natCast]
theorem getR_short {bs : List UInt8} {k : Nat} (h : k ≤ bs.length) (hc : cont (bs.drop k) = (bs.drop k).length) : getR bs k = (0, 0, 2) := by
  rw [getR_in h, getE_short hc]; rfl
theorem getR_form {bs : List UInt8} {k : Nat} (h : k ≤ bs.length) (hc : cont (bs.drop k) < (bs.drop k).length) (ho : okL ((bs.drop k).take (cont (bs.drop k) + 1)) = false) : getR bs k = (0, 0, 4) := by
  rw [getR_in h, getE_form hc ho]; rfl
theorem getR_ok {bs : List UInt8} {k : Nat} (h : k ≤ bs.length) (hc : cont (bs.drop k) < (bs.drop k).length) (ho : okL ((bs.drop k).take (cont (bs.drop k) + 1)) = true) :
    getR bs k = ((valL ((bs.drop k).take (cont (bs.drop k) + 1)) : Int), (k : Int) + ((cont (bs.drop k) + 1 : Nat) : Int), 0) := by
  rw [getR_in h, getE_ok hc ho]; rfl
end Go.Proofs.YteffiedolcjjlaaGreat.Sh
/- Deltas: plain lists, no Go in it. -/
set_option linter.unusedVariables false
set_option linter.unusedSimpArgs false
namespace Go.Proofs.YteffiedolcjjlaaGreat.Sh

theorem getE_cases (t : List UInt8) : getE t = (0, 0, 2) ∨ getE t = (0, 0, 4) ∨
    ∃ n, getE t = (n, (putL n).length, 0) ∧ (putL n).length ≤ t.length ∧ n ≤ 72057594037927936 ∧ t.take (putL n).length = putL n := by
  by_cases h : cont t = t.length
  · exact .inl (getE_short h)
  · have hlt : cont t < t.length := by have := cont_le t; omega
    obtain ⟨_, hgl⟩ := cont_take hlt
    cases ho : okL (t.take (cont t + 1)) with
    | false => exact .inr (.inl (getE_form hlt ho))
    | true =>
      refine .inr (.inr ⟨valL (t.take (cont t + 1)), ?_⟩)
      have ho' := ho
      unfold okL at ho'
      rw [Bool.and_eq_true, beq_iff_eq, decide_eq_true_eq] at ho'
      have hl : (putL (valL (t.take (cont t + 1)))).length = cont t + 1 := by rw [ho'.1, hgl]
      rw [hl]
      exact ⟨getE_ok hlt ho, by omega, ho'.2, ho'.1.symm⟩

theorem getR_cases (bs : List UInt8) (k : Nat) (hk : k ≤ bs.length) : (∃ e : Int, getR bs (k : Int) = (0, 0, e) ∧ (e = 2 ∨ e = 4)) ∨
    ∃ n : Nat, getR bs (k : Int) = ((n : Int), ((k + (putL n).length : Nat) : Int), 0) ∧ k + (putL n).length ≤ bs.length ∧ n ≤ 72057594037927936 ∧ (bs.drop k).take (putL n).length = putL n := by
  rw [getR_in hk]
  rcases getE_cases (bs.drop k) with h | h | ⟨n, h, hl, hn, ht⟩
  · left; exact ⟨2, by rw [h]; rfl, .inl rfl⟩
  · left; exact ⟨4, by rw [h]; rfl, .inr rfl⟩
  · right
    rw [List.length_drop] at hl
    exact ⟨n, by rw [h]; simp, by omega, hn, ht⟩

/-- Two numbers one behind the other: both, where they end, what went wrong. -/
def two (bs : List UInt8) (k : Int) : Int × Int × Int × Int :=
  if (getR bs k).2.2 = 0 then
    (if (getR bs (getR bs k).2.1).2.2 = 0 then ((getR bs k).1, (getR bs (getR bs k).2.1).1, (getR bs (getR bs k).2.1).2.1, 0) else (0, 0, 0, (getR bs (getR bs k).2.1).2.2))
  else (0, 0, 0, (getR bs k).2.2)
theorem two_fst {bs : List UInt8} {k e : Int} (h : getR bs k = (0, 0, e)) (he : e ≠ 0) : two bs k = (0, 0, 0, e) := by unfold two; rw [h]; exact if_neg he
theorem two_snd {bs : List UInt8} {k a p e : Int} (h : getR bs k = (a, p, 0)) (h2 : getR bs p = (0, 0, e)) (he : e ≠ 0) : two bs k = (0, 0, 0, e) := by
  unfold two; rw [h]; rw [if_pos rfl]; show (if (getR bs p).2.2 = 0 then _ else _) = _; rw [h2]; exact if_neg he
theorem two_ok {bs : List UInt8} {k a p b q : Int} (h : getR bs k = (a, p, 0)) (h2 : getR bs p = (b, q, 0)) : two bs k = (a, b, q, 0) := by
  unfold two; rw [h]; rw [if_pos rfl]; show (if (getR bs p).2.2 = 0 then _ else _) = _; rw [h2]; exact if_pos rfl
theorem two_cases (bs : List UInt8) (k : Nat) (hk : k ≤ bs.length) : (∃ e : Int, two bs (k : Int) = (0, 0, 0, e) ∧ (e = 2 ∨ e = 4)) ∨
    ∃ a b : Nat, two bs (k : Int) = ((a : Int), (b : Int), ((k + (putL a).length + (putL b).length : Nat) : Int), 0) ∧ k + (putL a).length + (putL b).length ≤ bs.length ∧ a ≤ 72057594037927936 ∧ b ≤ 72057594037927936 := by
  rcases getR_cases bs k hk with ⟨e, h, he⟩ | ⟨a, h, hl, ha, _⟩
  · exact .inl ⟨e, two_fst h (by omega), he⟩
  · rcases getR_cases bs _ hl with ⟨e, h2, he⟩ | ⟨b, h2, hl2, hb, _⟩
    · exact .inl ⟨e, two_snd h h2 (by omega), he⟩
    · exact .inr ⟨a, b, two_ok h h2, hl2, ha, hb⟩

/-- A step of a delta: the bytes that it tells, where it ends, what is wrong. -/
def stepD (base d : List UInt8) (k : Nat) : List UInt8 × Int × Int :=
  if d.getD k 0 = 1 then
    (if (two d ((k + 1 : Nat) : Int)).2.2.2 ≠ 0 then ([], 0, (two d ((k + 1 : Nat) : Int)).2.2.2) else if (two d ((k + 1 : Nat) : Int)).2.1 = 0 then ([], 0, 4) else
      if (base.length : Int) < (two d ((k + 1 : Nat) : Int)).1 + (two d ((k + 1 : Nat) : Int)).2.1 then ([], 0, 1) else
        ((base.drop (two d ((k + 1 : Nat) : Int)).1.toNat).take (two d ((k + 1 : Nat) : Int)).2.1.toNat, (two d ((k + 1 : Nat) : Int)).2.2.1, 0))
  else if d.getD k 0 = 2 then
    (if (getR d ((k + 1 : Nat) : Int)).2.2 ≠ 0 then ([], 0, (getR d ((k + 1 : Nat) : Int)).2.2) else if (getR d ((k + 1 : Nat) : Int)).1 = 0 then ([], 0, 4) else
      if (d.length : Int) - (getR d ((k + 1 : Nat) : Int)).2.1 < (getR d ((k + 1 : Nat) : Int)).1 then ([], 0, 2) else
        ((d.drop (getR d ((k + 1 : Nat) : Int)).2.1.toNat).take (getR d ((k + 1 : Nat) : Int)).1.toNat, (getR d ((k + 1 : Nat) : Int)).2.1 + (getR d ((k + 1 : Nat) : Int)).1, 0))
  else ([], 0, 4)

/-- The four ways of a step, as a walk meets them. -/
theorem step_none {base d : List UInt8} {k : Nat} (h1 : d.getD k 0 ≠ 1) (h2 : d.getD k 0 ≠ 2) : stepD base d k = ([], 0, 4) := by unfold stepD; rw [if_neg h1, if_neg h2]
theorem copy_err {base d : List UInt8} {k : Nat} (h1 : d.getD k 0 = 1) {e : Int} (h : two d ((k + 1 : Nat) : Int) = (0, 0, 0, e)) (he : e ≠ 0) : stepD base d k = ([], 0, e) := by
  unfold stepD; rw [if_pos h1, h]; exact if_pos he
theorem copy_zero {base d : List UInt8} {k : Nat} (h1 : d.getD k 0 = 1) {a q : Int} (h : two d ((k + 1 : Nat) : Int) = (a, 0, q, 0)) : stepD base d k = ([], 0, 4) := by
  unfold stepD; rw [if_pos h1, h]; rfl
theorem copy_range {base d : List UInt8} {k : Nat} (h1 : d.getD k 0 = 1) {a b q : Int} (h : two d ((k + 1 : Nat) : Int) = (a, b, q, 0)) (hb : b ≠ 0) (hr : (base.length : Int) < a + b) : stepD base d k = ([], 0, 1) := by
  unfold stepD; rw [if_pos h1, h]; rw [if_neg (by simp)]; rw [if_neg hb]; exact if_pos hr
theorem copy_ok {base d : List UInt8} {k : Nat} (h1 : d.getD k 0 = 1) {a b : Nat} {q : Int} (h : two d ((k + 1 : Nat) : Int) = ((a : Int), (b : Int), q, 0)) (hb : b ≠ 0) (hr : a + b ≤ base.length) :
    stepD base d k = ((base.drop a).take b, q, 0) := by
  unfold stepD; rw [if_pos h1, h]; rw [if_neg (by simp)]; rw [if_neg (by simpa using hb)]; exact if_neg (by simp only; omega)
theorem ins_err {base d : List UInt8} {k : Nat} (h2 : d.getD k 0 = 2) {e : Int} (h : getR d ((k + 1 : Nat) : Int) = (0, 0, e)) (he : e ≠ 0) : stepD base d k = ([], 0, e) := by
  unfold stepD; rw [if_neg (by rw [h2]; decide), if_pos h2, h]; exact if_pos he
theorem ins_zero {base d : List UInt8} {k : Nat} (h2 : d.getD k 0 = 2) {q : Int} (h : getR d ((k + 1 : Nat) : Int) = (0, q, 0)) : stepD base d k = ([], 0, 4) := by
  unfold stepD; rw [if_neg (by rw [h2]; decide), if_pos h2, h]; rfl
theorem ins_short {base d : List UInt8} {k : Nat} (h2 : d.getD k 0 = 2) {n q : Int} (h : getR d ((k + 1 : Nat) : Int) = (n, q, 0)) (hn : n ≠ 0) (hr : (d.length : Int) - q < n) : stepD base d k = ([], 0, 2) := by
  unfold stepD; rw [if_neg (by rw [h2]; decide), if_pos h2, h]; rw [if_neg (by simp)]; rw [if_neg hn]; exact if_pos hr
theorem ins_ok {base d : List UInt8} {k : Nat} (h2 : d.getD k 0 = 2) {n q : Nat} (h : getR d ((k + 1 : Nat) : Int) = ((n : Int), (q : Int), 0)) (hn : n ≠ 0) (hr : q + n ≤ d.length) :
    stepD base d k = ((d.drop q).take n, ((q + n : Nat) : Int), 0) := by
  unfold stepD; rw [if_neg (by rw [h2]; decide), if_pos h2, h]; rw [if_neg (by simp)]; rw [if_neg (by simpa using hn)]; rw [if_neg (by simp only; omega)]; simp

theorem step_cases (base d : List UInt8) (k : Nat) (hk : k < d.length) : (∃ e : Int, stepD base d k = ([], 0, e) ∧ 1 ≤ e ∧ e ≤ 4) ∨
    ∃ (p : List UInt8) (q : Nat), stepD base d k = (p, (q : Int), 0) ∧ k < q ∧ q ≤ d.length ∧ 0 < p.length := by
  by_cases h1 : d.getD k 0 = 1
  · rcases two_cases d (k + 1) hk with ⟨e, h, he⟩ | ⟨a, b, h, hl, ha, hb⟩
    · exact .inl ⟨e, copy_err h1 h (by omega), by omega, by omega⟩
    · by_cases hz : b = 0
      · subst hz; exact .inl ⟨4, copy_zero h1 h, by omega, by omega⟩
      · by_cases hr : a + b ≤ base.length
        · exact .inr ⟨_, _, copy_ok h1 h hz hr, by omega, hl, by simp; omega⟩
        · exact .inl ⟨1, copy_range h1 h (by omega) (by omega), by omega, by omega⟩
  · by_cases h2 : d.getD k 0 = 2
    · rcases getR_cases d (k + 1) hk with ⟨e, h, he⟩ | ⟨n, h, hl, hn, _⟩
      · exact .inl ⟨e, ins_err h2 h (by omega), by omega, by omega⟩
      · by_cases hz : n = 0
        · subst hz; exact .inl ⟨4, ins_zero h2 h, by omega, by omega⟩
        · by_cases hr : k + 1 + (putL n).length + n ≤ d.length
          · exact .inr ⟨_, _, ins_ok h2 h hz hr, by omega, hr, by simp; omega⟩
          · exact .inl ⟨2, ins_short h2 h (by omega) (by omega), by omega, by omega⟩
    · exact .inl ⟨4, step_none h1 h2, by omega, by omega⟩

/-- Steps from a place on, behind what they told. -/
def runD (base d : List UInt8) (most : Nat) : Nat → Nat → List UInt8 → List UInt8 × Int
  | 0, _, _ => ([], 0)
  | f + 1, k, out =>
    if d.length ≤ k then (if out.length < most then ([], 2) else (out, 0)) else
      if (stepD base d k).2.2 ≠ 0 then ([], (stepD base d k).2.2) else
        if most < out.length + (stepD base d k).1.length then ([], 3) else runD base d most f (stepD base d k).2.1.toNat (out ++ (stepD base d k).1)
theorem run_end {base d : List UInt8} {most f k : Nat} {out : List UInt8} (h : d.length ≤ k) : runD base d most (f + 1) k out = if out.length < most then ([], 2) else (out, 0) := by rw [runD, if_pos h]
theorem run_err {base d : List UInt8} {most f k : Nat} {out : List UInt8} (h : k < d.length) {e : Int} (hs : stepD base d k = ([], 0, e)) (he : e ≠ 0) : runD base d most (f + 1) k out = ([], e) := by
  rw [runD, if_neg (by omega), hs]; exact if_pos he
theorem run_long {base d : List UInt8} {most f k : Nat} {out p : List UInt8} {q : Int} (h : k < d.length) (hs : stepD base d k = (p, q, 0)) (hl : most < out.length + p.length) : runD base d most (f + 1) k out = ([], 3) := by
  rw [runD, if_neg (by omega), hs]; rw [if_neg (by simp)]; exact if_pos hl
theorem run_on {base d : List UInt8} {most f k q : Nat} {out p : List UInt8} (h : k < d.length) (hs : stepD base d k = (p, (q : Int), 0)) (hl : out.length + p.length ≤ most) :
    runD base d most (f + 1) k out = runD base d most f q (out ++ p) := by
  rw [runD, if_neg (by omega), hs]; rw [if_neg (by simp)]; rw [if_neg (by simp only; omega)]; simp

/-- The target that d tells by base, what is wrong. -/
def applyD (base d : List UInt8) : List UInt8 × Int :=
  if (two d 0).2.2.2 ≠ 0 then ([], (two d 0).2.2.2) else if (two d 0).1 ≠ (base.length : Int) then ([], 5) else if 20000 < (two d 0).2.1 then ([], 3) else
    runD base d (two d 0).2.1.toNat (d.length + 1) (two d 0).2.2.1.toNat []
theorem apply_err {base d : List UInt8} {e : Int} (h : two d 0 = (0, 0, 0, e)) (he : e ≠ 0) : applyD base d = ([], e) := by unfold applyD; rw [h]; exact if_pos he
theorem apply_sum {base d : List UInt8} {a b q : Int} (h : two d 0 = (a, b, q, 0)) (hn : a ≠ (base.length : Int)) : applyD base d = ([], 5) := by unfold applyD; rw [h]; rw [if_neg (by simp)]; exact if_pos hn
theorem apply_long {base d : List UInt8} {a b q : Int} (h : two d 0 = (a, b, q, 0)) (hn : a = (base.length : Int)) (hb : 20000 < b) : applyD base d = ([], 3) := by
  unfold applyD; rw [h]; rw [if_neg (by simp)]; rw [if_neg (by simpa using hn)]; exact if_pos hb
theorem apply_run {base d : List UInt8} {b q : Nat} (h : two d 0 = ((base.length : Int), (b : Int), (q : Int), 0)) (hb : b ≤ 20000) : applyD base d = runD base d b (d.length + 1) q [] := by
  unfold applyD; rw [h]; rw [if_neg (by simp)]; rw [if_neg (by simp)]; rw [if_neg (by simp only; omega)]; simp
/-- A step of a delta that is made. -/
inductive Stp where
  | ins (bs : List UInt8)
  | cop (p n : Nat)
def encS : Stp → List UInt8
  | .ins bs => 2 :: (putL bs.length ++ bs)
  | .cop p n => 1 :: (putL p ++ putL n)
def toldS (base : List UInt8) : Stp → List UInt8
  | .ins bs => bs
  | .cop p n => (base.drop p).take n
def okS (base : List UInt8) : Stp → Prop
  | .ins bs => 0 < bs.length ∧ bs.length ≤ 72057594037927936
  | .cop p n => 0 < n ∧ p + n ≤ base.length
def encs (ss : List Stp) : List UInt8 := (ss.map encS).flatten
def tolds (base : List UInt8) (ss : List Stp) : List UInt8 := (ss.map (toldS base)).flatten
theorem encs_cons (s : Stp) (ss : List Stp) : encs (s :: ss) = encS s ++ encs ss := rfl
theorem encs_append (a b : List Stp) : encs (a ++ b) = encs a ++ encs b := by unfold encs; rw [List.map_append, List.flatten_append]
/-- A delta out of its parts. -/
def headD (from_ most : Nat) : List UInt8 := putL from_ ++ putL most
end Go.Proofs.YteffiedolcjjlaaGreat.Sh
