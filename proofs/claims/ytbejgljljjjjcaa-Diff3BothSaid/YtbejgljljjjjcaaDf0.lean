/- Chapter 15, over plain values: the lines that both matches keep, the chunks. (No package's code in it.) -/
import Derived.Test.YtbejgljljjjjcaaLn3
set_option linter.unusedVariables false
set_option linter.unusedSimpArgs false
namespace Go.Proofs.Ytbejgljljjjjcaa.Ln

/-- A place of each of three texts. -/
abbrev Tri := Nat × Nat × Nat
def onT (t : Tri) (n : Nat) : Tri := (t.1 + n, t.2.1 + n, t.2.2 + n)
theorem onT_zero (t : Tri) : onT t 0 = t := rfl
theorem onT_on (t : Tri) (n m : Nat) : onT (onT t n) m = onT t (n + m) := by
  unfold onT
  simp only [Nat.add_assoc]
theorem onT_succ (t : Tri) (n : Nat) : onT (onT t 1) n = onT t (n + 1) := by rw [onT_on, Nat.add_comm]
def leT (s t : Tri) : Prop := s.1 ≤ t.1 ∧ s.2.1 ≤ t.2.1 ∧ s.2.2 ≤ t.2.2
theorem leT.refl (s : Tri) : leT s s := ⟨Nat.le_refl _, Nat.le_refl _, Nat.le_refl _⟩
theorem leT.trans {s t u : Tri} (h : leT s t) (h' : leT t u) : leT s u := ⟨Nat.le_trans h.1 h'.1, Nat.le_trans h.2.1 h'.2.1, Nat.le_trans h.2.2 h'.2.2⟩
theorem leT.on (s : Tri) (n : Nat) : leT s (onT s n) := ⟨Nat.le_add_right _ _, Nat.le_add_right _ _, Nat.le_add_right _ _⟩
def sumT (t : Tri) : Nat := t.1 + t.2.1 + t.2.2
theorem leT.lt {s t : Tri} (h : leT s t) (hne : s ≠ t) : sumT s < sumT t := by
  obtain ⟨a, b, c⟩ := s
  obtain ⟨a', b', c'⟩ := t
  unfold leT at h
  unfold sumT
  simp only at h ⊢
  rcases Nat.lt_or_ge (a + b + c) (a' + b' + c') with h1 | h1
  · exact h1
  · exact absurd (by rw [show a = a' by omega, show b = b' by omega, show c = c' by omega]) hne

/-- The lines of the first that both matches pair. -/
def keptL : List (Nat × Nat) → List (Nat × Nat) → List Tri
  | [], _ => []
  | _ :: _, [] => []
  | p :: ps, q :: qs => if p.1 = q.1 then (p.1, p.2, q.2) :: keptL ps qs else if p.1 < q.1 then keptL ps (q :: qs) else keptL (p :: ps) qs
termination_by a b => a.length + b.length
theorem keptL_nil (q : List (Nat × Nat)) : keptL [] q = [] := by rw [keptL]
theorem keptL_nil' (p : List (Nat × Nat)) : keptL p [] = [] := by cases p <;> rw [keptL]
theorem keptL_cons (p q : Nat × Nat) (ps qs : List (Nat × Nat)) : keptL (p :: ps) (q :: qs) = if p.1 = q.1 then (p.1, p.2, q.2) :: keptL ps qs else if p.1 < q.1 then keptL ps (q :: qs) else keptL (p :: ps) qs := by rw [keptL]

section
variable {α : Type}
structure Ck (α : Type) where
  kind : Nat
  o : List α
  a : List α
  b : List α
def cutL (l : List α) (i j : Nat) : List α := (l.drop i).take (j - i)
def kindL [DecidableEq α] (o a b : List α) : Nat := if b = o then 2 else if a = o then 3 else if a = b then 4 else 5
/-- The lines from s to t, of a kind. -/
def pieceL (k : Nat) (o a b : List α) (s t : Tri) : Ck α := ⟨k, cutL o s.1 t.1, cutL a s.2.1 t.2.1, cutL b s.2.2 t.2.2⟩
def stabL (o a b : List α) (s t : Tri) : List (Ck α) := if s = t then [] else [pieceL 1 o a b s t]
def gapC [DecidableEq α] (o a b : List α) (s t : Tri) : List (Ck α) := if s = t then [] else [pieceL (kindL (cutL o s.1 t.1) (cutL a s.2.1 t.2.1) (cutL b s.2.2 t.2.2)) o a b s t]
/-- The chunks: s is where the stable lines began, t how far they go. -/
def chkL [DecidableEq α] (o a b : List α) (e : Tri) : List Tri → Tri → Tri → List (Ck α)
  | [], s, t => stabL o a b s t ++ gapC o a b t e
  | x :: K, s, t => if x = t then chkL o a b e K s (onT t 1) else stabL o a b s t ++ (gapC o a b t x ++ chkL o a b e K x (onT x 1))
def endT (o a b : List α) : Tri := (o.length, a.length, b.length)
/-- What is kept rises, and bears one line. -/
def KOk (o a b : List α) : Tri → List Tri → Prop
  | s, [] => leT s (endT o a b)
  | s, x :: K => leT s x ∧ x.1 < o.length ∧ x.2.1 < a.length ∧ x.2.2 < b.length ∧ o[x.1]? = a[x.2.1]? ∧ o[x.1]? = b[x.2.2]? ∧ KOk o a b (onT x 1) K
theorem KOk.le {o a b : List α} : ∀ {s : Tri} {K : List Tri}, KOk o a b s K → leT s (endT o a b)
  | _, [], h => h
  | s, x :: K, h => h.1.trans ⟨Nat.le_of_lt h.2.1, Nat.le_of_lt h.2.2.1, Nat.le_of_lt h.2.2.2.1⟩
theorem KOk.less {o a b : List α} : ∀ {s s' : Tri} {K : List Tri}, KOk o a b s K → leT s' s → KOk o a b s' K
  | _, _, [], h, h' => h'.trans h
  | _, _, x :: K, h, h' => ⟨h'.trans h.1, h.2⟩
theorem prsOk_le {a b : List α} : ∀ {ps : List (Nat × Nat)} {i j : Nat}, PrsOk a b i j ps → i ≤ a.length ∧ j ≤ b.length
  | [], i, j, h => h
  | (p, q) :: ps, i, j, h => ⟨Nat.le_trans h.1 (Nat.le_of_lt h.2.2.1), Nat.le_trans h.2.1 (Nat.le_of_lt h.2.2.2.1)⟩
theorem prsOk_less {a b : List α} : ∀ {ps : List (Nat × Nat)} {i j i' j' : Nat}, PrsOk a b i j ps → i' ≤ i → j' ≤ j → PrsOk a b i' j' ps
  | [], i, j, i', j', h, h1, h2 => ⟨Nat.le_trans h1 h.1, Nat.le_trans h2 h.2⟩
  | (p, q) :: ps, i, j, i', j', h, h1, h2 => ⟨Nat.le_trans h1 h.1, Nat.le_trans h2 h.2.1, h.2.2⟩
theorem kept_ok {o a b : List α} : ∀ (n : Nat) {P Q : List (Nat × Nat)} {i j i' k : Nat} {s : Tri}, P.length + Q.length ≤ n → PrsOk o a i j P → PrsOk o b i' k Q → s.1 ≤ i → s.1 ≤ i' → s.2.1 ≤ j → s.2.2 ≤ k → KOk o a b s (keptL P Q)
  | n, [], Q, i, j, i', k, s, hn, hP, hQ, h1, h2, h3, h4 => by
    rw [keptL_nil]
    exact ⟨Nat.le_trans h1 hP.1, Nat.le_trans h3 hP.2, Nat.le_trans h4 (prsOk_le hQ).2⟩
  | n, p :: P, [], i, j, i', k, s, hn, hP, hQ, h1, h2, h3, h4 => by
    rw [keptL_nil']
    exact ⟨Nat.le_trans h2 hQ.1, Nat.le_trans h3 (prsOk_le hP).2, Nat.le_trans h4 hQ.2⟩
  | 0, p :: P, q :: Q, i, j, i', k, s, hn, hP, hQ, h1, h2, h3, h4 => by simp at hn
  | n + 1, p :: P, q :: Q, i, j, i', k, s, hn, hP, hQ, h1, h2, h3, h4 => by
    obtain ⟨p1, p2⟩ := p
    obtain ⟨q1, q2⟩ := q
    obtain ⟨a1, a2, a3, a4, a5, a6⟩ := hP
    obtain ⟨b1, b2, b3, b4, b5, b6⟩ := hQ
    simp only [List.length_cons] at hn
    rw [keptL_cons]
    by_cases he : p1 = q1
    · rw [if_pos he]
      subst he
      refine ⟨⟨by simp only; omega, by simp only; omega, by simp only; omega⟩, a3, a4, b4, a5, b5, ?_⟩
      exact kept_ok n (by omega) a6 b6 (Nat.le_refl _) (Nat.le_refl _) (Nat.le_refl _) (Nat.le_refl _)
    · rw [if_neg he]
      by_cases hl : p1 < q1
      · rw [if_pos hl]
        exact kept_ok n (by simp only [List.length_cons]; omega) a6 ⟨b1, b2, b3, b4, b5, b6⟩ (by omega) h2 (by omega) h4
      · rw [if_neg hl]
        exact kept_ok n (by simp only [List.length_cons]; omega) ⟨a1, a2, a3, a4, a5, a6⟩ b6 h1 (by omega) h3 (by omega)
/-- How many of the kept lines stand at a place, one beside the other. -/
def togL : List Tri → Tri → Nat
  | [], _ => 0
  | x :: K, t => if x = t then togL K (onT t 1) + 1 else 0
theorem tog_le : ∀ (K : List Tri) (t : Tri), togL K t ≤ K.length
  | [], _ => Nat.le_refl _
  | x :: K, t => by
    unfold togL
    split
    · have := tog_le K (onT t 1); rw [List.length_cons]; omega
    · exact Nat.zero_le _
theorem tog_at : ∀ (K : List Tri) (t : Tri) (i : Nat), i < togL K t → K[i]? = some (onT t i)
  | [], t, i, h => by simp [togL] at h
  | x :: K, t, i, h => by
    unfold togL at h
    split at h
    · rename_i e
      cases i with
      | zero => rw [List.getElem?_cons_zero, e]; rfl
      | succ i => rw [List.getElem?_cons_succ, tog_at K (onT t 1) i (by omega), onT_succ]
    · omega
theorem tog_end : ∀ (K : List Tri) (t : Tri), K[togL K t]? ≠ some (onT t (togL K t))
  | [], t => by simp
  | x :: K, t => by
    unfold togL
    split
    · rw [List.getElem?_cons_succ, ← onT_succ t (togL K (onT t 1))]
      exact tog_end K (onT t 1)
    · rename_i e
      rw [List.getElem?_cons_zero, onT_zero]
      intro h
      injection h with h
      exact e h
theorem tog_of (K : List Tri) (t : Tri) (n : Nat) (h1 : ∀ i, i < n → K[i]? = some (onT t i)) (h2 : K[n]? ≠ some (onT t n)) : togL K t = n := by
  rcases Nat.lt_trichotomy (togL K t) n with h | h | h
  · exact absurd (h1 _ h) (tog_end K t)
  · exact h
  · exact absurd (tog_at K t n h) h2
theorem tog_ok {o a b : List α} : ∀ {K : List Tri} {t : Tri}, KOk o a b t K → KOk o a b (onT t (togL K t)) (K.drop (togL K t))
  | [], t, h => h
  | x :: K, t, h => by
    unfold togL
    split
    · rename_i e
      subst e
      rw [List.drop_succ_cons, ← onT_succ x (togL K (onT x 1))]
      exact tog_ok h.2.2.2.2.2.2
    · exact h
theorem tog_chk [DecidableEq α] (o a b : List α) (e : Tri) : ∀ (K : List Tri) (s t : Tri), chkL o a b e K s t = chkL o a b e (K.drop (togL K t)) s (onT t (togL K t))
  | [], s, t => rfl
  | x :: K, s, t => by
    unfold togL
    split
    · rename_i h
      rw [List.drop_succ_cons, ← onT_succ t (togL K (onT t 1)), ← tog_chk o a b e K s (onT t 1), chkL, if_pos h]
    · rfl
theorem chk_turn [DecidableEq α] (o a b : List α) (e : Tri) (K : List Tri) (s t : Tri) (h : K[0]? ≠ some t) : chkL o a b e K s t = stabL o a b s t ++ chkL o a b e K t t := by
  have h0 : stabL o a b t t = [] := if_pos rfl
  cases K with
  | nil => rw [chkL, chkL, h0, List.nil_append]
  | cons x K =>
    have hne : ¬ x = t := fun e => h (by rw [List.getElem?_cons_zero, e])
    rw [chkL, chkL, if_neg hne, if_neg hne, h0, List.nil_append]
theorem chk_stab [DecidableEq α] (o a b : List α) (e : Tri) (K : List Tri) (t : Tri) (h : 0 < togL K t) : chkL o a b e K t t = pieceL 1 o a b t (onT t (togL K t)) :: chkL o a b e (K.drop (togL K t)) (onT t (togL K t)) (onT t (togL K t)) := by
  have hne : ¬ t = onT t (togL K t) := fun e => by
    have := congrArg Prod.fst e
    unfold onT at this
    simp only at this
    omega
  rw [tog_chk, chk_turn o a b e _ t _ (by rw [List.getElem?_drop, Nat.add_zero]; exact tog_end K t), stabL, if_neg hne]
  rfl
/-- The next place behind a gap. -/
def nextT (e : Tri) : List Tri → Tri
  | [] => e
  | x :: _ => x
theorem chk_gap [DecidableEq α] (o a b : List α) (K : List Tri) (t : Tri) (h : togL K t = 0) (hne : t ≠ nextT (endT o a b) K) :
    chkL o a b (endT o a b) K t t = pieceL (kindL (cutL o t.1 (nextT (endT o a b) K).1) (cutL a t.2.1 (nextT (endT o a b) K).2.1) (cutL b t.2.2 (nextT (endT o a b) K).2.2)) o a b t (nextT (endT o a b) K) :: chkL o a b (endT o a b) K (nextT (endT o a b) K) (nextT (endT o a b) K) := by
  have h0 : ∀ t, stabL o a b t t = [] := fun t => if_pos rfl
  have g0 : ∀ t, gapC o a b t t = [] := fun t => if_pos rfl
  cases K with
  | nil =>
    unfold nextT at hne ⊢
    simp only
    rw [chkL, chkL, h0, h0, g0, gapC, if_neg hne]
    rfl
  | cons x K =>
    unfold nextT at hne ⊢
    simp only at hne ⊢
    rw [chkL, chkL, if_pos rfl, if_neg (fun e => hne e.symm), h0, gapC, if_neg hne]
    rfl
theorem chk_end [DecidableEq α] (o a b : List α) (K : List Tri) (h : KOk o a b (endT o a b) K) : chkL o a b (endT o a b) K (endT o a b) (endT o a b) = [] := by
  cases K with
  | nil => rw [chkL, stabL, if_pos rfl, gapC, if_pos rfl]; rfl
  | cons x K =>
    have h1 := h.1.1
    have h2 := h.2.1
    unfold endT at h1
    simp only at h1
    omega
theorem next_ok {o a b : List α} {K : List Tri} {t : Tri} (h : KOk o a b t K) : leT t (nextT (endT o a b) K) ∧ leT (nextT (endT o a b) K) (endT o a b) ∧ KOk o a b (nextT (endT o a b) K) K := by
  cases K with
  | nil => exact ⟨h, leT.refl _, leT.refl _⟩
  | cons x K => exact ⟨h.1, (KOk.le (s := x) (K := x :: K) ⟨leT.refl _, h.2⟩), ⟨leT.refl _, h.2⟩⟩
theorem next_ne {o a b : List α} {K : List Tri} {t : Tri} (h : togL K t = 0) (ht : t ≠ endT o a b) : t ≠ nextT (endT o a b) K := by
  cases K with
  | nil => exact ht
  | cons x K =>
    intro e
    have e' : x = t := e.symm
    unfold togL at h
    rw [if_pos e'] at h
    omega

/-- Where a place is paired; the last of the pairs tells. -/
def atL : List (Nat × Nat) → Nat → Option Nat
  | [], _ => none
  | p :: ps, m => match atL ps m with
    | some v => some v
    | none => if p.1 = m then some p.2 else none
theorem atL_snoc : ∀ (l : List (Nat × Nat)) (p q m : Nat), atL (l ++ [(p, q)]) m = if p = m then some q else atL l m
  | [], p, q, m => by
    show (match atL [] m with | some v => some v | none => if p = m then some q else none) = _
    rfl
  | x :: l, p, q, m => by
    show (match atL (l ++ [(p, q)]) m with | some v => some v | none => if x.1 = m then some x.2 else none) = if p = m then some q else (match atL l m with | some v => some v | none => if x.1 = m then some x.2 else none)
    rw [atL_snoc l p q m]
    by_cases h : p = m
    · rw [if_pos h, if_pos h]
    · rw [if_neg h, if_neg h]
theorem atL_none {a b : List α} : ∀ {ps : List (Nat × Nat)} {i j m : Nat}, PrsOk a b i j ps → m < i → atL ps m = none
  | [], i, j, m, h, hm => rfl
  | (p, q) :: ps, i, j, m, h, hm => by
    have h1 := h.1
    show (match atL ps m with | some v => some v | none => if p = m then some q else none) = none
    rw [atL_none h.2.2.2.2.2 (by omega)]
    exact if_neg (by omega)
theorem atL_ok {a b : List α} : ∀ {ps : List (Nat × Nat)} {i j m v : Nat}, PrsOk a b i j ps → atL ps m = some v → m < a.length ∧ v < b.length ∧ a[m]? = b[v]? ∧ j ≤ v
  | [], i, j, m, v, h, hm => by cases hm
  | (p, q) :: ps, i, j, m, v, h, hm => by
    obtain ⟨h1, h2, h3, h4, h5, h6⟩ := h
    have hm' : (match atL ps m with | some v => some v | none => if p = m then some q else none) = some v := hm
    cases hx : atL ps m with
    | some u =>
      rw [hx] at hm'
      injection hm' with e
      subst e
      have := atL_ok h6 hx
      exact ⟨this.1, this.2.1, this.2.2.1, by omega⟩
    | none =>
      rw [hx] at hm'
      by_cases e : p = m
      · simp only [if_pos e] at hm'
        injection hm' with e2
        subst e e2
        exact ⟨h3, h4, h5, h2⟩
      · simp only [if_neg e] at hm'
        cases hm'
/-- What is kept from a place on, n places. -/
def restL (f g : Nat → Option Nat) : Nat → Nat → List Tri
  | 0, _ => []
  | n + 1, m => match f m, g m with
    | some u, some v => (m, u, v) :: restL f g n (m + 1)
    | _, _ => restL f g n (m + 1)
theorem restL_congr {f g f' g' : Nat → Option Nat} : ∀ (n m : Nat), (∀ k, m ≤ k → f k = f' k ∧ g k = g' k) → restL f g n m = restL f' g' n m
  | 0, _, _ => rfl
  | n + 1, m, h => by
    show (match f m, g m with | some u, some v => (m, u, v) :: restL f g n (m + 1) | _, _ => restL f g n (m + 1)) = (match f' m, g' m with | some u, some v => (m, u, v) :: restL f' g' n (m + 1) | _, _ => restL f' g' n (m + 1))
    rw [(h m (Nat.le_refl _)).1, (h m (Nat.le_refl _)).2, restL_congr n (m + 1) (fun k hk => h k (by omega))]
theorem rest_some {f g : Nat → Option Nat} {n m u v : Nat} (hf : f m = some u) (hg : g m = some v) : restL f g (n + 1) m = (m, u, v) :: restL f g n (m + 1) := by
  show (match f m, g m with | some u, some v => (m, u, v) :: restL f g n (m + 1) | _, _ => restL f g n (m + 1)) = _
  rw [hf, hg]
theorem rest_none {f g : Nat → Option Nat} {n m : Nat} (h : f m = none ∨ g m = none) : restL f g (n + 1) m = restL f g n (m + 1) := by
  show (match f m, g m with | some u, some v => (m, u, v) :: restL f g n (m + 1) | _, _ => restL f g n (m + 1)) = _
  rcases h with h | h
  · rw [h]
  · rw [h]
    cases f m <;> rfl
theorem rest_head {f g : Nat → Option Nat} : ∀ (n m : Nat) (x : Tri), (restL f g n m)[0]? = some x → m ≤ x.1 ∧ f x.1 = some x.2.1 ∧ g x.1 = some x.2.2
  | 0, m, x, h => by cases h
  | n + 1, m, x, h => by
    cases hf : f m with
    | none =>
      rw [rest_none (.inl hf)] at h
      have := rest_head n (m + 1) x h
      exact ⟨by omega, this.2⟩
    | some u =>
      cases hg : g m with
      | none =>
        rw [rest_none (.inr hg)] at h
        have := rest_head n (m + 1) x h
        exact ⟨by omega, this.2⟩
      | some v =>
        rw [rest_some hf hg, List.getElem?_cons_zero] at h
        injection h with h
        subst h
        exact ⟨Nat.le_refl _, hf, hg⟩
theorem rest_nil {f g : Nat → Option Nat} (h : (∀ m, f m = none) ∨ ∀ m, g m = none) : ∀ n m, restL f g n m = []
  | 0, _ => rfl
  | n + 1, m => by rw [rest_none (h.imp (fun h => h m) (fun h => h m)), rest_nil h n (m + 1)]
theorem atL_skip (p : Nat × Nat) (ps : List (Nat × Nat)) (m : Nat) (hne : p.1 ≠ m) : atL (p :: ps) m = atL ps m := by
  show (match atL ps m with | some v => some v | none => if p.1 = m then some p.2 else none) = _
  cases atL ps m with
  | some v => rfl
  | none => exact if_neg hne
theorem atL_here {o x : List α} (p : Nat × Nat) (ps : List (Nat × Nat)) {m l : Nat} (hp : PrsOk o x m l (p :: ps)) : atL (p :: ps) p.1 = some p.2 := by
  show (match atL ps p.1 with | some v => some v | none => if p.1 = p.1 then some p.2 else none) = _
  rw [atL_none hp.2.2.2.2.2 (Nat.lt_succ_self _)]
  exact if_pos rfl
theorem kept_rest {o a b : List α} : ∀ (n m : Nat) {P Q : List (Nat × Nat)} {j k : Nat}, PrsOk o a m j P → PrsOk o b m k Q → m + n = o.length → keptL P Q = restL (atL P) (atL Q) n m
  | n, m, [], Q, j, k, hP, hQ, hn => by rw [keptL_nil, rest_nil (f := atL []) (.inl fun _ => rfl)]
  | n, m, p :: P, [], j, k, hP, hQ, hn => by rw [keptL_nil', rest_nil (g := atL []) (.inr fun _ => rfl)]
  | 0, m, p :: P, q :: Q, j, k, hP, hQ, hn => by
    have h1 := hP.1
    have h2 := hP.2.2.1
    omega
  | n + 1, m, p :: P, q :: Q, j, k, hP, hQ, hn => by
    obtain ⟨p1, p2⟩ := p
    obtain ⟨q1, q2⟩ := q
    have hp1 := hP.1
    have hq1 := hQ.1
    by_cases h1 : p1 = m
    · have hp := atL_here (p1, p2) P hP
      by_cases h2 : q1 = m
      · have hq := atL_here (q1, q2) Q hQ
        subst h1
        obtain rfl : q1 = p1 := h2
        rw [rest_some hp hq, keptL_cons, if_pos rfl, kept_rest n (q1 + 1) hP.2.2.2.2.2 hQ.2.2.2.2.2 (by omega)]
        congr 1
        exact restL_congr n _ (fun k hk => ⟨(atL_skip (q1, p2) P k (by simp only; omega)).symm, (atL_skip (q1, q2) Q k (by simp only; omega)).symm⟩)
      · have hq : atL ((q1, q2) :: Q) m = none := atL_none (i := q1) (j := k) ⟨Nat.le_refl _, hQ.2⟩ (by omega)
        subst h1
        rw [rest_none (.inr hq), keptL_cons, if_neg (by simp only; omega), if_pos (by simp only; omega), kept_rest n (p1 + 1) hP.2.2.2.2.2 (Q := (q1, q2) :: Q) (k := k) ⟨by omega, hQ.2⟩ (by omega)]
        exact restL_congr n _ (fun k hk => ⟨(atL_skip (p1, p2) P k (by simp only; omega)).symm, rfl⟩)
    · have hp : atL ((p1, p2) :: P) m = none := atL_none (i := p1) (j := j) ⟨Nat.le_refl _, hP.2⟩ (by omega)
      rw [rest_none (.inl hp)]
      by_cases h2 : q1 = m
      · subst h2
        rw [keptL_cons, if_neg (by simp only; omega), if_neg (by simp only; omega), kept_rest n (q1 + 1) (P := (p1, p2) :: P) (j := j) ⟨by omega, hP.2⟩ hQ.2.2.2.2.2 (by omega)]
        exact restL_congr n _ (fun k hk => ⟨rfl, (atL_skip (q1, q2) Q k (by simp only; omega)).symm⟩)
      · exact kept_rest n (m + 1) (j := j) (k := k) ⟨by omega, hP.2⟩ ⟨by omega, hQ.2⟩ (by omega)
end
end Go.Proofs.Ytbejgljljjjjcaa.Ln
