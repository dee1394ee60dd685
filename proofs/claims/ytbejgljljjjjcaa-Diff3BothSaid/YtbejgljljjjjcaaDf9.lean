/- Chapter 15, over plain values: the chunks' lines are the texts; what they merge to; turned round; of one changed text. (No package's code in it.) -/
import Derived.Test.YtbejgljljjjjcaaDf6
import Derived.Test.YtbejgljljjjjcaaLnL
set_option linter.unusedVariables false
set_option linter.unusedSimpArgs false
namespace Go.Proofs.Ytbejgljljjjjcaa.Ln
open Go.RowKit Go.Proofs.Ytbejgljljjjjcaa.Sh Go.Proofs.Ytbejgljljjjjcaa.Tx

section
variable {α : Type}
def pickL (c : Ck α) : List α := if c.kind = 3 then c.b else c.a
def hasC (l : List (Ck α)) : Bool := l.any fun c => c.kind == 5
def linesM (l : List (Ck α)) : List α := (l.map pickL).flatten
theorem hasC_app (x y : List (Ck α)) : hasC (x ++ y) = (hasC x || hasC y) := List.any_append
theorem linesM_app (x y : List (Ck α)) : linesM (x ++ y) = linesM x ++ linesM y := by unfold linesM; rw [List.map_append, List.flatten_append]
theorem cut_app {l : List α} {i j k : Nat} (h1 : i ≤ j) (h2 : j ≤ k) : cutL l i j ++ cutL l j k = cutL l i k := by
  unfold cutL
  have h3 : l.drop j = (l.drop i).drop (j - i) := by rw [List.drop_drop]; congr 1; omega
  rw [h3, show k - i = (j - i) + (k - j) by omega, List.take_add]
theorem cut_all {l : List α} {i : Nat} : cutL l i l.length = l.drop i := by
  unfold cutL
  rw [List.take_of_length_le (by rw [List.length_drop]; exact Nat.le_refl _)]
/-- The chunks' lines, one behind the other. -/
theorem chk_cat [DecidableEq α] {o a b : List α} {l : List α} (sel : Ck α → List α) (π : Tri → Nat) (hsel : ∀ k s t, sel (pieceL k o a b s t) = cutL l (π s) (π t)) (hmono : ∀ s t, leT s t → π s ≤ π t) (hend : π (endT o a b) = l.length) :
    ∀ (K : List Tri) (s t : Tri), leT s t → KOk o a b t K → ((chkL o a b (endT o a b) K s t).map sel).flatten = l.drop (π s) := by
  have hst : ∀ s t, ((stabL o a b s t).map sel).flatten = cutL l (π s) (π t) := by
    intro s t
    unfold stabL
    by_cases h : s = t
    · rw [if_pos h, h, cut_none]; rfl
    · rw [if_neg h, List.map_singleton, List.flatten_singleton, hsel]
  have hgp : ∀ s t, ((gapC o a b s t).map sel).flatten = cutL l (π s) (π t) := by
    intro s t
    unfold gapC
    by_cases h : s = t
    · rw [if_pos h, h, cut_none]; rfl
    · rw [if_neg h, List.map_singleton, List.flatten_singleton, hsel]
  intro K
  induction K with
  | nil =>
    intro s t h hk
    rw [chkL, List.map_append, List.flatten_append, hst, hgp, cut_app (hmono _ _ h) (hmono _ _ hk), hend, cut_all]
  | cons x K ih =>
    intro s t h hk
    rw [chkL]
    by_cases hx : x = t
    · rw [if_pos hx]
      subst hx
      exact ih s (onT x 1) (h.trans (leT.on x 1)) hk.2.2.2.2.2.2
    · rw [if_neg hx, List.map_append, List.flatten_append, List.map_append, List.flatten_append, hst, hgp, ih x (onT x 1) (leT.on x 1) hk.2.2.2.2.2.2, ← List.append_assoc, cut_app (hmono _ _ h) (hmono _ _ hk.1)]
      have h1 := hmono _ _ (h.trans hk.1)
      unfold cutL
      have h3 : l.drop (π x) = (l.drop (π s)).drop (π x - π s) := by rw [List.drop_drop]; congr 1; omega
      rw [h3, List.take_append_drop]
/-- Lines from s to t stand in all three. -/
def RunOk (o a b : List α) (s t : Tri) : Prop := cutL a s.2.1 t.2.1 = cutL o s.1 t.1 ∧ cutL b s.2.2 t.2.2 = cutL o s.1 t.1
theorem RunOk.self (o a b : List α) (s : Tri) : RunOk o a b s s := ⟨by rw [cut_none, cut_none], by rw [cut_none, cut_none]⟩
theorem cut_one {l : List α} {i j : Nat} {x : α} (h : l[j]? = some x) (hij : i ≤ j) : cutL l i (j + 1) = cutL l i j ++ [x] := by
  obtain ⟨n, rfl⟩ : ∃ n, j = i + n := ⟨j - i, by omega⟩
  exact cut_snoc l i n x h
theorem RunOk.step {o a b : List α} {s t : Tri} (h : RunOk o a b s t) (hl : leT s t) (h1 : t.1 < o.length) (ha : o[t.1]? = a[t.2.1]?) (hb : o[t.1]? = b[t.2.2]?) : RunOk o a b s (onT t 1) := by
  have ho := List.getElem?_eq_getElem h1
  rw [ho] at ha hb
  exact ⟨by show cutL a s.2.1 (t.2.1 + 1) = cutL o s.1 (t.1 + 1); rw [cut_one ha.symm hl.2.1, cut_one ho hl.1, h.1], by show cutL b s.2.2 (t.2.2 + 1) = cutL o s.1 (t.1 + 1); rw [cut_one hb.symm hl.2.2, cut_one ho hl.1, h.2]⟩
/-- What is true of each chunk. -/
def CkOk [DecidableEq α] (c : Ck α) : Prop := (0 < c.o.length + c.a.length + c.b.length) ∧ ((c.kind = 1 ∧ c.a = c.o ∧ c.b = c.o) ∨ c.kind = kindL c.o c.a c.b)
theorem piece_pos {o a b : List α} {s t : Tri} {k : Nat} (h : leT s t) (hne : s ≠ t) (ht : leT t (endT o a b)) : 0 < (pieceL k o a b s t).o.length + (pieceL k o a b s t).a.length + (pieceL k o a b s t).b.length := by
  have h1 := h.lt hne
  have e1 := ht.1
  have e2 := ht.2.1
  have e3 := ht.2.2
  have f1 := h.1
  have f2 := h.2.1
  have f3 := h.2.2
  unfold endT at e1 e2 e3
  simp only at e1 e2 e3
  unfold sumT at h1
  unfold pieceL
  simp only
  rw [cut_len o _ _ e1, cut_len a _ _ e2, cut_len b _ _ e3]
  omega
theorem kind_two [DecidableEq α] (o a b : List α) : 2 ≤ kindL o a b := by
  unfold kindL
  split
  · exact Nat.le_refl _
  · split
    · omega
    · split <;> omega
/-- No two that stand together are stable. -/
def NoTwo : List (Ck α) → Prop
  | [] => True
  | c :: l => (c.kind = 1 → ∀ d ∈ l.head?, d.kind ≠ 1) ∧ NoTwo l
theorem chk_good [DecidableEq α] {o a b : List α} : ∀ (K : List Tri) (s t : Tri), leT s t → RunOk o a b s t → KOk o a b t K → (∀ c ∈ chkL o a b (endT o a b) K s t, CkOk c) ∧ NoTwo (chkL o a b (endT o a b) K s t) := by
  have hst : ∀ s t, leT s t → RunOk o a b s t → leT t (endT o a b) → ∀ c ∈ stabL o a b s t, CkOk c ∧ c.kind = 1 := by
    intro s t h hr ht c hc
    unfold stabL at hc
    by_cases he : s = t
    · rw [if_pos he] at hc; cases hc
    · rw [if_neg he, List.mem_singleton] at hc
      subst hc
      exact ⟨⟨piece_pos h he ht, .inl ⟨rfl, hr.1, hr.2⟩⟩, rfl⟩
  have hgp : ∀ s t, leT s t → leT t (endT o a b) → ∀ c ∈ gapC o a b s t, CkOk c ∧ c.kind ≠ 1 := by
    intro s t h ht c hc
    unfold gapC at hc
    by_cases he : s = t
    · rw [if_pos he] at hc; cases hc
    · rw [if_neg he, List.mem_singleton] at hc
      subst hc
      refine ⟨⟨piece_pos h he ht, .inr rfl⟩, ?_⟩
      have := kind_two (cutL o s.1 t.1) (cutL a s.2.1 t.2.1) (cutL b s.2.2 t.2.2)
      unfold pieceL
      simp only
      omega
  intro K
  induction K with
  | nil =>
    intro s t h hr hk
    rw [chkL]
    refine ⟨fun c hc => ?_, ?_⟩
    · rcases List.mem_append.1 hc with hc | hc
      · exact (hst s t h hr hk c hc).1
      · exact (hgp t _ hk (leT.refl _) c hc).1
    · have hg := hgp t _ hk (leT.refl _)
      unfold stabL
      unfold gapC at hg ⊢
      by_cases he : s = t
      · rw [if_pos he]
        by_cases he2 : t = endT o a b
        · rw [if_pos he2]; trivial
        · rw [if_neg he2]; exact ⟨fun _ d hd => (by cases hd), trivial⟩
      · rw [if_neg he]
        by_cases he2 : t = endT o a b
        · rw [if_pos he2]; exact ⟨fun _ d hd => (by cases hd), trivial⟩
        · rw [if_neg he2] at hg ⊢
          refine ⟨fun _ d hd => ?_, fun _ d hd => (by cases hd), trivial⟩
          have hd' : some _ = some d := hd
          injection hd' with hd'
          subst hd'
          exact (hg _ List.mem_cons_self).2
  | cons x K ih =>
    intro s t h hr hk
    rw [chkL]
    by_cases hx : x = t
    · rw [if_pos hx]
      subst hx
      exact ih s (onT x 1) (h.trans (leT.on x 1)) (hr.step h hk.2.1 hk.2.2.2.2.1 hk.2.2.2.2.2.1) hk.2.2.2.2.2.2
    · rw [if_neg hx]
      have hxe : leT x (endT o a b) := KOk.le (s := x) (K := x :: K) ⟨leT.refl _, hk.2⟩
      have hi := ih x (onT x 1) (leT.on x 1) ((RunOk.self o a b x).step (leT.refl _) hk.2.1 hk.2.2.2.2.1 hk.2.2.2.2.2.1) hk.2.2.2.2.2.2
      have hg := hgp t x hk.1 hxe
      refine ⟨fun c hc => ?_, ?_⟩
      · rcases List.mem_append.1 hc with hc | hc
        · exact (hst s t h hr hk.le c hc).1
        · rcases List.mem_append.1 hc with hc | hc
          · exact (hg c hc).1
          · exact hi.1 c hc
      · have eg : gapC o a b t x = [pieceL (kindL (cutL o t.1 x.1) (cutL a t.2.1 x.2.1) (cutL b t.2.2 x.2.2)) o a b t x] := if_neg (fun e => hx e.symm)
        rw [eg] at hg ⊢
        unfold stabL
        have h2 : NoTwo ([pieceL (kindL (cutL o t.1 x.1) (cutL a t.2.1 x.2.1) (cutL b t.2.2 x.2.2)) o a b t x] ++ chkL o a b (endT o a b) K x (onT x 1)) := ⟨fun e => absurd e (hg _ List.mem_cons_self).2, hi.2⟩
        by_cases he : s = t
        · rw [if_pos he]; exact h2
        · rw [if_neg he]
          refine ⟨fun _ d hd => ?_, h2⟩
          have hd' : some _ = some d := hd
          injection hd' with hd'
          subst hd'
          exact (hg _ List.mem_cons_self).2
/-- Turned round. -/
def swT (t : Tri) : Tri := (t.1, t.2.2, t.2.1)
theorem swT_on (t : Tri) (n : Nat) : swT (onT t n) = onT (swT t) n := rfl
theorem swT_eq {s t : Tri} : swT s = swT t ↔ s = t := by
  constructor
  · intro h
    obtain ⟨a, b, c⟩ := s
    obtain ⟨a', b', c'⟩ := t
    unfold swT at h
    simp only at h
    injection h with h1 h2
    injection h2 with h2 h3
    rw [h1, h2, h3]
  · intro h; rw [h]
theorem kept_swap : ∀ (n : Nat) {P Q : List (Nat × Nat)}, P.length + Q.length ≤ n → keptL Q P = (keptL P Q).map swT
  | n, [], Q, h => by rw [keptL_nil, keptL_nil']; rfl
  | n, p :: P, [], h => by rw [keptL_nil, keptL_nil']; rfl
  | 0, p :: P, q :: Q, h => by simp at h
  | n + 1, p :: P, q :: Q, h => by
    simp only [List.length_cons] at h
    rw [keptL_cons, keptL_cons]
    rcases Nat.lt_trichotomy p.1 q.1 with h1 | h1 | h1
    · rw [if_neg (by omega), if_neg (by omega), if_neg (by omega), if_pos h1, kept_swap n (P := P) (Q := q :: Q) (by simp only [List.length_cons]; omega)]
    · rw [if_pos h1.symm, if_pos h1, kept_swap n (P := P) (Q := Q) (by omega), List.map_cons, h1]
      rfl
    · rw [if_neg (by omega), if_pos h1, if_neg (by omega), if_neg (by omega), kept_swap n (P := p :: P) (Q := Q) (by simp only [List.length_cons]; omega)]
/-- Of two lists of chunks the same is made. -/
def Alike (x y : List (Ck α)) : Prop := hasC y = hasC x ∧ (hasC x = false → linesM y = linesM x)
theorem Alike.app {x y x' y' : List (Ck α)} (h : Alike x y) (h' : Alike x' y') : Alike (x ++ x') (y ++ y') := by
  refine ⟨by rw [hasC_app, hasC_app, h.1, h'.1], fun hc => ?_⟩
  rw [hasC_app, Bool.or_eq_false_iff] at hc
  rw [linesM_app, linesM_app, h.2 hc.1, h'.2 hc.2]
theorem Alike.one {c d : Ck α} (h1 : (d.kind = 5 ↔ c.kind = 5)) (h2 : c.kind ≠ 5 → pickL d = pickL c) : Alike [c] [d] := by
  unfold Alike hasC linesM
  simp only [List.any_cons, List.any_nil, Bool.or_false, List.map_cons, List.map_nil, List.flatten_cons, List.flatten_nil, List.append_nil]
  refine ⟨?_, fun h => h2 (by simpa using h)⟩
  by_cases e : c.kind = 5
  · rw [e, h1.2 e]
  · have e' : ¬ d.kind = 5 := fun h => e (h1.1 h)
    rw [beq_eq_false_iff_ne.2 e, beq_eq_false_iff_ne.2 e']
theorem Alike.nil_ : Alike ([] : List (Ck α)) [] := ⟨rfl, fun _ => rfl⟩
theorem kind_turn [DecidableEq α] (o a b : List α) : (kindL o b a = 5 ↔ kindL o a b = 5) ∧ (kindL o a b ≠ 5 → pickL (⟨kindL o b a, o, b, a⟩ : Ck α) = pickL ⟨kindL o a b, o, a, b⟩) := by
  unfold kindL pickL
  simp only
  by_cases h1 : b = o
  · by_cases h2 : a = o
    · simp [h1, h2]
    · simp [h1, h2]
  · by_cases h2 : a = o
    · simp [h1, h2]
    · by_cases h3 : a = b
      · simp [h1, h2, h3]
      · have h3' : ¬ b = a := fun e => h3 e.symm
        simp [h1, h2, h3, h3']
theorem chk_turned [DecidableEq α] {o a b : List α} : ∀ (K : List Tri) (s t : Tri), leT s t → RunOk o a b s t → KOk o a b t K → Alike (chkL o a b (endT o a b) K s t) (chkL o b a (endT o b a) (K.map swT) (swT s) (swT t)) := by
  have hst : ∀ s t, RunOk o a b s t → Alike (stabL o a b s t) (stabL o b a (swT s) (swT t)) := by
    intro s t hr
    unfold stabL
    by_cases he : s = t
    · rw [if_pos he, if_pos (swT_eq.2 he)]; exact Alike.nil_
    · rw [if_neg he, if_neg (fun e => he (swT_eq.1 e))]
      exact Alike.one Iff.rfl (fun _ => by show cutL b s.2.2 t.2.2 = cutL a s.2.1 t.2.1; rw [hr.1, hr.2])
  have hgp : ∀ s t, Alike (gapC o a b s t) (gapC o b a (swT s) (swT t)) := by
    intro s t
    unfold gapC
    by_cases he : s = t
    · rw [if_pos he, if_pos (swT_eq.2 he)]; exact Alike.nil_
    · rw [if_neg he, if_neg (fun e => he (swT_eq.1 e))]
      exact Alike.one (kind_turn _ _ _).1 (kind_turn _ _ _).2
  intro K
  induction K with
  | nil =>
    intro s t h hr hk
    rw [List.map_nil, chkL, chkL]
    exact (hst s t hr).app (hgp t (endT o a b))
  | cons x K ih =>
    intro s t h hr hk
    rw [List.map_cons, chkL, chkL]
    by_cases hx : x = t
    · rw [if_pos hx, if_pos (swT_eq.2 hx)]
      subst hx
      exact ih s (onT x 1) (h.trans (leT.on x 1)) (hr.step h hk.2.1 hk.2.2.2.2.1 hk.2.2.2.2.2.1) hk.2.2.2.2.2.2
    · rw [if_neg hx, if_neg (fun e => hx (swT_eq.1 e))]
      exact (hst s t hr).app ((hgp t x).app (ih x (onT x 1) (leT.on x 1) ((RunOk.self o a b x).step (leT.refl _) hk.2.1 hk.2.2.2.2.1 hk.2.2.2.2.2.1) hk.2.2.2.2.2.2))
/-- Where what one side has is always what the base has, or what the other has. -/
theorem chk_all [DecidableEq α] {o a b : List α} (p : Tri → Prop) (q : Ck α → Prop) (hq : ∀ s t, p s → p t → q (pieceL 1 o a b s t) ∧ q (pieceL (kindL (cutL o s.1 t.1) (cutL a s.2.1 t.2.1) (cutL b s.2.2 t.2.2)) o a b s t)) (he : p (endT o a b)) (hon : ∀ t, p t → p (onT t 1)) :
    ∀ (K : List Tri) (s t : Tri), (∀ x ∈ K, p x) → p s → p t → ∀ c ∈ chkL o a b (endT o a b) K s t, q c := by
  have hst : ∀ s t, p s → p t → ∀ c ∈ stabL o a b s t, q c := by
    intro s t h1 h2 c hc
    unfold stabL at hc
    by_cases he : s = t
    · rw [if_pos he] at hc; cases hc
    · rw [if_neg he, List.mem_singleton] at hc
      subst hc
      exact (hq s t h1 h2).1
  have hgp : ∀ s t, p s → p t → ∀ c ∈ gapC o a b s t, q c := by
    intro s t h1 h2 c hc
    unfold gapC at hc
    by_cases he : s = t
    · rw [if_pos he] at hc; cases hc
    · rw [if_neg he, List.mem_singleton] at hc
      subst hc
      exact (hq s t h1 h2).2
  intro K
  induction K with
  | nil =>
    intro s t hk hs ht c hc
    rw [chkL] at hc
    rcases List.mem_append.1 hc with hc | hc
    · exact hst s t hs ht c hc
    · exact hgp t _ ht he c hc
  | cons x K ih =>
    intro s t hk hs ht c hc
    have hx := hk x List.mem_cons_self
    have hk2 := fun y hy => hk y (List.mem_cons_of_mem _ hy)
    rw [chkL] at hc
    by_cases e : x = t
    · rw [if_pos e] at hc
      exact ih s _ hk2 hs (hon t ht) c hc
    · rw [if_neg e] at hc
      rcases List.mem_append.1 hc with hc | hc
      · exact hst s t hs ht c hc
      · rcases List.mem_append.1 hc with hc | hc
        · exact hgp t x ht hx c hc
        · exact ih x _ hk2 hx (hon x hx) c hc
theorem kept_mem : ∀ (n : Nat) {P Q : List (Nat × Nat)}, P.length + Q.length ≤ n → ∀ x ∈ keptL P Q, (x.1, x.2.1) ∈ P ∧ (x.1, x.2.2) ∈ Q
  | n, [], Q, h, x, hx => by rw [keptL_nil] at hx; cases hx
  | n, p :: P, [], h, x, hx => by rw [keptL_nil'] at hx; cases hx
  | 0, p :: P, q :: Q, h, x, hx => by simp at h
  | n + 1, p :: P, q :: Q, h, x, hx => by
    simp only [List.length_cons] at h
    rw [keptL_cons] at hx
    by_cases h1 : p.1 = q.1
    · rw [if_pos h1] at hx
      rcases List.mem_cons.1 hx with rfl | hx
      · exact ⟨List.mem_cons_self, by show (p.1, q.2) ∈ q :: Q; rw [h1]; exact List.mem_cons_self⟩
      · have := kept_mem n (P := P) (Q := Q) (by omega) x hx
        exact ⟨List.mem_cons_of_mem _ this.1, List.mem_cons_of_mem _ this.2⟩
    · rw [if_neg h1] at hx
      by_cases h2 : p.1 < q.1
      · rw [if_pos h2] at hx
        have := kept_mem n (P := P) (Q := q :: Q) (by simp only [List.length_cons]; omega) x hx
        exact ⟨List.mem_cons_of_mem _ this.1, this.2⟩
      · rw [if_neg h2] at hx
        have := kept_mem n (P := p :: P) (Q := Q) (by simp only [List.length_cons]; omega) x hx
        exact ⟨this.1, List.mem_cons_of_mem _ this.2⟩
theorem prsOk_one {o a : List α} : ∀ {P : List (Nat × Nat)} {i j u v m : Nat}, PrsOk o a i j P → (m, u) ∈ P → (m, v) ∈ P → u = v
  | [], i, j, u, v, m, h, h1, h2 => by cases h1
  | (p, q) :: P, i, j, u, v, m, h, h1, h2 => by
    have low : ∀ {R : List (Nat × Nat)} {i' j' : Nat}, PrsOk o a i' j' R → ∀ r ∈ R, i' ≤ r.1 := by
      intro R
      induction R with
      | nil => intro i' j' hR r hr; cases hr
      | cons y R ih =>
        intro i' j' hR r hr
        have h1 := hR.1
        rcases List.mem_cons.1 hr with rfl | hr
        · exact h1
        · have := ih hR.2.2.2.2.2 r hr
          omega
    have hl := low h.2.2.2.2.2
    rcases List.mem_cons.1 h1 with e1 | h1'
    · rcases List.mem_cons.1 h2 with e2 | h2'
      · injection e1 with _ e1; injection e2 with _ e2; rw [e1, e2]
      · injection e1 with e1 _
        have := hl _ h2'
        simp only at this
        omega
    · rcases List.mem_cons.1 h2 with e2 | h2'
      · injection e2 with e2 _
        have := hl _ h1'
        simp only at this
        omega
      · exact prsOk_one h.2.2.2.2.2 h1' h2'
theorem prs_diag [DecidableEq α] : ∀ (a : List α) (i j : Nat), prsL i j a a = (List.range a.length).map fun k => (i + k, j + k)
  | [], i, j => by rw [prsL_nil]; rfl
  | x :: a, i, j => by
    rw [prsL_cons, if_pos rfl, prs_diag a (i + 1) (j + 1), List.length_cons, List.range_succ_eq_map, List.map_cons, List.map_map]
    congr 1
    refine List.map_congr_left fun k _ => ?_
    show (i + 1 + k, j + 1 + k) = (i + (k + 1), j + (k + 1))
    congr 1 <;> omega
end
end Go.Proofs.Ytbejgljljjjjcaa.Ln
