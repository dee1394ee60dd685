/- Chapter 15, over plain values: changes apart; one line changed by both. (No package's code in it.) -/
import Derived.Test.YtbejgljljjjjcaaDf9
set_option linter.unusedVariables false
set_option linter.unusedSimpArgs false
namespace Go.Proofs.Ytbejgljljjjjcaa.Ln
open Go.RowKit Go.Proofs.Ytbejgljljjjjcaa.Sh Go.Proofs.Ytbejgljljjjjcaa.Tx

section
variable {α : Type} [DecidableEq α]
/-- Pairs that rise together. -/
def dgL (i j n : Nat) : List (Nat × Nat) := (List.range n).map fun k => (i + k, j + k)
theorem dgL_succ (i j n : Nat) : dgL i j (n + 1) = (i, j) :: dgL (i + 1) (j + 1) n := by
  unfold dgL
  rw [List.range_succ_eq_map, List.map_cons, List.map_map]
  congr 1
  refine List.map_congr_left fun k _ => ?_
  show (i + (k + 1), j + (k + 1)) = (i + 1 + k, j + 1 + k)
  congr 1 <;> omega
theorem dgL_mem {i j n : Nat} {p : Nat × Nat} (h : p ∈ dgL i j n) : p.1 < i + n := by
  unfold dgL at h
  obtain ⟨k, hk, rfl⟩ := List.mem_map.1 h
  have := List.mem_range.1 hk
  simp only
  omega
theorem prs_self3 (a : List α) (i j : Nat) : prsL i j a a = dgL i j a.length := prs_diag a i j
theorem prs_pre3 : ∀ (pre a b : List α) (i j : Nat), prsL i j (pre ++ a) (pre ++ b) = dgL i j pre.length ++ prsL (i + pre.length) (j + pre.length) a b
  | [], a, b, i, j => rfl
  | x :: pre, a, b, i, j => by
    rw [List.cons_append, List.cons_append, prsL_cons, if_pos rfl, prs_pre3 pre a b (i + 1) (j + 1), List.length_cons, dgL_succ, List.cons_append]
    congr 3 <;> omega
theorem prs_disj {a b : List α} (h : ∀ x ∈ a, x ∉ b) (i j : Nat) : prsL i j a b = [] := by
  rw [List.eq_nil_iff_forall_not_mem]
  intro p hp
  have h1 := (prs_at _ i j (a := a) (b := b) (Nat.le_refl _)).1 p hp
  have ha : p.1 - i < a.length := by omega
  have e := h1.2.2.2.2
  rw [List.getElem?_eq_getElem ha] at e
  exact h _ (List.getElem_mem ha) (List.mem_of_getElem? e.symm)
theorem lenL_self3 (a b : List α) (h : a.Sublist b) : lenL a b = a.length := by
  have h1 := sub_le _ (Nat.le_refl _) (List.Sublist.refl a) h
  have h2 := lenL_le _ a b (Nat.le_refl _)
  omega
theorem prs_skipB3 (post : List α) : ∀ (ins : List α) (i j : Nat), (∀ y ∈ ins, y ∉ post) → prsL i j post (ins ++ post) = prsL i (j + ins.length) post post
  | [], i, j, _ => rfl
  | y :: ins, i, j, h => by
    cases post with
    | nil => rw [prsL_nil, prsL_nil]
    | cons x t =>
      have hy : ¬ x = y := fun e => h y List.mem_cons_self (by rw [e]; exact List.mem_cons_self)
      have h1 := lenL_self3 (x :: t) (ins ++ x :: t) (List.sublist_append_right _ _)
      have h2 := lenL_le _ t (y :: (ins ++ x :: t)) (Nat.le_refl _)
      rw [List.cons_append, prsL_cons, if_neg hy, if_neg (by rw [h1, List.length_cons]; omega), prs_skipB3 (x :: t) ins i (j + 1) (fun z hz => h z (List.mem_cons_of_mem _ hz)), List.length_cons]
      congr 1
      omega
theorem prs_skipA3 (post : List α) : ∀ (ins : List α) (i j : Nat), (∀ y ∈ ins, y ∉ post) → prsL i j (ins ++ post) post = prsL (i + ins.length) j post post
  | [], i, j, _ => rfl
  | y :: ins, i, j, h => by
    cases post with
    | nil => rw [prsL_nil', prsL_nil']
    | cons x t =>
      have hy : ¬ y = x := fun e => h y List.mem_cons_self (by rw [e]; exact List.mem_cons_self)
      have h1 : lenL (ins ++ x :: t) (x :: t) = t.length + 1 := by rw [lenL_comm _ (Nat.le_refl _), lenL_self3 (x :: t) (ins ++ x :: t) (List.sublist_append_right _ _), List.length_cons]
      have h2 : lenL (y :: (ins ++ x :: t)) t ≤ t.length := by rw [lenL_comm _ (Nat.le_refl _)]; exact lenL_le _ _ _ (Nat.le_refl _)
      rw [List.cons_append, prsL_cons, if_neg hy, if_pos (by rw [h1]; omega), prs_skipA3 (x :: t) ins (i + 1) j (fun z hz => h z (List.mem_cons_of_mem _ hz)), List.length_cons]
      congr 1
      omega
/-- Lines that are others on each side, ahead of what is the same. -/
theorem prs_gap3 (p : List α) : ∀ (f x : List α) (i j : Nat), (∀ y ∈ f, y ∉ x ++ p) → (∀ y ∈ x, y ∉ f ++ p) → prsL i j (f ++ p) (x ++ p) = prsL (i + f.length) (j + x.length) p p
  | [], x, i, j, h1, h2 => prs_skipB3 p x i j h2
  | y :: f, [], i, j, h1, h2 => prs_skipA3 p (y :: f) i j h1
  | y :: f, z :: x, i, j, h1, h2 => by
    have hyz : ¬ y = z := fun e => h1 y List.mem_cons_self (by rw [e]; exact List.mem_cons_self)
    rw [List.cons_append, List.cons_append, prsL_cons, if_neg hyz]
    split
    · have := prs_gap3 p f (z :: x) (i + 1) j (fun u hu => h1 u (List.mem_cons_of_mem _ hu)) (fun u hu hm => h2 u hu (by rcases List.mem_append.1 hm with hm | hm; exact List.mem_append.2 (.inl (List.mem_cons_of_mem _ hm)); exact List.mem_append.2 (.inr hm)))
      rw [List.cons_append] at this
      rw [this, List.length_cons, List.length_cons]
      congr 1
      omega
    · have := prs_gap3 p (y :: f) x i (j + 1) (fun u hu hm => h1 u hu (by rcases List.mem_append.1 hm with hm | hm; exact List.mem_append.2 (.inl (List.mem_cons_of_mem _ hm)); exact List.mem_append.2 (.inr hm))) (fun u hu => h2 u (List.mem_cons_of_mem _ hu))
      rw [List.cons_append] at this
      rw [this, List.length_cons, List.length_cons]
      congr 1
      omega
termination_by f x => f.length + x.length
omit [DecidableEq α] in
theorem kept_skip3 (p : Nat × Nat) (P : List (Nat × Nat)) : ∀ (Q1 Q2 : List (Nat × Nat)), (∀ q ∈ Q1, q.1 < p.1) → keptL (p :: P) (Q1 ++ Q2) = keptL (p :: P) Q2
  | [], Q2, h => rfl
  | q :: Q1, Q2, h => by
    have := h q List.mem_cons_self
    rw [List.cons_append, keptL_cons, if_neg (by omega), if_neg (by omega), kept_skip3 p P Q1 Q2 (fun x hx => h x (List.mem_cons_of_mem _ hx))]
omit [DecidableEq α] in
theorem kept_self3 : ∀ P : List (Nat × Nat), keptL P P = P.map fun p => (p.1, p.2, p.2)
  | [] => by rw [keptL_nil]; rfl
  | p :: P => by rw [keptL_cons, if_pos rfl, kept_self3 P]; rfl
theorem chk_one (o a b : List α) (e N s : Tri) : chkL o a b e [N] s s = gapC o a b s N ++ (stabL o a b N (onT N 1) ++ gapC o a b (onT N 1) e) := by
  rw [chkL]
  by_cases h : N = s
  · have g0 : gapC o a b s s = [] := if_pos rfl
    rw [if_pos h, chkL, h, g0]; rfl
  · have g0 : stabL o a b s s = [] := if_pos rfl
    rw [if_neg h, chkL, g0]; rfl
theorem chk_run3 (o a b : List α) (e s : Tri) : ∀ (n i : Nat) (K : List Tri), chkL o a b e (((dgL i i n).map fun p => (p.1, p.2, p.2)) ++ K) s (i, i, i) = chkL o a b e K s (i + n, i + n, i + n)
  | 0, i, K => rfl
  | n + 1, i, K => by
    rw [dgL_succ, List.map_cons, List.cons_append, chkL, if_pos rfl]
    have := chk_run3 o a b e s n (i + 1) K
    rw [show onT (i, i, i) 1 = (i + 1, i + 1, i + 1) from rfl, this]
    congr 1
    rw [show i + 1 + n = i + (n + 1) by omega]
/-- Changes apart. -/
theorem apart_m (f g x y : List α) (M : α) (h1 : ∀ u ∈ f, u ∉ x ++ M :: g) (h2 : ∀ u ∈ x, u ∉ f ++ M :: g) (h3 : ∀ u ∈ g, u ∉ y) :
    hasC (chkL (f ++ M :: g) (x ++ M :: g) (f ++ M :: y) (endT (f ++ M :: g) (x ++ M :: g) (f ++ M :: y)) (keptL (prsL 0 0 (f ++ M :: g) (x ++ M :: g)) (prsL 0 0 (f ++ M :: g) (f ++ M :: y))) (0, 0, 0) (0, 0, 0)) = false ∧
    linesM (chkL (f ++ M :: g) (x ++ M :: g) (f ++ M :: y) (endT (f ++ M :: g) (x ++ M :: g) (f ++ M :: y)) (keptL (prsL 0 0 (f ++ M :: g) (x ++ M :: g)) (prsL 0 0 (f ++ M :: g) (f ++ M :: y))) (0, 0, 0) (0, 0, 0)) = x ++ M :: y := by
  have e1 : prsL 0 0 (f ++ M :: g) (x ++ M :: g) = (f.length, x.length) :: dgL (f.length + 1) (x.length + 1) g.length := by
    rw [prs_gap3 (M :: g) f x 0 0 h1 h2, prs_self3, List.length_cons, dgL_succ, Nat.zero_add, Nat.zero_add]
  have e2 : prsL 0 0 (f ++ M :: g) (f ++ M :: y) = dgL 0 0 f.length ++ [(f.length, f.length)] := by
    rw [prs_pre3, prsL_cons, if_pos rfl, prs_disj h3, Nat.zero_add]
  have e3 : keptL (prsL 0 0 (f ++ M :: g) (x ++ M :: g)) (prsL 0 0 (f ++ M :: g) (f ++ M :: y)) = [(f.length, x.length, f.length)] := by
    rw [e1, e2, kept_skip3 _ _ _ _ (fun q hq => by have := dgL_mem hq; simp only; omega), keptL_cons, if_pos rfl, keptL_nil']
  rw [e3, chk_one]
  have c1 : cutL (f ++ M :: g) 0 f.length = f := by unfold cutL; simp
  have c2 : cutL (x ++ M :: g) 0 x.length = x := by unfold cutL; simp
  have c3 : cutL (f ++ M :: y) 0 f.length = f := by unfold cutL; simp
  have c4 : cutL (x ++ M :: g) x.length (x.length + 1) = [M] := by unfold cutL; simp
  have dr : ∀ (l r : List α), (l ++ M :: r).drop (l.length + 1) = r := fun l r => by
    rw [← List.drop_drop, List.drop_left]; rfl
  have c5 : cutL (f ++ M :: g) (f.length + 1) (f ++ M :: g).length = g := by rw [cut_all, dr]
  have c6 : cutL (x ++ M :: g) (x.length + 1) (x ++ M :: g).length = g := by rw [cut_all, dr]
  have c7 : cutL (f ++ M :: y) (f.length + 1) (f ++ M :: y).length = y := by rw [cut_all, dr]
  have p1 : hasC (gapC (f ++ M :: g) (x ++ M :: g) (f ++ M :: y) (0, 0, 0) (f.length, x.length, f.length)) = false ∧ linesM (gapC (f ++ M :: g) (x ++ M :: g) (f ++ M :: y) (0, 0, 0) (f.length, x.length, f.length)) = x := by
    unfold gapC
    by_cases h : ((0, 0, 0) : Tri) = (f.length, x.length, f.length)
    · rw [if_pos h]
      injection h with _ h
      injection h with h _
      have : x = [] := List.eq_nil_of_length_eq_zero h.symm
      rw [this]
      exact ⟨rfl, rfl⟩
    · rw [if_neg h]
      simp only
      rw [c1, c2, c3]
      have k : kindL f x f = 2 := if_pos rfl
      rw [k]
      refine ⟨rfl, ?_⟩
      show (cutL (x ++ M :: g) 0 x.length) ++ [] = x
      rw [List.append_nil, c2]
  have p2 : hasC (stabL (f ++ M :: g) (x ++ M :: g) (f ++ M :: y) (f.length, x.length, f.length) (onT (f.length, x.length, f.length) 1)) = false ∧ linesM (stabL (f ++ M :: g) (x ++ M :: g) (f ++ M :: y) (f.length, x.length, f.length) (onT (f.length, x.length, f.length) 1)) = [M] := by
    unfold stabL
    rw [if_neg (fun e => by have := congrArg Prod.fst e; unfold onT at this; simp only at this; omega)]
    refine ⟨rfl, ?_⟩
    show (cutL (x ++ M :: g) x.length (x.length + 1)) ++ [] = [M]
    rw [List.append_nil, c4]
  have p3 : hasC (gapC (f ++ M :: g) (x ++ M :: g) (f ++ M :: y) (onT (f.length, x.length, f.length) 1) (endT (f ++ M :: g) (x ++ M :: g) (f ++ M :: y))) = false ∧ linesM (gapC (f ++ M :: g) (x ++ M :: g) (f ++ M :: y) (onT (f.length, x.length, f.length) 1) (endT (f ++ M :: g) (x ++ M :: g) (f ++ M :: y))) = y := by
    unfold gapC
    by_cases h : onT (f.length, x.length, f.length) 1 = endT (f ++ M :: g) (x ++ M :: g) (f ++ M :: y)
    · rw [if_pos h]
      unfold onT endT at h
      simp only at h
      injection h with _ h
      injection h with _ h
      rw [List.length_append, List.length_cons] at h
      have : y = [] := List.eq_nil_of_length_eq_zero (by omega)
      rw [this]
      exact ⟨rfl, rfl⟩
    · rw [if_neg h]
      unfold onT endT
      simp only
      rw [c5, c6, c7]
      by_cases hy : y = g
      · have k : kindL g g y = 2 := if_pos hy
        rw [k]
        refine ⟨rfl, ?_⟩
        show (cutL (x ++ M :: g) (x.length + 1) (x ++ M :: g).length) ++ [] = y
        rw [List.append_nil, c6, hy]
      · have k : kindL g g y = 3 := by unfold kindL; rw [if_neg hy, if_pos rfl]
        rw [k]
        refine ⟨rfl, ?_⟩
        show (cutL (f ++ M :: y) (f.length + 1) (f ++ M :: y).length) ++ [] = y
        rw [List.append_nil, c7]
  rw [hasC_app, hasC_app, linesM_app, linesM_app, p1.1, p1.2, p2.1, p2.2, p3.1, p3.2]
  exact ⟨rfl, rfl⟩
/-- One line, changed by both. -/
theorem both_m (pre post : List α) (l c d : α) (hc : c ≠ l) (hd : d ≠ l) (hl : l ∉ post) (hcp : c ∉ post) (hdp : d ∉ post) (hp : post ≠ []) :
    hasC (chkL (pre ++ l :: post) (pre ++ c :: post) (pre ++ d :: post) (endT (pre ++ l :: post) (pre ++ c :: post) (pre ++ d :: post)) (keptL (prsL 0 0 (pre ++ l :: post) (pre ++ c :: post)) (prsL 0 0 (pre ++ l :: post) (pre ++ d :: post))) (0, 0, 0) (0, 0, 0)) = !decide (c = d) ∧
    (c = d → linesM (chkL (pre ++ l :: post) (pre ++ c :: post) (pre ++ d :: post) (endT (pre ++ l :: post) (pre ++ c :: post) (pre ++ d :: post)) (keptL (prsL 0 0 (pre ++ l :: post) (pre ++ c :: post)) (prsL 0 0 (pre ++ l :: post) (pre ++ d :: post))) (0, 0, 0) (0, 0, 0)) = pre ++ c :: post) := by
  have hprs : ∀ u, u ≠ l → u ∉ post → prsL 0 0 (pre ++ l :: post) (pre ++ u :: post) = dgL 0 0 pre.length ++ dgL (pre.length + 1) (pre.length + 1) post.length := by
    intro u hu hup
    rw [prs_pre3, Nat.zero_add]
    have := prs_gap3 post [l] [u] pre.length pre.length (fun y hy => by rw [List.mem_singleton] at hy; subst hy; intro hm; rcases List.mem_append.1 hm with hm | hm; exact hu (List.mem_singleton.1 hm).symm; exact hl hm) (fun y hy => by rw [List.mem_singleton] at hy; subst hy; intro hm; rcases List.mem_append.1 hm with hm | hm; exact hu (List.mem_singleton.1 hm); exact hup hm)
    rw [List.singleton_append, List.singleton_append] at this
    rw [this, prs_self3]
    rfl
  rw [hprs c hc hcp, hprs d hd hdp, kept_self3, List.map_append]
  have e0 := chk_run3 (pre ++ l :: post) (pre ++ c :: post) (pre ++ d :: post) (endT (pre ++ l :: post) (pre ++ c :: post) (pre ++ d :: post)) (0, 0, 0) pre.length 0 ((dgL (pre.length + 1) (pre.length + 1) post.length).map fun p => (p.1, p.2, p.2))
  rw [e0, Nat.zero_add]
  obtain ⟨r, hr⟩ : ∃ r, post.length = r + 1 := ⟨post.length - 1, by have := List.length_pos_iff.2 hp; omega⟩
  rw [hr, dgL_succ, List.map_cons, chkL, if_neg (fun e => by have := congrArg Prod.fst e; simp only at this; omega)]
  have e1 := chk_run3 (pre ++ l :: post) (pre ++ c :: post) (pre ++ d :: post) (endT (pre ++ l :: post) (pre ++ c :: post) (pre ++ d :: post)) (pre.length + 1, pre.length + 1, pre.length + 1) r (pre.length + 2) []
  rw [List.append_nil] at e1
  rw [show onT (pre.length + 1, pre.length + 1, pre.length + 1) 1 = (pre.length + 2, pre.length + 2, pre.length + 2) from rfl, show pre.length + 1 + 1 = pre.length + 2 from rfl, e1, chkL]
  have hend : endT (pre ++ l :: post) (pre ++ c :: post) (pre ++ d :: post) = (pre.length + 2 + r, pre.length + 2 + r, pre.length + 2 + r) := by
    unfold endT
    simp only [List.length_append, List.length_cons, hr]
    rw [show pre.length + (r + 1 + 1) = pre.length + 2 + r by omega]
  rw [hend]
  have g2 : gapC (pre ++ l :: post) (pre ++ c :: post) (pre ++ d :: post) (pre.length + 2 + r, pre.length + 2 + r, pre.length + 2 + r) (pre.length + 2 + r, pre.length + 2 + r, pre.length + 2 + r) = [] := if_pos rfl
  have cu : ∀ u : α, cutL (pre ++ u :: post) pre.length (pre.length + 1) = [u] := fun u => by unfold cutL; simp
  have g1 : gapC (pre ++ l :: post) (pre ++ c :: post) (pre ++ d :: post) (pre.length, pre.length, pre.length) (pre.length + 1, pre.length + 1, pre.length + 1) = [⟨kindL [l] [c] [d], [l], [c], [d]⟩] := by
    unfold gapC
    rw [if_neg (fun e => by have := congrArg Prod.fst e; simp only at this; omega)]
    unfold pieceL
    simp only
    rw [cu, cu, cu]
  have kk : kindL [l] [c] [d] = if c = d then 4 else 5 := by
    unfold kindL
    rw [if_neg (fun e => hd (by injection e)), if_neg (fun e => hc (by injection e))]
    by_cases h : c = d
    · rw [if_pos (by rw [h]), if_pos h]
    · rw [if_neg (fun e => h (by injection e)), if_neg h]
  have st : ∀ s t, hasC (stabL (pre ++ l :: post) (pre ++ c :: post) (pre ++ d :: post) s t) = false ∧ linesM (stabL (pre ++ l :: post) (pre ++ c :: post) (pre ++ d :: post) s t) = cutL (pre ++ c :: post) s.2.1 t.2.1 := by
    intro s t
    unfold stabL
    by_cases h : s = t
    · rw [if_pos h, h, cut_none]; exact ⟨rfl, rfl⟩
    · rw [if_neg h]
      refine ⟨rfl, ?_⟩
      show cutL (pre ++ c :: post) s.2.1 t.2.1 ++ [] = _
      rw [List.append_nil]
  rw [g1, g2, List.append_nil, kk, hasC_app, hasC_app, (st _ _).1, (st _ _).1, linesM_app, linesM_app, (st _ _).2, (st _ _).2]
  refine ⟨?_, fun h => ?_⟩
  · by_cases h : c = d
    · rw [if_pos h, decide_eq_true h]; rfl
    · rw [if_neg h, decide_eq_false h]; rfl
  · rw [if_pos h]
    show cutL (pre ++ c :: post) 0 pre.length ++ (([c] ++ []) ++ cutL (pre ++ c :: post) (pre.length + 1) (pre.length + 2 + r)) = pre ++ c :: post
    have u1 : cutL (pre ++ c :: post) 0 pre.length = pre := by unfold cutL; simp
    have u2 : cutL (pre ++ c :: post) (pre.length + 1) (pre.length + 2 + r) = post := by
      rw [show pre.length + 2 + r = (pre ++ c :: post).length by rw [List.length_append, List.length_cons, hr]; omega, cut_all, ← List.drop_drop, List.drop_left]
      rfl
    rw [u1, u2, List.append_nil]
    rfl
end
end Go.Proofs.Ytbejgljljjjjcaa.Ln
