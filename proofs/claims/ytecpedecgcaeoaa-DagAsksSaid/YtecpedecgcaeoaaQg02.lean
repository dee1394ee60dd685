/- Texts put together: Dg0. -/
import Derived.Test.YtecpedecgcaeoaaQg01
/- Graphs, plainly: who is reached from whom. (No package's code in it.) -/
set_option linter.unusedVariables false
set_option linter.unusedSimpArgs false
namespace Go.Proofs.Ytecpedecgcaeoaa.Tx

/-- k is one of fr, or a parent (and so on) of one of them. -/
inductive RS (par : Nat → List Nat) (fr : List Nat) : Nat → Prop where
  | here {k : Nat} : k ∈ fr → RS par fr k
  | step {j k : Nat} : RS par fr j → k ∈ par j → RS par fr k
def Down (par : Nat → List Nat) : Prop := ∀ j, ∀ k ∈ par j, k < j
section
variable {par : Nat → List Nat} {fr f2 : List Nat} {k f n : Nat}
theorem RS.trans (h : RS par fr k) (hf : ∀ f ∈ fr, RS par f2 f) : RS par f2 k := by
  induction h with
  | here h => exact hf _ h
  | step _ h2 ih => exact ih.step h2
theorem RS.mono (h : RS par fr k) (hf : ∀ f ∈ fr, f ∈ f2) : RS par f2 k := h.trans fun f hx => .here (hf f hx)
theorem RS.one_of (h : RS par fr k) : ∃ f ∈ fr, RS par [f] k := by
  induction h with
  | here h => exact ⟨_, h, .here (List.mem_singleton.2 rfl)⟩
  | step _ h2 ih =>
    obtain ⟨f, hf, hr⟩ := ih
    exact ⟨f, hf, hr.step h2⟩
theorem RS.of_one (hf : f ∈ fr) (h : RS par [f] k) : RS par fr k := h.mono (by simpa using hf)
theorem RS.le (hd : Down par) (h : RS par [f] k) : k ≤ f := by
  induction h with
  | here h => rw [List.mem_singleton.1 h]; exact Nat.le_refl _
  | step _ h2 ih => exact Nat.le_trans (Nat.le_of_lt (hd _ _ h2)) ih
theorem RS.lt (hd : Down par) (h : RS par fr k) (hf : ∀ f ∈ fr, f < n) : k < n := by
  obtain ⟨f, h1, h2⟩ := h.one_of
  exact Nat.lt_of_le_of_lt (h2.le hd) (hf f h1)
theorem RS.self (f : Nat) : RS par [f] f := .here (List.mem_singleton.2 rfl)
theorem RS.up (h : RS par (par f) k) : RS par [f] k := h.trans fun x hx => (RS.self f).step hx
theorem RS.self_or (h : RS par [f] k) : k = f ∨ RS par (par f) k := by
  induction h with
  | here h => exact .inl (List.mem_singleton.1 h)
  | step h1 h2 ih =>
    right
    rcases ih with rfl | ih
    · exact .here h2
    · exact ih.step h2
theorem RS.under (hd : Down par) (h : RS par (par f) k) : k < f := h.lt hd (hd f)
theorem RS.anti (hd : Down par) (h1 : RS par [f] k) (h2 : RS par [k] f) : k = f := Nat.le_antisymm (h1.le hd) (h2.le hd)
theorem RS.flat {ps : List Nat} : RS par (ps.flatMap par) k ↔ ∃ q ∈ ps, RS par (par q) k := by
  constructor
  · intro h
    obtain ⟨f, hf, hr⟩ := h.one_of
    obtain ⟨q, hq, hfq⟩ := List.mem_flatMap.1 hf
    exact ⟨q, hq, .of_one hfq hr⟩
  · rintro ⟨q, hq, h⟩
    exact h.mono fun f hf => List.mem_flatMap.2 ⟨q, hq, hf⟩
/-- The relation hangs on the parents of what is reached alone. -/
theorem RS.same {par' : Nat → List Nat} (hd : Down par) (hp : ∀ j, j < n → par' j = par j) (hf : ∀ f ∈ fr, f < n) (h : RS par fr k) : RS par' fr k := by
  induction h with
  | here h => exact .here h
  | step h1 h2 ih => exact ih.step (by rw [hp _ (h1.lt hd hf)]; exact h2)
end

open Classical
noncomputable def ancL (par : Nat → List Nat) (n : Nat) (fr : List Nat) : List Nat := (List.range n).filter (fun k => decide (RS par fr k))
noncomputable def markL (par : Nat → List Nat) (n : Nat) (fr : List Nat) : List Bool := (List.range n).map (fun k => decide (RS par fr k))
noncomputable def topL (par : Nat → List Nat) (ps : List Nat) : List Nat := ps.filter (fun k => !decide (RS par (ps.flatMap par) k))
section
variable {par : Nat → List Nat} {fr ps : List Nat} {k n t u : Nat}
theorem mem_anc : k ∈ ancL par n fr ↔ k < n ∧ RS par fr k := by
  unfold ancL
  rw [List.mem_filter, List.mem_range, decide_eq_true_iff]
theorem mem_anc' (hd : Down par) (hf : ∀ f ∈ fr, f < n) : k ∈ ancL par n fr ↔ RS par fr k := by
  rw [mem_anc]
  exact ⟨fun h => h.2, fun h => ⟨h.lt hd hf, h⟩⟩
theorem anc_lt : (ancL par n fr).Pairwise (· < ·) := List.Pairwise.filter _ List.pairwise_lt_range
theorem anc_nodup : (ancL par n fr).Nodup := anc_lt.imp fun h e => by omega
theorem anc_len : (ancL par n fr).length ≤ n := Nat.le_trans (List.length_filter_le _ _) (by rw [List.length_range]; exact Nat.le_refl _)
theorem mark_len : (markL par n fr).length = n := by unfold markL; simp
theorem mark_at (hk : k < n) : (markL par n fr)[k]? = some true ↔ RS par fr k := by
  unfold markL
  rw [List.getElem?_map, List.getElem?_range hk]
  simp
theorem mark_not (hk : k < n) : (markL par n fr)[k]? = some false ↔ ¬ RS par fr k := by
  unfold markL
  rw [List.getElem?_map, List.getElem?_range hk]
  simp
theorem mem_top : k ∈ topL par ps ↔ k ∈ ps ∧ ¬ RS par (ps.flatMap par) k := by
  unfold topL
  rw [List.mem_filter]
  simp
theorem top_sub : (topL par ps).Sublist ps := List.filter_sublist
theorem top_above (hd : Down par) (N : Nat) : ∀ m k, k ∈ ps → (∀ p ∈ ps, p < N) → N - k ≤ m → ∃ t ∈ topL par ps, RS par [t] k
  | 0, k, hk, hN, hm => absurd (hN k hk) (by omega)
  | m + 1, k, hk, hN, hm => by
    rcases Classical.em (RS par (ps.flatMap par) k) with h | h
    · obtain ⟨q, hq, hr⟩ := RS.flat.1 h
      have h1 := hr.under hd
      have h2 := hN q hq
      obtain ⟨t, ht, h3⟩ := top_above hd N m q hq hN (by omega)
      exact ⟨t, ht, hr.up.trans fun f hf => by rw [List.mem_singleton.1 hf]; exact h3⟩
    · exact ⟨k, mem_top.2 ⟨hk, h⟩, .self k⟩
theorem top_over (hd : Down par) (hN : ∀ p ∈ ps, p < n) (hk : k ∈ ps) : ∃ t ∈ topL par ps, RS par [t] k := top_above hd n (n - k) k hk hN (Nat.le_refl _)
theorem top_apart (ht : t ∈ topL par ps) (hu : u ∈ topL par ps) (h : RS par [u] t) : t = u := by
  rcases h.self_or with h | h
  · exact h
  · exact absurd (RS.flat.2 ⟨u, (mem_top.1 hu).1, h⟩) (mem_top.1 ht).2
theorem top_top : topL par (topL par ps) = topL par ps := by
  show List.filter (fun k => !decide (RS par ((topL par ps).flatMap par) k)) (topL par ps) = topL par ps
  rw [List.filter_eq_self]
  intro k hk
  have hn : ¬ RS par ((topL par ps).flatMap par) k := fun h => by
    obtain ⟨q, hq, hr⟩ := RS.flat.1 h
    exact (mem_top.1 hk).2 (RS.flat.2 ⟨q, (mem_top.1 hq).1, hr⟩)
  show (!decide (RS par ((topL par ps).flatMap par) k)) = true
  rw [decide_eq_false hn]
  rfl
/-- Whose tops hang on what is there alone. -/
theorem top_mem_same {qs : List Nat} (h : ∀ x, x ∈ ps ↔ x ∈ qs) : k ∈ topL par ps ↔ k ∈ topL par qs := by
  rw [mem_top, mem_top, h k, RS.flat, RS.flat]
  simp only [h]
end

/-- How many parents are still to be gone through. -/
def costL (par : Nat → List Nat) : Nat → List Bool → Nat
  | _, [] => 0
  | i, b :: r => (if b then 0 else (par i).length) + costL par (i + 1) r
theorem cost_set (par : Nat → List Nat) : ∀ (ms : List Bool) (i k : Nat), ms[k]? = some false → costL par i ms = costL par i (ms.set k true) + (par (i + k)).length
  | [], _, _, h => by simp at h
  | b :: r, i, 0, h => by
    simp at h
    subst h
    simp [costL, Nat.add_comm]
  | b :: r, i, k + 1, h => by
    rw [List.getElem?_cons_succ] at h
    rw [List.set_cons_succ, costL, costL, cost_set par r (i + 1) k h, show i + 1 + k = i + (k + 1) from by omega]
    omega
theorem cost_small (par : Nat → List Nat) (m : Nat) (hm : ∀ j, (par j).length ≤ m) : ∀ (ms : List Bool) (i : Nat), costL par i ms ≤ ms.length * m
  | [], _ => by simp [costL]
  | b :: r, i => by
    have h1 := cost_small par m hm r (i + 1)
    have h2 := hm i
    rw [costL, List.length_cons, Nat.add_mul, Nat.one_mul]
    split <;> omega
/-- What the loop over the list of work is told: ms are marked, wl is to be done. -/
structure WL (par : Nat → List Nat) (fr : List Nat) (ms : List Bool) (wl : List Nat) : Prop where
  a : ∀ k, ms[k]? = some true → RS par fr k
  b : ∀ k ∈ wl, RS par fr k
  c : ∀ f ∈ fr, ms[f]? = some true ∨ f ∈ wl
  d : ∀ j, ms[j]? = some true → ∀ k ∈ par j, ms[k]? = some true ∨ k ∈ wl
section
variable {par : Nat → List Nat} {fr wl : List Nat} {ms : List Bool} {n p : Nat}
theorem WL.start (par : Nat → List Nat) (fr : List Nat) (n : Nat) : WL par fr (List.replicate n false) fr :=
  ⟨fun k h => by rw [List.getElem?_replicate] at h; split at h <;> simp at h, fun k hk => .here hk, fun f hf => .inr hf, fun j h => by rw [List.getElem?_replicate] at h; split at h <;> simp at h⟩
theorem WL.old (h : WL par fr ms (wl ++ [p])) (hp : ms[p]? = some true) : WL par fr ms wl := by
  have key : ∀ k, (ms[k]? = some true ∨ k ∈ wl ++ [p]) → ms[k]? = some true ∨ k ∈ wl := fun k hk => by
    rcases hk with hk | hk
    · exact .inl hk
    · rw [List.mem_append, List.mem_singleton] at hk
      rcases hk with hk | rfl
      · exact .inr hk
      · exact .inl hp
  exact ⟨h.a, fun k hk => h.b k (List.mem_append_left _ hk), fun f hf => key f (h.c f hf), fun j hj k hk => key k (h.d j hj k hk)⟩
theorem WL.new_ (h : WL par fr ms (wl ++ [p])) (hp : ms[p]? = some false) : WL par fr (ms.set p true) (wl ++ par p) := by
  have hl := (List.getElem?_eq_some_iff.1 hp).1
  have hs : ∀ k, (ms.set p true)[k]? = some true ↔ (k = p ∨ ms[k]? = some true) := fun k => by
    rw [List.getElem?_set]
    by_cases e : p = k
    · subst e; simp [hl]
    · rw [if_neg e]
      exact ⟨.inr, fun h => h.elim (fun e' => absurd e'.symm e) id⟩
  have key : ∀ k, (ms[k]? = some true ∨ k ∈ wl ++ [p]) → (ms.set p true)[k]? = some true ∨ k ∈ wl ++ par p := fun k hk => by
    rcases hk with hk | hk
    · exact .inl ((hs k).2 (.inr hk))
    · rw [List.mem_append, List.mem_singleton] at hk
      rcases hk with hk | rfl
      · exact .inr (List.mem_append_left _ hk)
      · exact .inl ((hs k).2 (.inl rfl))
  have hpr : RS par fr p := h.b p (List.mem_append_right _ (List.mem_singleton.2 rfl))
  refine ⟨fun k hk => ?_, fun k hk => ?_, fun f hf => key f (h.c f hf), fun j hj k hk => ?_⟩
  · rcases (hs k).1 hk with rfl | hk
    · exact hpr
    · exact h.a k hk
  · rw [List.mem_append] at hk
    rcases hk with hk | hk
    · exact h.b k (List.mem_append_left _ hk)
    · exact hpr.step hk
  · rcases (hs j).1 hj with rfl | hj
    · exact .inr (List.mem_append_right _ hk)
    · exact key k (h.d j hj k hk)
theorem WL.done (h : WL par fr ms []) (hn : ms.length = n) : ms = markL par n fr := by
  have hrs : ∀ k, RS par fr k → ms[k]? = some true := fun k hk => by
    induction hk with
    | here hk => exact (h.c _ hk).elim id (fun hx => by cases hx)
    | step h1 h2 ih => exact (h.d _ ih _ h2).elim id (fun hx => by cases hx)
  apply List.ext_getElem?
  intro k
  by_cases hk : k < n
  · rcases Classical.em (RS par fr k) with hr | hr
    · rw [hrs k hr, (mark_at hk).2 hr]
    · rw [(mark_not hk).2 hr, List.getElem?_eq_getElem (by omega)]
      cases hb : ms[k]'(by omega) with
      | false => rfl
      | true => exact absurd (h.a k (by rw [List.getElem?_eq_getElem (by omega), hb])) hr
  · rw [List.getElem?_eq_none (by omega), List.getElem?_eq_none (by rw [mark_len]; omega)]
end
end Go.Proofs.Ytecpedecgcaeoaa.Tx
