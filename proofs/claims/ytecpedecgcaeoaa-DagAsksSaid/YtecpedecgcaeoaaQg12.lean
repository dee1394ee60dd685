/- Texts put together: Gr0. -/
import Derived.Test.YtecpedecgcaeoaaQg11
/- The document's Graph, plainly: what its loops make is what is answered. (No package's code in it.) -/
set_option linter.unusedVariables false
set_option linter.unusedSimpArgs false
namespace Go.Proofs.Ytecpedecgcaeoaa.Tx
open Classical

/-- Marks that say just this. -/
structure MS (n : Nat) (Q : Nat → Prop) (ms : List Bool) : Prop where
  len : ms.length = n
  at_ : ∀ j, j < n → (ms[j]? = some true ↔ Q j)
section
variable {n k : Nat} {Q Q' : Nat → Prop} {ms : List Bool}
theorem MS.congr (h : MS n Q ms) (hq : ∀ j, j < n → (Q j ↔ Q' j)) : MS n Q' ms := ⟨h.len, fun j hj => (h.at_ j hj).trans (hq j hj)⟩
theorem MS.none_ (n : Nat) : MS n (fun _ => False) (List.replicate n false) := ⟨List.length_replicate, fun j hj => by
  rw [List.getElem?_replicate, if_pos hj]
  exact ⟨(fun h => by cases h), fun h => h.elim⟩⟩
theorem MS.set (h : MS n Q ms) (k : Nat) : MS n (fun j => Q j ∨ j = k) (ms.set k true) := ⟨by rw [List.length_set, h.len], fun j hj => by
  by_cases e : k = j
  · subst e
    rw [List.getElem?_set_self (by rw [h.len]; exact hj)]
    exact ⟨fun _ => .inr rfl, fun _ => rfl⟩
  · rw [List.getElem?_set_ne e, h.at_ j hj]
    exact ⟨.inl, fun h => h.elim id (fun h => absurd h.symm e)⟩⟩
theorem MS.get (h : MS n Q ms) (hk : k < n) : ms[k]? = some (decide (Q k)) := by
  have h1 := h.at_ k hk
  obtain ⟨b, hb⟩ : ∃ b, ms[k]? = some b := ⟨_, List.getElem?_eq_getElem (by rw [h.len]; exact hk)⟩
  rw [hb] at h1 ⊢
  cases b with
  | true => rw [decide_eq_true (h1.1 rfl)]
  | false => rw [decide_eq_false (fun hq => by have := h1.2 hq; cases this)]
end
/-- Marked when all from i on are done. -/
def Qi (par : Nat → List Nat) (n : Nat) (S : List Nat) (i j : Nat) : Prop := j ∈ S ∨ ∃ p, i ≤ p ∧ p < n ∧ RS par S p ∧ j ∈ par p
section
variable {par : Nat → List Nat} {n i j : Nat} {S : List Nat}
theorem qi_start : Qi par n S n j ↔ j ∈ S := by
  unfold Qi
  exact ⟨fun h => h.elim id (fun ⟨p, h1, h2, _⟩ => by omega), .inl⟩
theorem qi_now (hd : Down par) (hS : ∀ f ∈ S, f < n) : Qi par n S (i + 1) i ↔ RS par S i := by
  constructor
  · rintro (h | ⟨p, _, _, h1, h2⟩)
    · exact .here h
    · exact h1.step h2
  · intro h
    cases h with
    | here h => exact .inl h
    | step h1 h2 => exact .inr ⟨_, hd _ _ h2, h1.lt hd hS, h1, h2⟩
theorem qi_yes (hi : i < n) (h : RS par S i) : (Qi par n S (i + 1) j ∨ j ∈ par i) ↔ Qi par n S i j := by
  unfold Qi
  constructor
  · rintro ((h1 | ⟨p, h1, h2, h3, h4⟩) | h1)
    · exact .inl h1
    · exact .inr ⟨p, by omega, h2, h3, h4⟩
    · exact .inr ⟨i, Nat.le_refl _, hi, h, h1⟩
  · rintro (h1 | ⟨p, h1, h2, h3, h4⟩)
    · exact .inl (.inl h1)
    · by_cases e : p = i
      · subst e; exact .inr h4
      · exact .inl (.inr ⟨p, by omega, h2, h3, h4⟩)
theorem qi_no (h : ¬ RS par S i) : Qi par n S (i + 1) j ↔ Qi par n S i j := by
  unfold Qi
  constructor
  · rintro (h1 | ⟨p, h1, h2, h3, h4⟩)
    · exact .inl h1
    · exact .inr ⟨p, by omega, h2, h3, h4⟩
  · rintro (h1 | ⟨p, h1, h2, h3, h4⟩)
    · exact .inl h1
    · by_cases e : p = i
      · subst e; exact absurd h3 h
      · exact .inr ⟨p, by omega, h2, h3, h4⟩
/-- What is reached, told from the back, when all from i on are done. -/
noncomputable def outL (par : Nat → List Nat) (n : Nat) (S : List Nat) (i : Nat) : List Nat := ((List.range n).filter fun k => decide (i ≤ k ∧ RS par S k)).reverse
theorem mem_out {k : Nat} : k ∈ outL par n S i ↔ i ≤ k ∧ k < n ∧ RS par S k := by
  unfold outL
  rw [List.mem_reverse, List.mem_filter, List.mem_range, decide_eq_true_eq]
  exact ⟨fun h => ⟨h.2.1, h.1, h.2.2⟩, fun h => ⟨h.2.1, h.1, h.2.2⟩⟩
theorem out_start : outL par n S n = [] := by
  refine List.eq_nil_iff_forall_not_mem.2 fun k hk => ?_
  have := mem_out.1 hk
  omega
theorem out_no (h : ¬ RS par S i) : outL par n S i = outL par n S (i + 1) := by
  unfold outL
  congr 1
  refine List.filter_congr fun k _ => decide_eq_decide.2 ⟨fun ⟨h1, h2⟩ => ⟨?_, h2⟩, fun ⟨h1, h2⟩ => ⟨by omega, h2⟩⟩
  rcases Nat.lt_or_ge i k with h3 | h3
  · exact h3
  · have : k = i := by omega
    subst this
    exact absurd h2 h
theorem out_yes (hi : i < n) (h : RS par S i) : outL par n S i = outL par n S (i + 1) ++ [i] := by
  unfold outL
  have h1 : n = i + ((n - i - 1) + 1) := by omega
  have h2 : (List.range n).filter (fun k => decide (i ≤ k ∧ RS par S k)) = i :: (List.range n).filter (fun k => decide (i + 1 ≤ k ∧ RS par S k)) := by
    rw [h1, List.range_add, List.filter_append, List.filter_append]
    have a1 : (List.range i).filter (fun k => decide (i ≤ k ∧ RS par S k)) = [] := List.filter_eq_nil_iff.2 fun k hk => by have := List.mem_range.1 hk; simp; omega
    have a2 : (List.range i).filter (fun k => decide (i + 1 ≤ k ∧ RS par S k)) = [] := List.filter_eq_nil_iff.2 fun k hk => by have := List.mem_range.1 hk; simp; omega
    rw [a1, a2, List.nil_append, List.nil_append, List.range_succ_eq_map, List.map_cons, Nat.add_zero, List.filter_cons_of_pos (by simpa using h), List.filter_cons_of_neg (by simp; omega)]
    congr 1
    refine List.filter_congr fun k hk => decide_eq_decide.2 ?_
    obtain ⟨m, hm, rfl⟩ := List.mem_map.1 hk
    obtain ⟨q, _, rfl⟩ := List.mem_map.1 hm
    exact ⟨fun h => ⟨by omega, h.2⟩, fun h => ⟨by omega, h.2⟩⟩
  rw [h2, List.reverse_cons]
theorem out_len : (outL par n S i).length ≤ n := by
  unfold outL
  rw [List.length_reverse]
  exact Nat.le_trans (List.length_filter_le _ _) (by rw [List.length_range]; exact Nat.le_refl _)
end
section
variable {G : GR} {xs ys : List ByteArray} {s b : ByteArray} {k : Nat} {os : List Nat}
theorem anc_of_out (hw : GW G) : uniqT ((outL (parAt G) G.length (plsL G xs) 0).map (idAt G)) = ancT G xs := by
  refine (uniqT_eq (anc_strict hw) fun x => ?_).symm
  rw [anc_memT, List.mem_map]
  constructor
  · rintro ⟨k, h1, h2, rfl⟩; exact ⟨k, mem_out.2 ⟨Nat.zero_le _, h1, h2⟩, rfl⟩
  · rintro ⟨k, h1, rfl⟩
    have := mem_out.1 h1
    exact ⟨k, this.2.1, this.2.2, rfl⟩
/-- What is above each of the names. -/
def UpOf (G : GR) (xs : List ByteArray) (s : ByteArray) : Prop := ∃ x ∈ xs, ∃ k, k < G.length ∧ RS (parAt G) (parAt G (pl G x)) k ∧ s = idAt G k
theorem up_anc (hw : GW G) {x : ByteArray} : s ∈ ancT G ((parAt G (pl G x)).map (idAt G)) ↔ ∃ k, k < G.length ∧ RS (parAt G) (parAt G (pl G x)) k ∧ s = idAt G k := by
  rw [anc_memT, pls_map hw (fun k hk => par_lt hw hk)]
theorem top_doc (hw : GW G) (hall : allG G (uniqT xs) = true) {ups : List ByteArray} (hu : ∀ s, s ∈ ups ↔ UpOf G xs s) : uniqT (xs.filter fun s => !hasT ups s) = topT G xs := by
  refine (uniqT_eq (tops_strict hall) fun s => ?_).symm
  rw [List.mem_filter]
  have hin := all_uniq' hall
  have hrs : ∀ s ∈ xs, (RS (parAt G) ((plsL G (uniqT xs)).flatMap (parAt G)) (pl G s) ↔ UpOf G xs s) := fun s hs => by
    rw [RS.flat]
    constructor
    · rintro ⟨q, hq, h⟩
      obtain ⟨x, hx, rfl⟩ := List.mem_map.1 hq
      exact ⟨x, ((uniqT_spec xs).2 x).1 hx, pl G s, pl_lt (hin s hs), h, (id_pl (hin s hs)).symm⟩
    · rintro ⟨x, hx, k, hk, h, e⟩
      refine ⟨pl G x, List.mem_map.2 ⟨x, ((uniqT_spec xs).2 x).2 hx, rfl⟩, ?_⟩
      rw [e, pl_id hw hk]
      exact h
  constructor
  · intro h
    have hs := tops_of hall h
    refine ⟨hs, ?_⟩
    obtain ⟨k, hk, e⟩ := List.mem_map.1 h
    have h2 := mem_top.1 hk
    have h3 : hasT ups s = false := hasT_no fun hm => by
      have h4 := (hrs s hs).2 ((hu s).1 hm)
      rw [← e, pl_id hw (pls_lt hall k h2.1)] at h4
      exact h2.2 h4
    rw [h3]; rfl
  · rintro ⟨hs, h⟩
    have h3 : s ∉ ups := fun hm => by rw [hasT_yes hm] at h; cases h
    refine List.mem_map.2 ⟨pl G s, mem_top.2 ⟨List.mem_map.2 ⟨s, ((uniqT_spec xs).2 s).2 hs, rfl⟩, fun hr => h3 ((hu s).2 ((hrs s hs).1 hr))⟩, id_pl (hin s hs)⟩
/-- What two have in common. -/
theorem both_mem (hw : GW G) (hb : inG G b = true) : s ∈ (ancT G xs).filter (hasT (ancT G [b])) ↔ ∃ k ∈ comL G xs b, s = idAt G k := by
  have h1 : plsL G [b] = [pl G b] := rfl
  rw [List.mem_filter, hasT_iff, anc_memT, anc_memT, h1]
  unfold comL
  constructor
  · rintro ⟨⟨k, a1, a2, rfl⟩, k', b1, b2, e⟩
    have := hw.inj k k' a1 b1 e
    subst this
    exact ⟨k, List.mem_filter.2 ⟨mem_anc.2 ⟨a1, b2⟩, decide_eq_true a2⟩, rfl⟩
  · rintro ⟨k, hk, rfl⟩
    obtain ⟨h2, h3⟩ := List.mem_filter.1 hk
    have h4 := mem_anc.1 h2
    exact ⟨⟨k, h4.1, of_decide_eq_true h3, rfl⟩, k, h4.1, h4.2, rfl⟩
theorem comx_lt (h : k ∈ comL G xs b) : k < G.length := by
  unfold comL at h
  exact (mem_anc.1 (List.mem_filter.1 h).1).1
theorem both_all (hw : GW G) (hb : inG G b = true) : allG G (uniqT ((ancT G xs).filter (hasT (ancT G [b])))) = true := all_uniq fun s hs => by
  obtain ⟨k, hk, rfl⟩ := (both_mem hw hb).1 hs
  exact in_id hw (comx_lt hk)
theorem bas_doc (hw : GW G) (hb : inG G b = true) : topT G ((ancT G xs).filter (hasT (ancT G [b]))) = basT G xs b := by
  have hall := both_all (xs := xs) hw hb
  have hp : ∀ k, k ∈ plsL G (uniqT ((ancT G xs).filter (hasT (ancT G [b])))) ↔ k ∈ comL G xs b := fun k => by
    rw [mem_pls hw hall]
    constructor
    · rintro ⟨h1, h2⟩
      obtain ⟨j, hj, e⟩ := (both_mem hw hb).1 (((uniqT_spec _).2 _).1 h2)
      rw [hw.inj k j h1 (comx_lt hj) e]
      exact hj
    · intro h
      exact ⟨comx_lt h, ((uniqT_spec _).2 _).2 ((both_mem hw hb).2 ⟨k, h, rfl⟩)⟩
  refine strict_ext _ _ (tops_strict hall) ?_ fun x => ?_
  · unfold basT
    have hn : (topL (parAt G) (comL G xs b)).Nodup := (anc_nodup.sublist List.filter_sublist).sublist top_sub
    exact sort_strict (List.pairwise_map.2 (hn.imp_of_mem fun {x y} hx hy hne e => hne (hw.inj x y (comx_lt (mem_top.1 hx).1) (comx_lt (mem_top.1 hy).1) e)))
  · unfold basT topT
    rw [(sortT_perm _).mem_iff, List.mem_map, List.mem_map]
    constructor
    · rintro ⟨k, hk, e⟩; exact ⟨k, (top_mem_same hp).1 hk, e⟩
    · rintro ⟨k, hk, e⟩; exact ⟨k, (top_mem_same hp).2 hk, e⟩
/-- One more put into the order. -/
theorem ins_ord {out : List Nat} {x k : Nat} (h : out.Pairwise (befG G)) (hb : ∀ y ∈ out, bl (idAt G y).toList (idAt G x).toList = true) (hk : k ≤ out.length) (h1 : ∀ j, k ≤ j → ∀ hj : j < out.length, stAt G out[j] < stAt G x) (h2 : ∀ j, j < k → ∀ hj : j < out.length, stAt G x ≤ stAt G out[j]) :
    (out.take k ++ ([x] ++ out.drop k)).Pairwise (befG G) := by
  have hsplit : out.take k ++ out.drop k = out := List.take_append_drop k out
  have hp := h
  rw [← hsplit, List.pairwise_append] at hp
  rw [List.pairwise_append]
  refine ⟨hp.1, ?_, ?_⟩
  · rw [List.singleton_append, List.pairwise_cons]
    refine ⟨fun y hy => ?_, hp.2.1⟩
    obtain ⟨i, hi, rfl⟩ := List.getElem_of_mem hy
    rw [List.length_drop] at hi
    rw [List.getElem_drop]
    exact .inl (h1 (k + i) (by omega) (by omega))
  · intro a ha c hc
    rw [List.singleton_append, List.mem_cons] at hc
    rcases hc with rfl | hc
    · obtain ⟨i, hi, rfl⟩ := List.getElem_of_mem ha
      rw [List.length_take] at hi
      rw [List.getElem_take]
      have h3 := h2 i (by omega) (by omega)
      rcases Int.lt_or_eq_of_le h3 with h4 | h4
      · exact .inl h4
      · exact .inr ⟨h4.symm, hb _ (List.getElem_mem _)⟩
    · exact hp.2.2 a ha c hc
theorem inso_perm {out : List Nat} (x k : Nat) : (out.take k ++ ([x] ++ out.drop k)).Perm (out ++ [x]) := by
  have hsplit : out.take k ++ out.drop k = out := List.take_append_drop k out
  have h1 : (out.take k ++ ([x] ++ out.drop k)).Perm ([x] ++ (out.take k ++ out.drop k)) := by
    rw [← List.append_assoc]
    refine ((List.perm_append_comm (l₁ := out.take k) (l₂ := [x])).append_right _).trans ?_
    rw [List.append_assoc]
  rw [hsplit] at h1
  exact h1.trans List.perm_append_comm
theorem bef_le {i j : Nat} (h : befG G i j) : stAt G j ≤ stAt G i := h.elim Int.le_of_lt fun h => by rw [h.1]; exact Int.le_refl _
theorem ord_le {out : List Nat} (h : out.Pairwise (befG G)) {i j : Nat} (hij : i ≤ j) (hj : j < out.length) : stAt G out[j] ≤ stAt G (out[i]'(by omega)) := by
  by_cases e : i = j
  · subst e; exact Int.le_refl _
  · exact bef_le (List.pairwise_iff_getElem.1 h i j (by omega) hj (by omega))
end
end Go.Proofs.Ytecpedecgcaeoaa.Tx
