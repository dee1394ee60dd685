/- What follows of tops, bases, ancestors, plainly. (No package's code in it.) -/
import Derived.Test.YtcjhkfklkcmehaaDgA
set_option linter.unusedVariables false
set_option linter.unusedSimpArgs false
namespace Go.Proofs.Ytcjhkfklkcmehaa.Tx
open Classical

theorem strict_nodup {l : List ByteArray} (h : Strict l) : l.Nodup := h.imp fun {a b} hab e => by rw [e, bl_irr] at hab; cases hab
section
variable {G : GR} {xs : List ByteArray} {a b s : ByteArray} {i j k : Nat}
theorem isG_at (ha : inG G a = true) (hb : inG G b = true) : isG G a b = decide (RS (parAt G) [pl G b] (pl G a)) := by unfold isG; rw [ha, hb]; simp
theorem isG_ids (hw : GW G) (hi : i < G.length) (hj : j < G.length) : isG G (idAt G i) (idAt G j) = decide (RS (parAt G) [j] i) := by
  rw [isG_at (in_id hw hi) (in_id hw hj), pl_id hw hi, pl_id hw hj]
theorem isG_in (h : isG G a b = true) : inG G a = true ∧ inG G b = true := by
  unfold isG at h
  simp only [Bool.and_eq_true] at h
  exact h.1
theorem pls_nodup (h : xs.Nodup) (hall : allG G xs = true) : (plsL G xs).Nodup := by
  have := pls_ids hall
  rw [← this] at h
  exact List.Pairwise.of_map _ (fun a b hab e => hab (congrArg _ e)) h
theorem pls_map (hw : GW G) {ks : List Nat} (hk : ∀ k ∈ ks, k < G.length) : plsL G (ks.map (idAt G)) = ks := by
  unfold plsL
  rw [List.map_map]
  conv => rhs; rw [← List.map_id ks]
  exact List.map_congr_left fun k hk' => pl_id hw (hk k hk')
theorem all_map (hw : GW G) {ks : List Nat} (hk : ∀ k ∈ ks, k < G.length) : allG G (ks.map (idAt G)) = true := all_iff.2 fun s hs => by
  obtain ⟨k, hk', rfl⟩ := List.mem_map.1 hs
  exact in_id hw (hk k hk')
/-- Tops. -/
theorem all_uniq (h : ∀ s ∈ xs, inG G s = true) : allG G (uniqT xs) = true := all_iff.2 fun s hs => h s (((uniqT_spec xs).2 s).1 hs)
theorem all_uniq' (h : allG G (uniqT xs) = true) : ∀ s ∈ xs, inG G s = true := fun s hs => all_iff.1 h s (((uniqT_spec xs).2 s).2 hs)
theorem top_lt (hall : allG G (uniqT xs) = true) : ∀ k ∈ topL (parAt G) (plsL G (uniqT xs)), k < G.length := fun k hk => pls_lt hall k (mem_top.1 hk).1
theorem top_nodup (hall : allG G (uniqT xs) = true) : (topL (parAt G) (plsL G (uniqT xs))).Nodup := (pls_nodup (strict_nodup (uniqT_spec xs).1) hall).sublist top_sub
theorem tops_any (hw : GW G) (hall : allG G (uniqT xs) = true) (hs : s ∈ xs) : (topT G xs).any (isG G s) = true := by
  have hin := all_uniq' hall s hs
  have hk : pl G s ∈ plsL G (uniqT xs) := List.mem_map.2 ⟨s, ((uniqT_spec xs).2 s).2 hs, rfl⟩
  obtain ⟨t, ht, hr⟩ := top_over hw.down (pls_lt hall) hk
  refine List.any_eq_true.2 ⟨idAt G t, List.mem_map.2 ⟨t, ht, rfl⟩, ?_⟩
  have htl := top_lt hall t ht
  rw [isG_at hin (in_id hw htl), pl_id hw htl]
  exact decide_eq_true hr
theorem top_at (h : (topT G xs)[i]? = some s) : ∃ k, (topL (parAt G) (plsL G (uniqT xs)))[i]? = some k ∧ s = idAt G k := by
  unfold topT at h
  rw [List.getElem?_map] at h
  cases hk : (topL (parAt G) (plsL G (uniqT xs)))[i]? with
  | none => rw [hk] at h; cases h
  | some k => rw [hk] at h; cases h; exact ⟨k, rfl, rfl⟩
theorem tops_apart (hw : GW G) (hall : allG G (uniqT xs) = true) (ha : (topT G xs)[i]? = some a) (hb : (topT G xs)[j]? = some b) (hij : i ≠ j) : isG G a b = false := by
  obtain ⟨p, hp, rfl⟩ := top_at ha
  obtain ⟨q, hq, rfl⟩ := top_at hb
  have hpm := List.mem_of_getElem? hp
  have hqm := List.mem_of_getElem? hq
  rw [isG_ids hw (top_lt hall p hpm) (top_lt hall q hqm), decide_eq_false_iff_not]
  intro hr
  have := top_apart hpm hqm hr
  subst this
  have h1 := (List.getElem?_eq_some_iff.1 hp)
  have h2 := (List.getElem?_eq_some_iff.1 hq)
  obtain ⟨l1, e1⟩ := h1
  obtain ⟨l2, e2⟩ := h2
  have hn := List.pairwise_iff_getElem.1 (top_nodup hall)
  rcases Nat.lt_or_ge i j with h | h
  · exact hn i j l1 l2 h (e1.trans e2.symm)
  · exact hn j i l2 l1 (by omega) (e2.trans e1.symm)
theorem tops_of (hall : allG G (uniqT xs) = true) (h : s ∈ topT G xs) : s ∈ xs := by
  obtain ⟨k, hk, rfl⟩ := List.mem_map.1 h
  obtain ⟨x, hx, rfl⟩ := List.mem_map.1 (mem_top.1 hk).1
  rw [id_pl (all_iff.1 hall x hx)]
  exact ((uniqT_spec xs).2 x).1 hx
theorem tops_strict (hall : allG G (uniqT xs) = true) : Strict (topT G xs) := by
  have h1 : (plsL G (uniqT xs)).map (idAt G) = uniqT xs := pls_ids hall
  have h2 : (topT G xs).Sublist (uniqT xs) := by
    rw [← h1]
    exact top_sub.map _
  exact (uniqT_spec xs).1.sublist h2
theorem tops_tops (hw : GW G) (hall : allG G (uniqT xs) = true) : allG G (uniqT (topT G xs)) = true ∧ topT G (topT G xs) = topT G xs := by
  have hu : uniqT (topT G xs) = topT G xs := (uniqT_eq (tops_strict hall) (fun x => Iff.rfl)).symm
  rw [hu]
  refine ⟨all_map hw (top_lt hall), ?_⟩
  show (topL (parAt G) (plsL G (uniqT (topT G xs)))).map (idAt G) = topT G xs
  rw [hu]
  unfold topT
  rw [pls_map hw (top_lt hall), top_top]
end
end Go.Proofs.Ytcjhkfklkcmehaa.Tx
