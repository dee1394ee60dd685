/- Texts put together: DgP, DgQ. -/
import Derived.Test.YtecpedecgcaeoaaQg09
/- What follows of tops, bases, ancestors, plainly. (No package's code in it.) -/
set_option linter.unusedVariables false
set_option linter.unusedSimpArgs false
namespace Go.Proofs.Ytecpedecgcaeoaa.Tx
open Classical

theorem strict_nodup {l : List ByteArray} (h : Strict l) : l.Nodup := h.imp fun {a b} hab e => by rw [e, bl_irr] at hab; cases hab
section
variable {G : GR} {xs : List ByteArray} {a b s : ByteArray} {i j k : Nat}
theorem isG_at (ha : inG G a = true) (hb : inG G b = true) : isG G a b = decide (RS (parAt G) [pl G b] (pl G a)) := by unfold isG; rw [ha, hb]; simp
theorem isG_ids (hw : GW G) (hi : i < G.length) (hj : j < G.length) : isG G (idAt G i) (idAt G j) = decide (RS (parAt G) [j] i) := by
  rw [isG_at (in_id hw hi) (in_id hw hj), pl_id hw hi, pl_id hw hj]
theorem isG_in (h : isG G a b = true) : inG G a = true ∧ inG G b = true := by
  unfold isG at h
  simp only [Bool.and_eq_true] at h
  exact h.1
theorem pls_nodup (h : xs.Nodup) (hall : allG G xs = true) : (plsL G xs).Nodup := by
  have := pls_ids hall
  rw [← this] at h
  exact List.Pairwise.of_map _ (fun a b hab e => hab (congrArg _ e)) h
theorem pls_map (hw : GW G) {ks : List Nat} (hk : ∀ k ∈ ks, k < G.length) : plsL G (ks.map (idAt G)) = ks := by
  unfold plsL
  rw [List.map_map]
  conv => rhs; rw [← List.map_id ks]
  exact List.map_congr_left fun k hk' => pl_id hw (hk k hk')
theorem all_map (hw : GW G) {ks : List Nat} (hk : ∀ k ∈ ks, k < G.length) : allG G (ks.map (idAt G)) = true := all_iff.2 fun s hs => by
  obtain ⟨k, hk', rfl⟩ := List.mem_map.1 hs
  exact in_id hw (hk k hk')
/-- Tops. -/
theorem all_uniq (h : ∀ s ∈ xs, inG G s = true) : allG G (uniqT xs) = true := all_iff.2 fun s hs => h s (((uniqT_spec xs).2 s).1 hs)
theorem all_uniq' (h : allG G (uniqT xs) = true) : ∀ s ∈ xs, inG G s = true := fun s hs => all_iff.1 h s (((uniqT_spec xs).2 s).2 hs)
theorem top_lt (hall : allG G (uniqT xs) = true) : ∀ k ∈ topL (parAt G) (plsL G (uniqT xs)), k < G.length := fun k hk => pls_lt hall k (mem_top.1 hk).1
theorem top_nodup (hall : allG G (uniqT xs) = true) : (topL (parAt G) (plsL G (uniqT xs))).Nodup := (pls_nodup (strict_nodup (uniqT_spec xs).1) hall).sublist top_sub
theorem tops_any (hw : GW G) (hall : allG G (uniqT xs) = true) (hs : s ∈ xs) : (topT G xs).any (isG G s) = true := by
  have hin := all_uniq' hall s hs
  have hk : pl G s ∈ plsL G (uniqT xs) := List.mem_map.2 ⟨s, ((uniqT_spec xs).2 s).2 hs, rfl⟩
  obtain ⟨t, ht, hr⟩ := top_over hw.down (pls_lt hall) hk
  refine List.any_eq_true.2 ⟨idAt G t, List.mem_map.2 ⟨t, ht, rfl⟩, ?_⟩
  have htl := top_lt hall t ht
  rw [isG_at hin (in_id hw htl), pl_id hw htl]
  exact decide_eq_true hr
theorem top_at (h : (topT G xs)[i]? = some s) : ∃ k, (topL (parAt G) (plsL G (uniqT xs)))[i]? = some k ∧ s = idAt G k := by
  unfold topT at h
  rw [List.getElem?_map] at h
  cases hk : (topL (parAt G) (plsL G (uniqT xs)))[i]? with
  | none => rw [hk] at h; cases h
  | some k => rw [hk] at h; cases h; exact ⟨k, rfl, rfl⟩
theorem tops_apart (hw : GW G) (hall : allG G (uniqT xs) = true) (ha : (topT G xs)[i]? = some a) (hb : (topT G xs)[j]? = some b) (hij : i ≠ j) : isG G a b = false := by
  obtain ⟨p, hp, rfl⟩ := top_at ha
  obtain ⟨q, hq, rfl⟩ := top_at hb
  have hpm := List.mem_of_getElem? hp
  have hqm := List.mem_of_getElem? hq
  rw [isG_ids hw (top_lt hall p hpm) (top_lt hall q hqm), decide_eq_false_iff_not]
  intro hr
  have := top_apart hpm hqm hr
  subst this
  have h1 := (List.getElem?_eq_some_iff.1 hp)
  have h2 := (List.getElem?_eq_some_iff.1 hq)
  obtain ⟨l1, e1⟩ := h1
  obtain ⟨l2, e2⟩ := h2
  have hn := List.pairwise_iff_getElem.1 (top_nodup hall)
  rcases Nat.lt_or_ge i j with h | h
  · exact hn i j l1 l2 h (e1.trans e2.symm)
  · exact hn j i l2 l1 (by omega) (e2.trans e1.symm)
theorem tops_of (hall : allG G (uniqT xs) = true) (h : s ∈ topT G xs) : s ∈ xs := by
  obtain ⟨k, hk, rfl⟩ := List.mem_map.1 h
  obtain ⟨x, hx, rfl⟩ := List.mem_map.1 (mem_top.1 hk).1
  rw [id_pl (all_iff.1 hall x hx)]
  exact ((uniqT_spec xs).2 x).1 hx
theorem tops_strict (hall : allG G (uniqT xs) = true) : Strict (topT G xs) := by
  have h1 : (plsL G (uniqT xs)).map (idAt G) = uniqT xs := pls_ids hall
  have h2 : (topT G xs).Sublist (uniqT xs) := by
    rw [← h1]
    exact top_sub.map _
  exact (uniqT_spec xs).1.sublist h2
theorem tops_tops (hw : GW G) (hall : allG G (uniqT xs) = true) : allG G (uniqT (topT G xs)) = true ∧ topT G (topT G xs) = topT G xs := by
  have hu : uniqT (topT G xs) = topT G xs := (uniqT_eq (tops_strict hall) (fun x => Iff.rfl)).symm
  rw [hu]
  refine ⟨all_map hw (top_lt hall), ?_⟩
  show (topL (parAt G) (plsL G (uniqT (topT G xs)))).map (idAt G) = topT G xs
  rw [hu]
  unfold topT
  rw [pls_map hw (top_lt hall), top_top]
end
end Go.Proofs.Ytecpedecgcaeoaa.Tx
/- What follows of bases, plainly. (No package's code in it.) -/
set_option linter.unusedVariables false
set_option linter.unusedSimpArgs false
namespace Go.Proofs.Ytecpedecgcaeoaa.Tx
open Classical

section
variable {G : GR} {a b s : ByteArray} {i j k : Nat}
theorem mem_com : k ∈ comL G [a] b ↔ k < G.length ∧ RS (parAt G) [pl G b] k ∧ RS (parAt G) [pl G a] k := by
  unfold comL
  rw [List.mem_filter, mem_anc, decide_eq_true_iff]
  exact and_assoc
theorem com_swap : comL G [a] b = comL G [b] a := by
  unfold comL ancL
  rw [List.filter_filter, List.filter_filter]
  refine List.filter_congr fun k _ => ?_
  rw [Bool.and_comm]
  rfl
theorem com_nodup : (comL G [a] b).Nodup := anc_nodup.sublist List.filter_sublist
theorem com_lt : ∀ k ∈ comL G [a] b, k < G.length := fun k hk => (mem_com.1 hk).1
/-- The bases' places. -/
theorem bas_mem : s ∈ basT G [a] b ↔ ∃ k ∈ topL (parAt G) (comL G [a] b), s = idAt G k := by
  unfold basT
  rw [(sortT_perm _).mem_iff, List.mem_map]
  constructor
  · rintro ⟨k, hk, rfl⟩; exact ⟨k, hk, rfl⟩
  · rintro ⟨k, hk, rfl⟩; exact ⟨k, hk, rfl⟩
theorem bas_swap : basT G [a] b = basT G [b] a := by unfold basT; rw [com_swap]
theorem btop_lt (h : k ∈ topL (parAt G) (comL G [a] b)) : k < G.length := com_lt k (mem_top.1 h).1
theorem bas_is (hw : GW G) (ha : inG G a = true) (hb : inG G b = true) (h : s ∈ basT G [a] b) : isG G s a = true ∧ isG G s b = true := by
  obtain ⟨k, hk, rfl⟩ := bas_mem.1 h
  have hkl := btop_lt hk
  have := mem_com.1 (mem_top.1 hk).1
  rw [isG_at (in_id hw hkl) ha, isG_at (in_id hw hkl) hb, pl_id hw hkl]
  exact ⟨decide_eq_true this.2.2, decide_eq_true this.2.1⟩
theorem bas_nodup (hw : GW G) : (basT G [a] b).Nodup := by
  unfold basT
  refine (sortT_perm _).nodup_iff.2 ?_
  have hn : (topL (parAt G) (comL G [a] b)).Nodup := com_nodup.sublist top_sub
  refine List.pairwise_map.2 (hn.imp_of_mem fun {x y} hx hy hne e => hne (hw.inj x y (btop_lt hx) (btop_lt hy) e))
theorem bas_apart (hw : GW G) {x y : ByteArray} (hx : (basT G [a] b)[i]? = some x) (hy : (basT G [a] b)[j]? = some y) (hij : i ≠ j) : isG G x y = false := by
  have hxm := List.mem_of_getElem? hx
  have hym := List.mem_of_getElem? hy
  obtain ⟨p, hp, ep⟩ := bas_mem.1 hxm
  obtain ⟨q, hq, eq⟩ := bas_mem.1 hym
  subst ep eq
  rw [isG_ids hw (btop_lt hp) (btop_lt hq), decide_eq_false_iff_not]
  intro hr
  have e := top_apart hp hq hr
  subst e
  obtain ⟨l1, e1⟩ := List.getElem?_eq_some_iff.1 hx
  obtain ⟨l2, e2⟩ := List.getElem?_eq_some_iff.1 hy
  have hn := List.pairwise_iff_getElem.1 (bas_nodup (a := a) (b := b) hw)
  rcases Nat.lt_or_ge i j with h | h
  · exact hn i j l1 l2 h (e1.trans e2.symm)
  · exact hn j i l2 l1 (by omega) (e2.trans e1.symm)
theorem anc_memT {xs : List ByteArray} : s ∈ ancT G xs ↔ ∃ k, k < G.length ∧ RS (parAt G) (plsL G xs) k ∧ s = idAt G k := by
  unfold ancT
  rw [(sortT_perm _).mem_iff, List.mem_map]
  constructor
  · rintro ⟨k, hk, rfl⟩
    have := mem_anc.1 hk
    exact ⟨k, this.1, this.2, rfl⟩
  · rintro ⟨k, h1, h2, rfl⟩
    exact ⟨k, mem_anc.2 ⟨h1, h2⟩, rfl⟩
theorem bas_over (hw : GW G) (ha : inG G a = true) (hb : inG G b = true) (h : s ∈ ancT G [a]) : ((!isG G s b) || (basT G [a] b).any (isG G s)) = true := by
  obtain ⟨k, hkl, hr, rfl⟩ := anc_memT.1 h
  rw [isG_at (in_id hw hkl) hb, pl_id hw hkl]
  rcases Classical.em (RS (parAt G) [pl G b] k) with hrb | hrb
  · have hk : k ∈ comL G [a] b := mem_com.2 ⟨hkl, hrb, hr⟩
    obtain ⟨t, ht, h2⟩ := top_over hw.down com_lt hk
    have htl := btop_lt ht
    rw [Bool.or_eq_true]
    right
    refine List.any_eq_true.2 ⟨idAt G t, bas_mem.2 ⟨t, ht, rfl⟩, ?_⟩
    rw [isG_ids hw hkl htl]
    exact decide_eq_true h2
  · rw [decide_eq_false hrb]
    rfl
theorem bas_own (hw : GW G) (ha : inG G a = true) (hb : inG G b = true) (h : isG G a b = true) : basT G [a] b = [a] := by
  rw [isG_at ha hb] at h
  have hr : RS (parAt G) [pl G b] (pl G a) := of_decide_eq_true h
  have hpl := pl_lt ha
  have hpa : pl G a ∈ comL G [a] b := mem_com.2 ⟨hpl, hr, .self _⟩
  have ht : topL (parAt G) (comL G [a] b) = [pl G a] := by
    have h1 : pl G a ∈ topL (parAt G) (comL G [a] b) := mem_top.2 ⟨hpa, fun hx => by
      obtain ⟨q, hq, h2⟩ := RS.flat.1 hx
      have h3 := h2.under hw.down
      have h4 := (mem_com.1 hq).2.2.le hw.down
      omega⟩
    have h2 : ∀ t ∈ topL (parAt G) (comL G [a] b), t = pl G a := fun t ht => by
      have h3 := (mem_com.1 (mem_top.1 ht).1).2.2
      exact top_apart ht h1 h3
    have hn : (topL (parAt G) (comL G [a] b)).Nodup := com_nodup.sublist top_sub
    match hL : topL (parAt G) (comL G [a] b) with
    | [] => rw [hL] at h1; cases h1
    | [x] => rw [hL] at h2; rw [h2 x List.mem_cons_self]
    | x :: y :: r =>
      rw [hL] at h2 hn
      have e1 := h2 x List.mem_cons_self
      have e2 := h2 y (List.mem_cons_of_mem _ List.mem_cons_self)
      have := (List.nodup_cons.1 hn).1
      exact absurd (by rw [e1, ← e2]; exact List.mem_cons_self) this
  unfold basT
  rw [ht]
  show sortT [idAt G (pl G a)] = [a]
  rw [id_pl ha]
  rfl
theorem ancT_sz (hw : GW G) {xs : List ByteArray} (h : s ∈ ancT G xs) : s.size ≤ 1000000 := by
  obtain ⟨k, _, _, rfl⟩ := anc_memT.1 h
  exact hw.sz k
theorem basT_sz (hw : GW G) (h : s ∈ basT G [a] b) : s.size ≤ 1000000 := by
  obtain ⟨k, _, rfl⟩ := bas_mem.1 h
  exact hw.sz k
theorem ancT_len {xs : List ByteArray} : (ancT G xs).length ≤ G.length := by
  unfold ancT
  rw [sortT_length, List.length_map]
  exact anc_len
theorem basT_len : (basT G [a] b).length ≤ G.length := by
  unfold basT
  rw [sortT_length, List.length_map]
  exact Nat.le_trans top_sub.length_le (Nat.le_trans (List.length_filter_le _ _) anc_len)
end
end Go.Proofs.Ytecpedecgcaeoaa.Tx
