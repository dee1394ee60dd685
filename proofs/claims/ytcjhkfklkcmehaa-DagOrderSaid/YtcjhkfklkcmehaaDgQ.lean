/- What follows of bases, plainly. (No package's code in it.) -/
import Derived.Test.YtcjhkfklkcmehaaDgP
set_option linter.unusedVariables false
set_option linter.unusedSimpArgs false
namespace Go.Proofs.Ytcjhkfklkcmehaa.Tx
open Classical

section
variable {G : GR} {a b s : ByteArray} {i j k : Nat}
theorem mem_com : k ∈ comL G [a] b ↔ k < G.length ∧ RS (parAt G) [pl G b] k ∧ RS (parAt G) [pl G a] k := by
  unfold comL
  rw [List.mem_filter, mem_anc, decide_eq_true_iff]
  exact and_assoc
theorem com_swap : comL G [a] b = comL G [b] a := by
  unfold comL ancL
  rw [List.filter_filter, List.filter_filter]
  refine List.filter_congr fun k _ => ?_
  rw [Bool.and_comm]
  rfl
theorem com_nodup : (comL G [a] b).Nodup := anc_nodup.sublist List.filter_sublist
theorem com_lt : ∀ k ∈ comL G [a] b, k < G.length := fun k hk => (mem_com.1 hk).1
/-- The bases' places. -/
theorem bas_mem : s ∈ basT G [a] b ↔ ∃ k ∈ topL (parAt G) (comL G [a] b), s = idAt G k := by
  unfold basT
  rw [(sortT_perm _).mem_iff, List.mem_map]
  constructor
  · rintro ⟨k, hk, rfl⟩; exact ⟨k, hk, rfl⟩
  · rintro ⟨k, hk, rfl⟩; exact ⟨k, hk, rfl⟩
theorem bas_swap : basT G [a] b = basT G [b] a := by unfold basT; rw [com_swap]
theorem btop_lt (h : k ∈ topL (parAt G) (comL G [a] b)) : k < G.length := com_lt k (mem_top.1 h).1
theorem bas_is (hw : GW G) (ha : inG G a = true) (hb : inG G b = true) (h : s ∈ basT G [a] b) : isG G s a = true ∧ isG G s b = true := by
  obtain ⟨k, hk, rfl⟩ := bas_mem.1 h
  have hkl := btop_lt hk
  have := mem_com.1 (mem_top.1 hk).1
  rw [isG_at (in_id hw hkl) ha, isG_at (in_id hw hkl) hb, pl_id hw hkl]
  exact ⟨decide_eq_true this.2.2, decide_eq_true this.2.1⟩
theorem bas_nodup (hw : GW G) : (basT G [a] b).Nodup := by
  unfold basT
  refine (sortT_perm _).nodup_iff.2 ?_
  have hn : (topL (parAt G) (comL G [a] b)).Nodup := com_nodup.sublist top_sub
  refine List.pairwise_map.2 (hn.imp_of_mem fun {x y} hx hy hne e => hne (hw.inj x y (btop_lt hx) (btop_lt hy) e))
theorem bas_apart (hw : GW G) {x y : ByteArray} (hx : (basT G [a] b)[i]? = some x) (hy : (basT G [a] b)[j]? = some y) (hij : i ≠ j) : isG G x y = false := by
  have hxm := List.mem_of_getElem? hx
  have hym := List.mem_of_getElem? hy
  obtain ⟨p, hp, ep⟩ := bas_mem.1 hxm
  obtain ⟨q, hq, eq⟩ := bas_mem.1 hym
  subst ep eq
  rw [isG_ids hw (btop_lt hp) (btop_lt hq), decide_eq_false_iff_not]
  intro hr
  have e := top_apart hp hq hr
  subst e
  obtain ⟨l1, e1⟩ := List.getElem?_eq_some_iff.1 hx
  obtain ⟨l2, e2⟩ := List.getElem?_eq_some_iff.1 hy
  have hn := List.pairwise_iff_getElem.1 (bas_nodup (a := a) (b := b) hw)
  rcases Nat.lt_or_ge i j with h | h
  · exact hn i j l1 l2 h (e1.trans e2.symm)
  · exact hn j i l2 l1 (by omega) (e2.trans e1.symm)
theorem anc_memT {xs : List ByteArray} : s ∈ ancT G xs ↔ ∃ k, k < G.length ∧ RS (parAt G) (plsL G xs) k ∧ s = idAt G k := by
  unfold ancT
  rw [(sortT_perm _).mem_iff, List.mem_map]
  constructor
  · rintro ⟨k, hk, rfl⟩
    have := mem_anc.1 hk
    exact ⟨k, this.1, this.2, rfl⟩
  · rintro ⟨k, h1, h2, rfl⟩
    exact ⟨k, mem_anc.2 ⟨h1, h2⟩, rfl⟩
theorem bas_over (hw : GW G) (ha : inG G a = true) (hb : inG G b = true) (h : s ∈ ancT G [a]) : ((!isG G s b) || (basT G [a] b).any (isG G s)) = true := by
  obtain ⟨k, hkl, hr, rfl⟩ := anc_memT.1 h
  rw [isG_at (in_id hw hkl) hb, pl_id hw hkl]
  rcases Classical.em (RS (parAt G) [pl G b] k) with hrb | hrb
  · have hk : k ∈ comL G [a] b := mem_com.2 ⟨hkl, hrb, hr⟩
    obtain ⟨t, ht, h2⟩ := top_over hw.down com_lt hk
    have htl := btop_lt ht
    rw [Bool.or_eq_true]
    right
    refine List.any_eq_true.2 ⟨idAt G t, bas_mem.2 ⟨t, ht, rfl⟩, ?_⟩
    rw [isG_ids hw hkl htl]
    exact decide_eq_true h2
  · rw [decide_eq_false hrb]
    rfl
theorem bas_own (hw : GW G) (ha : inG G a = true) (hb : inG G b = true) (h : isG G a b = true) : basT G [a] b = [a] := by
  rw [isG_at ha hb] at h
  have hr : RS (parAt G) [pl G b] (pl G a) := of_decide_eq_true h
  have hpl := pl_lt ha
  have hpa : pl G a ∈ comL G [a] b := mem_com.2 ⟨hpl, hr, .self _⟩
  have ht : topL (parAt G) (comL G [a] b) = [pl G a] := by
    have h1 : pl G a ∈ topL (parAt G) (comL G [a] b) := mem_top.2 ⟨hpa, fun hx => by
      obtain ⟨q, hq, h2⟩ := RS.flat.1 hx
      have h3 := h2.under hw.down
      have h4 := (mem_com.1 hq).2.2.le hw.down
      omega⟩
    have h2 : ∀ t ∈ topL (parAt G) (comL G [a] b), t = pl G a := fun t ht => by
      have h3 := (mem_com.1 (mem_top.1 ht).1).2.2
      exact top_apart ht h1 h3
    have hn : (topL (parAt G) (comL G [a] b)).Nodup := com_nodup.sublist top_sub
    match hL : topL (parAt G) (comL G [a] b) with
    | [] => rw [hL] at h1; cases h1
    | [x] => rw [hL] at h2; rw [h2 x List.mem_cons_self]
    | x :: y :: r =>
      rw [hL] at h2 hn
      have e1 := h2 x List.mem_cons_self
      have e2 := h2 y (List.mem_cons_of_mem _ List.mem_cons_self)
      have := (List.nodup_cons.1 hn).1
      exact absurd (by rw [e1, ← e2]; exact List.mem_cons_self) this
  unfold basT
  rw [ht]
  show sortT [idAt G (pl G a)] = [a]
  rw [id_pl ha]
  rfl
theorem ancT_sz (hw : GW G) {xs : List ByteArray} (h : s ∈ ancT G xs) : s.size ≤ 1000000 := by
  obtain ⟨k, _, _, rfl⟩ := anc_memT.1 h
  exact hw.sz k
theorem basT_sz (hw : GW G) (h : s ∈ basT G [a] b) : s.size ≤ 1000000 := by
  obtain ⟨k, _, rfl⟩ := bas_mem.1 h
  exact hw.sz k
theorem ancT_len {xs : List ByteArray} : (ancT G xs).length ≤ G.length := by
  unfold ancT
  rw [sortT_length, List.length_map]
  exact anc_len
theorem basT_len : (basT G [a] b).length ≤ G.length := by
  unfold basT
  rw [sortT_length, List.length_map]
  exact Nat.le_trans top_sub.length_le (Nat.le_trans (List.length_filter_le _ _) anc_len)
end
end Go.Proofs.Ytcjhkfklkcmehaa.Tx
