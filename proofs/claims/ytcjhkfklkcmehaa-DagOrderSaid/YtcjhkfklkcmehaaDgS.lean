/- What follows of an order, plainly. (No package's code in it.) -/
import Derived.Test.YtcjhkfklkcmehaaDgQ
set_option linter.unusedVariables false
set_option linter.unusedSimpArgs false
namespace Go.Proofs.Ytcjhkfklkcmehaa.Tx
open Classical

section
variable {G : GR} {xs : List ByteArray} {os : List Nat} {a b s : ByteArray} {i j k : Nat}
theorem ord_mem (h : OrdG G xs os) : k ∈ os ↔ k < G.length ∧ RS (parAt G) (plsL G xs) k := by rw [h.1.mem_iff, mem_anc]
theorem ord_len (h : OrdG G xs os) : (os.map (idAt G)).length = (ancT G xs).length := by
  unfold ancT
  rw [sortT_length, List.length_map, List.length_map, h.1.length_eq]
theorem ord_memT (h : OrdG G xs os) : s ∈ os.map (idAt G) ↔ s ∈ ancT G xs := by
  rw [anc_memT, List.mem_map]
  constructor
  · rintro ⟨k, hk, rfl⟩
    have := (ord_mem h).1 hk
    exact ⟨k, this.1, this.2, rfl⟩
  · rintro ⟨k, h1, h2, rfl⟩
    exact ⟨k, (ord_mem h).2 ⟨h1, h2⟩, rfl⟩
theorem ancT_nodup (hw : GW G) : (ancT G xs).Nodup := by
  unfold ancT
  refine (sortT_perm _).nodup_iff.2 ?_
  refine List.pairwise_map.2 (anc_nodup.imp_of_mem fun {x y} hx hy hne e => hne (hw.inj x y (mem_anc.1 hx).1 (mem_anc.1 hy).1 e))
theorem ancT_strict (hw : GW G) : Strict (ancT G xs) := by
  have h1 : Sorted (ancT G xs) := sortT_sorted _
  have h2 := ancT_nodup (xs := xs) hw
  refine (List.Pairwise.and h1 h2).imp ?_
  rintro x y ⟨p, q⟩
  rcases bl_tri x.toList y.toList with r | r | r
  · exact r
  · exact absurd (ba_ext r) q
  · unfold tle at p; have r2 := bl_asymm _ _ r; unfold bl at r2; rw [r2, Bool.false_or, beq_iff_eq] at p; exact absurd (ba_ext p) q
/-- Each once. -/
theorem ord_uniq (hw : GW G) (h : OrdG G xs os) : uniqT (os.map (idAt G)) = ancT G xs := (uniqT_eq (ancT_strict hw) fun x => (ord_memT h).symm).symm
/-- Each parent stands behind. -/
theorem ord_behind (hw : GW G) (hall : allG G xs = true) (h : OrdG G xs os) (hk : os[i]? = some k) {p : Nat} (hp : p ∈ parAt G k) : idAt G p ∈ (os.map (idAt G)).drop (i + 1) := by
  have hkm := (ord_mem h).1 (List.mem_of_getElem? hk)
  have hpk := hw.par k p hp
  have hpm : p ∈ os := (ord_mem h).2 ⟨by omega, hkm.2.step hp⟩
  obtain ⟨j, hj, he⟩ := List.getElem_of_mem hpm
  obtain ⟨hi, hki⟩ := List.getElem?_eq_some_iff.1 hk
  have hpw := List.pairwise_iff_getElem.1 h.2
  have hbf : befG G k p := .inl hpk.2
  have hno : ¬ befG G p k := by
    rintro (h1 | ⟨h1, _⟩)
    · have := hpk.2; omega
    · have := hpk.2; omega
  have hij : i < j := by
    rcases Nat.lt_trichotomy i j with h1 | h1 | h1
    · exact h1
    · subst h1
      rw [he] at hki
      omega
    · have := hpw j i hj hi h1
      rw [he, hki] at this
      exact absurd this hno
  refine List.mem_drop_iff_getElem.2 ⟨j - (i + 1), by rw [List.length_map]; omega, ?_⟩
  rw [List.getElem_map]
  simp only [show i + 1 + (j - (i + 1)) = j by omega, he]
theorem ord_at (h : OrdG G xs os) (hs : (os.map (idAt G))[i]? = some s) : ∃ k, os[i]? = some k ∧ k < G.length ∧ s = idAt G k := by
  rw [List.getElem?_map] at hs
  cases hk : os[i]? with
  | none => rw [hk] at hs; cases hs
  | some k => rw [hk] at hs; cases hs; exact ⟨k, rfl, ((ord_mem h).1 (List.mem_of_getElem? hk)).1, rfl⟩
theorem par_is (hw : GW G) (hk : k < G.length) {p : Nat} (hp : p ∈ parAt G k) : isG G (idAt G p) (idAt G k) = true ∧ isG G (idAt G k) (idAt G p) = false ∧ stAt G p < stAt G k := by
  have h1 := hw.par k p hp
  have hpl : p < G.length := by omega
  refine ⟨?_, ?_, h1.2⟩
  · rw [isG_ids hw hpl hk]
    exact decide_eq_true ((RS.self k).step hp)
  · rw [isG_ids hw hk hpl, decide_eq_false_iff_not]
    intro h
    have := h.le hw.down
    omega
theorem anc_own (hw : GW G) (hall : allG G xs = true) (hs : s ∈ xs) : s ∈ ancT G xs := by
  have hin := all_iff.1 hall s hs
  refine anc_memT.2 ⟨pl G s, pl_lt hin, .here (List.mem_map.2 ⟨s, hs, rfl⟩), (id_pl hin).symm⟩
end
end Go.Proofs.Ytcjhkfklkcmehaa.Tx
