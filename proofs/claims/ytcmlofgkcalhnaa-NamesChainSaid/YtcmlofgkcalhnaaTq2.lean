/- Patterns: what follows of their definitions. Plain lists. -/
import Derived.Test.YtcmlofgkcalhnaaTq1
namespace Go.Proofs.Ytcmlofgkcalhnaa.Tx

theorem ignoredB_app (l m : List (List UInt8)) (s : List UInt8) : ignoredB (l ++ m) s = (ignoredB l s || ignoredB m s) := by unfold ignoredB; rw [List.any_append]
theorem ignoredB_nil (s : List UInt8) : ignoredB [] s = false := rfl
theorem ignoredB_one (p s : List UInt8) : ignoredB [p] s = hitP (namesL s) p := by unfold ignoredB; simp
theorem split_one {p : List UInt8} (h : (splitL 42 p).length = 1) : splitL 42 p = [p] := by
  obtain ⟨y, hy⟩ := List.length_eq_one_iff.1 h
  have := joinL_splitL 42 p
  rw [hy] at this
  rw [hy]
  simp [joinL] at this
  rw [this]
theorem last_name {p : List UInt8} (h : nameB p = true) : patDir p = false := by
  unfold patDir
  rw [beq_eq_false_iff_ne]
  intro e
  exact nameB_sign h (List.mem_of_getLast? e)
theorem patL_plain {p : List UInt8} (h : nameB p = true) (h1 : (splitL 42 p).length = 1) : patL p = some (p, false, [], false) := by
  have hd := last_name h
  have hc : patCore p = p := by unfold patCore; rw [if_neg (by rw [hd]; decide)]
  rw [patL_one hc h (split_one h1), hd]
theorem patL_plain_dir {p : List UInt8} (h : nameB p = true) (h1 : (splitL 42 p).length = 1) : patL (p ++ [47]) = some (p, false, [], true) := by
  have hd : patDir (p ++ [47]) = true := by unfold patDir; rw [List.getLast?_append]; rfl
  have hc : patCore (p ++ [47]) = p := by unfold patCore; rw [if_pos hd]; simp
  rw [patL_one hc h (split_one h1), hd]
theorem takes_self (p : List UInt8) : takesB p false [] p = true := by unfold takesB; rw [if_neg (by decide)]; exact beq_self_eq_true p
theorem hitTo_at {f : List UInt8} {st : Bool} {b : List UInt8} {d : Bool} {l : List (List UInt8)} {i n : Nat} (hi : i < n) (h : ((!d || decide (i + 1 < l.length)) && takesB f st b (l.getD i [])) = true) : hitTo f st b d l n = true := by
  unfold hitTo
  rw [List.any_eq_true]
  exact ⟨i, List.mem_range.2 hi, h⟩
theorem names_name {s p : List UInt8} (h : p ∈ namesL s) : nameB p = true := by
  unfold namesL at h
  split at h
  · rename_i hp
    exact ((pathB_iff s).1 hp).2.1 p h
  · cases h
theorem plain_hits {s : List UInt8} {i : Nat} (hi : i < (namesL s).length) (h1 : (splitL 42 (namesL s)[i]).length = 1) : ignoredB [(namesL s)[i]] s = true := by
  rw [ignoredB_one]
  unfold hitP
  rw [patL_plain (names_name (List.getElem_mem hi)) h1]
  refine hitTo_at hi ?_
  rw [List.getD_eq_getElem?_getD, List.getElem?_eq_getElem hi]
  simp [takes_self]
theorem dir_hits {s : List UInt8} {i : Nat} (hi : i + 1 < (namesL s).length) (h1 : (splitL 42 ((namesL s)[i]'(by omega))).length = 1) : ignoredB [(namesL s)[i]'(by omega) ++ [47]] s = true := by
  rw [ignoredB_one]
  unfold hitP
  rw [patL_plain_dir (names_name (List.getElem_mem (by omega))) h1]
  refine hitTo_at (i := i) (by omega) ?_
  rw [List.getD_eq_getElem?_getD, List.getElem?_eq_getElem (by omega)]
  simp [takes_self, hi]
theorem under_names {s t p : List UInt8} (h : underB s t = true) (hp : p ∈ namesL s) : p ∈ namesL t := by
  have h0 := h
  unfold underB at h
  simp only [Bool.and_eq_true, decide_eq_true_eq, beq_iff_eq] at h
  obtain ⟨⟨⟨⟨h1, h2⟩, h3⟩, h4⟩, h5⟩ := h
  unfold namesL at hp ⊢
  rw [if_pos h1] at hp
  rw [if_pos h2, cut_split h5, h4]
  exact List.mem_append_left _ hp
theorem under_hits {s t : List UInt8} {i : Nat} (hi : i < (namesL s).length) (h1 : (splitL 42 (namesL s)[i]).length = 1) (hu : underB s t = true) : ignoredB [(namesL s)[i]] t = true := by
  have hm := under_names hu (List.getElem_mem hi)
  obtain ⟨k, hk, e⟩ := List.getElem_of_mem hm
  have := plain_hits (s := t) hk (by rw [e]; exact h1)
  rw [e] at this
  exact this
end Go.Proofs.Ytcmlofgkcalhnaa.Tx
