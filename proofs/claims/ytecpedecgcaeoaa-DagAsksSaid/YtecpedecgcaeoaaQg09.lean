/- Texts put together: DgA. -/
import Derived.Test.YtecpedecgcaeoaaQg08
/- The chapter's example, plainly. (No package's code in it.) -/
set_option linter.unusedVariables false
set_option linter.unusedSimpArgs false
namespace Go.Proofs.Ytecpedecgcaeoaa.Tx
open Classical

theorem anc_mark (par : Nat → List Nat) (n : Nat) (fr : List Nat) : ancL par n fr = (List.range n).filter fun k => (markL par n fr).getD k false := by
  unfold ancL
  refine List.filter_congr fun k hk => ?_
  have hk := List.mem_range.1 hk
  unfold markL
  rw [List.getD_eq_getElem?_getD, List.getElem?_map, List.getElem?_range hk]
  rfl
theorem dec_mark {par : Nat → List Nat} {n k : Nat} {fr : List Nat} (hk : k < n) : decide (RS par fr k) = (markL par n fr).getD k false := by
  unfold markL
  rw [List.getD_eq_getElem?_getD, List.getElem?_map, List.getElem?_range hk]
  rfl
abbrev bA : ByteArray := ⟨#[65]⟩
abbrev bB : ByteArray := ⟨#[66]⟩
abbrev bC : ByteArray := ⟨#[67]⟩
abbrev bD : ByteArray := ⟨#[68]⟩
abbrev bE : ByteArray := ⟨#[69]⟩
def G5 : GR := [⟨bA, [], 0⟩, ⟨bB, [0], 1⟩, ⟨bC, [0], 1⟩, ⟨bD, [1, 2], 2⟩, ⟨bE, [1, 2], 2⟩]
theorem tl_mk (a : Array UInt8) : (ByteArray.mk a).toList = a.toList := by rw [ByteArray.toList_eq]
theorem uq0 : uniqT [] = [] := rfl
theorem uq1 (a : ByteArray) : uniqT [a] = [a] := (uniqT_eq (List.pairwise_singleton _ _) (fun x => Iff.rfl)).symm
theorem bl_BC : bl bB.toList bC.toList = true := by rw [tl_mk, tl_mk]; decide
theorem uq2 : uniqT [bB, bC] = [bB, bC] := (uniqT_eq (by
  refine List.pairwise_cons.2 ⟨fun x hx => ?_, List.pairwise_singleton _ _⟩
  rw [List.mem_singleton.1 hx]
  exact bl_BC) (fun x => Iff.rfl)).symm
theorem g5_1 : addR [] bA [] 0 = G5.take 1 := by
  unfold addR addE addG
  rw [uq0]
  rfl
theorem g5_2 : addR (G5.take 1) bB [bA] 1 = G5.take 2 := by
  unfold addR addE addG
  rw [uq1]
  simp [inG, posL, allG, plsL, pl, aboveB, stAt, G5, tl_mk, List.findIdx?_cons, ByteArray.size]
theorem g5_3 : addR (G5.take 2) bC [bA] 1 = G5.take 3 := by
  unfold addR addE addG
  rw [uq1]
  simp [inG, posL, allG, plsL, pl, aboveB, stAt, G5, tl_mk, List.findIdx?_cons, ByteArray.size]
theorem g5_4 : addR (G5.take 3) bD [bB, bC] 2 = G5.take 4 := by
  unfold addR addE addG
  rw [uq2]
  simp [inG, posL, allG, plsL, pl, aboveB, stAt, G5, tl_mk, List.findIdx?_cons, ByteArray.size]
theorem g5_5 : addR (G5.take 4) bE [bB, bC] 2 = G5 := by
  unfold addR addE addG
  rw [uq2]
  simp [inG, posL, allG, plsL, pl, aboveB, stAt, G5, tl_mk, List.findIdx?_cons, ByteArray.size]
theorem in5 : allG G5 [bD] = true ∧ inG G5 bE = true ∧ plsL G5 [bD] = [3] ∧ pl G5 bE = 4 := by
  simp [inG, posL, allG, plsL, pl, G5, tl_mk, List.findIdx?_cons]
theorem par5 : parAt G5 0 = [] ∧ parAt G5 1 = [0] ∧ parAt G5 2 = [0] ∧ parAt G5 3 = [1, 2] ∧ parAt G5 4 = [1, 2] ∧ ∀ j, parAt G5 (j + 5) = [] := ⟨rfl, rfl, rfl, rfl, rfl, fun j => rfl⟩
theorem mk5 (fr : List Nat) (ms : List Bool) (h : WL (parAt G5) fr ms []) (hl : ms.length = 5) : markL (parAt G5) 5 fr = ms := (h.done hl).symm
theorem m3 : markL (parAt G5) 5 [3] = [true, true, true, true, false] := by
  have r3 : RS (parAt G5) [3] 3 := .self 3
  have r1 : RS (parAt G5) [3] 1 := r3.step (by decide)
  have r2 : RS (parAt G5) [3] 2 := r3.step (by decide)
  have r0 : RS (parAt G5) [3] 0 := r1.step (by decide)
  refine mk5 _ _ ⟨fun k h => ?_, (fun k h => by cases h), fun f h => ?_, fun j h k hk => ?_⟩ rfl
  · match k with
    | 0 => exact r0
    | 1 => exact r1
    | 2 => exact r2
    | 3 => exact r3
    | 4 => simp at h
    | k + 5 => simp at h
  · rw [List.mem_singleton.1 h]; simp
  · left
    match j with
    | 0 => cases hk
    | 1 => rw [List.mem_singleton.1 hk]; rfl
    | 2 => rw [List.mem_singleton.1 hk]; rfl
    | 3 =>
      have hk : k ∈ [1, 2] := hk
      simp only [List.mem_cons, List.not_mem_nil, or_false] at hk
      rcases hk with rfl | rfl <;> rfl
    | 4 => simp at h
    | j + 5 => simp at h
theorem m4 : markL (parAt G5) 5 [4] = [true, true, true, false, true] := by
  have r4 : RS (parAt G5) [4] 4 := .self 4
  have r1 : RS (parAt G5) [4] 1 := r4.step (by decide)
  have r2 : RS (parAt G5) [4] 2 := r4.step (by decide)
  have r0 : RS (parAt G5) [4] 0 := r1.step (by decide)
  refine mk5 _ _ ⟨fun k h => ?_, (fun k h => by cases h), fun f h => ?_, fun j h k hk => ?_⟩ rfl
  · match k with
    | 0 => exact r0
    | 1 => exact r1
    | 2 => exact r2
    | 3 => simp at h
    | 4 => exact r4
    | k + 5 => simp at h
  · rw [List.mem_singleton.1 h]; simp
  · left
    match j with
    | 0 => cases hk
    | 1 => rw [List.mem_singleton.1 hk]; rfl
    | 2 => rw [List.mem_singleton.1 hk]; rfl
    | 3 => simp at h
    | 4 =>
      have hk : k ∈ [1, 2] := hk
      simp only [List.mem_cons, List.not_mem_nil, or_false] at hk
      rcases hk with rfl | rfl <;> rfl
    | j + 5 => simp at h
theorem m00 : markL (parAt G5) 5 [0, 0] = [true, false, false, false, false] := by
  have r0 : RS (parAt G5) [0, 0] 0 := .here List.mem_cons_self
  refine mk5 _ _ ⟨fun k h => ?_, (fun k h => by cases h), fun f h => ?_, fun j h k hk => ?_⟩ rfl
  · match k with
    | 0 => exact r0
    | 1 => simp at h
    | 2 => simp at h
    | 3 => simp at h
    | 4 => simp at h
    | k + 5 => simp at h
  · simp only [List.mem_cons, List.not_mem_nil, or_false] at h
    rcases h with rfl | rfl <;> simp
  · match j with
    | 0 => cases hk
    | 1 => simp at h
    | 2 => simp at h
    | 3 => simp at h
    | 4 => simp at h
    | j + 5 => simp at h
theorem com5 : comL G5 [bD] bE = [0, 1, 2] := by
  unfold comL
  rw [in5.2.2.1, in5.2.2.2, anc_mark]
  have e : ∀ l : List Nat, (∀ k ∈ l, k < 5) → (l.filter fun k => decide (RS (parAt G5) [3] k)) = l.filter fun k => (markL (parAt G5) 5 [3]).getD k false := fun l hl => List.filter_congr fun k hk => dec_mark (hl k hk)
  rw [show G5.length = 5 from rfl, e _ (fun k hk => List.mem_range.1 (List.mem_filter.1 hk).1), m3, m4]
  rfl
theorem top5 : topL (parAt G5) (comL G5 [bD] bE) = [1, 2] := by
  rw [com5]
  unfold topL
  rw [show ([0, 1, 2] : List Nat).flatMap (parAt G5) = [0, 0] from rfl]
  have e : (([0, 1, 2] : List Nat).filter fun k => !decide (RS (parAt G5) [0, 0] k)) = ([0, 1, 2] : List Nat).filter fun k => !(markL (parAt G5) 5 [0, 0]).getD k false := List.filter_congr fun k hk => by
    have : k < 5 := by
      simp only [List.mem_cons, List.not_mem_nil, or_false] at hk
      omega
    rw [dec_mark this]
  rw [e, m00]
  rfl
theorem bas5 : basT G5 [bD] bE = [bB, bC] := by
  unfold basT
  rw [top5, show ([1, 2] : List Nat).map (idAt G5) = [bB, bC] from rfl]
  refine (sortT_eq ?_ (List.Perm.refl _)).symm
  refine List.pairwise_cons.2 ⟨fun x hx => ?_, List.pairwise_singleton _ _⟩
  rw [List.mem_singleton.1 hx]
  exact tle_of_lt bl_BC
end Go.Proofs.Ytecpedecgcaeoaa.Tx
