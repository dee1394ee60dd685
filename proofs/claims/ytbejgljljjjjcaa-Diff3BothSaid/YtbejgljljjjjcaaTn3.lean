/- marref: Has, Texts, CopyTexts. -/
import Derived.Test.YtbejgljljjjjcaaTx0
namespace Go.Proofs.Ytbejgljljjjjcaa.Tx
open Go.RowKit Go.Proofs.Ytbejgljljjjjcaa.Sh

/-- What a law's call leaves. -/
def Yes (w : World) (e : Ending) (w' : World) : Prop := e = .returned (.bool true) ∧ Below w.heap.size w w'
theorem ba_ext {s t : ByteArray} (h : s.toList = t.toList) : s = t := by
  rw [ByteArray.toList_eq, ByteArray.toList_eq] at h
  exact ByteArray.ext (Array.toList_inj.1 h)
def hasT (xs : List ByteArray) (s : ByteArray) : Bool := xs.any (fun t => t.toList == s.toList)
theorem hasT_yes {xs : List ByteArray} {s : ByteArray} (h : s ∈ xs) : hasT xs s = true := List.any_eq_true.2 ⟨s, h, beq_self_eq_true _⟩
theorem hasT_no {xs : List ByteArray} {s : ByteArray} (h : s ∉ xs) : hasT xs s = false := by
  unfold hasT
  rw [List.any_eq_false]
  intro t ht e
  exact h (by rw [← ba_ext (beq_iff_eq.1 e)]; exact ht)
theorem hasT_iff {xs : List ByteArray} {s : ByteArray} : hasT xs s = true ↔ s ∈ xs := by
  constructor
  · intro h
    rcases Classical.em (s ∈ xs) with h1 | h1
    · exact h1
    · rw [hasT_no h1] at h; cases h
  · exact hasT_yes
theorem toList_ne {s t : ByteArray} (h : t ≠ s) : (t.toList == s.toList) = false := by rw [beq_eq_false_iff_ne]; exact fun e => h (ba_ext e)
set_option maxRecDepth 100000 in
set_option maxHeartbeats 400000 in
theorem texts_same (v v' : Value) (xs : List ByteArray) (w : World) (h : SlV w v (xs.map sv)) (h' : SlV w v' (xs.map sv)) : Calls Try.prog 15 #[v, v'] w (Yes w) := by
  obtain ⟨A, c, rfl, hlc, hcm, hR⟩ := h.len
  obtain ⟨A', c', rfl, hlc', hcm', hR'⟩ := h'.len
  rw [List.length_map] at hlc hR hlc' hR' ⊢
  have HR := Lib.hid hR
  have HR' := Lib.hid hR'
  unfold maxLen at hcm hcm'
  obtain ⟨l, hl⟩ : ∃ l, xs.length = l := ⟨_, rfl⟩
  rw [hl] at hlc hlc' ⊢
  have HL := Lib.hid hl
  clear h h' hR hR' hl
  go_enter Try.func15, Try.ntmps15
  go_wp2
  go_loopw [5] (fun i wr => ∃ k : Nat, k ≤ l ∧ i = .int .i64 k ∧ Below w.heap.size w wr) (fun i _ => l - (intOf i).toNat)
  case atStart => exact ⟨0, Nat.zero_le _, rfl, Below.refl _ _⟩
  case round =>
    obtain ⟨k, hk, rfl, hb⟩ := hrel
    have HB := Lib.hid hb
    clear hb
    by_cases hlt : k < l
    · have hkl : k < xs.length := by rw [HL.out]; exact hlt
      obtain ⟨ad, rfl, hcell⟩ := texts_at ((HR.out.below HB.out).more HB.out.size) k hkl
      obtain ⟨ad', rfl, hcell'⟩ := texts_at ((HR'.out.below HB.out).more HB.out.size) k hkl
      generalize xs[k] = x at *
      clear hkl
      have z0 : (0 : Int) ≤ (k : Int) := by omega
      have z1 : (k : Int) < (l : Int) := by omega
      go_wp2_with fail
      go_quiet (fail)
      go_wp2
      go_roundw
      case rel => exact ⟨k + 1, by omega, by go_num, below_drewN HB.out _⟩
      case measure => simp [intOf]; omega
    · go_wp2
      go_ret
      exact ⟨rfl, HB.out⟩

set_option maxRecDepth 100000 in
set_option maxHeartbeats 400000 in
theorem copyt_any (v : Value) (xs : List ByteArray) (w : World) (h : SlV w v (xs.map sv)) (hn : xs.length ≤ 2000000) : Calls Try.prog 11 #[v] w (TextsPost w xs) := by
  obtain ⟨A, c, rfl, hlc, hcm, hR⟩ := (h.below ((Below.refl w.heap.size w).alloc (Nat.le_refl _) (.cells #[] 9))).len
  rw [List.length_map] at hlc hR ⊢
  have hown : OwnV 9 (w.alloc (.cells #[] 9)) w.heap.size (.slice (some ⟨w.heap.size, 0, none⟩) 0 0) ([].map sv) := World.ownsRow_made w #[] 0 (Nat.le_refl _) (by unfold maxLen; omega) rfl
  obtain ⟨l, hl⟩ : ∃ l, xs.length = l := ⟨_, rfl⟩
  rw [hl] at hR hn ⊢
  have hsm : ([] : List ByteArray).length + l ≤ 2000000 := by simpa using hn
  have hz : w.heap.size ≤ (w.alloc (.cells #[] 9)).heap.size := by simp
  have HR := Lib.hid hR
  have HOWN := Lib.hid hown
  clear hR hown hl h hlc hcm
  go_enter Try.func11, Try.ntmps11
  go_wp2_with (at_builtin; refine append_texts rfl (.tmp 3) (.tmp 4) rfl _ w.heap.size (.slice (some ⟨w.heap.size, 0, none⟩) 0 0) [] rfl HOWN.out _ A l c xs rfl HR.out hsm hz ?_; intro v3 w3 ho3 hb3; have HO := Lib.hid ho3; have HB := Lib.hid hb3; clear ho3 hb3)
  go_ret
  refine ⟨v3, rfl, ?_, ((Below.refl _ _).alloc (Nat.le_refl _) _).trans HB.out⟩
  simpa using HO.out

end Go.Proofs.Ytbejgljljjjjcaa.Tx
