/- wire's table, Crc, Compare. -/
import Derived.Test.YthopfbkkjfnhkaaW5
import Derived.WalkLawsBesides
namespace Go.Proofs.Ythopfbkkjfnhkaa
open Go.RowKit

abbrev zer16 : Array Value := #[.int .u32 0, .int .u32 0, .int .u32 0, .int .u32 0, .int .u32 0, .int .u32 0, .int .u32 0, .int .u32 0, .int .u32 0, .int .u32 0, .int .u32 0, .int .u32 0, .int .u32 0, .int .u32 0, .int .u32 0, .int .u32 0]
def tv (i : Nat) : Value := .int .u32 (wi (cb4 (UInt32.ofNat i)))
def tabA : Array Value := ((List.range 16).map tv).toArray
theorem tabA_size : tabA.size = 16 := by unfold tabA; simp
theorem tabA_at (i : Nat) (h : i < 16) : tabA[i]? = some (tv i) := by
  unfold tabA
  rw [List.getElem?_toArray, List.getElem?_map, List.getElem?_range h]
  rfl
theorem info52 : (Try.prog.info? 52).map (·.size) = some 16 := by kernel_rfl
theorem info52' : (Try.prog.info? 52).map (·.size) = some tabA.size := by rw [tabA_size]; exact info52
theorem tabA_one : tabA.all (·.oneCell') = true := by
  unfold tabA
  simp [tv, Value.oneCell']
/-- Block g is a table done up to k. -/
def Tab (w : World) (g k : Nat) : Prop := ∃ cs, Blk w g 52 cs ∧ cs.size = 16 ∧ (∀ i, i < k → cs[i]? = some (tv i)) ∧ ∀ i, i < 16 → ∃ u, cs[i]? = some (.int .u32 u)
theorem Tab.all {w : World} {g : Nat} (h : Tab w g 16) : Blk w g 52 tabA := by
  obtain ⟨cs, hb, hz, hd, _⟩ := h
  have e : cs = tabA := by
    apply Array.ext
    · rw [hz, tabA_size]
    · intro i h1 h2
      have a := hd i (by omega)
      rw [← tabA_at i (by omega)] at a
      rw [Array.getElem?_eq_getElem h1, Array.getElem?_eq_getElem h2] at a
      injection a
  rw [← e]; exact hb
theorem Tab.set {w : World} {g k : Nat} (h : Tab w g k) (hk : k < 16) (t : UInt32) (ht : t = cb4 (UInt32.ofNat k)) : Tab (w.setCell ⟨g, k, none⟩ (.int .u32 (wi t))) g (k + 1) := by
  obtain ⟨cs, hb, hz, hd, ha⟩ := h
  refine ⟨_, hb.set_ k _, by simpa using hz, fun i hi => ?_, fun i hi => ?_⟩
  · rw [Array.getElem?_setIfInBounds]
    by_cases e : k = i
    · subst e
      rw [if_pos rfl, if_pos (by omega), ht]; rfl
    · rw [if_neg e]; exact hd i (by omega)
  · rw [Array.getElem?_setIfInBounds]
    by_cases e : k = i
    · subst e
      rw [if_pos rfl, if_pos (by omega)]; exact ⟨_, rfl⟩
    · rw [if_neg e]; exact ha i hi
theorem tab_new {w : World} {g : Nat} (h : Blk w g 52 zer16) : Tab w g 0 := by
  refine ⟨_, h, rfl, fun i hi => by omega, fun i hi => ⟨0, ?_⟩⟩
  obtain rfl | rfl | rfl | rfl | rfl | rfl | rfl | rfl | rfl | rfl | rfl | rfl | rfl | rfl | rfl | rfl : i = 0 ∨ i = 1 ∨ i = 2 ∨ i = 3 ∨ i = 4 ∨ i = 5 ∨ i = 6 ∨ i = 7 ∨ i = 8 ∨ i = 9 ∨ i = 10 ∨ i = 11 ∨ i = 12 ∨ i = 13 ∨ i = 14 ∨ i = 15 := by omega
  all_goals rfl
theorem wi_nat (k : Nat) (h : k < 4294967296) : wi (UInt32.ofNat k) = (k : Int) := by unfold wi; rw [ofNat32_nat k h]

set_option maxRecDepth 100000 in
set_option maxHeartbeats 1600000 in
theorem half_any (w : World) : Calls Try.prog 35 #[] w fun e w' => e = .returned (.agg tabA) ∧ Below w.heap.size w w' := by
  go_enter Try.func35, Try.ntmps35
  go_wp2
  have hT : Tab ((w.alloc (.cells zer16 52)).alloc (.cells zer16 52)) (w.heap.size + 1) 0 := by
    refine tab_new ?_
    have := Blk.new (w.alloc (.cells zer16 52)) 52 zer16
    simpa using this
  have hO : Blk ((w.alloc (.cells zer16 52)).alloc (.cells zer16 52)) w.heap.size 52 zer16 := (Blk.new _ _ _).alloc _
  have hB : Below w.heap.size w ((w.alloc (.cells zer16 52)).alloc (.cells zer16 52)) :=
    (((Below.refl _ _).alloc (Nat.le_refl _) _).alloc (by simp) _)
  have HT := Lib.hid hT
  have HO := Lib.hid hO
  have HB := Lib.hid hB
  clear hT hO hB
  go_loopw [2, 3, 4, 5, 10] (fun _ _ _ i _ wr => ∃ k : Nat, k ≤ 16 ∧ i = .int .i64 k ∧ Tab wr (w.heap.size + 1) k ∧ (∃ co, Blk wr w.heap.size 52 co ∧ co.size = 16) ∧ Below w.heap.size w wr) (fun _ _ _ i _ _ => 16 - (intOf i).toNat)
  case atStart => exact ⟨0, Nat.zero_le _, rfl, HT.out, ⟨_, HO.out, rfl⟩, HB.out⟩
  case round =>
    clear HT HO HB
    obtain ⟨k, hk, rfl, ht, ho, hb⟩ := hrel
    have HT := Lib.hid ht
    have HO := Lib.hid ho
    have HB := Lib.hid hb
    by_cases hlt : k < 16
    · obtain ⟨cs, hcs, _, _, hall⟩ := ht
      obtain ⟨u, hu⟩ := hall k hlt
      have hcell : wr.cell? ⟨w.heap.size + 1, k, none⟩ = some (.int .u32 u) := by rw [hcs.cell]; exact hu
      have hfro : wr.frozen? ⟨w.heap.size + 1, k, none⟩ = false := hcs.frozen k
      clear hcs hall hu ho hb
      have c1 : (k : Int) < 16 := by omega
      have c0 : (0 : Int) ≤ (k : Int) := by omega
      go_wp2
      obtain ⟨wo, hwo⟩ : ∃ wo : World, wo = wr := ⟨_, rfl⟩
      go_loop [3, 4, 10] (fun s _ i => ∃ j : Nat, j ≤ 4 ∧ i = .int .i64 j ∧ s = .int .u32 (wi (cbits j (UInt32.ofNat k)))) (fun _ _ i => 4 - (intOf i).toNat)
      case atStart => exact ⟨0, by omega, rfl, by show _ = Value.int .u32 (wi (UInt32.ofNat k)); rw [wi_nat k (by omega)]⟩
      case round =>
        obtain ⟨j, hj, rfl, rfl⟩ := hrel
        by_cases hlt2 : j < 4
        · have hn := Lib.hid (cbits_next j (UInt32.ofNat k))
          generalize cbits j (UInt32.ofNat k) = t at *
          have hh := wi_half t
          clear hwo
          rcases Nat.mod_two_eq_zero_or_one t.toNat with h2 | h2
          · have hlow := low_even t h2
            have hb := Lib.hid (cbit_even h2)
            clear h2
            go_wp2
            go_round
            case rel => exact ⟨j + 1, by omega, by go_num, by rw [hn.out, hb.out]⟩
            case measure => simp [intOf]; omega
          · have hlow := low_odd t h2
            have hb := Lib.hid (cbit_odd h2)
            have hp := wxor_pol (shrw t 1)
            clear h2
            go_wp2
            go_round
            case rel => exact ⟨j + 1, by omega, by go_num, by rw [hn.out, hb.out]⟩
            case measure => simp [intOf]; omega
        · obtain rfl : j = 4 := by omega
          have hs := Lib.hid (cbits4 (UInt32.ofNat k))
          generalize cbits 4 (UInt32.ofNat k) = t at *
          clear hwo
          go_wp2
          go_roundw
          case rel => exact ⟨k + 1, by omega, by go_num, HT.out.set hlt t hs.out, (by obtain ⟨co, h1, h2⟩ := HO.out; exact ⟨co, h1.far (by simp) _, h2⟩), HB.out.setCell (by simp) _⟩
          case measure => simp [intOf]; omega
    · obtain rfl : k = 16 := by omega
      have hBT := HT.out.all
      have HBT := Lib.hid hBT
      obtain ⟨co, ho1, ho2⟩ := ho
      have HO1 := Lib.hid ho1
      have HO2 := Lib.hid ho2
      clear hBT ho1 ho2 ht hb HO
      go_wp2_with (first
        | (refine wpList_load_row rfl 52 (.tmp 1) rfl (w.heap.size + 1) rfl 52 _ (0, 0) _ HBT.out Try.underlying52 rfl info52' ?_)
        | (refine wpList_store_row rfl 52 (.tmp 0) (.tmp 25) rfl w.heap.size _ rfl rfl 52 co HO1.out info52' (by rw [HO2.out, tabA_size]) tabA_one ?_))
      exact bodyPost_ret (results_cell_row rfl _ _ w.heap.size 52 _ (0, 0) _ rfl (Blk.row HO1.out _) Try.underlying52 rfl info52') rfl ⟨rfl, below_setRow HB.out (Nat.le_refl _) _⟩
end Go.Proofs.Ythopfbkkjfnhkaa
