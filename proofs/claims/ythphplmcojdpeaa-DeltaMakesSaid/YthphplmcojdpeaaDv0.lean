/- What the laws of deltas share: first, Few. -/
import Derived.Test.YthphplmcojdpeaaDm8
set_option linter.unusedVariables false
set_option linter.unusedSimpArgs false
namespace Go.Proofs.Ythphplmcojdpeaa
open Go.RowKit

def Yes (w : World) (e : Ending) (w' : World) : Prop := e = .returned (.bool true) ∧ Below w.heap.size w w'

theorem steps_first : stepsD (m8 [97, 98, 99, 100, 101, 102, 103, 104, 105, 106]) 11 [88, 97, 98, 99, 100, 101, 102, 103, 104, 105, 106] [] = [.ins [88], .cop 0 10] := by kernel_rfl
theorem make_first : makeD [97, 98, 99, 100, 101, 102, 103, 104, 105, 106] [88, 97, 98, 99, 100, 101, 102, 103, 104, 105, 106] = [10, 11, 2, 1, 88, 1, 0, 10] := by
  unfold makeD headD
  show putL 10 ++ putL 11 ++ encs (stepsD _ 11 _ []) = _
  rw [steps_first, putL_lt (by omega), putL_lt (by omega)]
  show _ ++ _ ++ encs [.ins [88], .cop 0 10] = _
  unfold encs encS
  simp only [List.map_cons, List.map_nil, List.flatten_cons, List.flatten_nil, List.length_cons, List.length_nil]
  rw [putL_lt (by omega), putL_lt (by omega), putL_lt (by omega)]
  rfl
theorem sl_new_ (w : World) (bs : List UInt8) (cs : Array Value) (fr : Nat × Nat) (hcs : cs.toList = bs.map bv) (n : Nat) (hn : bs.length = n) (h1 : n ≤ 1000) : Sl (w.alloc (.cells cs 5 fr)) (.slice (some ⟨w.heap.size, 0, none⟩) n n) bs := by
  subst hn
  refine ⟨_, _, rfl, Nat.le_refl _, by unfold maxLen; omega, fun h0 => ⟨_, rfl, by simp, fun j hj => ?_⟩, fun e => by cases e⟩
  rw [Addr.add_mid, cell_of_row _ _ _ cs 5 fr (heap_alloc_new w _), Nat.zero_add, ← Array.getElem?_toList, hcs, List.getElem?_map, List.getElem?_eq_getElem hj, List.getD_eq_getElem?_getD, List.getElem?_eq_getElem hj]
  rfl

set_option maxRecDepth 100000 in
set_option maxHeartbeats 1600000 in
theorem first_any (w : World) : Calls Try.prog 9 #[] w (Yes w) := by
  have HMK := Lib.hid (fun (W : World) (v1 v2 : Value) (h1 : Sl W v1 [97, 98, 99, 100, 101, 102, 103, 104, 105, 106]) (h2 : Sl W v2 [88, 97, 98, 99, 100, 101, 102, 103, 104, 105, 106]) => make_any v1 v2 _ _ W h1 h2 (by simp) (by simp))
  rw [make_first] at HMK
  have kb := fun (w : World) (C : Array Value) (n c : Nat) => Lib.run_convert_bytes_const (P := Try.prog) w 22 5 C n c Try.underlying22 Try.underlying5
  have kb2 : ∀ (w : World) (C' C : Array Value) (fr : Nat × Nat) (n c : Nat), (convert 22 22 (.slice (some ⟨w.heap.size + 1, 0, none⟩) n c)).run Try.prog ((w.alloc (.cells C' 5 fr)).alloc (.cells C 5)) = .ok (.slice (some ⟨w.heap.size + 1, 0, none⟩) n c) ((w.alloc (.cells C' 5 fr)).alloc (.cells C 5 (C.size, C.size + 1))) := fun w C' C fr n c => by
    have h := kb (w.alloc (.cells C' 5 fr)) C n c
    have e : (w.alloc (.cells C' 5 fr)).heap.size = w.heap.size + 1 := by simp
    rw [e] at h
    exact h
  have hA : Sl (w.alloc (.cells #[.int .u8 97, .int .u8 98, .int .u8 99, .int .u8 100, .int .u8 101, .int .u8 102, .int .u8 103, .int .u8 104, .int .u8 105, .int .u8 106] 5 (10, 11))) (.slice (some ⟨w.heap.size, 0, none⟩) 10 10) [97, 98, 99, 100, 101, 102, 103, 104, 105, 106] := sl_new_ w _ _ (10, 11) (by unfold bv bi; rfl) 10 rfl (by omega)
  have hB : Sl ((w.alloc (.cells #[.int .u8 97, .int .u8 98, .int .u8 99, .int .u8 100, .int .u8 101, .int .u8 102, .int .u8 103, .int .u8 104, .int .u8 105, .int .u8 106] 5 (10, 11))).alloc (.cells #[.int .u8 88, .int .u8 97, .int .u8 98, .int .u8 99, .int .u8 100, .int .u8 101, .int .u8 102, .int .u8 103, .int .u8 104, .int .u8 105, .int .u8 106] 5 (11, 12))) (.slice (some ⟨w.heap.size + 1, 0, none⟩) 11 11) [88, 97, 98, 99, 100, 101, 102, 103, 104, 105, 106] := by
    have h := sl_new_ (w.alloc (.cells #[.int .u8 97, .int .u8 98, .int .u8 99, .int .u8 100, .int .u8 101, .int .u8 102, .int .u8 103, .int .u8 104, .int .u8 105, .int .u8 106] 5 (10, 11))) [88, 97, 98, 99, 100, 101, 102, 103, 104, 105, 106] #[.int .u8 88, .int .u8 97, .int .u8 98, .int .u8 99, .int .u8 100, .int .u8 101, .int .u8 102, .int .u8 103, .int .u8 104, .int .u8 105, .int .u8 106] (11, 12) (by unfold bv bi; rfl) 11 rfl (by omega)
    have e : (w.alloc (.cells #[.int .u8 97, .int .u8 98, .int .u8 99, .int .u8 100, .int .u8 101, .int .u8 102, .int .u8 103, .int .u8 104, .int .u8 105, .int .u8 106] 5 (10, 11))).heap.size = w.heap.size + 1 := by simp
    rw [e] at h
    exact h
  have hA2 := hA.below ((Below.refl _ _).alloc (Nat.le_refl _) (.cells #[.int .u8 88, .int .u8 97, .int .u8 98, .int .u8 99, .int .u8 100, .int .u8 101, .int .u8 102, .int .u8 103, .int .u8 104, .int .u8 105, .int .u8 106] 5 (11, 12)))
  have HA := Lib.hid hA2
  have HB := Lib.hid hB
  have HBW := Lib.hid (((Below.refl w.heap.size w).alloc (Nat.le_refl _) (.cells #[.int .u8 97, .int .u8 98, .int .u8 99, .int .u8 100, .int .u8 101, .int .u8 102, .int .u8 103, .int .u8 104, .int .u8 105, .int .u8 106] 5 (10, 11))).alloc (by simp) (.cells #[.int .u8 88, .int .u8 97, .int .u8 98, .int .u8 99, .int .u8 100, .int .u8 101, .int .u8 102, .int .u8 103, .int .u8 104, .int .u8 105, .int .u8 106] 5 (11, 12)))
  clear hA hA2 hB
  go_enter Try.func9, Try.ntmps9
  go_wp2_with fail
  generalize (w.alloc (.cells #[.int .u8 97, .int .u8 98, .int .u8 99, .int .u8 100, .int .u8 101, .int .u8 102, .int .u8 103, .int .u8 104, .int .u8 105, .int .u8 106] 5 (10, 11))).alloc (.cells #[.int .u8 88, .int .u8 97, .int .u8 98, .int .u8 99, .int .u8 100, .int .u8 101, .int .u8 102, .int .u8 103, .int .u8 104, .int .u8 105, .int .u8 106] 5 (11, 12)) = w1 at *
  refine (HMK.out w1 _ _ HA.out HB.out).mono ?_
  rintro e w2 ⟨v, rfl, ho, hb⟩
  have HB2 := Lib.hid (HBW.out.trans (hb.mono HBW.out.size))
  obtain ⟨A, c, hv, h1, h2, h3, h4⟩ := ho.sl
  have kc : (convert 22 9 (.slice A 8 c)).run Try.prog w2 = .ok (.string (str [10, 11, 2, 1, 88, 1, 0, 10])) w2 := conv_str w2 A [10, 11, 2, 1, 88, 1, 0, 10] c h3 h4
  subst hv
  clear h1 h2 h3 h4 hb ho kb kb2
  have hs : ((str [10, 11, 2, 1, 88, 1, 0, 10]).toList == [10, 11, 2, 1, 88, 1, 0, 10]) = true := by rw [str_toList]; decide
  go_wp2
  go_ret
  exact ⟨rfl, HB2.out⟩
theorem first_then {w : World} {B : Nat} {w1 : World} (h : Below B w w1) (hB : B ≤ w1.heap.size) : Calls Try.prog 9 #[] w1 fun e w' => e = .returned (.bool true) ∧ Below B w w' ∧ Below w1.heap.size w1 w' :=
  (first_any w1).mono fun _ _ ⟨he, hb⟩ => ⟨he, h.trans (hb.mono hB), hb⟩

set_option maxRecDepth 100000 in
set_option maxHeartbeats 400000 in
theorem few_any (A A' : Option Addr) (l l' c c' : Nat) (q : Bool) (hq : (decide (l ≤ 2000) && decide (l' ≤ 2000)) = q) (w : World) : Calls Try.prog 10 #[.slice A l c, .slice A' l' c'] w fun e w' => e = .returned (.bool q) ∧ w = w' := by
  by_cases h : l ≤ 2000
  · have h1 : (l : Int) ≤ 2000 := by omega
    by_cases h' : l' ≤ 2000
    · have h2 : (l' : Int) ≤ 2000 := by omega
      have HD : Hid (q = true) := by unfold Hid; rw [← hq, decide_eq_true h, decide_eq_true h']; rfl
      clear h h' hq
      go_enter Try.func10, Try.ntmps10
      go_wp2
      go_ret
      exact ⟨by rw [HD.out]; rfl, rfl⟩
    · have h2 : (2000 : Int) < (l' : Int) := by omega
      have HD : Hid (q = false) := by unfold Hid; rw [← hq, decide_eq_false h', Bool.and_false]
      clear h h' hq
      go_enter Try.func10, Try.ntmps10
      go_wp2
      go_ret
      refine ⟨?_, rfl⟩
      show Ending.returned (.bool (decide ((l' : Int) ≤ 2000))) = _
      rw [HD.out, decide_eq_false (by omega)]
  · have h1 : (2000 : Int) < (l : Int) := by omega
    have HD : Hid (q = false) := by unfold Hid; rw [← hq, decide_eq_false h, Bool.false_and]
    clear h hq
    go_enter Try.func10, Try.ntmps10
    go_wp2
    go_ret
    exact ⟨by rw [HD.out]; rfl, rfl⟩
end Go.Proofs.Ythphplmcojdpeaa
