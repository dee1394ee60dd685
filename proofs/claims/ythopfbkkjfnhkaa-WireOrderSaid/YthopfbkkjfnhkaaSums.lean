/- The walk of WireSums. -/
import Derived.Test.YthopfbkkjfnhkaaW9
namespace Go.Proofs.Ythopfbkkjfnhkaa
open Go.RowKit

/-- What a law's call leaves. -/
def Yes (w : World) (e : Ending) (w' : World) : Prop := e = .returned (.bool true) ∧ Below w.heap.size w w'
theorem cmpL_small (a b : List UInt8) : -1 ≤ cmpL a b ∧ cmpL a b ≤ 1 := by
  rcases cmpL_cases a b with ⟨_, h⟩ | ⟨_, _, h⟩ | ⟨_, _, h⟩ <;> rw [h] <;> decide
theorem first_then {w w1 : World} (h : Below w.heap.size w w1) : Calls Try.prog 11 #[] w1 (Yes w) :=
  (first_any w1).mono fun _ _ ⟨he, hb⟩ => ⟨he, h.trans (hb.mono h.size)⟩

set_option maxRecDepth 100000 in
set_option maxHeartbeats 800000 in
theorem sums_in (v : Value) (bs : List UInt8) (s t : ByteArray) (w : World) (h : Sl w v bs) (h1 : bs.length ≤ 6000) (h2 : s.size ≤ 6000) (h3 : t.size ≤ 6000) :
    Calls Try.prog 4 #[v, .string s, .string t] w (Yes w) := by
  have HSL := Lib.hid h
  obtain ⟨A, c, rfl, hlc, hcm, hI⟩ := h.len
  unfold maxLen at hcm
  obtain ⟨l, hl⟩ : ∃ l, bs.length = l := ⟨_, rfl⟩
  rw [hl] at hlc h1 HSL ⊢
  have b1 : (l : Int) ≤ 6000 := by omega
  have b2 : (s.size : Int) ≤ 6000 := by omega
  have b3 : (t.size : Int) ≤ 6000 := by omega
  clear hl hI h h1 h2 h3
  go_enter Try.func4, Try.ntmps4
  go_wp2_with fail
  refine (first_then (Below.refl _ _)).mono ?_
  rintro e w1 ⟨rfl, hb1⟩
  have HB1 := Lib.hid hb1
  clear hb1
  go_wp2_with fail
  refine (first_then HB1.out).mono ?_
  rintro e w2 ⟨rfl, hb2⟩
  have HB2 := Lib.hid hb2
  clear hb2
  go_wp2_with fail
  refine (crc_any _ bs _ (HSL.out.below HB2.out)).mono ?_
  rintro e w3 ⟨rfl, hb3⟩
  have HB3 := Lib.hid (HB2.out.trans (hb3.mono HB2.out.size))
  clear hb3
  go_wp2_with fail
  refine (rcrc_any _ bs _ (HSL.out.below HB3.out)).mono ?_
  rintro e w4 ⟨rfl, rfl⟩
  go_wp2_with fail
  refine (cmp_any s t _).mono ?_
  rintro e w5 ⟨rfl, rfl⟩
  go_wp2_with fail
  refine (rcmp_any s t _).mono ?_
  rintro e w6 ⟨rfl, rfl⟩
  go_wp2_with fail
  refine (cmp_any t s _).mono ?_
  rintro e w7 ⟨rfl, rfl⟩
  go_wp2_with fail
  refine (cmp_any s t _).mono ?_
  rintro e w8 ⟨rfl, rfl⟩
  have hx := cmpL_small s.toList t.toList
  rw [cmpL_neg s.toList t.toList]
  generalize cmpL s.toList t.toList = x at *
  have x1 := hx.1
  have x2 := hx.2
  clear hx
  go_wp2
  go_ret
  exact ⟨rfl, HB3.out⟩

set_option maxRecDepth 100000 in
set_option maxHeartbeats 800000 in
theorem sums_out (A : Option Addr) (l c : Nat) (s t : ByteArray) (w : World) (hlc : l ≤ c) (hcm : c ≤ maxLen) (k1 : s.size ≤ maxLen) (k2 : t.size ≤ maxLen) (h : 6000 < l ∨ 6000 < s.size ∨ 6000 < t.size) :
    Calls Try.prog 4 #[.slice A l c, .string s, .string t] w (Yes w) := by
  unfold maxLen at hcm k1 k2
  have hcase : (6000 < (l : Int)) ∨ ((l : Int) ≤ 6000 ∧ 6000 < (s.size : Int)) ∨ ((l : Int) ≤ 6000 ∧ (s.size : Int) ≤ 6000 ∧ 6000 < (t.size : Int)) := by omega
  clear h
  have c1 : (l : Int) ≤ (c : Int) := by omega
  have c2 : (c : Int) ≤ 9223372036854775807 := by omega
  clear hcm
  rcases hcase with b1 | ⟨b1, b2⟩ | ⟨b1, b2, b3⟩
  all_goals
    go_enter Try.func4, Try.ntmps4
    go_wp2_with fail
    refine (first_then (Below.refl _ _)).mono ?_
    rintro e w1 ⟨rfl, hb1⟩
    have HB1 := Lib.hid hb1
    clear hb1
    go_wp2_with fail
    refine (first_then HB1.out).mono ?_
    rintro e w2 ⟨rfl, hb2⟩
    go_wp2_with fail
    go_ret
    exact ⟨rfl, hb2⟩

theorem wireSums_walk (a0 : Option Addr) (len0 cap0 : Nat) (z0 : List Int) (a1 a2 : ByteArray) (w : World) (w0 : IsRow .u8 w a0 len0 cap0 z0) (w1 : a1.size ≤ maxLen) (w2 : a2.size ≤ maxLen) :
    Calls Try.prog 4 #[.slice a0 len0 cap0, .string a1, .string a2] w (Yes w) := by
  obtain ⟨bs, hl, hs⟩ := w0.sl
  obtain ⟨A, c, hv, h1, h2, _⟩ := hs.len
  by_cases hn : bs.length ≤ 6000 ∧ a1.size ≤ 6000 ∧ a2.size ≤ 6000
  · exact sums_in _ bs a1 a2 w hs hn.1 hn.2.1 hn.2.2
  · rw [hv]
    exact sums_out A bs.length c a1 a2 w h1 h2 w1 w2 (by omega)
end Go.Proofs.Ythopfbkkjfnhkaa
