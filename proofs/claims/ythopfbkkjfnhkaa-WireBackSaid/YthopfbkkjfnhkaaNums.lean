/- The walk of WireNums. -/
import Derived.Test.YthopfbkkjfnhkaaSums
namespace Go.Proofs.Ythopfbkkjfnhkaa
open Go.RowKit

def putB (n : Int) : List UInt8 := if n < 0 ∨ 72057594037927936 < n then [] else putL n.toNat
def putE (n : Int) : Int := if n < 0 ∨ 72057594037927936 < n then 1 else 0
def PutAll (w : World) (n : Int) (e : Ending) (w' : World) : Prop := ∃ v, e = .returned (.tuple #[v, .int .i64 (putE n)]) ∧ Sl w' v (putB n) ∧ Below w.heap.size w w'
theorem putB_len (n : Int) : (putB n).length ≤ 9 := by
  unfold putB
  by_cases h : n < 0 ∨ 72057594037927936 < n
  · rw [if_pos h]; simp
  · rw [if_neg h]; exact putL_len9 (by omega)
theorem put_all (n : Int) (w : World) : Calls Try.prog 13 #[.int .i64 n] w (PutAll w n) := by
  by_cases h : n < 0 ∨ 72057594037927936 < n
  · exact (put_err n w h).mono fun e w' ⟨he, hw⟩ => ⟨.slice none 0 0, by rw [he]; unfold putE; rw [if_pos h], by unfold putB; rw [if_pos h]; exact Sl.nil_ _, by subst hw; exact Below.refl _ _⟩
  · obtain ⟨m, rfl⟩ := Int.eq_ofNat_of_zero_le (show 0 ≤ n by omega)
    exact (put_any m w (by omega)).mono fun e w' ⟨v, he, ho, hb⟩ => ⟨v, by rw [he]; unfold putE; rw [if_neg h], by unfold putB; rw [if_neg h, Int.toNat_natCast]; exact ho.sl, hb⟩
theorem rput_all (n : Int) (w : World) : Calls Try.prog 14 #[.int .i64 n] w (PutAll w n) := by
  by_cases h : n < 0 ∨ 72057594037927936 < n
  · exact (rput_err n w h).mono fun e w' ⟨he, hw⟩ => ⟨.slice none 0 0, by rw [he]; unfold putE; rw [if_pos h], by unfold putB; rw [if_pos h]; exact Sl.nil_ _, by subst hw; exact Below.refl _ _⟩
  · obtain ⟨m, rfl⟩ := Int.eq_ofNat_of_zero_le (show 0 ≤ n by omega)
    exact (rput_any m w (by omega)).mono fun e w' ⟨v, he, ho, hb⟩ => ⟨v, by rw [he]; unfold putE; rw [if_neg h], by unfold putB; rw [if_neg h, Int.toNat_natCast]; exact ho.sl, hb⟩

set_option maxRecDepth 100000 in
set_option maxHeartbeats 1600000 in
theorem nums_in (n : Int) (v : Value) (bs : List UInt8) (i : Int) (w : World) (h : Sl w v bs) (h1 : bs.length ≤ 6000) :
    Calls Try.prog 3 #[.int .i64 n, v, .int .i64 i] w (Yes w) := by
  have HSL := Lib.hid h
  obtain ⟨A, c, rfl, hlc, hcm, hI⟩ := h.len
  unfold maxLen at hcm
  obtain ⟨l, hl⟩ : ∃ l, bs.length = l := ⟨_, rfl⟩
  rw [hl] at hlc h1 HSL ⊢
  have HL := Lib.hid hl
  have b1 : (l : Int) ≤ 6000 := by omega
  clear hl hI h
  go_enter Try.func3, Try.ntmps3
  go_wp2_with fail
  refine (first_then (Below.refl _ _)).mono ?_
  rintro e w1 ⟨rfl, hb1⟩
  have HB1 := Lib.hid hb1
  clear hb1
  go_wp2_with fail
  refine (copyb_any _ bs _ (HSL.out.below HB1.out) (by rw [HL.out]; omega)).mono ?_
  rintro e w2 ⟨v2, rfl, ho2, hb2⟩
  have HB2 := Lib.hid (HB1.out.trans (hb2.mono HB1.out.size))
  have HS2 := Lib.hid ho2.sl
  clear ho2 hb2
  go_wp2_with fail
  refine (put_all n _).mono ?_
  rintro e w3 ⟨v3, rfl, ho3, hb3⟩
  have HB3 := Lib.hid (HB2.out.trans (hb3.mono HB2.out.size))
  have HS3 := Lib.hid ho3
  have HI3 := Lib.hid (HS2.out.below hb3)
  clear ho3 hb3
  go_wp2_with fail
  refine (rput_all n _).mono ?_
  rintro e w4 ⟨v4, rfl, ho4, hb4⟩
  have HB4 := Lib.hid (HB3.out.trans (hb4.mono HB3.out.size))
  have HS4 := Lib.hid ho4
  have HI4 := Lib.hid (HI3.out.below hb4)
  have HX4 := Lib.hid (HS3.out.below hb4)
  clear ho4 hb4
  obtain ⟨ra, rb, rc, hres⟩ : ∃ ra rb rc, getR bs i = (ra, rb, rc) := ⟨_, _, _, rfl⟩
  have HR := Lib.hid hres
  clear hres
  go_wp2_with fail
  refine (get_any v2 bs i ra rb rc _ HI4.out HR.out).mono ?_
  rintro e w5 ⟨rfl, rfl⟩
  go_wp2_with fail
  refine (rget_any _ bs i ra rb rc _ (HSL.out.below HB4.out) HR.out).mono ?_
  rintro e w6 ⟨rfl, hb6⟩
  have HB6 := Lib.hid (HB4.out.trans (hb6.mono HB4.out.size))
  have HI6 := Lib.hid (HI4.out.below hb6)
  have HX6 := Lib.hid (HX4.out.below hb6)
  have HS6 := Lib.hid (HS4.out.below hb6)
  clear hb6
  go_wp2_with fail
  refine (first_any _).mono ?_
  rintro e w7 ⟨rfl, hb7⟩
  have HB7 := Lib.hid (HB6.out.trans (hb7.mono HB6.out.size))
  have HI7 := Lib.hid (HI6.out.below hb7)
  have HX7 := Lib.hid (HX6.out.below hb7)
  have HS7 := Lib.hid (HS6.out.below hb7)
  clear hb7
  go_wp2_with fail
  refine (bytes_any v3 v4 (putB n) (putB n) _ HX7.out HS7.out true (beq_self_eq_true _)).mono ?_
  rintro e w8 ⟨rfl, rfl⟩
  go_wp2_with fail
  refine (bytes_any v2 _ bs bs _ HI7.out (HSL.out.below HB7.out) true (beq_self_eq_true _)).mono ?_
  rintro e w9 ⟨rfl, rfl⟩
  go_wp2
  go_ret
  exact ⟨rfl, HB7.out⟩

theorem wireNums_walk (a0 : Int) (a1 : Option Addr) (len1 cap1 : Nat) (z1 : List Int) (a2 : Int) (w : World) (_ : (Lit.int .i64 a0).wf = true) (w1 : IsRow .u8 w a1 len1 cap1 z1) (_ : (Lit.int .i64 a2).wf = true) :
    Calls Try.prog 3 #[.int .i64 a0, .slice a1 len1 cap1, .int .i64 a2] w (Yes w) := by
  obtain ⟨bs, hl, hs⟩ := w1.sl
  by_cases hn : bs.length ≤ 6000
  · exact nums_in a0 _ bs a2 w hs hn
  · obtain ⟨A, c, hv, h1, h2, _⟩ := hs.len
    rw [hv]
    unfold maxLen at h2
    have b1 : (6000 : Int) < (bs.length : Int) := by omega
    generalize bs.length = l at *
    clear hs hv w1 hl hn
    go_enter Try.func3, Try.ntmps3
    go_wp2_with fail
    refine (first_then (Below.refl _ _)).mono ?_
    rintro e w1 ⟨rfl, hb1⟩
    have HB1 := Lib.hid hb1
    clear hb1
    go_wp2_with fail
    refine (first_then HB1.out).mono ?_
    rintro e w2 ⟨rfl, hb2⟩
    go_wp2_with fail
    go_ret
    exact ⟨rfl, hb2⟩
end Go.Proofs.Ythopfbkkjfnhkaa
