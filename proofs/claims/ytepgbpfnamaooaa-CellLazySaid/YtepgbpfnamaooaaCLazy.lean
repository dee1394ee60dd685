/- The walk of CellLazy. -/
import Derived.Test.YtepgbpfnamaooaaCe3
import Derived.Test.YtepgbpfnamaooaaCTakes
import Derived.Test.YtepgbpfnamaooaaShR5
namespace Go.Proofs.Ytepgbpfnamaooaa.Ce
open Go.RowKit Go.Proofs.Ytepgbpfnamaooaa.Sh

set_option maxRecDepth 100000 in
set_option maxHeartbeats 1600000 in
theorem lazy_big (v : Value) (bs : List UInt8) (n : Int) (w : World) (h : Sl w v bs) (hbig : 6000 < bs.length ∨ n < 0 ∨ 100 < n) :
    Calls Try.prog 3 #[v, .int .i64 n] w (Yes w) := by
  obtain ⟨A, c, rfl, hlc, hcm, hI, hA⟩ := h
  clear hI hA
  obtain ⟨l, hl⟩ : ∃ l, bs.length = l := ⟨_, rfl⟩
  rw [hl] at hlc hbig ⊢
  unfold maxLen at hcm
  clear hl
  have hcase : (6000 : Int) < (l : Int) ∨ ((l : Int) ≤ 6000 ∧ n < 0) ∨ ((l : Int) ≤ 6000 ∧ 0 ≤ n ∧ 100 < n) := by omega
  rcases hcase with h1 | ⟨h1, h2⟩ | ⟨h1, h2, h3⟩
  all_goals
    clear hbig
    go_enter Try.func3, Try.ntmps3
    go_wp2_with fail
    refine (first_then (Below.refl _ _)).mono ?_
    rintro e w1 ⟨rfl, hb1⟩
    have HB1 := Lib.hid hb1
    clear hb1
    go_wp2_with fail
    refine (first_then HB1.out).mono ?_
    rintro e w2 ⟨rfl, hb2⟩
    have HB2 := Lib.hid hb2
    clear hb2
    go_wp2_with fail
    go_ret
    exact ⟨rfl, HB2.out⟩

/-- A slice's bytes may be written: they lie in a block from B on, below B'. -/
def IW (w : World) (A : Option Addr) (l B B' : Nat) : Prop := 0 < l → ∃ g, A = some ⟨g, 0, none⟩ ∧ B ≤ g ∧ g < B' ∧ Wr w g l
theorem IW.of_own {w : World} {B : Nat} {bs : List UInt8} {A : Option Addr} {l c : Nat} (h : Own w B (.slice A l c) bs) (hl : bs.length = l) : IW w A l B w.heap.size := by
  intro h0
  obtain ⟨g, c', hv, _, _, h3, h4, h5⟩ := h.wr (by omega)
  injection hv with h6 h7
  exact ⟨g, h6, h3, h4, by rw [← hl]; exact h5⟩
theorem IW.below {w w' : World} {A : Option Addr} {l B B' : Nat} (h : IW w A l B B') (hb : Below w.heap.size w w') (hB : B' ≤ w.heap.size) : IW w' A l B B' := by
  intro h0
  obtain ⟨g, h1, h2, h3, h4⟩ := h h0
  exact ⟨g, h1, h2, h3, h4.below hb (by omega)⟩

set_option maxRecDepth 100000 in
set_option maxHeartbeats 6400000 in
theorem lazy_in (v : Value) (bs : List UInt8) (n : Nat) (w : World) (h : Sl w v bs) (hs : bs.length ≤ 6000) (hn : n ≤ 100) :
    Calls Try.prog 3 #[v, .int .i64 n] w (Yes w) := by
  have HSL := Lib.hid h
  obtain ⟨A, c, rfl, hlc, hcm, hI, hA⟩ := h
  clear hI hA
  obtain ⟨l, hl⟩ : ∃ l, bs.length = l := ⟨_, rfl⟩
  rw [hl] at hlc hs HSL ⊢
  unfold maxLen at hcm
  have HL := Lib.hid hl
  clear hl
  have n1 : (l : Int) ≤ 6000 := by omega
  have n2 : (0 : Int) ≤ (n : Int) := by omega
  have n3 : (n : Int) ≤ 100 := by omega
  go_enter Try.func3, Try.ntmps3
  go_wp2_with fail
  refine (first_then (Below.refl _ _)).mono ?_
  rintro e w1 ⟨rfl, hb1⟩
  have HB1 := Lib.hid hb1
  clear hb1
  go_wp2_with fail
  refine (copyb_any _ bs _ (HSL.out.below HB1.out) (by rw [HL.out]; omega)).mono ?_
  rintro e w2 ⟨v2, rfl, ho2, hb2⟩
  obtain ⟨A2, c2, rfl, hc21, hc22, _, _⟩ := ho2.in_
  rw [HL.out] at ho2 hc21 ⊢
  unfold maxLen at hc22
  have hz1 := HB1.out.size
  have hz2 := hb2.size
  have HI2 := Lib.hid (IW.of_own ho2 HL.out)
  have HO2 := Lib.hid ho2
  have HB2 := Lib.hid (HB1.out.trans (hb2.mono hz1))
  clear ho2 hb2
  go_wp2_with fail
  refine (newl_any _ bs _ HO2.out.sl (by rw [HL.out]; omega)).mono ?_
  rintro e w3 ⟨b, rfl, hL3, hb3⟩
  have hwb : w.heap.size ≤ b := by have := hL3.1; omega
  have hz3 := hb3.size
  have HI3 := Lib.hid (HI2.out.below hb3 (Nat.le_refl _))
  have HB3 := Lib.hid (HB2.out.trans (hb3.mono (by omega)))
  have HL3 := Lib.hid hL3
  obtain ⟨B, hBe⟩ : ∃ B, w2.heap.size = B := ⟨_, rfl⟩
  rw [hBe] at HL3 HI3 hz3 hz2
  clear hL3 hb3 HI2 HO2 hBe HB2
  go_wp2_with fail
  refine (ltimes_any _ b _ false _ HL3.out).mono ?_
  rintro e w3' ⟨rfl, rfl⟩
  rw [show LTimes false = 0 from rfl]
  go_wp2_with fail
  go_loopw [7] (fun i wr => ∃ k : Nat, k ≤ l ∧ i = .int .i64 k ∧ IW wr A2 l w1.heap.size B ∧ LZ wr B b bs false ∧ Below w.heap.size w wr) (fun i _ => l - (intOf i).toNat)
  case atStart => exact ⟨0, by omega, rfl, HI3.out, HL3.out, HB3.out⟩
  case round =>
    clear HI3 HL3 HB3
    obtain ⟨k, hk, rfl, hi, hlz, hb⟩ := hrel
    have HI := Lib.hid hi
    have HZ := Lib.hid hlz
    have HB := Lib.hid hb
    clear hi hlz hb
    have k0 : (0 : Int) ≤ (k : Int) := by omega
    by_cases hlt : k < l
    · have k1 : (k : Int) < (l : Int) := by omega
      obtain ⟨g, rfl, hg1, hg2, hw⟩ := HI.out (by omega)
      obtain ⟨u, x, z⟩ := hw.cell k hlt
      have HW := Lib.hid hw
      clear hw
      go_wp2
      refine ⟨⟨k + 1, by omega, by go_num, fun _ => ⟨g, rfl, hg1, hg2, HW.out.set k _⟩, HZ.out.far (by simpa using hg2) _, HB.out.setCell (by simp; omega) _⟩, ?_⟩
      simp [intOf]; omega
    · obtain rfl : k = l := by omega
      go_wp2_with fail
      refine (rid_any _ bs _ (HSL.out.below HB.out) (by rw [HL.out]; omega)).mono ?_
      rintro e w4 ⟨rfl, hb4⟩
      rw [show str (hexL (sumOf bs)) = idOf bs from rfl]
      have HZ4 := Lib.hid (HZ.out.below hb4)
      have HB4 := Lib.hid (HB.out.trans (hb4.mono HB.out.size))
      clear hb4 HZ HB HI
      have e1 := bytes_same (idOf bs)
      obtain ⟨t, ht⟩ : ∃ t, idOf bs = t := ⟨_, rfl⟩
      rw [ht] at e1 ⊢
      have HT := Lib.hid ht
      clear ht
      go_wp2_with fail
      go_loopw [9] (fun i wr => ∃ (q : Nat) (f : Bool), q ≤ n ∧ i = .int .i64 q ∧ LZ wr B b bs f ∧ Below w.heap.size w wr) (fun i _ => n - (intOf i).toNat)
      case atStart => exact ⟨0, false, by omega, rfl, HZ4.out, HB4.out⟩
      case round =>
        clear HZ4 HB4
        obtain ⟨q, f, hq, rfl, hlz, hb⟩ := hrel
        have HZ := Lib.hid hlz
        have HB := Lib.hid hb
        clear hlz hb
        have q0 : (0 : Int) ≤ (q : Int) := by omega
        by_cases hlt : q < n
        · have q1 : (q : Int) < (n : Int) := by omega
          go_wp2_with fail
          refine (lid_any B b bs f _ HZ.out (by rw [HL.out]; omega)).mono ?_
          rintro e w5 ⟨rfl, hz5, hg5⟩
          rw [HT.out]
          have HB5 := Lib.hid (below_only HB.out hg5 hwb)
          have HZ5 := Lib.hid hz5
          clear hz5 hg5 HZ HB
          go_wp2_with fail
          refine (ltimes_any B b bs true _ HZ5.out).mono ?_
          rintro e w5' ⟨rfl, rfl⟩
          rw [show LTimes true = 1 from rfl]
          go_wp2
          go_roundw
          case rel => exact ⟨q + 1, true, by omega, by go_num, HZ5.out, HB5.out⟩
          case measure => simp [intOf]; omega
        · obtain rfl : q = n := by omega
          obtain ⟨wo, hwo⟩ : ∃ wo, wo = wr := ⟨_, rfl⟩
          subst hwo
          go_wp2_with fail
          refine (lbytes_any B b bs f _ HZ.out (by rw [HL.out]; omega)).mono ?_
          rintro e w5 ⟨v5, rfl, ho5, hb5⟩
          obtain ⟨A5, c5, rfl, hc51, hc52, _, _⟩ := ho5.in_
          rw [HL.out] at ho5 hc51 ⊢
          unfold maxLen at hc52
          have hwz := HB.out.size
          have HI5 := Lib.hid (IW.of_own ho5 HL.out)
          have HO5 := Lib.hid ho5
          have HX5 := Lib.hid hb5
          have HB5 := Lib.hid (HB.out.trans (hb5.mono hwz))
          clear ho5 hb5
          go_wp2_with fail
          refine (bytes_any _ _ bs bs _ HO5.out.sl (HSL.out.below HB5.out) true (beq_self_eq_true _)).mono ?_
          rintro e w5' ⟨rfl, rfl⟩
          go_wp2_with fail
          go_loopw [11] (fun i wr => ∃ p : Nat, p ≤ k ∧ i = .int .i64 p ∧ IW wr A5 k wo.heap.size w5.heap.size ∧ Below wo.heap.size wo wr) (fun i _ => k - (intOf i).toNat)
          case atStart => exact ⟨0, by omega, rfl, HI5.out, HX5.out⟩
          case round =>
            clear HI5 HX5 HO5
            obtain ⟨p, hp, rfl, hi, hb⟩ := hrel
            have HI := Lib.hid hi
            have HX := Lib.hid hb
            clear hi hb
            have p0 : (0 : Int) ≤ (p : Int) := by omega
            by_cases hlt : p < k
            · have p1 : (p : Int) < (k : Int) := by omega
              obtain ⟨g, rfl, hg1, hg2, hw⟩ := HI.out (by omega)
              obtain ⟨u, x, z⟩ := hw.cell p hlt
              have HW := Lib.hid hw
              clear hw
              go_wp2
              refine ⟨⟨p + 1, by omega, by go_num, fun _ => ⟨g, rfl, hg1, hg2, HW.out.set p _⟩, HX.out.setCell (by simpa using hg1) _⟩, ?_⟩
              simp [intOf]; omega
            · obtain rfl : p = k := by omega
              have HZ6 := Lib.hid (HZ.out.below HX.out)
              have HB6 := Lib.hid (HB.out.trans (HX.out.mono hwz))
              clear HZ HX HB HI HB5
              go_wp2_with fail
              refine (first_any _).mono ?_
              rintro e w7 ⟨rfl, hb7⟩
              have HZ7 := Lib.hid (HZ6.out.below hb7)
              have HB7 := Lib.hid (HB6.out.trans (hb7.mono HB6.out.size))
              clear hb7 HZ6 HB6
              go_wp2_with fail
              refine (lbytes_any B b bs f _ HZ7.out (by rw [HL.out]; omega)).mono ?_
              rintro e w8 ⟨v8, rfl, ho8, hb8⟩
              have HO8 := Lib.hid ho8.sl
              have HZ8 := Lib.hid (HZ7.out.below hb8)
              have HB8 := Lib.hid (HB7.out.trans (hb8.mono HB7.out.size))
              clear ho8 hb8 HZ7 HB7
              go_wp2_with fail
              refine (bytes_any _ _ bs bs _ HO8.out (HSL.out.below HB8.out) true (beq_self_eq_true _)).mono ?_
              rintro e w8' ⟨rfl, rfl⟩
              go_wp2_with fail
              refine (lid_any B b bs f _ HZ8.out (by rw [HL.out]; omega)).mono ?_
              rintro e w9 ⟨rfl, hz9, hg9⟩
              rw [HT.out]
              have HB9 := Lib.hid (below_only HB8.out hg9 hwb)
              have HZ9 := Lib.hid hz9
              clear hz9 hg9 HZ8 HB8
              go_wp2_with fail
              refine (ltimes_any B b bs true _ HZ9.out).mono ?_
              rintro e w9' ⟨rfl, rfl⟩
              rw [show LTimes true = 1 from rfl]
              go_wp2_with fail
              go_ret
              exact ⟨rfl, HB9.out⟩

theorem cellLazy_walk (a : Option Addr) (len cap : Nat) (zs : List Int) (n : Int) (w : World) (h : IsRow .u8 w a len cap zs) (_ : (Lit.int .i64 n).wf = true) :
    Calls Try.prog 3 #[.slice a len cap, .int .i64 n] w (Yes w) := by
  obtain ⟨bs, _, hs⟩ := h.sl
  by_cases hbig : 6000 < bs.length ∨ n < 0 ∨ 100 < n
  · exact lazy_big _ bs n w hs hbig
  · obtain ⟨m, rfl⟩ : ∃ m : Nat, n = (m : Int) := ⟨n.toNat, by omega⟩
    exact lazy_in _ bs m w hs (by omega) (by omega)
end Go.Proofs.Ytepgbpfnamaooaa.Ce
