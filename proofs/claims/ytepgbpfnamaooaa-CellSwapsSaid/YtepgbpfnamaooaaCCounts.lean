/- The walk of CellCounts. -/
import Derived.Test.YtepgbpfnamaooaaCTakes
import Derived.Test.YtepgbpfnamaooaaSt0
namespace Go.Proofs.Ytepgbpfnamaooaa.Ce
open Go.RowKit Go.Proofs.Ytepgbpfnamaooaa.Sh Go.ChangeShapes Go.WideShapes

/-- A slice of Ops that came in. -/
def IsOps (w : World) (a : Option Addr) (len cap : Nat) : Prop :=
  (a = none ∧ len = 0 ∧ cap = 0) ∨
  ∃ x, a = some x ∧ len ≤ cap ∧ cap ≤ maxLen ∧ ∀ i, i < len → ∃ k n : Int, w.cell? (x.add (i * 2)) = some (.int .i64 k) ∧ w.cell? (x.add (i * 2 + 1)) = some (.int .i64 n) ∧ (Lit.int .i64 n).wf = true
theorem isOps_of {H : Type} {enc : TypeId × Value → H} {w : World} {base : Nat} {spare : Nat → Bool} {held : Bool} {fuel : Nat} {a : Option Addr} {len cap : Nat} {x : Go.DataW H × List MemPlace}
    (h : DataW.trod enc Try.prog w base spare held fuel 33 [.slice a len cap] = some x) : IsOps w a len cap := by
  rcases structs_in Try.underlying33 Try.underlying37 (by kernel_rfl) (by kernel_rfl) h with h0 | ⟨ad, rfl, hl, hm, hi⟩
  · exact .inl h0
  · refine .inr ⟨ad, rfl, hl, hm, fun i hil => ?_⟩
    obtain ⟨v0, n0, y0, c0, t0⟩ := hi i hil 0 _ rfl
    obtain ⟨v1, n1, y1, c1, t1⟩ := hi i hil 1 _ rfl
    obtain ⟨k, e0, _⟩ := DataW.trod_int Try.underlying3 t0
    obtain ⟨n, e1, _, hw⟩ := DataW.trod_int Try.underlying3 t1
    simp at e0 e1
    subst e0
    subst e1
    exact ⟨k, n, c0, c1, hw⟩
theorem add_field (x : Addr) (m j : Nat) (hj : 0 < j) : x.add (m + j) = ⟨(x.add m).block, (x.add m).off + j, none⟩ := by
  unfold Addr.add
  by_cases hm : m = 0
  · subst hm
    rw [if_neg (by omega)]
    simp
  · rw [if_neg (by omega), if_neg hm]
    simp [Nat.add_assoc]
theorem IsOps.small {w : World} {a : Option Addr} {len cap : Nat} (h : IsOps w a len cap) : len ≤ maxLen := by
  rcases h with ⟨_, rfl, _⟩ | ⟨x, _, h1, h2, _⟩
  · exact Nat.zero_le _
  · omega

set_option maxRecDepth 100000 in
set_option maxHeartbeats 1600000 in
theorem counts_big (a : Option Addr) (len cap : Nat) (w : World) (hl : len ≤ maxLen) (hbig : 300 < len) :
    Calls Try.prog 4 #[.slice a len cap] w (Yes w) := by
  unfold maxLen at hl
  have h1 : (300 : Int) < (len : Int) := by omega
  go_enter Try.func4, Try.ntmps4
  go_wp2_with fail
  refine (first_then (Below.refl _ _)).mono ?_
  rintro e w1 ⟨rfl, hb1⟩
  have HB1 := Lib.hid hb1
  clear hb1
  go_wp2_with fail
  refine (newc_any _).mono ?_
  rintro e w2 ⟨b, rfl, hN, hbb, hb2⟩
  have HB2 := Lib.hid (HB1.out.trans (hb2.mono HB1.out.size))
  clear hN hb2 hbb HB1
  go_wp2_with fail
  refine (first_then HB2.out).mono ?_
  rintro e w3 ⟨rfl, hb3⟩
  have HB3 := Lib.hid hb3
  clear hb3
  go_wp2_with fail
  go_ret
  exact ⟨rfl, HB3.out⟩

set_option maxRecDepth 100000 in
set_option maxHeartbeats 3200000 in
theorem counts_in (a : Option Addr) (len cap : Nat) (w : World) (h : IsOps w a len cap) (h3 : len ≤ 300) :
    Calls Try.prog 4 #[.slice a len cap] w (Yes w) := by
  have hj : (len : Int) ≤ 300 := by omega
  have HI := Lib.hid h
  clear h
  go_enter Try.func4, Try.ntmps4
  go_wp2_with fail
  refine (first_then (Below.refl _ _)).mono ?_
  rintro e w1 ⟨rfl, hb1⟩
  have HB1 := Lib.hid hb1
  clear hb1
  go_wp2_with fail
  refine (newc_any _).mono ?_
  rintro e w2 ⟨b, rfl, hN, hbb, hb2⟩
  have hwb : w.heap.size ≤ b := by have := HB1.out.size; omega
  have HB2 := Lib.hid (HB1.out.trans (hb2.mono HB1.out.size))
  have HN2 := Lib.hid hN
  clear hN hb2 hbb HB1
  go_wp2_with fail
  go_loopw [4, 5] (fun n i wr => ∃ (k : Nat) (x : Int), k ≤ len ∧ i = .int .i64 k ∧ n = .int .i64 x ∧ CN wr b x ∧ Below w.heap.size w wr) (fun _ i _ => len - (intOf i).toNat)
  case atStart => exact ⟨0, 0, by omega, rfl, rfl, HN2.out, HB2.out⟩
  case round =>
    obtain ⟨k, x, hk, rfl, rfl, hN, hB⟩ := hrel
    obtain ⟨x1, x2⟩ := hN.range
    have HN := Lib.hid hN
    have HB := Lib.hid hB
    clear hN hB
    by_cases hlt : k < len
    · rcases HI.out with ⟨_, h0, _⟩ | ⟨ad, rfl, _, _, hall⟩
      · omega
      obtain ⟨kd, z, hc0, hc1, hz⟩ := hall k hlt
      have hl0 := World.block_lt_of_cell? w _ hc0
      have hl1 := World.block_lt_of_cell? w _ hc1
      have hcw0 : wr.cell? (ad.add (k * 2)) = some (.int .i64 kd) := (HB.out.cell hl0).trans hc0
      have hcw1 : wr.cell? (ad.add (k * 2 + 1)) = some (.int .i64 z) := (HB.out.cell hl1).trans hc1
      have hz' : -9223372036854775808 ≤ z ∧ z ≤ 9223372036854775807 := by simpa [Lit.wf, IntKind.min, IntKind.max, IntKind.signed, IntKind.bits] using hz
      obtain ⟨z1, z2⟩ := hz'
      rw [add_field _ _ 1 (by omega)] at hcw1
      clear hc0 hc1 hall hz
      by_cases hk0 : kd = 0
      · subst hk0
        go_wp2_with fail
        refine (cadd_any b x z _ HN.out).mono ?_
        rintro e w4 ⟨rfl, hw4⟩
        have hN4 : CN w4 b (IntKind.i64.wrap (x + z)) := by rw [hw4]; exact HN.out.set (wf_wrap _ _)
        have hB4 : Below w.heap.size w w4 := by rw [hw4]; exact HB.out.setCell hwb _
        have HN4 := Lib.hid hN4
        have HB4 := Lib.hid hB4
        clear hN4 hB4 hw4 HN HB
        rw [show wrap64 (x + z) = IntKind.i64.wrap (x + z) by unfold wrap64; rw [IntKind.wrap_i64]]
        generalize IntKind.i64.wrap (x + z) = y at *
        go_wp2_with fail
        refine (cget_any b y _ HN4.out).mono ?_
        rintro e w5 ⟨rfl, rfl⟩
        go_wp2
        go_roundw
        case rel => exact ⟨k + 1, y, by omega, by go_num, rfl, HN4.out, HB4.out⟩
        case measure => simp [intOf]; omega
      · have hkd : ((kd : Int) == 0) = false := by simpa using hk0
        have hcase : z < 0 ∨ (0 ≤ z ∧ x < z) ∨ (0 ≤ z ∧ z ≤ x) := by omega
        rcases hcase with h1 | ⟨h1, h2⟩ | ⟨h1, h2⟩
        · have ht : takes x z = false := by unfold takes; simp; omega
          have HT := Lib.hid ht
          clear ht
          go_wp2_with fail
          refine (ctake_any b x z _ HN.out).mono ?_
          rintro e w4 (⟨ht, rfl, hw4⟩ | ⟨ht, rfl, rfl⟩)
          · rw [HT.out] at ht; cases ht
          clear ht
          go_wp2_with fail
          refine (cget_any b x _ HN.out).mono ?_
          rintro e w5 ⟨rfl, rfl⟩
          go_wp2
          go_roundw
          case rel => exact ⟨k + 1, x, by omega, by go_num, rfl, HN.out, HB.out⟩
          case measure => simp [intOf]; omega
        · have ht : takes x z = false := by unfold takes; simp; omega
          have HT := Lib.hid ht
          clear ht
          go_wp2_with fail
          refine (ctake_any b x z _ HN.out).mono ?_
          rintro e w4 (⟨ht, rfl, hw4⟩ | ⟨ht, rfl, rfl⟩)
          · rw [HT.out] at ht; cases ht
          clear ht
          go_wp2_with fail
          refine (cget_any b x _ HN.out).mono ?_
          rintro e w5 ⟨rfl, rfl⟩
          go_wp2
          go_roundw
          case rel => exact ⟨k + 1, x, by omega, by go_num, rfl, HN.out, HB.out⟩
          case measure => simp [intOf]; omega
        · have ht : takes x z = true := by unfold takes; simp; omega
          have HT := Lib.hid ht
          clear ht
          go_wp2_with fail
          refine (ctake_any b x z _ HN.out).mono ?_
          rintro e w4 (⟨ht, rfl, hw4⟩ | ⟨ht, rfl, rfl⟩)
          · have hN4 : CN w4 b (x - z) := by rw [hw4]; exact HN.out.set (by simp [Lit.wf, IntKind.min, IntKind.max, IntKind.signed, IntKind.bits]; omega)
            have hB4 : Below w.heap.size w w4 := by rw [hw4]; exact HB.out.setCell hwb _
            have HN4 := Lib.hid hN4
            have HB4 := Lib.hid hB4
            clear hN4 hB4 hw4 HN HB ht
            go_wp2_with fail
            refine (cget_any b (x - z) _ HN4.out).mono ?_
            rintro e w5 ⟨rfl, rfl⟩
            go_wp2
            go_roundw
            case rel => exact ⟨k + 1, x - z, by omega, by go_num, rfl, HN4.out, HB4.out⟩
            case measure => simp [intOf]; omega
          · rw [HT.out] at ht; cases ht
    · obtain rfl : k = len := by omega
      go_wp2_with fail
      refine (first_then HB.out).mono ?_
      rintro e w4 ⟨rfl, hb4⟩
      have HB4 := Lib.hid hb4
      clear hb4
      go_wp2_with fail
      go_ret
      exact ⟨rfl, HB4.out⟩

theorem cellCounts_walk (a : Option Addr) (len cap : Nat) (w : World) (h : IsOps w a len cap) : Calls Try.prog 4 #[.slice a len cap] w (Yes w) := by
  by_cases hbig : 300 < len
  · exact counts_big a len cap w h.small hbig
  · exact counts_in a len cap w h (by omega)
end Go.Proofs.Ytepgbpfnamaooaa.Ce
