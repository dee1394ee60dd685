/- The walk of CellTakes. -/
import Derived.Test.YtepgbpfnamaooaaCe3
namespace Go.Proofs.Ytepgbpfnamaooaa.Ce
open Go.RowKit Go.Proofs.Ytepgbpfnamaooaa.Sh

theorem first_then {w w1 : World} (h : Below w.heap.size w w1) : Calls Try.prog 8 #[] w1 (Yes w) :=
  (first_any w1).mono fun _ _ ⟨he, hb⟩ => ⟨he, h.trans (hb.mono h.size)⟩
theorem ints_at {w : World} {a : Option Addr} {len cap : Nat} {zs : List Int} (h : IsRow .i64 w a len cap zs) (k : Nat) (hk : k < len) :
    ∃ ad, a = some ad ∧ ad.block < w.heap.size ∧ w.cell? (ad.add k) = some (.int .i64 (zs.getD k 0)) ∧ -9223372036854775808 ≤ zs.getD k 0 ∧ zs.getD k 0 ≤ 9223372036854775807 := by
  rcases h with ⟨_, h, _⟩ | ⟨x, rfl, hl, hm, hz, hc, hw⟩
  · omega
  · have hkz : k < zs.length := by omega
    have e := hc k hkz
    have hlt := World.block_lt_of_cell? w _ e
    rw [block_of_add] at hlt
    refine ⟨x, rfl, hlt, e, ?_⟩
    have := hw (zs.getD k 0) (by rw [List.getD_eq_getElem?_getD, List.getElem?_eq_getElem hkz]; exact List.getElem_mem hkz)
    simpa [Lit.wf, IntKind.min, IntKind.max, IntKind.signed, IntKind.bits] using this

set_option maxRecDepth 100000 in
set_option maxHeartbeats 1600000 in
theorem takes_big (s : Int) (a : Option Addr) (len cap : Nat) (w : World) (hl : len ≤ maxLen) (hbig : s < 0 ∨ 1099511627776 < s ∨ 300 < len) :
    Calls Try.prog 7 #[.int .i64 s, .slice a len cap] w (Yes w) := by
  unfold maxLen at hl
  have hcases : s < 0 ∨ (0 ≤ s ∧ 1099511627776 < s) ∨ (0 ≤ s ∧ s ≤ 1099511627776 ∧ (300 : Int) < (len : Int)) := by omega
  rcases hcases with h1 | ⟨h1, h2⟩ | ⟨h1, h2, h3⟩
  all_goals
    clear hbig
    go_enter Try.func7, Try.ntmps7
    go_wp2_with fail
    refine (first_then (Below.refl _ _)).mono ?_
    rintro e w1 ⟨rfl, hb1⟩
    have HB1 := Lib.hid hb1
    clear hb1
    go_wp2_with fail
    refine (newc_any _).mono ?_
    rintro e w2 ⟨b, rfl, hN, hbb, hb2⟩
    have HB2 := Lib.hid (HB1.out.trans (hb2.mono HB1.out.size))
    clear hN hb2 hbb HB1
    go_wp2_with fail
    refine (first_then HB2.out).mono ?_
    rintro e w3 ⟨rfl, hb3⟩
    have HB3 := Lib.hid hb3
    clear hb3
    go_wp2_with fail
    go_ret
    exact ⟨rfl, HB3.out⟩

set_option maxRecDepth 100000 in
set_option maxHeartbeats 3200000 in
theorem takes_in (s : Int) (a : Option Addr) (len cap : Nat) (zs : List Int) (w : World) (h : IsRow .i64 w a len cap zs) (h1 : 0 ≤ s) (h2 : s ≤ 1099511627776) (h3 : len ≤ 300) :
    Calls Try.prog 7 #[.int .i64 s, .slice a len cap] w (Yes w) := by
  have hj : (len : Int) ≤ 300 := by omega
  have HI := Lib.hid h
  clear h
  go_enter Try.func7, Try.ntmps7
  go_wp2_with fail
  refine (first_then (Below.refl _ _)).mono ?_
  rintro e w1 ⟨rfl, hb1⟩
  have HB1 := Lib.hid hb1
  clear hb1
  go_wp2_with fail
  refine (newc_any _).mono ?_
  rintro e w2 ⟨b, rfl, hN, hbb, hb2⟩
  have hwb : w.heap.size ≤ b := by have := HB1.out.size; omega
  have HB2 := Lib.hid (HB1.out.trans (hb2.mono HB1.out.size))
  have HN2 := Lib.hid hN
  clear hN hb2 hbb HB1
  go_wp2_with fail
  refine (cadd_any b 0 s _ HN2.out).mono ?_
  rintro e w3 ⟨rfl, hw3⟩
  have hs : IntKind.i64.wrap (0 + s) = s := by rw [Int.zero_add]; exact IntWalk.i64_in _ (by omega)
  rw [hs] at hw3 ⊢
  have hN3 : CN w3 b s := by rw [hw3]; exact HN2.out.set (by simp [Lit.wf, IntKind.min, IntKind.max, IntKind.signed, IntKind.bits]; omega)
  have hB3 : Below w.heap.size w w3 := by rw [hw3]; exact HB2.out.setCell hwb _
  have HN3 := Lib.hid hN3
  have HB3 := Lib.hid hB3
  clear hs hw3 hN3 hB3 HN2 HB2
  go_wp2_with fail
  go_loopw [6, 7] (fun t i wr => ∃ (k : Nat) (x : Int), k ≤ len ∧ i = .int .i64 k ∧ t = .int .i64 x ∧ 0 ≤ x ∧ x ≤ s ∧ CN wr b (s - x) ∧ Below w.heap.size w wr) (fun _ i _ => len - (intOf i).toNat)
  case atStart => exact ⟨0, 0, by omega, rfl, rfl, by omega, h1, by rw [Int.sub_zero]; exact HN3.out, HB3.out⟩
  case round =>
    obtain ⟨k, x, hk, rfl, rfl, hx0, hx1, hN, hB⟩ := hrel
    have HN := Lib.hid hN
    have HB := Lib.hid hB
    clear hN hB
    by_cases hlt : k < len
    · obtain ⟨ad, rfl, had, hcell, hz1, hz2⟩ := ints_at HI.out k hlt
      have hcw : wr.cell? (ad.add k) = some (.int .i64 (zs.getD k 0)) := (HB.out.cell (p := ad.add k) (by rw [block_of_add]; exact had)).trans hcell
      generalize zs.getD k 0 = z at *
      clear hcell
      by_cases hz3 : z < 0 ∨ 1000 < z
      · have hz4 : z < 0 ∨ (0 ≤ z ∧ 1000 < z) := by omega
        clear hz3
        rcases hz4 with hz4 | ⟨hz4, hz5⟩
        all_goals
          go_wp2_with fail
          refine (first_then HB.out).mono ?_
          rintro e w4 ⟨rfl, hb4⟩
          have HB4 := Lib.hid hb4
          clear hb4
          go_wp2_with fail
          go_ret
          exact ⟨rfl, HB4.out⟩
      · have hz4 : 0 ≤ z := by omega
        have hz5 : z ≤ 1000 := by omega
        clear hz3
        go_wp2_with fail
        refine (ctake_any b (s - x) z _ HN.out).mono ?_
        rintro e w4 hpost
        rcases hpost with ⟨ht, rfl, hw4⟩ | ⟨ht, rfl, rfl⟩
        · have ht2 : z ≤ s - x := by
            unfold takes at ht
            simp at ht
            exact ht.2
          have hN4 : CN w4 b (s - (x + z)) := by
            rw [hw4, show s - (x + z) = s - x - z from by omega]
            exact HN.out.set (by simp [Lit.wf, IntKind.min, IntKind.max, IntKind.signed, IntKind.bits]; omega)
          have hB4 : Below w.heap.size w w4 := by rw [hw4]; exact HB.out.setCell hwb _
          have hcw4 : w4.cell? (ad.add k) = some (.int .i64 z) := by
            rw [hw4, World.cell?_setCell_other _ _ _ _ (by intro e; have := congrArg Addr.block e; rw [block_of_add] at this; simp at this; omega)]
            exact hcw
          have HN4 := Lib.hid hN4
          have HB4 := Lib.hid hB4
          clear hw4 hN4 hB4 ht hcw HN HB
          go_wp2
          go_roundw
          case rel => exact ⟨k + 1, x + z, by omega, by go_num, rfl, by omega, by omega, HN4.out, HB4.out⟩
          case measure => simp [intOf]; omega
        · have ht2 : s - x < z := by
            unfold takes at ht
            simp at ht
            exact ht hz4
          clear ht
          go_wp2
          go_roundw
          case rel => exact ⟨k + 1, x, by omega, by go_num, rfl, by omega, by omega, HN.out, HB.out⟩
          case measure => simp [intOf]; omega
    · obtain rfl : k = len := by omega
      go_wp2_with fail
      refine (first_any _).mono ?_
      rintro e w4 ⟨rfl, hb4⟩
      have HN4 := Lib.hid (HN.out.below hb4 HN.out.lt)
      have HB4 := Lib.hid (HB.out.trans (hb4.mono HB.out.size))
      have r1 : (0 : Int) ≤ s - x := by omega
      clear hb4 HN HB
      go_wp2_with fail
      refine (cget_any b (s - x) _ HN4.out).mono ?_
      rintro e w5 ⟨rfl, rfl⟩
      go_wp2_with fail
      go_ret
      exact ⟨rfl, HB4.out⟩

theorem cellTakes_walk (s : Int) (a : Option Addr) (len cap : Nat) (zs : List Int) (w : World) (_ : (Lit.int .i64 s).wf = true) (h : IsRow .i64 w a len cap zs) :
    Calls Try.prog 7 #[.int .i64 s, .slice a len cap] w (Yes w) := by
  by_cases hbig : s < 0 ∨ 1099511627776 < s ∨ 300 < len
  · refine takes_big s a len cap w ?_ hbig
    rcases h with ⟨_, rfl, _⟩ | ⟨x, _, h1, h2, _⟩
    · exact Nat.zero_le _
    · omega
  · exact takes_in s a len cap zs w h (by omega) (by omega) (by omega)
end Go.Proofs.Ytepgbpfnamaooaa.Ce
