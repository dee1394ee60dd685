/- wire's Get. -/
import Derived.Test.YthphplmcojdpeaaW0
namespace Go.Proofs.Ythphplmcojdpeaa
open Go.RowKit

theorem Sl.len {w : World} {v : Value} {bs : List UInt8} (h : Sl w v bs) : ∃ A c, v = .slice A bs.length c ∧ bs.length ≤ c ∧ c ≤ maxLen ∧ In w A bs := by
  obtain ⟨A, c, hv, h1, h2, h3, _⟩ := h
  exact ⟨A, c, hv, h1, h2, h3⟩
theorem In.at_ {w : World} {A : Option Addr} {bs : List UInt8} (h : In w A bs) (k : Nat) (hk : k < bs.length) : ∃ ad, A = some ad ∧ w.cell? (ad.add k) = some (.int .u8 (bi (bs.getD k 0))) := by
  obtain ⟨ad, e, _, hc⟩ := h (by omega)
  exact ⟨ad, e, hc k hk⟩
theorem In.cut {w : World} {A : Option Addr} {bs : List UInt8} (h : In w A bs) (k : Nat) (A' : Option Addr) (hA : k < bs.length → ∀ ad, A = some ad → A' = some (ad.add k)) : In w A' (bs.drop k) := by
  intro h0
  rw [List.length_drop] at h0
  obtain ⟨ad, e, hlt, hc⟩ := h (by omega)
  refine ⟨ad.add k, hA (by omega) ad e, by rw [block_of_add]; exact hlt, fun j hj => ?_⟩
  rw [List.length_drop] at hj
  rw [add_of_add, hc (k + j) (by omega)]
  simp only [List.getD_eq_getElem?_getD, List.getElem?_drop]
theorem In.take {w : World} {A : Option Addr} {bs : List UInt8} (h : In w A bs) (m : Nat) : In w A (bs.take m) := by
  intro h0
  rw [List.length_take] at h0
  obtain ⟨ad, e, hlt, hc⟩ := h (by omega)
  refine ⟨ad, e, hlt, fun j hj => ?_⟩
  rw [List.length_take] at hj
  rw [hc j (by omega)]
  simp only [List.getD_eq_getElem?_getD, List.getElem?_take, if_pos (show j < m from by omega)]

set_option maxRecDepth 100000 in
set_option maxHeartbeats 400000 in
theorem size_no (A : Option Addr) (c : Nat) (t : List UInt8) (w : World) (h : In w A t) (hl : t.length ≤ c) (hc : c ≤ maxLen) (hn : cont t = t.length) :
    Calls Try.prog 38 #[.slice A t.length c] w fun e w' => e = .returned (.tuple #[.int .i64 0, .bool false]) ∧ w = w' := by
  unfold maxLen at hc
  have HI := Lib.hid h
  have HC := Lib.hid (cont_at t)
  obtain ⟨l, hL⟩ : ∃ l, t.length = l := ⟨_, rfl⟩
  rw [hn, hL] at HC
  rw [hL] at hl ⊢
  have HL := Lib.hid hL
  clear hL h hn
  go_enter Try.func38, Try.ntmps38
  go_wp2
  go_loop [4, 5, 8] (fun _ _ i => ∃ k : Nat, k ≤ l ∧ i = .int .i64 k) (fun _ _ i => l - (intOf i).toNat)
  case atStart => exact ⟨0, Nat.zero_le _, rfl⟩
  case round =>
    obtain ⟨k, hk, rfl⟩ := hrel
    by_cases hlt : k < l
    · obtain ⟨ad, rfl, hcell⟩ := HI.out.at_ k (by rw [HL.out]; exact hlt)
      have hb := HC.out k hlt
      have hb2 : (128 : Int) ≤ bi (t.getD k 0) := by unfold bi; omega
      have hb3 := bi_lt (t.getD k 0)
      generalize bi (t.getD k 0) = x at *
      have hx := hb3.2
      clear hb hb3
      go_wp2
      go_round
      case rel => exact ⟨k + 1, by omega, by go_num⟩
      case measure => simp [intOf]; omega
    · go_wp2
      go_ret2
      exact ⟨rfl, rfl⟩

set_option maxRecDepth 100000 in
set_option maxHeartbeats 400000 in
theorem size_yes (A : Option Addr) (c : Nat) (t : List UInt8) (w : World) (h : In w A t) (hl : t.length ≤ c) (hc : c ≤ maxLen) (hn : cont t < t.length) :
    Calls Try.prog 38 #[.slice A t.length c] w fun e w' => e = .returned (.tuple #[.int .i64 ((cont t : Int) + 1), .bool true]) ∧ w = w' := by
  unfold maxLen at hc
  have HI := Lib.hid h
  have HC := Lib.hid (cont_at t)
  have HE := Lib.hid (cont_end t hn)
  obtain ⟨l, hL⟩ : ∃ l, t.length = l := ⟨_, rfl⟩
  obtain ⟨m, hM⟩ : ∃ m, cont t = m := ⟨_, rfl⟩
  rw [hM] at HC HE hn ⊢
  rw [hL] at hl hn ⊢
  have HL := Lib.hid hL
  clear hL h hM
  go_enter Try.func38, Try.ntmps38
  go_wp2
  go_loop [4, 5, 8] (fun _ _ i => ∃ k : Nat, k ≤ m ∧ i = .int .i64 k) (fun _ _ i => l - (intOf i).toNat)
  case atStart => exact ⟨0, Nat.zero_le _, rfl⟩
  case round =>
    obtain ⟨k, hk, rfl⟩ := hrel
    obtain ⟨ad, rfl, hcell⟩ := HI.out.at_ k (by rw [HL.out]; omega)
    have hb3 := bi_lt (t.getD k 0)
    have hkl : k < l := by omega
    by_cases hlt : k < m
    · have hb := HC.out k hlt
      have hb2 : (128 : Int) ≤ bi (t.getD k 0) := by unfold bi; omega
      generalize bi (t.getD k 0) = x at *
      have hx := hb3.2
      clear hb hb3
      go_wp2
      go_round
      case rel => exact ⟨k + 1, by omega, by go_num⟩
      case measure => simp [intOf]; omega
    · obtain rfl : k = m := by omega
      have hb := HE.out
      have hb2 : bi (t.getD k 0) < (128 : Int) := by unfold bi; omega
      generalize bi (t.getD k 0) = x at *
      have hx := hb3.1
      clear hb hb3
      go_wp2
      go_ret2
      exact ⟨rfl, rfl⟩
end Go.Proofs.Ythphplmcojdpeaa
