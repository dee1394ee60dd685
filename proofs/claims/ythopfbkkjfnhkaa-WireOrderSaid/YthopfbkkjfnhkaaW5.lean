/- The CRCs. -/
import Derived.Test.YthopfbkkjfnhkaaQ1
import Derived.Test.YthopfbkkjfnhkaaW1
namespace Go.Proofs.Ythopfbkkjfnhkaa
open Go.RowKit

/-- k bits. -/
def cbits (k : Nat) (s : UInt32) : UInt32 := Nat.repeat cbit k s
theorem cbits_next (k : Nat) (s : UInt32) : cbits (k + 1) s = cbit (cbits k s) := rfl
theorem cbits4 (s : UInt32) : cbits 4 s = cb4 s := by simp only [cbits, cb4, Nat.repeat]
theorem cbits8 (s : UInt32) : cbits 8 s = cb4 (cb4 s) := by simp only [cbits, cb4, Nat.repeat]
theorem pol_nat : pol.toNat = 3988292384 := by decide +kernel
theorem wi_pol : wi pol = 3988292384 := by unfold wi; rw [pol_nat]; simp
theorem wbyte' (x : UInt8) : bi x = wi x.toUInt32 := by unfold bi wi; rw [UInt8.toNat_toUInt32]
theorem low_even (s : UInt32) (h : s.toNat % 2 = 0) : bits .and .u32 (wi s) 1 = 0 := by
  unfold wi
  rw [show (1 : Int) = ((1 : Nat) : Int) from rfl, u32_and_nat _ _ (by have := s.toNat_lt; omega) (by omega), show s.toNat &&& 1 = s.toNat % 2 from Nat.and_two_pow_sub_one_eq_mod s.toNat 1, h]
  rfl
theorem low_odd (s : UInt32) (h : s.toNat % 2 = 1) : bits .and .u32 (wi s) 1 = 1 := by
  unfold wi
  rw [show (1 : Int) = ((1 : Nat) : Int) from rfl, u32_and_nat _ _ (by have := s.toNat_lt; omega) (by omega), show s.toNat &&& 1 = s.toNat % 2 from Nat.and_two_pow_sub_one_eq_mod s.toNat 1, h]
theorem wi_half (s : UInt32) : wi s / 2 = wi (shrw s 1) := wshr s 1 (by omega)
theorem wi_16th (s : UInt32) : wi s / 16 = wi (shrw s 4) := wshr s 4 (by omega)
theorem wxor_pol (s : UInt32) : bits .xor .u32 (wi s) 3988292384 = wi (s ^^^ pol) := by rw [← wi_pol, wxor]
theorem wi_ones : (4294967295 : Int) = wi 4294967295 := by unfold wi; rfl
theorem crcF_take (s : UInt32) (bs : List UInt8) (k : Nat) (hk : k < bs.length) : crcF s (bs.take (k + 1)) = cstep (crcF s (bs.take k)) (bs.getD k 0) := by
  rw [List.take_add_one, List.getElem?_eq_getElem hk, List.getD_eq_getElem?_getD, List.getElem?_eq_getElem hk]
  exact crcF_snoc _ _ _

set_option maxRecDepth 100000 in
set_option maxHeartbeats 800000 in
/-- The reference's. -/
theorem rcrc_any (v : Value) (bs : List UInt8) (w : World) (h : Sl w v bs) : Calls Try.prog 19 #[v] w fun e w' => e = .returned (.int .u32 (wi (crcL bs))) ∧ w = w' := by
  obtain ⟨A, c, rfl, hlc, hcm, hI⟩ := h.len
  unfold maxLen at hcm
  obtain ⟨l, hl⟩ : ∃ l, bs.length = l := ⟨_, rfl⟩
  rw [hl] at hlc ⊢
  have HL := Lib.hid hl
  have HI := Lib.hid hI
  clear hl hI h
  go_enter Try.func19, Try.ntmps19
  go_wp2
  rw [wi_ones]
  go_loop [3, 4, 5] (fun s i _ => ∃ k : Nat, k ≤ l ∧ i = .int .i64 k ∧ s = .int .u32 (wi (crcF 4294967295 (bs.take k)))) (fun _ i _ => l - (intOf i).toNat)
  case atStart => exact ⟨0, Nat.zero_le _, rfl, rfl⟩
  case round =>
    obtain ⟨k, hk, rfl, rfl⟩ := hrel
    by_cases hlt : k < l
    · obtain ⟨ad, rfl, hcell⟩ := HI.out.at_ k (by rw [HL.out]; exact hlt)
      have hnext := Lib.hid (crcF_take 4294967295 bs k (by rw [HL.out]; exact hlt))
      rw [wbyte'] at hcell
      generalize crcF 4294967295 (bs.take k) = s at *
      generalize bs.getD k 0 = x at *
      have hx := wxor s x.toUInt32
      have hxw := wi_lt x.toUInt32
      have hx0 := hxw.1
      have hx1 := hxw.2
      have c1 : (k : Int) < (l : Int) := by omega
      clear hxw
      go_wp2
      clear hx hx0 hx1
      obtain ⟨s0, hs0⟩ : ∃ s0, s ^^^ x.toUInt32 = s0 := ⟨_, rfl⟩
      rw [hs0]
      have hcs : cstep s x = cbits 8 s0 := by rw [← hs0, cbits8]; rfl
      have HCS := Lib.hid hcs
      clear hs0 hcs
      go_loop [3, 5] (fun s i => ∃ j : Nat, j ≤ 8 ∧ i = .int .i64 j ∧ s = .int .u32 (wi (cbits j s0))) (fun _ i => 8 - (intOf i).toNat)
      case atStart => exact ⟨0, by omega, rfl, rfl⟩
      case round =>
        obtain ⟨j, hj, rfl, rfl⟩ := hrel
        by_cases hlt2 : j < 8
        · have hn := Lib.hid (cbits_next j s0)
          generalize cbits j s0 = t at *
          have hh := wi_half t
          rcases Nat.mod_two_eq_zero_or_one t.toNat with h2 | h2
          · have hlow := low_even t h2
            have hb := Lib.hid (cbit_even h2)
            clear h2
            go_wp2
            go_round
            case rel => exact ⟨j + 1, by omega, by go_num, by rw [hn.out, hb.out]⟩
            case measure => simp [intOf]; omega
          · have hlow := low_odd t h2
            have hb := Lib.hid (cbit_odd h2)
            have hp := wxor_pol (shrw t 1)
            clear h2
            go_wp2
            go_round
            case rel => exact ⟨j + 1, by omega, by go_num, by rw [hn.out, hb.out]⟩
            case measure => simp [intOf]; omega
        · obtain rfl : j = 8 := by omega
          have he : wi (cbits 8 s0) = wi (crcF 4294967295 (bs.take (k + 1))) := by rw [hnext.out, HCS.out]
          rw [he]
          clear he
          go_wp2
          go_round
          case rel => exact ⟨k + 1, by omega, by go_num, rfl⟩
          case measure => simp [intOf]; omega
    · obtain rfl : k = l := by omega
      rw [List.take_of_length_le (by rw [HL.out]; omega)]
      have hn := wnot (crcF 4294967295 bs)
      go_wp2
      go_ret
      exact ⟨rfl, rfl⟩
end Go.Proofs.Ythopfbkkjfnhkaa
