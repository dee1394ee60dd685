/- Put, both. -/
import Derived.Test.YthphplmcojdpeaaQ0
import Derived.Test.YthphplmcojdpeaaB0
import Derived.IntWalk
namespace Go.Proofs.Ythphplmcojdpeaa
open Go.RowKit

/-- What a call of Put leaves. -/
def PutPost (w : World) (n : Nat) (e : Ending) (w' : World) : Prop := ∃ v, e = .returned (.tuple #[v, .int .i64 0]) ∧ Own w' w.heap.size v (putL n) ∧ Below w.heap.size w w'
theorem nat_or128 (x : Nat) (h : x < 128) : x ||| 128 = x + 128 := by
  have := Nat.two_pow_add_eq_or_of_lt (i := 7) (b := x) (by simpa using h) 1
  rw [Nat.or_comm]
  simp at this
  omega
theorem or128 (m : Int) (k : Nat) (h : m = (k : Int)) (hk : k < 128) : bits .or .u8 m 128 = bi (UInt8.ofNat (k + 128)) := by
  subst h
  rw [show (128 : Int) = ((128 : Nat) : Int) from rfl, u8_or_nat _ _ (by omega) (by omega), nat_or128 k hk]
  unfold bi
  rw [UInt8.toNat_ofNat']
  omega
theorem bi_nat (m : Nat) (h : m < 256) : bi (UInt8.ofNat m) = (m : Int) := by
  unfold bi
  rw [UInt8.toNat_ofNat']
  omega

theorem put_err (n : Int) (w : World) (h : n < 0 ∨ 72057594037927936 < n) : Calls Try.prog 32 #[.int .i64 n] w fun e w' => e = .returned (.tuple #[.slice none 0 0, .int .i64 1]) ∧ w = w' := by
  rcases h with h | h
  · go_enter Try.func32, Try.ntmps32
    go_wp2
    go_ret2
    exact ⟨rfl, rfl⟩
  · have h0 : 0 ≤ n := by omega
    go_enter Try.func32, Try.ntmps32
    go_wp2
    go_ret2
    exact ⟨rfl, rfl⟩

set_option maxRecDepth 100000 in
set_option maxHeartbeats 800000 in
theorem put_any (n : Nat) (w : World) (h : n ≤ 72057594037927936) : Calls Try.prog 32 #[.int .i64 (n : Int)] w (PutPost w n) := by
  have h0 : (0 : Int) ≤ (n : Int) := by omega
  have h1 : (n : Int) ≤ 72057594037927936 := by omega
  have hlen := putL_len9 h
  have HLEN := Lib.hid hlen
  clear hlen
  obtain ⟨n0, hn0⟩ : ∃ n0, n0 = n := ⟨_, rfl⟩
  rw [← hn0] at HLEN
  have HN := Lib.hid hn0
  have hpost : PutPost w n = PutPost w n0 := by rw [hn0]
  rw [hpost]
  clear hn0 hpost
  go_enter Try.func32, Try.ntmps32
  go_wp2
  go_loopw [0, 4] (fun x v wr => ∃ (m : Nat) (bs : List UInt8), m ≤ 72057594037927936 ∧ x = .int .i64 m ∧ Own wr w.heap.size v bs ∧ putL n0 = bs ++ putL m ∧ Below w.heap.size w wr) (fun x _ _ => (intOf x).toNat)
  case atStart => exact ⟨n, [], h, rfl, Own.nil_ _ _, by rw [HN.out]; rfl, Below.refl _ _⟩
  case round =>
    obtain ⟨m, bs, hm, rfl, ho, hput, hbw⟩ := hrel
    have hwz := hbw.size
    have hlen : bs.length + 1 ≤ 9 := by
      have := HLEN.out
      rw [hput, List.length_append] at this
      have := putL_pos m
      omega
    have hsm : bs.length + 1 ≤ 140737488355328 := by omega
    have HO := Lib.hid ho
    have HP := Lib.hid hput
    have HBW := Lib.hid hbw
    clear ho hput hbw
    have hm0 : (0 : Int) ≤ (m : Int) := by omega
    have hm1 : (m : Int) ≤ 72057594037927936 := by omega
    by_cases hlt : m < 128
    · have hm2 : (m : Int) < 128 := by omega
      go_wp2_with (at_builtin; refine append_byte rfl (.tmp 22) (.tmp 25) rfl wr w.heap.size u4 bs rfl HO.out _ (UInt8.ofNat m) (bi_nat m (by omega)) rfl hsm hwz ?_; intro v3 w3 ho3 hb3; have HO3 := Lib.hid ho3; have HB3 := Lib.hid hb3; clear ho3 hb3)
      go_ret2
      refine ⟨v3, rfl, ?_, HBW.out.trans HB3.out⟩
      rw [HP.out, putL_lt hlt]
      exact HO3.out
    · have hm2 : (128 : Int) ≤ (m : Int) := by omega
      have hor := or128 ((m : Int) % 128) (m % 128) (by omega) (by omega)
      obtain ⟨y, hy⟩ : ∃ y, UInt8.ofNat (m % 128 + 128) = y := ⟨_, rfl⟩
      rw [hy] at hor
      have HY := Lib.hid hy
      clear hy
      go_wp2_with (at_builtin; refine append_byte rfl (.tmp 13) (.tmp 18) rfl wr w.heap.size u4 bs rfl HO.out _ y rfl rfl hsm hwz ?_; intro v3 w3 ho3 hb3; have HO3 := Lib.hid ho3; have HB3 := Lib.hid hb3; clear ho3 hb3)
      refine ⟨⟨m / 128, bs ++ [y], by omega, ?_, HO3.out, ?_, HBW.out.trans HB3.out⟩, ?_⟩
      · congr 1
      · rw [HP.out, putL_ge (show 128 ≤ m by omega), HY.out, List.append_assoc]; rfl
      · simp [intOf]; omega
theorem and127 (m : Nat) (h : m ≤ 72057594037927936) : bits .and .i64 (m : Int) 127 = (m : Int) % 128 := by
  rw [show (127 : Int) = ((127 : Nat) : Int) from rfl, i64_and_nat _ _ (by omega) (by omega), show m &&& 127 = m % 128 from Nat.and_two_pow_sub_one_eq_mod m 7]
  omega
theorem or128i (m : Nat) : bits .or .i64 ((m : Int) % 128) 128 = (m : Int) % 128 + 128 := by
  rw [show (m : Int) % 128 = ((m % 128 : Nat) : Int) by omega, show (128 : Int) = ((128 : Nat) : Int) from rfl, i64_or_nat _ _ (by omega) (by omega), nat_or128 _ (by omega)]
  omega
theorem sum128 (m : Nat) : bi (UInt8.ofNat (m % 128 + 128)) = (m : Int) % 128 + 128 := by
  rw [bi_nat _ (by omega)]
  omega
theorem rput_err (n : Int) (w : World) (h : n < 0 ∨ 72057594037927936 < n) : Calls Try.prog 34 #[.int .i64 n] w fun e w' => e = .returned (.tuple #[.slice none 0 0, .int .i64 1]) ∧ w = w' := by
  rcases h with h | h
  · go_enter Try.func34, Try.ntmps34
    go_wp2
    go_ret2
    exact ⟨rfl, rfl⟩
  · have h0 : 0 ≤ n := by omega
    go_enter Try.func34, Try.ntmps34
    go_wp2
    go_ret2
    exact ⟨rfl, rfl⟩

set_option maxRecDepth 100000 in
set_option maxHeartbeats 800000 in
theorem rput_any (n : Nat) (w : World) (h : n ≤ 72057594037927936) : Calls Try.prog 34 #[.int .i64 (n : Int)] w (PutPost w n) := by
  have h0 : (0 : Int) ≤ (n : Int) := by omega
  have h1 : (n : Int) ≤ 72057594037927936 := by omega
  have hlen := putL_len9 h
  have HLEN := Lib.hid hlen
  clear hlen
  obtain ⟨n0, hn0⟩ : ∃ n0, n0 = n := ⟨_, rfl⟩
  rw [← hn0] at HLEN
  have HN := Lib.hid hn0
  have hpost : PutPost w n = PutPost w n0 := by rw [hn0]
  rw [hpost]
  clear hn0 hpost
  go_enter Try.func34, Try.ntmps34
  go_wp2
  go_loopw [0, 4] (fun x v wr => ∃ (m : Nat) (bs : List UInt8), m ≤ 72057594037927936 ∧ x = .int .i64 m ∧ Own wr w.heap.size v bs ∧ putL n0 = bs ++ putL m ∧ Below w.heap.size w wr) (fun x _ _ => (intOf x).toNat)
  case atStart => exact ⟨n, [], h, rfl, Own.nil_ _ _, by rw [HN.out]; rfl, Below.refl _ _⟩
  case round =>
    obtain ⟨m, bs, hm, rfl, ho, hput, hbw⟩ := hrel
    have hwz := hbw.size
    have hlen : bs.length + 1 ≤ 9 := by
      have := HLEN.out
      rw [hput, List.length_append] at this
      have := putL_pos m
      omega
    have hsm : bs.length + 1 ≤ 140737488355328 := by omega
    have HO := Lib.hid ho
    have HP := Lib.hid hput
    have HBW := Lib.hid hbw
    clear ho hput hbw
    have hm0 : (0 : Int) ≤ (m : Int) := by omega
    have hm1 : (m : Int) ≤ 72057594037927936 := by omega
    by_cases hlt : m < 128
    · have hm2 : (m : Int) ≤ 127 := by omega
      go_wp2_with (at_builtin; refine append_byte rfl (.tmp 22) (.tmp 25) rfl wr w.heap.size u4 bs rfl HO.out _ (UInt8.ofNat m) (bi_nat m (by omega)) rfl hsm hwz ?_; intro v3 w3 ho3 hb3; have HO3 := Lib.hid ho3; have HB3 := Lib.hid hb3; clear ho3 hb3)
      go_ret2
      refine ⟨v3, rfl, ?_, HBW.out.trans HB3.out⟩
      rw [HP.out, putL_lt hlt]
      exact HO3.out
    · have hm2 : (127 : Int) < (m : Int) := by omega
      have hand := and127 m (by omega)
      have hor := or128i m
      have hs := sum128 m
      obtain ⟨y, hy⟩ : ∃ y, UInt8.ofNat (m % 128 + 128) = y := ⟨_, rfl⟩
      rw [hy] at hs
      have HS := Lib.hid hs
      clear hs
      have hb0 : 0 ≤ (m : Int) % 128 := by omega
      have hb1 : (m : Int) % 128 < 128 := by omega
      have HY := Lib.hid hy
      clear hy
      go_wp2_with (at_builtin; refine append_byte rfl (.tmp 13) (.tmp 18) rfl wr w.heap.size u4 bs rfl HO.out _ y HS.out rfl hsm hwz ?_; intro v3 w3 ho3 hb3; have HO3 := Lib.hid ho3; have HB3 := Lib.hid hb3; clear ho3 hb3)
      refine ⟨⟨m / 128, bs ++ [y], by omega, ?_, HO3.out, ?_, HBW.out.trans HB3.out⟩, ?_⟩
      · congr 1
      · rw [HP.out, putL_ge (show 128 ≤ m by omega), HY.out, List.append_assoc]; rfl
      · simp [intOf]; omega
end Go.Proofs.Ythphplmcojdpeaa
