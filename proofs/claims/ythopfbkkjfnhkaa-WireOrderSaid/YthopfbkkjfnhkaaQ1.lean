/- The CRC-32, bit by bit: plain words, no Go in it. -/
import Derived.Test.YthopfbkkjfnhkaaB0
namespace Go.Proofs.Ythopfbkkjfnhkaa

def pol : UInt32 := 3988292384
/-- One bit. -/
def cbit (s : UInt32) : UInt32 := if s.toNat % 2 = 1 then shrw s 1 ^^^ pol else shrw s 1
def cb4 (s : UInt32) : UInt32 := cbit (cbit (cbit (cbit s)))
/-- One byte. -/
def cstep (s : UInt32) (c : UInt8) : UInt32 := cb4 (cb4 (s ^^^ c.toUInt32))
def crcF (s : UInt32) (bs : List UInt8) : UInt32 := bs.foldl cstep s
def crcL (bs : List UInt8) : UInt32 := ~~~ (crcF 4294967295 bs)

theorem shrw_nat (s : UInt32) (n : Nat) (h : n < 32) : (shrw s n).toNat = s.toNat / 2 ^ n := by
  unfold shrw
  rw [UInt32.toNat_shiftRight, toNat_ofNat32 n h, Nat.mod_eq_of_lt h, Nat.shiftRight_eq_div_pow]
theorem shrw_xor (a b : UInt32) (n : Nat) (h : n < 32) : shrw (a ^^^ b) n = shrw a n ^^^ shrw b n := by
  apply UInt32.toNat_inj.1
  rw [UInt32.toNat_xor, shrw_nat _ n h, shrw_nat _ n h, shrw_nat _ n h, UInt32.toNat_xor, ← Nat.shiftRight_eq_div_pow, ← Nat.shiftRight_eq_div_pow, ← Nat.shiftRight_eq_div_pow, Nat.shiftRight_xor_distrib]
theorem xor_mod2 (a b : Nat) : (a ^^^ b) % 2 = (a % 2 + b % 2) % 2 := by
  have := @Nat.xor_mod_two_pow a b 1
  rw [Nat.pow_one] at this
  rw [this]
  rcases Nat.mod_two_eq_zero_or_one a with h | h <;> rcases Nat.mod_two_eq_zero_or_one b with h2 | h2 <;> rw [h, h2] <;> rfl
theorem cbit_even {s : UInt32} (h : s.toNat % 2 = 0) : cbit s = shrw s 1 := by unfold cbit; rw [if_neg (by omega)]
theorem cbit_odd {s : UInt32} (h : s.toNat % 2 = 1) : cbit s = shrw s 1 ^^^ pol := by unfold cbit; rw [if_pos h]
theorem cbit_xor (a b : UInt32) : cbit (a ^^^ b) = cbit a ^^^ cbit b := by
  have hx : (a ^^^ b).toNat % 2 = (a.toNat % 2 + b.toNat % 2) % 2 := by rw [UInt32.toNat_xor, xor_mod2]
  rcases Nat.mod_two_eq_zero_or_one a.toNat with h | h <;> rcases Nat.mod_two_eq_zero_or_one b.toNat with h2 | h2
  · rw [cbit_even (by rw [hx, h, h2]), cbit_even h, cbit_even h2, shrw_xor _ _ 1 (by omega)]
  · rw [cbit_odd (by rw [hx, h, h2]), cbit_even h, cbit_odd h2, shrw_xor _ _ 1 (by omega), UInt32.xor_assoc]
  · rw [cbit_odd (by rw [hx, h, h2]), cbit_odd h, cbit_even h2, shrw_xor _ _ 1 (by omega), UInt32.xor_assoc, UInt32.xor_assoc, UInt32.xor_comm pol]
  · rw [cbit_even (by rw [hx, h, h2]), cbit_odd h, cbit_odd h2, shrw_xor _ _ 1 (by omega), UInt32.xor_assoc, UInt32.xor_comm pol, UInt32.xor_assoc, UInt32.xor_self, UInt32.xor_zero]
theorem cb4_xor (a b : UInt32) : cb4 (a ^^^ b) = cb4 a ^^^ cb4 b := by unfold cb4; rw [cbit_xor, cbit_xor, cbit_xor, cbit_xor]
theorem cbit_half {s : UInt32} (h : s.toNat % 2 = 0) : (cbit s).toNat = s.toNat / 2 := by rw [cbit_even h, shrw_nat s 1 (by omega)]
theorem cb4_high {s : UInt32} (h : s.toNat % 16 = 0) : (cb4 s).toNat = s.toNat / 16 := by
  have h1 := cbit_half (s := s) (by omega)
  have h2 := cbit_half (s := cbit s) (by omega)
  have h3 := cbit_half (s := cbit (cbit s)) (by omega)
  have h4 := cbit_half (s := cbit (cbit (cbit s))) (by omega)
  show (cbit (cbit (cbit (cbit s)))).toNat = _
  omega
theorem xor_low (x y : Nat) (h : y < 16) : (16 * x) ^^^ y = 16 * x + y := by
  apply Nat.eq_of_testBit_eq
  intro i
  have e := Nat.testBit_two_pow_mul_add x (b := y) (i := 4) (by simpa using h) i
  have e2 := Nat.testBit_two_pow_mul_add x (b := 0) (i := 4) (by decide) i
  rw [Nat.testBit_xor]
  simp only [show (2 : Nat) ^ 4 = 16 from rfl, Nat.add_zero, Nat.zero_testBit] at e e2
  rw [e, e2]
  by_cases hi : i < 4
  · simp [hi]
  · have : y.testBit i = false := Nat.testBit_lt_two_pow (Nat.lt_of_lt_of_le h (by
      have : (2 : Nat) ^ 4 ≤ 2 ^ i := Nat.pow_le_pow_right (by omega) (by omega)
      simpa using this))
    simp [hi, this]
theorem ofNat32_nat (n : Nat) (h : n < 4294967296) : (UInt32.ofNat n).toNat = n := by rw [UInt32.toNat_ofNat']; omega
/-- Four bits by the table of four. -/
theorem cb4_split (s : UInt32) : cb4 s = cb4 (UInt32.ofNat (s.toNat % 16)) ^^^ shrw s 4 := by
  have hs := s.toNat_lt
  obtain ⟨u, hu⟩ : ∃ u, UInt32.ofNat (16 * (s.toNat / 16)) = u := ⟨_, rfl⟩
  have hun : u.toNat = 16 * (s.toNat / 16) := by rw [← hu, ofNat32_nat _ (by omega)]
  have e : s = u ^^^ UInt32.ofNat (s.toNat % 16) := by
    apply UInt32.toNat_inj.1
    rw [UInt32.toNat_xor, hun, ofNat32_nat _ (by omega), xor_low _ _ (by omega)]
    omega
  have h1 : cb4 u = shrw s 4 := by
    apply UInt32.toNat_inj.1
    rw [cb4_high (by omega), shrw_nat s 4 (by omega), hun]
    omega
  conv => lhs; rw [e]
  rw [cb4_xor, h1, UInt32.xor_comm]

theorem xor4 (a b c d : UInt32) : (a ^^^ b) ^^^ (c ^^^ d) = (a ^^^ c) ^^^ (b ^^^ d) := by
  rw [UInt32.xor_assoc, UInt32.xor_assoc, ← UInt32.xor_assoc b, ← UInt32.xor_assoc c, UInt32.xor_comm b c]
theorem toU_xor (x y : UInt8) : (x ^^^ y).toUInt32 = x.toUInt32 ^^^ y.toUInt32 := by
  apply UInt32.toNat_inj.1
  rw [UInt32.toNat_xor, UInt8.toNat_toUInt32, UInt8.toNat_toUInt32, UInt8.toNat_toUInt32, UInt8.toNat_xor]
theorem cstep_xor (s t : UInt32) (x y : UInt8) : cstep (s ^^^ t) (x ^^^ y) = cstep s x ^^^ cstep t y := by
  unfold cstep
  rw [toU_xor, xor4, cb4_xor, cb4_xor]
theorem cbit_zero {s : UInt32} (h : cbit s = 0) : s = 0 := by
  have hs := s.toNat_lt
  rcases Nat.mod_two_eq_zero_or_one s.toNat with h2 | h2
  · rw [cbit_even h2] at h
    have := congrArg UInt32.toNat h
    rw [shrw_nat s 1 (by omega)] at this
    have h0 : (0 : UInt32).toNat = 0 := rfl
    exact UInt32.toNat_inj.1 (by omega)
  · rw [cbit_odd h2] at h
    have h3 : shrw s 1 = pol := by
      have : shrw s 1 ^^^ pol ^^^ pol = pol := by rw [h, UInt32.zero_xor]
      rw [UInt32.xor_assoc, UInt32.xor_self, UInt32.xor_zero] at this
      exact this
    have := congrArg UInt32.toNat h3
    rw [shrw_nat s 1 (by omega), show pol.toNat = 3988292384 from rfl] at this
    omega
theorem cbit_inj {a b : UInt32} (h : cbit a = cbit b) : a = b := by
  have h0 : cbit (a ^^^ b) = 0 := by rw [cbit_xor, h, UInt32.xor_self]
  have h1 := cbit_zero h0
  have : a ^^^ b ^^^ b = b := by rw [h1, UInt32.zero_xor]
  rw [UInt32.xor_assoc, UInt32.xor_self, UInt32.xor_zero] at this
  exact this
theorem cb4_inj {a b : UInt32} (h : cb4 a = cb4 b) : a = b := cbit_inj (cbit_inj (cbit_inj (cbit_inj h)))
theorem xor_cancel {a b c : UInt32} (h : a ^^^ c = b ^^^ c) : a = b := by
  have : a ^^^ c ^^^ c = b ^^^ c ^^^ c := by rw [h]
  rw [UInt32.xor_assoc, UInt32.xor_assoc, UInt32.xor_self, UInt32.xor_zero, UInt32.xor_zero] at this
  exact this
theorem cstep_inj {a b : UInt32} {c : UInt8} (h : cstep a c = cstep b c) : a = b := xor_cancel (cb4_inj (cb4_inj h))
theorem cstep_byte {s : UInt32} {x y : UInt8} (h : cstep s x = cstep s y) : x = y := by
  have h1 := cb4_inj (cb4_inj h)
  rw [UInt32.xor_comm s, UInt32.xor_comm s] at h1
  have h2 := congrArg UInt32.toNat (xor_cancel h1)
  rw [UInt8.toNat_toUInt32, UInt8.toNat_toUInt32] at h2
  exact UInt8.toNat_inj.1 h2
theorem crcF_snoc (s : UInt32) (bs : List UInt8) (c : UInt8) : crcF s (bs ++ [c]) = cstep (crcF s bs) c := by unfold crcF; rw [List.foldl_append]; rfl
theorem crcF_append (s : UInt32) (a b : List UInt8) : crcF s (a ++ b) = crcF (crcF s a) b := by unfold crcF; rw [List.foldl_append]
theorem crcF_inj (bs : List UInt8) : ∀ {a b : UInt32}, crcF a bs = crcF b bs → a = b := by
  induction bs with
  | nil => intro a b h; exact h
  | cons c r ih => intro a b h; exact cstep_inj (ih h)
theorem not_inj {a b : UInt32} (h : ~~~ a = ~~~ b) : a = b := by
  have := congrArg (fun x => ~~~ x) h
  simpa using this
/-- Another byte, another sum. -/
theorem crcL_ne (a b : List UInt8) (x y : UInt8) (h : x ≠ y) : crcL (a ++ x :: b) ≠ crcL (a ++ y :: b) := by
  intro e
  have e1 := not_inj e
  rw [crcF_append, crcF_append] at e1
  exact h (cstep_byte (crcF_inj b e1))
theorem crcF_xor (a : List UInt8) : ∀ (b : List UInt8) (s t : UInt32), a.length = b.length → crcF (s ^^^ t) (List.zipWith (· ^^^ ·) a b) = crcF s a ^^^ crcF t b := by
  induction a with
  | nil => intro b s t h; cases b with | nil => rfl | cons _ _ => cases h
  | cons x a ih =>
    intro b s t h
    cases b with
    | nil => cases h
    | cons y b =>
      show crcF (cstep (s ^^^ t) (x ^^^ y)) (List.zipWith (· ^^^ ·) a b) = crcF (cstep s x) a ^^^ crcF (cstep t y) b
      rw [cstep_xor, ih b _ _ (by simpa using h)]
theorem not_xor3 (a b c : UInt32) : ~~~ (a ^^^ b ^^^ c) = ~~~ a ^^^ ~~~ b ^^^ ~~~ c := by
  apply UInt32.toBitVec_inj.1
  simp only [UInt32.toBitVec_not, UInt32.toBitVec_xor]
  ext i hi
  simp
theorem crcL_xor3 (a b c : List UInt8) (h1 : a.length = b.length) (h2 : a.length = c.length) : crcL (List.zipWith (· ^^^ ·) (List.zipWith (· ^^^ ·) a b) c) = crcL a ^^^ crcL b ^^^ crcL c := by
  unfold crcL
  have h := crcF_xor (List.zipWith (· ^^^ ·) a b) c ((4294967295 : UInt32) ^^^ 4294967295) 4294967295 (by simp; omega)
  rw [show ((4294967295 : UInt32) ^^^ 4294967295 ^^^ 4294967295) = 4294967295 from by decide, crcF_xor a b _ _ h1] at h
  rw [h, not_xor3]
end Go.Proofs.Ythopfbkkjfnhkaa
