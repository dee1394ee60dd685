/- Words of 32 bits and bytes as the model's integers. -/
import Derived.Test.YtcbiajajoojgmaaRows
import Derived.Test.YtcbiajajoojgmaaShP0
import Derived.Test.YtcbiajajoojgmaaShM0
import Derived.WalkKit
import Derived.ProofKit
import Derived.OpenShut
import Derived.BigQuiet
import Derived.Deep.QuietTactic
import Derived.Lib.Hide
import Derived.Deep.RegionWith
import Derived.StillTailTactics
import Derived.Deep.DeepFit
import Derived.Deep.WholeRow
import Derived.Deep.MidRow
import Derived.Deep.AppendLies
import Derived.Deep.Draws
import Derived.Maps.AppendAt
import Derived.Deep.RegionHeld3
import Derived.Deep.OwnRows
import Derived.Lib.SlBytesConst
namespace Go.Proofs.Ytcbiajajoojgmaa.Sh
open Go.RowKit

/-- A word's number. -/
def wi (u : UInt32) : Int := (u.toNat : Int)
/-- A byte's number. -/
def bi (u : UInt8) : Int := (u.toNat : Int)
theorem wi_lt (u : UInt32) : 0 ≤ wi u ∧ wi u ≤ 4294967295 := by
  unfold wi; have := u.toNat_lt; omega
theorem bi_lt (u : UInt8) : 0 ≤ bi u ∧ bi u ≤ 255 := by
  unfold bi; have := u.toNat_lt; omega
theorem wi_inj {a b : UInt32} (h : wi a = wi b) : a = b := by
  unfold wi at h; exact UInt32.toNat_inj.1 (by omega)
theorem bi_inj {a b : UInt8} (h : bi a = bi b) : a = b := by
  unfold bi at h; exact UInt8.toNat_inj.1 (by omega)
theorem wadd (a b : UInt32) : IntKind.u32.wrap (wi a + wi b) = wi (a + b) := by
  unfold wi; rw [IntKind.wrap_u32, UInt32.toNat_add]; omega
theorem wxor (a b : UInt32) : bits .xor .u32 (wi a) (wi b) = wi (a ^^^ b) := by
  unfold wi; rw [u32_xor_nat _ _ (by have := a.toNat_lt; omega) (by have := b.toNat_lt; omega), UInt32.toNat_xor]
theorem wand (a b : UInt32) : bits .and .u32 (wi a) (wi b) = wi (a &&& b) := by
  unfold wi; rw [u32_and_nat _ _ (by have := a.toNat_lt; omega) (by have := b.toNat_lt; omega), UInt32.toNat_and]
theorem wor (a b : UInt32) : bits .or .u32 (wi a) (wi b) = wi (a ||| b) := by
  unfold wi; rw [u32_or_nat _ _ (by have := a.toNat_lt; omega) (by have := b.toNat_lt; omega), UInt32.toNat_or]


theorem toNat_ofNat32 (n : Nat) (h : n < 32) : (UInt32.ofNat n).toNat = n := by
  simp [UInt32.toNat_ofNat']; omega
theorem wshl (u : UInt32) (n : Nat) (h : n < 32) : IntKind.u32.wrap (wi u * 2 ^ n) = wi (shlw u n) := by
  unfold wi shlw
  rw [IntKind.wrap_u32, UInt32.toNat_shiftLeft, toNat_ofNat32 n h, Nat.mod_eq_of_lt h, Nat.shiftLeft_eq]
  have : ((u.toNat : Int) * 2 ^ n) = ((u.toNat * 2 ^ n : Nat) : Int) := by simp
  rw [this]
  omega
theorem wshr (u : UInt32) (n : Nat) (h : n < 32) : wi u / 2 ^ n = wi (shrw u n) := by
  unfold wi shrw
  rw [UInt32.toNat_shiftRight, toNat_ofNat32 n h, Nat.mod_eq_of_lt h, Nat.shiftRight_eq_div_pow]
  simp

theorem wnot (a : UInt32) : bits .xor .u32 IntKind.u32.max (wi a) = wi (~~~ a) := by
  unfold wi
  have hm : IntKind.u32.max = ((4294967295 : Nat) : Int) := by decide
  rw [hm, u32_xor_nat _ _ (by omega) (by have := a.toNat_lt; omega)]
  congr 1
theorem wbyte (b : UInt8) : IntKind.u32.wrap (bi b) = wi b.toUInt32 := by
  unfold bi wi; rw [IntKind.wrap_u32, UInt8.toNat_toUInt32]; have := b.toNat_lt; omega
attribute [irreducible] wi bi
theorem add_at (a : Addr) (n : Nat) (h : 0 < n) : a.add n = ⟨a.block, a.off + n, none⟩ := by
  unfold Addr.add; rw [if_neg (by omega)]

set_option maxHeartbeats 400000 in
theorem rot_any (u : UInt32) (x : Int) (n : Nat) (hn : bits BinOp.and IntKind.u64 (IntKind.u64.wrap x) 31 = (n : Int)) (h1 : 0 < n) (h2 : n < 32) (w : World) :
    Calls Try.prog 93 #[.int .u32 (wi u), .int .i64 x] w fun e w' => e = .returned (.int .u32 (wi (rotl u n))) ∧ w = w' := by
  have r1 : wi u * 2 ^ n % 4294967296 = wi (shlw u n) := by rw [← wshl u n h2, IntKind.wrap_u32]
  have r2 := wshr u (32 - n) (by omega)
  have e1 : IntKind.u64.wrap (32 - (n : Int)) = ((32 - n : Nat) : Int) := by rw [IntWalk.u64_in _ (by omega)]; omega
  have e2 := wor (shlw u n) (shrw u (32 - n))
  have E : Hid (rotl u n = shlw u n ||| shrw u (32 - n)) := rfl
  go_enter Try.func93, Try.ntmps93
  go_wp2
  go_ret
  exact ⟨by rw [E.out]; rfl, rfl⟩


set_option maxHeartbeats 400000 in
theorem turned_any (u : UInt32) (x y z : Int) (a b c : Nat) (hx : 0 < x ∧ x < 32) (hy : 0 < y ∧ y < 32) (hz : 0 < z ∧ z < 32)
    (ha : bits BinOp.and IntKind.u64 (IntKind.u64.wrap (-x)) 31 = (a : Int)) (hb : bits BinOp.and IntKind.u64 (IntKind.u64.wrap (-y)) 31 = (b : Int)) (hc : bits BinOp.and IntKind.u64 (IntKind.u64.wrap (-z)) 31 = (c : Int))
    (h1 : (0 < a ∧ a < 32) ∧ (0 < b ∧ b < 32) ∧ (0 < c ∧ c < 32)) (w : World) :
    Calls Try.prog 87 #[.int .u32 (wi u), .int .i64 x, .int .i64 y, .int .i64 z] w fun e w' => e = .returned (.int .u32 (wi (rot3 u a b c))) ∧ w = w' := by
  have e1 := wxor (rotl u a) (rotl u b)
  have e2 := wxor (rotl u a ^^^ rotl u b) (rotl u c)
  have E : Hid (rot3 u a b c = rotl u a ^^^ rotl u b ^^^ rotl u c) := rfl
  have HA := Lib.hid ha
  have HB := Lib.hid hb
  have HC := Lib.hid hc
  clear ha hb hc
  go_enter Try.func87, Try.ntmps87
  go_wp2_with fail
  refine (rot_any u _ a HA.out h1.1.1 h1.1.2 _).mono ?_
  rintro e w' ⟨rfl, rfl⟩
  go_wp2_with fail
  refine (rot_any u _ b HB.out h1.2.1.1 h1.2.1.2 _).mono ?_
  rintro e w' ⟨rfl, rfl⟩
  go_wp2_with fail
  refine (rot_any u _ c HC.out h1.2.2.1 h1.2.2.2 _).mono ?_
  rintro e w' ⟨rfl, rfl⟩
  go_wp2_with fail
  go_ret
  exact ⟨by rw [E.out]; rfl, rfl⟩

set_option maxHeartbeats 400000 in
theorem shifted_any (u : UInt32) (x y z : Int) (a b c : Nat) (hx : 0 < x ∧ x < 32) (hy : 0 < y ∧ y < 32) (hz : z = (c : Int))
    (ha : bits BinOp.and IntKind.u64 (IntKind.u64.wrap (-x)) 31 = (a : Int)) (hb : bits BinOp.and IntKind.u64 (IntKind.u64.wrap (-y)) 31 = (b : Int))
    (h1 : (0 < a ∧ a < 32) ∧ (0 < b ∧ b < 32) ∧ (0 < c ∧ c < 32)) (w : World) :
    Calls Try.prog 92 #[.int .u32 (wi u), .int .i64 x, .int .i64 y, .int .i64 z] w fun e w' => e = .returned (.int .u32 (wi (rots u a b c))) ∧ ∃ k, w' = w.drewN k := by
  subst hz
  have e1 := wxor (rotl u a) (rotl u b)
  have e2 := wxor (rotl u a ^^^ rotl u b) (shrw u c)
  have r2 := wshr u c h1.2.2.2
  have E : Hid (rots u a b c = rotl u a ^^^ rotl u b ^^^ (shrw u c)) := rfl
  have HA := Lib.hid ha
  have HB := Lib.hid hb
  clear ha hb
  go_enter Try.func92, Try.ntmps92
  go_wp2_with fail
  go_quiet (first | (go_at_call_of 93 (Value.int .i64 (-x)); exact Calls.quiet_of_same ((rot_any u _ a HA.out h1.1.1 h1.1.2 _).mono fun _ _ h => ⟨h.1, h.2.symm⟩)) | (go_at_call 93; exact Calls.quiet_of_same ((rot_any u _ b HB.out h1.2.1.1 h1.2.1.2 _).mono fun _ _ h => ⟨h.1, h.2.symm⟩)))
  go_wp2_with fail
  go_ret
  exact ⟨by rw [E.out]; rfl, _, rfl⟩

end Go.Proofs.Ytcbiajajoojgmaa.Sh
