/- Texts put together: VShP0, VShW0, VShW1. -/
import Derived.Test.YtpfjlhpahmhkhaaGreatRows
import Derived.Test.YtpfjlhpahmhkhaaGreatQv01
import Derived.WalkKit
import Derived.ProofKit
import Derived.OpenShut
import Derived.BigQuiet
import Derived.Deep.QuietTactic
import Derived.Lib.Hide
import Derived.Deep.RegionWith
import Derived.StillTailTactics
import Derived.Deep.DeepFit
import Derived.Deep.WholeRow
import Derived.Deep.MidRow
import Derived.Deep.AppendLies
import Derived.Deep.Draws
import Derived.Maps.AppendAt
import Derived.Deep.RegionHeld3
import Derived.Deep.OwnRows
import Derived.Lib.SlBytesConst
/- SHA-256 over plain lists. -/
namespace Go.Proofs.YtpfjlhpahmhkhaaGreat.Sh
def shlw (u : UInt32) (n : Nat) : UInt32 := u <<< UInt32.ofNat n
def shrw (u : UInt32) (n : Nat) : UInt32 := u >>> UInt32.ofNat n
def rotl (u : UInt32) (n : Nat) : UInt32 := shlw u n ||| shrw u (32 - n)
def rot3 (u : UInt32) (a b c : Nat) : UInt32 := rotl u a ^^^ rotl u b ^^^ rotl u c
def rots (u : UInt32) (a b c : Nat) : UInt32 := rotl u a ^^^ rotl u b ^^^ shrw u c
def kList : List UInt32 := [
 0x428a2f98, 0x71374491, 0xb5c0fbcf, 0xe9b5dba5, 0x3956c25b, 0x59f111f1, 0x923f82a4, 0xab1c5ed5,
 0xd807aa98, 0x12835b01, 0x243185be, 0x550c7dc3, 0x72be5d74, 0x80deb1fe, 0x9bdc06a7, 0xc19bf174,
 0xe49b69c1, 0xefbe4786, 0x0fc19dc6, 0x240ca1cc, 0x2de92c6f, 0x4a7484aa, 0x5cb0a9dc, 0x76f988da,
 0x983e5152, 0xa831c66d, 0xb00327c8, 0xbf597fc7, 0xc6e00bf3, 0xd5a79147, 0x06ca6351, 0x14292967,
 0x27b70a85, 0x2e1b2138, 0x4d2c6dfc, 0x53380d13, 0x650a7354, 0x766a0abb, 0x81c2c92e, 0x92722c85,
 0xa2bfe8a1, 0xa81a664b, 0xc24b8b70, 0xc76c51a3, 0xd192e819, 0xd6990624, 0xf40e3585, 0x106aa070,
 0x19a4c116, 0x1e376c08, 0x2748774c, 0x34b0bcb5, 0x391c0cb3, 0x4ed8aa4a, 0x5b9cca4f, 0x682e6ff3,
 0x748f82ee, 0x78a5636f, 0x84c87814, 0x8cc70208, 0x90befffa, 0xa4506ceb, 0xbef9a3f7, 0xc67178f2]
structure St where
 a : UInt32
 b : UInt32
 c : UInt32
 d : UInt32
 e : UInt32
 f : UInt32
 g : UInt32
 h : UInt32
deriving DecidableEq
def St.first : St := ⟨0x6a09e667, 0xbb67ae85, 0x3c6ef372, 0xa54ff53a, 0x510e527f, 0x9b05688c, 0x1f83d9ab, 0x5be0cd19⟩
def St.list (s : St) : List UInt32 := [s.a, s.b, s.c, s.d, s.e, s.f, s.g, s.h]
def wordAt (bs : List UInt8) (i : Nat) : UInt32 :=
 shlw (bs.getD (4 * i) 0).toUInt32 24 ||| shlw (bs.getD (4 * i + 1) 0).toUInt32 16 ||| shlw (bs.getD (4 * i + 2) 0).toUInt32 8 ||| (bs.getD (4 * i + 3) 0).toUInt32
def nextWord (p : List UInt32) (n : Nat) : UInt32 :=
 p.getD (n - 16) 0 + p.getD (n - 7) 0 + rots (p.getD (n - 15) 0) 25 14 3 + rots (p.getD (n - 2) 0) 15 13 10
def words (bs : List UInt8) : Nat → List UInt32
 | 0 => []
 | n + 1 => words bs n ++ [if n < 16 then wordAt bs n else nextWord (words bs n) n]
theorem words_length (bs : List UInt8) (n : Nat) : (words bs n).length = n := by
 induction n with
 | zero => rfl
 | succ n ih => simp [words, ih]
theorem words_getD (bs : List UInt8) (n m j : Nat) (h : j < n) (hm : n ≤ m) : (words bs m).getD j 0 = (words bs n).getD j 0 := by
 induction m with
 | zero => omega
 | succ m ih =>
  by_cases e : n = m + 1
  ·rw [e]
  ·rw [← ih (by omega)]
   simp only [words, List.getD_eq_getElem?_getD]
   rw [List.getElem?_append_left (by rw [words_length]; omega)]
def wd (bs : List UInt8) (j : Nat) : UInt32 := (words bs 64).getD j 0
theorem wd_def (bs : List UInt8) (j : Nat) : wd bs j = (words bs 64).getD j 0 := rfl
theorem wd_last (bs : List UInt8) (n : Nat) (h : n < 64) : wd bs n = if n < 16 then wordAt bs n else nextWord (words bs n) n := by
 unfold wd
 rw [words_getD bs (n + 1) 64 n (by omega) (by omega)]
 have hl := words_length bs n
 simp only [words, List.getD_eq_getElem?_getD]
 rw [List.getElem?_append_right (by omega), hl]
 simp
theorem wd_lo (bs : List UInt8) (n : Nat) (h : n < 16) : wd bs n = wordAt bs n := by
 rw [wd_last bs n (by omega), if_pos h]
theorem wd_hi (bs : List UInt8) (n : Nat) (h : 16 ≤ n) (h2 : n < 64) :
  wd bs n = wd bs (n - 16) + wd bs (n - 7) + rots (wd bs (n - 15)) 25 14 3 + rots (wd bs (n - 2)) 15 13 10 := by
 rw [wd_last bs n h2, if_neg (by omega)]
 unfold nextWord wd
 rw [words_getD bs n 64 (n - 16) (by omega) (by omega), words_getD bs n 64 (n - 7) (by omega) (by omega), words_getD bs n 64 (n - 15) (by omega) (by omega), words_getD bs n 64 (n - 2) (by omega) (by omega)]
def first1 (s : St) (k w : UInt32) : UInt32 :=
 s.h + rot3 s.e 26 21 7 + ((s.e &&& s.f) ^^^ (~~~ s.e &&& s.g)) + k + w
def second1 (s : St) : UInt32 :=
 rot3 s.a 30 19 10 + ((s.a &&& s.b) ^^^ (s.a &&& s.c) ^^^ (s.b &&& s.c))
def step (s : St) (k w : UInt32) : St :=
 ⟨first1 s k w + second1 s, s.a, s.b, s.c, s.d + first1 s k w, s.e, s.f, s.g⟩
def rounds (ws : List UInt32) (s : St) : Nat → St
 | 0 => s
 | n + 1 => step (rounds ws s n) (kList.getD n 0) (ws.getD n 0)
def plus (s t : St) : St := ⟨s.a + t.a, s.b + t.b, s.c + t.c, s.d + t.d, s.e + t.e, s.f + t.f, s.g + t.g, s.h + t.h⟩
def press (s : St) (bs : List UInt8) : St := plus s (rounds (words bs 64) s 64)
def blocks (s : St) (bs : List UInt8) : Nat → St
 | 0 => s
 | n + 1 => press (blocks s bs n) ((bs.drop (64 * n)).take 64)
def be4 (u : UInt32) : List UInt8 := [(shrw u 24).toUInt8, (shrw u 16).toUInt8, (shrw u 8).toUInt8, u.toUInt8]
def outB (s : St) : List UInt8 := be4 s.a ++ be4 s.b ++ be4 s.c ++ be4 s.d ++ be4 s.e ++ be4 s.f ++ be4 s.g ++ be4 s.h
def zeros (n : Nat) : Nat := (119 - n % 64) % 64
def len8 (n : Nat) : List UInt8 :=
 [UInt8.ofNat (8 * n / 2 ^ 56), UInt8.ofNat (8 * n / 2 ^ 48), UInt8.ofNat (8 * n / 2 ^ 40), UInt8.ofNat (8 * n / 2 ^ 32), UInt8.ofNat (8 * n / 2 ^ 24), UInt8.ofNat (8 * n / 2 ^ 16), UInt8.ofNat (8 * n / 2 ^ 8), UInt8.ofNat (8 * n)]
def lastOf (rest : List UInt8) (n : Nat) : List UInt8 := rest ++ 128 :: List.replicate (zeros n) 0 ++ len8 n
def full (bs : List UInt8) : St := blocks St.first bs (bs.length / 64)
def tail64 (bs : List UInt8) : List UInt8 := bs.drop (64 * (bs.length / 64))
def sumOf (bs : List UInt8) : List UInt8 :=
 outB (blocks (full bs) (lastOf (tail64 bs) bs.length) ((lastOf (tail64 bs) bs.length).length / 64))
theorem rounds_zero (ws : List UInt32) (s : St) : rounds ws s 0 = s := rfl
theorem rounds_next (ws : List UInt32) (s : St) (n : Nat) : rounds ws s (n + 1) = step (rounds ws s n) (kList.getD n 0) (ws.getD n 0) := rfl
theorem press_eq (s : St) (bs : List UInt8) : press s bs = plus s (rounds (words bs 64) s 64) := rfl
theorem blocks_zero (s : St) (bs : List UInt8) : blocks s bs 0 = s := rfl
theorem blocks_next (s : St) (bs : List UInt8) (n : Nat) : blocks s bs (n + 1) = press (blocks s bs n) ((bs.drop (64 * n)).take 64) := rfl
theorem full_eq (bs : List UInt8) : full bs = blocks St.first bs (bs.length / 64) := rfl
theorem sumOf_eq (bs : List UInt8) : sumOf bs = outB (blocks (full bs) (lastOf (tail64 bs) bs.length) ((lastOf (tail64 bs) bs.length).length / 64)) := rfl
theorem kList_length : kList.length = 64 := rfl
attribute [irreducible] words wd rounds press blocks full sumOf kList
end Go.Proofs.YtpfjlhpahmhkhaaGreat.Sh
/- Words of 32 bits and bytes as the model's integers. -/
namespace Go.Proofs.YtpfjlhpahmhkhaaGreat.Sh
open Go.RowKit
def wi (u : UInt32) : Int := (u.toNat : Int)
def bi (u : UInt8) : Int := (u.toNat : Int)
theorem bi_lt (u : UInt8) : 0 ≤ bi u ∧ bi u ≤ 255 := by
 unfold bi; have := u.toNat_lt; omega
theorem bi_inj {a b : UInt8} (h : bi a = bi b) : a = b := by
 unfold bi at h; exact UInt8.toNat_inj.1 (by omega)
theorem wadd (a b : UInt32) : IntKind.u32.wrap (wi a + wi b) = wi (a + b) := by
 unfold wi; rw [IntKind.wrap_u32, UInt32.toNat_add]; omega
theorem wxor (a b : UInt32) : bits .xor .u32 (wi a) (wi b) = wi (a ^^^ b) := by
 unfold wi; rw [u32_xor_nat _ _ (by have := a.toNat_lt; omega) (by have := b.toNat_lt; omega), UInt32.toNat_xor]
theorem wand (a b : UInt32) : bits .and .u32 (wi a) (wi b) = wi (a &&& b) := by
 unfold wi; rw [u32_and_nat _ _ (by have := a.toNat_lt; omega) (by have := b.toNat_lt; omega), UInt32.toNat_and]
theorem wor (a b : UInt32) : bits .or .u32 (wi a) (wi b) = wi (a ||| b) := by
 unfold wi; rw [u32_or_nat _ _ (by have := a.toNat_lt; omega) (by have := b.toNat_lt; omega), UInt32.toNat_or]
theorem toNat_ofNat32 (n : Nat) (h : n < 32) : (UInt32.ofNat n).toNat = n := by
 simp [UInt32.toNat_ofNat']; omega
theorem wshl (u : UInt32) (n : Nat) (h : n < 32) : IntKind.u32.wrap (wi u * 2 ^ n) = wi (shlw u n) := by
 unfold wi shlw
 rw [IntKind.wrap_u32, UInt32.toNat_shiftLeft, toNat_ofNat32 n h, Nat.mod_eq_of_lt h, Nat.shiftLeft_eq]
 have : ((u.toNat : Int) * 2 ^ n) = ((u.toNat * 2 ^ n : Nat) : Int) := by simp
 rw [this]
 omega
theorem wshr (u : UInt32) (n : Nat) (h : n < 32) : wi u / 2 ^ n = wi (shrw u n) := by
 unfold wi shrw
 rw [UInt32.toNat_shiftRight, toNat_ofNat32 n h, Nat.mod_eq_of_lt h, Nat.shiftRight_eq_div_pow]
 simp
theorem wnot (a : UInt32) : bits .xor .u32 IntKind.u32.max (wi a) = wi (~~~ a) := by
 unfold wi
 have hm : IntKind.u32.max = ((4294967295 : Nat) : Int) := by decide
 rw [hm, u32_xor_nat _ _ (by omega) (by have := a.toNat_lt; omega)]
 congr 1
theorem wbyte (b : UInt8) : IntKind.u32.wrap (bi b) = wi b.toUInt32 := by
 unfold bi wi; rw [IntKind.wrap_u32, UInt8.toNat_toUInt32]; have := b.toNat_lt; omega
attribute [irreducible] wi bi
theorem add_at (a : Addr) (n : Nat) (h : 0 < n) : a.add n = ⟨a.block, a.off + n, none⟩ := by
 unfold Addr.add; rw [if_neg (by omega)]
set_option maxHeartbeats 400000 in
theorem rot_any (u : UInt32) (x : Int) (n : Nat) (hn : bits BinOp.and IntKind.u64 (IntKind.u64.wrap x) 31 = (n : Int)) (h1 : 0 < n) (h2 : n < 32) (w : World) :
  Calls Tryz.prog 377 #[.int .u32 (wi u), .int .i64 x] w fun e w' => e = .returned (.int .u32 (wi (rotl u n))) ∧ w = w' := by
 have r1 : wi u * 2 ^ n % 4294967296 = wi (shlw u n) := by rw [← wshl u n h2, IntKind.wrap_u32]
 have r2 := wshr u (32 - n) (by omega)
 have e1 : IntKind.u64.wrap (32 - (n : Int)) = ((32 - n : Nat) : Int) := by rw [IntWalk.u64_in _ (by omega)]; omega
 have e2 := wor (shlw u n) (shrw u (32 - n))
 have E : Hid (rotl u n = shlw u n ||| shrw u (32 - n)) := rfl
 go_enter Tryz.func377, Tryz.ntmps377
 go_wp2
 go_ret
 exact ⟨by rw [E.out]; rfl, rfl⟩
set_option maxHeartbeats 400000 in
theorem turned_any (u : UInt32) (x y z : Int) (a b c : Nat) (hx : 0 < x ∧ x < 32) (hy : 0 < y ∧ y < 32) (hz : 0 < z ∧ z < 32)
  (ha : bits BinOp.and IntKind.u64 (IntKind.u64.wrap (-x)) 31 = (a : Int)) (hb : bits BinOp.and IntKind.u64 (IntKind.u64.wrap (-y)) 31 = (b : Int)) (hc : bits BinOp.and IntKind.u64 (IntKind.u64.wrap (-z)) 31 = (c : Int))
  (h1 : (0 < a ∧ a < 32) ∧ (0 < b ∧ b < 32) ∧ (0 < c ∧ c < 32)) (w : World) :
  Calls Tryz.prog 344 #[.int .u32 (wi u), .int .i64 x, .int .i64 y, .int .i64 z] w fun e w' => e = .returned (.int .u32 (wi (rot3 u a b c))) ∧ w = w' := by
 have e1 := wxor (rotl u a) (rotl u b)
 have e2 := wxor (rotl u a ^^^ rotl u b) (rotl u c)
 have E : Hid (rot3 u a b c = rotl u a ^^^ rotl u b ^^^ rotl u c) := rfl
 have HA := Lib.hid ha
 have HB := Lib.hid hb
 have HC := Lib.hid hc
 clear ha hb hc
 go_enter Tryz.func344, Tryz.ntmps344
 go_wp2_with fail
 refine (rot_any u _ a HA.out h1.1.1 h1.1.2 _).mono ?_
 rintro e w' ⟨rfl, rfl⟩
 go_wp2_with fail
 refine (rot_any u _ b HB.out h1.2.1.1 h1.2.1.2 _).mono ?_
 rintro e w' ⟨rfl, rfl⟩
 go_wp2_with fail
 refine (rot_any u _ c HC.out h1.2.2.1 h1.2.2.2 _).mono ?_
 rintro e w' ⟨rfl, rfl⟩
 go_wp2_with fail
 go_ret
 exact ⟨by rw [E.out]; rfl, rfl⟩
set_option maxHeartbeats 400000 in
theorem shifted_any (u : UInt32) (x y z : Int) (a b c : Nat) (hx : 0 < x ∧ x < 32) (hy : 0 < y ∧ y < 32) (hz : z = (c : Int))
  (ha : bits BinOp.and IntKind.u64 (IntKind.u64.wrap (-x)) 31 = (a : Int)) (hb : bits BinOp.and IntKind.u64 (IntKind.u64.wrap (-y)) 31 = (b : Int))
  (h1 : (0 < a ∧ a < 32) ∧ (0 < b ∧ b < 32) ∧ (0 < c ∧ c < 32)) (w : World) :
  Calls Tryz.prog 376 #[.int .u32 (wi u), .int .i64 x, .int .i64 y, .int .i64 z] w fun e w' => e = .returned (.int .u32 (wi (rots u a b c))) ∧ ∃ k, w' = w.drewN k := by
 subst hz
 have e1 := wxor (rotl u a) (rotl u b)
 have e2 := wxor (rotl u a ^^^ rotl u b) (shrw u c)
 have r2 := wshr u c h1.2.2.2
 have E : Hid (rots u a b c = rotl u a ^^^ rotl u b ^^^ (shrw u c)) := rfl
 have HA := Lib.hid ha
 have HB := Lib.hid hb
 clear ha hb
 go_enter Tryz.func376, Tryz.ntmps376
 go_wp2_with fail
 go_quiet (first | (go_at_call_of 377 (Value.int .i64 (-x)); exact Calls.quiet_of_same ((rot_any u _ a HA.out h1.1.1 h1.1.2 _).mono fun _ _ h => ⟨h.1, h.2.symm⟩)) | (go_at_call 377; exact Calls.quiet_of_same ((rot_any u _ b HB.out h1.2.1.1 h1.2.1.2 _).mono fun _ _ h => ⟨h.1, h.2.symm⟩)))
 go_wp2_with fail
 go_ret
 exact ⟨by rw [E.out]; rfl, _, rfl⟩
end Go.Proofs.YtpfjlhpahmhkhaaGreat.Sh
/- The schedule of a block's words. -/
namespace Go.Proofs.YtpfjlhpahmhkhaaGreat.Sh
open Go.RowKit
def wv (u : UInt32) : Value := .int .u32 (wi u)
def bv (u : UInt8) : Value := .int .u8 (bi u)
def Sch (bs : List UInt8) (w : World) (g n : Nat) : Prop :=
 ∃ cs, Blk w g 388 cs ∧ cs.size = 64 ∧ (∀ j, j < n → cs[j]? = some (wv (wd bs j))) ∧ ∀ j, j < 64 → ∃ u, cs[j]? = some (.int .u32 u)
theorem sch_set {bs : List UInt8} {w : World} {g k : Nat} {cs : Array Value} (h : Blk w g 388 cs) (hz : cs.size = 64) (hd : ∀ j, j < k → cs[j]? = some (wv (wd bs j)))
  (hi : ∀ j, j < 64 → ∃ u, cs[j]? = some (.int .u32 u)) (hk : k < 64) (u : UInt32) (hu : u = wd bs k) : Sch bs ((w.setCell ⟨g, k, none⟩ (.int .u32 (wi u))).drew) g (k + 1) := by
 rw [hu]
 have hb : Blk ((w.setCell ⟨g, k, none⟩ (.int .u32 (wi (wd bs k)))).drew) g 388 (cs.setIfInBounds k (.int .u32 (wi (wd bs k)))) := Blk.drew (h.set_ k _)
 have hget : ∀ j, (cs.setIfInBounds k (.int .u32 (wi (wd bs k))))[j]? = if k = j then some (wv (wd bs k)) else cs[j]? := by
  intro j
  rw [Array.getElem?_setIfInBounds]
  by_cases e : k = j
  ·subst e; rw [if_pos rfl, if_pos (by omega), if_pos rfl]; rfl
  ·rw [if_neg e, if_neg e]
 unfold Sch
 refine Exists.intro _ (And.intro hb (And.intro ?_ (And.intro ?_ ?_)))
 ·rw [Array.size_setIfInBounds]; exact hz
 ·intro j hj
  rw [hget]
  by_cases e : k = j
  ·subst e; rw [if_pos rfl]
  ·rw [if_neg e]; exact hd j (by omega)
 ·intro j hj
  rw [hget]
  by_cases e : k = j
  ·subst e; rw [if_pos rfl]; exact ⟨_, rfl⟩
  ·rw [if_neg e]; exact hi j hj
theorem sch_set' {bs : List UInt8} {w : World} {g k : Nat} {cs : Array Value} (h : Blk w g 388 cs) (hz : cs.size = 64) (hd : ∀ j, j < k → cs[j]? = some (wv (wd bs j)))
  (hi : ∀ j, j < 64 → ∃ u, cs[j]? = some (.int .u32 u)) (hk : k < 64) (u : UInt32) (hu : u = wd bs k) (n : Nat) : Sch bs ((w.drewN n).setCell ⟨g, k, none⟩ (.int .u32 (wi u))) g (k + 1) :=
 sch_set (w := w.drewN n) (h.drewN n) hz hd hi hk u hu
def isWord : Value → Bool
 | .int .u32 _ => true
 | _ => false
theorem isWord_of {v : Value} (h : isWord v = true) : ∃ u, v = .int .u32 u := by
 unfold isWord at h
 split at h
 ·exact ⟨_, rfl⟩
 ·cases h
theorem sch_zero {bs : List UInt8} {w : World} {g : Nat} (cs : Array Value) (h : Blk w g 388 cs) (hz : cs.size = 64) (ha : cs.toList.all isWord = true) : Sch bs w g 0 := by
 unfold Sch
 refine Exists.intro cs (And.intro h (And.intro hz (And.intro (fun j hj => by omega) (fun j hj => ?_))))
 have hm : cs[j]? = some cs[j] := Array.getElem?_eq_getElem (by omega)
 have := List.all_eq_true.1 ha cs[j] (by simp)
 obtain ⟨u, hu⟩ := isWord_of this
 exact ⟨u, by rw [hm, hu]⟩
theorem words_size (bs : List UInt8) : ((words bs 64).map wv).toArray.size = 64 := by simp [words_length]
theorem words_one (bs : List UInt8) : ((words bs 64).map wv).toArray.all (·.oneCell') = true := by
 rw [Array.all_eq_true_iff_forall_mem]
 intro v hv
 simp only [List.mem_toArray, List.mem_map] at hv
 obtain ⟨u, _, rfl⟩ := hv
 rfl
theorem info64 : (Tryz.prog.info? 388).map (·.size) = some 64 := by kernel_rfl
theorem size64 (bs : List UInt8) : (Tryz.prog.info? 388).map (·.size) = some ((words bs 64).map wv).toArray.size := by rw [words_size]; exact info64
theorem sch_all {bs : List UInt8} {w : World} {g : Nat} (h : Sch bs w g 64) : Blk w g 388 ((words bs 64).map wv).toArray := by
 unfold Sch at h
 obtain ⟨cs, hb, hz, hd, _⟩ := h
 have hl := words_length bs 64
 have : cs = ((words bs 64).map wv).toArray := by
  apply Array.ext
  ·simp [hz, hl]
  ·intro j h1 h2
   have h3 := hd j (by omega)
   rw [Array.getElem?_eq_getElem h1] at h3
   injection h3 with h3
   rw [h3, wd_def]
   simp [List.getD_eq_getElem?_getD, hl, show j < 64 by omega]
 rw [← this]; exact hb
theorem keep1 {w : World} {g i k n : Nat} {x y : Value} (hne : i ≠ k) (h : w.cell? ⟨g, i, none⟩ = some x) : ((w.drewN n).setCell ⟨g, k, none⟩ y).cell? ⟨g, i, none⟩ = some x := by
 rw [World.cell?_setCell_other _ _ _ _ (by intro e; injection e with _ e2; exact hne e2.symm)]
 exact h
theorem keep4 (w : World) (g i1 i2 i3 i4 k n : Nat) (x1 x2 x3 x4 : Value) (y : Value) (n1 : i1 ≠ k) (n2 : i2 ≠ k) (n3 : i3 ≠ k) (n4 : i4 ≠ k)
  (h1 : w.cell? ⟨g, i1, none⟩ = some x1) (h2 : w.cell? ⟨g, i2, none⟩ = some x2) (h3 : w.cell? ⟨g, i3, none⟩ = some x3) (h4 : w.cell? ⟨g, i4, none⟩ = some x4) :
  ((w.drewN n).setCell ⟨g, k, none⟩ y).cell? ⟨g, i1, none⟩ = some x1 ∧ ((w.drewN n).setCell ⟨g, k, none⟩ y).cell? ⟨g, i2, none⟩ = some x2 ∧ ((w.drewN n).setCell ⟨g, k, none⟩ y).cell? ⟨g, i3, none⟩ = some x3 ∧ ((w.drewN n).setCell ⟨g, k, none⟩ y).cell? ⟨g, i4, none⟩ = some x4 :=
 ⟨keep1 n1 h1, keep1 n2 h2, keep1 n3 h3, keep1 n4 h4⟩
set_option maxRecDepth 100000 in
set_option maxHeartbeats 800000 in
theorem sched_any (ad : Addr) (cap : Nat) (bs : List UInt8) (w : World) (hcap : 64 ≤ cap) (hcap2 : cap ≤ maxLen) (hb : ad.block < w.heap.size)
  (hc : ∀ k, k < 64 → w.cell? (ad.add k) = some (.int .u8 (bi (bs.getD k 0)))) :
  Calls Tryz.prog 343 #[.slice (some ad) 64 cap] w fun e w' => e = .returned (.agg ((words bs 64).map wv).toArray) ∧ Below w.heap.size w w' := by
 unfold maxLen at hcap2
 go_enter Tryz.func343, Tryz.ntmps343
 go_wp2
 go_loopw [7] (fun i wr => ∃ k : Nat, k ≤ 16 ∧ i = .int .i64 k ∧ Sch bs wr (w.heap.size + 1) k ∧ (∃ cs, Blk wr w.heap.size 388 cs ∧ cs.size = 64) ∧ Below w.heap.size w wr) (fun i _ => 16 - (intOf i).toNat)
 case atStart =>
  refine ⟨0, by omega, rfl, ?_, ?_, ((Below.refl _ _).alloc (Nat.le_refl _) _).alloc (by simp) _⟩
  ·refine sch_zero _ (heap_alloc2_new _ _ _) rfl rfl
  ·exact ⟨_, heap_alloc2_old _ _ _, rfl⟩
 case round =>
  obtain ⟨k, hk, rfl, hs, ho, hbl⟩ := hrel
  by_cases hlt : k < 16
  ·have hcw : ∀ i, i < 64 → wr.cell? (ad.add i) = some (.int .u8 (bi (bs.getD i 0))) := fun i hi => (hbl.cell (p := ad.add i) (by rw [block_of_add]; exact hb)).trans (hc i hi)
   have c0 : wr.cell? (ad.add (4 * k)) = some (.int .u8 (bi (bs.getD (4 * k) 0))) := hcw _ (by omega)
   have c1 : wr.cell? ⟨(ad.add (4 * k)).block, (ad.add (4 * k)).off + 1, none⟩ = some (.int .u8 (bi (bs.getD (4 * k + 1) 0))) := by rw [← add_at _ 1 (by omega), add_of_add]; exact hcw _ (by omega)
   have c2 : wr.cell? ⟨(ad.add (4 * k)).block, (ad.add (4 * k)).off + 2, none⟩ = some (.int .u8 (bi (bs.getD (4 * k + 2) 0))) := by rw [← add_at _ 2 (by omega), add_of_add]; exact hcw _ (by omega)
   have c3 : wr.cell? ⟨(ad.add (4 * k)).block, (ad.add (4 * k)).off + 3, none⟩ = some (.int .u8 (bi (bs.getD (4 * k + 3) 0))) := by rw [← add_at _ 3 (by omega), add_of_add]; exact hcw _ (by omega)
   have hL : 4 * k + 4 - 4 * k = 4 := by omega
   generalize hb0 : bs.getD (4 * k) 0 = b0 at c0
   generalize hb1 : bs.getD (4 * k + 1) 0 = b1 at c1
   generalize hb2 : bs.getD (4 * k + 2) 0 = b2 at c2
   generalize hb3 : bs.getD (4 * k + 3) 0 = b3 at c3
   have H0 := Lib.hid hb0
   have H1 := Lib.hid hb1
   have H2 := Lib.hid hb2
   have H3 := Lib.hid hb3
   clear hb0 hb1 hb2 hb3 hcw
   go_wp2
   have x0 := wbyte b0
   have x1 := wbyte b1
   have x2 := wbyte b2
   have x3 := wbyte b3
   have s0 : IntKind.u32.wrap (wi b0.toUInt32 * 16777216) = wi (shlw b0.toUInt32 24) := wshl b0.toUInt32 24 (by omega)
   have s1 : IntKind.u32.wrap (wi b1.toUInt32 * 65536) = wi (shlw b1.toUInt32 16) := wshl b1.toUInt32 16 (by omega)
   have s2 : IntKind.u32.wrap (wi b2.toUInt32 * 256) = wi (shlw b2.toUInt32 8) := wshl b2.toUInt32 8 (by omega)
   have o1 := wor (shlw b0.toUInt32 24) (shlw b1.toUInt32 16)
   have o2 := wor (shlw b0.toUInt32 24 ||| shlw b1.toUInt32 16) (shlw b2.toUInt32 8)
   have o3 := wor (shlw b0.toUInt32 24 ||| shlw b1.toUInt32 16 ||| shlw b2.toUInt32 8) b3.toUInt32
   have hsum : Hid (shlw b0.toUInt32 24 ||| shlw b1.toUInt32 16 ||| shlw b2.toUInt32 8 ||| b3.toUInt32 = wd bs k) := by
    unfold Hid; rw [wd_lo bs k hlt]; unfold wordAt; rw [H0.out, H1.out, H2.out, H3.out]
   obtain ⟨cs, hcs, hsz, hdone, hint⟩ := hs
   obtain ⟨u0, hu0⟩ := hint k (by omega)
   have hcell : wr.cell? ⟨w.heap.size + 1, k, none⟩ = some (.int .u32 u0) := by rw [hcs.cell]; exact hu0
   have hfro : wr.frozen? ⟨w.heap.size + 1, k, none⟩ = false := hcs.frozen k
   have HD := Lib.hid hdone
   have HI := Lib.hid hint
   have HZ := Lib.hid hsz
   clear hdone hint hu0 hsz
   have hk1 : (k : Int) < 64 := by omega
   have hk2 : 0 ≤ (k : Int) := by omega
   go_still_tail 24, (by kernel_rfl)
   clear s0 s1 s2 o1 o2 o3 x0 x1 x2 x3
   change wpList _ _ _ _ _ wr.drew
   go_wp2
   go_roundw
   case rel =>
    exact ⟨k + 1, by omega, by go_num, sch_set hcs HZ.out HD.out HI.out (by omega) _ hsum.out, (by obtain ⟨cs', h1, h2⟩ := ho; exact ⟨cs', (h1.far (by simp) _).drew, h2⟩), (hbl.setCell (by simp) _).drew⟩
   case measure => simp [intOf]; omega
  ·have hs16 : Sch bs wr (w.heap.size + 1) 16 := by rw [show 16 = k from by omega]; exact hs
   clear hs
   obtain ⟨k0, rfl⟩ : ∃ k0 : Nat, k0 = k := ⟨_, rfl⟩
   go_wp2
   obtain ⟨wo, rfl⟩ : ∃ wo : World, wo = wr := ⟨_, rfl⟩
   go_loopw [6] (fun i wr => ∃ k : Nat, 16 ≤ k ∧ k ≤ 64 ∧ i = .int .i64 k ∧ Sch bs wr (w.heap.size + 1) k ∧ (∃ cs, Blk wr w.heap.size 388 cs ∧ cs.size = 64) ∧ Below w.heap.size w wr) (fun i _ => 64 - (intOf i).toNat)
   case atStart =>
    exact ⟨16, by omega, by omega, rfl, hs16, ho, hbl⟩
   case round =>
    obtain ⟨k, hk16, hk64, rfl, hs, ho, hbl⟩ := hrel
    by_cases hlt : k < 64
    ·obtain ⟨cs, hcs, hsz, hdone, hint⟩ := hs
     obtain ⟨u0, hu0⟩ := hint k (by omega)
     have hcell : wr.cell? ⟨w.heap.size + 1, k, none⟩ = some (.int .u32 u0) := by rw [hcs.cell]; exact hu0
     have hfro : wr.frozen? ⟨w.heap.size + 1, k, none⟩ = false := hcs.frozen k
     have c16 : wr.cell? ⟨w.heap.size + 1, k - 16, none⟩ = some (.int .u32 (wi (wd bs (k - 16)))) := by rw [hcs.cell]; exact hdone _ (by omega)
     have c7 : wr.cell? ⟨w.heap.size + 1, k - 7, none⟩ = some (.int .u32 (wi (wd bs (k - 7)))) := by rw [hcs.cell]; exact hdone _ (by omega)
     have c15 : wr.cell? ⟨w.heap.size + 1, k - 15, none⟩ = some (.int .u32 (wi (wd bs (k - 15)))) := by rw [hcs.cell]; exact hdone _ (by omega)
     have c2 : wr.cell? ⟨w.heap.size + 1, k - 2, none⟩ = some (.int .u32 (wi (wd bs (k - 2)))) := by rw [hcs.cell]; exact hdone _ (by omega)
     have hlast := Lib.hid (wd_hi bs k hk16 hlt)
     generalize wd bs (k - 16) = u16 at *
     generalize wd bs (k - 7) = u7 at *
     generalize wd bs (k - 15) = u15 at *
     generalize wd bs (k - 2) = u2 at *
     have HD := Lib.hid hdone
     have HI := Lib.hid hint
     have HZ := Lib.hid hsz
     clear hdone hint hu0 hsz
     have hi1 : (k : Int) < 64 := by omega
     have hi2 : (k : Int) - 16 < 64 := by omega
     have hi3 : (k : Int) - 7 < 64 := by omega
     have hi4 : (k : Int) - 15 < 64 := by omega
     have hi5 : (k : Int) - 2 < 64 := by omega
     have hj1 : (0 : Int) ≤ k := by omega
     have hj2 : 0 ≤ (k : Int) - 16 := by omega
     have hj3 : 0 ≤ (k : Int) - 7 := by omega
     have hj4 : 0 ≤ (k : Int) - 15 := by omega
     have hj5 : 0 ≤ (k : Int) - 2 := by omega
     have ne1 : k - 16 ≠ k := by omega
     have ne2 : k - 7 ≠ k := by omega
     have ne3 : k - 15 ≠ k := by omega
     have ne4 : k - 2 ≠ k := by omega
     go_wp2
     have e1 : IntKind.i64.wrap ((k : Int) - 16) = (k : Int) - 16 := IntWalk.i64_in _ (by omega)
     have e2 : IntKind.i64.wrap ((k : Int) - 7) = (k : Int) - 7 := IntWalk.i64_in _ (by omega)
     have e3 : IntKind.i64.wrap ((k : Int) - 15) = (k : Int) - 15 := IntWalk.i64_in _ (by omega)
     have e4 : IntKind.i64.wrap ((k : Int) - 2) = (k : Int) - 2 := IntWalk.i64_in _ (by omega)
     have q1 : (16 : Int) ≤ k := by omega
     have q2 : (7 : Int) ≤ k := by omega
     have q3 : (15 : Int) ≤ k := by omega
     have q4 : (2 : Int) ≤ k := by omega
     have q5 : (k : Int) < 80 := by omega
     have q6 : (k : Int) < 71 := by omega
     have q7 : (k : Int) < 79 := by omega
     have q8 : (k : Int) < 66 := by omega
     have f1 : ((k : Int) - 16).toNat = k - 16 := by omega
     have f2 : ((k : Int) - 7).toNat = k - 7 := by omega
     have f3 : ((k : Int) - 15).toNat = k - 15 := by omega
     have f4 : ((k : Int) - 2).toNat = k - 2 := by omega
     have a1 := wadd u16 u7
     have a2 := wadd (u16 + u7) (rots u15 25 14 3)
     have a3 := wadd (u16 + u7 + rots u15 25 14 3) (rots u2 15 13 10)
     go_region_held3 (fun w' => w'.cell? ⟨w.heap.size + 1, k - 16, none⟩ = some (.int .u32 (wi u16)) ∧ w'.cell? ⟨w.heap.size + 1, k - 7, none⟩ = some (.int .u32 (wi u7)) ∧ w'.cell? ⟨w.heap.size + 1, k - 15, none⟩ = some (.int .u32 (wi u15)) ∧ w'.cell? ⟨w.heap.size + 1, k - 2, none⟩ = some (.int .u32 (wi u2))) (first | go_keep | exact keep4 _ _ _ _ _ _ _ _ _ _ _ _ _ (by omega) (by omega) (by omega) (by omega) c16 c7 c15 c2)
      (first
       | (go_at_call_of 376 (Value.int .i64 18); refine (shifted_any u15 7 18 3 25 14 3 (by omega) (by omega) rfl (by rfl) (by rfl) (by omega) _).mono ?_; rintro e w' ⟨rfl, nq, rfl⟩)
       | (go_at_call_of 376 (Value.int .i64 19); refine (shifted_any u2 17 19 10 15 13 10 (by omega) (by omega) rfl (by rfl) (by rfl) (by omega) _).mono ?_; rintro e w' ⟨rfl, nq, rfl⟩))
     go_wp2
     go_roundw
     case rel =>
      exact ⟨k + 1, by omega, by omega, by go_num, sch_set' hcs HZ.out HD.out HI.out hlt _ hlast.out.symm _, (by obtain ⟨cs', h1, h2⟩ := ho; exact ⟨cs', (h1.drewN _).far (by simp) _, h2⟩), (below_drewN hbl _).setCell (by simp) _⟩
     case measure => simp [intOf]; omega
    ·obtain rfl : k = 64 := by omega
     have hB := sch_all hs
     obtain ⟨co, ho1, ho2⟩ := ho
     have HO := Lib.hid ho2
     clear ho2
     go_wp2_with (first
      | (refine wpList_load_row rfl 388 (.tmp 3) rfl (w.heap.size + 1) rfl 388 _ (0, 0) _ hB Tryz.underlying388 rfl (size64 bs) ?_)
      | (refine wpList_store_row rfl 388 (.tmp 2) (.tmp 69) rfl w.heap.size _ rfl rfl 388 co ho1 (size64 bs) (by rw [words_size]; exact HO.out) (words_one bs) ?_))
     exact bodyPost_ret (results_cell_row rfl _ _ w.heap.size 388 _ (0, 0) _ rfl (Blk.row ho1 _) Tryz.underlying388 rfl (size64 bs)) rfl ⟨rfl, below_setRow hbl (Nat.le_refl _) _⟩
end Go.Proofs.YtpfjlhpahmhkhaaGreat.Sh
