/- Texts put together: YShP0, YShW0, YShW1, YShW2, YShH0, YShW3, YShW4, YShW5, YShW6, YShW7, YShW8, YShH1, YShW9, YShW10, YShW11. -/
import Derived.Test.YteffiedolcjjlaaRows
import Derived.Test.YteffiedolcjjlaaQa01
import Derived.WalkKit
import Derived.ProofKit
import Derived.OpenShut
import Derived.BigQuiet
import Derived.Deep.QuietTactic
import Derived.Lib.Hide
import Derived.Deep.RegionWith
import Derived.StillTailTactics
import Derived.Deep.DeepFit
import Derived.Deep.WholeRow
import Derived.Deep.MidRow
import Derived.Deep.AppendLies
import Derived.Deep.Draws
import Derived.Maps.AppendAt
import Derived.Deep.RegionHeld3
import Derived.Deep.OwnRows
import Derived.Lib.SlBytesConst
import Derived.Defers
import Derived.Laws.Pointers
import Derived.Laws.LoneSync
import Derived.RegionTactic
import Derived.RegionCalls
import Derived.ChangeAlike
import Derived.Laws.CopyOwn
/- SHA-256 over plain lists. -/
namespace Go.Proofs.Yteffiedolcjjlaa.Sh

def shlw (u : UInt32) (n : Nat) : UInt32 := u <<< UInt32.ofNat n
def shrw (u : UInt32) (n : Nat) : UInt32 := u >>> UInt32.ofNat n
def rotl (u : UInt32) (n : Nat) : UInt32 := shlw u n ||| shrw u (32 - n)
def rot3 (u : UInt32) (a b c : Nat) : UInt32 := rotl u a ^^^ rotl u b ^^^ rotl u c
def rots (u : UInt32) (a b c : Nat) : UInt32 := rotl u a ^^^ rotl u b ^^^ shrw u c

def kList : List UInt32 := [
  0x428a2f98, 0x71374491, 0xb5c0fbcf, 0xe9b5dba5, 0x3956c25b, 0x59f111f1, 0x923f82a4, 0xab1c5ed5,
  0xd807aa98, 0x12835b01, 0x243185be, 0x550c7dc3, 0x72be5d74, 0x80deb1fe, 0x9bdc06a7, 0xc19bf174,
  0xe49b69c1, 0xefbe4786, 0x0fc19dc6, 0x240ca1cc, 0x2de92c6f, 0x4a7484aa, 0x5cb0a9dc, 0x76f988da,
  0x983e5152, 0xa831c66d, 0xb00327c8, 0xbf597fc7, 0xc6e00bf3, 0xd5a79147, 0x06ca6351, 0x14292967,
  0x27b70a85, 0x2e1b2138, 0x4d2c6dfc, 0x53380d13, 0x650a7354, 0x766a0abb, 0x81c2c92e, 0x92722c85,
  0xa2bfe8a1, 0xa81a664b, 0xc24b8b70, 0xc76c51a3, 0xd192e819, 0xd6990624, 0xf40e3585, 0x106aa070,
  0x19a4c116, 0x1e376c08, 0x2748774c, 0x34b0bcb5, 0x391c0cb3, 0x4ed8aa4a, 0x5b9cca4f, 0x682e6ff3,
  0x748f82ee, 0x78a5636f, 0x84c87814, 0x8cc70208, 0x90befffa, 0xa4506ceb, 0xbef9a3f7, 0xc67178f2]

/-- The state: eight words. -/
structure St where
  a : UInt32
  b : UInt32
  c : UInt32
  d : UInt32
  e : UInt32
  f : UInt32
  g : UInt32
  h : UInt32
deriving DecidableEq

def St.first : St := ⟨0x6a09e667, 0xbb67ae85, 0x3c6ef372, 0xa54ff53a, 0x510e527f, 0x9b05688c, 0x1f83d9ab, 0x5be0cd19⟩
def St.list (s : St) : List UInt32 := [s.a, s.b, s.c, s.d, s.e, s.f, s.g, s.h]

/-- Word i of a block, i below 16. -/
def wordAt (bs : List UInt8) (i : Nat) : UInt32 :=
  shlw (bs.getD (4 * i) 0).toUInt32 24 ||| shlw (bs.getD (4 * i + 1) 0).toUInt32 16 ||| shlw (bs.getD (4 * i + 2) 0).toUInt32 8 ||| (bs.getD (4 * i + 3) 0).toUInt32

/-- The next word behind the words p. -/
def nextWord (p : List UInt32) (n : Nat) : UInt32 :=
  p.getD (n - 16) 0 + p.getD (n - 7) 0 + rots (p.getD (n - 15) 0) 25 14 3 + rots (p.getD (n - 2) 0) 15 13 10

/-- The first n words. -/
def words (bs : List UInt8) : Nat → List UInt32
  | 0 => []
  | n + 1 => words bs n ++ [if n < 16 then wordAt bs n else nextWord (words bs n) n]

theorem words_length (bs : List UInt8) (n : Nat) : (words bs n).length = n := by
  induction n with
  | zero => rfl
  | succ n ih => simp [words, ih]

theorem words_getD (bs : List UInt8) (n m j : Nat) (h : j < n) (hm : n ≤ m) : (words bs m).getD j 0 = (words bs n).getD j 0 := by
  induction m with
  | zero => omega
  | succ m ih =>
    by_cases e : n = m + 1
    · rw [e]
    · rw [← ih (by omega)]
      simp only [words, List.getD_eq_getElem?_getD]
      rw [List.getElem?_append_left (by rw [words_length]; omega)]
/-- Word j of a block. -/
def wd (bs : List UInt8) (j : Nat) : UInt32 := (words bs 64).getD j 0
theorem wd_def (bs : List UInt8) (j : Nat) : wd bs j = (words bs 64).getD j 0 := rfl
theorem wd_last (bs : List UInt8) (n : Nat) (h : n < 64) : wd bs n = if n < 16 then wordAt bs n else nextWord (words bs n) n := by
  unfold wd
  rw [words_getD bs (n + 1) 64 n (by omega) (by omega)]
  have hl := words_length bs n
  simp only [words, List.getD_eq_getElem?_getD]
  rw [List.getElem?_append_right (by omega), hl]
  simp
theorem wd_lo (bs : List UInt8) (n : Nat) (h : n < 16) : wd bs n = wordAt bs n := by
  rw [wd_last bs n (by omega), if_pos h]
theorem wd_hi (bs : List UInt8) (n : Nat) (h : 16 ≤ n) (h2 : n < 64) :
    wd bs n = wd bs (n - 16) + wd bs (n - 7) + rots (wd bs (n - 15)) 25 14 3 + rots (wd bs (n - 2)) 15 13 10 := by
  rw [wd_last bs n h2, if_neg (by omega)]
  unfold nextWord wd
  rw [words_getD bs n 64 (n - 16) (by omega) (by omega), words_getD bs n 64 (n - 7) (by omega) (by omega), words_getD bs n 64 (n - 15) (by omega) (by omega), words_getD bs n 64 (n - 2) (by omega) (by omega)]

def first1 (s : St) (k w : UInt32) : UInt32 :=
  s.h + rot3 s.e 26 21 7 + ((s.e &&& s.f) ^^^ (~~~ s.e &&& s.g)) + k + w
def second1 (s : St) : UInt32 :=
  rot3 s.a 30 19 10 + ((s.a &&& s.b) ^^^ (s.a &&& s.c) ^^^ (s.b &&& s.c))
def step (s : St) (k w : UInt32) : St :=
  ⟨first1 s k w + second1 s, s.a, s.b, s.c, s.d + first1 s k w, s.e, s.f, s.g⟩
def rounds (ws : List UInt32) (s : St) : Nat → St
  | 0 => s
  | n + 1 => step (rounds ws s n) (kList.getD n 0) (ws.getD n 0)
def plus (s t : St) : St := ⟨s.a + t.a, s.b + t.b, s.c + t.c, s.d + t.d, s.e + t.e, s.f + t.f, s.g + t.g, s.h + t.h⟩
/-- One block. -/
def press (s : St) (bs : List UInt8) : St := plus s (rounds (words bs 64) s 64)
/-- The first n blocks of bs. -/
def blocks (s : St) (bs : List UInt8) : Nat → St
  | 0 => s
  | n + 1 => press (blocks s bs n) ((bs.drop (64 * n)).take 64)

def be4 (u : UInt32) : List UInt8 := [(shrw u 24).toUInt8, (shrw u 16).toUInt8, (shrw u 8).toUInt8, u.toUInt8]
def outB (s : St) : List UInt8 := be4 s.a ++ be4 s.b ++ be4 s.c ++ be4 s.d ++ be4 s.e ++ be4 s.f ++ be4 s.g ++ be4 s.h
/-- How many zeros stand behind the mark. -/
def zeros (n : Nat) : Nat := (119 - n % 64) % 64
def len8 (n : Nat) : List UInt8 :=
  [UInt8.ofNat (8 * n / 2 ^ 56), UInt8.ofNat (8 * n / 2 ^ 48), UInt8.ofNat (8 * n / 2 ^ 40), UInt8.ofNat (8 * n / 2 ^ 32), UInt8.ofNat (8 * n / 2 ^ 24), UInt8.ofNat (8 * n / 2 ^ 16), UInt8.ofNat (8 * n / 2 ^ 8), UInt8.ofNat (8 * n)]
/-- What is folded in behind the full blocks: rest: the bytes that fill none; n: of all. -/
def lastOf (rest : List UInt8) (n : Nat) : List UInt8 := rest ++ 128 :: List.replicate (zeros n) 0 ++ len8 n
def full (bs : List UInt8) : St := blocks St.first bs (bs.length / 64)
def tail64 (bs : List UInt8) : List UInt8 := bs.drop (64 * (bs.length / 64))
def sumOf (bs : List UInt8) : List UInt8 :=
  outB (blocks (full bs) (lastOf (tail64 bs) bs.length) ((lastOf (tail64 bs) bs.length).length / 64))

theorem rounds_zero (ws : List UInt32) (s : St) : rounds ws s 0 = s := rfl
theorem rounds_next (ws : List UInt32) (s : St) (n : Nat) : rounds ws s (n + 1) = step (rounds ws s n) (kList.getD n 0) (ws.getD n 0) := rfl
theorem press_eq (s : St) (bs : List UInt8) : press s bs = plus s (rounds (words bs 64) s 64) := rfl
theorem blocks_zero (s : St) (bs : List UInt8) : blocks s bs 0 = s := rfl
theorem blocks_next (s : St) (bs : List UInt8) (n : Nat) : blocks s bs (n + 1) = press (blocks s bs n) ((bs.drop (64 * n)).take 64) := rfl
theorem full_eq (bs : List UInt8) : full bs = blocks St.first bs (bs.length / 64) := rfl
theorem sumOf_eq (bs : List UInt8) : sumOf bs = outB (blocks (full bs) (lastOf (tail64 bs) bs.length) ((lastOf (tail64 bs) bs.length).length / 64)) := rfl
theorem kList_length : kList.length = 64 := rfl
attribute [irreducible] words wd rounds press blocks full sumOf kList
end Go.Proofs.Yteffiedolcjjlaa.Sh
/- Words of 32 bits and bytes as the model's integers. -/
namespace Go.Proofs.Yteffiedolcjjlaa.Sh
open Go.RowKit

/-- A word's number. -/
def wi (u : UInt32) : Int := (u.toNat : Int)
/-- A byte's number. -/
def bi (u : UInt8) : Int := (u.toNat : Int)
theorem bi_lt (u : UInt8) : 0 ≤ bi u ∧ bi u ≤ 255 := by
  unfold bi; have := u.toNat_lt; omega
theorem bi_inj {a b : UInt8} (h : bi a = bi b) : a = b := by
  unfold bi at h; exact UInt8.toNat_inj.1 (by omega)
theorem wadd (a b : UInt32) : IntKind.u32.wrap (wi a + wi b) = wi (a + b) := by
  unfold wi; rw [IntKind.wrap_u32, UInt32.toNat_add]; omega
theorem wxor (a b : UInt32) : bits .xor .u32 (wi a) (wi b) = wi (a ^^^ b) := by
  unfold wi; rw [u32_xor_nat _ _ (by have := a.toNat_lt; omega) (by have := b.toNat_lt; omega), UInt32.toNat_xor]
theorem wand (a b : UInt32) : bits .and .u32 (wi a) (wi b) = wi (a &&& b) := by
  unfold wi; rw [u32_and_nat _ _ (by have := a.toNat_lt; omega) (by have := b.toNat_lt; omega), UInt32.toNat_and]
theorem wor (a b : UInt32) : bits .or .u32 (wi a) (wi b) = wi (a ||| b) := by
  unfold wi; rw [u32_or_nat _ _ (by have := a.toNat_lt; omega) (by have := b.toNat_lt; omega), UInt32.toNat_or]


theorem toNat_ofNat32 (n : Nat) (h : n < 32) : (UInt32.ofNat n).toNat = n := by
  simp [UInt32.toNat_ofNat']; omega
theorem wshl (u : UInt32) (n : Nat) (h : n < 32) : IntKind.u32.wrap (wi u * 2 ^ n) = wi (shlw u n) := by
  unfold wi shlw
  rw [IntKind.wrap_u32, UInt32.toNat_shiftLeft, toNat_ofNat32 n h, Nat.mod_eq_of_lt h, Nat.shiftLeft_eq]
  have : ((u.toNat : Int) * 2 ^ n) = ((u.toNat * 2 ^ n : Nat) : Int) := by simp
  rw [this]
  omega
theorem wshr (u : UInt32) (n : Nat) (h : n < 32) : wi u / 2 ^ n = wi (shrw u n) := by
  unfold wi shrw
  rw [UInt32.toNat_shiftRight, toNat_ofNat32 n h, Nat.mod_eq_of_lt h, Nat.shiftRight_eq_div_pow]
  simp

theorem wnot (a : UInt32) : bits .xor .u32 IntKind.u32.max (wi a) = wi (~~~ a) := by
  unfold wi
  have hm : IntKind.u32.max = ((4294967295 : Nat) : Int) := by decide
  rw [hm, u32_xor_nat _ _ (by omega) (by have := a.toNat_lt; omega)]
  congr 1
theorem wbyte (b : UInt8) : IntKind.u32.wrap (bi b) = wi b.toUInt32 := by
  unfold bi wi; rw [IntKind.wrap_u32, UInt8.toNat_toUInt32]; have := b.toNat_lt; omega
attribute [irreducible] wi bi
end Go.Proofs.Yteffiedolcjjlaa.Sh
/- The schedule of a block's words. -/
namespace Go.Proofs.Yteffiedolcjjlaa.Sh
open Go.RowKit

def wv (u : UInt32) : Value := .int .u32 (wi u)
def bv (u : UInt8) : Value := .int .u8 (bi u)

def isWord : Value → Bool
  | .int .u32 _ => true
  | _ => false
theorem keep1 {w : World} {g i k n : Nat} {x y : Value} (hne : i ≠ k) (h : w.cell? ⟨g, i, none⟩ = some x) : ((w.drewN n).setCell ⟨g, k, none⟩ y).cell? ⟨g, i, none⟩ = some x := by
  rw [World.cell?_setCell_other _ _ _ _ (by intro e; injection e with _ e2; exact hne e2.symm)]
  exact h
end Go.Proofs.Yteffiedolcjjlaa.Sh
/- One block folded in. -/
set_option linter.unusedVariables false
set_option linter.unusedSimpArgs false
namespace Go.Proofs.Yteffiedolcjjlaa.Sh
open Go.RowKit

def stv (s : St) : Value := .agg #[wv s.a, wv s.b, wv s.c, wv s.d, wv s.e, wv s.f, wv s.g, wv s.h]
def stc (s : St) : Array Value := #[wv s.a, wv s.b, wv s.c, wv s.d, wv s.e, wv s.f, wv s.g, wv s.h]

theorem quiet_add_left {P : Program} {f : FuncId} {args : Array Value} {w : World} {a n : Nat} {v : Value}
    (h : Calls P f args (w.drewN (a + n)) fun e w' => e = .returned v ∧ w.drewN (a + n) = w') :
    Calls P f args (w.drewN (a + n)) fun e w'' => e = .returned v ∧ ∃ m, w'' = w.drewN (a + m) :=
  h.mono fun _ _ ⟨he, hm⟩ => ⟨he, n, hm.symm⟩
theorem quiet_left {P : Program} {f : FuncId} {args : Array Value} {w : World} {n : Nat} {v : Value}
    (h : Calls P f args (w.drewN n) fun e w' => e = .returned v ∧ w.drewN n = w') : Calls P f args (w.drewN n) fun e w'' => e = .returned v ∧ ∃ m, w'' = w.drewN m :=
  h.mono fun _ _ ⟨he, hm⟩ => ⟨he, n, hm.symm⟩
theorem info50 : (Try.prog.info? 134).map (·.size) = some 8 := by kernel_rfl
end Go.Proofs.Yteffiedolcjjlaa.Sh
/- A Hasher's block: its 140 cells, told by what they stand for. -/
namespace Go.Proofs.Yteffiedolcjjlaa.Sh
open Go.RowKit

/-- The cells: state (8), rest (64), size, done, the lock's two, added (64). -/
def hcl (s : St) (rest : List UInt8) (n : Nat) (d m : Int) (ad : List Value) : List Value :=
  (stc s).toList ++ (rest.map bv ++ ([.int .i64 n, .int .u32 d, .int .i32 m, .int .u32 0] ++ ad))
def kv : List Value := kList.map wv

section
variable {w w' : World} {b : Nat} {s : St} {rest : List UInt8} {n : Nat} {d m : Int} {ad : List Value}
end
end Go.Proofs.Yteffiedolcjjlaa.Sh
/- sync.Once's parts, one goroutine: the lock, its release, the mark. -/
namespace Go.Proofs.Yteffiedolcjjlaa.Sh
open Go.RowKit

end Go.Proofs.Yteffiedolcjjlaa.Sh
/- The constants' makers. -/
namespace Go.Proofs.Yteffiedolcjjlaa.Sh
open Go.RowKit

def kNums : List Int := [1116352408, 1899447441, 3049323471, 3921009573, 961987163, 1508970993, 2453635748, 2870763221, 3624381080, 310598401, 607225278, 1426881987, 1925078388, 2162078206, 2614888103, 3248222580, 3835390401, 4022224774, 264347078, 604807628, 770255983, 1249150122, 1555081692, 1996064986, 2554220882, 2821834349, 2952996808, 3210313671, 3336571891, 3584528711, 113926993, 338241895, 666307205, 773529912, 1294757372, 1396182291, 1695183700, 1986661051, 2177026350, 2456956037, 2730485921, 2820302411, 3259730800, 3345764771, 3516065817, 3600352804, 4094571909, 275423344, 430227734, 506948616, 659060556, 883997877, 958139571, 1322822218, 1537002063, 1747873779, 1955562222, 2024104815, 2227730452, 2361852424, 2428436474, 2756734187, 3204031479, 3329325298]
theorem kv_nums : kList.map wi = kNums := by unfold kList wi; rfl
theorem kv_lit : kv = kNums.map (fun n => Value.int .u32 n) := by
  rw [← kv_nums]; unfold kv wv; rw [List.map_map]; rfl
end Go.Proofs.Yteffiedolcjjlaa.Sh
/- The constants, made once. -/
namespace Go.Proofs.Yteffiedolcjjlaa.Sh
open Go.RowKit

/-- The Hasher's constants, made or not. -/
def Made (d : Int) (ad : List Value) : Prop := d = 0 ∨ (d = 1 ∧ ad = kv)

end Go.Proofs.Yteffiedolcjjlaa.Sh
/- The last blocks. -/
namespace Go.Proofs.Yteffiedolcjjlaa.Sh
open Go.RowKit

/-- v is a slice of the call's own (its block from B on) that holds the bytes bs. -/
def Own (w : World) (B : Nat) (v : Value) (bs : List UInt8) : Prop := w.ownsRow B 5 1 v bs.length (bs.map bv)

theorem info5 : (Try.prog.info? 5).map (fun i => (i.zero, i.size, i.bytes)) = some (some (.int .u8 0), 1, 1) := by kernel_rfl

theorem own_made (w : World) (c : Nat) (hc : c ≤ maxLen) : (w.alloc (.cells (madeCells #[.int .u8 0] c) 5)).ownsRow w.heap.size 5 1 (.slice (some ⟨w.heap.size, 0, none⟩) 0 c) 0 [] :=
  World.ownsRow_made w _ c (Nat.le_refl _) hc (by rw [size_madeCells]; omega)
theorem make_bytes (c : Nat) (hc : c ≤ 281474976710656) (w : World) :
    (Instr.makeSlice 34 (.int .i64 ((0 : Nat) : Int)) (.int .i64 (c : Int))).run Try.prog w = .ok (.slice (some ⟨w.heap.size, 0, none⟩) 0 c) (w.alloc (.cells (madeCells #[.int .u8 0] c) 5)) := by
  obtain ⟨i0, hi, hz0, hz1, hz2⟩ := info_parts info5
  have hr := run_make (P := Try.prog) w 34 5 i0 (.int .u8 0) Try.underlying34 hi hz0 .i64 .i64 0 c (by omega) (by omega) (by rw [hz2]; omega) (by omega)
  rw [hz1] at hr
  simpa [Value.cells] using hr

theorem bv_one (l : List UInt8) : ∀ u ∈ l.map bv, u.oneCell' = true := by
  intro u hu
  simp only [List.mem_map] at hu
  obtain ⟨x, _, rfl⟩ := hu
  rfl
theorem Own.alloc {w : World} {B : Nat} {v : Value} {bs : List UInt8} (h : Own w B v bs) (o : Obj) : Own (w.alloc o) B v bs := World.ownsRow.alloc h o
theorem Own.drew {w : World} {B : Nat} {v : Value} {bs : List UInt8} (h : Own w B v bs) : Own w.drew B v bs := h
theorem append_bytes {ops : Array Oper} {rest : List Oper} {o : Oper} {a : Act} {Q : Exit → Act → World → Prop} (hgd : o.guard = none) (s x : Operand)
    (ho : o.op = .call { callee := .builtin .append, args := #[s, x], argTypes := #[34, 34] }) (w : World) (B : Nat) (v : Value) (bs : List UInt8) (hs : a.eval s = v) (hown : Own w B v bs)
    (B' : Nat) (A : Option Addr) (m c : Nat) (news : List UInt8) (hx : a.eval x = .slice A m c) (hr : Reads w B' 1 A m (news.map bv)) (hsmall : bs.length + m ≤ 140737488355328) (hB : B ≤ w.heap.size)
    (h : ∀ v' w', Own w' B v' (bs ++ news) → Below B w w' → wpList Try.prog ops Q rest (a.put o.dst v') w') : wpList Try.prog ops Q (o :: rest) a w := by
  obtain ⟨i0, hi, hz0, hz1, hz2⟩ := info_parts info5
  have hm : news.length = m := by have := hr.1; simpa using this
  refine wpList_append_any w hgd s x 34 ho B 5 i0 (.int .u8 0) 1 1 Try.underlying34 hi hz0 hz1 hz2 rfl (by decide) v bs.length _ hs hown B' A m c _ hx hr (bv_one news) (by unfold maxLen; omega) (by omega) hB ?_
  intro v' w' h1 h2 _
  refine h v' w' ?_ ((Below.refl _ _).grown h2 hB (fun k hk => (hown.lt k hk).1))
  unfold Own
  rw [List.length_append, hm, List.map_append]
  exact h1
theorem reads_new (w : World) (bs : List UInt8) (cs : Array Value) (hcs : cs.toList = bs.map bv) (m : Nat) (hm : bs.length = m) : Reads (w.alloc (.cells cs 5)) (w.heap.size + 1) 1 (some ⟨w.heap.size, 0, none⟩) m (bs.map bv) := by
  refine ⟨by simp [hm], fun _ => ⟨_, rfl, by simp, fun j u hu => ?_⟩⟩
  rw [Addr.add_mid, cell_of_row _ _ _ cs 5 (0, 0) (heap_alloc_new w _), Nat.zero_add, ← hu, ← hcs]
  simp
theorem append_byte {ops : Array Oper} {rest : List Oper} {o : Oper} {a : Act} {Q : Exit → Act → World → Prop} (hgd : o.guard = none) (s x : Operand)
    (ho : o.op = .call { callee := .builtin .append, args := #[s, x], argTypes := #[34, 34] }) (w : World) (B : Nat) (v : Value) (bs : List UInt8) (hs : a.eval s = v) (hown : Own w B v bs)
    (k : Int) (u : UInt8) (hu : bi u = k) (hx : a.eval x = .slice (some ⟨w.heap.size, 0, none⟩) 1 1) (hsmall : bs.length + 1 ≤ 140737488355328) (hB : B ≤ w.heap.size)
    (h : ∀ v' w', Own w' B v' (bs ++ [u]) → Below B w w' → wpList Try.prog ops Q rest (a.put o.dst v') w') : wpList Try.prog ops Q (o :: rest) a (w.alloc (.cells #[.int .u8 k] 5)) := by
  subst hu
  refine append_bytes hgd s x ho _ B v bs hs (hown.alloc _) _ _ 1 1 [u] hx (reads_new _ [u] _ rfl 1 rfl) hsmall (by simp; omega) ?_
  intro v' w' h1 h2
  exact h v' w' h1 (((Below.refl _ _).alloc hB _).trans h2)
theorem Own.length {w : World} {B : Nat} {v : Value} {bs : List UInt8} (h : Own w B v bs) : ∃ A c, v = .slice A bs.length c ∧ bs.length ≤ c ∧ c ≤ maxLen := by
  rcases h.2 with ⟨rfl, h0⟩ | ⟨g, cap, cur, rfl, _, _, hc, hm, _⟩
  · exact ⟨none, 0, by rw [h0], by omega, by unfold maxLen; omega⟩
  · exact ⟨_, _, rfl, hc, hm⟩
theorem bi128 : bi 128 = 128 := by unfold bi; rfl
theorem bi0 : bi 0 = 0 := by unfold bi; rfl
def lenOf : Value → Nat
  | .slice _ n _ => n
  | _ => 0
theorem Own.lenOf {w : World} {B : Nat} {v : Value} {bs : List UInt8} (h : Own w B v bs) : lenOf v = bs.length := by
  obtain ⟨A, c, rfl, _⟩ := h.length
  rfl
theorem zeros_lt (n j : Nat) (h : j < zeros n) : (n % 64 + 1 + j) % 64 ≠ 56 := by unfold zeros at h; omega
theorem zeros_at (n : Nat) : (n % 64 + 1 + zeros n) % 64 = 56 := by unfold zeros; omega
theorem zeros_small (n : Nat) : zeros n < 64 := by unfold zeros; omega

theorem len8_length (n : Nat) : (len8 n).length = 8 := rfl
theorem len8_get (n k : Nat) (hk : k < 8) : (len8 n)[k]? = some (UInt8.ofNat (8 * n / 2 ^ (56 - 8 * k))) := by
  obtain rfl | rfl | rfl | rfl | rfl | rfl | rfl | rfl : k = 0 ∨ k = 1 ∨ k = 2 ∨ k = 3 ∨ k = 4 ∨ k = 5 ∨ k = 6 ∨ k = 7 := by omega
  all_goals first | rfl | (unfold len8; simp)
theorem len8_take (n k : Nat) (hk : k < 8) : (len8 n).take (k + 1) = (len8 n).take k ++ [UInt8.ofNat (8 * n / 2 ^ (56 - 8 * k))] := by
  rw [List.take_add_one, len8_get n k hk]
  rfl
theorem byte_of (x : Nat) : IntKind.u8.wrap (x : Int) = bi (UInt8.ofNat x) := by
  unfold bi
  rw [IntKind.wrap_u8, UInt8.toNat_ofNat']
  omega

end Go.Proofs.Yteffiedolcjjlaa.Sh
/- Sum. -/
namespace Go.Proofs.Yteffiedolcjjlaa.Sh
open Go.RowKit

theorem stc_cell {w : World} {g : Nat} {s : St} (h : Blk w g 134 (stc s)) : w.cell? ⟨g, 0, none⟩ = some (.int .u32 (wi s.a)) ∧ w.cell? ⟨g, 1, none⟩ = some (.int .u32 (wi s.b)) ∧ w.cell? ⟨g, 2, none⟩ = some (.int .u32 (wi s.c)) ∧
    w.cell? ⟨g, 3, none⟩ = some (.int .u32 (wi s.d)) ∧ w.cell? ⟨g, 4, none⟩ = some (.int .u32 (wi s.e)) ∧ w.cell? ⟨g, 5, none⟩ = some (.int .u32 (wi s.f)) ∧ w.cell? ⟨g, 6, none⟩ = some (.int .u32 (wi s.g)) ∧ w.cell? ⟨g, 7, none⟩ = some (.int .u32 (wi s.h)) :=
  ⟨(h.cell 0).trans rfl, (h.cell 1).trans rfl, (h.cell 2).trans rfl, (h.cell 3).trans rfl, (h.cell 4).trans rfl, (h.cell 5).trans rfl, (h.cell 6).trans rfl, (h.cell 7).trans rfl⟩
theorem stc_sets (s t : St) : ((((((((stc s).setIfInBounds 0 (.int .u32 (wi t.a))).setIfInBounds 1 (.int .u32 (wi t.b))).setIfInBounds 2 (.int .u32 (wi t.c))).setIfInBounds 3 (.int .u32 (wi t.d))).setIfInBounds 4 (.int .u32 (wi t.e))).setIfInBounds 5 (.int .u32 (wi t.f))).setIfInBounds 6 (.int .u32 (wi t.g))).setIfInBounds 7 (.int .u32 (wi t.h)) = stc t := by
  simp [stc, wv]
theorem set8 {w : World} {g : Nat} {s : St} (h : Blk w g 134 (stc s)) (t : St) :
    Blk ((((((((w.setCell ⟨g, 0, none⟩ (.int .u32 (wi t.a))).setCell ⟨g, 1, none⟩ (.int .u32 (wi t.b))).setCell ⟨g, 2, none⟩ (.int .u32 (wi t.c))).setCell ⟨g, 3, none⟩ (.int .u32 (wi t.d))).setCell ⟨g, 4, none⟩ (.int .u32 (wi t.e))).setCell ⟨g, 5, none⟩ (.int .u32 (wi t.f))).setCell ⟨g, 6, none⟩ (.int .u32 (wi t.g))).setCell ⟨g, 7, none⟩ (.int .u32 (wi t.h))) g 134 (stc t) :=
  by rw [← stc_sets s t]; exact (((((((h.set_ 0 _).set_ 1 _).set_ 2 _).set_ 3 _).set_ 4 _).set_ 5 _).set_ 6 _).set_ 7 _
theorem outB_take (t : St) (k : Nat) (hk : k < 8) : (outB t).take (4 * (k + 1)) = (outB t).take (4 * k) ++ be4 (t.list.getD k 0) := by
  obtain rfl | rfl | rfl | rfl | rfl | rfl | rfl | rfl : k = 0 ∨ k = 1 ∨ k = 2 ∨ k = 3 ∨ k = 4 ∨ k = 5 ∨ k = 6 ∨ k = 7 := by omega
  all_goals rfl
theorem outB_length (t : St) : (outB t).length = 32 := rfl
theorem wcut (u : UInt32) : IntKind.u8.wrap (wi u) = bi u.toUInt8 := by
  unfold wi bi
  rw [IntKind.wrap_u8, UInt32.toNat_toUInt8]
  omega
theorem Own.base {w : World} {B B' : Nat} {v : Value} {bs : List UInt8} (h : Own w B v bs) (hB : B' ≤ B) : Own w B' v bs := by
  unfold Own at h ⊢
  refine ⟨h.1, ?_⟩
  rcases h.2 with h0 | ⟨g, cap, cur, hv, hb, r⟩
  · exact .inl h0
  · exact .inr ⟨g, cap, cur, hv, by omega, r⟩
end Go.Proofs.Yteffiedolcjjlaa.Sh
/- New, Len. -/
namespace Go.Proofs.Yteffiedolcjjlaa.Sh
open Go.RowKit

end Go.Proofs.Yteffiedolcjjlaa.Sh
/- What a Hasher stands for; the bytes that are written to it. -/
namespace Go.Proofs.Yteffiedolcjjlaa.Sh
open Go.RowKit

/-! Plain lists -/
theorem blocks_append (s : St) (x y : List UInt8) (k : Nat) (h : 64 * k ≤ x.length) : blocks s (x ++ y) k = blocks s x k := by
  induction k with
  | zero => rw [blocks_zero, blocks_zero]
  | succ k ih =>
    rw [blocks_next, blocks_next, ih (by omega)]
    congr 1
    rw [List.drop_append_of_le_length (by omega), List.take_append_of_le_length (by rw [List.length_drop]; omega)]
/-! The block -/
section
variable {w w' : World} {b : Nat} {s : St} {rest : List UInt8} {n : Nat} {d m : Int} {ad : List Value}
end
/-- The bytes bs, read by a slice that lies in another block than b. -/
def Src (w : World) (b : Nat) (A : Option Addr) (bs : List UInt8) : Prop :=
  0 < bs.length → ∃ ad, A = some ad ∧ ad.block ≠ b ∧ ad.block < w.heap.size ∧ ∀ j, j < bs.length → w.cell? (ad.add j) = some (.int .u8 (bi (bs.getD j 0)))
theorem Src.only {w w' : World} {b : Nat} {A : Option Addr} {bs : List UInt8} (h : Src w b A bs) (hg : w.grownBy w' (some b)) : Src w' b A bs := by
  intro h0
  obtain ⟨ad, hA, hne, hlt, hc⟩ := h h0
  refine ⟨ad, hA, hne, Nat.lt_of_lt_of_le hlt hg.size, fun j hj => ?_⟩
  rw [only_cell hg (by rw [block_of_add]; exact hlt) (by rw [block_of_add]; exact hne)]
  exact hc j hj
theorem Src.cut {w : World} {b : Nat} {A : Option Addr} {bs : List UInt8} (h : Src w b A bs) (k : Nat) (A' : Option Addr) (hA : k < bs.length → ∀ ad, A = some ad → A' = some (ad.add k)) : Src w b A' (bs.drop k) := by
  intro h0
  rw [List.length_drop] at h0
  obtain ⟨ad, rfl, hne, hlt, hc⟩ := h (by omega)
  refine ⟨ad.add k, hA (by omega) ad rfl, by rw [block_of_add]; exact hne, by rw [block_of_add]; exact hlt, fun j hj => ?_⟩
  rw [List.length_drop] at hj
  rw [add_of_add, hc (k + j) (by omega)]
  simp only [List.getD_eq_getElem?_getD, List.getElem?_drop]

end Go.Proofs.Yteffiedolcjjlaa.Sh
/- Write. -/
namespace Go.Proofs.Yteffiedolcjjlaa.Sh
open Go.RowKit

end Go.Proofs.Yteffiedolcjjlaa.Sh
/- Write, the rest filled. -/
namespace Go.Proofs.Yteffiedolcjjlaa.Sh
open Go.RowKit

end Go.Proofs.Yteffiedolcjjlaa.Sh
/- A Hasher, used: Write, Sum; sha.Sum. -/
namespace Go.Proofs.Yteffiedolcjjlaa.Sh
open Go.RowKit

/-- The bytes bs, read by a slice. -/
def In (w : World) (A : Option Addr) (bs : List UInt8) : Prop :=
  0 < bs.length → ∃ ad, A = some ad ∧ ad.block < w.heap.size ∧ ∀ j, j < bs.length → w.cell? (ad.add j) = some (.int .u8 (bi (bs.getD j 0)))
theorem In.nil (w : World) (A : Option Addr) : In w A [] := fun h => absurd h (by simp)
theorem In.below {w w' : World} {A : Option Addr} {bs : List UInt8} (h : In w A bs) (hb : Below w.heap.size w w') : In w' A bs := by
  intro h0
  obtain ⟨ad, hA, hlt, hc⟩ := h h0
  exact ⟨ad, hA, Nat.lt_of_lt_of_le hlt hb.size, fun j hj => (hb.cell (p := ad.add j) (by rw [block_of_add]; exact hlt)).trans (hc j hj)⟩
theorem Own.in_ {w : World} {B : Nat} {v : Value} {bs : List UInt8} (h : Own w B v bs) : ∃ A c, v = .slice A bs.length c ∧ bs.length ≤ c ∧ c ≤ maxLen ∧ In w A bs ∧ (0 < bs.length → ∃ g, A = some ⟨g, 0, none⟩ ∧ B ≤ g ∧ g < w.heap.size) := by
  rcases h.2 with ⟨rfl, h0⟩ | ⟨g, cap, cur, rfl, hb, hg, hc, hm, hcs, htk⟩
  · exact ⟨none, 0, by rw [h0], by omega, by unfold maxLen; omega, fun h1 => by omega, fun h1 => by omega⟩
  · have hlt : g < w.heap.size := (Array.getElem?_eq_some_iff.1 hg).1
    refine ⟨some ⟨g, 0, none⟩, cap, rfl, hc, hm, fun _ => ⟨_, rfl, hlt, fun j hj => ?_⟩, fun _ => ⟨g, rfl, hb, hlt⟩⟩
    rw [Addr.add_mid, cell_of_row _ _ _ _ _ _ hg, Nat.zero_add]
    have : (cur.toList.take (bs.length * 1))[j]? = (bs.map bv)[j]? := by rw [htk]
    rw [List.getElem?_take, if_pos (by omega), List.getElem?_map, List.getElem?_eq_getElem hj] at this
    rw [List.getD_eq_getElem?_getD, List.getElem?_eq_getElem hj]
    simpa [bv] using this

def OwnPost (w : World) (bs : List UInt8) (e : Ending) (w' : World) : Prop := ∃ v, e = .returned v ∧ Own w' w.heap.size v bs ∧ Below w.heap.size w w'

end Go.Proofs.Yteffiedolcjjlaa.Sh
