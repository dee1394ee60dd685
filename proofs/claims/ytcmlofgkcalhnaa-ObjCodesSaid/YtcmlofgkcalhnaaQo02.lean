/- Texts put together: ShP0. -/
/- SHA-256 over plain lists. -/
namespace Go.Proofs.Ytcmlofgkcalhnaa.Sh

def shlw (u : UInt32) (n : Nat) : UInt32 := u <<< UInt32.ofNat n
def shrw (u : UInt32) (n : Nat) : UInt32 := u >>> UInt32.ofNat n
def rotl (u : UInt32) (n : Nat) : UInt32 := shlw u n ||| shrw u (32 - n)
def rot3 (u : UInt32) (a b c : Nat) : UInt32 := rotl u a ^^^ rotl u b ^^^ rotl u c
def rots (u : UInt32) (a b c : Nat) : UInt32 := rotl u a ^^^ rotl u b ^^^ shrw u c

def kList : List UInt32 := [
  0x428a2f98, 0x71374491, 0xb5c0fbcf, 0xe9b5dba5, 0x3956c25b, 0x59f111f1, 0x923f82a4, 0xab1c5ed5,
  0xd807aa98, 0x12835b01, 0x243185be, 0x550c7dc3, 0x72be5d74, 0x80deb1fe, 0x9bdc06a7, 0xc19bf174,
  0xe49b69c1, 0xefbe4786, 0x0fc19dc6, 0x240ca1cc, 0x2de92c6f, 0x4a7484aa, 0x5cb0a9dc, 0x76f988da,
  0x983e5152, 0xa831c66d, 0xb00327c8, 0xbf597fc7, 0xc6e00bf3, 0xd5a79147, 0x06ca6351, 0x14292967,
  0x27b70a85, 0x2e1b2138, 0x4d2c6dfc, 0x53380d13, 0x650a7354, 0x766a0abb, 0x81c2c92e, 0x92722c85,
  0xa2bfe8a1, 0xa81a664b, 0xc24b8b70, 0xc76c51a3, 0xd192e819, 0xd6990624, 0xf40e3585, 0x106aa070,
  0x19a4c116, 0x1e376c08, 0x2748774c, 0x34b0bcb5, 0x391c0cb3, 0x4ed8aa4a, 0x5b9cca4f, 0x682e6ff3,
  0x748f82ee, 0x78a5636f, 0x84c87814, 0x8cc70208, 0x90befffa, 0xa4506ceb, 0xbef9a3f7, 0xc67178f2]

/-- The state: eight words. -/
structure St where
  a : UInt32
  b : UInt32
  c : UInt32
  d : UInt32
  e : UInt32
  f : UInt32
  g : UInt32
  h : UInt32
deriving DecidableEq

def St.first : St := ⟨0x6a09e667, 0xbb67ae85, 0x3c6ef372, 0xa54ff53a, 0x510e527f, 0x9b05688c, 0x1f83d9ab, 0x5be0cd19⟩
def St.list (s : St) : List UInt32 := [s.a, s.b, s.c, s.d, s.e, s.f, s.g, s.h]

/-- Word i of a block, i below 16. -/
def wordAt (bs : List UInt8) (i : Nat) : UInt32 :=
  shlw (bs.getD (4 * i) 0).toUInt32 24 ||| shlw (bs.getD (4 * i + 1) 0).toUInt32 16 ||| shlw (bs.getD (4 * i + 2) 0).toUInt32 8 ||| (bs.getD (4 * i + 3) 0).toUInt32

/-- The next word behind the words p. -/
def nextWord (p : List UInt32) (n : Nat) : UInt32 :=
  p.getD (n - 16) 0 + p.getD (n - 7) 0 + rots (p.getD (n - 15) 0) 25 14 3 + rots (p.getD (n - 2) 0) 15 13 10

/-- The first n words. -/
def words (bs : List UInt8) : Nat → List UInt32
  | 0 => []
  | n + 1 => words bs n ++ [if n < 16 then wordAt bs n else nextWord (words bs n) n]

theorem words_length (bs : List UInt8) (n : Nat) : (words bs n).length = n := by
  induction n with
  | zero => rfl
  | succ n ih => simp [words, ih]

theorem words_getD (bs : List UInt8) (n m j : Nat) (h : j < n) (hm : n ≤ m) : (words bs m).getD j 0 = (words bs n).getD j 0 := by
  induction m with
  | zero => omega
  | succ m ih =>
    by_cases e : n = m + 1
    · rw [e]
    · rw [← ih (by omega)]
      simp only [words, List.getD_eq_getElem?_getD]
      rw [List.getElem?_append_left (by rw [words_length]; omega)]
/-- Word j of a block. -/
def wd (bs : List UInt8) (j : Nat) : UInt32 := (words bs 64).getD j 0
theorem wd_def (bs : List UInt8) (j : Nat) : wd bs j = (words bs 64).getD j 0 := rfl
theorem wd_last (bs : List UInt8) (n : Nat) (h : n < 64) : wd bs n = if n < 16 then wordAt bs n else nextWord (words bs n) n := by
  unfold wd
  rw [words_getD bs (n + 1) 64 n (by omega) (by omega)]
  have hl := words_length bs n
  simp only [words, List.getD_eq_getElem?_getD]
  rw [List.getElem?_append_right (by omega), hl]
  simp
theorem wd_lo (bs : List UInt8) (n : Nat) (h : n < 16) : wd bs n = wordAt bs n := by
  rw [wd_last bs n (by omega), if_pos h]
theorem wd_hi (bs : List UInt8) (n : Nat) (h : 16 ≤ n) (h2 : n < 64) :
    wd bs n = wd bs (n - 16) + wd bs (n - 7) + rots (wd bs (n - 15)) 25 14 3 + rots (wd bs (n - 2)) 15 13 10 := by
  rw [wd_last bs n h2, if_neg (by omega)]
  unfold nextWord wd
  rw [words_getD bs n 64 (n - 16) (by omega) (by omega), words_getD bs n 64 (n - 7) (by omega) (by omega), words_getD bs n 64 (n - 15) (by omega) (by omega), words_getD bs n 64 (n - 2) (by omega) (by omega)]

def first1 (s : St) (k w : UInt32) : UInt32 :=
  s.h + rot3 s.e 26 21 7 + ((s.e &&& s.f) ^^^ (~~~ s.e &&& s.g)) + k + w
def second1 (s : St) : UInt32 :=
  rot3 s.a 30 19 10 + ((s.a &&& s.b) ^^^ (s.a &&& s.c) ^^^ (s.b &&& s.c))
def step (s : St) (k w : UInt32) : St :=
  ⟨first1 s k w + second1 s, s.a, s.b, s.c, s.d + first1 s k w, s.e, s.f, s.g⟩
def rounds (ws : List UInt32) (s : St) : Nat → St
  | 0 => s
  | n + 1 => step (rounds ws s n) (kList.getD n 0) (ws.getD n 0)
def plus (s t : St) : St := ⟨s.a + t.a, s.b + t.b, s.c + t.c, s.d + t.d, s.e + t.e, s.f + t.f, s.g + t.g, s.h + t.h⟩
/-- One block. -/
def press (s : St) (bs : List UInt8) : St := plus s (rounds (words bs 64) s 64)
/-- The first n blocks of bs. -/
def blocks (s : St) (bs : List UInt8) : Nat → St
  | 0 => s
  | n + 1 => press (blocks s bs n) ((bs.drop (64 * n)).take 64)

def be4 (u : UInt32) : List UInt8 := [(shrw u 24).toUInt8, (shrw u 16).toUInt8, (shrw u 8).toUInt8, u.toUInt8]
def outB (s : St) : List UInt8 := be4 s.a ++ be4 s.b ++ be4 s.c ++ be4 s.d ++ be4 s.e ++ be4 s.f ++ be4 s.g ++ be4 s.h
/-- How many zeros stand behind the mark. -/
def zeros (n : Nat) : Nat := (119 - n % 64) % 64
def len8 (n : Nat) : List UInt8 :=
  [UInt8.ofNat (8 * n / 2 ^ 56), UInt8.ofNat (8 * n / 2 ^ 48), UInt8.ofNat (8 * n / 2 ^ 40), UInt8.ofNat (8 * n / 2 ^ 32), UInt8.ofNat (8 * n / 2 ^ 24), UInt8.ofNat (8 * n / 2 ^ 16), UInt8.ofNat (8 * n / 2 ^ 8), UInt8.ofNat (8 * n)]
/-- What is folded in behind the full blocks: rest: the bytes that fill none; n: of all. -/
def lastOf (rest : List UInt8) (n : Nat) : List UInt8 := rest ++ 128 :: List.replicate (zeros n) 0 ++ len8 n
def full (bs : List UInt8) : St := blocks St.first bs (bs.length / 64)
def tail64 (bs : List UInt8) : List UInt8 := bs.drop (64 * (bs.length / 64))
def sumOf (bs : List UInt8) : List UInt8 :=
  outB (blocks (full bs) (lastOf (tail64 bs) bs.length) ((lastOf (tail64 bs) bs.length).length / 64))

theorem sum_abc : sumOf [97, 98, 99] = [0xba, 0x78, 0x16, 0xbf, 0x8f, 0x01, 0xcf, 0xea, 0x41, 0x41, 0x40, 0xde, 0x5d, 0xae, 0x22, 0x23, 0xb0, 0x03, 0x61, 0xa3, 0x96, 0x17, 0x7a, 0x9c, 0xb4, 0x10, 0xff, 0x61, 0xf2, 0x00, 0x15, 0xad] := by decide +kernel
theorem sum_nil : sumOf [] = [0xe3, 0xb0, 0xc4, 0x42, 0x98, 0xfc, 0x1c, 0x14, 0x9a, 0xfb, 0xf4, 0xc8, 0x99, 0x6f, 0xb9, 0x24, 0x27, 0xae, 0x41, 0xe4, 0x64, 0x9b, 0x93, 0x4c, 0xa4, 0x95, 0x99, 0x1b, 0x78, 0x52, 0xb8, 0x55] := by decide +kernel
theorem rounds_zero (ws : List UInt32) (s : St) : rounds ws s 0 = s := rfl
theorem rounds_next (ws : List UInt32) (s : St) (n : Nat) : rounds ws s (n + 1) = step (rounds ws s n) (kList.getD n 0) (ws.getD n 0) := rfl
theorem press_eq (s : St) (bs : List UInt8) : press s bs = plus s (rounds (words bs 64) s 64) := rfl
theorem blocks_zero (s : St) (bs : List UInt8) : blocks s bs 0 = s := rfl
theorem blocks_next (s : St) (bs : List UInt8) (n : Nat) : blocks s bs (n + 1) = press (blocks s bs n) ((bs.drop (64 * n)).take 64) := rfl
theorem full_eq (bs : List UInt8) : full bs = blocks St.first bs (bs.length / 64) := rfl
theorem sumOf_eq (bs : List UInt8) : sumOf bs = outB (blocks (full bs) (lastOf (tail64 bs) bs.length) ((lastOf (tail64 bs) bs.length).length / 64)) := rfl
theorem kList_length : kList.length = 64 := rfl
attribute [irreducible] words wd rounds press blocks full sumOf kList
end Go.Proofs.Ytcmlofgkcalhnaa.Sh
