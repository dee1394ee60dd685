/- Texts put together: YShU0, YShU1, YShR0, YShR1, YShN0. -/
import Derived.Test.YtodlaikemoedfaaQp14
import Derived.Test.YtodlaikemoedfaaQp02
import Derived.IntWalk
/- Digits; texts that are bytes. -/
namespace Go.Proofs.Ytodlaikemoedfaa.Sh
open Go.RowKit

/-- A digit's number; none: it is no digit. -/
def dv (c : UInt8) : Option UInt8 := if 48 ≤ c ∧ c ≤ 57 then some (c - 48) else if 97 ≤ c ∧ c ≤ 102 then some (c - 87) else none
theorem dv_cases (c : UInt8) : (bi c < 48 ∧ dv c = none) ∨ (48 ≤ bi c ∧ bi c ≤ 57 ∧ dv c = some (UInt8.ofNat (bi c - 48).toNat)) ∨ (57 < bi c ∧ bi c < 97 ∧ dv c = none) ∨
    (97 ≤ bi c ∧ bi c ≤ 102 ∧ dv c = some (UInt8.ofNat (bi c - 87).toNat)) ∨ (102 < bi c ∧ dv c = none) := by
  obtain ⟨n, hn, rfl⟩ : ∃ n, n < 256 ∧ c = UInt8.ofNat n := ⟨c.toNat, c.toNat_lt, by simp⟩
  have hb : bi (UInt8.ofNat n) = (n : Int) := by unfold bi; rw [UInt8.toNat_ofNat']; omega
  rw [hb]
  have key : ∀ n, n < 256 → (n < 48 ∧ dv (UInt8.ofNat n) = none) ∨ (48 ≤ n ∧ n ≤ 57 ∧ dv (UInt8.ofNat n) = some (UInt8.ofNat (n - 48))) ∨ (57 < n ∧ n < 97 ∧ dv (UInt8.ofNat n) = none) ∨
    (97 ≤ n ∧ n ≤ 102 ∧ dv (UInt8.ofNat n) = some (UInt8.ofNat (n - 87))) ∨ (102 < n ∧ dv (UInt8.ofNat n) = none) := by decide +kernel
  rcases key n hn with ⟨h1, h2⟩ | ⟨h1, h2, h3⟩ | ⟨h1, h2, h3⟩ | ⟨h1, h2, h3⟩ | ⟨h1, h2⟩
  · exact .inl ⟨by omega, h2⟩
  · exact .inr (.inl ⟨by omega, by omega, by rw [h3]; congr 2; omega⟩)
  · exact .inr (.inr (.inl ⟨by omega, by omega, h3⟩))
  · exact .inr (.inr (.inr (.inl ⟨by omega, by omega, by rw [h3]; congr 2; omega⟩)))
  · exact .inr (.inr (.inr (.inr ⟨by omega, h2⟩)))
theorem bi_sub (x : Int) (h0 : 0 ≤ x) (h1 : x ≤ 255) : bi (UInt8.ofNat x.toNat) = x := by
  unfold bi; rw [UInt8.toNat_ofNat']; omega

set_option maxHeartbeats 400000 in
/-- digitValue at no digit. -/
theorem dig_no (c : UInt8) (w : World) (h : dv c = none) : Calls Try.prog 76 #[.int .u8 (bi c)] w fun e w' => e = .returned (.tuple #[.int .u8 0, .bool false]) ∧ w = w' := by
  have hb := bi_lt c
  rcases dv_cases c with ⟨h1, _⟩ | ⟨_, _, h2⟩ | ⟨h1, h2, _⟩ | ⟨_, _, h2⟩ | ⟨h1, _⟩
  · clear h
    generalize bi c = x at *
    go_enter Try.func76, Try.ntmps76
    go_wp2
    go_ret2
    exact ⟨rfl, rfl⟩
  · rw [h] at h2; cases h2
  · clear h
    generalize bi c = x at *
    go_enter Try.func76, Try.ntmps76
    go_wp2
    go_ret2
    exact ⟨rfl, rfl⟩
  · rw [h] at h2; cases h2
  · clear h
    generalize bi c = x at *
    go_enter Try.func76, Try.ntmps76
    go_wp2
    go_ret2
    exact ⟨rfl, rfl⟩
set_option maxHeartbeats 400000 in
theorem dig_yes (c v : UInt8) (w : World) (h : dv c = some v) : Calls Try.prog 76 #[.int .u8 (bi c)] w fun e w' => e = .returned (.tuple #[.int .u8 (bi v), .bool true]) ∧ w = w' := by
  have hb := bi_lt c
  rcases dv_cases c with ⟨_, h2⟩ | ⟨h1, h1', h2⟩ | ⟨_, _, h2⟩ | ⟨h1, h1', h2⟩ | ⟨_, h2⟩
  · rw [h] at h2; cases h2
  · rw [h] at h2
    injection h2 with h2
    subst h2
    clear h
    generalize bi c = x at *
    have HX := Lib.hid (bi_sub (x - 48) (by omega) (by omega))
    go_enter Try.func76, Try.ntmps76
    go_wp2
    go_ret2
    exact ⟨by rw [HX.out]; rfl, rfl⟩
  · rw [h] at h2; cases h2
  · rw [h] at h2
    injection h2 with h2
    subst h2
    clear h
    generalize bi c = x at *
    have HX := Lib.hid (bi_sub (x - 87) (by omega) (by omega))
    have e1 : x - 97 + 10 = x - 87 := by omega
    go_enter Try.func76, Try.ntmps76
    go_wp2
    go_ret2
    exact ⟨by rw [HX.out, ← e1]; rfl, rfl⟩
  · rw [h] at h2; cases h2

theorem str_size (cs : List UInt8) : (str cs).size = cs.length := by
  unfold str ByteArray.size
  simp
theorem index_str (cs : List UInt8) (k : Nat) (hk : k < cs.length) (w : World) : (Instr.index 9 (.string (str cs)) (.int .i64 (k : Int))).run Try.prog w = .ok (.int .u8 (bi (cs.getD k 0))) w := by
  have hsz := str_size cs
  have hg : (str cs)[k]? = some cs[k] := getElem?_pos (str cs) k (by rw [hsz]; exact hk)
  simp [Instr.index, go_sem]
  rw [hg, List.getElem?_eq_getElem hk]
  unfold bi
  rfl

/-- Is it an even number of digits? -/
def hexOk (cs : List UInt8) : Bool := cs.length % 2 == 0 && cs.all (fun c => (dv c).isSome)
theorem hexOk_at {cs : List UInt8} (h : hexOk cs = true) (k : Nat) (hk : k < cs.length) : ∃ v, dv (cs.getD k 0) = some v := by
  unfold hexOk at h
  rw [Bool.and_eq_true] at h
  have := List.all_eq_true.1 h.2 cs[k] (List.getElem_mem hk)
  rw [List.getD_eq_getElem?_getD, List.getElem?_eq_getElem hk]
  exact Option.isSome_iff_exists.1 this
theorem hexOk_even {cs : List UInt8} (h : hexOk cs = true) : cs.length % 2 = 0 := by
  unfold hexOk at h
  rw [Bool.and_eq_true, beq_iff_eq] at h
  exact h.1
theorem hexOk_of {cs : List UInt8} (h : cs.length % 2 = 0) (hd : ∀ k, k < cs.length → ∃ v, dv (cs.getD k 0) = some v) : hexOk cs = true := by
  unfold hexOk
  rw [Bool.and_eq_true, beq_iff_eq]
  refine ⟨h, List.all_eq_true.2 fun c hc => ?_⟩
  obtain ⟨k, hk, rfl⟩ := List.getElem_of_mem hc
  obtain ⟨v, hv⟩ := hd k hk
  rw [List.getD_eq_getElem?_getD, List.getElem?_eq_getElem hk] at hv
  rw [show dv cs[k] = some v from hv]
  rfl

set_option maxHeartbeats 400000 in
/-- isHex. -/
theorem ishex_yes (cs : List UInt8) (w : World) (h : hexOk cs = true) (hl : cs.length ≤ 1000000) : Calls Try.prog 69 #[.string (str cs)] w fun e w' => e = .returned (.bool true) ∧ w = w' := by
  have hev := hexOk_even h
  have hsz := str_size cs
  have H := Lib.hid h
  obtain ⟨l, hL⟩ : ∃ l, cs.length = l := ⟨_, rfl⟩
  rw [hL] at hsz hev hl
  have HL := Lib.hid hL
  clear h hL
  have e1 : (l : Int) % 2 = 0 := by omega
  have e2 : (l : Int).tmod 2 = 0 := by rw [Int.tmod_eq_emod_of_nonneg (by omega)]; omega
  have HEV := Lib.hid hev
  clear hev
  go_enter Try.func69, Try.ntmps69
  go_wp2
  go_loop [12] (fun i => ∃ k : Nat, k ≤ l ∧ i = .int .i64 k) (fun i => l - (intOf i).toNat)
  case atStart => exact ⟨0, by omega, rfl⟩
  case round =>
    obtain ⟨k, hk, rfl⟩ := hrel
    by_cases hlt : k < l
    · have hidx := index_str cs k (by rw [HL.out]; exact hlt)
      obtain ⟨v, hv⟩ := hexOk_at H.out k (by rw [HL.out]; exact hlt)
      generalize cs.getD k 0 = x at *
      have HV := Lib.hid hv
      clear hv
      go_wp2_with (go_at_call 76; refine (dig_yes x v _ HV.out).mono ?_; rintro e w' ⟨rfl, rfl⟩)
      go_round
      case rel => exact ⟨k + 1, by omega, by go_num⟩
      case measure => simp [intOf]; omega
    · obtain rfl : k = l := by omega
      go_wp2
      go_ret
      exact ⟨rfl, rfl⟩

set_option maxHeartbeats 400000 in
theorem ishex_no (cs : List UInt8) (w : World) (h : hexOk cs = false) (hl : cs.length ≤ 1000000) : Calls Try.prog 69 #[.string (str cs)] w fun e w' => e = .returned (.bool false) ∧ w = w' := by
  have hsz := str_size cs
  have H := Lib.hid h
  obtain ⟨l, hL⟩ : ∃ l, cs.length = l := ⟨_, rfl⟩
  rw [hL] at hsz hl
  have HL := Lib.hid hL
  clear h hL
  by_cases hev : l % 2 = 0
  · have e1 : (l : Int) % 2 = 0 := by omega
    have e2 : (l : Int).tmod 2 = 0 := by rw [Int.tmod_eq_emod_of_nonneg (by omega)]; omega
    have HEV := Lib.hid hev
    clear hev
    go_enter Try.func69, Try.ntmps69
    go_wp2
    go_loop [12] (fun i => ∃ k : Nat, k ≤ l ∧ i = .int .i64 k ∧ ∀ j, j < k → ∃ v, dv (cs.getD j 0) = some v) (fun i => l - (intOf i).toNat)
    case atStart => exact ⟨0, by omega, rfl, fun j hj => by omega⟩
    case round =>
      obtain ⟨k, hk, rfl, hall⟩ := hrel
      have HALL := Lib.hid hall
      clear hall
      by_cases hlt : k < l
      · have hidx := index_str cs k (by rw [HL.out]; exact hlt)
        obtain ⟨x, hx⟩ : ∃ x, cs.getD k 0 = x := ⟨_, rfl⟩
        rw [hx] at hidx
        have HX := Lib.hid hx
        clear hx
        cases hv : dv x with
        | none =>
          have HV := Lib.hid hv
          clear hv
          go_wp2_with (go_at_call 76; refine (dig_no x _ HV.out).mono ?_; rintro e w' ⟨rfl, rfl⟩)
          go_ret
          exact ⟨rfl, rfl⟩
        | some v =>
          have HV := Lib.hid hv
          clear hv
          go_wp2_with (go_at_call 76; refine (dig_yes x v _ HV.out).mono ?_; rintro e w' ⟨rfl, rfl⟩)
          go_round
          case rel =>
            refine ⟨k + 1, by omega, by go_num, fun j hj => ?_⟩
            by_cases e : j = k
            · rw [e, HX.out]; exact ⟨v, HV.out⟩
            · exact HALL.out j (by omega)
          case measure => simp [intOf]; omega
      · obtain rfl : k = l := by omega
        have hh := H.out
        rw [hexOk_of (by rw [HL.out]; exact HEV.out) (by rw [HL.out]; exact HALL.out)] at hh
        cases hh
  · have e1 : ((l : Int) % 2 != 0) = true := by rw [bne_iff_ne]; omega
    have e2 : ((l : Int) % 2 == 0) = false := beq_eq_false_iff_ne.2 (by omega)
    clear hev
    go_enter Try.func69, Try.ntmps69
    go_wp2
    go_ret
    exact ⟨rfl, rfl⟩
end Go.Proofs.Ytodlaikemoedfaa.Sh
/- Unhex, Valid. -/
namespace Go.Proofs.Ytodlaikemoedfaa.Sh
open Go.RowKit

def dvv (c : UInt8) : UInt8 := (dv c).getD 0
def un2 (a b : UInt8) : UInt8 := UInt8.ofNat (16 * (dvv a).toNat + (dvv b).toNat)
def unhexN (cs : List UInt8) (k : Nat) : List UInt8 := (List.range k).map (fun i => un2 (cs.getD (2 * i) 0) (cs.getD (2 * i + 1) 0))
def unhexL (cs : List UInt8) : List UInt8 := unhexN cs (cs.length / 2)
theorem dvv_of {c v : UInt8} (h : dv c = some v) : dvv c = v := by unfold dvv; rw [h]; rfl

/-- What Unhex leaves of a text that is some bytes' Hex. -/
def UnPost (w : World) (bs : List UInt8) (e : Ending) (w' : World) : Prop := ∃ v, e = .returned (.tuple #[v, .bool true]) ∧ Own w' w.heap.size v bs ∧ Below w.heap.size w w'

theorem valid_any (cs : List UInt8) (t : Bool) (ht : (cs.length == 64 && hexOk cs) = t) (w : World) (hl : cs.length ≤ 1000000) : Calls Try.prog 56 #[.string (str cs)] w fun e w' => e = .returned (.bool t) ∧ w = w' := by
  have hsz := str_size cs
  by_cases h64 : cs.length = 64
  · rw [h64] at hsz
    rw [beq_iff_eq.2 h64, Bool.true_and] at ht
    have HT := Lib.hid ht
    clear ht h64
    go_enter Try.func56, Try.ntmps56
    go_wp2_with fail
    cases t with
    | false =>
      refine (ishex_no cs _ HT.out hl).mono ?_
      rintro e w' ⟨rfl, rfl⟩
      go_wp2_with fail
      go_ret
      exact ⟨rfl, rfl⟩
    | true =>
      refine (ishex_yes cs _ HT.out hl).mono ?_
      rintro e w' ⟨rfl, rfl⟩
      go_wp2_with fail
      go_ret
      exact ⟨rfl, rfl⟩
  · rw [beq_eq_false_iff_ne.2 h64, Bool.false_and] at ht
    subst ht
    obtain ⟨l, hL⟩ : ∃ l, cs.length = l := ⟨_, rfl⟩
    rw [hL] at hsz h64
    have e1 : ((l : Int) == 64) = false := beq_eq_false_iff_ne.2 (by omega)
    clear hL
    go_enter Try.func56, Try.ntmps56
    go_wp2_with fail
    go_ret
    exact ⟨rfl, rfl⟩

/-! Plain: there and back. -/
theorem dv_hexd (n : UInt8) (h : n.toNat < 16) : dv (hexd n) = some n := by
  obtain ⟨m, hm, rfl⟩ : ∃ m, m < 16 ∧ n = UInt8.ofNat m := ⟨n.toNat, h, by simp⟩
  have key : ∀ m, m < 16 → dv (hexd (UInt8.ofNat m)) = some (UInt8.ofNat m) := by decide +kernel
  exact key m hm
theorem hexL_cons (x : UInt8) (r : List UInt8) : hexL (x :: r) = hexd (hi4 x) :: hexd (lo4 x) :: hexL r := rfl
theorem un2_hex (x : UInt8) : un2 (hexd (hi4 x)) (hexd (lo4 x)) = x := by
  unfold un2
  rw [dvv_of (dv_hexd _ (hi4_lt x)), dvv_of (dv_hexd _ (lo4_lt x))]
  have := x.toNat_lt
  unfold hi4 lo4
  rw [UInt8.toNat_ofNat', UInt8.toNat_ofNat', show 16 * (x.toNat / 16 % 2 ^ 8) + x.toNat % 16 % 2 ^ 8 = x.toNat from by omega]
  simp
theorem unhexL_cons (a b : UInt8) (r : List UInt8) : unhexL (a :: b :: r) = un2 a b :: unhexL r := by
  unfold unhexL unhexN
  rw [show (a :: b :: r).length / 2 = r.length / 2 + 1 from by simp; omega, List.range_succ_eq_map, List.map_cons, List.map_map]
  congr 1
theorem unhexL_hexL (bs : List UInt8) : unhexL (hexL bs) = bs := by
  induction bs with
  | nil => rfl
  | cons x r ih => rw [hexL_cons, unhexL_cons, ih, un2_hex]
end Go.Proofs.Ytodlaikemoedfaa.Sh
/- The reference: turn, digit, the constants. -/
namespace Go.Proofs.Ytodlaikemoedfaa.Sh
open Go.RowKit

def KPost (w : World) (e : Ending) (w' : World) : Prop := ∃ g, e = .returned (.slice (some ⟨g, 0, none⟩) 64 64) ∧ Blk w' g 57 kv.toArray ∧ w.heap.size ≤ g ∧ Below w.heap.size w w'
end Go.Proofs.Ytodlaikemoedfaa.Sh
/- The reference: Hex, Unhex, Valid. -/
namespace Go.Proofs.Ytodlaikemoedfaa.Sh
open Go.RowKit

theorem Own.nil_ (w : World) (B : Nat) : Own w B (.slice none 0 0) [] := World.ownsRow_nil w B 5 1

end Go.Proofs.Ytodlaikemoedfaa.Sh
/- Put, both. -/
namespace Go.Proofs.Ytodlaikemoedfaa.Sh
open Go.RowKit

theorem ofInt_i64 (a : Nat) (ha : a < 9223372036854775808) : (BitVec.ofInt 64 (a : Int)).toNat = a := by
  rw [BitVec.ofInt_natCast, BitVec.toNat_ofNat]; exact Nat.mod_eq_of_lt (by omega)
theorem i64_or_nat (a b : Nat) (ha : a < 9223372036854775808) (hb : b < 9223372036854775808) : bits .or .i64 (a : Int) (b : Int) = ((a ||| b : Nat) : Int) := by
  have hx : a ||| b < 2 ^ 63 := Nat.or_lt_two_pow (by omega) (by omega)
  show IntKind.i64.wrap ((BitVec.ofInt 64 (a : Int) ||| BitVec.ofInt 64 (b : Int)).toNat : Int) = _
  rw [BitVec.toNat_or, ofInt_i64 a ha, ofInt_i64 b hb, IntKind.wrap_i64]
  omega
/-- What a call of Put leaves. -/
def PutPost (w : World) (n : Nat) (e : Ending) (w' : World) : Prop := ∃ v, e = .returned (.tuple #[v, .int .i64 0]) ∧ Own w' w.heap.size v (putL n) ∧ Below w.heap.size w w'
theorem nat_or128 (x : Nat) (h : x < 128) : x ||| 128 = x + 128 := by
  have := Nat.two_pow_add_eq_or_of_lt (i := 7) (b := x) (by simpa using h) 1
  rw [Nat.or_comm]
  simp at this
  omega
theorem or128 (m : Int) (k : Nat) (h : m = (k : Int)) (hk : k < 128) : bits .or .u8 m 128 = bi (UInt8.ofNat (k + 128)) := by
  subst h
  rw [show (128 : Int) = ((128 : Nat) : Int) from rfl, u8_or_nat _ _ (by omega) (by omega), nat_or128 k hk]
  unfold bi
  rw [UInt8.toNat_ofNat']
  omega
theorem bi_nat (m : Nat) (h : m < 256) : bi (UInt8.ofNat m) = (m : Int) := by
  unfold bi
  rw [UInt8.toNat_ofNat']
  omega

set_option maxRecDepth 100000 in
set_option maxHeartbeats 800000 in
theorem put_any (n : Nat) (w : World) (h : n ≤ 72057594037927936) : Calls Try.prog 12 #[.int .i64 (n : Int)] w (PutPost w n) := by
  have h0 : (0 : Int) ≤ (n : Int) := by omega
  have h1 : (n : Int) ≤ 72057594037927936 := by omega
  have hlen := putL_len9 h
  have HLEN := Lib.hid hlen
  clear hlen
  obtain ⟨n0, hn0⟩ : ∃ n0, n0 = n := ⟨_, rfl⟩
  rw [← hn0] at HLEN
  have HN := Lib.hid hn0
  have hpost : PutPost w n = PutPost w n0 := by rw [hn0]
  rw [hpost]
  clear hn0 hpost
  go_enter Try.func12, Try.ntmps12
  go_wp2
  go_loopw [0, 4] (fun x v wr => ∃ (m : Nat) (bs : List UInt8), m ≤ 72057594037927936 ∧ x = .int .i64 m ∧ Own wr w.heap.size v bs ∧ putL n0 = bs ++ putL m ∧ Below w.heap.size w wr) (fun x _ _ => (intOf x).toNat)
  case atStart => exact ⟨n, [], h, rfl, Own.nil_ _ _, by rw [HN.out]; rfl, Below.refl _ _⟩
  case round =>
    obtain ⟨m, bs, hm, rfl, ho, hput, hbw⟩ := hrel
    have hwz := hbw.size
    have hlen : bs.length + 1 ≤ 9 := by
      have := HLEN.out
      rw [hput, List.length_append] at this
      have := putL_pos m
      omega
    have hsm : bs.length + 1 ≤ 140737488355328 := by omega
    have HO := Lib.hid ho
    have HP := Lib.hid hput
    have HBW := Lib.hid hbw
    clear ho hput hbw
    have hm0 : (0 : Int) ≤ (m : Int) := by omega
    have hm1 : (m : Int) ≤ 72057594037927936 := by omega
    by_cases hlt : m < 128
    · have hm2 : (m : Int) < 128 := by omega
      go_wp2_with (at_builtin; refine append_byte rfl (.tmp 22) (.tmp 25) rfl wr w.heap.size u4 bs rfl HO.out _ (UInt8.ofNat m) (bi_nat m (by omega)) rfl hsm hwz ?_; intro v3 w3 ho3 hb3; have HO3 := Lib.hid ho3; have HB3 := Lib.hid hb3; clear ho3 hb3)
      go_ret2
      refine ⟨v3, rfl, ?_, HBW.out.trans HB3.out⟩
      rw [HP.out, putL_lt hlt]
      exact HO3.out
    · have hm2 : (128 : Int) ≤ (m : Int) := by omega
      have hor := or128 ((m : Int) % 128) (m % 128) (by omega) (by omega)
      obtain ⟨y, hy⟩ : ∃ y, UInt8.ofNat (m % 128 + 128) = y := ⟨_, rfl⟩
      rw [hy] at hor
      have HY := Lib.hid hy
      clear hy
      go_wp2_with (at_builtin; refine append_byte rfl (.tmp 13) (.tmp 18) rfl wr w.heap.size u4 bs rfl HO.out _ y rfl rfl hsm hwz ?_; intro v3 w3 ho3 hb3; have HO3 := Lib.hid ho3; have HB3 := Lib.hid hb3; clear ho3 hb3)
      refine ⟨⟨m / 128, bs ++ [y], by omega, ?_, HO3.out, ?_, HBW.out.trans HB3.out⟩, ?_⟩
      · congr 1
      · rw [HP.out, putL_ge (show 128 ≤ m by omega), HY.out, List.append_assoc]; rfl
      · simp [intOf]; omega
end Go.Proofs.Ytodlaikemoedfaa.Sh
