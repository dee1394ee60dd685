/- Texts put together: VShU0, VShU1, VShQ0, VShR0, VShR1, VShN0. -/
import Derived.Test.YtpfjlhpahmhkhaaGreatQv11
import Derived.Test.YtpfjlhpahmhkhaaGreatQv01
import Derived.IntWalk
/- Digits; texts that are bytes. -/
namespace Go.Proofs.YtpfjlhpahmhkhaaGreat.Sh
open Go.RowKit
def dv (c : UInt8) : Option UInt8 := if 48 ≤ c ∧ c ≤ 57 then some (c - 48) else if 97 ≤ c ∧ c ≤ 102 then some (c - 87) else none
theorem dv_cases (c : UInt8) : (bi c < 48 ∧ dv c = none) ∨ (48 ≤ bi c ∧ bi c ≤ 57 ∧ dv c = some (UInt8.ofNat (bi c - 48).toNat)) ∨ (57 < bi c ∧ bi c < 97 ∧ dv c = none) ∨
  (97 ≤ bi c ∧ bi c ≤ 102 ∧ dv c = some (UInt8.ofNat (bi c - 87).toNat)) ∨ (102 < bi c ∧ dv c = none) := by
 obtain ⟨n, hn, rfl⟩ : ∃ n, n < 256 ∧ c = UInt8.ofNat n := ⟨c.toNat, c.toNat_lt, by simp⟩
 have hb : bi (UInt8.ofNat n) = (n : Int) := by unfold bi; rw [UInt8.toNat_ofNat']; omega
 rw [hb]
 have key : ∀ n, n < 256 → (n < 48 ∧ dv (UInt8.ofNat n) = none) ∨ (48 ≤ n ∧ n ≤ 57 ∧ dv (UInt8.ofNat n) = some (UInt8.ofNat (n - 48))) ∨ (57 < n ∧ n < 97 ∧ dv (UInt8.ofNat n) = none) ∨
  (97 ≤ n ∧ n ≤ 102 ∧ dv (UInt8.ofNat n) = some (UInt8.ofNat (n - 87))) ∨ (102 < n ∧ dv (UInt8.ofNat n) = none) := by decide +kernel
 rcases key n hn with ⟨h1, h2⟩ | ⟨h1, h2, h3⟩ | ⟨h1, h2, h3⟩ | ⟨h1, h2, h3⟩ | ⟨h1, h2⟩
 ·exact .inl ⟨by omega, h2⟩
 ·exact .inr (.inl ⟨by omega, by omega, by rw [h3]; congr 2; omega⟩)
 ·exact .inr (.inr (.inl ⟨by omega, by omega, h3⟩))
 ·exact .inr (.inr (.inr (.inl ⟨by omega, by omega, by rw [h3]; congr 2; omega⟩)))
 ·exact .inr (.inr (.inr (.inr ⟨by omega, h2⟩)))
theorem bi_sub (x : Int) (h0 : 0 ≤ x) (h1 : x ≤ 255) : bi (UInt8.ofNat x.toNat) = x := by
 unfold bi; rw [UInt8.toNat_ofNat']; omega
set_option maxHeartbeats 400000 in
theorem dig_no (c : UInt8) (w : World) (h : dv c = none) : Calls Tryz.prog 352 #[.int .u8 (bi c)] w fun e w' => e = .returned (.tuple #[.int .u8 0, .bool false]) ∧ w = w' := by
 have hb := bi_lt c
 rcases dv_cases c with ⟨h1, _⟩ | ⟨_, _, h2⟩ | ⟨h1, h2, _⟩ | ⟨_, _, h2⟩ | ⟨h1, _⟩
 ·clear h
  generalize bi c = x at *
  go_enter Tryz.func352, Tryz.ntmps352
  go_wp2
  go_ret2
  exact ⟨rfl, rfl⟩
 ·rw [h] at h2; cases h2
 ·clear h
  generalize bi c = x at *
  go_enter Tryz.func352, Tryz.ntmps352
  go_wp2
  go_ret2
  exact ⟨rfl, rfl⟩
 ·rw [h] at h2; cases h2
 ·clear h
  generalize bi c = x at *
  go_enter Tryz.func352, Tryz.ntmps352
  go_wp2
  go_ret2
  exact ⟨rfl, rfl⟩
set_option maxHeartbeats 400000 in
theorem dig_yes (c v : UInt8) (w : World) (h : dv c = some v) : Calls Tryz.prog 352 #[.int .u8 (bi c)] w fun e w' => e = .returned (.tuple #[.int .u8 (bi v), .bool true]) ∧ w = w' := by
 have hb := bi_lt c
 rcases dv_cases c with ⟨_, h2⟩ | ⟨h1, h1', h2⟩ | ⟨_, _, h2⟩ | ⟨h1, h1', h2⟩ | ⟨_, h2⟩
 ·rw [h] at h2; cases h2
 ·rw [h] at h2
  injection h2 with h2
  subst h2
  clear h
  generalize bi c = x at *
  have HX := Lib.hid (bi_sub (x - 48) (by omega) (by omega))
  go_enter Tryz.func352, Tryz.ntmps352
  go_wp2
  go_ret2
  exact ⟨by rw [HX.out]; rfl, rfl⟩
 ·rw [h] at h2; cases h2
 ·rw [h] at h2
  injection h2 with h2
  subst h2
  clear h
  generalize bi c = x at *
  have HX := Lib.hid (bi_sub (x - 87) (by omega) (by omega))
  have e1 : x - 97 + 10 = x - 87 := by omega
  go_enter Tryz.func352, Tryz.ntmps352
  go_wp2
  go_ret2
  exact ⟨by rw [HX.out, ← e1]; rfl, rfl⟩
 ·rw [h] at h2; cases h2
theorem str_size (cs : List UInt8) : (str cs).size = cs.length := by
 unfold str ByteArray.size
 simp
theorem index_str (cs : List UInt8) (k : Nat) (hk : k < cs.length) (w : World) : (Instr.index 9 (.string (str cs)) (.int .i64 (k : Int))).run Tryz.prog w = .ok (.int .u8 (bi (cs.getD k 0))) w := by
 have hsz := str_size cs
 have hg : (str cs)[k]? = some cs[k] := getElem?_pos (str cs) k (by rw [hsz]; exact hk)
 simp [Instr.index, go_sem]
 rw [hg, List.getElem?_eq_getElem hk]
 unfold bi
 rfl
def hexOk (cs : List UInt8) : Bool := cs.length % 2 == 0 && cs.all (fun c => (dv c).isSome)
theorem hexOk_at {cs : List UInt8} (h : hexOk cs = true) (k : Nat) (hk : k < cs.length) : ∃ v, dv (cs.getD k 0) = some v := by
 unfold hexOk at h
 rw [Bool.and_eq_true] at h
 have := List.all_eq_true.1 h.2 cs[k] (List.getElem_mem hk)
 rw [List.getD_eq_getElem?_getD, List.getElem?_eq_getElem hk]
 exact Option.isSome_iff_exists.1 this
theorem hexOk_even {cs : List UInt8} (h : hexOk cs = true) : cs.length % 2 = 0 := by
 unfold hexOk at h
 rw [Bool.and_eq_true, beq_iff_eq] at h
 exact h.1
theorem hexOk_of {cs : List UInt8} (h : cs.length % 2 = 0) (hd : ∀ k, k < cs.length → ∃ v, dv (cs.getD k 0) = some v) : hexOk cs = true := by
 unfold hexOk
 rw [Bool.and_eq_true, beq_iff_eq]
 refine ⟨h, List.all_eq_true.2 fun c hc => ?_⟩
 obtain ⟨k, hk, rfl⟩ := List.getElem_of_mem hc
 obtain ⟨v, hv⟩ := hd k hk
 rw [List.getD_eq_getElem?_getD, List.getElem?_eq_getElem hk] at hv
 rw [show dv cs[k] = some v from hv]
 rfl
set_option maxHeartbeats 400000 in
theorem ishex_yes (cs : List UInt8) (w : World) (h : hexOk cs = true) (hl : cs.length ≤ 1000000) : Calls Tryz.prog 334 #[.string (str cs)] w fun e w' => e = .returned (.bool true) ∧ w = w' := by
 have hev := hexOk_even h
 have hsz := str_size cs
 have H := Lib.hid h
 obtain ⟨l, hL⟩ : ∃ l, cs.length = l := ⟨_, rfl⟩
 rw [hL] at hsz hev hl
 have HL := Lib.hid hL
 clear h hL
 have e1 : (l : Int) % 2 = 0 := by omega
 have e2 : (l : Int).tmod 2 = 0 := by rw [Int.tmod_eq_emod_of_nonneg (by omega)]; omega
 have HEV := Lib.hid hev
 clear hev
 go_enter Tryz.func334, Tryz.ntmps334
 go_wp2
 go_loop [12] (fun i => ∃ k : Nat, k ≤ l ∧ i = .int .i64 k) (fun i => l - (intOf i).toNat)
 case atStart => exact ⟨0, by omega, rfl⟩
 case round =>
  obtain ⟨k, hk, rfl⟩ := hrel
  by_cases hlt : k < l
  ·have hidx := index_str cs k (by rw [HL.out]; exact hlt)
   obtain ⟨v, hv⟩ := hexOk_at H.out k (by rw [HL.out]; exact hlt)
   generalize cs.getD k 0 = x at *
   have HV := Lib.hid hv
   clear hv
   go_wp2_with (go_at_call 352; refine (dig_yes x v _ HV.out).mono ?_; rintro e w' ⟨rfl, rfl⟩)
   go_round
   case rel => exact ⟨k + 1, by omega, by go_num⟩
   case measure => simp [intOf]; omega
  ·obtain rfl : k = l := by omega
   go_wp2
   go_ret
   exact ⟨rfl, rfl⟩
set_option maxHeartbeats 400000 in
theorem ishex_no (cs : List UInt8) (w : World) (h : hexOk cs = false) (hl : cs.length ≤ 1000000) : Calls Tryz.prog 334 #[.string (str cs)] w fun e w' => e = .returned (.bool false) ∧ w = w' := by
 have hsz := str_size cs
 have H := Lib.hid h
 obtain ⟨l, hL⟩ : ∃ l, cs.length = l := ⟨_, rfl⟩
 rw [hL] at hsz hl
 have HL := Lib.hid hL
 clear h hL
 by_cases hev : l % 2 = 0
 ·have e1 : (l : Int) % 2 = 0 := by omega
  have e2 : (l : Int).tmod 2 = 0 := by rw [Int.tmod_eq_emod_of_nonneg (by omega)]; omega
  have HEV := Lib.hid hev
  clear hev
  go_enter Tryz.func334, Tryz.ntmps334
  go_wp2
  go_loop [12] (fun i => ∃ k : Nat, k ≤ l ∧ i = .int .i64 k ∧ ∀ j, j < k → ∃ v, dv (cs.getD j 0) = some v) (fun i => l - (intOf i).toNat)
  case atStart => exact ⟨0, by omega, rfl, fun j hj => by omega⟩
  case round =>
   obtain ⟨k, hk, rfl, hall⟩ := hrel
   have HALL := Lib.hid hall
   clear hall
   by_cases hlt : k < l
   ·have hidx := index_str cs k (by rw [HL.out]; exact hlt)
    obtain ⟨x, hx⟩ : ∃ x, cs.getD k 0 = x := ⟨_, rfl⟩
    rw [hx] at hidx
    have HX := Lib.hid hx
    clear hx
    cases hv : dv x with
    | none =>
     have HV := Lib.hid hv
     clear hv
     go_wp2_with (go_at_call 352; refine (dig_no x _ HV.out).mono ?_; rintro e w' ⟨rfl, rfl⟩)
     go_ret
     exact ⟨rfl, rfl⟩
    | some v =>
     have HV := Lib.hid hv
     clear hv
     go_wp2_with (go_at_call 352; refine (dig_yes x v _ HV.out).mono ?_; rintro e w' ⟨rfl, rfl⟩)
     go_round
     case rel =>
      refine ⟨k + 1, by omega, by go_num, fun j hj => ?_⟩
      by_cases e : j = k
      ·rw [e, HX.out]; exact ⟨v, HV.out⟩
      ·exact HALL.out j (by omega)
     case measure => simp [intOf]; omega
   ·obtain rfl : k = l := by omega
    have hh := H.out
    rw [hexOk_of (by rw [HL.out]; exact HEV.out) (by rw [HL.out]; exact HALL.out)] at hh
    cases hh
 ·have e1 : ((l : Int) % 2 != 0) = true := by rw [bne_iff_ne]; omega
  have e2 : ((l : Int) % 2 == 0) = false := beq_eq_false_iff_ne.2 (by omega)
  clear hev
  go_enter Tryz.func334, Tryz.ntmps334
  go_wp2
  go_ret
  exact ⟨rfl, rfl⟩
end Go.Proofs.YtpfjlhpahmhkhaaGreat.Sh
/- Unhex, Valid. -/
namespace Go.Proofs.YtpfjlhpahmhkhaaGreat.Sh
open Go.RowKit
def dvv (c : UInt8) : UInt8 := (dv c).getD 0
def un2 (a b : UInt8) : UInt8 := UInt8.ofNat (16 * (dvv a).toNat + (dvv b).toNat)
def unhexN (cs : List UInt8) (k : Nat) : List UInt8 := (List.range k).map (fun i => un2 (cs.getD (2 * i) 0) (cs.getD (2 * i + 1) 0))
def unhexL (cs : List UInt8) : List UInt8 := unhexN cs (cs.length / 2)
theorem unhexN_next (cs : List UInt8) (k : Nat) : unhexN cs (k + 1) = unhexN cs k ++ [un2 (cs.getD (2 * k) 0) (cs.getD (2 * k + 1) 0)] := by
 unfold unhexN
 rw [List.range_succ, List.map_append]
 rfl
theorem unhexN_length (cs : List UInt8) (k : Nat) : (unhexN cs k).length = k := by unfold unhexN; simp
theorem unhexL_length (cs : List UInt8) : (unhexL cs).length = cs.length / 2 := unhexN_length _ _
theorem dv_lt (c v : UInt8) (h : dv c = some v) : v.toNat < 16 := by
 have hb := bi_lt c
 rcases dv_cases c with ⟨_, h2⟩ | ⟨h1, h1', h2⟩ | ⟨_, _, h2⟩ | ⟨h1, h1', h2⟩ | ⟨_, h2⟩
 all_goals rw [h] at h2
 all_goals first | (injection h2 with h2; rw [h2, UInt8.toNat_ofNat']; omega) | cases h2
theorem dvv_of {c v : UInt8} (h : dv c = some v) : dvv c = v := by unfold dvv; rw [h]; rfl
def UnPost (w : World) (bs : List UInt8) (e : Ending) (w' : World) : Prop := ∃ v, e = .returned (.tuple #[v, .bool true]) ∧ Own w' w.heap.size v bs ∧ Below w.heap.size w w'
theorem valid_any (cs : List UInt8) (t : Bool) (ht : (cs.length == 64 && hexOk cs) = t) (w : World) (hl : cs.length ≤ 1000000) : Calls Tryz.prog 280 #[.string (str cs)] w fun e w' => e = .returned (.bool t) ∧ w = w' := by
 have hsz := str_size cs
 by_cases h64 : cs.length = 64
 ·rw [h64] at hsz
  rw [beq_iff_eq.2 h64, Bool.true_and] at ht
  have HT := Lib.hid ht
  clear ht h64
  go_enter Tryz.func280, Tryz.ntmps280
  go_wp2_with fail
  cases t with
  | false =>
   refine (ishex_no cs _ HT.out hl).mono ?_
   rintro e w' ⟨rfl, rfl⟩
   go_wp2_with fail
   go_ret
   exact ⟨rfl, rfl⟩
  | true =>
   refine (ishex_yes cs _ HT.out hl).mono ?_
   rintro e w' ⟨rfl, rfl⟩
   go_wp2_with fail
   go_ret
   exact ⟨rfl, rfl⟩
 ·rw [beq_eq_false_iff_ne.2 h64, Bool.false_and] at ht
  subst ht
  obtain ⟨l, hL⟩ : ∃ l, cs.length = l := ⟨_, rfl⟩
  rw [hL] at hsz h64
  have e1 : ((l : Int) == 64) = false := beq_eq_false_iff_ne.2 (by omega)
  clear hL
  go_enter Tryz.func280, Tryz.ntmps280
  go_wp2_with fail
  go_ret
  exact ⟨rfl, rfl⟩
/-! Plain: there and back. -/
theorem dv_hexd (n : UInt8) (h : n.toNat < 16) : dv (hexd n) = some n := by
 obtain ⟨m, hm, rfl⟩ : ∃ m, m < 16 ∧ n = UInt8.ofNat m := ⟨n.toNat, h, by simp⟩
 have key : ∀ m, m < 16 → dv (hexd (UInt8.ofNat m)) = some (UInt8.ofNat m) := by decide +kernel
 exact key m hm
theorem hexd_dv (c v : UInt8) (h : dv c = some v) : hexd v = c := by
 have key : ∀ n, n < 256 → ∀ v, dv (UInt8.ofNat n) = some v → hexd v = UInt8.ofNat n := by
  intro n hn v hv
  have : ∀ n, n < 256 → (match dv (UInt8.ofNat n) with | some v => hexd v == UInt8.ofNat n | none => true) = true := by decide +kernel
  have := this n hn
  rw [hv] at this
  exact beq_iff_eq.1 this
 have hc : c = UInt8.ofNat c.toNat := by simp
 rw [hc] at h ⊢
 exact key c.toNat c.toNat_lt v h
theorem hexL_cons (x : UInt8) (r : List UInt8) : hexL (x :: r) = hexd (hi4 x) :: hexd (lo4 x) :: hexL r := rfl
theorem un2_hex (x : UInt8) : un2 (hexd (hi4 x)) (hexd (lo4 x)) = x := by
 unfold un2
 rw [dvv_of (dv_hexd _ (hi4_lt x)), dvv_of (dv_hexd _ (lo4_lt x))]
 have := x.toNat_lt
 unfold hi4 lo4
 rw [UInt8.toNat_ofNat', UInt8.toNat_ofNat', show 16 * (x.toNat / 16 % 2 ^ 8) + x.toNat % 16 % 2 ^ 8 = x.toNat from by omega]
 simp
theorem unhexL_cons (a b : UInt8) (r : List UInt8) : unhexL (a :: b :: r) = un2 a b :: unhexL r := by
 unfold unhexL unhexN
 rw [show (a :: b :: r).length / 2 = r.length / 2 + 1 from by simp; omega, List.range_succ_eq_map, List.map_cons, List.map_map]
 congr 1
theorem unhexL_hexL (bs : List UInt8) : unhexL (hexL bs) = bs := by
 induction bs with
 | nil => rfl
 | cons x r ih => rw [hexL_cons, unhexL_cons, ih, un2_hex]
theorem hexL_unhexL (cs : List UInt8) (h : hexOk cs = true) : hexL (unhexL cs) = cs := by
 match cs, h with
 | [], _ => rfl
 | [a], h => cases hexOk_even h
 | a :: b :: r, h =>
  obtain ⟨v1, h1⟩ := hexOk_at h 0 (by simp)
  obtain ⟨v2, h2⟩ := hexOk_at h 1 (by simp)
  have hr : hexOk r = true := by
   refine hexOk_of ?_ ?_
   ·have := hexOk_even h
    simp at this
    omega
   ·intro k hk
    exact hexOk_at h (k + 2) (by simp; omega)
  have e1 : hexd v1 = a := hexd_dv a v1 h1
  have e2 : hexd v2 = b := hexd_dv b v2 h2
  have l1 := dv_lt a v1 h1
  have l2 := dv_lt b v2 h2
  rw [unhexL_cons, hexL_cons, hexL_unhexL r hr]
  have hd1 : dv a = some v1 := h1
  have hd2 : dv b = some v2 := h2
  have u1 : hi4 (un2 a b) = v1 := by
   apply UInt8.toNat_inj.1
   unfold hi4 un2
   rw [dvv_of hd1, dvv_of hd2, UInt8.toNat_ofNat', UInt8.toNat_ofNat']
   omega
  have u2 : lo4 (un2 a b) = v2 := by
   apply UInt8.toNat_inj.1
   unfold lo4 un2
   rw [dvv_of hd1, dvv_of hd2, UInt8.toNat_ofNat', UInt8.toNat_ofNat']
   omega
  rw [u1, u2, e1, e2]
end Go.Proofs.YtpfjlhpahmhkhaaGreat.Sh
/- Numbers in groups of seven bits: plain lists, no Go in it. -/
namespace Go.Proofs.YtpfjlhpahmhkhaaGreat.Sh
def putL (n : Nat) : List UInt8 := if n < 128 then [UInt8.ofNat n] else UInt8.ofNat (n % 128 + 128) :: putL (n / 128)
termination_by n
decreasing_by omega
theorem putL_lt {n : Nat} (h : n < 128) : putL n = [UInt8.ofNat n] := by rw [putL, if_pos h]
theorem putL_ge {n : Nat} (h : 128 ≤ n) : putL n = UInt8.ofNat (n % 128 + 128) :: putL (n / 128) := by rw [putL, if_neg (by omega)]
theorem putL_ind {P : Nat → Prop} (h1 : ∀ n, n < 128 → P n) (h2 : ∀ n, 128 ≤ n → P (n / 128) → P n) (n : Nat) : P n := by
 induction n using Nat.strongRecOn with
 | ind n ih =>
  by_cases h : n < 128
  ·exact h1 n h
  ·exact h2 n (by omega) (ih _ (by omega))
theorem putL_pos (n : Nat) : 0 < (putL n).length := by
 by_cases h : n < 128
 ·rw [putL_lt h]; simp
 ·rw [putL_ge (by omega)]; simp
theorem putL_len (k : Nat) : ∀ n, n < 128 ^ (k + 1) → (putL n).length ≤ k + 1 := by
 induction k with
 | zero => intro n h; rw [putL_lt (by simpa using h)]; simp
 | succ k ih =>
  intro n h
  by_cases h1 : n < 128
  ·rw [putL_lt h1]; simp
  ·rw [putL_ge (by omega), List.length_cons]
   have : n / 128 < 128 ^ (k + 1) := by
    rw [Nat.div_lt_iff_lt_mul (by omega), ← Nat.pow_succ]; exact h
   have := ih _ this
   omega
theorem putL_len9 {n : Nat} (h : n ≤ 72057594037927936) : (putL n).length ≤ 9 := putL_len 8 n (by
 have : (128 : Nat) ^ (8 + 1) = 9223372036854775808 := by decide
 omega)
def valL : List UInt8 → Nat
 | [] => 0
 | c :: r => c.toNat % 128 + 128 * valL r
theorem valL_putL (n : Nat) : valL (putL n) = n := by
 induction n using putL_ind with
 | h1 n h => rw [putL_lt h]; simp [valL]; omega
 | h2 n h ih =>
  rw [putL_ge h]
  show (UInt8.ofNat (n % 128 + 128)).toNat % 128 + 128 * valL (putL (n / 128)) = n
  rw [ih, UInt8.toNat_ofNat']
  omega
theorem valL_lt (g : List UInt8) : valL g < 128 ^ g.length := by
 induction g with
 | nil => simp [valL]
 | cons c r ih =>
  show c.toNat % 128 + 128 * valL r < 128 ^ (r.length + 1)
  rw [Nat.pow_succ]
  omega
theorem valL_drop (g : List UInt8) (i : Nat) (h : i < g.length) : valL (g.drop i) = (g.getD i 0).toNat % 128 + 128 * valL (g.drop (i + 1)) := by
 rw [List.drop_eq_getElem_cons h, List.getD_eq_getElem?_getD, List.getElem?_eq_getElem h]
 rfl
def cont : List UInt8 → Nat
 | [] => 0
 | c :: r => if 128 ≤ c.toNat then cont r + 1 else 0
theorem cont_le (t : List UInt8) : cont t ≤ t.length := by
 induction t with
 | nil => simp [cont]
 | cons c r ih =>
  by_cases h : 128 ≤ c.toNat <;> simp [cont, h]
  exact ih
theorem cont_at (t : List UInt8) : ∀ i, i < cont t → 128 ≤ (t.getD i 0).toNat := by
 induction t with
 | nil => intro i h; simp [cont] at h
 | cons c r ih =>
  intro i hi
  by_cases h : 128 ≤ c.toNat
  ·simp [cont, h] at hi
   cases i with
   | zero => exact h
   | succ i => exact ih i (by omega)
  ·simp [cont, h] at hi
theorem cont_end (t : List UInt8) (h : cont t < t.length) : (t.getD (cont t) 0).toNat < 128 := by
 induction t with
 | nil => simp [cont] at h
 | cons c r ih =>
  by_cases hc : 128 ≤ c.toNat
  ·simp only [cont, if_pos hc] at h ⊢
   exact ih (by simpa using h)
  ·simp only [cont, if_neg hc]
   show c.toNat < 128
   omega
theorem cont_eq (t : List UInt8) (k : Nat) (hk : k ≤ t.length) (h : ∀ i, i < k → 128 ≤ (t.getD i 0).toNat) (h2 : k < t.length → (t.getD k 0).toNat < 128) : cont t = k := by
 have a := cont_le t
 rcases Nat.lt_trichotomy (cont t) k with hl | he | hg
 ·have := h _ hl
  have := cont_end t (by omega)
  omega
 ·exact he
 ·have := cont_at t k hg
  have := h2 (by omega)
  omega
def shapeL (g : List UInt8) : Prop := g ≠ [] ∧ (∀ i, i + 1 < g.length → 128 ≤ (g.getD i 0).toNat) ∧ (g.getD (g.length - 1) 0).toNat < 128
theorem shapeL_cons {c d : UInt8} {r : List UInt8} (h : shapeL (c :: d :: r)) : 128 ≤ c.toNat ∧ shapeL (d :: r) :=
 ⟨h.2.1 0 (by simp), by simp, fun i hi => h.2.1 (i + 1) (by simpa using hi), h.2.2⟩
theorem valL_zero {g : List UInt8} (h : shapeL g) (hv : valL g = 0) : g.getD (g.length - 1) 0 = 0 := by
 induction g with
 | nil => exact absurd rfl h.1
 | cons c r ih =>
  have hv' : c.toNat % 128 + 128 * valL r = 0 := hv
  cases r with
  | nil =>
   have hc : c.toNat < 128 := h.2.2
   show c = 0
   exact UInt8.toNat_inj.1 (by show c.toNat = 0; omega)
  | cons d r => exact ih (shapeL_cons h).2 (by omega)
theorem byte_val (c : UInt8) (h : 128 ≤ c.toNat) (v : Nat) : UInt8.ofNat ((c.toNat % 128 + 128 * v) % 128 + 128) = c := by
 apply UInt8.toNat_inj.1
 have := c.toNat_lt
 rw [UInt8.toNat_ofNat']
 omega
theorem putL_valL {g : List UInt8} (h : shapeL g) (hz : g.length = 1 ∨ g.getD (g.length - 1) 0 ≠ 0) : putL (valL g) = g := by
 induction g with
 | nil => exact absurd rfl h.1
 | cons c r ih =>
  cases r with
  | nil =>
   have hc : c.toNat < 128 := h.2.2
   have e : valL [c] = c.toNat := by show c.toNat % 128 + 128 * 0 = _; omega
   rw [e, putL_lt hc]
   simp
  | cons d r =>
   obtain ⟨hc, hs⟩ := shapeL_cons h
   have hl : (d :: r).getD ((d :: r).length - 1) 0 ≠ 0 := hz.resolve_left (by simp)
   have hv : valL (d :: r) ≠ 0 := fun e => hl (valL_zero hs e)
   show putL (c.toNat % 128 + 128 * valL (d :: r)) = _
   rw [putL_ge (by omega), show (c.toNat % 128 + 128 * valL (d :: r)) / 128 = valL (d :: r) from by omega, ih hs (Or.inr hl), byte_val c hc]
theorem putL_not {g : List UInt8} (h : 1 < g.length) (hl : g.getD (g.length - 1) 0 = 0) : ∀ n, putL n ≠ g := by
 intro n
 induction n using putL_ind generalizing g with
 | h1 n hn => rw [putL_lt hn]; intro e; rw [← e] at h; simp at h
 | h2 n hn ih =>
  rw [putL_ge hn]
  intro e
  cases g with
  | nil => simp at h
  | cons c r =>
   injection e with _ e
   by_cases h1 : 1 < r.length
   ·refine ih h1 ?_ e
    cases r with
    | nil => simp at h1
    | cons d r => exact hl
   ·cases r with
    | nil => simp at h
    | cons d r =>
     have hr : r = [] := by cases r with | nil => rfl | cons _ _ => simp at h1
     subst hr
     have hd : d = 0 := hl
     subst hd
     have h2 := congrArg valL e
     rw [valL_putL] at h2
     have h3 : n / 128 = 0 := by rw [h2]; rfl
     omega
theorem shapeL_putL (n : Nat) : shapeL (putL n) := by
 induction n using putL_ind with
 | h1 n h =>
  rw [putL_lt h]
  refine ⟨by simp, fun i hi => by simp at hi, ?_⟩
  show (UInt8.ofNat n).toNat < 128
  rw [UInt8.toNat_ofNat']; omega
 | h2 n h ih =>
  rw [putL_ge h]
  have hp := putL_pos (n / 128)
  refine ⟨by simp, fun i hi => ?_, ?_⟩
  ·cases i with
   | zero => show 128 ≤ (UInt8.ofNat (n % 128 + 128)).toNat; rw [UInt8.toNat_ofNat']; omega
   | succ i => exact ih.2.1 i (by simpa using hi)
  ·have := ih.2.2
   rw [List.length_cons, Nat.add_sub_cancel]
   obtain ⟨m, hm⟩ : ∃ m, (putL (n / 128)).length = m + 1 := ⟨(putL (n / 128)).length - 1, by omega⟩
   rw [hm] at this ⊢
   exact this
theorem cont_take {t : List UInt8} (h : cont t < t.length) : shapeL (t.take (cont t + 1)) ∧ (t.take (cont t + 1)).length = cont t + 1 := by
 have hl : (t.take (cont t + 1)).length = cont t + 1 := by rw [List.length_take]; omega
 refine ⟨⟨fun e => by rw [e] at hl; simp at hl, fun i hi => ?_, ?_⟩, hl⟩
 ·rw [hl] at hi
  rw [List.getD_eq_getElem?_getD, List.getElem?_take, if_pos (by omega), ← List.getD_eq_getElem?_getD]
  exact cont_at t i (by omega)
 ·rw [hl, Nat.add_sub_cancel, List.getD_eq_getElem?_getD, List.getElem?_take, if_pos (by omega), ← List.getD_eq_getElem?_getD]
  exact cont_end t h
theorem cont_putL (n : Nat) (r : List UInt8) : cont (putL n ++ r) + 1 = (putL n).length := by
 have hs := shapeL_putL n
 have hp := putL_pos n
 have : cont (putL n ++ r) = (putL n).length - 1 := by
  refine cont_eq _ _ (by simp; omega) (fun i hi => ?_) (fun _ => ?_)
  ·rw [List.getD_eq_getElem?_getD, List.getElem?_append_left (by omega), ← List.getD_eq_getElem?_getD]
   exact hs.2.1 i (by omega)
  ·rw [List.getD_eq_getElem?_getD, List.getElem?_append_left (by omega), ← List.getD_eq_getElem?_getD]
   exact hs.2.2
 omega
def okL (g : List UInt8) : Bool := putL (valL g) == g && decide (valL g ≤ 72057594037927936)
theorem okL_long {g : List UInt8} (h : 9 < g.length) : okL g = false := by
 unfold okL
 rw [Bool.and_eq_false_iff]
 by_cases hv : valL g ≤ 72057594037927936
 ·left
  rw [beq_eq_false_iff_ne]
  intro e
  have := putL_len9 hv
  rw [e] at this
  omega
 ·right; exact decide_eq_false hv
theorem okL_zero {g : List UInt8} (h : 1 < g.length) (hl : g.getD (g.length - 1) 0 = 0) : okL g = false := by
 unfold okL
 rw [beq_eq_false_iff_ne.2 (putL_not h hl _), Bool.false_and]
theorem okL_else {g : List UInt8} (h : shapeL g) (hz : g.length = 1 ∨ g.getD (g.length - 1) 0 ≠ 0) : okL g = decide (valL g ≤ 72057594037927936) := by
 unfold okL
 rw [beq_iff_eq.2 (putL_valL h hz), Bool.true_and]
theorem okL_putL {n : Nat} (h : n ≤ 72057594037927936) : okL (putL n) = true := by
 unfold okL
 rw [valL_putL, beq_self_eq_true, Bool.true_and]
 exact decide_eq_true h
def getE (t : List UInt8) : Nat × Nat × Nat :=
 if cont t = t.length then (0, 0, 2) else if okL (t.take (cont t + 1)) = true then (valL (t.take (cont t + 1)), cont t + 1, 0) else (0, 0, 4)
theorem getE_short {t : List UInt8} (h : cont t = t.length) : getE t = (0, 0, 2) := by unfold getE; rw [if_pos h]
theorem getE_form {t : List UInt8} (h : cont t < t.length) (ho : okL (t.take (cont t + 1)) = false) : getE t = (0, 0, 4) := by unfold getE; rw [if_neg (by omega), if_neg (by rw [ho]; decide)]
theorem getE_ok {t : List UInt8} (h : cont t < t.length) (ho : okL (t.take (cont t + 1)) = true) : getE t = (valL (t.take (cont t + 1)), cont t + 1, 0) := by unfold getE; rw [if_neg (by omega), if_pos ho]
theorem getE_putL {n : Nat} (h : n ≤ 72057594037927936) (r : List UInt8) : getE (putL n ++ r) = (n, (putL n).length, 0) := by
 have hc := cont_putL n r
 have e : (putL n ++ r).take (cont (putL n ++ r) + 1) = putL n := by rw [hc, List.take_left]
 rw [getE_ok (by rw [List.length_append]; omega) (by rw [e]; exact okL_putL h), e, valL_putL, hc]
def getR (bs : List UInt8) (at_ : Int) : Int × Int × Int :=
 if at_ < 0 ∨ (bs.length : Int) < at_ then (0, 0, 1) else
  if (getE (bs.drop at_.toNat)).2.2 = 0 then (((getE (bs.drop at_.toNat)).1 : Int), at_ + ((getE (bs.drop at_.toNat)).2.1 : Int), 0) else (0, 0, ((getE (bs.drop at_.toNat)).2.2 : Int))
theorem getR_range {bs : List UInt8} {a : Int} (h : a < 0 ∨ (bs.length : Int) < a) : getR bs a = (0, 0, 1) := by unfold getR; rw [if_pos h]
theorem getR_in {bs : List UInt8} {k : Nat} (h : k ≤ bs.length) : getR bs k = if (getE (bs.drop k)).2.2 = 0 then (((getE (bs.drop k)).1 : Int), (k : Int) + ((getE (bs.drop k)).2.1 : Int), 0) else (0, 0, ((getE (bs.drop k)).2.2 : Int)) := by
 unfold getR
 rw [if_neg (by omega), Int.toNat_natCast]
theorem getR_short {bs : List UInt8} {k : Nat} (h : k ≤ bs.length) (hc : cont (bs.drop k) = (bs.drop k).length) : getR bs k = (0, 0, 2) := by
 rw [getR_in h, getE_short hc]; rfl
theorem getR_form {bs : List UInt8} {k : Nat} (h : k ≤ bs.length) (hc : cont (bs.drop k) < (bs.drop k).length) (ho : okL ((bs.drop k).take (cont (bs.drop k) + 1)) = false) : getR bs k = (0, 0, 4) := by
 rw [getR_in h, getE_form hc ho]; rfl
theorem getR_ok {bs : List UInt8} {k : Nat} (h : k ≤ bs.length) (hc : cont (bs.drop k) < (bs.drop k).length) (ho : okL ((bs.drop k).take (cont (bs.drop k) + 1)) = true) :
  getR bs k = ((valL ((bs.drop k).take (cont (bs.drop k) + 1)) : Int), (k : Int) + ((cont (bs.drop k) + 1 : Nat) : Int), 0) := by
 rw [getR_in h, getE_ok hc ho]; rfl
end Go.Proofs.YtpfjlhpahmhkhaaGreat.Sh
/- The reference: turn, digit, the constants. -/
namespace Go.Proofs.YtpfjlhpahmhkhaaGreat.Sh
open Go.RowKit
set_option maxHeartbeats 400000 in
theorem turn_any (u : UInt32) (n : Nat) (h1 : 0 < n) (h2 : n < 32) (w : World) :
  Calls Tryz.prog 252 #[.int .u32 (wi u), .int .i64 (n : Int)] w fun e w' => e = .returned (.int .u32 (wi (rotl u (32 - n)))) ∧ ∃ k, w' = w.drewN k := by
 have r1 : wi u * 2 ^ (32 - n) % 4294967296 = wi (shlw u (32 - n)) := by rw [← wshl u (32 - n) (by omega), IntKind.wrap_u32]
 have r2 := wshr u n h2
 have e1 : IntKind.i64.wrap (32 - (n : Int)) = ((32 - n : Nat) : Int) := by rw [IntWalk.i64_in _ (by omega)]; omega
 have e2 := wor (shrw u n) (shlw u (32 - n))
 have e3 : (0 : Int) ≤ (n : Int) := by omega
 have e4 : (0 : Int) ≤ ((32 - n : Nat) : Int) := by omega
 have E : Hid (rotl u (32 - n) = shrw u n ||| shlw u (32 - n)) := by
  unfold Hid rotl
  rw [show 32 - (32 - n) = n from by omega, UInt32.or_comm]
 go_enter Tryz.func252, Tryz.ntmps252
 go_wp2_with fail
 go_quiet (fail)
 go_wp2_with fail
 go_ret
 exact ⟨by rw [E.out]; rfl, _, rfl⟩
def KPost (w : World) (e : Ending) (w' : World) : Prop := ∃ g, e = .returned (.slice (some ⟨g, 0, none⟩) 64 64) ∧ Blk w' g 340 kv.toArray ∧ w.heap.size ≤ g ∧ Below w.heap.size w w'
set_option maxRecDepth 100000 in
set_option maxHeartbeats 400000 in
theorem rconst_any (w : World) : Calls Tryz.prog 251 #[] w (KPost w) := by
 go_enter Tryz.func251, Tryz.ntmps251
 go_wp2_with fail
 go_ret
 refine ⟨w.heap.size, rfl, ?_, Nat.le_refl _, (Below.refl _ _).alloc (Nat.le_refl _) _⟩
 rw [kv_lit]
 exact heap_alloc_new _ _
end Go.Proofs.YtpfjlhpahmhkhaaGreat.Sh
/- The reference: Hex, Unhex, Valid. -/
namespace Go.Proofs.YtpfjlhpahmhkhaaGreat.Sh
open Go.RowKit
theorem Own.nil_ (w : World) (B : Nat) : Own w B (.slice none 0 0) [] := World.ownsRow_nil w B 5 1
set_option maxRecDepth 100000 in
set_option maxHeartbeats 800000 in
theorem rhex_any (v : Value) (bs : List UInt8) (w : World) (h : Sl w v bs) (hn : bs.length ≤ 1000000) : Calls Tryz.prog 186 #[v] w (StrPost w (hexL bs)) := by
 obtain ⟨A, c, rfl, hlc, hcm, hI, hA⟩ := h
 unfold maxLen at hcm
 obtain ⟨l, hl⟩ : ∃ l, bs.length = l := ⟨_, rfl⟩
 rw [hl] at hlc hn ⊢
 have HL := Lib.hid hl
 have HI := Lib.hid hI
 have HA := Lib.hid hA
 clear hl hI hA
 go_enter Tryz.func186, Tryz.ntmps186
 go_wp2_with fail
 go_loopw [4, 5] (fun v i wr => ∃ k : Nat, k ≤ l ∧ i = .int .i64 k ∧ Own wr w.heap.size v (hexL (bs.take k)) ∧ Below w.heap.size w wr) (fun _ i _ => l - (intOf i).toNat)
 case atStart =>
  exact ⟨0, by omega, rfl, by rw [List.take_zero]; exact Own.nil_ _ _, Below.refl _ _⟩
 case round =>
  obtain ⟨k, hk, rfl, ho, hbw⟩ := hrel
  have hsz := hbw.size
  by_cases hlt : k < l
  ·obtain ⟨adr, hA1, hlt2, hcell⟩ := HI.out (by rw [HL.out]; omega)
   subst hA1
   have hcw : wr.cell? (adr.add k) = some (.int .u8 (bi (bs.getD k 0))) := (hbw.cell (p := adr.add k) (by rw [block_of_add]; exact hlt2)).trans (hcell k (by rw [HL.out]; omega))
   have hcl2 : (adr.add k).block < wr.heap.size := by rw [block_of_add]; omega
   have hsn : Hid (bs.take (k + 1) = bs.take k ++ [bs.getD k 0]) := by
    unfold Hid
    rw [List.take_add_one, List.getElem?_eq_getElem (by rw [HL.out]; exact hlt), List.getD_eq_getElem?_getD, List.getElem?_eq_getElem (by rw [HL.out]; exact hlt)]
    rfl
   generalize bs.getD k 0 = x at *
   have hj1 : (0 : Int) ≤ (k : Int) := by omega
   have hj2 : (k : Int) < (l : Int) := by omega
   have HO := Lib.hid ho
   have HBW := Lib.hid hbw
   clear ho hbw hcell
   have p1 := bi_hi4 x
   have p2 := bi_lo4 x
   have p3 := index_digit (hi4 x) (hi4_lt x)
   have p4 := index_digit (lo4 x) (lo4_lt x)
   have hxl : (hexL (bs.take k)).length + 2 ≤ 140737488355328 := by rw [hexL_length, List.length_take]; omega
   obtain ⟨i0, hi, hz0, hz1, hz2⟩ := info_parts info5
   go_wp2_with fail
   go_region_held3 (fun w' => w'.cell? (adr.add k) = some (.int .u8 (bi x))) (first | exact hcw | exact (World.cell?_alloc_lt _ _ (adr.add k) hcl2).trans hcw | exact hcw1)
    (first | (refine step_append_any _ rfl (.tmp 12) (.tmp 27) 32 rfl w.heap.size 5 i0 (.int .u8 0) 1 1 Tryz.underlying32 hi hz0 hz1 hz2 rfl (by decide) u4 (hexL (bs.take k)).length _ rfl (HO.out.drew.alloc _) (wr.heap.size + 1) (some ⟨wr.heap.size, 0, none⟩) 2 2 ((hex2 x).map bv) rfl (reads_new wr.drew (hex2 x) _ rfl 2 rfl) (bv_one _) (by unfold maxLen; omega) (by omega) (by simp; omega) ?_; intro v1 w1 hown1 hgrow1 hblk1; have hcw1 : w1.cell? (adr.add k) = some (.int .u8 (bi x)) := ((((Below.refl w.heap.size wr.drew).alloc hsz _).grown hgrow1 (by simp; omega) (fun k hk => (World.ownsRow.lt HO.out k hk).1)).cell (p := adr.add k) (by rw [block_of_add]; exact hlt2)).trans hcw))
   all_goals
    have ho1 : Own w1 w.heap.size v1 (hexL (bs.take (k + 1))) := by
     rw [hsn.out, hexL_snoc]
     unfold Own
     rw [List.length_append, List.map_append]
     exact hown1
    have hb1 : Below w.heap.size w w1 := ((HBW.out.drew).alloc hsz _).grown hgrow1 (by simp; omega) (fun k hk => (World.ownsRow.lt HO.out k hk).1)
    have HO1 := Lib.hid ho1
    have HB1 := Lib.hid hb1
    clear ho1 hb1 hown1 hgrow1 hblk1 p1 p2 p3 p4
    go_wp2
    go_roundw
    case rel => exact ⟨k + 1, by omega, by go_num, HO1.out, HB1.out⟩
    case measure => simp [intOf]; omega
  ·obtain rfl : k = l := by omega
   rw [List.take_of_length_le (by rw [HL.out]; omega)] at ho
   obtain ⟨A3, c3, hv3, hA3, hA4, hI3, hA5⟩ := ho.sl
   subst hv3
   have hcs := conv_str wr A3 (hexL bs) c3 hI3 hA5
   have HBW := Lib.hid hbw
   clear ho hI3 hA5 hbw
   obtain ⟨m, hm⟩ : ∃ m, (hexL bs).length = m := ⟨_, rfl⟩
   rw [hm] at hcs ⊢
   clear hm
   go_wp2
   go_ret
   exact ⟨rfl, HBW.out⟩
end Go.Proofs.YtpfjlhpahmhkhaaGreat.Sh
/- Put, both. -/
namespace Go.Proofs.YtpfjlhpahmhkhaaGreat.Sh
open Go.RowKit
theorem ofInt_i64 (a : Nat) (ha : a < 9223372036854775808) : (BitVec.ofInt 64 (a : Int)).toNat = a := by
 rw [BitVec.ofInt_natCast, BitVec.toNat_ofNat]; exact Nat.mod_eq_of_lt (by omega)
theorem i64_and_nat (a b : Nat) (ha : a < 9223372036854775808) (hb : b < 9223372036854775808) : bits .and .i64 (a : Int) (b : Int) = ((a &&& b : Nat) : Int) := by
 have hx : a &&& b < 2 ^ 63 := Nat.and_lt_two_pow _ (by omega)
 show IntKind.i64.wrap ((BitVec.ofInt 64 (a : Int) &&& BitVec.ofInt 64 (b : Int)).toNat : Int) = _
 rw [BitVec.toNat_and, ofInt_i64 a ha, ofInt_i64 b hb, IntKind.wrap_i64]
 omega
theorem i64_or_nat (a b : Nat) (ha : a < 9223372036854775808) (hb : b < 9223372036854775808) : bits .or .i64 (a : Int) (b : Int) = ((a ||| b : Nat) : Int) := by
 have hx : a ||| b < 2 ^ 63 := Nat.or_lt_two_pow (by omega) (by omega)
 show IntKind.i64.wrap ((BitVec.ofInt 64 (a : Int) ||| BitVec.ofInt 64 (b : Int)).toNat : Int) = _
 rw [BitVec.toNat_or, ofInt_i64 a ha, ofInt_i64 b hb, IntKind.wrap_i64]
 omega
def PutPost (w : World) (n : Nat) (e : Ending) (w' : World) : Prop := ∃ v, e = .returned (.tuple #[v, .int .i64 0]) ∧ Own w' w.heap.size v (putL n) ∧ Below w.heap.size w w'
theorem nat_or128 (x : Nat) (h : x < 128) : x ||| 128 = x + 128 := by
 have := Nat.two_pow_add_eq_or_of_lt (i := 7) (b := x) (by simpa using h) 1
 rw [Nat.or_comm]
 simp at this
 omega
theorem or128 (m : Int) (k : Nat) (h : m = (k : Int)) (hk : k < 128) : bits .or .u8 m 128 = bi (UInt8.ofNat (k + 128)) := by
 subst h
 rw [show (128 : Int) = ((128 : Nat) : Int) from rfl, u8_or_nat _ _ (by omega) (by omega), nat_or128 k hk]
 unfold bi
 rw [UInt8.toNat_ofNat']
 omega
theorem bi_nat (m : Nat) (h : m < 256) : bi (UInt8.ofNat m) = (m : Int) := by
 unfold bi
 rw [UInt8.toNat_ofNat']
 omega
set_option maxRecDepth 100000 in
set_option maxHeartbeats 800000 in
theorem put_any (n : Nat) (w : World) (h : n ≤ 72057594037927936) : Calls Tryz.prog 241 #[.int .i64 (n : Int)] w (PutPost w n) := by
 have h0 : (0 : Int) ≤ (n : Int) := by omega
 have h1 : (n : Int) ≤ 72057594037927936 := by omega
 have hlen := putL_len9 h
 have HLEN := Lib.hid hlen
 clear hlen
 obtain ⟨n0, hn0⟩ : ∃ n0, n0 = n := ⟨_, rfl⟩
 rw [← hn0] at HLEN
 have HN := Lib.hid hn0
 have hpost : PutPost w n = PutPost w n0 := by rw [hn0]
 rw [hpost]
 clear hn0 hpost
 go_enter Tryz.func241, Tryz.ntmps241
 go_wp2
 go_loopw [0, 4] (fun x v wr => ∃ (m : Nat) (bs : List UInt8), m ≤ 72057594037927936 ∧ x = .int .i64 m ∧ Own wr w.heap.size v bs ∧ putL n0 = bs ++ putL m ∧ Below w.heap.size w wr) (fun x _ _ => (intOf x).toNat)
 case atStart => exact ⟨n, [], h, rfl, Own.nil_ _ _, by rw [HN.out]; rfl, Below.refl _ _⟩
 case round =>
  obtain ⟨m, bs, hm, rfl, ho, hput, hbw⟩ := hrel
  have hwz := hbw.size
  have hlen : bs.length + 1 ≤ 9 := by
   have := HLEN.out
   rw [hput, List.length_append] at this
   have := putL_pos m
   omega
  have hsm : bs.length + 1 ≤ 140737488355328 := by omega
  have HO := Lib.hid ho
  have HP := Lib.hid hput
  have HBW := Lib.hid hbw
  clear ho hput hbw
  have hm0 : (0 : Int) ≤ (m : Int) := by omega
  have hm1 : (m : Int) ≤ 72057594037927936 := by omega
  by_cases hlt : m < 128
  ·have hm2 : (m : Int) < 128 := by omega
   go_wp2_with (at_builtin; refine append_byte rfl (.tmp 22) (.tmp 25) rfl wr w.heap.size u4 bs rfl HO.out _ (UInt8.ofNat m) (bi_nat m (by omega)) rfl hsm hwz ?_; intro v3 w3 ho3 hb3; have HO3 := Lib.hid ho3; have HB3 := Lib.hid hb3; clear ho3 hb3)
   go_ret2
   refine ⟨v3, rfl, ?_, HBW.out.trans HB3.out⟩
   rw [HP.out, putL_lt hlt]
   exact HO3.out
  ·have hm2 : (128 : Int) ≤ (m : Int) := by omega
   have hor := or128 ((m : Int) % 128) (m % 128) (by omega) (by omega)
   obtain ⟨y, hy⟩ : ∃ y, UInt8.ofNat (m % 128 + 128) = y := ⟨_, rfl⟩
   rw [hy] at hor
   have HY := Lib.hid hy
   clear hy
   go_wp2_with (at_builtin; refine append_byte rfl (.tmp 13) (.tmp 18) rfl wr w.heap.size u4 bs rfl HO.out _ y rfl rfl hsm hwz ?_; intro v3 w3 ho3 hb3; have HO3 := Lib.hid ho3; have HB3 := Lib.hid hb3; clear ho3 hb3)
   refine ⟨⟨m / 128, bs ++ [y], by omega, ?_, HO3.out, ?_, HBW.out.trans HB3.out⟩, ?_⟩
   ·congr 1
   ·rw [HP.out, putL_ge (show 128 ≤ m by omega), HY.out, List.append_assoc]; rfl
   ·simp [intOf]; omega
theorem and127 (m : Nat) (h : m ≤ 72057594037927936) : bits .and .i64 (m : Int) 127 = (m : Int) % 128 := by
 rw [show (127 : Int) = ((127 : Nat) : Int) from rfl, i64_and_nat _ _ (by omega) (by omega), show m &&& 127 = m % 128 from Nat.and_two_pow_sub_one_eq_mod m 7]
 omega
theorem or128i (m : Nat) : bits .or .i64 ((m : Int) % 128) 128 = (m : Int) % 128 + 128 := by
 rw [show (m : Int) % 128 = ((m % 128 : Nat) : Int) by omega, show (128 : Int) = ((128 : Nat) : Int) from rfl, i64_or_nat _ _ (by omega) (by omega), nat_or128 _ (by omega)]
 omega
theorem sum128 (m : Nat) : bi (UInt8.ofNat (m % 128 + 128)) = (m : Int) % 128 + 128 := by
 rw [bi_nat _ (by omega)]
 omega
theorem rput_err (n : Int) (w : World) (h : n < 0 ∨ 72057594037927936 < n) : Calls Tryz.prog 253 #[.int .i64 n] w fun e w' => e = .returned (.tuple #[.slice none 0 0, .int .i64 1]) ∧ w = w' := by
 rcases h with h | h
 ·go_enter Tryz.func253, Tryz.ntmps253
  go_wp2
  go_ret2
  exact ⟨rfl, rfl⟩
 ·have h0 : 0 ≤ n := by omega
  go_enter Tryz.func253, Tryz.ntmps253
  go_wp2
  go_ret2
  exact ⟨rfl, rfl⟩
set_option maxRecDepth 100000 in
set_option maxHeartbeats 800000 in
theorem rput_any (n : Nat) (w : World) (h : n ≤ 72057594037927936) : Calls Tryz.prog 253 #[.int .i64 (n : Int)] w (PutPost w n) := by
 have h0 : (0 : Int) ≤ (n : Int) := by omega
 have h1 : (n : Int) ≤ 72057594037927936 := by omega
 have hlen := putL_len9 h
 have HLEN := Lib.hid hlen
 clear hlen
 obtain ⟨n0, hn0⟩ : ∃ n0, n0 = n := ⟨_, rfl⟩
 rw [← hn0] at HLEN
 have HN := Lib.hid hn0
 have hpost : PutPost w n = PutPost w n0 := by rw [hn0]
 rw [hpost]
 clear hn0 hpost
 go_enter Tryz.func253, Tryz.ntmps253
 go_wp2
 go_loopw [0, 4] (fun x v wr => ∃ (m : Nat) (bs : List UInt8), m ≤ 72057594037927936 ∧ x = .int .i64 m ∧ Own wr w.heap.size v bs ∧ putL n0 = bs ++ putL m ∧ Below w.heap.size w wr) (fun x _ _ => (intOf x).toNat)
 case atStart => exact ⟨n, [], h, rfl, Own.nil_ _ _, by rw [HN.out]; rfl, Below.refl _ _⟩
 case round =>
  obtain ⟨m, bs, hm, rfl, ho, hput, hbw⟩ := hrel
  have hwz := hbw.size
  have hlen : bs.length + 1 ≤ 9 := by
   have := HLEN.out
   rw [hput, List.length_append] at this
   have := putL_pos m
   omega
  have hsm : bs.length + 1 ≤ 140737488355328 := by omega
  have HO := Lib.hid ho
  have HP := Lib.hid hput
  have HBW := Lib.hid hbw
  clear ho hput hbw
  have hm0 : (0 : Int) ≤ (m : Int) := by omega
  have hm1 : (m : Int) ≤ 72057594037927936 := by omega
  by_cases hlt : m < 128
  ·have hm2 : (m : Int) ≤ 127 := by omega
   go_wp2_with (at_builtin; refine append_byte rfl (.tmp 22) (.tmp 25) rfl wr w.heap.size u4 bs rfl HO.out _ (UInt8.ofNat m) (bi_nat m (by omega)) rfl hsm hwz ?_; intro v3 w3 ho3 hb3; have HO3 := Lib.hid ho3; have HB3 := Lib.hid hb3; clear ho3 hb3)
   go_ret2
   refine ⟨v3, rfl, ?_, HBW.out.trans HB3.out⟩
   rw [HP.out, putL_lt hlt]
   exact HO3.out
  ·have hm2 : (127 : Int) < (m : Int) := by omega
   have hand := and127 m (by omega)
   have hor := or128i m
   have hs := sum128 m
   obtain ⟨y, hy⟩ : ∃ y, UInt8.ofNat (m % 128 + 128) = y := ⟨_, rfl⟩
   rw [hy] at hs
   have HS := Lib.hid hs
   clear hs
   have hb0 : 0 ≤ (m : Int) % 128 := by omega
   have hb1 : (m : Int) % 128 < 128 := by omega
   have HY := Lib.hid hy
   clear hy
   go_wp2_with (at_builtin; refine append_byte rfl (.tmp 13) (.tmp 18) rfl wr w.heap.size u4 bs rfl HO.out _ y HS.out rfl hsm hwz ?_; intro v3 w3 ho3 hb3; have HO3 := Lib.hid ho3; have HB3 := Lib.hid hb3; clear ho3 hb3)
   refine ⟨⟨m / 128, bs ++ [y], by omega, ?_, HO3.out, ?_, HBW.out.trans HB3.out⟩, ?_⟩
   ·congr 1
   ·rw [HP.out, putL_ge (show 128 ≤ m by omega), HY.out, List.append_assoc]; rfl
   ·simp [intOf]; omega
end Go.Proofs.YtpfjlhpahmhkhaaGreat.Sh
