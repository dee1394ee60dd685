/- Texts put together: ShU0. -/
import Derived.Test.YtcmlofgkcalhnaaQo07
/- Digits; texts that are bytes. -/
namespace Go.Proofs.Ytcmlofgkcalhnaa.Sh
open Go.RowKit

/-- A digit's number; none: it is no digit. -/
def dv (c : UInt8) : Option UInt8 := if 48 ≤ c ∧ c ≤ 57 then some (c - 48) else if 97 ≤ c ∧ c ≤ 102 then some (c - 87) else none
theorem dv_cases (c : UInt8) : (bi c < 48 ∧ dv c = none) ∨ (48 ≤ bi c ∧ bi c ≤ 57 ∧ dv c = some (UInt8.ofNat (bi c - 48).toNat)) ∨ (57 < bi c ∧ bi c < 97 ∧ dv c = none) ∨
    (97 ≤ bi c ∧ bi c ≤ 102 ∧ dv c = some (UInt8.ofNat (bi c - 87).toNat)) ∨ (102 < bi c ∧ dv c = none) := by
  obtain ⟨n, hn, rfl⟩ : ∃ n, n < 256 ∧ c = UInt8.ofNat n := ⟨c.toNat, c.toNat_lt, by simp⟩
  have hb : bi (UInt8.ofNat n) = (n : Int) := by unfold bi; rw [UInt8.toNat_ofNat']; omega
  rw [hb]
  have key : ∀ n, n < 256 → (n < 48 ∧ dv (UInt8.ofNat n) = none) ∨ (48 ≤ n ∧ n ≤ 57 ∧ dv (UInt8.ofNat n) = some (UInt8.ofNat (n - 48))) ∨ (57 < n ∧ n < 97 ∧ dv (UInt8.ofNat n) = none) ∨
    (97 ≤ n ∧ n ≤ 102 ∧ dv (UInt8.ofNat n) = some (UInt8.ofNat (n - 87))) ∨ (102 < n ∧ dv (UInt8.ofNat n) = none) := by decide +kernel
  rcases key n hn with ⟨h1, h2⟩ | ⟨h1, h2, h3⟩ | ⟨h1, h2, h3⟩ | ⟨h1, h2, h3⟩ | ⟨h1, h2⟩
  · exact .inl ⟨by omega, h2⟩
  · exact .inr (.inl ⟨by omega, by omega, by rw [h3]; congr 2; omega⟩)
  · exact .inr (.inr (.inl ⟨by omega, by omega, h3⟩))
  · exact .inr (.inr (.inr (.inl ⟨by omega, by omega, by rw [h3]; congr 2; omega⟩)))
  · exact .inr (.inr (.inr (.inr ⟨by omega, h2⟩)))
theorem bi_sub (x : Int) (h0 : 0 ≤ x) (h1 : x ≤ 255) : bi (UInt8.ofNat x.toNat) = x := by
  unfold bi; rw [UInt8.toNat_ofNat']; omega

set_option maxHeartbeats 400000 in
/-- digitValue at no digit. -/
theorem dig_no (c : UInt8) (w : World) (h : dv c = none) : Calls Try.prog 92 #[.int .u8 (bi c)] w fun e w' => e = .returned (.tuple #[.int .u8 0, .bool false]) ∧ w = w' := by
  have hb := bi_lt c
  rcases dv_cases c with ⟨h1, _⟩ | ⟨_, _, h2⟩ | ⟨h1, h2, _⟩ | ⟨_, _, h2⟩ | ⟨h1, _⟩
  · clear h
    generalize bi c = x at *
    go_enter Try.func92, Try.ntmps92
    go_wp2
    go_ret2
    exact ⟨rfl, rfl⟩
  · rw [h] at h2; cases h2
  · clear h
    generalize bi c = x at *
    go_enter Try.func92, Try.ntmps92
    go_wp2
    go_ret2
    exact ⟨rfl, rfl⟩
  · rw [h] at h2; cases h2
  · clear h
    generalize bi c = x at *
    go_enter Try.func92, Try.ntmps92
    go_wp2
    go_ret2
    exact ⟨rfl, rfl⟩
set_option maxHeartbeats 400000 in
theorem dig_yes (c v : UInt8) (w : World) (h : dv c = some v) : Calls Try.prog 92 #[.int .u8 (bi c)] w fun e w' => e = .returned (.tuple #[.int .u8 (bi v), .bool true]) ∧ w = w' := by
  have hb := bi_lt c
  rcases dv_cases c with ⟨_, h2⟩ | ⟨h1, h1', h2⟩ | ⟨_, _, h2⟩ | ⟨h1, h1', h2⟩ | ⟨_, h2⟩
  · rw [h] at h2; cases h2
  · rw [h] at h2
    injection h2 with h2
    subst h2
    clear h
    generalize bi c = x at *
    have HX := Lib.hid (bi_sub (x - 48) (by omega) (by omega))
    go_enter Try.func92, Try.ntmps92
    go_wp2
    go_ret2
    exact ⟨by rw [HX.out]; rfl, rfl⟩
  · rw [h] at h2; cases h2
  · rw [h] at h2
    injection h2 with h2
    subst h2
    clear h
    generalize bi c = x at *
    have HX := Lib.hid (bi_sub (x - 87) (by omega) (by omega))
    have e1 : x - 97 + 10 = x - 87 := by omega
    go_enter Try.func92, Try.ntmps92
    go_wp2
    go_ret2
    exact ⟨by rw [HX.out, ← e1]; rfl, rfl⟩
  · rw [h] at h2; cases h2

theorem str_size (cs : List UInt8) : (str cs).size = cs.length := by
  unfold str ByteArray.size
  simp
theorem index_str (cs : List UInt8) (k : Nat) (hk : k < cs.length) (w : World) : (Instr.index 9 (.string (str cs)) (.int .i64 (k : Int))).run Try.prog w = .ok (.int .u8 (bi (cs.getD k 0))) w := by
  have hsz := str_size cs
  have hg : (str cs)[k]? = some cs[k] := getElem?_pos (str cs) k (by rw [hsz]; exact hk)
  simp [Instr.index, go_sem]
  rw [hg, List.getElem?_eq_getElem hk]
  unfold bi
  rfl

/-- Is it an even number of digits? -/
def hexOk (cs : List UInt8) : Bool := cs.length % 2 == 0 && cs.all (fun c => (dv c).isSome)
theorem hexOk_at {cs : List UInt8} (h : hexOk cs = true) (k : Nat) (hk : k < cs.length) : ∃ v, dv (cs.getD k 0) = some v := by
  unfold hexOk at h
  rw [Bool.and_eq_true] at h
  have := List.all_eq_true.1 h.2 cs[k] (List.getElem_mem hk)
  rw [List.getD_eq_getElem?_getD, List.getElem?_eq_getElem hk]
  exact Option.isSome_iff_exists.1 this
theorem hexOk_even {cs : List UInt8} (h : hexOk cs = true) : cs.length % 2 = 0 := by
  unfold hexOk at h
  rw [Bool.and_eq_true, beq_iff_eq] at h
  exact h.1
theorem hexOk_of {cs : List UInt8} (h : cs.length % 2 = 0) (hd : ∀ k, k < cs.length → ∃ v, dv (cs.getD k 0) = some v) : hexOk cs = true := by
  unfold hexOk
  rw [Bool.and_eq_true, beq_iff_eq]
  refine ⟨h, List.all_eq_true.2 fun c hc => ?_⟩
  obtain ⟨k, hk, rfl⟩ := List.getElem_of_mem hc
  obtain ⟨v, hv⟩ := hd k hk
  rw [List.getD_eq_getElem?_getD, List.getElem?_eq_getElem hk] at hv
  rw [show dv cs[k] = some v from hv]
  rfl

set_option maxHeartbeats 400000 in
/-- isHex. -/
theorem ishex_yes (cs : List UInt8) (w : World) (h : hexOk cs = true) (hl : cs.length ≤ 1000000) : Calls Try.prog 86 #[.string (str cs)] w fun e w' => e = .returned (.bool true) ∧ w = w' := by
  have hev := hexOk_even h
  have hsz := str_size cs
  have H := Lib.hid h
  obtain ⟨l, hL⟩ : ∃ l, cs.length = l := ⟨_, rfl⟩
  rw [hL] at hsz hev hl
  have HL := Lib.hid hL
  clear h hL
  have e1 : (l : Int) % 2 = 0 := by omega
  have e2 : (l : Int).tmod 2 = 0 := by rw [Int.tmod_eq_emod_of_nonneg (by omega)]; omega
  have HEV := Lib.hid hev
  clear hev
  go_enter Try.func86, Try.ntmps86
  go_wp2
  go_loop [12] (fun i => ∃ k : Nat, k ≤ l ∧ i = .int .i64 k) (fun i => l - (intOf i).toNat)
  case atStart => exact ⟨0, by omega, rfl⟩
  case round =>
    obtain ⟨k, hk, rfl⟩ := hrel
    by_cases hlt : k < l
    · have hidx := index_str cs k (by rw [HL.out]; exact hlt)
      obtain ⟨v, hv⟩ := hexOk_at H.out k (by rw [HL.out]; exact hlt)
      generalize cs.getD k 0 = x at *
      have HV := Lib.hid hv
      clear hv
      go_wp2_with (go_at_call 92; refine (dig_yes x v _ HV.out).mono ?_; rintro e w' ⟨rfl, rfl⟩)
      go_round
      case rel => exact ⟨k + 1, by omega, by go_num⟩
      case measure => simp [intOf]; omega
    · obtain rfl : k = l := by omega
      go_wp2
      go_ret
      exact ⟨rfl, rfl⟩

set_option maxHeartbeats 400000 in
theorem ishex_no (cs : List UInt8) (w : World) (h : hexOk cs = false) (hl : cs.length ≤ 1000000) : Calls Try.prog 86 #[.string (str cs)] w fun e w' => e = .returned (.bool false) ∧ w = w' := by
  have hsz := str_size cs
  have H := Lib.hid h
  obtain ⟨l, hL⟩ : ∃ l, cs.length = l := ⟨_, rfl⟩
  rw [hL] at hsz hl
  have HL := Lib.hid hL
  clear h hL
  by_cases hev : l % 2 = 0
  · have e1 : (l : Int) % 2 = 0 := by omega
    have e2 : (l : Int).tmod 2 = 0 := by rw [Int.tmod_eq_emod_of_nonneg (by omega)]; omega
    have HEV := Lib.hid hev
    clear hev
    go_enter Try.func86, Try.ntmps86
    go_wp2
    go_loop [12] (fun i => ∃ k : Nat, k ≤ l ∧ i = .int .i64 k ∧ ∀ j, j < k → ∃ v, dv (cs.getD j 0) = some v) (fun i => l - (intOf i).toNat)
    case atStart => exact ⟨0, by omega, rfl, fun j hj => by omega⟩
    case round =>
      obtain ⟨k, hk, rfl, hall⟩ := hrel
      have HALL := Lib.hid hall
      clear hall
      by_cases hlt : k < l
      · have hidx := index_str cs k (by rw [HL.out]; exact hlt)
        obtain ⟨x, hx⟩ : ∃ x, cs.getD k 0 = x := ⟨_, rfl⟩
        rw [hx] at hidx
        have HX := Lib.hid hx
        clear hx
        cases hv : dv x with
        | none =>
          have HV := Lib.hid hv
          clear hv
          go_wp2_with (go_at_call 92; refine (dig_no x _ HV.out).mono ?_; rintro e w' ⟨rfl, rfl⟩)
          go_ret
          exact ⟨rfl, rfl⟩
        | some v =>
          have HV := Lib.hid hv
          clear hv
          go_wp2_with (go_at_call 92; refine (dig_yes x v _ HV.out).mono ?_; rintro e w' ⟨rfl, rfl⟩)
          go_round
          case rel =>
            refine ⟨k + 1, by omega, by go_num, fun j hj => ?_⟩
            by_cases e : j = k
            · rw [e, HX.out]; exact ⟨v, HV.out⟩
            · exact HALL.out j (by omega)
          case measure => simp [intOf]; omega
      · obtain rfl : k = l := by omega
        have hh := H.out
        rw [hexOk_of (by rw [HL.out]; exact HEV.out) (by rw [HL.out]; exact HALL.out)] at hh
        cases hh
  · have e1 : ((l : Int) % 2 != 0) = true := by rw [bne_iff_ne]; omega
    have e2 : ((l : Int) % 2 == 0) = false := beq_eq_false_iff_ne.2 (by omega)
    clear hev
    go_enter Try.func86, Try.ntmps86
    go_wp2
    go_ret
    exact ⟨rfl, rfl⟩
end Go.Proofs.Ytcmlofgkcalhnaa.Sh
