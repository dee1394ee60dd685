/- Texts put together: YShU0, YShU1. -/
import Derived.Test.YteffiedolcjjlaaQa08
/- Digits; texts that are bytes. -/
namespace Go.Proofs.Yteffiedolcjjlaa.Sh
open Go.RowKit

/-- A digit's number; none: it is no digit. -/
def dv (c : UInt8) : Option UInt8 := if 48 ≤ c ∧ c ≤ 57 then some (c - 48) else if 97 ≤ c ∧ c ≤ 102 then some (c - 87) else none
theorem dv_cases (c : UInt8) : (bi c < 48 ∧ dv c = none) ∨ (48 ≤ bi c ∧ bi c ≤ 57 ∧ dv c = some (UInt8.ofNat (bi c - 48).toNat)) ∨ (57 < bi c ∧ bi c < 97 ∧ dv c = none) ∨
    (97 ≤ bi c ∧ bi c ≤ 102 ∧ dv c = some (UInt8.ofNat (bi c - 87).toNat)) ∨ (102 < bi c ∧ dv c = none) := by
  obtain ⟨n, hn, rfl⟩ : ∃ n, n < 256 ∧ c = UInt8.ofNat n := ⟨c.toNat, c.toNat_lt, by simp⟩
  have hb : bi (UInt8.ofNat n) = (n : Int) := by unfold bi; rw [UInt8.toNat_ofNat']; omega
  rw [hb]
  have key : ∀ n, n < 256 → (n < 48 ∧ dv (UInt8.ofNat n) = none) ∨ (48 ≤ n ∧ n ≤ 57 ∧ dv (UInt8.ofNat n) = some (UInt8.ofNat (n - 48))) ∨ (57 < n ∧ n < 97 ∧ dv (UInt8.ofNat n) = none) ∨
    (97 ≤ n ∧ n ≤ 102 ∧ dv (UInt8.ofNat n) = some (UInt8.ofNat (n - 87))) ∨ (102 < n ∧ dv (UInt8.ofNat n) = none) := by decide +kernel
  rcases key n hn with ⟨h1, h2⟩ | ⟨h1, h2, h3⟩ | ⟨h1, h2, h3⟩ | ⟨h1, h2, h3⟩ | ⟨h1, h2⟩
  · exact .inl ⟨by omega, h2⟩
  · exact .inr (.inl ⟨by omega, by omega, by rw [h3]; congr 2; omega⟩)
  · exact .inr (.inr (.inl ⟨by omega, by omega, h3⟩))
  · exact .inr (.inr (.inr (.inl ⟨by omega, by omega, by rw [h3]; congr 2; omega⟩)))
  · exact .inr (.inr (.inr (.inr ⟨by omega, h2⟩)))
theorem bi_sub (x : Int) (h0 : 0 ≤ x) (h1 : x ≤ 255) : bi (UInt8.ofNat x.toNat) = x := by
  unfold bi; rw [UInt8.toNat_ofNat']; omega

set_option maxHeartbeats 400000 in
/-- digitValue at no digit. -/
theorem dig_no (c : UInt8) (w : World) (h : dv c = none) : Calls Try.prog 142 #[.int .u8 (bi c)] w fun e w' => e = .returned (.tuple #[.int .u8 0, .bool false]) ∧ w = w' := by
  have hb := bi_lt c
  rcases dv_cases c with ⟨h1, _⟩ | ⟨_, _, h2⟩ | ⟨h1, h2, _⟩ | ⟨_, _, h2⟩ | ⟨h1, _⟩
  · clear h
    generalize bi c = x at *
    go_enter Try.func142, Try.ntmps142
    go_wp2
    go_ret2
    exact ⟨rfl, rfl⟩
  · rw [h] at h2; cases h2
  · clear h
    generalize bi c = x at *
    go_enter Try.func142, Try.ntmps142
    go_wp2
    go_ret2
    exact ⟨rfl, rfl⟩
  · rw [h] at h2; cases h2
  · clear h
    generalize bi c = x at *
    go_enter Try.func142, Try.ntmps142
    go_wp2
    go_ret2
    exact ⟨rfl, rfl⟩
set_option maxHeartbeats 400000 in
theorem dig_yes (c v : UInt8) (w : World) (h : dv c = some v) : Calls Try.prog 142 #[.int .u8 (bi c)] w fun e w' => e = .returned (.tuple #[.int .u8 (bi v), .bool true]) ∧ w = w' := by
  have hb := bi_lt c
  rcases dv_cases c with ⟨_, h2⟩ | ⟨h1, h1', h2⟩ | ⟨_, _, h2⟩ | ⟨h1, h1', h2⟩ | ⟨_, h2⟩
  · rw [h] at h2; cases h2
  · rw [h] at h2
    injection h2 with h2
    subst h2
    clear h
    generalize bi c = x at *
    have HX := Lib.hid (bi_sub (x - 48) (by omega) (by omega))
    go_enter Try.func142, Try.ntmps142
    go_wp2
    go_ret2
    exact ⟨by rw [HX.out]; rfl, rfl⟩
  · rw [h] at h2; cases h2
  · rw [h] at h2
    injection h2 with h2
    subst h2
    clear h
    generalize bi c = x at *
    have HX := Lib.hid (bi_sub (x - 87) (by omega) (by omega))
    have e1 : x - 97 + 10 = x - 87 := by omega
    go_enter Try.func142, Try.ntmps142
    go_wp2
    go_ret2
    exact ⟨by rw [HX.out, ← e1]; rfl, rfl⟩
  · rw [h] at h2; cases h2

theorem str_size (cs : List UInt8) : (str cs).size = cs.length := by
  unfold str ByteArray.size
  simp
theorem index_str (cs : List UInt8) (k : Nat) (hk : k < cs.length) (w : World) : (Instr.index 9 (.string (str cs)) (.int .i64 (k : Int))).run Try.prog w = .ok (.int .u8 (bi (cs.getD k 0))) w := by
  have hsz := str_size cs
  have hg : (str cs)[k]? = some cs[k] := getElem?_pos (str cs) k (by rw [hsz]; exact hk)
  simp [Instr.index, go_sem]
  rw [hg, List.getElem?_eq_getElem hk]
  unfold bi
  rfl

/-- Is it an even number of digits? -/
def hexOk (cs : List UInt8) : Bool := cs.length % 2 == 0 && cs.all (fun c => (dv c).isSome)
theorem hexOk_at {cs : List UInt8} (h : hexOk cs = true) (k : Nat) (hk : k < cs.length) : ∃ v, dv (cs.getD k 0) = some v := by
  unfold hexOk at h
  rw [Bool.and_eq_true] at h
  have := List.all_eq_true.1 h.2 cs[k] (List.getElem_mem hk)
  rw [List.getD_eq_getElem?_getD, List.getElem?_eq_getElem hk]
  exact Option.isSome_iff_exists.1 this
theorem hexOk_even {cs : List UInt8} (h : hexOk cs = true) : cs.length % 2 = 0 := by
  unfold hexOk at h
  rw [Bool.and_eq_true, beq_iff_eq] at h
  exact h.1
theorem hexOk_of {cs : List UInt8} (h : cs.length % 2 = 0) (hd : ∀ k, k < cs.length → ∃ v, dv (cs.getD k 0) = some v) : hexOk cs = true := by
  unfold hexOk
  rw [Bool.and_eq_true, beq_iff_eq]
  refine ⟨h, List.all_eq_true.2 fun c hc => ?_⟩
  obtain ⟨k, hk, rfl⟩ := List.getElem_of_mem hc
  obtain ⟨v, hv⟩ := hd k hk
  rw [List.getD_eq_getElem?_getD, List.getElem?_eq_getElem hk] at hv
  rw [show dv cs[k] = some v from hv]
  rfl

set_option maxHeartbeats 400000 in
/-- isHex. -/
theorem ishex_yes (cs : List UInt8) (w : World) (h : hexOk cs = true) (hl : cs.length ≤ 1000000) : Calls Try.prog 141 #[.string (str cs)] w fun e w' => e = .returned (.bool true) ∧ w = w' := by
  have hev := hexOk_even h
  have hsz := str_size cs
  have H := Lib.hid h
  obtain ⟨l, hL⟩ : ∃ l, cs.length = l := ⟨_, rfl⟩
  rw [hL] at hsz hev hl
  have HL := Lib.hid hL
  clear h hL
  have e1 : (l : Int) % 2 = 0 := by omega
  have e2 : (l : Int).tmod 2 = 0 := by rw [Int.tmod_eq_emod_of_nonneg (by omega)]; omega
  have HEV := Lib.hid hev
  clear hev
  go_enter Try.func141, Try.ntmps141
  go_wp2
  go_loop [12] (fun i => ∃ k : Nat, k ≤ l ∧ i = .int .i64 k) (fun i => l - (intOf i).toNat)
  case atStart => exact ⟨0, by omega, rfl⟩
  case round =>
    obtain ⟨k, hk, rfl⟩ := hrel
    by_cases hlt : k < l
    · have hidx := index_str cs k (by rw [HL.out]; exact hlt)
      obtain ⟨v, hv⟩ := hexOk_at H.out k (by rw [HL.out]; exact hlt)
      generalize cs.getD k 0 = x at *
      have HV := Lib.hid hv
      clear hv
      go_wp2_with (go_at_call 142; refine (dig_yes x v _ HV.out).mono ?_; rintro e w' ⟨rfl, rfl⟩)
      go_round
      case rel => exact ⟨k + 1, by omega, by go_num⟩
      case measure => simp [intOf]; omega
    · obtain rfl : k = l := by omega
      go_wp2
      go_ret
      exact ⟨rfl, rfl⟩

set_option maxHeartbeats 400000 in
theorem ishex_no (cs : List UInt8) (w : World) (h : hexOk cs = false) (hl : cs.length ≤ 1000000) : Calls Try.prog 141 #[.string (str cs)] w fun e w' => e = .returned (.bool false) ∧ w = w' := by
  have hsz := str_size cs
  have H := Lib.hid h
  obtain ⟨l, hL⟩ : ∃ l, cs.length = l := ⟨_, rfl⟩
  rw [hL] at hsz hl
  have HL := Lib.hid hL
  clear h hL
  by_cases hev : l % 2 = 0
  · have e1 : (l : Int) % 2 = 0 := by omega
    have e2 : (l : Int).tmod 2 = 0 := by rw [Int.tmod_eq_emod_of_nonneg (by omega)]; omega
    have HEV := Lib.hid hev
    clear hev
    go_enter Try.func141, Try.ntmps141
    go_wp2
    go_loop [12] (fun i => ∃ k : Nat, k ≤ l ∧ i = .int .i64 k ∧ ∀ j, j < k → ∃ v, dv (cs.getD j 0) = some v) (fun i => l - (intOf i).toNat)
    case atStart => exact ⟨0, by omega, rfl, fun j hj => by omega⟩
    case round =>
      obtain ⟨k, hk, rfl, hall⟩ := hrel
      have HALL := Lib.hid hall
      clear hall
      by_cases hlt : k < l
      · have hidx := index_str cs k (by rw [HL.out]; exact hlt)
        obtain ⟨x, hx⟩ : ∃ x, cs.getD k 0 = x := ⟨_, rfl⟩
        rw [hx] at hidx
        have HX := Lib.hid hx
        clear hx
        cases hv : dv x with
        | none =>
          have HV := Lib.hid hv
          clear hv
          go_wp2_with (go_at_call 142; refine (dig_no x _ HV.out).mono ?_; rintro e w' ⟨rfl, rfl⟩)
          go_ret
          exact ⟨rfl, rfl⟩
        | some v =>
          have HV := Lib.hid hv
          clear hv
          go_wp2_with (go_at_call 142; refine (dig_yes x v _ HV.out).mono ?_; rintro e w' ⟨rfl, rfl⟩)
          go_round
          case rel =>
            refine ⟨k + 1, by omega, by go_num, fun j hj => ?_⟩
            by_cases e : j = k
            · rw [e, HX.out]; exact ⟨v, HV.out⟩
            · exact HALL.out j (by omega)
          case measure => simp [intOf]; omega
      · obtain rfl : k = l := by omega
        have hh := H.out
        rw [hexOk_of (by rw [HL.out]; exact HEV.out) (by rw [HL.out]; exact HALL.out)] at hh
        cases hh
  · have e1 : ((l : Int) % 2 != 0) = true := by rw [bne_iff_ne]; omega
    have e2 : ((l : Int) % 2 == 0) = false := beq_eq_false_iff_ne.2 (by omega)
    clear hev
    go_enter Try.func141, Try.ntmps141
    go_wp2
    go_ret
    exact ⟨rfl, rfl⟩
end Go.Proofs.Yteffiedolcjjlaa.Sh
/- Unhex, Valid. -/
namespace Go.Proofs.Yteffiedolcjjlaa.Sh
open Go.RowKit

def dvv (c : UInt8) : UInt8 := (dv c).getD 0
def un2 (a b : UInt8) : UInt8 := UInt8.ofNat (16 * (dvv a).toNat + (dvv b).toNat)
def unhexN (cs : List UInt8) (k : Nat) : List UInt8 := (List.range k).map (fun i => un2 (cs.getD (2 * i) 0) (cs.getD (2 * i + 1) 0))
def unhexL (cs : List UInt8) : List UInt8 := unhexN cs (cs.length / 2)
theorem unhexN_next (cs : List UInt8) (k : Nat) : unhexN cs (k + 1) = unhexN cs k ++ [un2 (cs.getD (2 * k) 0) (cs.getD (2 * k + 1) 0)] := by
  unfold unhexN
  rw [List.range_succ, List.map_append]
  rfl
theorem unhexN_length (cs : List UInt8) (k : Nat) : (unhexN cs k).length = k := by unfold unhexN; simp
theorem unhexL_length (cs : List UInt8) : (unhexL cs).length = cs.length / 2 := unhexN_length _ _
theorem dv_lt (c v : UInt8) (h : dv c = some v) : v.toNat < 16 := by
  have hb := bi_lt c
  rcases dv_cases c with ⟨_, h2⟩ | ⟨h1, h1', h2⟩ | ⟨_, _, h2⟩ | ⟨h1, h1', h2⟩ | ⟨_, h2⟩
  all_goals rw [h] at h2
  all_goals first | (injection h2 with h2; rw [h2, UInt8.toNat_ofNat']; omega) | cases h2
theorem or_un2 (h l : UInt8) (hh : h.toNat < 16) (hl : l.toNat < 16) : bits .or .u8 (bi h * 16 % 256) (bi l) = bi (UInt8.ofNat (16 * h.toNat + l.toNat)) := by
  unfold bi
  have e : (h.toNat : Int) * 16 % 256 = ((16 * h.toNat : Nat) : Int) := by omega
  rw [e, u8_or_nat _ _ (by omega) (by omega), UInt8.toNat_ofNat', nat_join 4 (16 * h.toNat) l.toNat (by omega) (by omega)]
  omega
theorem dvv_of {c v : UInt8} (h : dv c = some v) : dvv c = v := by unfold dvv; rw [h]; rfl

/-- What Unhex leaves of a text that is some bytes' Hex. -/
def UnPost (w : World) (bs : List UInt8) (e : Ending) (w' : World) : Prop := ∃ v, e = .returned (.tuple #[v, .bool true]) ∧ Own w' w.heap.size v bs ∧ Below w.heap.size w w'

set_option maxRecDepth 100000 in
set_option maxHeartbeats 800000 in
theorem unhex_yes (cs : List UInt8) (w : World) (h : hexOk cs = true) (hl : cs.length ≤ 1000000) : Calls Try.prog 125 #[.string (str cs)] w (UnPost w (unhexL cs)) := by
  have hev := hexOk_even h
  have hsz := str_size cs
  have H := Lib.hid h
  obtain ⟨m, hm⟩ : ∃ m, cs.length = 2 * m := ⟨cs.length / 2, by omega⟩
  rw [hm] at hsz
  have hm2 : m ≤ 500000 := by omega
  have HL := Lib.hid hm
  clear h hm hev
  have e1 : (2 * (m : Int)) / 2 = (m : Int) := by omega
  have e2 : (2 * (m : Int)).tdiv 2 = (m : Int) := by rw [Int.tdiv_eq_ediv_of_nonneg (by omega)]; omega
  have hmk : ∀ w : World, (Instr.makeSlice 34 (.int .i64 0) (.int .i64 (m : Int))).run Try.prog w = .ok (.slice (some ⟨w.heap.size, 0, none⟩) 0 m) (w.alloc (.cells (madeCells #[.int .u8 0] m) 5)) := fun w => make_bytes m (by omega) w
  have hown := own_made w m (by unfold maxLen; omega)
  have HOWN := Lib.hid hown
  clear hown
  go_enter Try.func125, Try.ntmps125
  go_wp2_with fail
  refine (ishex_yes cs _ H.out hl).mono ?_
  rintro e w' ⟨rfl, rfl⟩
  go_wp2_with fail
  clear hmk
  go_loopw [4, 5] (fun v i wr => ∃ k : Nat, k ≤ m ∧ i = .int .i64 (2 * (k : Int)) ∧ Own wr w.heap.size v (unhexN cs k) ∧ Below w.heap.size w wr) (fun _ i _ => 2 * m - (intOf i).toNat)
  case atStart => exact ⟨0, by omega, rfl, HOWN.out, (Below.refl _ _).alloc (Nat.le_refl _) _⟩
  case round =>
    obtain ⟨k, hk, rfl, ho, hbw⟩ := hrel
    have hwz := hbw.size
    by_cases hlt : k < m
    · have hidx1 : ∀ w : World, (Instr.index 9 (.string (str cs)) (.int .i64 (2 * (k : Int)))).run Try.prog w = .ok (.int .u8 (bi (cs.getD (2 * k) 0))) w := index_str cs (2 * k) (by rw [HL.out]; omega)
      have hidx2 : ∀ w : World, (Instr.index 9 (.string (str cs)) (.int .i64 (2 * (k : Int) + 1))).run Try.prog w = .ok (.int .u8 (bi (cs.getD (2 * k + 1) 0))) w := index_str cs (2 * k + 1) (by rw [HL.out]; omega)
      obtain ⟨v1, hv1⟩ := hexOk_at H.out (2 * k) (by rw [HL.out]; omega)
      obtain ⟨v2, hv2⟩ := hexOk_at H.out (2 * k + 1) (by rw [HL.out]; omega)
      have hnx := Lib.hid (unhexN_next cs k)
      generalize cs.getD (2 * k) 0 = x1 at *
      generalize cs.getD (2 * k + 1) 0 = x2 at *
      have hor := or_un2 v1 v2 (dv_lt _ _ hv1) (dv_lt _ _ hv2)
      have hu : Hid (UInt8.ofNat (16 * v1.toNat + v2.toNat) = un2 x1 x2) := by
        unfold Hid un2; rw [dvv_of hv1, dvv_of hv2]
      have HV1 := Lib.hid hv1
      have HV2 := Lib.hid hv2
      have hlen : (unhexN cs k).length + 1 ≤ 140737488355328 := by rw [unhexN_length]; omega
      generalize UInt8.ofNat (16 * v1.toNat + v2.toNat) = y at *
      clear hv1 hv2
      have HO := Lib.hid ho
      have HBW := Lib.hid hbw
      clear ho hbw
      go_wp2_with fail
      refine (dig_yes x1 v1 _ HV1.out).mono ?_
      rintro e w' ⟨rfl, rfl⟩
      go_wp2_with fail
      refine (dig_yes x2 v2 _ HV2.out).mono ?_
      rintro e w' ⟨rfl, rfl⟩
      go_wp2_with (at_builtin; refine append_byte rfl (.tmp 38) (.tmp 43) rfl wr w.heap.size u4 (unhexN cs k) rfl HO.out _ y rfl rfl hlen hwz ?_; intro v3 w3 ho3 hb3; have HO3 := Lib.hid ho3; have HB3 := Lib.hid hb3; clear ho3 hb3)
      refine ⟨⟨k + 1, by omega, by congr 1, ?_, HBW.out.trans HB3.out⟩, ?_⟩
      · rw [hnx.out, ← hu.out]; exact HO3.out
      · simp [intOf]; omega
    · obtain rfl : k = m := by omega
      have ho' : Own wr w.heap.size u4 (unhexL cs) := by
        unfold unhexL
        rw [HL.out, show 2 * k / 2 = k from by omega]
        exact ho
      have HO := Lib.hid ho'
      have HBW := Lib.hid hbw
      clear ho ho' hbw
      go_wp2
      go_ret2
      exact ⟨u4, rfl, HO.out, HBW.out⟩

theorem valid_any (cs : List UInt8) (t : Bool) (ht : (cs.length == 64 && hexOk cs) = t) (w : World) (hl : cs.length ≤ 1000000) : Calls Try.prog 121 #[.string (str cs)] w fun e w' => e = .returned (.bool t) ∧ w = w' := by
  have hsz := str_size cs
  by_cases h64 : cs.length = 64
  · rw [h64] at hsz
    rw [beq_iff_eq.2 h64, Bool.true_and] at ht
    have HT := Lib.hid ht
    clear ht h64
    go_enter Try.func121, Try.ntmps121
    go_wp2_with fail
    cases t with
    | false =>
      refine (ishex_no cs _ HT.out hl).mono ?_
      rintro e w' ⟨rfl, rfl⟩
      go_wp2_with fail
      go_ret
      exact ⟨rfl, rfl⟩
    | true =>
      refine (ishex_yes cs _ HT.out hl).mono ?_
      rintro e w' ⟨rfl, rfl⟩
      go_wp2_with fail
      go_ret
      exact ⟨rfl, rfl⟩
  · rw [beq_eq_false_iff_ne.2 h64, Bool.false_and] at ht
    subst ht
    obtain ⟨l, hL⟩ : ∃ l, cs.length = l := ⟨_, rfl⟩
    rw [hL] at hsz h64
    have e1 : ((l : Int) == 64) = false := beq_eq_false_iff_ne.2 (by omega)
    clear hL
    go_enter Try.func121, Try.ntmps121
    go_wp2_with fail
    go_ret
    exact ⟨rfl, rfl⟩

/-! Plain: there and back. -/
theorem dv_hexd (n : UInt8) (h : n.toNat < 16) : dv (hexd n) = some n := by
  obtain ⟨m, hm, rfl⟩ : ∃ m, m < 16 ∧ n = UInt8.ofNat m := ⟨n.toNat, h, by simp⟩
  have key : ∀ m, m < 16 → dv (hexd (UInt8.ofNat m)) = some (UInt8.ofNat m) := by decide +kernel
  exact key m hm
theorem hexd_dv (c v : UInt8) (h : dv c = some v) : hexd v = c := by
  have key : ∀ n, n < 256 → ∀ v, dv (UInt8.ofNat n) = some v → hexd v = UInt8.ofNat n := by
    intro n hn v hv
    have : ∀ n, n < 256 → (match dv (UInt8.ofNat n) with | some v => hexd v == UInt8.ofNat n | none => true) = true := by decide +kernel
    have := this n hn
    rw [hv] at this
    exact beq_iff_eq.1 this
  have hc : c = UInt8.ofNat c.toNat := by simp
  rw [hc] at h ⊢
  exact key c.toNat c.toNat_lt v h
theorem hexL_cons (x : UInt8) (r : List UInt8) : hexL (x :: r) = hexd (hi4 x) :: hexd (lo4 x) :: hexL r := rfl
theorem un2_hex (x : UInt8) : un2 (hexd (hi4 x)) (hexd (lo4 x)) = x := by
  unfold un2
  rw [dvv_of (dv_hexd _ (hi4_lt x)), dvv_of (dv_hexd _ (lo4_lt x))]
  have := x.toNat_lt
  unfold hi4 lo4
  rw [UInt8.toNat_ofNat', UInt8.toNat_ofNat', show 16 * (x.toNat / 16 % 2 ^ 8) + x.toNat % 16 % 2 ^ 8 = x.toNat from by omega]
  simp
theorem unhexL_cons (a b : UInt8) (r : List UInt8) : unhexL (a :: b :: r) = un2 a b :: unhexL r := by
  unfold unhexL unhexN
  rw [show (a :: b :: r).length / 2 = r.length / 2 + 1 from by simp; omega, List.range_succ_eq_map, List.map_cons, List.map_map]
  congr 1
theorem unhexL_hexL (bs : List UInt8) : unhexL (hexL bs) = bs := by
  induction bs with
  | nil => rfl
  | cons x r ih => rw [hexL_cons, unhexL_cons, ih, un2_hex]
theorem hexL_unhexL (cs : List UInt8) (h : hexOk cs = true) : hexL (unhexL cs) = cs := by
  match cs, h with
  | [], _ => rfl
  | [a], h => cases hexOk_even h
  | a :: b :: r, h =>
    obtain ⟨v1, h1⟩ := hexOk_at h 0 (by simp)
    obtain ⟨v2, h2⟩ := hexOk_at h 1 (by simp)
    have hr : hexOk r = true := by
      refine hexOk_of ?_ ?_
      · have := hexOk_even h
        simp at this
        omega
      · intro k hk
        exact hexOk_at h (k + 2) (by simp; omega)
    have e1 : hexd v1 = a := hexd_dv a v1 h1
    have e2 : hexd v2 = b := hexd_dv b v2 h2
    have l1 := dv_lt a v1 h1
    have l2 := dv_lt b v2 h2
    rw [unhexL_cons, hexL_cons, hexL_unhexL r hr]
    have hd1 : dv a = some v1 := h1
    have hd2 : dv b = some v2 := h2
    have u1 : hi4 (un2 a b) = v1 := by
      apply UInt8.toNat_inj.1
      unfold hi4 un2
      rw [dvv_of hd1, dvv_of hd2, UInt8.toNat_ofNat', UInt8.toNat_ofNat']
      omega
    have u2 : lo4 (un2 a b) = v2 := by
      apply UInt8.toNat_inj.1
      unfold lo4 un2
      rw [dvv_of hd1, dvv_of hd2, UInt8.toNat_ofNat', UInt8.toNat_ofNat']
      omega
    rw [u1, u2, e1, e2]
end Go.Proofs.Yteffiedolcjjlaa.Sh
