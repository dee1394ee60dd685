/- Texts put together: ShU1. -/
import Derived.Test.YtcmlofgkcalhnaaQo08
/- Unhex, Valid. -/
namespace Go.Proofs.Ytcmlofgkcalhnaa.Sh
open Go.RowKit

def dvv (c : UInt8) : UInt8 := (dv c).getD 0
def un2 (a b : UInt8) : UInt8 := UInt8.ofNat (16 * (dvv a).toNat + (dvv b).toNat)
def unhexN (cs : List UInt8) (k : Nat) : List UInt8 := (List.range k).map (fun i => un2 (cs.getD (2 * i) 0) (cs.getD (2 * i + 1) 0))
def unhexL (cs : List UInt8) : List UInt8 := unhexN cs (cs.length / 2)
theorem unhexN_next (cs : List UInt8) (k : Nat) : unhexN cs (k + 1) = unhexN cs k ++ [un2 (cs.getD (2 * k) 0) (cs.getD (2 * k + 1) 0)] := by
  unfold unhexN
  rw [List.range_succ, List.map_append]
  rfl
theorem unhexN_length (cs : List UInt8) (k : Nat) : (unhexN cs k).length = k := by unfold unhexN; simp
theorem unhexL_length (cs : List UInt8) : (unhexL cs).length = cs.length / 2 := unhexN_length _ _
theorem dv_lt (c v : UInt8) (h : dv c = some v) : v.toNat < 16 := by
  have hb := bi_lt c
  rcases dv_cases c with ⟨_, h2⟩ | ⟨h1, h1', h2⟩ | ⟨_, _, h2⟩ | ⟨h1, h1', h2⟩ | ⟨_, h2⟩
  all_goals rw [h] at h2
  all_goals first | (injection h2 with h2; rw [h2, UInt8.toNat_ofNat']; omega) | cases h2
theorem or_un2 (h l : UInt8) (hh : h.toNat < 16) (hl : l.toNat < 16) : bits .or .u8 (bi h * 16 % 256) (bi l) = bi (UInt8.ofNat (16 * h.toNat + l.toNat)) := by
  unfold bi
  have e : (h.toNat : Int) * 16 % 256 = ((16 * h.toNat : Nat) : Int) := by omega
  rw [e, u8_or_nat _ _ (by omega) (by omega), UInt8.toNat_ofNat', nat_join 4 (16 * h.toNat) l.toNat (by omega) (by omega)]
  omega
theorem dvv_of {c v : UInt8} (h : dv c = some v) : dvv c = v := by unfold dvv; rw [h]; rfl

/-- What Unhex leaves of a text that is some bytes' Hex. -/
def UnPost (w : World) (bs : List UInt8) (e : Ending) (w' : World) : Prop := ∃ v, e = .returned (.tuple #[v, .bool true]) ∧ Own w' w.heap.size v bs ∧ Below w.heap.size w w'

set_option maxHeartbeats 400000 in
theorem unhex_no (cs : List UInt8) (w : World) (h : hexOk cs = false) (hl : cs.length ≤ 1000000) : Calls Try.prog 80 #[.string (str cs)] w fun e w' => e = .returned (.tuple #[.slice none 0 0, .bool false]) ∧ w = w' := by
  go_enter Try.func80, Try.ntmps80
  go_wp2_with fail
  refine (ishex_no cs _ h hl).mono ?_
  rintro e w' ⟨rfl, rfl⟩
  go_wp2_with fail
  go_ret2
  exact ⟨rfl, rfl⟩

set_option maxRecDepth 100000 in
set_option maxHeartbeats 800000 in
theorem unhex_yes (cs : List UInt8) (w : World) (h : hexOk cs = true) (hl : cs.length ≤ 1000000) : Calls Try.prog 80 #[.string (str cs)] w (UnPost w (unhexL cs)) := by
  have hev := hexOk_even h
  have hsz := str_size cs
  have H := Lib.hid h
  obtain ⟨m, hm⟩ : ∃ m, cs.length = 2 * m := ⟨cs.length / 2, by omega⟩
  rw [hm] at hsz
  have hm2 : m ≤ 500000 := by omega
  have HL := Lib.hid hm
  clear h hm hev
  have e1 : (2 * (m : Int)) / 2 = (m : Int) := by omega
  have e2 : (2 * (m : Int)).tdiv 2 = (m : Int) := by rw [Int.tdiv_eq_ediv_of_nonneg (by omega)]; omega
  have hmk : ∀ w : World, (Instr.makeSlice 29 (.int .i64 0) (.int .i64 (m : Int))).run Try.prog w = .ok (.slice (some ⟨w.heap.size, 0, none⟩) 0 m) (w.alloc (.cells (madeCells #[.int .u8 0] m) 5)) := fun w => make_bytes m (by omega) w
  have hown := own_made w m (by unfold maxLen; omega)
  have HOWN := Lib.hid hown
  clear hown
  go_enter Try.func80, Try.ntmps80
  go_wp2_with fail
  refine (ishex_yes cs _ H.out hl).mono ?_
  rintro e w' ⟨rfl, rfl⟩
  go_wp2_with fail
  clear hmk
  go_loopw [4, 5] (fun v i wr => ∃ k : Nat, k ≤ m ∧ i = .int .i64 (2 * (k : Int)) ∧ Own wr w.heap.size v (unhexN cs k) ∧ Below w.heap.size w wr) (fun _ i _ => 2 * m - (intOf i).toNat)
  case atStart => exact ⟨0, by omega, rfl, HOWN.out, (Below.refl _ _).alloc (Nat.le_refl _) _⟩
  case round =>
    obtain ⟨k, hk, rfl, ho, hbw⟩ := hrel
    have hwz := hbw.size
    by_cases hlt : k < m
    · have hidx1 : ∀ w : World, (Instr.index 9 (.string (str cs)) (.int .i64 (2 * (k : Int)))).run Try.prog w = .ok (.int .u8 (bi (cs.getD (2 * k) 0))) w := index_str cs (2 * k) (by rw [HL.out]; omega)
      have hidx2 : ∀ w : World, (Instr.index 9 (.string (str cs)) (.int .i64 (2 * (k : Int) + 1))).run Try.prog w = .ok (.int .u8 (bi (cs.getD (2 * k + 1) 0))) w := index_str cs (2 * k + 1) (by rw [HL.out]; omega)
      obtain ⟨v1, hv1⟩ := hexOk_at H.out (2 * k) (by rw [HL.out]; omega)
      obtain ⟨v2, hv2⟩ := hexOk_at H.out (2 * k + 1) (by rw [HL.out]; omega)
      have hnx := Lib.hid (unhexN_next cs k)
      generalize cs.getD (2 * k) 0 = x1 at *
      generalize cs.getD (2 * k + 1) 0 = x2 at *
      have hor := or_un2 v1 v2 (dv_lt _ _ hv1) (dv_lt _ _ hv2)
      have hu : Hid (UInt8.ofNat (16 * v1.toNat + v2.toNat) = un2 x1 x2) := by
        unfold Hid un2; rw [dvv_of hv1, dvv_of hv2]
      have HV1 := Lib.hid hv1
      have HV2 := Lib.hid hv2
      have hlen : (unhexN cs k).length + 1 ≤ 140737488355328 := by rw [unhexN_length]; omega
      generalize UInt8.ofNat (16 * v1.toNat + v2.toNat) = y at *
      clear hv1 hv2
      have HO := Lib.hid ho
      have HBW := Lib.hid hbw
      clear ho hbw
      go_wp2_with fail
      refine (dig_yes x1 v1 _ HV1.out).mono ?_
      rintro e w' ⟨rfl, rfl⟩
      go_wp2_with fail
      refine (dig_yes x2 v2 _ HV2.out).mono ?_
      rintro e w' ⟨rfl, rfl⟩
      go_wp2_with (at_builtin; refine append_byte rfl (.tmp 38) (.tmp 43) rfl wr w.heap.size u4 (unhexN cs k) rfl HO.out _ y rfl rfl hlen hwz ?_; intro v3 w3 ho3 hb3; have HO3 := Lib.hid ho3; have HB3 := Lib.hid hb3; clear ho3 hb3)
      refine ⟨⟨k + 1, by omega, by congr 1, ?_, HBW.out.trans HB3.out⟩, ?_⟩
      · rw [hnx.out, ← hu.out]; exact HO3.out
      · simp [intOf]; omega
    · obtain rfl : k = m := by omega
      have ho' : Own wr w.heap.size u4 (unhexL cs) := by
        unfold unhexL
        rw [HL.out, show 2 * k / 2 = k from by omega]
        exact ho
      have HO := Lib.hid ho'
      have HBW := Lib.hid hbw
      clear ho ho' hbw
      go_wp2
      go_ret2
      exact ⟨u4, rfl, HO.out, HBW.out⟩

theorem valid_any (cs : List UInt8) (t : Bool) (ht : (cs.length == 64 && hexOk cs) = t) (w : World) (hl : cs.length ≤ 1000000) : Calls Try.prog 67 #[.string (str cs)] w fun e w' => e = .returned (.bool t) ∧ w = w' := by
  have hsz := str_size cs
  by_cases h64 : cs.length = 64
  · rw [h64] at hsz
    rw [beq_iff_eq.2 h64, Bool.true_and] at ht
    have HT := Lib.hid ht
    clear ht h64
    go_enter Try.func67, Try.ntmps67
    go_wp2_with fail
    cases t with
    | false =>
      refine (ishex_no cs _ HT.out hl).mono ?_
      rintro e w' ⟨rfl, rfl⟩
      go_wp2_with fail
      go_ret
      exact ⟨rfl, rfl⟩
    | true =>
      refine (ishex_yes cs _ HT.out hl).mono ?_
      rintro e w' ⟨rfl, rfl⟩
      go_wp2_with fail
      go_ret
      exact ⟨rfl, rfl⟩
  · rw [beq_eq_false_iff_ne.2 h64, Bool.false_and] at ht
    subst ht
    obtain ⟨l, hL⟩ : ∃ l, cs.length = l := ⟨_, rfl⟩
    rw [hL] at hsz h64
    have e1 : ((l : Int) == 64) = false := beq_eq_false_iff_ne.2 (by omega)
    clear hL
    go_enter Try.func67, Try.ntmps67
    go_wp2_with fail
    go_ret
    exact ⟨rfl, rfl⟩

/-! Plain: there and back. -/
theorem dv_hexd (n : UInt8) (h : n.toNat < 16) : dv (hexd n) = some n := by
  obtain ⟨m, hm, rfl⟩ : ∃ m, m < 16 ∧ n = UInt8.ofNat m := ⟨n.toNat, h, by simp⟩
  have key : ∀ m, m < 16 → dv (hexd (UInt8.ofNat m)) = some (UInt8.ofNat m) := by decide +kernel
  exact key m hm
theorem hexd_dv (c v : UInt8) (h : dv c = some v) : hexd v = c := by
  have key : ∀ n, n < 256 → ∀ v, dv (UInt8.ofNat n) = some v → hexd v = UInt8.ofNat n := by
    intro n hn v hv
    have : ∀ n, n < 256 → (match dv (UInt8.ofNat n) with | some v => hexd v == UInt8.ofNat n | none => true) = true := by decide +kernel
    have := this n hn
    rw [hv] at this
    exact beq_iff_eq.1 this
  have hc : c = UInt8.ofNat c.toNat := by simp
  rw [hc] at h ⊢
  exact key c.toNat c.toNat_lt v h
theorem hexL_cons (x : UInt8) (r : List UInt8) : hexL (x :: r) = hexd (hi4 x) :: hexd (lo4 x) :: hexL r := rfl
theorem hexOk_hexL (bs : List UInt8) : hexOk (hexL bs) = true := by
  refine hexOk_of (by rw [hexL_length]; omega) ?_
  induction bs with
  | nil => intro k hk; cases hk
  | cons x r ih =>
    intro k hk
    rw [hexL_cons] at hk ⊢
    match k with
    | 0 => exact ⟨_, dv_hexd _ (hi4_lt x)⟩
    | 1 => exact ⟨_, dv_hexd _ (lo4_lt x)⟩
    | k + 2 => exact ih k (by simpa using hk)
theorem un2_hex (x : UInt8) : un2 (hexd (hi4 x)) (hexd (lo4 x)) = x := by
  unfold un2
  rw [dvv_of (dv_hexd _ (hi4_lt x)), dvv_of (dv_hexd _ (lo4_lt x))]
  have := x.toNat_lt
  unfold hi4 lo4
  rw [UInt8.toNat_ofNat', UInt8.toNat_ofNat', show 16 * (x.toNat / 16 % 2 ^ 8) + x.toNat % 16 % 2 ^ 8 = x.toNat from by omega]
  simp
theorem unhexL_cons (a b : UInt8) (r : List UInt8) : unhexL (a :: b :: r) = un2 a b :: unhexL r := by
  unfold unhexL unhexN
  rw [show (a :: b :: r).length / 2 = r.length / 2 + 1 from by simp; omega, List.range_succ_eq_map, List.map_cons, List.map_map]
  congr 1
theorem unhexL_hexL (bs : List UInt8) : unhexL (hexL bs) = bs := by
  induction bs with
  | nil => rfl
  | cons x r ih => rw [hexL_cons, unhexL_cons, ih, un2_hex]
theorem hexL_unhexL (cs : List UInt8) (h : hexOk cs = true) : hexL (unhexL cs) = cs := by
  match cs, h with
  | [], _ => rfl
  | [a], h => cases hexOk_even h
  | a :: b :: r, h =>
    obtain ⟨v1, h1⟩ := hexOk_at h 0 (by simp)
    obtain ⟨v2, h2⟩ := hexOk_at h 1 (by simp)
    have hr : hexOk r = true := by
      refine hexOk_of ?_ ?_
      · have := hexOk_even h
        simp at this
        omega
      · intro k hk
        exact hexOk_at h (k + 2) (by simp; omega)
    have e1 : hexd v1 = a := hexd_dv a v1 h1
    have e2 : hexd v2 = b := hexd_dv b v2 h2
    have l1 := dv_lt a v1 h1
    have l2 := dv_lt b v2 h2
    rw [unhexL_cons, hexL_cons, hexL_unhexL r hr]
    have hd1 : dv a = some v1 := h1
    have hd2 : dv b = some v2 := h2
    have u1 : hi4 (un2 a b) = v1 := by
      apply UInt8.toNat_inj.1
      unfold hi4 un2
      rw [dvv_of hd1, dvv_of hd2, UInt8.toNat_ofNat', UInt8.toNat_ofNat']
      omega
    have u2 : lo4 (un2 a b) = v2 := by
      apply UInt8.toNat_inj.1
      unfold lo4 un2
      rw [dvv_of hd1, dvv_of hd2, UInt8.toNat_ofNat', UInt8.toNat_ofNat']
      omega
    rw [u1, u2, e1, e2]
end Go.Proofs.Ytcmlofgkcalhnaa.Sh
