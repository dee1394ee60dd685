/- Texts put together: YShU1, YShR0, YShR1, YShN0, YShN1, YShN2, YShN3. -/
import Derived.Test.YteffiedolcjjlaaGreatQw10
import Derived.Test.YteffiedolcjjlaaGreatQw02
import Derived.IntWalk
/- Unhex, Valid. -/
namespace Go.Proofs.YteffiedolcjjlaaGreat.Sh
open Go.RowKit

def dvv (c : UInt8) : UInt8 := (dv c).getD 0
def un2 (a b : UInt8) : UInt8 := UInt8.ofNat (16 * (dvv a).toNat + (dvv b).toNat)
def unhexN (cs : List UInt8) (k : Nat) : List UInt8 := (List.range k).map (fun i => un2 (cs.getD (2 * i) 0) (cs.getD (2 * i + 1) 0))
def unhexL (cs : List UInt8) : List UInt8 := unhexN cs (cs.length / 2)
theorem unhexN_next (cs : List UInt8) (k : Nat) : unhexN cs (k + 1) = unhexN cs k ++ [un2 (cs.getD (2 * k) 0) (cs.getD (2 * k + 1) 0)] := by
  unfold unhexN
  rw [List.range_succ, List.map_append]
  rfl
theorem unhexN_length (cs : List UInt8) (k : Nat) : (unhexN cs k).length = k := by unfold unhexN; simp
theorem unhexL_length (cs : List UInt8) : (unhexL cs).length = cs.length / 2 := unhexN_length _ _
theorem dv_lt (c v : UInt8) (h : dv c = some v) : v.toNat < 16 := by
  have hb := bi_lt c
  rcases dv_cases c with ⟨_, h2⟩ | ⟨h1, h1', h2⟩ | ⟨_, _, h2⟩ | ⟨h1, h1', h2⟩ | ⟨_, h2⟩
  all_goals rw [h] at h2
  all_goals first | (injection h2 with h2; rw [h2, UInt8.toNat_ofNat']; omega) | cases h2
theorem dvv_of {c v : UInt8} (h : dv c = some v) : dvv c = v := by unfold dvv; rw [h]; rfl

/-- What Unhex leaves of a text that is some bytes' Hex. -/
def UnPost (w : World) (bs : List UInt8) (e : Ending) (w' : World) : Prop := ∃ v, e = .returned (.tuple #[v, .bool true]) ∧ Own w' w.heap.size v bs ∧ Below w.heap.size w w'

theorem valid_any (cs : List UInt8) (t : Bool) (ht : (cs.length == 64 && hexOk cs) = t) (w : World) (hl : cs.length ≤ 1000000) : Calls Tryz.prog 131 #[.string (str cs)] w fun e w' => e = .returned (.bool t) ∧ w = w' := by
  have hsz := str_size cs
  by_cases h64 : cs.length = 64
  · rw [h64] at hsz
    rw [beq_iff_eq.2 h64, Bool.true_and] at ht
    have HT := Lib.hid ht
    clear ht h64
    go_enter Tryz.func131, Tryz.ntmps131
    go_wp2_with fail
    cases t with
    | false =>
      refine (ishex_no cs _ HT.out hl).mono ?_
      rintro e w' ⟨rfl, rfl⟩
      go_wp2_with fail
      go_ret
      exact ⟨rfl, rfl⟩
    | true =>
      refine (ishex_yes cs _ HT.out hl).mono ?_
      rintro e w' ⟨rfl, rfl⟩
      go_wp2_with fail
      go_ret
      exact ⟨rfl, rfl⟩
  · rw [beq_eq_false_iff_ne.2 h64, Bool.false_and] at ht
    subst ht
    obtain ⟨l, hL⟩ : ∃ l, cs.length = l := ⟨_, rfl⟩
    rw [hL] at hsz h64
    have e1 : ((l : Int) == 64) = false := beq_eq_false_iff_ne.2 (by omega)
    clear hL
    go_enter Tryz.func131, Tryz.ntmps131
    go_wp2_with fail
    go_ret
    exact ⟨rfl, rfl⟩

/-! Plain: there and back. -/
theorem dv_hexd (n : UInt8) (h : n.toNat < 16) : dv (hexd n) = some n := by
  obtain ⟨m, hm, rfl⟩ : ∃ m, m < 16 ∧ n = UInt8.ofNat m := ⟨n.toNat, h, by simp⟩
  have key : ∀ m, m < 16 → dv (hexd (UInt8.ofNat m)) = some (UInt8.ofNat m) := by decide +kernel
  exact key m hm
theorem hexd_dv (c v : UInt8) (h : dv c = some v) : hexd v = c := by
  have key : ∀ n, n < 256 → ∀ v, dv (UInt8.ofNat n) = some v → hexd v = UInt8.ofNat n := by
    intro n hn v hv
    have : ∀ n, n < 256 → (match dv (UInt8.ofNat n) with | some v => hexd v == UInt8.ofNat n | none => true) = true := by decide +kernel
    have := this n hn
    rw [hv] at this
    exact beq_iff_eq.1 this
  have hc : c = UInt8.ofNat c.toNat := by simp
  rw [hc] at h ⊢
  exact key c.toNat c.toNat_lt v h
theorem hexL_cons (x : UInt8) (r : List UInt8) : hexL (x :: r) = hexd (hi4 x) :: hexd (lo4 x) :: hexL r := rfl
theorem un2_hex (x : UInt8) : un2 (hexd (hi4 x)) (hexd (lo4 x)) = x := by
  unfold un2
  rw [dvv_of (dv_hexd _ (hi4_lt x)), dvv_of (dv_hexd _ (lo4_lt x))]
  have := x.toNat_lt
  unfold hi4 lo4
  rw [UInt8.toNat_ofNat', UInt8.toNat_ofNat', show 16 * (x.toNat / 16 % 2 ^ 8) + x.toNat % 16 % 2 ^ 8 = x.toNat from by omega]
  simp
theorem unhexL_cons (a b : UInt8) (r : List UInt8) : unhexL (a :: b :: r) = un2 a b :: unhexL r := by
  unfold unhexL unhexN
  rw [show (a :: b :: r).length / 2 = r.length / 2 + 1 from by simp; omega, List.range_succ_eq_map, List.map_cons, List.map_map]
  congr 1
theorem unhexL_hexL (bs : List UInt8) : unhexL (hexL bs) = bs := by
  induction bs with
  | nil => rfl
  | cons x r ih => rw [hexL_cons, unhexL_cons, ih, un2_hex]
theorem hexL_unhexL (cs : List UInt8) (h : hexOk cs = true) : hexL (unhexL cs) = cs := by
  match cs, h with
  | [], _ => rfl
  | [a], h => cases hexOk_even h
  | a :: b :: r, h =>
    obtain ⟨v1, h1⟩ := hexOk_at h 0 (by simp)
    obtain ⟨v2, h2⟩ := hexOk_at h 1 (by simp)
    have hr : hexOk r = true := by
      refine hexOk_of ?_ ?_
      · have := hexOk_even h
        simp at this
        omega
      · intro k hk
        exact hexOk_at h (k + 2) (by simp; omega)
    have e1 : hexd v1 = a := hexd_dv a v1 h1
    have e2 : hexd v2 = b := hexd_dv b v2 h2
    have l1 := dv_lt a v1 h1
    have l2 := dv_lt b v2 h2
    rw [unhexL_cons, hexL_cons, hexL_unhexL r hr]
    have hd1 : dv a = some v1 := h1
    have hd2 : dv b = some v2 := h2
    have u1 : hi4 (un2 a b) = v1 := by
      apply UInt8.toNat_inj.1
      unfold hi4 un2
      rw [dvv_of hd1, dvv_of hd2, UInt8.toNat_ofNat', UInt8.toNat_ofNat']
      omega
    have u2 : lo4 (un2 a b) = v2 := by
      apply UInt8.toNat_inj.1
      unfold lo4 un2
      rw [dvv_of hd1, dvv_of hd2, UInt8.toNat_ofNat', UInt8.toNat_ofNat']
      omega
    rw [u1, u2, e1, e2]
end Go.Proofs.YteffiedolcjjlaaGreat.Sh
/- The reference: turn, digit, the constants. -/
namespace Go.Proofs.YteffiedolcjjlaaGreat.Sh
open Go.RowKit

set_option maxHeartbeats 400000 in
theorem turn_any (u : UInt32) (n : Nat) (h1 : 0 < n) (h2 : n < 32) (w : World) :
    Calls Tryz.prog 88 #[.int .u32 (wi u), .int .i64 (n : Int)] w fun e w' => e = .returned (.int .u32 (wi (rotl u (32 - n)))) ∧ ∃ k, w' = w.drewN k := by
  have r1 : wi u * 2 ^ (32 - n) % 4294967296 = wi (shlw u (32 - n)) := by rw [← wshl u (32 - n) (by omega), IntKind.wrap_u32]
  have r2 := wshr u n h2
  have e1 : IntKind.i64.wrap (32 - (n : Int)) = ((32 - n : Nat) : Int) := by rw [IntWalk.i64_in _ (by omega)]; omega
  have e2 := wor (shrw u n) (shlw u (32 - n))
  have e3 : (0 : Int) ≤ (n : Int) := by omega
  have e4 : (0 : Int) ≤ ((32 - n : Nat) : Int) := by omega
  have E : Hid (rotl u (32 - n) = shrw u n ||| shlw u (32 - n)) := by
    unfold Hid rotl
    rw [show 32 - (32 - n) = n from by omega, UInt32.or_comm]
  go_enter Tryz.func88, Tryz.ntmps88
  go_wp2_with fail
  go_quiet (fail)
  go_wp2_with fail
  go_ret
  exact ⟨by rw [E.out]; rfl, _, rfl⟩

def KPost (w : World) (e : Ending) (w' : World) : Prop := ∃ g, e = .returned (.slice (some ⟨g, 0, none⟩) 64 64) ∧ Blk w' g 154 kv.toArray ∧ w.heap.size ≤ g ∧ Below w.heap.size w w'
set_option maxRecDepth 100000 in
set_option maxHeartbeats 400000 in
theorem rconst_any (w : World) : Calls Tryz.prog 87 #[] w (KPost w) := by
  go_enter Tryz.func87, Tryz.ntmps87
  go_wp2_with fail
  go_ret
  refine ⟨w.heap.size, rfl, ?_, Nat.le_refl _, (Below.refl _ _).alloc (Nat.le_refl _) _⟩
  rw [kv_lit]
  exact heap_alloc_new _ _
end Go.Proofs.YteffiedolcjjlaaGreat.Sh
/- The reference: Hex, Unhex, Valid. -/
namespace Go.Proofs.YteffiedolcjjlaaGreat.Sh
open Go.RowKit

theorem Own.nil_ (w : World) (B : Nat) : Own w B (.slice none 0 0) [] := World.ownsRow_nil w B 5 1

set_option maxRecDepth 100000 in
set_option maxHeartbeats 800000 in
theorem rhex_any (v : Value) (bs : List UInt8) (w : World) (h : Sl w v bs) (hn : bs.length ≤ 1000000) : Calls Tryz.prog 60 #[v] w (StrPost w (hexL bs)) := by
  obtain ⟨A, c, rfl, hlc, hcm, hI, hA⟩ := h
  unfold maxLen at hcm
  obtain ⟨l, hl⟩ : ∃ l, bs.length = l := ⟨_, rfl⟩
  rw [hl] at hlc hn ⊢
  have HL := Lib.hid hl
  have HI := Lib.hid hI
  have HA := Lib.hid hA
  clear hl hI hA
  go_enter Tryz.func60, Tryz.ntmps60
  go_wp2_with fail
  go_loopw [4, 5] (fun v i wr => ∃ k : Nat, k ≤ l ∧ i = .int .i64 k ∧ Own wr w.heap.size v (hexL (bs.take k)) ∧ Below w.heap.size w wr) (fun _ i _ => l - (intOf i).toNat)
  case atStart =>
    exact ⟨0, by omega, rfl, by rw [List.take_zero]; exact Own.nil_ _ _, Below.refl _ _⟩
  case round =>
    obtain ⟨k, hk, rfl, ho, hbw⟩ := hrel
    have hsz := hbw.size
    by_cases hlt : k < l
    · obtain ⟨adr, hA1, hlt2, hcell⟩ := HI.out (by rw [HL.out]; omega)
      subst hA1
      have hcw : wr.cell? (adr.add k) = some (.int .u8 (bi (bs.getD k 0))) := (hbw.cell (p := adr.add k) (by rw [block_of_add]; exact hlt2)).trans (hcell k (by rw [HL.out]; omega))
      have hcl2 : (adr.add k).block < wr.heap.size := by rw [block_of_add]; omega
      have hsn : Hid (bs.take (k + 1) = bs.take k ++ [bs.getD k 0]) := by
        unfold Hid
        rw [List.take_add_one, List.getElem?_eq_getElem (by rw [HL.out]; exact hlt), List.getD_eq_getElem?_getD, List.getElem?_eq_getElem (by rw [HL.out]; exact hlt)]
        rfl
      generalize bs.getD k 0 = x at *
      have hj1 : (0 : Int) ≤ (k : Int) := by omega
      have hj2 : (k : Int) < (l : Int) := by omega
      have HO := Lib.hid ho
      have HBW := Lib.hid hbw
      clear ho hbw hcell
      have p1 := bi_hi4 x
      have p2 := bi_lo4 x
      have p3 := index_digit (hi4 x) (hi4_lt x)
      have p4 := index_digit (lo4 x) (lo4_lt x)
      have hxl : (hexL (bs.take k)).length + 2 ≤ 140737488355328 := by rw [hexL_length, List.length_take]; omega
      obtain ⟨i0, hi, hz0, hz1, hz2⟩ := info_parts info5
      go_wp2_with fail
      go_region_held3 (fun w' => w'.cell? (adr.add k) = some (.int .u8 (bi x))) (first | exact hcw | exact (World.cell?_alloc_lt _ _ (adr.add k) hcl2).trans hcw | exact hcw1)
        (first | (refine step_append_any _ rfl (.tmp 12) (.tmp 27) 51 rfl w.heap.size 5 i0 (.int .u8 0) 1 1 Tryz.underlying51 hi hz0 hz1 hz2 rfl (by decide) u4 (hexL (bs.take k)).length _ rfl (HO.out.drew.alloc _) (wr.heap.size + 1) (some ⟨wr.heap.size, 0, none⟩) 2 2 ((hex2 x).map bv) rfl (reads_new wr.drew (hex2 x) _ rfl 2 rfl) (bv_one _) (by unfold maxLen; omega) (by omega) (by simp; omega) ?_; intro v1 w1 hown1 hgrow1 hblk1; have hcw1 : w1.cell? (adr.add k) = some (.int .u8 (bi x)) := ((((Below.refl w.heap.size wr.drew).alloc hsz _).grown hgrow1 (by simp; omega) (fun k hk => (World.ownsRow.lt HO.out k hk).1)).cell (p := adr.add k) (by rw [block_of_add]; exact hlt2)).trans hcw))
      all_goals
        have ho1 : Own w1 w.heap.size v1 (hexL (bs.take (k + 1))) := by
          rw [hsn.out, hexL_snoc]
          unfold Own
          rw [List.length_append, List.map_append]
          exact hown1
        have hb1 : Below w.heap.size w w1 := ((HBW.out.drew).alloc hsz _).grown hgrow1 (by simp; omega) (fun k hk => (World.ownsRow.lt HO.out k hk).1)
        have HO1 := Lib.hid ho1
        have HB1 := Lib.hid hb1
        clear ho1 hb1 hown1 hgrow1 hblk1 p1 p2 p3 p4
        go_wp2
        go_roundw
        case rel => exact ⟨k + 1, by omega, by go_num, HO1.out, HB1.out⟩
        case measure => simp [intOf]; omega
    · obtain rfl : k = l := by omega
      rw [List.take_of_length_le (by rw [HL.out]; omega)] at ho
      obtain ⟨A3, c3, hv3, hA3, hA4, hI3, hA5⟩ := ho.sl
      subst hv3
      have hcs := conv_str wr A3 (hexL bs) c3 hI3 hA5
      have HBW := Lib.hid hbw
      clear ho hI3 hA5 hbw
      obtain ⟨m, hm⟩ : ∃ m, (hexL bs).length = m := ⟨_, rfl⟩
      rw [hm] at hcs ⊢
      clear hm
      go_wp2
      go_ret
      exact ⟨rfl, HBW.out⟩
end Go.Proofs.YteffiedolcjjlaaGreat.Sh
/- Put, both. -/
namespace Go.Proofs.YteffiedolcjjlaaGreat.Sh
open Go.RowKit

theorem ofInt_i64 (a : Nat) (ha : a < 9223372036854775808) : (BitVec.ofInt 64 (a : Int)).toNat = a := by
  rw [BitVec.ofInt_natCast, BitVec.toNat_ofNat]; exact Nat.mod_eq_of_lt (by omega)
theorem i64_and_nat (a b : Nat) (ha : a < 9223372036854775808) (hb : b < 9223372036854775808) : bits .and .i64 (a : Int) (b : Int) = ((a &&& b : Nat) : Int) := by
  have hx : a &&& b < 2 ^ 63 := Nat.and_lt_two_pow _ (by omega)
  show IntKind.i64.wrap ((BitVec.ofInt 64 (a : Int) &&& BitVec.ofInt 64 (b : Int)).toNat : Int) = _
  rw [BitVec.toNat_and, ofInt_i64 a ha, ofInt_i64 b hb, IntKind.wrap_i64]
  omega
theorem i64_or_nat (a b : Nat) (ha : a < 9223372036854775808) (hb : b < 9223372036854775808) : bits .or .i64 (a : Int) (b : Int) = ((a ||| b : Nat) : Int) := by
  have hx : a ||| b < 2 ^ 63 := Nat.or_lt_two_pow (by omega) (by omega)
  show IntKind.i64.wrap ((BitVec.ofInt 64 (a : Int) ||| BitVec.ofInt 64 (b : Int)).toNat : Int) = _
  rw [BitVec.toNat_or, ofInt_i64 a ha, ofInt_i64 b hb, IntKind.wrap_i64]
  omega
/-- What a call of Put leaves. -/
def PutPost (w : World) (n : Nat) (e : Ending) (w' : World) : Prop := ∃ v, e = .returned (.tuple #[v, .int .i64 0]) ∧ Own w' w.heap.size v (putL n) ∧ Below w.heap.size w w'
theorem nat_or128 (x : Nat) (h : x < 128) : x ||| 128 = x + 128 := by
  have := Nat.two_pow_add_eq_or_of_lt (i := 7) (b := x) (by simpa using h) 1
  rw [Nat.or_comm]
  simp at this
  omega
theorem or128 (m : Int) (k : Nat) (h : m = (k : Int)) (hk : k < 128) : bits .or .u8 m 128 = bi (UInt8.ofNat (k + 128)) := by
  subst h
  rw [show (128 : Int) = ((128 : Nat) : Int) from rfl, u8_or_nat _ _ (by omega) (by omega), nat_or128 k hk]
  unfold bi
  rw [UInt8.toNat_ofNat']
  omega
theorem bi_nat (m : Nat) (h : m < 256) : bi (UInt8.ofNat m) = (m : Int) := by
  unfold bi
  rw [UInt8.toNat_ofNat']
  omega

set_option maxRecDepth 100000 in
set_option maxHeartbeats 800000 in
theorem put_any (n : Nat) (w : World) (h : n ≤ 72057594037927936) : Calls Tryz.prog 78 #[.int .i64 (n : Int)] w (PutPost w n) := by
  have h0 : (0 : Int) ≤ (n : Int) := by omega
  have h1 : (n : Int) ≤ 72057594037927936 := by omega
  have hlen := putL_len9 h
  have HLEN := Lib.hid hlen
  clear hlen
  obtain ⟨n0, hn0⟩ : ∃ n0, n0 = n := ⟨_, rfl⟩
  rw [← hn0] at HLEN
  have HN := Lib.hid hn0
  have hpost : PutPost w n = PutPost w n0 := by rw [hn0]
  rw [hpost]
  clear hn0 hpost
  go_enter Tryz.func78, Tryz.ntmps78
  go_wp2
  go_loopw [0, 4] (fun x v wr => ∃ (m : Nat) (bs : List UInt8), m ≤ 72057594037927936 ∧ x = .int .i64 m ∧ Own wr w.heap.size v bs ∧ putL n0 = bs ++ putL m ∧ Below w.heap.size w wr) (fun x _ _ => (intOf x).toNat)
  case atStart => exact ⟨n, [], h, rfl, Own.nil_ _ _, by rw [HN.out]; rfl, Below.refl _ _⟩
  case round =>
    obtain ⟨m, bs, hm, rfl, ho, hput, hbw⟩ := hrel
    have hwz := hbw.size
    have hlen : bs.length + 1 ≤ 9 := by
      have := HLEN.out
      rw [hput, List.length_append] at this
      have := putL_pos m
      omega
    have hsm : bs.length + 1 ≤ 140737488355328 := by omega
    have HO := Lib.hid ho
    have HP := Lib.hid hput
    have HBW := Lib.hid hbw
    clear ho hput hbw
    have hm0 : (0 : Int) ≤ (m : Int) := by omega
    have hm1 : (m : Int) ≤ 72057594037927936 := by omega
    by_cases hlt : m < 128
    · have hm2 : (m : Int) < 128 := by omega
      go_wp2_with (at_builtin; refine append_byte rfl (.tmp 22) (.tmp 25) rfl wr w.heap.size u4 bs rfl HO.out _ (UInt8.ofNat m) (bi_nat m (by omega)) rfl hsm hwz ?_; intro v3 w3 ho3 hb3; have HO3 := Lib.hid ho3; have HB3 := Lib.hid hb3; clear ho3 hb3)
      go_ret2
      refine ⟨v3, rfl, ?_, HBW.out.trans HB3.out⟩
      rw [HP.out, putL_lt hlt]
      exact HO3.out
    · have hm2 : (128 : Int) ≤ (m : Int) := by omega
      have hor := or128 ((m : Int) % 128) (m % 128) (by omega) (by omega)
      obtain ⟨y, hy⟩ : ∃ y, UInt8.ofNat (m % 128 + 128) = y := ⟨_, rfl⟩
      rw [hy] at hor
      have HY := Lib.hid hy
      clear hy
      go_wp2_with (at_builtin; refine append_byte rfl (.tmp 13) (.tmp 18) rfl wr w.heap.size u4 bs rfl HO.out _ y rfl rfl hsm hwz ?_; intro v3 w3 ho3 hb3; have HO3 := Lib.hid ho3; have HB3 := Lib.hid hb3; clear ho3 hb3)
      refine ⟨⟨m / 128, bs ++ [y], by omega, ?_, HO3.out, ?_, HBW.out.trans HB3.out⟩, ?_⟩
      · congr 1
      · rw [HP.out, putL_ge (show 128 ≤ m by omega), HY.out, List.append_assoc]; rfl
      · simp [intOf]; omega
theorem and127 (m : Nat) (h : m ≤ 72057594037927936) : bits .and .i64 (m : Int) 127 = (m : Int) % 128 := by
  rw [show (127 : Int) = ((127 : Nat) : Int) from rfl, i64_and_nat _ _ (by omega) (by omega), show m &&& 127 = m % 128 from Nat.and_two_pow_sub_one_eq_mod m 7]
  omega
theorem or128i (m : Nat) : bits .or .i64 ((m : Int) % 128) 128 = (m : Int) % 128 + 128 := by
  rw [show (m : Int) % 128 = ((m % 128 : Nat) : Int) by omega, show (128 : Int) = ((128 : Nat) : Int) from rfl, i64_or_nat _ _ (by omega) (by omega), nat_or128 _ (by omega)]
  omega
theorem sum128 (m : Nat) : bi (UInt8.ofNat (m % 128 + 128)) = (m : Int) % 128 + 128 := by
  rw [bi_nat _ (by omega)]
  omega
theorem rput_err (n : Int) (w : World) (h : n < 0 ∨ 72057594037927936 < n) : Calls Tryz.prog 85 #[.int .i64 n] w fun e w' => e = .returned (.tuple #[.slice none 0 0, .int .i64 1]) ∧ w = w' := by
  rcases h with h | h
  · go_enter Tryz.func85, Tryz.ntmps85
    go_wp2
    go_ret2
    exact ⟨rfl, rfl⟩
  · have h0 : 0 ≤ n := by omega
    go_enter Tryz.func85, Tryz.ntmps85
    go_wp2
    go_ret2
    exact ⟨rfl, rfl⟩

set_option maxRecDepth 100000 in
set_option maxHeartbeats 800000 in
theorem rput_any (n : Nat) (w : World) (h : n ≤ 72057594037927936) : Calls Tryz.prog 85 #[.int .i64 (n : Int)] w (PutPost w n) := by
  have h0 : (0 : Int) ≤ (n : Int) := by omega
  have h1 : (n : Int) ≤ 72057594037927936 := by omega
  have hlen := putL_len9 h
  have HLEN := Lib.hid hlen
  clear hlen
  obtain ⟨n0, hn0⟩ : ∃ n0, n0 = n := ⟨_, rfl⟩
  rw [← hn0] at HLEN
  have HN := Lib.hid hn0
  have hpost : PutPost w n = PutPost w n0 := by rw [hn0]
  rw [hpost]
  clear hn0 hpost
  go_enter Tryz.func85, Tryz.ntmps85
  go_wp2
  go_loopw [0, 4] (fun x v wr => ∃ (m : Nat) (bs : List UInt8), m ≤ 72057594037927936 ∧ x = .int .i64 m ∧ Own wr w.heap.size v bs ∧ putL n0 = bs ++ putL m ∧ Below w.heap.size w wr) (fun x _ _ => (intOf x).toNat)
  case atStart => exact ⟨n, [], h, rfl, Own.nil_ _ _, by rw [HN.out]; rfl, Below.refl _ _⟩
  case round =>
    obtain ⟨m, bs, hm, rfl, ho, hput, hbw⟩ := hrel
    have hwz := hbw.size
    have hlen : bs.length + 1 ≤ 9 := by
      have := HLEN.out
      rw [hput, List.length_append] at this
      have := putL_pos m
      omega
    have hsm : bs.length + 1 ≤ 140737488355328 := by omega
    have HO := Lib.hid ho
    have HP := Lib.hid hput
    have HBW := Lib.hid hbw
    clear ho hput hbw
    have hm0 : (0 : Int) ≤ (m : Int) := by omega
    have hm1 : (m : Int) ≤ 72057594037927936 := by omega
    by_cases hlt : m < 128
    · have hm2 : (m : Int) ≤ 127 := by omega
      go_wp2_with (at_builtin; refine append_byte rfl (.tmp 22) (.tmp 25) rfl wr w.heap.size u4 bs rfl HO.out _ (UInt8.ofNat m) (bi_nat m (by omega)) rfl hsm hwz ?_; intro v3 w3 ho3 hb3; have HO3 := Lib.hid ho3; have HB3 := Lib.hid hb3; clear ho3 hb3)
      go_ret2
      refine ⟨v3, rfl, ?_, HBW.out.trans HB3.out⟩
      rw [HP.out, putL_lt hlt]
      exact HO3.out
    · have hm2 : (127 : Int) < (m : Int) := by omega
      have hand := and127 m (by omega)
      have hor := or128i m
      have hs := sum128 m
      obtain ⟨y, hy⟩ : ∃ y, UInt8.ofNat (m % 128 + 128) = y := ⟨_, rfl⟩
      rw [hy] at hs
      have HS := Lib.hid hs
      clear hs
      have hb0 : 0 ≤ (m : Int) % 128 := by omega
      have hb1 : (m : Int) % 128 < 128 := by omega
      have HY := Lib.hid hy
      clear hy
      go_wp2_with (at_builtin; refine append_byte rfl (.tmp 13) (.tmp 18) rfl wr w.heap.size u4 bs rfl HO.out _ y HS.out rfl hsm hwz ?_; intro v3 w3 ho3 hb3; have HO3 := Lib.hid ho3; have HB3 := Lib.hid hb3; clear ho3 hb3)
      refine ⟨⟨m / 128, bs ++ [y], by omega, ?_, HO3.out, ?_, HBW.out.trans HB3.out⟩, ?_⟩
      · congr 1
      · rw [HP.out, putL_ge (show 128 ≤ m by omega), HY.out, List.append_assoc]; rfl
      · simp [intOf]; omega
end Go.Proofs.YteffiedolcjjlaaGreat.Sh
/- wire's Get. -/
namespace Go.Proofs.YteffiedolcjjlaaGreat.Sh
open Go.RowKit

theorem Sl.len {w : World} {v : Value} {bs : List UInt8} (h : Sl w v bs) : ∃ A c, v = .slice A bs.length c ∧ bs.length ≤ c ∧ c ≤ maxLen ∧ In w A bs := by
  obtain ⟨A, c, hv, h1, h2, h3, _⟩ := h
  exact ⟨A, c, hv, h1, h2, h3⟩
theorem In.at_ {w : World} {A : Option Addr} {bs : List UInt8} (h : In w A bs) (k : Nat) (hk : k < bs.length) : ∃ ad, A = some ad ∧ w.cell? (ad.add k) = some (.int .u8 (bi (bs.getD k 0))) := by
  obtain ⟨ad, e, _, hc⟩ := h (by omega)
  exact ⟨ad, e, hc k hk⟩
theorem In.cut {w : World} {A : Option Addr} {bs : List UInt8} (h : In w A bs) (k : Nat) (A' : Option Addr) (hA : k < bs.length → ∀ ad, A = some ad → A' = some (ad.add k)) : In w A' (bs.drop k) := by
  intro h0
  rw [List.length_drop] at h0
  obtain ⟨ad, e, hlt, hc⟩ := h (by omega)
  refine ⟨ad.add k, hA (by omega) ad e, by rw [block_of_add]; exact hlt, fun j hj => ?_⟩
  rw [List.length_drop] at hj
  rw [add_of_add, hc (k + j) (by omega)]
  simp only [List.getD_eq_getElem?_getD, List.getElem?_drop]
theorem In.take {w : World} {A : Option Addr} {bs : List UInt8} (h : In w A bs) (m : Nat) : In w A (bs.take m) := by
  intro h0
  rw [List.length_take] at h0
  obtain ⟨ad, e, hlt, hc⟩ := h (by omega)
  refine ⟨ad, e, hlt, fun j hj => ?_⟩
  rw [List.length_take] at hj
  rw [hc j (by omega)]
  simp only [List.getD_eq_getElem?_getD, List.getElem?_take, if_pos (show j < m from by omega)]

set_option maxRecDepth 100000 in
set_option maxHeartbeats 400000 in
theorem size_no (A : Option Addr) (c : Nat) (t : List UInt8) (w : World) (h : In w A t) (hl : t.length ≤ c) (hc : c ≤ maxLen) (hn : cont t = t.length) :
    Calls Tryz.prog 198 #[.slice A t.length c] w fun e w' => e = .returned (.tuple #[.int .i64 0, .bool false]) ∧ w = w' := by
  unfold maxLen at hc
  have HI := Lib.hid h
  have HC := Lib.hid (cont_at t)
  obtain ⟨l, hL⟩ : ∃ l, t.length = l := ⟨_, rfl⟩
  rw [hn, hL] at HC
  rw [hL] at hl ⊢
  have HL := Lib.hid hL
  clear hL h hn
  go_enter Tryz.func198, Tryz.ntmps198
  go_wp2
  go_loop [4, 5, 8] (fun _ _ i => ∃ k : Nat, k ≤ l ∧ i = .int .i64 k) (fun _ _ i => l - (intOf i).toNat)
  case atStart => exact ⟨0, Nat.zero_le _, rfl⟩
  case round =>
    obtain ⟨k, hk, rfl⟩ := hrel
    by_cases hlt : k < l
    · obtain ⟨ad, rfl, hcell⟩ := HI.out.at_ k (by rw [HL.out]; exact hlt)
      have hb := HC.out k hlt
      have hb2 : (128 : Int) ≤ bi (t.getD k 0) := by unfold bi; omega
      have hb3 := bi_lt (t.getD k 0)
      generalize bi (t.getD k 0) = x at *
      have hx := hb3.2
      clear hb hb3
      go_wp2
      go_round
      case rel => exact ⟨k + 1, by omega, by go_num⟩
      case measure => simp [intOf]; omega
    · go_wp2
      go_ret2
      exact ⟨rfl, rfl⟩

set_option maxRecDepth 100000 in
set_option maxHeartbeats 400000 in
theorem size_yes (A : Option Addr) (c : Nat) (t : List UInt8) (w : World) (h : In w A t) (hl : t.length ≤ c) (hc : c ≤ maxLen) (hn : cont t < t.length) :
    Calls Tryz.prog 198 #[.slice A t.length c] w fun e w' => e = .returned (.tuple #[.int .i64 ((cont t : Int) + 1), .bool true]) ∧ w = w' := by
  unfold maxLen at hc
  have HI := Lib.hid h
  have HC := Lib.hid (cont_at t)
  have HE := Lib.hid (cont_end t hn)
  obtain ⟨l, hL⟩ : ∃ l, t.length = l := ⟨_, rfl⟩
  obtain ⟨m, hM⟩ : ∃ m, cont t = m := ⟨_, rfl⟩
  rw [hM] at HC HE hn ⊢
  rw [hL] at hl hn ⊢
  have HL := Lib.hid hL
  clear hL h hM
  go_enter Tryz.func198, Tryz.ntmps198
  go_wp2
  go_loop [4, 5, 8] (fun _ _ i => ∃ k : Nat, k ≤ m ∧ i = .int .i64 k) (fun _ _ i => l - (intOf i).toNat)
  case atStart => exact ⟨0, Nat.zero_le _, rfl⟩
  case round =>
    obtain ⟨k, hk, rfl⟩ := hrel
    obtain ⟨ad, rfl, hcell⟩ := HI.out.at_ k (by rw [HL.out]; omega)
    have hb3 := bi_lt (t.getD k 0)
    have hkl : k < l := by omega
    by_cases hlt : k < m
    · have hb := HC.out k hlt
      have hb2 : (128 : Int) ≤ bi (t.getD k 0) := by unfold bi; omega
      generalize bi (t.getD k 0) = x at *
      have hx := hb3.2
      clear hb hb3
      go_wp2
      go_round
      case rel => exact ⟨k + 1, by omega, by go_num⟩
      case measure => simp [intOf]; omega
    · obtain rfl : k = m := by omega
      have hb := HE.out
      have hb2 : bi (t.getD k 0) < (128 : Int) := by unfold bi; omega
      generalize bi (t.getD k 0) = x at *
      have hx := hb3.1
      clear hb hb3
      go_wp2
      go_ret2
      exact ⟨rfl, rfl⟩
end Go.Proofs.YteffiedolcjjlaaGreat.Sh
/- wire's readNumber. -/
namespace Go.Proofs.YteffiedolcjjlaaGreat.Sh
open Go.RowKit

set_option maxRecDepth 100000 in
set_option maxHeartbeats 400000 in
theorem read_long (A : Option Addr) (c l : Nat) (w : World) (hl : l ≤ c) (hc : c ≤ maxLen) (hn : 9 < l) :
    Calls Tryz.prog 199 #[.slice A l c] w fun e w' => e = .returned (.tuple #[.int .i64 0, .bool false]) ∧ w = w' := by
  unfold maxLen at hc
  have h1 : (9 : Int) < (l : Int) := by omega
  go_enter Tryz.func199, Tryz.ntmps199
  go_wp2
  go_ret2
  exact ⟨rfl, rfl⟩
set_option maxRecDepth 100000 in
set_option maxHeartbeats 400000 in
theorem read_zero (A : Option Addr) (c : Nat) (g : List UInt8) (w : World) (h : In w A g) (h9 : g.length ≤ 9) (h1 : 1 < g.length) (hz : g.getD (g.length - 1) 0 = 0) :
    Calls Tryz.prog 199 #[.slice A g.length c] w fun e w' => e = .returned (.tuple #[.int .i64 0, .bool false]) ∧ w = w' := by
  obtain ⟨ad, rfl, hcell⟩ := h.at_ (g.length - 1) (by omega)
  rw [hz, bi0] at hcell
  obtain ⟨q, hq⟩ : ∃ q, g.length = q + 1 := ⟨g.length - 1, by omega⟩
  rw [hq, show q + 1 - 1 = q from by omega] at hcell
  rw [hq] at h9 ⊢
  have hc1 : (0 : Int) < (q : Int) := by omega
  have hc2 : (q : Int) ≤ 8 := by omega
  clear hq hz h h1
  go_enter Tryz.func199, Tryz.ntmps199
  go_wp2
  go_ret2
  exact ⟨rfl, rfl⟩
theorem valL_step (m c : Nat) (hm : m < 72057594037927936) : bits .or .i64 ((m : Int) * 128) ((c : Int) % 128) = ((c % 128 + 128 * m : Nat) : Int) := by
  rw [show (m : Int) * 128 = ((m * 128 : Nat) : Int) by omega, show (c : Int) % 128 = ((c % 128 : Nat) : Int) by omega, i64_or_nat _ _ (by omega) (by omega)]
  have := Nat.two_pow_add_eq_or_of_lt (i := 7) (b := c % 128) (by omega) m
  simp at this
  rw [Nat.mul_comm m 128, ← this]
  omega
theorem valL_lt' (g : List UInt8) (k : Nat) (h9 : g.length ≤ 9) (hk : 1 ≤ k) : valL (g.drop k) < 72057594037927936 := by
  have h1 := valL_lt (g.drop k)
  rw [List.length_drop] at h1
  have h2 : (128 : Nat) ^ (g.length - k) ≤ 128 ^ 8 := Nat.pow_le_pow_right (by omega) (by omega)
  have h3 : (128 : Nat) ^ 8 = 72057594037927936 := by decide
  omega

/-- Neither too long, nor a needless 0 at the end. -/
def fits (g : List UInt8) : Prop := 1 ≤ g.length ∧ g.length ≤ 9 ∧ (g.length = 1 ∨ g.getD (g.length - 1) 0 ≠ 0)

set_option maxRecDepth 100000 in
set_option maxHeartbeats 800000 in
/-- The loop, and what stands behind it. -/
theorem read_else (A : Option Addr) (c : Nat) (g : List UInt8) (w : World) (h : In w A g) (hl : g.length ≤ c) (hc : c ≤ maxLen) (hf : fits g) :
    Calls Tryz.prog 199 #[.slice A g.length c] w fun e w' => e = .returned (.tuple #[.int .i64 (valL g : Nat), .bool (decide (((valL g : Nat) : Int) ≤ 72057594037927936))]) ∧ w = w' := by
  unfold maxLen at hc
  obtain ⟨h1, h9, hz⟩ := hf
  have HI := Lib.hid h
  have HV := Lib.hid (fun k => valL_lt' g k h9)
  have HD := Lib.hid (valL_drop g)
  have H0 := Lib.hid (show valL (g.drop g.length) = 0 by rw [List.drop_length]; rfl)
  obtain ⟨ad, rfl, hcell⟩ := h.at_ (g.length - 1) (by omega)
  obtain ⟨q, hq⟩ : ∃ q, g.length = q + 1 := ⟨g.length - 1, by omega⟩
  rw [hq] at H0 HD
  have HQ := Lib.hid hq
  rw [hq, show q + 1 - 1 = q from by omega] at hcell
  rw [hq, show q + 1 - 1 = q from by omega] at hz
  rw [hq] at hl h9 ⊢
  have hc2 : (q : Int) ≤ 8 := by omega
  clear hq h
  have hq1 : q + 1 ≤ c := hl
  have hfact : (0 < (q : Int) ∧ (bi (g.getD q 0) == 0) = false) ∨ (q : Int) ≤ 0 := by
    by_cases hq0 : 0 < q
    · left
      refine ⟨by omega, ?_⟩
      rw [beq_eq_false_iff_ne]
      intro e
      exact hz.resolve_left (by omega) (bi_inj (by rw [e, bi0]))
    · right; omega
  generalize bi (g.getD q 0) = x at *
  clear hz
  rcases hfact with ⟨hc1, hne⟩ | hc1
  all_goals
    go_enter Tryz.func199, Tryz.ntmps199
    go_wp2
    go_loop [5, 6] (fun n i => ∃ k : Nat, k ≤ q + 1 ∧ i = .int .i64 ((k : Int) - 1) ∧ n = .int .i64 ((valL (g.drop k) : Nat) : Int)) (fun _ i => (intOf i + 1).toNat)
    case atStart =>
      refine ⟨q + 1, Nat.le_refl _, ?_, ?_⟩
      · congr 1; omega
      · rw [H0.out]; rfl
    case round =>
      obtain ⟨k, hk, rfl, rfl⟩ := hrel
      clear hcell hc1
      try clear hne
      by_cases hlt : 0 < k
      · obtain ⟨j, rfl⟩ : ∃ j, k = j + 1 := ⟨k - 1, by omega⟩
        have hi : ((j + 1 : Nat) : Int) - 1 = (j : Int) := by omega
        rw [hi]
        obtain ⟨ad', e, hcell⟩ := HI.out.at_ j (by rw [HQ.out]; omega)
        injection e with e
        subst e
        have hv := HV.out (j + 1) (by omega)
        have hstep := valL_step (valL (g.drop (j + 1))) (g.getD j 0).toNat hv
        have hd := Lib.hid (HD.out j (by omega))
        generalize valL (g.drop (j + 1)) = m at *
        have hx : bi (g.getD j 0) = ((g.getD j 0).toNat : Int) := by unfold bi; rfl
        rw [hx] at hcell
        have hxl := (g.getD j 0).toNat_lt
        generalize (g.getD j 0).toNat = y at *
        clear hi hx
        have b1 : (0 : Int) ≤ (j : Int) := by omega
        have b2 : (j : Int) < (q : Int) + 1 := by omega
        have b3 : (0 : Int) ≤ (m : Int) := by omega
        have b4 : (m : Int) * 128 ≤ 9223372036854775807 := by omega
        have b5 : (0 : Int) ≤ (y : Int) := by omega
        have b6 : (y : Int) ≤ 255 := by omega
        have b7 : (j : Int) < c := by omega
        go_wp2
        go_round
        case rel => exact ⟨j, by omega, rfl, by rw [hd.out, show ((y % 128 + 128 * m : Nat) : Int) = (y : Int) % 128 + 128 * (m : Int) from by omega]⟩
        case measure => simp [intOf]
      · obtain rfl : k = 0 := by omega
        rw [List.drop_zero, show (((0 : Nat) : Int) - 1) = -1 from rfl]
        go_wp2
        go_ret2
        exact ⟨by rfl, rfl⟩
end Go.Proofs.YteffiedolcjjlaaGreat.Sh
/- wire's Get, whole. -/
namespace Go.Proofs.YteffiedolcjjlaaGreat.Sh
open Go.RowKit

set_option maxRecDepth 100000 in
set_option maxHeartbeats 800000 in
theorem get_any (v : Value) (bs : List UInt8) (i a b c : Int) (w : World) (h : Sl w v bs) (hr : getR bs i = (a, b, c)) :
    Calls Tryz.prog 165 #[v, .int .i64 i] w fun e w' => e = .returned (.tuple #[.int .i64 a, .int .i64 b, .int .i64 c]) ∧ w = w' := by
  obtain ⟨A, cp, rfl, hl, hcm, hI⟩ := h.len
  have hl2 := hl
  unfold maxLen at hcm
  by_cases h0 : i < 0
  · obtain ⟨rfl, rfl, rfl⟩ : 0 = a ∧ 0 = b ∧ 1 = c := by rw [getR_range (Or.inl h0)] at hr; injection hr with h1 h2; injection h2 with h2 h3; exact ⟨h1, h2, h3⟩
    clear hr hI h
    obtain ⟨l, hL⟩ : ∃ l, bs.length = l := ⟨_, rfl⟩
    rw [hL] at hl ⊢
    clear hL hl2
    go_enter Tryz.func165, Tryz.ntmps165
    go_wp2
    go_ret3
    exact ⟨rfl, rfl⟩
  · by_cases h1 : (bs.length : Int) < i
    · obtain ⟨rfl, rfl, rfl⟩ : 0 = a ∧ 0 = b ∧ 1 = c := by rw [getR_range (Or.inr h1)] at hr; injection hr with h1 h2; injection h2 with h2 h3; exact ⟨h1, h2, h3⟩
      clear hr hI h
      have h0' : 0 ≤ i := by omega
      obtain ⟨l, hL⟩ : ∃ l, bs.length = l := ⟨_, rfl⟩
      rw [hL] at hl h1 ⊢
      clear hL hl2 h0
      go_enter Tryz.func165, Tryz.ntmps165
      go_wp2
      go_ret3
      exact ⟨rfl, rfl⟩
    · obtain ⟨k, rfl⟩ := Int.eq_ofNat_of_zero_le (show 0 ≤ i by omega)
      have hk : k ≤ bs.length := by omega
      obtain ⟨T, hT⟩ : ∃ T, (if cp = k then A else A.map (·.add k)) = T := ⟨_, rfl⟩
      have hIT : In w T (bs.drop k) := hI.cut k T (fun hlt ad hA => by rw [← hT, if_neg (by omega), hA]; rfl)
      have hlt : (bs.drop k).length = bs.length - k := List.length_drop
      by_cases hs : cont (bs.drop k) = (bs.drop k).length
      · obtain ⟨rfl, rfl, rfl⟩ : 0 = a ∧ 0 = b ∧ 2 = c := by rw [getR_short hk hs] at hr; injection hr with h1 h2; injection h2 with h2 h3; exact ⟨h1, h2, h3⟩
        have hc := size_no T (cp - k) (bs.drop k) w hIT (by omega) (by unfold maxLen; omega) hs
        rw [hlt] at hc
        obtain ⟨l, hL⟩ : ∃ l, bs.length = l := ⟨_, rfl⟩
        rw [hL] at hl h1 hk hc ⊢
        have HC := Lib.hid hc
        have HT := Lib.hid hT
        clear hL hl2 h0 hr hI h hc hs hlt hIT hT
        have k0 : (k : Int) ≤ (l : Int) := by omega
        have k1 : (l : Int) ≤ (cp : Int) := by omega
        by_cases hck : cp = k
        · have hT' := HT.out
          rw [if_pos hck] at hT'
          rw [← hT', hck, Nat.sub_self, show l - k = 0 from by omega] at HC
          subst hck
          clear hT' HT
          go_enter Tryz.func165, Tryz.ntmps165
          go_wp2_with fail
          refine HC.out.mono ?_
          rintro e w' ⟨rfl, rfl⟩
          go_wp2
          go_ret3
          exact ⟨rfl, rfl⟩
        · have hT' := HT.out
          rw [if_neg hck] at hT'
          rw [← hT'] at HC
          clear hT' HT
          go_enter Tryz.func165, Tryz.ntmps165
          go_wp2_with fail
          refine HC.out.mono ?_
          rintro e w' ⟨rfl, rfl⟩
          go_wp2
          go_ret3
          exact ⟨rfl, rfl⟩
      · have hlt2 : cont (bs.drop k) < (bs.drop k).length := by have := cont_le (bs.drop k); omega
        have hc := size_yes T (cp - k) (bs.drop k) w hIT (by omega) (by unfold maxLen; omega) hlt2
        obtain ⟨hsh, hgl⟩ := cont_take hlt2
        have hIG : In w T ((bs.drop k).take (cont (bs.drop k) + 1)) := hIT.take _
        have hok : okL ((bs.drop k).take (cont (bs.drop k) + 1)) = true → ((valL ((bs.drop k).take (cont (bs.drop k) + 1)) : Nat) : Int) = a ∧ (k : Int) + ((cont (bs.drop k) : Int) + 1) = b ∧ 0 = c := fun ho => by
          rw [getR_ok hk hlt2 ho] at hr; injection hr with h1 h2; injection h2 with h2 h3; exact ⟨h1, h2, h3⟩
        have hno : okL ((bs.drop k).take (cont (bs.drop k) + 1)) = false → 0 = a ∧ 0 = b ∧ 4 = c := fun ho => by
          rw [getR_form hk hlt2 ho] at hr; injection hr with h1 h2; injection h2 with h2 h3; exact ⟨h1, h2, h3⟩
        have hrc : ∃ (n : Int) (t : Bool), (Calls Tryz.prog 199 #[.slice T (cont (bs.drop k) + 1) (cp - k)] w fun e w' => e = .returned (.tuple #[.int .i64 n, .bool t]) ∧ w = w') ∧
            ((t = true ∧ n = a ∧ (k : Int) + ((cont (bs.drop k) : Int) + 1) = b ∧ 0 = c) ∨ (t = false ∧ 0 = a ∧ 0 = b ∧ 4 = c)) := by
          generalize cont (bs.drop k) = m at *
          generalize (bs.drop k).take (m + 1) = g at *
          by_cases h9 : 9 < g.length
          · refine ⟨0, false, ?_, Or.inr ⟨rfl, hno (okL_long h9)⟩⟩
            exact read_long T (cp - k) (m + 1) w (by omega) (by unfold maxLen; omega) (by omega)
          · by_cases hz : g.length = 1 ∨ g.getD (g.length - 1) 0 ≠ 0
            · have hre := read_else T (cp - k) g w hIG (by omega) (by unfold maxLen; omega) ⟨by omega, by omega, hz⟩
              have hoe := okL_else hsh hz
              rw [hgl] at hre
              refine ⟨_, _, hre, ?_⟩
              by_cases hv : valL g ≤ 72057594037927936
              · left
                rw [decide_eq_true hv] at hoe
                exact ⟨decide_eq_true (by omega), hok hoe⟩
              · right
                rw [decide_eq_false hv] at hoe
                exact ⟨decide_eq_false (by omega), hno hoe⟩
            · have h1 : 1 < g.length := by omega
              have hz' : g.getD (g.length - 1) 0 = 0 := by
                rcases Decidable.em (g.getD (g.length - 1) 0 = 0) with e | e
                · exact e
                · exact absurd (Or.inr e) hz
              have hre := read_zero T (cp - k) g w hIG (by omega) h1 hz'
              rw [hgl] at hre
              exact ⟨0, false, hre, Or.inr ⟨rfl, hno (okL_zero h1 hz')⟩⟩
        obtain ⟨n, t, hre, hcase⟩ := hrc
        have hml : cont (bs.drop k) < bs.length - k := by omega
        generalize cont (bs.drop k) = m at *
        rw [hlt] at hc
        obtain ⟨l, hL⟩ : ∃ l, bs.length = l := ⟨_, rfl⟩
        rw [hL] at hl h1 hk hc hml ⊢
        have HC := Lib.hid hc
        have HR := Lib.hid hre
        rw [← hT, if_neg (show ¬ cp = k by omega)] at HC HR
        clear hL hl2 h0 hr hI h hc hs hlt hIT hT hre hok hno hIG hsh hgl hlt2
        have k0 : (k : Int) ≤ (l : Int) := by omega
        have k1 : (l : Int) ≤ (cp : Int) := by omega
        have k2 : (k : Int) + ((m : Int) + 1) ≤ (l : Int) := by omega
        have e1 : ((k : Int) + ((m : Int) + 1)).toNat = k + (m + 1) := by omega
        have e2 : k + (m + 1) - k = m + 1 := by omega
        go_enter Tryz.func165, Tryz.ntmps165
        go_wp2_with fail
        refine HC.out.mono ?_
        rintro e w' ⟨rfl, rfl⟩
        go_wp2_with fail
        refine HR.out.mono ?_
        rintro e w' ⟨rfl, rfl⟩
        clear e1 e2
        rcases hcase with ⟨rfl, rfl, rfl, rfl⟩ | ⟨rfl, rfl, rfl, rfl⟩
        · go_wp2
          go_ret3
          exact ⟨rfl, rfl⟩
        · go_wp2
          go_ret3
          exact ⟨rfl, rfl⟩
end Go.Proofs.YteffiedolcjjlaaGreat.Sh
