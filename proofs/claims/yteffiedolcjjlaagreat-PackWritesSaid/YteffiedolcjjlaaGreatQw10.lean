/- Texts put together: YShW13, YShW14, YShL0, YShU0. -/
import Derived.Test.YteffiedolcjjlaaGreatQw09
import Derived.ShutString
import Derived.ChangeOld
/- Hex. -/
namespace Go.Proofs.YteffiedolcjjlaaGreat.Sh
open Go.RowKit

theorem ssum_sl (v : Value) (bs : List UInt8) (w : World) (h : Sl w v bs) (hn : bs.length < 2 ^ 60) : Calls Tryz.prog 50 #[v] w (OwnPost w (sumOf bs)) := by
  obtain ⟨A, c, rfl, hlc, hcm, hI, _⟩ := h
  exact ssum_any A bs c w hI hlc hcm hn

/-- A digit. -/
def hexd (n : UInt8) : UInt8 := if n < 10 then 48 + n else 87 + n
def hi4 (x : UInt8) : UInt8 := UInt8.ofNat (x.toNat / 16)
def lo4 (x : UInt8) : UInt8 := UInt8.ofNat (x.toNat % 16)
def hex2 (x : UInt8) : List UInt8 := [hexd (hi4 x), hexd (lo4 x)]
def hexL (bs : List UInt8) : List UInt8 := bs.flatMap hex2
theorem hexL_snoc (bs : List UInt8) (x : UInt8) : hexL (bs ++ [x]) = hexL bs ++ hex2 x := by
  unfold hexL
  rw [List.flatMap_append]
  simp
theorem hexL_length (bs : List UInt8) : (hexL bs).length = 2 * bs.length := by
  induction bs with
  | nil => rfl
  | cons x r ih =>
    have : hexL (x :: r) = hex2 x ++ hexL r := rfl
    rw [this, List.length_append, ih, List.length_cons]
    show 2 + _ = _
    omega
theorem bi_hi4 (x : UInt8) : bi x / 16 = bi (hi4 x) := by
  unfold bi hi4
  have := x.toNat_lt
  rw [UInt8.toNat_ofNat']
  omega
theorem bi_lo4 (x : UInt8) : bits .and .u8 (bi x) 15 = bi (lo4 x) := by
  unfold bi lo4
  have := x.toNat_lt
  show bits .and .u8 ((x.toNat : Nat) : Int) ((15 : Nat) : Int) = _
  rw [u8_and_nat _ _ (by omega) (by omega), UInt8.toNat_ofNat', show x.toNat &&& 15 = x.toNat % 16 from Nat.and_two_pow_sub_one_eq_mod x.toNat 4]
  omega
theorem hi4_lt (x : UInt8) : (hi4 x).toNat < 16 := by unfold hi4; have := x.toNat_lt; rw [UInt8.toNat_ofNat']; omega
theorem lo4_lt (x : UInt8) : (lo4 x).toNat < 16 := by unfold lo4; have := x.toNat_lt; rw [UInt8.toNat_ofNat']; omega

theorem index_digit (h : UInt8) (hh : h.toNat < 16) (w : World) : (Instr.index 9 (.string ⟨#[48, 49, 50, 51, 52, 53, 54, 55, 56, 57, 97, 98, 99, 100, 101, 102]⟩) (.int .u8 (bi h))).run Tryz.prog w = .ok (.int .u8 (bi (hexd h))) w := by
  obtain ⟨m, hm, rfl⟩ : ∃ m, m < 16 ∧ h = UInt8.ofNat m := ⟨h.toNat, hh, by simp⟩
  clear hh
  obtain rfl | rfl | rfl | rfl | rfl | rfl | rfl | rfl | rfl | rfl | rfl | rfl | rfl | rfl | rfl | rfl : m = 0 ∨ m = 1 ∨ m = 2 ∨ m = 3 ∨ m = 4 ∨ m = 5 ∨ m = 6 ∨ m = 7 ∨ m = 8 ∨ m = 9 ∨ m = 10 ∨ m = 11 ∨ m = 12 ∨ m = 13 ∨ m = 14 ∨ m = 15 := by omega
  all_goals kernel_rfl

/-- A text's call. -/
def StrPost (w : World) (bs : List UInt8) (e : Ending) (w' : World) : Prop := e = .returned (.string (str bs)) ∧ Below w.heap.size w w'

set_option maxRecDepth 100000 in
set_option maxHeartbeats 800000 in
theorem hex_any (v : Value) (bs : List UInt8) (w : World) (h : Sl w v bs) (hn : bs.length ≤ 1000000) : Calls Tryz.prog 94 #[v] w (StrPost w (hexL bs)) := by
  obtain ⟨A, c, rfl, hlc, hcm, hI, hA⟩ := h
  unfold maxLen at hcm
  obtain ⟨l, hl⟩ : ∃ l, bs.length = l := ⟨_, rfl⟩
  rw [hl] at hlc hn ⊢
  have hmk : ∀ w : World, (Instr.makeSlice 51 (.int .i64 0) (.int .i64 (2 * (l : Int)))).run Tryz.prog w = .ok (.slice (some ⟨w.heap.size, 0, none⟩) 0 (2 * l)) (w.alloc (.cells (madeCells #[.int .u8 0] (2 * l)) 5)) := fun w => by
    have := make_bytes (2 * l) (by omega) w
    rw [Int.natCast_mul] at this
    exact this
  have hown := own_made w (2 * l) (by unfold maxLen; omega)
  have HL := Lib.hid hl
  have HI := Lib.hid hI
  have HA := Lib.hid hA
  have HOWN := Lib.hid hown
  clear hl hI hA hown
  go_enter Tryz.func94, Tryz.ntmps94
  go_wp2_with fail
  clear hmk
  go_loopw [3, 12] (fun v i wr => ∃ k : Nat, k ≤ l ∧ i = .int .i64 k ∧ Own wr w.heap.size v (hexL (bs.take k)) ∧ Below w.heap.size w wr) (fun _ i _ => l - (intOf i).toNat)
  case atStart =>
    exact ⟨0, by omega, rfl, by rw [List.take_zero]; exact HOWN.out, (Below.refl _ _).alloc (Nat.le_refl _) _⟩
  case round =>
    obtain ⟨k, hk, rfl, ho, hbw⟩ := hrel
    have hsz := hbw.size
    by_cases hlt : k < l
    · obtain ⟨adr, hA1, hlt2, hcell⟩ := HI.out (by rw [HL.out]; omega)
      subst hA1
      have hcw : wr.cell? (adr.add k) = some (.int .u8 (bi (bs.getD k 0))) := (hbw.cell (p := adr.add k) (by rw [block_of_add]; exact hlt2)).trans (hcell k (by rw [HL.out]; omega))
      have hsn : Hid (bs.take (k + 1) = bs.take k ++ [bs.getD k 0]) := by
        unfold Hid
        rw [List.take_add_one, List.getElem?_eq_getElem (by rw [HL.out]; exact hlt), List.getD_eq_getElem?_getD, List.getElem?_eq_getElem (by rw [HL.out]; exact hlt)]
        rfl
      generalize bs.getD k 0 = x at *
      have hj1 : (0 : Int) ≤ (k : Int) := by omega
      have hj2 : (k : Int) < (l : Int) := by omega
      have HO := Lib.hid ho
      have HBW := Lib.hid hbw
      clear ho hbw hcell
      have p1 := bi_hi4 x
      have p2 := bi_lo4 x
      have p3 := index_digit (hi4 x) (hi4_lt x)
      have p4 := index_digit (lo4 x) (lo4_lt x)
      have hxl : (hexL (bs.take k)).length + 2 ≤ 140737488355328 := by rw [hexL_length, List.length_take]; omega
      obtain ⟨i0, hi, hz0, hz1, hz2⟩ := info_parts info5
      go_wp2_with fail
      go_region_held3 (fun _ => True) (trivial)
        (first | (refine step_append_any _ rfl (.tmp 16) (.tmp 23) 51 rfl w.heap.size 5 i0 (.int .u8 0) 1 1 Tryz.underlying51 hi hz0 hz1 hz2 rfl (by decide) u3 (hexL (bs.take k)).length _ rfl (HO.out.drew.alloc _) (wr.heap.size + 1) (some ⟨wr.heap.size, 0, none⟩) 2 2 ((hex2 x).map bv) rfl (reads_new wr.drew (hex2 x) _ rfl 2 rfl) (bv_one _) (by unfold maxLen; omega) (by omega) (by simp; omega) ?_; intro v1 w1 hown1 hgrow1 hblk1))
      all_goals
        have ho1 : Own w1 w.heap.size v1 (hexL (bs.take (k + 1))) := by
          rw [hsn.out, hexL_snoc]
          unfold Own
          rw [List.length_append, List.map_append]
          exact hown1
        have hb1 : Below w.heap.size w w1 := ((HBW.out.drew).alloc hsz _).grown hgrow1 (by simp; omega) (fun k hk => (World.ownsRow.lt HO.out k hk).1)
        have HO1 := Lib.hid ho1
        have HB1 := Lib.hid hb1
        clear ho1 hb1 hown1 hgrow1 hblk1 p1 p2 p3 p4
        go_wp2
        go_roundw
        case rel => exact ⟨k + 1, by omega, by go_num, HO1.out, HB1.out⟩
        case measure => simp [intOf]; omega
    · obtain rfl : k = l := by omega
      rw [List.take_of_length_le (by rw [HL.out]; omega)] at ho
      obtain ⟨A3, c3, hv3, hA3, hA4, hI3, hA5⟩ := ho.sl
      subst hv3
      have hcs := conv_str wr A3 (hexL bs) c3 hI3 hA5
      have HBW := Lib.hid hbw
      clear ho hI3 hA5 hbw
      obtain ⟨m, hm⟩ : ∃ m, (hexL bs).length = m := ⟨_, rfl⟩
      rw [hm] at hcs ⊢
      clear hm
      go_wp2
      go_ret
      exact ⟨rfl, HBW.out⟩
end Go.Proofs.YteffiedolcjjlaaGreat.Sh
/- ID; the chapter's examples. -/
namespace Go.Proofs.YteffiedolcjjlaaGreat.Sh
open Go.RowKit

theorem sumOf_length (bs : List UInt8) : (sumOf bs).length = 32 := by
  rw [sumOf_eq]; exact outB_length _

set_option maxRecDepth 100000 in
set_option maxHeartbeats 400000 in
/-- sha.ID -/
theorem id_any (v : Value) (bs : List UInt8) (w : World) (h : Sl w v bs) (hn : bs.length < 2 ^ 60) : Calls Tryz.prog 56 #[v] w (StrPost w (hexL (sumOf bs))) := by
  have H := Lib.hid h
  clear h
  go_enter Tryz.func56, Tryz.ntmps56
  go_wp2_with fail
  refine (ssum_sl v bs _ H.out hn).mono ?_
  rintro e w1 ⟨v1, rfl, ho, hb⟩
  have HS := Lib.hid ho.sl
  have HB := Lib.hid hb
  clear ho hb
  go_wp2_with fail
  refine (hex_any v1 (sumOf bs) _ HS.out (by rw [sumOf_length]; omega)).mono ?_
  rintro e w2 ⟨rfl, hb2⟩
  have hz := HB.out.size
  have HB2 := Lib.hid (HB.out.trans (hb2.mono hz))
  clear hb2
  go_wp2_with fail
  go_ret
  exact ⟨rfl, HB2.out⟩

end Go.Proofs.YteffiedolcjjlaaGreat.Sh
/- What the laws' walks share. -/
namespace Go.Proofs.YteffiedolcjjlaaGreat.Sh
open Go.RowKit

/-- A slice of integers that came in, as the walk is told of it. -/
def IsRow (k : IntKind) (w : World) (a : Option Addr) (len cap : Nat) (zs : List Int) : Prop :=
  (a = none ∧ len = 0 ∧ cap = 0 ∧ zs = []) ∨
  ∃ x, a = some x ∧ len ≤ cap ∧ cap ≤ maxLen ∧ zs.length = cap ∧ (∀ i, i < zs.length → w.cell? (x.add i) = some (.int k (zs.getD i 0))) ∧ ∀ n ∈ zs, (Lit.int k n).wf = true
theorem bi_of {n : Int} (h : (Lit.int .u8 n).wf = true) : bi (UInt8.ofNat n.toNat) = n := by
  have hx : 0 ≤ n ∧ n ≤ 255 := by simpa [Lit.wf, IntKind.min, IntKind.max, IntKind.signed, IntKind.bits] using h
  unfold bi
  rw [UInt8.toNat_ofNat']
  omega
theorem IsRow.sl {w : World} {a : Option Addr} {len cap : Nat} {zs : List Int} (h : IsRow .u8 w a len cap zs) : ∃ bs : List UInt8, bs.length = len ∧ Sl w (.slice a len cap) bs := by
  rcases h with ⟨rfl, rfl, rfl, rfl⟩ | ⟨x, rfl, hl, hm, hz, hc, hw⟩
  · exact ⟨[], rfl, none, 0, rfl, by simp, by unfold maxLen; omega, In.nil w none, fun _ => rfl⟩
  · refine ⟨(zs.take len).map (fun n => UInt8.ofNat n.toNat), by simp; omega, some x, cap, ?_, by simp; omega, hm, ?_, fun h => by cases h⟩
    · congr 1
      simp
      omega
    · intro h0
      have hl0 : 0 < len := by
        simp at h0
        omega
      refine ⟨x, rfl, ?_, fun j hj => ?_⟩
      · have := World.block_lt_of_cell? w _ (hc 0 (by omega))
        rw [block_of_add] at this
        exact this
      · have hj' : j < len := by
          simp at hj
          omega
        rw [hc j (by omega)]
        have hjz : j < zs.length := by omega
        rw [List.getD_eq_getElem?_getD, List.getElem?_eq_getElem hjz, List.getD_eq_getElem?_getD, List.getElem?_map, List.getElem?_take, if_pos hj', List.getElem?_eq_getElem hjz]
        show some (Value.int .u8 zs[j]) = some (Value.int .u8 (bi (UInt8.ofNat zs[j].toNat)))
        rw [bi_of (hw _ (List.getElem_mem hjz))]

/-- Block g begins with m bytes that may be written. -/
def Wr (w : World) (g m : Nat) : Prop := ∃ cur, Blk w g 5 cur ∧ ∀ j, j < m → ∃ u, cur[j]? = some (.int .u8 u)
theorem Wr.cell {w : World} {g m : Nat} (h : Wr w g m) (j : Nat) (hj : j < m) : ∃ u, w.cell? ⟨g, j, none⟩ = some (.int .u8 u) ∧ w.frozen? ⟨g, j, none⟩ = false := by
  obtain ⟨cur, hb, hc⟩ := h
  obtain ⟨u, hu⟩ := hc j hj
  exact ⟨u, (hb.cell j).trans hu, hb.frozen j⟩
theorem Wr.set {w : World} {g m : Nat} (h : Wr w g m) (k : Nat) (u : Int) : Wr (w.setCell ⟨g, k, none⟩ (.int .u8 u)) g m := by
  obtain ⟨cur, hb, hc⟩ := h
  refine ⟨_, hb.set_ k _, fun j hj => ?_⟩
  obtain ⟨v, hv⟩ := hc j hj
  rw [Array.getElem?_setIfInBounds]
  by_cases e : k = j
  · subst e
    have : k < cur.size := (Array.getElem?_eq_some_iff.1 hv).1
    rw [if_pos rfl, if_pos this]
    exact ⟨_, rfl⟩
  · rw [if_neg e]
    exact ⟨v, hv⟩
theorem Wr.far {w : World} {g m : Nat} (h : Wr w g m) {p : Addr} (hp : g ≠ p.block) (u : Value) : Wr (w.setCell p u) g m := by
  obtain ⟨cur, hb, hc⟩ := h
  exact ⟨cur, hb.far hp u, hc⟩
theorem Wr.below {w w' : World} {g m B : Nat} (h : Wr w g m) (hb : Below B w w') (hg : g < B) : Wr w' g m := by
  obtain ⟨cur, hbk, hc⟩ := h
  exact ⟨cur, hbk.below hb hg, hc⟩
theorem Own.wr {w : World} {B : Nat} {v : Value} {bs : List UInt8} (h : Own w B v bs) (h0 : 0 < bs.length) : ∃ g c, v = .slice (some ⟨g, 0, none⟩) bs.length c ∧ bs.length ≤ c ∧ c ≤ maxLen ∧ B ≤ g ∧ g < w.heap.size ∧ Wr w g bs.length := by
  rcases h.2 with ⟨rfl, h1⟩ | ⟨g, cap, cur, rfl, hb, hg, hc, hm, hcs, htk⟩
  · omega
  · refine ⟨g, cap, rfl, hc, hm, hb, (Array.getElem?_eq_some_iff.1 hg).1, cur, hg, fun j hj => ?_⟩
    have : (cur.toList.take (bs.length * 1))[j]? = (bs.map bv)[j]? := by rw [htk]
    rw [List.getElem?_take, if_pos (by omega), List.getElem?_map, List.getElem?_eq_getElem hj] at this
    exact ⟨_, by simpa [bv] using this⟩
theorem HH.far {w : World} {b : Nat} {all : List UInt8} (h : HH w b all) {p : Addr} (hp : b ≠ p.block) (u : Value) : HH (w.setCell p u) b all := by
  obtain ⟨s, rest, d, ad, hB, hm, hst, hta⟩ := h
  exact ⟨s, rest, d, ad, hB.far hp u, hm, hst, hta⟩
theorem HH.below {w w' : World} {b B : Nat} {all : List UInt8} (h : HH w b all) (hb : Below B w w') (hg : b < B) : HH w' b all := by
  obtain ⟨s, rest, d, ad, hB, hm, hst, hta⟩ := h
  exact ⟨s, rest, d, ad, hB.below hb hg, hm, hst, hta⟩
theorem HH.lt {w : World} {b : Nat} {all : List UInt8} (h : HH w b all) : b < w.heap.size := by
  obtain ⟨s, rest, d, ad, hB, _⟩ := h
  exact hB.lt
theorem Own.only {w w' : World} {B g : Nat} {v : Value} {bs : List UInt8} (h : Own w B v bs) (hg : w.grownBy w' (some g)) (hgB : g < B) : Own w' B v bs :=
  World.ownsRow.kept h hg (by
    cases hv : v.ownBlock with
    | none => exact .inl rfl
    | some k =>
      refine .inr fun e => ?_
      have := (World.ownsRow.lt h k hv).1
      injection e with e
      omega)
theorem Sl.only {w w' : World} {v : Value} {bs : List UInt8} {b B : Nat} (h : Sl w v bs) (hB : w.heap.size = B) (hb : B ≤ b) {w2 : World} (h1 : Below B w w2) (h2 : w2.grownBy w' (some b)) : Sl w' v bs := by
  subst hB
  exact h.below (h1.trans (below_of_only h2 hb h1.size))
theorem Own.below {w w' : World} {B : Nat} {v : Value} {bs : List UInt8} (h : Own w B v bs) (hb : Below w.heap.size w w') : Own w' B v bs :=
  World.ownsRow.kept h (only_of_below hb none) (by cases hv : v.ownBlock <;> simp)
end Go.Proofs.YteffiedolcjjlaaGreat.Sh
/- Digits; texts that are bytes. -/
namespace Go.Proofs.YteffiedolcjjlaaGreat.Sh
open Go.RowKit

/-- A digit's number; none: it is no digit. -/
def dv (c : UInt8) : Option UInt8 := if 48 ≤ c ∧ c ≤ 57 then some (c - 48) else if 97 ≤ c ∧ c ≤ 102 then some (c - 87) else none
theorem dv_cases (c : UInt8) : (bi c < 48 ∧ dv c = none) ∨ (48 ≤ bi c ∧ bi c ≤ 57 ∧ dv c = some (UInt8.ofNat (bi c - 48).toNat)) ∨ (57 < bi c ∧ bi c < 97 ∧ dv c = none) ∨
    (97 ≤ bi c ∧ bi c ≤ 102 ∧ dv c = some (UInt8.ofNat (bi c - 87).toNat)) ∨ (102 < bi c ∧ dv c = none) := by
  obtain ⟨n, hn, rfl⟩ : ∃ n, n < 256 ∧ c = UInt8.ofNat n := ⟨c.toNat, c.toNat_lt, by simp⟩
  have hb : bi (UInt8.ofNat n) = (n : Int) := by unfold bi; rw [UInt8.toNat_ofNat']; omega
  rw [hb]
  have key : ∀ n, n < 256 → (n < 48 ∧ dv (UInt8.ofNat n) = none) ∨ (48 ≤ n ∧ n ≤ 57 ∧ dv (UInt8.ofNat n) = some (UInt8.ofNat (n - 48))) ∨ (57 < n ∧ n < 97 ∧ dv (UInt8.ofNat n) = none) ∨
    (97 ≤ n ∧ n ≤ 102 ∧ dv (UInt8.ofNat n) = some (UInt8.ofNat (n - 87))) ∨ (102 < n ∧ dv (UInt8.ofNat n) = none) := by decide +kernel
  rcases key n hn with ⟨h1, h2⟩ | ⟨h1, h2, h3⟩ | ⟨h1, h2, h3⟩ | ⟨h1, h2, h3⟩ | ⟨h1, h2⟩
  · exact .inl ⟨by omega, h2⟩
  · exact .inr (.inl ⟨by omega, by omega, by rw [h3]; congr 2; omega⟩)
  · exact .inr (.inr (.inl ⟨by omega, by omega, h3⟩))
  · exact .inr (.inr (.inr (.inl ⟨by omega, by omega, by rw [h3]; congr 2; omega⟩)))
  · exact .inr (.inr (.inr (.inr ⟨by omega, h2⟩)))
theorem bi_sub (x : Int) (h0 : 0 ≤ x) (h1 : x ≤ 255) : bi (UInt8.ofNat x.toNat) = x := by
  unfold bi; rw [UInt8.toNat_ofNat']; omega

set_option maxHeartbeats 400000 in
/-- digitValue at no digit. -/
theorem dig_no (c : UInt8) (w : World) (h : dv c = none) : Calls Tryz.prog 177 #[.int .u8 (bi c)] w fun e w' => e = .returned (.tuple #[.int .u8 0, .bool false]) ∧ w = w' := by
  have hb := bi_lt c
  rcases dv_cases c with ⟨h1, _⟩ | ⟨_, _, h2⟩ | ⟨h1, h2, _⟩ | ⟨_, _, h2⟩ | ⟨h1, _⟩
  · clear h
    generalize bi c = x at *
    go_enter Tryz.func177, Tryz.ntmps177
    go_wp2
    go_ret2
    exact ⟨rfl, rfl⟩
  · rw [h] at h2; cases h2
  · clear h
    generalize bi c = x at *
    go_enter Tryz.func177, Tryz.ntmps177
    go_wp2
    go_ret2
    exact ⟨rfl, rfl⟩
  · rw [h] at h2; cases h2
  · clear h
    generalize bi c = x at *
    go_enter Tryz.func177, Tryz.ntmps177
    go_wp2
    go_ret2
    exact ⟨rfl, rfl⟩
set_option maxHeartbeats 400000 in
theorem dig_yes (c v : UInt8) (w : World) (h : dv c = some v) : Calls Tryz.prog 177 #[.int .u8 (bi c)] w fun e w' => e = .returned (.tuple #[.int .u8 (bi v), .bool true]) ∧ w = w' := by
  have hb := bi_lt c
  rcases dv_cases c with ⟨_, h2⟩ | ⟨h1, h1', h2⟩ | ⟨_, _, h2⟩ | ⟨h1, h1', h2⟩ | ⟨_, h2⟩
  · rw [h] at h2; cases h2
  · rw [h] at h2
    injection h2 with h2
    subst h2
    clear h
    generalize bi c = x at *
    have HX := Lib.hid (bi_sub (x - 48) (by omega) (by omega))
    go_enter Tryz.func177, Tryz.ntmps177
    go_wp2
    go_ret2
    exact ⟨by rw [HX.out]; rfl, rfl⟩
  · rw [h] at h2; cases h2
  · rw [h] at h2
    injection h2 with h2
    subst h2
    clear h
    generalize bi c = x at *
    have HX := Lib.hid (bi_sub (x - 87) (by omega) (by omega))
    have e1 : x - 97 + 10 = x - 87 := by omega
    go_enter Tryz.func177, Tryz.ntmps177
    go_wp2
    go_ret2
    exact ⟨by rw [HX.out, ← e1]; rfl, rfl⟩
  · rw [h] at h2; cases h2

theorem str_size (cs : List UInt8) : (str cs).size = cs.length := by
  unfold str ByteArray.size
  simp
theorem index_str (cs : List UInt8) (k : Nat) (hk : k < cs.length) (w : World) : (Instr.index 9 (.string (str cs)) (.int .i64 (k : Int))).run Tryz.prog w = .ok (.int .u8 (bi (cs.getD k 0))) w := by
  have hsz := str_size cs
  have hg : (str cs)[k]? = some cs[k] := getElem?_pos (str cs) k (by rw [hsz]; exact hk)
  simp [Instr.index, go_sem]
  rw [hg, List.getElem?_eq_getElem hk]
  unfold bi
  rfl

/-- Is it an even number of digits? -/
def hexOk (cs : List UInt8) : Bool := cs.length % 2 == 0 && cs.all (fun c => (dv c).isSome)
theorem hexOk_at {cs : List UInt8} (h : hexOk cs = true) (k : Nat) (hk : k < cs.length) : ∃ v, dv (cs.getD k 0) = some v := by
  unfold hexOk at h
  rw [Bool.and_eq_true] at h
  have := List.all_eq_true.1 h.2 cs[k] (List.getElem_mem hk)
  rw [List.getD_eq_getElem?_getD, List.getElem?_eq_getElem hk]
  exact Option.isSome_iff_exists.1 this
theorem hexOk_even {cs : List UInt8} (h : hexOk cs = true) : cs.length % 2 = 0 := by
  unfold hexOk at h
  rw [Bool.and_eq_true, beq_iff_eq] at h
  exact h.1
theorem hexOk_of {cs : List UInt8} (h : cs.length % 2 = 0) (hd : ∀ k, k < cs.length → ∃ v, dv (cs.getD k 0) = some v) : hexOk cs = true := by
  unfold hexOk
  rw [Bool.and_eq_true, beq_iff_eq]
  refine ⟨h, List.all_eq_true.2 fun c hc => ?_⟩
  obtain ⟨k, hk, rfl⟩ := List.getElem_of_mem hc
  obtain ⟨v, hv⟩ := hd k hk
  rw [List.getD_eq_getElem?_getD, List.getElem?_eq_getElem hk] at hv
  rw [show dv cs[k] = some v from hv]
  rfl

set_option maxHeartbeats 400000 in
/-- isHex. -/
theorem ishex_yes (cs : List UInt8) (w : World) (h : hexOk cs = true) (hl : cs.length ≤ 1000000) : Calls Tryz.prog 176 #[.string (str cs)] w fun e w' => e = .returned (.bool true) ∧ w = w' := by
  have hev := hexOk_even h
  have hsz := str_size cs
  have H := Lib.hid h
  obtain ⟨l, hL⟩ : ∃ l, cs.length = l := ⟨_, rfl⟩
  rw [hL] at hsz hev hl
  have HL := Lib.hid hL
  clear h hL
  have e1 : (l : Int) % 2 = 0 := by omega
  have e2 : (l : Int).tmod 2 = 0 := by rw [Int.tmod_eq_emod_of_nonneg (by omega)]; omega
  have HEV := Lib.hid hev
  clear hev
  go_enter Tryz.func176, Tryz.ntmps176
  go_wp2
  go_loop [12] (fun i => ∃ k : Nat, k ≤ l ∧ i = .int .i64 k) (fun i => l - (intOf i).toNat)
  case atStart => exact ⟨0, by omega, rfl⟩
  case round =>
    obtain ⟨k, hk, rfl⟩ := hrel
    by_cases hlt : k < l
    · have hidx := index_str cs k (by rw [HL.out]; exact hlt)
      obtain ⟨v, hv⟩ := hexOk_at H.out k (by rw [HL.out]; exact hlt)
      generalize cs.getD k 0 = x at *
      have HV := Lib.hid hv
      clear hv
      go_wp2_with (go_at_call 177; refine (dig_yes x v _ HV.out).mono ?_; rintro e w' ⟨rfl, rfl⟩)
      go_round
      case rel => exact ⟨k + 1, by omega, by go_num⟩
      case measure => simp [intOf]; omega
    · obtain rfl : k = l := by omega
      go_wp2
      go_ret
      exact ⟨rfl, rfl⟩

set_option maxHeartbeats 400000 in
theorem ishex_no (cs : List UInt8) (w : World) (h : hexOk cs = false) (hl : cs.length ≤ 1000000) : Calls Tryz.prog 176 #[.string (str cs)] w fun e w' => e = .returned (.bool false) ∧ w = w' := by
  have hsz := str_size cs
  have H := Lib.hid h
  obtain ⟨l, hL⟩ : ∃ l, cs.length = l := ⟨_, rfl⟩
  rw [hL] at hsz hl
  have HL := Lib.hid hL
  clear h hL
  by_cases hev : l % 2 = 0
  · have e1 : (l : Int) % 2 = 0 := by omega
    have e2 : (l : Int).tmod 2 = 0 := by rw [Int.tmod_eq_emod_of_nonneg (by omega)]; omega
    have HEV := Lib.hid hev
    clear hev
    go_enter Tryz.func176, Tryz.ntmps176
    go_wp2
    go_loop [12] (fun i => ∃ k : Nat, k ≤ l ∧ i = .int .i64 k ∧ ∀ j, j < k → ∃ v, dv (cs.getD j 0) = some v) (fun i => l - (intOf i).toNat)
    case atStart => exact ⟨0, by omega, rfl, fun j hj => by omega⟩
    case round =>
      obtain ⟨k, hk, rfl, hall⟩ := hrel
      have HALL := Lib.hid hall
      clear hall
      by_cases hlt : k < l
      · have hidx := index_str cs k (by rw [HL.out]; exact hlt)
        obtain ⟨x, hx⟩ : ∃ x, cs.getD k 0 = x := ⟨_, rfl⟩
        rw [hx] at hidx
        have HX := Lib.hid hx
        clear hx
        cases hv : dv x with
        | none =>
          have HV := Lib.hid hv
          clear hv
          go_wp2_with (go_at_call 177; refine (dig_no x _ HV.out).mono ?_; rintro e w' ⟨rfl, rfl⟩)
          go_ret
          exact ⟨rfl, rfl⟩
        | some v =>
          have HV := Lib.hid hv
          clear hv
          go_wp2_with (go_at_call 177; refine (dig_yes x v _ HV.out).mono ?_; rintro e w' ⟨rfl, rfl⟩)
          go_round
          case rel =>
            refine ⟨k + 1, by omega, by go_num, fun j hj => ?_⟩
            by_cases e : j = k
            · rw [e, HX.out]; exact ⟨v, HV.out⟩
            · exact HALL.out j (by omega)
          case measure => simp [intOf]; omega
      · obtain rfl : k = l := by omega
        have hh := H.out
        rw [hexOk_of (by rw [HL.out]; exact HEV.out) (by rw [HL.out]; exact HALL.out)] at hh
        cases hh
  · have e1 : ((l : Int) % 2 != 0) = true := by rw [bne_iff_ne]; omega
    have e2 : ((l : Int) % 2 == 0) = false := beq_eq_false_iff_ne.2 (by omega)
    clear hev
    go_enter Tryz.func176, Tryz.ntmps176
    go_wp2
    go_ret
    exact ⟨rfl, rfl⟩
end Go.Proofs.YteffiedolcjjlaaGreat.Sh
