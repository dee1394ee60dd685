/- Texts put together: UShW11, UShW12, UShW13, UShW14, UShL0, UShU0, UShU1. -/
import Derived.Test.YtbenkmihkbjgeaaGreatQu22
import Derived.Laws.BytesString
import Derived.ShutString
import Derived.ChangeOld
/- A Hasher, used: Write, Sum; sha.Sum. -/
namespace Go.Proofs.YtbenkmihkbjgeaaGreat.Sh
open Go.RowKit
theorem write_any (b : Nat) (all bs : List UInt8) (A : Option Addr) (cap : Nat) (w : World) (h : HH w b all) (hs : Src w b A bs) (hlc : bs.length ≤ cap) (hcm : cap ≤ maxLen) (hn : all.length + bs.length < 2 ^ 60) :
  Calls Tryz.prog 210 #[.pointer (some ⟨b, 0, none⟩), .slice A bs.length cap] w fun e w' => e = .returned (.tuple #[]) ∧ HH w' b (all ++ bs) ∧ w.grownBy w' (some b) := by
 by_cases h0 : all.length % 64 = 0
 ·exact write_zero b all bs A cap w h hs hlc hcm hn h0
 ·by_cases h1 : all.length % 64 + bs.length < 64
  ·exact write_few b all bs A cap w h hs hlc hcm hn (by omega) h1
  ·exact write_fill b all bs A cap w h hs hlc hcm hn (by omega) (by omega)
def HSum (b : Nat) (all : List UInt8) (w : World) (e : Ending) (w' : World) : Prop :=
 ∃ v, e = .returned v ∧ Own w' w.heap.size v (sumOf all) ∧ HH w' b all ∧ w.grownBy w' (some b)
theorem hsum_any (b : Nat) (all : List UInt8) (w : World) (h : HH w b all) (hn : all.length < 2 ^ 60) : Calls Tryz.prog 211 #[.pointer (some ⟨b, 0, none⟩)] w (HSum b all w) := by
 obtain ⟨s, rest, d, ad, hB, hm, hst, hta⟩ := h
 refine (sum_any b s rest all.length d ad w hB hm hn).mono ?_
 rintro e w' ⟨v, he, ho, hB', hg⟩
 refine ⟨v, he, ?_, ⟨s, rest, 1, kv, hB', .inr ⟨rfl, rfl⟩, hst, hta⟩, hg⟩
 rw [sumOf_eq, ← hst, ← hta]
 exact ho
theorem new_hh {w : World} {e : Ending} {w' : World} (h : NewPost w e w') : ∃ b, e = .returned (.pointer (some ⟨b, 0, none⟩)) ∧ HH w' b [] ∧ w.heap.size ≤ b ∧ Below w.heap.size w w' := by
 obtain ⟨b, ad, he, hB, hb, hw⟩ := h
 refine ⟨b, he, ⟨St.first, _, 0, ad, hB, .inl rfl, ?_, ?_⟩, hb, hw⟩
 ·rw [full_eq]; exact (blocks_zero _ _).symm
 ·rfl
def In (w : World) (A : Option Addr) (bs : List UInt8) : Prop :=
 0 < bs.length → ∃ ad, A = some ad ∧ ad.block < w.heap.size ∧ ∀ j, j < bs.length → w.cell? (ad.add j) = some (.int .u8 (bi (bs.getD j 0)))
theorem In.nil (w : World) (A : Option Addr) : In w A [] := fun h => absurd h (by simp)
theorem In.below {w w' : World} {A : Option Addr} {bs : List UInt8} (h : In w A bs) (hb : Below w.heap.size w w') : In w' A bs := by
 intro h0
 obtain ⟨ad, hA, hlt, hc⟩ := h h0
 exact ⟨ad, hA, Nat.lt_of_lt_of_le hlt hb.size, fun j hj => (hb.cell (p := ad.add j) (by rw [block_of_add]; exact hlt)).trans (hc j hj)⟩
theorem In.src {w w' : World} {A : Option Addr} {bs : List UInt8} (h : In w A bs) (hb : Below w.heap.size w w') {b : Nat} (hbb : w.heap.size ≤ b) : Src w' b A bs := by
 intro h0
 obtain ⟨ad, hA, hlt, hc⟩ := h h0
 exact ⟨ad, hA, by omega, Nat.lt_of_lt_of_le hlt hb.size, fun j hj => (hb.cell (p := ad.add j) (by rw [block_of_add]; exact hlt)).trans (hc j hj)⟩
theorem Own.in_ {w : World} {B : Nat} {v : Value} {bs : List UInt8} (h : Own w B v bs) : ∃ A c, v = .slice A bs.length c ∧ bs.length ≤ c ∧ c ≤ maxLen ∧ In w A bs ∧ (0 < bs.length → ∃ g, A = some ⟨g, 0, none⟩ ∧ B ≤ g ∧ g < w.heap.size) := by
 rcases h.2 with ⟨rfl, h0⟩ | ⟨g, cap, cur, rfl, hb, hg, hc, hm, hcs, htk⟩
 ·exact ⟨none, 0, by rw [h0], by omega, by unfold maxLen; omega, fun h1 => by omega, fun h1 => by omega⟩
 ·have hlt : g < w.heap.size := (Array.getElem?_eq_some_iff.1 hg).1
  refine ⟨some ⟨g, 0, none⟩, cap, rfl, hc, hm, fun _ => ⟨_, rfl, hlt, fun j hj => ?_⟩, fun _ => ⟨g, rfl, hb, hlt⟩⟩
  rw [Addr.add_mid, cell_of_row _ _ _ _ _ _ hg, Nat.zero_add]
  have : (cur.toList.take (bs.length * 1))[j]? = (bs.map bv)[j]? := by rw [htk]
  rw [List.getElem?_take, if_pos (by omega), List.getElem?_map, List.getElem?_eq_getElem hj] at this
  rw [List.getD_eq_getElem?_getD, List.getElem?_eq_getElem hj]
  simpa [bv] using this
def OwnPost (w : World) (bs : List UInt8) (e : Ending) (w' : World) : Prop := ∃ v, e = .returned v ∧ Own w' w.heap.size v bs ∧ Below w.heap.size w w'
set_option maxRecDepth 100000 in
set_option maxHeartbeats 800000 in
theorem ssum_any (A : Option Addr) (bs : List UInt8) (cap : Nat) (w : World) (h : In w A bs) (hlc : bs.length ≤ cap) (hcm : cap ≤ maxLen) (hn : bs.length < 2 ^ 60) :
  Calls Tryz.prog 179 #[.slice A bs.length cap] w (OwnPost w (sumOf bs)) := by
 have HI := Lib.hid h
 obtain ⟨l, hl⟩ : ∃ l, bs.length = l := ⟨_, rfl⟩
 have HL := Lib.hid hl
 rw [hl]
 clear h hl
 go_enter Tryz.func179, Tryz.ntmps179
 go_wp2_with fail
 refine (new_any _).mono ?_
 intro e w1 hnew
 obtain ⟨b, rfl, hH, hb, hw1⟩ := new_hh hnew
 clear hnew
 have HH1 := Lib.hid hH
 have HW1 := Lib.hid hw1
 clear hH hw1
 go_wp2_with fail
 have hw := write_any b [] bs A cap w1 HH1.out (HI.out.src HW1.out hb) hlc hcm (by simpa using hn)
 rw [HL.out] at hw
 refine hw.mono ?_
 rintro e w2 ⟨rfl, hH2, hg2⟩
 clear hw
 rw [List.nil_append] at hH2
 have HH2 := Lib.hid hH2
 have HG2 := Lib.hid hg2
 clear hH2 hg2
 go_wp2_with fail
 refine (hsum_any b bs _ HH2.out hn).mono ?_
 rintro e w3 ⟨v, rfl, ho, hH3, hg3⟩
 have hz := HG2.out.size
 have hz1 := HW1.out.size
 have HO := Lib.hid (ho.base (show w.heap.size ≤ w2.heap.size by omega))
 have HF := Lib.hid (HW1.out.trans (below_of_only (only_then HG2.out hg3) hb hz1))
 clear ho hH3 hg3
 go_wp2_with fail
 go_ret
 exact ⟨v, rfl, HO.out, HF.out⟩
end Go.Proofs.YtbenkmihkbjgeaaGreat.Sh
/- Bytes as a text; CopyBytes, Bytes. -/
namespace Go.Proofs.YtbenkmihkbjgeaaGreat.Sh
open Go.RowKit
def str (bs : List UInt8) : ByteArray := ⟨bs.toArray⟩
theorem str_inj {a b : List UInt8} (h : str a = str b) : a = b := by
 unfold str at h
 injection h with h
 simpa using congrArg Array.toList h
theorem str_push (bs : List UInt8) : ∀ (acc : List UInt8), (bs.map bi).foldl (fun (r : ByteArray) n => r.push (UInt8.ofNat n.toNat)) (str acc) = str (acc ++ bs) := by
 induction bs with
 | nil => intro acc; simp
 | cons x r ih =>
  intro acc
  have e : (str acc).push (UInt8.ofNat (bi x).toNat) = str (acc ++ [x]) := by
   have : UInt8.ofNat (bi x).toNat = x := by unfold bi; simp
   rw [this]
   unfold str ByteArray.push
   simp
  rw [List.map_cons, List.foldl_cons, e, ih]
  simp
theorem load_in {w : World} {ad : Addr} {bs : List UInt8} (h : ∀ j, j < bs.length → w.cell? (ad.add j) = some (.int .u8 (bi (bs.getD j 0)))) :
  (loadCells ad bs.length).run Tryz.prog w = .ok ((bs.map bi).map (Value.int .u8)).toArray w := by
 have := run_loadCells_list (P := Tryz.prog) w ad ((bs.map bi).map (Value.int .u8)) (fun j v hv => by
  have hj : j < bs.length := by
   have := (List.getElem?_eq_some_iff.1 hv).1
   simpa using this
  rw [h j hj, ← hv, List.getElem?_map, List.getElem?_map, List.getElem?_eq_getElem hj, List.getD_eq_getElem?_getD, List.getElem?_eq_getElem hj]
  rfl)
 simpa using this
theorem conv_str (w : World) (A : Option Addr) (bs : List UInt8) (c : Nat) (h : In w A bs) (hA : A = none → bs = []) :
  (convert 45 9 (.slice A bs.length c)).run Tryz.prog w = .ok (.string (str bs)) w := by
 rw [run_convert_bytes_string w 45 9 5 A bs.length c Tryz.underlying45 Tryz.underlying5 Tryz.underlying9]
 rcases A with _ | ad
 ·obtain rfl := hA rfl
  simp [Conv.bytesToString, Sem.run_pure, str]
  rfl
 ·have hl : (loadCells ad bs.length).run Tryz.prog w = .ok ((bs.map bi).map (Value.int .u8)).toArray w := by
   rcases Nat.eq_zero_or_pos bs.length with h0 | h0
   ·exact load_in (fun j hj => by omega)
   ·obtain ⟨ad', e, _, hc⟩ := h h0
    injection e with e
    subst e
    exact load_in hc
  rw [run_bytesToString w ad bs.length c _ hl]
  have := str_push bs []
  rw [List.nil_append] at this
  have e0 : ByteArray.empty = str [] := rfl
  rw [e0, this]
def Sl (w : World) (v : Value) (bs : List UInt8) : Prop := ∃ A c, v = .slice A bs.length c ∧ bs.length ≤ c ∧ c ≤ maxLen ∧ In w A bs ∧ (A = none → bs = [])
theorem Sl.below {w w' : World} {v : Value} {bs : List UInt8} (h : Sl w v bs) (hb : Below w.heap.size w w') : Sl w' v bs := by
 obtain ⟨A, c, hv, h1, h2, h3, h4⟩ := h
 exact ⟨A, c, hv, h1, h2, h3.below hb, h4⟩
theorem Own.sl {w : World} {B : Nat} {v : Value} {bs : List UInt8} (h : Own w B v bs) : Sl w v bs := by
 obtain ⟨A, c, hv, h1, h2, h3, h4⟩ := h.in_
 refine ⟨A, c, hv, h1, h2, h3, fun hA => ?_⟩
 rcases Nat.eq_zero_or_pos bs.length with h0 | h0
 ·exact List.eq_nil_of_length_eq_zero h0
 ·obtain ⟨g, e, _⟩ := h4 h0
  rw [hA] at e
  cases e
theorem Sl.nil_ (w : World) : Sl w (.slice none 0 0) [] := ⟨none, 0, rfl, by simp, by unfold maxLen; omega, In.nil w none, fun _ => rfl⟩
theorem In.reads {w : World} {A : Option Addr} {bs : List UInt8} (h : In w A bs) : Reads w w.heap.size 1 A bs.length (bs.map bv) := by
 refine ⟨by simp, fun h0 => ?_⟩
 obtain ⟨ad, hA, hlt, hc⟩ := h h0
 refine ⟨ad, hA, hlt, fun j u hu => ?_⟩
 have hj : j < bs.length := by
  have := (List.getElem?_eq_some_iff.1 hu).1
  simpa using this
 rw [hc j hj, ← hu, List.getElem?_map, List.getElem?_eq_getElem hj, List.getD_eq_getElem?_getD, List.getElem?_eq_getElem hj]
 rfl
theorem str_toList (bs : List UInt8) : (str bs).toList = bs := by
 rw [ByteArray.toList_eq]
 rfl
end Go.Proofs.YtbenkmihkbjgeaaGreat.Sh
/- Hex. -/
namespace Go.Proofs.YtbenkmihkbjgeaaGreat.Sh
open Go.RowKit
theorem ssum_sl (v : Value) (bs : List UInt8) (w : World) (h : Sl w v bs) (hn : bs.length < 2 ^ 60) : Calls Tryz.prog 179 #[v] w (OwnPost w (sumOf bs)) := by
 obtain ⟨A, c, rfl, hlc, hcm, hI, _⟩ := h
 exact ssum_any A bs c w hI hlc hcm hn
def hexd (n : UInt8) : UInt8 := if n < 10 then 48 + n else 87 + n
def hi4 (x : UInt8) : UInt8 := UInt8.ofNat (x.toNat / 16)
def lo4 (x : UInt8) : UInt8 := UInt8.ofNat (x.toNat % 16)
def hex2 (x : UInt8) : List UInt8 := [hexd (hi4 x), hexd (lo4 x)]
def hexL (bs : List UInt8) : List UInt8 := bs.flatMap hex2
theorem hexL_snoc (bs : List UInt8) (x : UInt8) : hexL (bs ++ [x]) = hexL bs ++ hex2 x := by
 unfold hexL
 rw [List.flatMap_append]
 simp
theorem hexL_length (bs : List UInt8) : (hexL bs).length = 2 * bs.length := by
 induction bs with
 | nil => rfl
 | cons x r ih =>
  have : hexL (x :: r) = hex2 x ++ hexL r := rfl
  rw [this, List.length_append, ih, List.length_cons]
  show 2 + _ = _
  omega
theorem bi_hi4 (x : UInt8) : bi x / 16 = bi (hi4 x) := by
 unfold bi hi4
 have := x.toNat_lt
 rw [UInt8.toNat_ofNat']
 omega
theorem bi_lo4 (x : UInt8) : bits .and .u8 (bi x) 15 = bi (lo4 x) := by
 unfold bi lo4
 have := x.toNat_lt
 show bits .and .u8 ((x.toNat : Nat) : Int) ((15 : Nat) : Int) = _
 rw [u8_and_nat _ _ (by omega) (by omega), UInt8.toNat_ofNat', show x.toNat &&& 15 = x.toNat % 16 from Nat.and_two_pow_sub_one_eq_mod x.toNat 4]
 omega
theorem hi4_lt (x : UInt8) : (hi4 x).toNat < 16 := by unfold hi4; have := x.toNat_lt; rw [UInt8.toNat_ofNat']; omega
theorem lo4_lt (x : UInt8) : (lo4 x).toNat < 16 := by unfold lo4; have := x.toNat_lt; rw [UInt8.toNat_ofNat']; omega
theorem index_digit (h : UInt8) (hh : h.toNat < 16) (w : World) : (Instr.index 9 (.string ⟨#[48, 49, 50, 51, 52, 53, 54, 55, 56, 57, 97, 98, 99, 100, 101, 102]⟩) (.int .u8 (bi h))).run Tryz.prog w = .ok (.int .u8 (bi (hexd h))) w := by
 obtain ⟨m, hm, rfl⟩ : ∃ m, m < 16 ∧ h = UInt8.ofNat m := ⟨h.toNat, hh, by simp⟩
 clear hh
 obtain rfl | rfl | rfl | rfl | rfl | rfl | rfl | rfl | rfl | rfl | rfl | rfl | rfl | rfl | rfl | rfl : m = 0 ∨ m = 1 ∨ m = 2 ∨ m = 3 ∨ m = 4 ∨ m = 5 ∨ m = 6 ∨ m = 7 ∨ m = 8 ∨ m = 9 ∨ m = 10 ∨ m = 11 ∨ m = 12 ∨ m = 13 ∨ m = 14 ∨ m = 15 := by omega
 all_goals kernel_rfl
def StrPost (w : World) (bs : List UInt8) (e : Ending) (w' : World) : Prop := e = .returned (.string (str bs)) ∧ Below w.heap.size w w'
set_option maxRecDepth 100000 in
set_option maxHeartbeats 800000 in
theorem hex_any (v : Value) (bs : List UInt8) (w : World) (h : Sl w v bs) (hn : bs.length ≤ 1000000) : Calls Tryz.prog 178 #[v] w (StrPost w (hexL bs)) := by
 obtain ⟨A, c, rfl, hlc, hcm, hI, hA⟩ := h
 unfold maxLen at hcm
 obtain ⟨l, hl⟩ : ∃ l, bs.length = l := ⟨_, rfl⟩
 rw [hl] at hlc hn ⊢
 have hmk : ∀ w : World, (Instr.makeSlice 45 (.int .i64 0) (.int .i64 (2 * (l : Int)))).run Tryz.prog w = .ok (.slice (some ⟨w.heap.size, 0, none⟩) 0 (2 * l)) (w.alloc (.cells (madeCells #[.int .u8 0] (2 * l)) 5)) := fun w => by
  have := make_bytes (2 * l) (by omega) w
  rw [Int.natCast_mul] at this
  exact this
 have hown := own_made w (2 * l) (by unfold maxLen; omega)
 have HL := Lib.hid hl
 have HI := Lib.hid hI
 have HA := Lib.hid hA
 have HOWN := Lib.hid hown
 clear hl hI hA hown
 go_enter Tryz.func178, Tryz.ntmps178
 go_wp2_with fail
 clear hmk
 go_loopw [3, 12] (fun v i wr => ∃ k : Nat, k ≤ l ∧ i = .int .i64 k ∧ Own wr w.heap.size v (hexL (bs.take k)) ∧ Below w.heap.size w wr) (fun _ i _ => l - (intOf i).toNat)
 case atStart =>
  exact ⟨0, by omega, rfl, by rw [List.take_zero]; exact HOWN.out, (Below.refl _ _).alloc (Nat.le_refl _) _⟩
 case round =>
  obtain ⟨k, hk, rfl, ho, hbw⟩ := hrel
  have hsz := hbw.size
  by_cases hlt : k < l
  ·obtain ⟨adr, hA1, hlt2, hcell⟩ := HI.out (by rw [HL.out]; omega)
   subst hA1
   have hcw : wr.cell? (adr.add k) = some (.int .u8 (bi (bs.getD k 0))) := (hbw.cell (p := adr.add k) (by rw [block_of_add]; exact hlt2)).trans (hcell k (by rw [HL.out]; omega))
   have hsn : Hid (bs.take (k + 1) = bs.take k ++ [bs.getD k 0]) := by
    unfold Hid
    rw [List.take_add_one, List.getElem?_eq_getElem (by rw [HL.out]; exact hlt), List.getD_eq_getElem?_getD, List.getElem?_eq_getElem (by rw [HL.out]; exact hlt)]
    rfl
   generalize bs.getD k 0 = x at *
   have hj1 : (0 : Int) ≤ (k : Int) := by omega
   have hj2 : (k : Int) < (l : Int) := by omega
   have HO := Lib.hid ho
   have HBW := Lib.hid hbw
   clear ho hbw hcell
   have p1 := bi_hi4 x
   have p2 := bi_lo4 x
   have p3 := index_digit (hi4 x) (hi4_lt x)
   have p4 := index_digit (lo4 x) (lo4_lt x)
   have hxl : (hexL (bs.take k)).length + 2 ≤ 140737488355328 := by rw [hexL_length, List.length_take]; omega
   obtain ⟨i0, hi, hz0, hz1, hz2⟩ := info_parts info5
   go_wp2_with fail
   go_region_held3 (fun _ => True) (trivial)
    (first | (refine step_append_any _ rfl (.tmp 16) (.tmp 23) 45 rfl w.heap.size 5 i0 (.int .u8 0) 1 1 Tryz.underlying45 hi hz0 hz1 hz2 rfl (by decide) u3 (hexL (bs.take k)).length _ rfl (HO.out.drew.alloc _) (wr.heap.size + 1) (some ⟨wr.heap.size, 0, none⟩) 2 2 ((hex2 x).map bv) rfl (reads_new wr.drew (hex2 x) _ rfl 2 rfl) (bv_one _) (by unfold maxLen; omega) (by omega) (by simp; omega) ?_; intro v1 w1 hown1 hgrow1 hblk1))
   all_goals
    have ho1 : Own w1 w.heap.size v1 (hexL (bs.take (k + 1))) := by
     rw [hsn.out, hexL_snoc]
     unfold Own
     rw [List.length_append, List.map_append]
     exact hown1
    have hb1 : Below w.heap.size w w1 := ((HBW.out.drew).alloc hsz _).grown hgrow1 (by simp; omega) (fun k hk => (World.ownsRow.lt HO.out k hk).1)
    have HO1 := Lib.hid ho1
    have HB1 := Lib.hid hb1
    clear ho1 hb1 hown1 hgrow1 hblk1 p1 p2 p3 p4
    go_wp2
    go_roundw
    case rel => exact ⟨k + 1, by omega, by go_num, HO1.out, HB1.out⟩
    case measure => simp [intOf]; omega
  ·obtain rfl : k = l := by omega
   rw [List.take_of_length_le (by rw [HL.out]; omega)] at ho
   obtain ⟨A3, c3, hv3, hA3, hA4, hI3, hA5⟩ := ho.sl
   subst hv3
   have hcs := conv_str wr A3 (hexL bs) c3 hI3 hA5
   have HBW := Lib.hid hbw
   clear ho hI3 hA5 hbw
   obtain ⟨m, hm⟩ : ∃ m, (hexL bs).length = m := ⟨_, rfl⟩
   rw [hm] at hcs ⊢
   clear hm
   go_wp2
   go_ret
   exact ⟨rfl, HBW.out⟩
end Go.Proofs.YtbenkmihkbjgeaaGreat.Sh
/- ID; the chapter's examples. -/
namespace Go.Proofs.YtbenkmihkbjgeaaGreat.Sh
open Go.RowKit
theorem sumOf_length (bs : List UInt8) : (sumOf bs).length = 32 := by
 rw [sumOf_eq]; exact outB_length _
set_option maxRecDepth 100000 in
set_option maxHeartbeats 400000 in
theorem id_any (v : Value) (bs : List UInt8) (w : World) (h : Sl w v bs) (hn : bs.length < 2 ^ 60) : Calls Tryz.prog 138 #[v] w (StrPost w (hexL (sumOf bs))) := by
 have H := Lib.hid h
 clear h
 go_enter Tryz.func138, Tryz.ntmps138
 go_wp2_with fail
 refine (ssum_sl v bs _ H.out hn).mono ?_
 rintro e w1 ⟨v1, rfl, ho, hb⟩
 have HS := Lib.hid ho.sl
 have HB := Lib.hid hb
 clear ho hb
 go_wp2_with fail
 refine (hex_any v1 (sumOf bs) _ HS.out (by rw [sumOf_length]; omega)).mono ?_
 rintro e w2 ⟨rfl, hb2⟩
 have hz := HB.out.size
 have HB2 := Lib.hid (HB.out.trans (hb2.mono hz))
 clear hb2
 go_wp2_with fail
 go_ret
 exact ⟨rfl, HB2.out⟩
end Go.Proofs.YtbenkmihkbjgeaaGreat.Sh
/- What the laws' walks share. -/
namespace Go.Proofs.YtbenkmihkbjgeaaGreat.Sh
open Go.RowKit
def IsRow (k : IntKind) (w : World) (a : Option Addr) (len cap : Nat) (zs : List Int) : Prop :=
 (a = none ∧ len = 0 ∧ cap = 0 ∧ zs = []) ∨
 ∃ x, a = some x ∧ len ≤ cap ∧ cap ≤ maxLen ∧ zs.length = cap ∧ (∀ i, i < zs.length → w.cell? (x.add i) = some (.int k (zs.getD i 0))) ∧ ∀ n ∈ zs, (Lit.int k n).wf = true
def Wr (w : World) (g m : Nat) : Prop := ∃ cur, Blk w g 5 cur ∧ ∀ j, j < m → ∃ u, cur[j]? = some (.int .u8 u)
theorem Own.below {w w' : World} {B : Nat} {v : Value} {bs : List UInt8} (h : Own w B v bs) (hb : Below w.heap.size w w') : Own w' B v bs :=
 World.ownsRow.kept h (only_of_below hb none) (by cases hv : v.ownBlock <;> simp)
end Go.Proofs.YtbenkmihkbjgeaaGreat.Sh
/- Digits; texts that are bytes. -/
namespace Go.Proofs.YtbenkmihkbjgeaaGreat.Sh
open Go.RowKit
def dv (c : UInt8) : Option UInt8 := if 48 ≤ c ∧ c ≤ 57 then some (c - 48) else if 97 ≤ c ∧ c ≤ 102 then some (c - 87) else none
theorem dv_cases (c : UInt8) : (bi c < 48 ∧ dv c = none) ∨ (48 ≤ bi c ∧ bi c ≤ 57 ∧ dv c = some (UInt8.ofNat (bi c - 48).toNat)) ∨ (57 < bi c ∧ bi c < 97 ∧ dv c = none) ∨
  (97 ≤ bi c ∧ bi c ≤ 102 ∧ dv c = some (UInt8.ofNat (bi c - 87).toNat)) ∨ (102 < bi c ∧ dv c = none) := by
 obtain ⟨n, hn, rfl⟩ : ∃ n, n < 256 ∧ c = UInt8.ofNat n := ⟨c.toNat, c.toNat_lt, by simp⟩
 have hb : bi (UInt8.ofNat n) = (n : Int) := by unfold bi; rw [UInt8.toNat_ofNat']; omega
 rw [hb]
 have key : ∀ n, n < 256 → (n < 48 ∧ dv (UInt8.ofNat n) = none) ∨ (48 ≤ n ∧ n ≤ 57 ∧ dv (UInt8.ofNat n) = some (UInt8.ofNat (n - 48))) ∨ (57 < n ∧ n < 97 ∧ dv (UInt8.ofNat n) = none) ∨
  (97 ≤ n ∧ n ≤ 102 ∧ dv (UInt8.ofNat n) = some (UInt8.ofNat (n - 87))) ∨ (102 < n ∧ dv (UInt8.ofNat n) = none) := by decide +kernel
 rcases key n hn with ⟨h1, h2⟩ | ⟨h1, h2, h3⟩ | ⟨h1, h2, h3⟩ | ⟨h1, h2, h3⟩ | ⟨h1, h2⟩
 ·exact .inl ⟨by omega, h2⟩
 ·exact .inr (.inl ⟨by omega, by omega, by rw [h3]; congr 2; omega⟩)
 ·exact .inr (.inr (.inl ⟨by omega, by omega, h3⟩))
 ·exact .inr (.inr (.inr (.inl ⟨by omega, by omega, by rw [h3]; congr 2; omega⟩)))
 ·exact .inr (.inr (.inr (.inr ⟨by omega, h2⟩)))
theorem bi_sub (x : Int) (h0 : 0 ≤ x) (h1 : x ≤ 255) : bi (UInt8.ofNat x.toNat) = x := by
 unfold bi; rw [UInt8.toNat_ofNat']; omega
set_option maxHeartbeats 400000 in
theorem dig_no (c : UInt8) (w : World) (h : dv c = none) : Calls Tryz.prog 231 #[.int .u8 (bi c)] w fun e w' => e = .returned (.tuple #[.int .u8 0, .bool false]) ∧ w = w' := by
 have hb := bi_lt c
 rcases dv_cases c with ⟨h1, _⟩ | ⟨_, _, h2⟩ | ⟨h1, h2, _⟩ | ⟨_, _, h2⟩ | ⟨h1, _⟩
 ·clear h
  generalize bi c = x at *
  go_enter Tryz.func231, Tryz.ntmps231
  go_wp2
  go_ret2
  exact ⟨rfl, rfl⟩
 ·rw [h] at h2; cases h2
 ·clear h
  generalize bi c = x at *
  go_enter Tryz.func231, Tryz.ntmps231
  go_wp2
  go_ret2
  exact ⟨rfl, rfl⟩
 ·rw [h] at h2; cases h2
 ·clear h
  generalize bi c = x at *
  go_enter Tryz.func231, Tryz.ntmps231
  go_wp2
  go_ret2
  exact ⟨rfl, rfl⟩
set_option maxHeartbeats 400000 in
theorem dig_yes (c v : UInt8) (w : World) (h : dv c = some v) : Calls Tryz.prog 231 #[.int .u8 (bi c)] w fun e w' => e = .returned (.tuple #[.int .u8 (bi v), .bool true]) ∧ w = w' := by
 have hb := bi_lt c
 rcases dv_cases c with ⟨_, h2⟩ | ⟨h1, h1', h2⟩ | ⟨_, _, h2⟩ | ⟨h1, h1', h2⟩ | ⟨_, h2⟩
 ·rw [h] at h2; cases h2
 ·rw [h] at h2
  injection h2 with h2
  subst h2
  clear h
  generalize bi c = x at *
  have HX := Lib.hid (bi_sub (x - 48) (by omega) (by omega))
  go_enter Tryz.func231, Tryz.ntmps231
  go_wp2
  go_ret2
  exact ⟨by rw [HX.out]; rfl, rfl⟩
 ·rw [h] at h2; cases h2
 ·rw [h] at h2
  injection h2 with h2
  subst h2
  clear h
  generalize bi c = x at *
  have HX := Lib.hid (bi_sub (x - 87) (by omega) (by omega))
  have e1 : x - 97 + 10 = x - 87 := by omega
  go_enter Tryz.func231, Tryz.ntmps231
  go_wp2
  go_ret2
  exact ⟨by rw [HX.out, ← e1]; rfl, rfl⟩
 ·rw [h] at h2; cases h2
theorem str_size (cs : List UInt8) : (str cs).size = cs.length := by
 unfold str ByteArray.size
 simp
theorem index_str (cs : List UInt8) (k : Nat) (hk : k < cs.length) (w : World) : (Instr.index 9 (.string (str cs)) (.int .i64 (k : Int))).run Tryz.prog w = .ok (.int .u8 (bi (cs.getD k 0))) w := by
 have hsz := str_size cs
 have hg : (str cs)[k]? = some cs[k] := getElem?_pos (str cs) k (by rw [hsz]; exact hk)
 simp [Instr.index, go_sem]
 rw [hg, List.getElem?_eq_getElem hk]
 unfold bi
 rfl
def hexOk (cs : List UInt8) : Bool := cs.length % 2 == 0 && cs.all (fun c => (dv c).isSome)
theorem hexOk_at {cs : List UInt8} (h : hexOk cs = true) (k : Nat) (hk : k < cs.length) : ∃ v, dv (cs.getD k 0) = some v := by
 unfold hexOk at h
 rw [Bool.and_eq_true] at h
 have := List.all_eq_true.1 h.2 cs[k] (List.getElem_mem hk)
 rw [List.getD_eq_getElem?_getD, List.getElem?_eq_getElem hk]
 exact Option.isSome_iff_exists.1 this
theorem hexOk_even {cs : List UInt8} (h : hexOk cs = true) : cs.length % 2 = 0 := by
 unfold hexOk at h
 rw [Bool.and_eq_true, beq_iff_eq] at h
 exact h.1
theorem hexOk_of {cs : List UInt8} (h : cs.length % 2 = 0) (hd : ∀ k, k < cs.length → ∃ v, dv (cs.getD k 0) = some v) : hexOk cs = true := by
 unfold hexOk
 rw [Bool.and_eq_true, beq_iff_eq]
 refine ⟨h, List.all_eq_true.2 fun c hc => ?_⟩
 obtain ⟨k, hk, rfl⟩ := List.getElem_of_mem hc
 obtain ⟨v, hv⟩ := hd k hk
 rw [List.getD_eq_getElem?_getD, List.getElem?_eq_getElem hk] at hv
 rw [show dv cs[k] = some v from hv]
 rfl
set_option maxHeartbeats 400000 in
theorem ishex_yes (cs : List UInt8) (w : World) (h : hexOk cs = true) (hl : cs.length ≤ 1000000) : Calls Tryz.prog 212 #[.string (str cs)] w fun e w' => e = .returned (.bool true) ∧ w = w' := by
 have hev := hexOk_even h
 have hsz := str_size cs
 have H := Lib.hid h
 obtain ⟨l, hL⟩ : ∃ l, cs.length = l := ⟨_, rfl⟩
 rw [hL] at hsz hev hl
 have HL := Lib.hid hL
 clear h hL
 have e1 : (l : Int) % 2 = 0 := by omega
 have e2 : (l : Int).tmod 2 = 0 := by rw [Int.tmod_eq_emod_of_nonneg (by omega)]; omega
 have HEV := Lib.hid hev
 clear hev
 go_enter Tryz.func212, Tryz.ntmps212
 go_wp2
 go_loop [12] (fun i => ∃ k : Nat, k ≤ l ∧ i = .int .i64 k) (fun i => l - (intOf i).toNat)
 case atStart => exact ⟨0, by omega, rfl⟩
 case round =>
  obtain ⟨k, hk, rfl⟩ := hrel
  by_cases hlt : k < l
  ·have hidx := index_str cs k (by rw [HL.out]; exact hlt)
   obtain ⟨v, hv⟩ := hexOk_at H.out k (by rw [HL.out]; exact hlt)
   generalize cs.getD k 0 = x at *
   have HV := Lib.hid hv
   clear hv
   go_wp2_with (go_at_call 231; refine (dig_yes x v _ HV.out).mono ?_; rintro e w' ⟨rfl, rfl⟩)
   go_round
   case rel => exact ⟨k + 1, by omega, by go_num⟩
   case measure => simp [intOf]; omega
  ·obtain rfl : k = l := by omega
   go_wp2
   go_ret
   exact ⟨rfl, rfl⟩
set_option maxHeartbeats 400000 in
theorem ishex_no (cs : List UInt8) (w : World) (h : hexOk cs = false) (hl : cs.length ≤ 1000000) : Calls Tryz.prog 212 #[.string (str cs)] w fun e w' => e = .returned (.bool false) ∧ w = w' := by
 have hsz := str_size cs
 have H := Lib.hid h
 obtain ⟨l, hL⟩ : ∃ l, cs.length = l := ⟨_, rfl⟩
 rw [hL] at hsz hl
 have HL := Lib.hid hL
 clear h hL
 by_cases hev : l % 2 = 0
 ·have e1 : (l : Int) % 2 = 0 := by omega
  have e2 : (l : Int).tmod 2 = 0 := by rw [Int.tmod_eq_emod_of_nonneg (by omega)]; omega
  have HEV := Lib.hid hev
  clear hev
  go_enter Tryz.func212, Tryz.ntmps212
  go_wp2
  go_loop [12] (fun i => ∃ k : Nat, k ≤ l ∧ i = .int .i64 k ∧ ∀ j, j < k → ∃ v, dv (cs.getD j 0) = some v) (fun i => l - (intOf i).toNat)
  case atStart => exact ⟨0, by omega, rfl, fun j hj => by omega⟩
  case round =>
   obtain ⟨k, hk, rfl, hall⟩ := hrel
   have HALL := Lib.hid hall
   clear hall
   by_cases hlt : k < l
   ·have hidx := index_str cs k (by rw [HL.out]; exact hlt)
    obtain ⟨x, hx⟩ : ∃ x, cs.getD k 0 = x := ⟨_, rfl⟩
    rw [hx] at hidx
    have HX := Lib.hid hx
    clear hx
    cases hv : dv x with
    | none =>
     have HV := Lib.hid hv
     clear hv
     go_wp2_with (go_at_call 231; refine (dig_no x _ HV.out).mono ?_; rintro e w' ⟨rfl, rfl⟩)
     go_ret
     exact ⟨rfl, rfl⟩
    | some v =>
     have HV := Lib.hid hv
     clear hv
     go_wp2_with (go_at_call 231; refine (dig_yes x v _ HV.out).mono ?_; rintro e w' ⟨rfl, rfl⟩)
     go_round
     case rel =>
      refine ⟨k + 1, by omega, by go_num, fun j hj => ?_⟩
      by_cases e : j = k
      ·rw [e, HX.out]; exact ⟨v, HV.out⟩
      ·exact HALL.out j (by omega)
     case measure => simp [intOf]; omega
   ·obtain rfl : k = l := by omega
    have hh := H.out
    rw [hexOk_of (by rw [HL.out]; exact HEV.out) (by rw [HL.out]; exact HALL.out)] at hh
    cases hh
 ·have e1 : ((l : Int) % 2 != 0) = true := by rw [bne_iff_ne]; omega
  have e2 : ((l : Int) % 2 == 0) = false := beq_eq_false_iff_ne.2 (by omega)
  clear hev
  go_enter Tryz.func212, Tryz.ntmps212
  go_wp2
  go_ret
  exact ⟨rfl, rfl⟩
end Go.Proofs.YtbenkmihkbjgeaaGreat.Sh
/- Unhex, Valid. -/
namespace Go.Proofs.YtbenkmihkbjgeaaGreat.Sh
open Go.RowKit
def dvv (c : UInt8) : UInt8 := (dv c).getD 0
def un2 (a b : UInt8) : UInt8 := UInt8.ofNat (16 * (dvv a).toNat + (dvv b).toNat)
def unhexN (cs : List UInt8) (k : Nat) : List UInt8 := (List.range k).map (fun i => un2 (cs.getD (2 * i) 0) (cs.getD (2 * i + 1) 0))
def unhexL (cs : List UInt8) : List UInt8 := unhexN cs (cs.length / 2)
theorem unhexN_next (cs : List UInt8) (k : Nat) : unhexN cs (k + 1) = unhexN cs k ++ [un2 (cs.getD (2 * k) 0) (cs.getD (2 * k + 1) 0)] := by
 unfold unhexN
 rw [List.range_succ, List.map_append]
 rfl
theorem unhexN_length (cs : List UInt8) (k : Nat) : (unhexN cs k).length = k := by unfold unhexN; simp
theorem unhexL_length (cs : List UInt8) : (unhexL cs).length = cs.length / 2 := unhexN_length _ _
theorem dv_lt (c v : UInt8) (h : dv c = some v) : v.toNat < 16 := by
 have hb := bi_lt c
 rcases dv_cases c with ⟨_, h2⟩ | ⟨h1, h1', h2⟩ | ⟨_, _, h2⟩ | ⟨h1, h1', h2⟩ | ⟨_, h2⟩
 all_goals rw [h] at h2
 all_goals first | (injection h2 with h2; rw [h2, UInt8.toNat_ofNat']; omega) | cases h2
theorem or_un2 (h l : UInt8) (hh : h.toNat < 16) (hl : l.toNat < 16) : bits .or .u8 (bi h * 16 % 256) (bi l) = bi (UInt8.ofNat (16 * h.toNat + l.toNat)) := by
 unfold bi
 have e : (h.toNat : Int) * 16 % 256 = ((16 * h.toNat : Nat) : Int) := by omega
 rw [e, u8_or_nat _ _ (by omega) (by omega), UInt8.toNat_ofNat', nat_join 4 (16 * h.toNat) l.toNat (by omega) (by omega)]
 omega
theorem dvv_of {c v : UInt8} (h : dv c = some v) : dvv c = v := by unfold dvv; rw [h]; rfl
def UnPost (w : World) (bs : List UInt8) (e : Ending) (w' : World) : Prop := ∃ v, e = .returned (.tuple #[v, .bool true]) ∧ Own w' w.heap.size v bs ∧ Below w.heap.size w w'
set_option maxRecDepth 100000 in
set_option maxHeartbeats 800000 in
theorem unhex_yes (cs : List UInt8) (w : World) (h : hexOk cs = true) (hl : cs.length ≤ 1000000) : Calls Tryz.prog 220 #[.string (str cs)] w (UnPost w (unhexL cs)) := by
 have hev := hexOk_even h
 have hsz := str_size cs
 have H := Lib.hid h
 obtain ⟨m, hm⟩ : ∃ m, cs.length = 2 * m := ⟨cs.length / 2, by omega⟩
 rw [hm] at hsz
 have hm2 : m ≤ 500000 := by omega
 have HL := Lib.hid hm
 clear h hm hev
 have e1 : (2 * (m : Int)) / 2 = (m : Int) := by omega
 have e2 : (2 * (m : Int)).tdiv 2 = (m : Int) := by rw [Int.tdiv_eq_ediv_of_nonneg (by omega)]; omega
 have hmk : ∀ w : World, (Instr.makeSlice 45 (.int .i64 0) (.int .i64 (m : Int))).run Tryz.prog w = .ok (.slice (some ⟨w.heap.size, 0, none⟩) 0 m) (w.alloc (.cells (madeCells #[.int .u8 0] m) 5)) := fun w => make_bytes m (by omega) w
 have hown := own_made w m (by unfold maxLen; omega)
 have HOWN := Lib.hid hown
 clear hown
 go_enter Tryz.func220, Tryz.ntmps220
 go_wp2_with fail
 refine (ishex_yes cs _ H.out hl).mono ?_
 rintro e w' ⟨rfl, rfl⟩
 go_wp2_with fail
 clear hmk
 go_loopw [4, 5] (fun v i wr => ∃ k : Nat, k ≤ m ∧ i = .int .i64 (2 * (k : Int)) ∧ Own wr w.heap.size v (unhexN cs k) ∧ Below w.heap.size w wr) (fun _ i _ => 2 * m - (intOf i).toNat)
 case atStart => exact ⟨0, by omega, rfl, HOWN.out, (Below.refl _ _).alloc (Nat.le_refl _) _⟩
 case round =>
  obtain ⟨k, hk, rfl, ho, hbw⟩ := hrel
  have hwz := hbw.size
  by_cases hlt : k < m
  ·have hidx1 : ∀ w : World, (Instr.index 9 (.string (str cs)) (.int .i64 (2 * (k : Int)))).run Tryz.prog w = .ok (.int .u8 (bi (cs.getD (2 * k) 0))) w := index_str cs (2 * k) (by rw [HL.out]; omega)
   have hidx2 : ∀ w : World, (Instr.index 9 (.string (str cs)) (.int .i64 (2 * (k : Int) + 1))).run Tryz.prog w = .ok (.int .u8 (bi (cs.getD (2 * k + 1) 0))) w := index_str cs (2 * k + 1) (by rw [HL.out]; omega)
   obtain ⟨v1, hv1⟩ := hexOk_at H.out (2 * k) (by rw [HL.out]; omega)
   obtain ⟨v2, hv2⟩ := hexOk_at H.out (2 * k + 1) (by rw [HL.out]; omega)
   have hnx := Lib.hid (unhexN_next cs k)
   generalize cs.getD (2 * k) 0 = x1 at *
   generalize cs.getD (2 * k + 1) 0 = x2 at *
   have hor := or_un2 v1 v2 (dv_lt _ _ hv1) (dv_lt _ _ hv2)
   have hu : Hid (UInt8.ofNat (16 * v1.toNat + v2.toNat) = un2 x1 x2) := by
    unfold Hid un2; rw [dvv_of hv1, dvv_of hv2]
   have HV1 := Lib.hid hv1
   have HV2 := Lib.hid hv2
   have hlen : (unhexN cs k).length + 1 ≤ 140737488355328 := by rw [unhexN_length]; omega
   generalize UInt8.ofNat (16 * v1.toNat + v2.toNat) = y at *
   clear hv1 hv2
   have HO := Lib.hid ho
   have HBW := Lib.hid hbw
   clear ho hbw
   go_wp2_with fail
   refine (dig_yes x1 v1 _ HV1.out).mono ?_
   rintro e w' ⟨rfl, rfl⟩
   go_wp2_with fail
   refine (dig_yes x2 v2 _ HV2.out).mono ?_
   rintro e w' ⟨rfl, rfl⟩
   go_wp2_with (at_builtin; refine append_byte rfl (.tmp 38) (.tmp 43) rfl wr w.heap.size u4 (unhexN cs k) rfl HO.out _ y rfl rfl hlen hwz ?_; intro v3 w3 ho3 hb3; have HO3 := Lib.hid ho3; have HB3 := Lib.hid hb3; clear ho3 hb3)
   refine ⟨⟨k + 1, by omega, by congr 1, ?_, HBW.out.trans HB3.out⟩, ?_⟩
   ·rw [hnx.out, ← hu.out]; exact HO3.out
   ·simp [intOf]; omega
  ·obtain rfl : k = m := by omega
   have ho' : Own wr w.heap.size u4 (unhexL cs) := by
    unfold unhexL
    rw [HL.out, show 2 * k / 2 = k from by omega]
    exact ho
   have HO := Lib.hid ho'
   have HBW := Lib.hid hbw
   clear ho ho' hbw
   go_wp2
   go_ret2
   exact ⟨u4, rfl, HO.out, HBW.out⟩
theorem valid_any (cs : List UInt8) (t : Bool) (ht : (cs.length == 64 && hexOk cs) = t) (w : World) (hl : cs.length ≤ 1000000) : Calls Tryz.prog 180 #[.string (str cs)] w fun e w' => e = .returned (.bool t) ∧ w = w' := by
 have hsz := str_size cs
 by_cases h64 : cs.length = 64
 ·rw [h64] at hsz
  rw [beq_iff_eq.2 h64, Bool.true_and] at ht
  have HT := Lib.hid ht
  clear ht h64
  go_enter Tryz.func180, Tryz.ntmps180
  go_wp2_with fail
  cases t with
  | false =>
   refine (ishex_no cs _ HT.out hl).mono ?_
   rintro e w' ⟨rfl, rfl⟩
   go_wp2_with fail
   go_ret
   exact ⟨rfl, rfl⟩
  | true =>
   refine (ishex_yes cs _ HT.out hl).mono ?_
   rintro e w' ⟨rfl, rfl⟩
   go_wp2_with fail
   go_ret
   exact ⟨rfl, rfl⟩
 ·rw [beq_eq_false_iff_ne.2 h64, Bool.false_and] at ht
  subst ht
  obtain ⟨l, hL⟩ : ∃ l, cs.length = l := ⟨_, rfl⟩
  rw [hL] at hsz h64
  have e1 : ((l : Int) == 64) = false := beq_eq_false_iff_ne.2 (by omega)
  clear hL
  go_enter Tryz.func180, Tryz.ntmps180
  go_wp2_with fail
  go_ret
  exact ⟨rfl, rfl⟩
/-! Plain: there and back. -/
theorem dv_hexd (n : UInt8) (h : n.toNat < 16) : dv (hexd n) = some n := by
 obtain ⟨m, hm, rfl⟩ : ∃ m, m < 16 ∧ n = UInt8.ofNat m := ⟨n.toNat, h, by simp⟩
 have key : ∀ m, m < 16 → dv (hexd (UInt8.ofNat m)) = some (UInt8.ofNat m) := by decide +kernel
 exact key m hm
theorem hexL_cons (x : UInt8) (r : List UInt8) : hexL (x :: r) = hexd (hi4 x) :: hexd (lo4 x) :: hexL r := rfl
theorem hexOk_hexL (bs : List UInt8) : hexOk (hexL bs) = true := by
 refine hexOk_of (by rw [hexL_length]; omega) ?_
 induction bs with
 | nil => intro k hk; cases hk
 | cons x r ih =>
  intro k hk
  rw [hexL_cons] at hk ⊢
  match k with
  | 0 => exact ⟨_, dv_hexd _ (hi4_lt x)⟩
  | 1 => exact ⟨_, dv_hexd _ (lo4_lt x)⟩
  | k + 2 => exact ih k (by simpa using hk)
end Go.Proofs.YtbenkmihkbjgeaaGreat.Sh
