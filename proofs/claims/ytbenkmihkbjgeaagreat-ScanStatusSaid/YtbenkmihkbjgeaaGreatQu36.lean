/- Texts put together: UOb9, UOb10, UOb11, UOb12, USc2, USc3. -/
import Derived.Test.YtbenkmihkbjgeaaGreatQu35
import Derived.IntWalk
import Derived.Test.YtbenkmihkbjgeaaGreatQu27
import Derived.Test.YtbenkmihkbjgeaaGreatQu33
import Derived.Deep.RegionLaw
/- obj: putCommit. -/
namespace Go.Proofs.YtbenkmihkbjgeaaGreat.Ob
open Go.RowKit Go.Proofs.YtbenkmihkbjgeaaGreat.Sh
open Go.Proofs.YtbenkmihkbjgeaaGreat.Tx (OwnV SlV sv bl nameB reads_at texts_at toList_ne')
def encC (o : ObM) : List UInt8 := unhexL o.tree ++ [UInt8.ofNat o.parents.length] ++ o.parents.flatMap unhexL ++ putL o.stamp.toNat ++ putL o.author.toNat ++ (putL o.msg.length ++ o.msg)
theorem parB_of {ids : List (List UInt8)} (h : parB ids = true) : ids.length ≤ 2 ∧ ∀ (k : Nat) (x : List UInt8), ids[k]? = some x → validB x = true := by
 unfold parB at h
 rw [Bool.and_eq_true, decide_eq_true_eq, List.all_eq_true] at h
 refine ⟨h.1, fun k x hx => ?_⟩
 have hk := (List.getElem?_eq_some_iff.1 hx).1
 have h2 := h.2 k (List.mem_range.2 hk)
 rw [List.getD_eq_getElem?_getD, hx, Bool.and_eq_true] at h2
 exact h2.1
theorem flat_ids_len {ids : List (List UInt8)} (h : ∀ (k : Nat) (x : List UInt8), ids[k]? = some x → validB x = true) : (ids.flatMap unhexL).length = ids.length * 32 := by
 induction ids with
 | nil => simp
 | cons x l ih =>
  have h1 := validB_len (h 0 x rfl)
  have h2 := ih (fun k y hy => h (k + 1) y (by simpa using hy))
  rw [List.flatMap_cons, List.length_append, List.length_cons, unhexL_length]
  omega
theorem flat_id_snoc {l : List (List UInt8)} {k : Nat} {x : List UInt8} (h : l[k]? = some x) : (l.take (k + 1)).flatMap unhexL = (l.take k).flatMap unhexL ++ unhexL x := by
 obtain ⟨hk, e⟩ := List.getElem?_eq_some_iff.1 h
 rw [List.take_succ_eq_append_getElem hk, List.flatMap_append, e]
 simp
structure CommOk (T : List UInt8) (P : List (List UInt8)) (st au : Int) (ms : List UInt8) : Prop where
 tree : validB T = true
 par : parB P = true
 st0 : 0 ≤ st
 st1 : st ≤ 1099511627776
 au0 : 0 ≤ au
 au1 : au ≤ 255
 msg : msgB ms = true
theorem msgB_len {s : List UInt8} (h : msgB s = true) : s.length ≤ 200 := by
 unfold msgB at h
 rw [Bool.and_eq_true, decide_eq_true_eq] at h
 exact h.1
theorem commB_of {o : ObM} (h : commB o = true) : o.data = [] ∧ o.items = [] ∧ CommOk o.tree o.parents o.stamp o.author o.msg := by
 unfold commB at h
 simp only [Bool.and_eq_true, decide_eq_true_eq] at h
 obtain ⟨⟨⟨⟨⟨⟨⟨⟨h1, h2⟩, h3⟩, h4⟩, h5⟩, h6⟩, h7⟩, h8⟩, h9⟩ := h
 exact ⟨List.eq_nil_of_length_eq_zero h1, List.eq_nil_of_length_eq_zero h2, h3, h4, h5, h6, h7, h8, h9⟩
set_option maxRecDepth 100000 in
set_option maxHeartbeats 3200000 in
theorem putCommit_any (v u : Value) (bs : List UInt8) (o : ObM) (B : Nat) (w0 w : World) (h : Own w B v bs) (hI : ObV w0 u o) (h0 : Below w0.heap.size w0 w) (hB0 : w0.heap.size ≤ B) (hB : B ≤ w.heap.size) (hok : CommOk o.tree o.parents o.stamp o.author o.msg) (hl : bs.length ≤ 1000) :
  Calls Tryz.prog 149 #[v, u] w (AppPost w B bs (encC o)) := by
 obtain ⟨d, it, ps, rfl, hd, hi, hp⟩ := hI
 obtain ⟨k, D, I, T, P, st, au, ms⟩ := o
 replace hd : Sl w0 d D := hd
 replace hi : SlI w0 it I := hi
 replace hp : SlV w0 ps ((P.map str).map sv) := hp
 replace hok : CommOk T P st au ms := hok
 obtain ⟨A, c, rfl, hlc, hcm, _⟩ := hd
 obtain ⟨A2, c2, rfl, hlc2, hcm2, _⟩ := hi
 obtain ⟨A3, c3, rfl, hlc3, hcm3, hR⟩ := hp.len
 unfold maxLen at hcm hcm2 hcm3
 simp only [List.length_map] at hlc3 hR ⊢
 obtain ⟨n, hn⟩ : ∃ n : Nat, st = (n : Int) := ⟨st.toNat, by have := hok.st0; omega⟩
 obtain ⟨a, ha⟩ : ∃ a : Nat, au = (a : Int) := ⟨au.toNat, by have := hok.au0; omega⟩
 subst hn ha
 have hpl := (parB_of hok.par).1
 obtain ⟨l3, hl3⟩ : ∃ l, P.length = l := ⟨_, rfl⟩
 rw [hl3] at hlc3 hpl ⊢
 have HO := Lib.hid h
 have H0 := Lib.hid h0
 have HR := Lib.hid hR
 have HL := Lib.hid hl3
 have HOK := Lib.hid hok
 have hlb := len_byte l3 (by omega)
 have hz0 : B ≤ (w.alloc (.cells #[.int .i64 k, .slice A D.length c, .slice A2 I.length c2, .string (str T), .slice A3 l3 c3, .int .i64 (n : Int), .int .i64 (a : Int), .string (str ms)] 80)).heap.size := by simp; omega
 have HOA : Hid (Own (w.alloc (.cells #[.int .i64 k, .slice A D.length c, .slice A2 I.length c2, .string (str T), .slice A3 l3 c3, .int .i64 (n : Int), .int .i64 (a : Int), .string (str ms)] 80)) B v bs) := HO.out.alloc _
 have HKA : Hid (Blk (w.alloc (.cells #[.int .i64 k, .slice A D.length c, .slice A2 I.length c2, .string (str T), .slice A3 l3 c3, .int .i64 (n : Int), .int .i64 (a : Int), .string (str ms)] 80)) w.heap.size 80 #[.int .i64 k, .slice A D.length c, .slice A2 I.length c2, .string (str T), .slice A3 l3 c3, .int .i64 (n : Int), .int .i64 (a : Int), .string (str ms)]) := Blk.new _ _ _
 have HK0 : Hid (Kp B w (w.alloc (.cells #[.int .i64 k, .slice A D.length c, .slice A2 I.length c2, .string (str T), .slice A3 l3 c3, .int .i64 (n : Int), .int .i64 (a : Int), .string (str ms)] 80))) := (Kp.refl _ _).alloc hB _
 have HT32 : Hid ((unhexL T).length = 32) := by
  unfold Hid
  rw [unhexL_length]
  have := validB_len hok.tree
  omega
 clear h h0 hR hl3 hok
 go_enter Tryz.func149, Tryz.ntmps149
 go_wp2_with fail
 refine (putHash_any v bs T B _ HOA.out HOK.out.tree (by omega) hz0).mono ?_
 rintro e w1 ⟨v1, rfl, ho1, hk1⟩
 have HO1 := Lib.hid ho1
 have HK1 := Lib.hid (HK0.out.trans hk1)
 have HB1 := Lib.hid (hk1.blk _ _ _ HKA.out (by decide))
 have hz1 : B ≤ w1.heap.size := Nat.le_trans hB HK1.out.size
 have hs1 : (bs ++ unhexL T).length + 1 ≤ 140737488355328 := by have := HT32.out; rw [List.length_append]; omega
 clear ho1 hk1
 obtain ⟨-, -, -, -, x4, x5, x6, x7⟩ := box_cells HB1.out
 go_wp2_with (at_builtin; refine app_byte rfl (.tmp 11) (.tmp 16) rfl w1 B v1 _ rfl HO1.out _ (UInt8.ofNat l3) rfl _ rfl rfl hs1 hz1 ?_; intro v2 w2 ho2 hb2; have HO2 := Lib.hid ho2; have HK2 := Lib.hid (HK1.out.trans hb2); have HB2 := Lib.hid (hb2.blk _ _ _ HB1.out (by decide)); clear ho2 hb2; clear x4 x5 x6 x7; obtain ⟨-, -, -, -, x4, x5, x6, x7⟩ := box_cells HB2.out)
 clear x4 x5 x6 x7
 go_loopw [0, 21] (fun b i wr => ∃ j : Nat, j ≤ l3 ∧ i = .int .i64 j ∧ Own wr B b (bs ++ unhexL T ++ [UInt8.ofNat l3] ++ (P.take j).flatMap unhexL) ∧ Kp B w wr ∧ Blk wr w.heap.size 80 #[.int .i64 k, .slice A D.length c, .slice A2 I.length c2, .string (str T), .slice A3 l3 c3, .int .i64 (n : Int), .int .i64 (a : Int), .string (str ms)]) (fun _ i _ => l3 - (intOf i).toNat)
 case atStart => exact ⟨0, Nat.zero_le _, rfl, by simpa using HO2.out, HK2.out, HB2.out⟩
 case round =>
  obtain ⟨j, hj, rfl, hou, hku, hbu⟩ := hrel
  have HOU := Lib.hid hou
  have HKU := Lib.hid hku
  have HBU := Lib.hid hbu
  clear hou hku hbu
  have j0 : (0 : Int) ≤ (j : Int) := by omega
  have hzu : B ≤ wr.heap.size := Nat.le_trans hB HKU.out.size
  have hlen : (bs ++ unhexL T ++ [UInt8.ofNat l3] ++ (P.take j).flatMap unhexL).length ≤ 2000 := by
   have h1 := HT32.out
   have h2 := flat_ids_len (ids := P.take j) (fun i y hy => (parB_of HOK.out.par).2 i y (by
    rw [List.getElem?_take] at hy
    split at hy
    ·exact hy
    ·cases hy))
   rw [List.length_take] at h2
   simp only [List.length_append, List.length_singleton]
   omega
  by_cases hlt : j < l3
  ·have j1 : (j : Int) < (l3 : Int) := by omega
   have hjl : j < P.length := by rw [HL.out]; exact hlt
   obtain ⟨x, hx⟩ : ∃ x, P[j]? = some x := ⟨_, List.getElem?_eq_getElem hjl⟩
   have HSN := Lib.hid (flat_id_snoc hx)
   have hv := (parB_of HOK.out.par).2 j x hx
   obtain ⟨ad, rfl, hcell⟩ := par_at (HR.out.below (H0.out.trans (HKU.out.below.mono hB0))) j hjl
   have hxx : P.getD j [] = x := by rw [List.getD_eq_getElem?_getD, hx]; rfl
   rw [hxx] at hcell
   have HV := Lib.hid hv
   have HLN := Lib.hid hlen
   clear hx hv hxx hjl hlen
   go_wp2_with fail
   refine (putHash_any _ _ x B wr HOU.out HV.out (by have := HLN.out; omega) hzu).mono ?_
   rintro e w3 ⟨v3, rfl, ho3, hk3⟩
   have HO3 := Lib.hid ho3
   have HK3 := Lib.hid (HKU.out.trans hk3)
   have HB3 := Lib.hid (hk3.blk _ _ _ HBU.out (by decide))
   clear ho3 hk3 hcell
   go_wp2_with fail
   go_roundw
   case rel =>
    refine ⟨j + 1, by omega, by go_num, ?_, HK3.out, HB3.out⟩
    rw [HSN.out, ← List.append_assoc]
    exact HO3.out
   case measure => simp [intOf]; omega
  ·obtain rfl : j = l3 := by omega
   have htk : P.take j = P := List.take_of_length_le (by rw [HL.out]; exact Nat.le_refl _)
   rw [htk] at HOU hlen
   obtain ⟨pre, hpre⟩ : ∃ pre, bs ++ unhexL T ++ [UInt8.ofNat j] ++ P.flatMap unhexL = pre := ⟨_, rfl⟩
   rw [hpre] at HOU hlen
   have HPRE := Lib.hid hpre
   clear hpre htk
   obtain ⟨-, -, -, -, -, x5, x6, x7⟩ := box_cells HBU.out
   have hn9 := putL_len9 (show n ≤ 72057594037927936 from by have := HOK.out.st1; omega)
   have ha9 := putL_len9 (show a ≤ 72057594037927936 from by have := HOK.out.au1; omega)
   have HN9 := Lib.hid hn9
   have HA9 := Lib.hid ha9
   have HLN := Lib.hid hlen
   clear hn9 ha9 hlen
   go_wp2_with fail
   clear x5 x6 x7
   refine (putNumber_any _ _ n B wr HOU.out (by have := HOK.out.st1; omega) (by have := HLN.out; omega) hzu).mono ?_
   rintro e w4 ⟨v4, rfl, ho4, hk4⟩
   have HO4 := Lib.hid ho4
   have HK4 := Lib.hid (HKU.out.trans hk4)
   have HB4 := Lib.hid (hk4.blk _ _ _ HBU.out (by decide))
   have hz4 : B ≤ w4.heap.size := Nat.le_trans hB HK4.out.size
   clear ho4 hk4
   obtain ⟨-, -, -, -, -, x5, x6, x7⟩ := box_cells HB4.out
   go_wp2_with fail
   clear x5 x6 x7
   refine (putNumber_any _ _ a B w4 HO4.out (by have := HOK.out.au1; omega) (by have h1 := HLN.out; have h2 := HN9.out; rw [List.length_append]; omega) hz4).mono ?_
   rintro e w5 ⟨v5, rfl, ho5, hk5⟩
   have HO5 := Lib.hid ho5
   have HK5 := Lib.hid (HK4.out.trans hk5)
   have HB5 := Lib.hid (hk5.blk _ _ _ HB4.out (by decide))
   have hz5 : B ≤ w5.heap.size := Nat.le_trans hB HK5.out.size
   clear ho5 hk5
   obtain ⟨-, -, -, -, -, x5, x6, x7⟩ := box_cells HB5.out
   go_wp2_with fail
   clear x5 x6 x7
   refine (putText_any _ _ ms B w5 HO5.out (by have := msgB_len HOK.out.msg; omega) (by have h1 := HLN.out; have h2 := HN9.out; have h3 := HA9.out; simp only [List.length_append]; omega) hz5).mono ?_
   rintro e w6 ⟨v6, rfl, ho6, hk6⟩
   have HO6 := Lib.hid ho6
   have HK6 := Lib.hid (HK5.out.trans hk6)
   clear ho6 hk6
   go_wp2_with fail
   go_ret
   refine ⟨v6, rfl, ?_, HK6.out⟩
   have h6 := HO6.out
   rw [← HPRE.out] at h6
   rw [show encC ⟨k, D, I, T, P, (n : Int), (a : Int), ms⟩ = unhexL T ++ [UInt8.ofNat P.length] ++ P.flatMap unhexL ++ putL (n : Int).toNat ++ putL (a : Int).toNat ++ (putL ms.length ++ ms) from rfl, HL.out, Int.toNat_natCast, Int.toNat_natCast]
   simpa only [List.append_assoc] using h6
end Go.Proofs.YtbenkmihkbjgeaaGreat.Ob
/- obj: Encode. -/
namespace Go.Proofs.YtbenkmihkbjgeaaGreat.Ob
open Go.RowKit Go.Proofs.YtbenkmihkbjgeaaGreat.Sh
open Go.Proofs.YtbenkmihkbjgeaaGreat.Tx (OwnV SlV sv bl nameB reads_at texts_at toList_ne')
def encL (o : ObM) : List UInt8 := [UInt8.ofNat o.kind.toNat] ++ (if o.kind = 1 then o.data else if o.kind = 2 then encIs o.items else encC o)
def EncPost (w : World) (o : ObM) (e : Ending) (w' : World) : Prop :=
 (mayB o = true → ∃ u, e = .returned (.tuple #[u, .int .i64 0]) ∧ Own w' w.heap.size u (encL o)) ∧ (mayB o = false → e = .returned (.tuple #[.slice none 0 0, .int .i64 1])) ∧ Below w.heap.size w w'
theorem own_one (w : World) (k : Int) (u : UInt8) (hu : bi u = k) : Own (w.alloc (.cells #[.int .u8 k] 5)) w.heap.size (.slice (some ⟨w.heap.size, 0, none⟩) 1 1) [u] := by
 subst hu
 refine ⟨rfl, .inr ⟨w.heap.size, 1, _, rfl, Nat.le_refl _, heap_alloc_new w _, Nat.le_refl _, by unfold maxLen; omega, rfl, rfl⟩⟩
theorem blobB_of {o : ObM} (h : blobB o = true) : o.data.length ≤ 20000 ∧ { o with data := [] } = objK 1 := by
 unfold blobB at h
 rw [Bool.and_eq_true, decide_eq_true_eq, sameB_iff] at h
 exact h
theorem treeB_of {o : ObM} (h : treeB o = true) : itemsB o.items = true ∧ { o with items := [] } = objK 2 := by
 unfold treeB at h
 rw [Bool.and_eq_true, sameB_iff] at h
 exact h
theorem mayB_kind {o : ObM} (h : mayB o = true) : (o.kind = 1 ∧ blobB o = true) ∨ (o.kind = 2 ∧ treeB o = true) ∨ (o.kind = 3 ∧ commB o = true) := by
 unfold mayB at h
 split at h
 ·exact .inl ⟨by assumption, h⟩
 ·split at h
  ·exact .inr (.inl ⟨by assumption, h⟩)
  ·split at h
   ·exact .inr (.inr ⟨by assumption, h⟩)
   ·cases h
theorem bi_1 : bi 1 = 1 := by unfold bi; rfl
theorem bi_2 : bi 2 = 2 := by unfold bi; rfl
theorem bi_3 : bi 3 = 3 := by unfold bi; rfl
set_option maxRecDepth 100000 in
set_option maxHeartbeats 3200000 in
theorem encode_any (v : Value) (o : ObM) (w : World) (h : ObV w v o) : Calls Tryz.prog 101 #[v] w (EncPost w o) := by
 obtain ⟨d, it, ps, rfl, hd, hi, hp⟩ := h
 obtain ⟨k, D, I, T, P, st, au, ms⟩ := o
 replace hd : Sl w d D := hd
 replace hi : SlI w it I := hi
 replace hp : SlV w ps ((P.map str).map sv) := hp
 have HD := Lib.hid hd
 have HI := Lib.hid hi
 have HP := Lib.hid hp
 obtain ⟨A, c, rfl, hlc, hcm, _⟩ := hd
 obtain ⟨A2, c2, rfl, hlc2, hcm2, _⟩ := hi
 obtain ⟨A3, c3, rfl, hlc3, hcm3, _⟩ := hp
 unfold maxLen at hcm hcm2 hcm3
 simp only [List.length_map] at hlc3 HP ⊢
 obtain ⟨l, hl⟩ : ∃ l, D.length = l := ⟨_, rfl⟩
 obtain ⟨l2, hl2⟩ : ∃ l, I.length = l := ⟨_, rfl⟩
 obtain ⟨l3, hl3⟩ : ∃ l, P.length = l := ⟨_, rfl⟩
 rw [hl] at hlc HD ⊢
 rw [hl2] at hlc2 HI ⊢
 rw [hl3] at hlc3 HP ⊢
 have HL := Lib.hid hl
 clear hl hl2 hl3
 have HB1 : Hid (Below w.heap.size w (w.alloc (.cells #[.int .i64 k, .slice A l c, .slice A2 l2 c2, .string (str T), .slice A3 l3 c3, .int .i64 st, .int .i64 au, .string (str ms)] 80))) := (Below.refl _ _).alloc (Nat.le_refl _) _
 have HK1 : Hid (Blk (w.alloc (.cells #[.int .i64 k, .slice A l c, .slice A2 l2 c2, .string (str T), .slice A3 l3 c3, .int .i64 st, .int .i64 au, .string (str ms)] 80)) w.heap.size 80 #[.int .i64 k, .slice A l c, .slice A2 l2 c2, .string (str T), .slice A3 l3 c3, .int .i64 st, .int .i64 au, .string (str ms)]) := Blk.new _ _ _
 have HV : Hid (ObV w (.agg #[.int .i64 k, .slice A l c, .slice A2 l2 c2, .string (str T), .slice A3 l3 c3, .int .i64 st, .int .i64 au, .string (str ms)]) ⟨k, D, I, T, P, st, au, ms⟩) := ⟨_, _, _, rfl, HD.out, HI.out, HP.out⟩
 obtain ⟨t, ht⟩ : ∃ t, mayB ⟨k, D, I, T, P, st, au, ms⟩ = t := ⟨_, rfl⟩
 have HT := Lib.hid ht
 clear ht
 go_enter Tryz.func101, Tryz.ntmps101
 go_wp2_with fail
 refine (may_any _ ⟨k, D, I, T, P, st, au, ms⟩ _ (HV.out.below HB1.out)).mono ?_
 rw [HT.out]
 rintro e w1 ⟨rfl, hb1⟩
 have HB2 := Lib.hid (Below.after HB1.out hb1)
 have HK2 := Lib.hid (HK1.out.below hb1 HK1.out.lt)
 have hwz : w.heap.size ≤ w1.heap.size := HB2.out.size
 clear hb1
 cases t with
 | false =>
  go_wp2_with fail
  go_ret2
  exact ⟨fun h => by rw [HT.out] at h; (cases h), fun _ => rfl, HB2.out⟩
 | true =>
  have hkd := mayB_kind HT.out
  obtain ⟨x0, x1, x2, x3, x4, x5, x6, x7⟩ := box_cells HK2.out
  rcases hkd with ⟨rfl, hkb⟩ | ⟨rfl, hkb⟩ | ⟨rfl, hkb⟩
  ·have hlen := (blobB_of hkb).1
   have hsm : [(1 : UInt8)].length + l ≤ 140737488355328 := by
    have : D.length ≤ 20000 := hlen
    rw [HL.out] at this
    rw [List.length_singleton]
    omega
   have HO2 : Hid (Own (w1.alloc (.cells #[.int .u8 1] 5)) w1.heap.size (.slice (some ⟨w1.heap.size, 0, none⟩) 1 1) [1]) := own_one w1 1 1 bi_1
   have HK3 : Hid (Blk (w1.alloc (.cells #[.int .u8 1] 5)) w.heap.size 80 #[.int .i64 1, .slice A l c, .slice A2 l2 c2, .string (str T), .slice A3 l3 c3, .int .i64 st, .int .i64 au, .string (str ms)]) := HK2.out.alloc _
   obtain ⟨y0, y1, y2, y3, y4, y5, y6, y7⟩ := box_cells HK3.out
   have HA2 : Hid (Below w.heap.size w (w1.alloc (.cells #[.int .u8 1] 5))) := HB2.out.alloc hwz _
   have HR : Hid (Reads (w1.alloc (.cells #[.int .u8 1] 5)) (w1.alloc (.cells #[.int .u8 1] 5)).heap.size 1 A l (D.map bv)) := by
    obtain ⟨A', c', hv, _, _, hI, _⟩ := HD.out.below HA2.out
    injection hv with e1 e2 e3
    subst e1
    have := hI.reads
    rw [HL.out] at this
    exact this
   have hz : w1.heap.size ≤ (w1.alloc (.cells #[.int .u8 1] 5)).heap.size := by simp
   have HKB := Lib.hid hkb
   clear hkb hlen
   go_wp2_with (at_builtin; refine app_bytes rfl (.tmp 16) (.tmp 18) rfl _ w1.heap.size _ [1] rfl HO2.out _ A l c D rfl HR.out hsm hz ?_; intro v3 w3 ho3 hb3; have HO3 := Lib.hid ho3; have HB3 := Lib.hid hb3; clear ho3 hb3)
   go_ret2
   refine ⟨fun _ => ⟨v3, rfl, ?_⟩, (fun h => by rw [HT.out] at h; cases h), HA2.out.trans (HB3.out.below.mono hwz)⟩
   exact Own.based HO3.out hwz
  ·have HKB := Lib.hid hkb
   have HO2 : Hid (Own (w1.alloc (.cells #[.int .u8 2] 5)) w1.heap.size (.slice (some ⟨w1.heap.size, 0, none⟩) 1 1) [2]) := own_one w1 2 2 bi_2
   have HK3 : Hid (Blk (w1.alloc (.cells #[.int .u8 2] 5)) w.heap.size 80 #[.int .i64 2, .slice A l c, .slice A2 l2 c2, .string (str T), .slice A3 l3 c3, .int .i64 st, .int .i64 au, .string (str ms)]) := HK2.out.alloc _
   obtain ⟨y0, y1, y2, y3, y4, y5, y6, y7⟩ := box_cells HK3.out
   have HA2 : Hid (Below w.heap.size w (w1.alloc (.cells #[.int .u8 2] 5))) := HB2.out.alloc hwz _
   have HA1 : Hid (Below w1.heap.size w1 (w1.alloc (.cells #[.int .u8 2] 5))) := (Below.refl _ _).alloc (Nat.le_refl _) _
   have hz : w1.heap.size ≤ (w1.alloc (.cells #[.int .u8 2] 5)).heap.size := by simp
   clear hkb
   go_wp2_with fail
   refine (putItems_any _ _ [2] I w1.heap.size w1 _ HO2.out (HI.out.below HB2.out) HA1.out (Nat.le_refl _) hz (treeB_of HKB.out).1 (by decide)).mono ?_
   rintro e w3 ⟨v3, rfl, ho3, hk3⟩
   have HO3 := Lib.hid ho3
   have HB3 := Lib.hid hk3
   clear ho3 hk3 x0 x1 x2 x3 x4 x5 x6 x7 y0 y1 y2 y3 y4 y5 y6 y7
   go_wp2_with fail
   go_ret2
   refine ⟨fun _ => ⟨v3, rfl, ?_⟩, (fun h => by rw [HT.out] at h; cases h), HA2.out.trans (HB3.out.below.mono hwz)⟩
   exact Own.based HO3.out hwz
  ·have HKB := Lib.hid hkb
   have HO2 : Hid (Own (w1.alloc (.cells #[.int .u8 3] 5)) w1.heap.size (.slice (some ⟨w1.heap.size, 0, none⟩) 1 1) [3]) := own_one w1 3 3 bi_3
   have HK3 : Hid (Blk (w1.alloc (.cells #[.int .u8 3] 5)) w.heap.size 80 #[.int .i64 3, .slice A l c, .slice A2 l2 c2, .string (str T), .slice A3 l3 c3, .int .i64 st, .int .i64 au, .string (str ms)]) := HK2.out.alloc _
   obtain ⟨y0, y1, y2, y3, y4, y5, y6, y7⟩ := box_cells HK3.out
   have HA2 : Hid (Below w.heap.size w (w1.alloc (.cells #[.int .u8 3] 5))) := HB2.out.alloc hwz _
   have HA1 : Hid (Below w1.heap.size w1 (w1.alloc (.cells #[.int .u8 3] 5))) := (Below.refl _ _).alloc (Nat.le_refl _) _
   have hz : w1.heap.size ≤ (w1.alloc (.cells #[.int .u8 3] 5)).heap.size := by simp
   clear hkb
   go_wp2_with fail
   refine (putCommit_any _ _ [3] ⟨3, D, I, T, P, st, au, ms⟩ w1.heap.size w1 _ HO2.out (HV.out.below HB2.out) HA1.out (Nat.le_refl _) hz (commB_of HKB.out).2.2 (by decide)).mono ?_
   rintro e w3 ⟨v3, rfl, ho3, hk3⟩
   have HO3 := Lib.hid ho3
   have HB3 := Lib.hid hk3
   clear ho3 hk3 x0 x1 x2 x3 x4 x5 x6 x7 y0 y1 y2 y3 y4 y5 y6 y7
   go_wp2_with fail
   go_ret2
   refine ⟨fun _ => ⟨v3, rfl, ?_⟩, (fun h => by rw [HT.out] at h; cases h), HA2.out.trans (HB3.out.below.mono hwz)⟩
   exact Own.based HO3.out hwz
end Go.Proofs.YtbenkmihkbjgeaaGreat.Ob
/- marlaw6: Few. -/
namespace Go.Proofs.YtbenkmihkbjgeaaGreat.Ob
open Go.RowKit Go.Proofs.YtbenkmihkbjgeaaGreat.Sh
open Go.Proofs.YtbenkmihkbjgeaaGreat.Tx (OwnV SlV sv bl nameB reads_at texts_at toList_ne')
structure FewOk (o : ObM) : Prop where
 items : o.items.length ≤ 400
 parents : o.parents.length ≤ 400
 data : o.data.length ≤ 30000
 tree : o.tree.length ≤ 30000
 msg : o.msg.length ≤ 30000
def FewPost (w : World) (o : ObM) (e : Ending) (w' : World) : Prop := ∃ t, e = .returned (.bool t) ∧ (t = true → FewOk o) ∧ Below w.heap.size w w'
end Go.Proofs.YtbenkmihkbjgeaaGreat.Ob
/- obj: ID, Refs; marlaw6: first. -/
namespace Go.Proofs.YtbenkmihkbjgeaaGreat.Ob
open Go.RowKit Go.Proofs.YtbenkmihkbjgeaaGreat.Sh
open Go.Proofs.YtbenkmihkbjgeaaGreat.Tx (OwnV SlV sv bl nameB reads_at texts_at toList_ne')
def Yes (w : World) (e : Ending) (w' : World) : Prop := e = .returned (.bool true) ∧ Below w.heap.size w w'
def IDPost (w : World) (o : ObM) (e : Ending) (w' : World) : Prop :=
 (mayB o = true → e = .returned (.tuple #[.string (str (hexL (sumOf (encL o)))), .int .i64 0])) ∧ (mayB o = false → e = .returned (.tuple #[.string (str []), .int .i64 1])) ∧ Below w.heap.size w w'
end Go.Proofs.YtbenkmihkbjgeaaGreat.Ob
/- Package store: Get, Has, PutObj of a Blob, on a file system behind many calls. -/
set_option linter.unusedVariables false
set_option linter.unusedSimpArgs false
namespace Go.Proofs.YtbenkmihkbjgeaaGreat.Tx
open Go.RowKit Go.Maps Go.Proofs.YtbenkmihkbjgeaaGreat.Sh
theorem str_same {x y : List UInt8} (h : x = y) : ((Tx.str x).toList == (Tx.str y).toList) = true := by rw [h]; exact beq_self_eq_true _
theorem str_nsame {x y : List UInt8} (h : x ≠ y) : ((Tx.str x).toList == (Tx.str y).toList) = false := by
 rw [Tx.str_toList, Tx.str_toList]; exact beq_eq_false_iff_ne.2 h
theorem MineP.fresh {w w1 w2 : World} {b : Nat} {c : CSt} {Z : Nat → Prop} (h : MineP w w1 b c Z) (hb : Below w1.heap.size w1 w2) : MineP w w2 b c (fun k => Z k ∨ (w1.heap.size ≤ k ∧ k < w2.heap.size)) := by
 obtain ⟨F, M, h1, h2, h3, h4⟩ := h
 refine ⟨F, M, h1.below hb, h2, h3.trans (hb.mono h3.size), fun k hk => ?_⟩
 rcases hk with hk | hk
 ·obtain ⟨z1, z2, z3⟩ := h4 k hk
  exact ⟨z1, z2, Nat.lt_of_lt_of_le z3 hb.size⟩
 ·exact ⟨fun hf => by have := h1.low k hf; omega, fun hm => by have := h1.lt k hm; omega, hk.2⟩
theorem StAt.fresh {w w1 w2 : World} {b s : Nat} {c : CSt} {Z : Nat → Prop} (h : StAt w w1 b c s Z) (hb : Below w1.heap.size w1 w2) : StAt w w2 b c s (fun k => Z k ∨ (w1.heap.size ≤ k ∧ k < w2.heap.size)) := by
 obtain ⟨h1, h2, r, h3⟩ := h
 have hl := h3.lt
 refine ⟨(h1.fresh hb).fewer (fun k hk => ?_), ⟨h2.1, fun hk => ?_⟩, r, h3.below hb h3.lt⟩
 ·rcases hk with (hk | hk) | hk
  ·exact .inl (.inl hk)
  ·exact .inr hk
  ·exact .inl (.inr hk)
 ·rcases hk with hk | hk
  ·exact h2.2 hk
  ·omega
set_option maxRecDepth 100000 in
set_option maxHeartbeats 1600000 in
theorem sgetq_any {w w1 : World} {b i s : Nat} {c : CSt} {Z : Nat → Prop} (id : List UInt8) (h : StAt w w1 b c s Z) (hg : GoS c i) (hi : i ≤ 390000) (hn : id.length ≤ 800000) :
  Calls Tryz.prog 139 #[.pointer (some ⟨s, 0, none⟩), .string (Tx.str id)] w1 fun e w' => ∃ v, e = .returned (.tuple #[v, .int .i64 (sgeE c id)]) ∧ (sgeE c id = 0 → SlV w' v ((redF c (objP id)).data.map bv)) ∧ StAt w w' b (hasC c id) s Z ∧ Keeps w Z w1 w' := by
 have H := Lib.hid h
 have HG := Lib.hid hg
 have HSH := Lib.hid (red_short (hg.ready (by omega)) (objP id))
 obtain ⟨t, ht⟩ : ∃ t, validB id = t := ⟨_, rfl⟩
 have HT := Lib.hid ht
 clear h hg ht
 go_enter Tryz.func139, Tryz.ntmps139
 go_wp2_with fail
 refine (Sh.valid_any id t HT.out w1 (by omega)).mono ?_
 rintro e w' ⟨rfl, rfl⟩
 cases t with
 | false =>
  have HE : Hid (sgeE c id = 6 ∧ hasC c id = c) := by unfold Hid sgeE hasC; rw [if_pos HT.out, if_pos HT.out]; exact ⟨rfl, rfl⟩
  go_wp2_with fail
  go_ret2
  refine ⟨_, by rw [HE.out.1]; rfl, fun h0 => ?_, by rw [HE.out.2]; exact H.out, Keeps.refl _ _ _⟩
  rw [HE.out.1] at h0
  cases h0
 | true =>
  have HC : Hid (hasC c id = (bgC c).c) := by unfold Hid hasC; rw [if_neg (by rw [HT.out]; decide)]
  go_wp2_with fail
  refine (sreadq_any id H.out HG.out (by omega) hn).mono ?_
  rintro e w2 ⟨v2, rfl, hv2, hs2, hk2⟩
  have HS2 := Lib.hid hs2
  have HK2 := Lib.hid hk2
  obtain ⟨re, hre⟩ : ∃ x, redE c (objP id) = x := ⟨_, rfl⟩
  obtain ⟨dat, hdat⟩ : ∃ x, (redF c (objP id)).data = x := ⟨_, rfl⟩
  have HRE := Lib.hid hre
  have HDAT := Lib.hid hdat
  rw [hre]
  rw [hdat] at hv2
  have HV2 := Lib.hid hv2
  have hdl : dat.length ≤ 1000000 := by rw [← hdat]; exact Nat.le_trans HSH.out (by decide)
  clear hs2 hk2 hre hdat hv2
  by_cases h0 : re = 0
  ·subst h0
   go_wp2_with fail
   refine (idc_any v2 dat w2 HV2.out hdl).mono ?_
   rintro e w3 ⟨rfl, hb3⟩
   have HS3 := Lib.hid (HS2.out.below hb3)
   have HK3 := Lib.hid (HK2.out.below hb3)
   have HV3 := Lib.hid (HV2.out.below hb3)
   clear hb3
   by_cases hq : idL dat = id
   ·have HE : Hid (sgeE c id = 0) := by unfold Hid sgeE; rw [if_neg (by rw [HT.out]; decide), if_neg (by rw [HRE.out]; decide), HDAT.out, if_pos hq]
    have y1 : ((Tx.str (hexL (sumOf dat))).toList == (Tx.str id).toList) = true := str_same hq
    have y2 : (!((Tx.str (hexL (sumOf dat))).toList == (Tx.str id).toList)) = false := by rw [y1]; rfl
    clear hq
    go_wp2_with fail
    go_ret2
    refine ⟨_, by rw [HE.out]; rfl, fun _ => ?_, by rw [HC.out]; exact HS3.out, HK3.out⟩
    rw [HDAT.out]
    exact HV3.out
   ·have HE : Hid (sgeE c id = 5) := by unfold Hid sgeE; rw [if_neg (by rw [HT.out]; decide), if_neg (by rw [HRE.out]; decide), HDAT.out, if_neg hq]
    have y1 : ((Tx.str (hexL (sumOf dat))).toList == (Tx.str id).toList) = false := str_nsame hq
    clear hq
    go_wp2_with fail
    go_ret2
    refine ⟨_, by rw [HE.out]; rfl, fun h9 => ?_, by rw [HC.out]; exact HS3.out, HK3.out⟩
    rw [HE.out] at h9
    cases h9
  ·have HE : Hid (sgeE c id = re) := by unfold Hid sgeE; rw [if_neg (by rw [HT.out]; decide), if_pos (by rw [HRE.out]; exact h0), HRE.out]
   have y1 : (re != 0) = true := by simpa using h0
   have HN := Lib.hid h0
   clear h0
   go_wp2_with fail
   go_ret2
   refine ⟨_, by rw [HE.out]; rfl, fun h9 => ?_, by rw [HC.out]; exact HS2.out, HK2.out⟩
   rw [HE.out] at h9
   exact absurd h9 HN.out
set_option maxRecDepth 100000 in
theorem shasq_any {w w1 : World} {b i s : Nat} {c : CSt} {Z : Nat → Prop} (id : List UInt8) (h : StAt w w1 b c s Z) (hg : GoS c i) (hi : i ≤ 390000) (hn : id.length ≤ 800000) :
  Calls Tryz.prog 88 #[.pointer (some ⟨s, 0, none⟩), .string (Tx.str id)] w1 fun e w' => e = .returned (.bool (hasE c id)) ∧ StAt w w' b (hasC c id) s Z ∧ Keeps w Z w1 w' := by
 have HC := Lib.hid (sgetq_any id h hg hi hn)
 obtain ⟨k, hk⟩ : ∃ k, sgeE c id = k := ⟨_, rfl⟩
 have HE : Hid (hasE c id = decide (k = 0)) := by unfold Hid hasE; rw [hk]
 rw [hk] at HC
 clear h hg hk
 go_enter Tryz.func88, Tryz.ntmps88
 go_wp2_with fail
 refine HC.out.mono ?_
 rintro e w2 ⟨v, rfl, _, hs, hk⟩
 have HS := Lib.hid hs
 have HK := Lib.hid hk
 clear hs hk
 go_wp2_with fail
 go_ret
 refine ⟨?_, HS.out, HK.out⟩
 rw [HE.out]
 rfl
theorem may_blob (d : List UInt8) (h : d.length ≤ 20000) : Ob.mayB ⟨1, d, [], [], [], 0, 0, []⟩ = true := by
 unfold Ob.mayB
 rw [if_pos rfl]
 unfold Ob.blobB
 rw [Bool.and_eq_true, decide_eq_true_eq]
 exact ⟨h, by rw [Ob.sameB_iff]; rfl⟩
theorem enc_blob (d : List UInt8) : Ob.encL ⟨1, d, [], [], [], 0, 0, []⟩ = blobL d := rfl
theorem bv_sh : (Sh.bv : UInt8 → Value) = Tx.bv := funext fun u => by
 unfold Sh.bv Tx.bv
 rw [Tx.bi_nat]
 first | rfl | (unfold Sh.bi; rfl) | (unfold Sh.bi; simp)
theorem by_own {w : World} {B : Nat} {v : Value} {d : List UInt8} (h : Sh.Own w B v d) : By (fun k => False ∨ (B ≤ k ∧ k < w.heap.size)) w v d := by
 refine OwnV.by_ (F := fun _ => False) ?_
 have h' : w.ownsRow B 5 1 v d.length (d.map Sh.bv) := h
 rw [bv_sh] at h'
 unfold Tx.OwnV
 rw [List.length_map]
 exact h'
set_option maxRecDepth 100000 in
set_option maxHeartbeats 1600000 in
theorem sblobq_any {w w1 : World} {b i s : Nat} {c : CSt} {Z : Nat → Prop} (v : Value) (d : List UInt8) (h : StAt w w1 b c s Z) (hg : GoS c i) (hi : i ≤ 390000) (hd : Sl w1 v d) (hl : d.length ≤ 4096) :
  Calls Tryz.prog 30 #[.pointer (some ⟨s, 0, none⟩), .agg #[.int .i64 1, v, .slice none 0 0, .string ⟨#[]⟩, .slice none 0 0, .int .i64 0, .int .i64 0, .string ⟨#[]⟩]] w1 fun e w' => e = .returned (.tuple #[.string (Tx.str (sptV c (blobL d))), .int .i64 (sptE c (blobL d))]) ∧ StAt w w' b (sptC c (blobL d)) s Z ∧ Keeps w Z w1 w' := by
 have H := Lib.hid h
 have HG := Lib.hid hg
 have HM := may_blob d (by omega)
 obtain ⟨w0, hw0⟩ : ∃ w0, w0 = w1.alloc (.cells #[.int .i64 1, v, .slice none 0 0, .string ⟨#[]⟩, .slice none 0 0, .int .i64 0, .int .i64 0, .string ⟨#[]⟩] 80) := ⟨_, rfl⟩
 have hb0 : Below w1.heap.size w1 w0 := by rw [hw0]; exact (Below.refl _ _).alloc (Nat.le_refl _) _
 have hd0 : Sl w0 v d := hd.below hb0
 have HB0 := Lib.hid hb0
 have HE := Lib.hid (Ob.encode_any (.agg #[.int .i64 1, v, .slice none 0 0, .string ⟨#[]⟩, .slice none 0 0, .int .i64 0, .int .i64 0, .string ⟨#[]⟩]) ⟨1, d, [], [], [], 0, 0, []⟩ w0 ⟨_, _, _, rfl, hd0, Ob.SlI.nil_ _, SlV.nil_ _⟩)
 have HL : Hid ((blobL d).length ≤ 20000) := by unfold Hid blobL; rw [List.length_cons]; omega
 obtain ⟨r1, hr1⟩ : ∃ x, sptV c (blobL d) = x := ⟨_, rfl⟩
 obtain ⟨r2, hr2⟩ : ∃ x, sptE c (blobL d) = x := ⟨_, rfl⟩
 have HR1 := Lib.hid hr1
 have HR2 := Lib.hid hr2
 have HHM := Lib.hid HM
 clear h hg hd HM hr1 hr2 hb0 hd0
 go_enter Tryz.func30, Tryz.ntmps30
 go_wp2_with fail
 rw [← hw0]
 clear hw0
 refine HE.out.mono ?_
 rintro e w2 ⟨hy, _, hb2⟩
 obtain ⟨u, rfl, hu⟩ := hy HHM.out
 rw [enc_blob] at hu
 have HS2 := Lib.hid ((H.out.below HB0.out).fresh hb2)
 have HK2 := Lib.hid (Keeps.of_below (w := w) (Z := Z) (HB0.out.trans (hb2.mono HB0.out.size)))
 have HBY := Lib.hid (by_own hu)
 obtain ⟨uA, uc, rfl, _, _⟩ := hu.length
 have HB2 := Lib.hid hb2
 obtain ⟨ul, hul⟩ : ∃ l, (blobL d).length = l := ⟨_, rfl⟩
 rw [hul] at HBY
 rw [hul]
 clear hu hy hul hb2
 go_wp2_with fail
 refine (sputq_any _ (blobL d) HS2.out HG.out (by omega) HBY.out (fun k hk => .inr (.inr (hk.elim False.elim id)))).mono ?_
 rw [HR1.out, HR2.out]
 rintro e w3 ⟨rfl, hs3, hk3⟩
 have HS3 := Lib.hid (hs3.fewer (fun k hk => .inl hk))
 have HK3 := Lib.hid (HK2.out.trans (hk3.fewer (fun k hk => .inl hk)))
 clear hs3 hk3
 go_wp2_with fail
 go_ret2
 exact ⟨by rw [HR1.out, HR2.out]; rfl, HS3.out, HK3.out⟩
end Go.Proofs.YtbenkmihkbjgeaaGreat.Tx
/- Package scan: rows of a table in memory; a map of what an index knows. -/
set_option linter.unusedVariables false
set_option linter.unusedSimpArgs false
namespace Go.Proofs.YtbenkmihkbjgeaaGreat.Tx
open Go.RowKit Go.Maps Go.Proofs.YtbenkmihkbjgeaaGreat.Sh
def rwC (r : RwM) : List Value := [.string (Tx.str r.path), .int .i64 r.mode, .string (Tx.str r.id)]
theorem rwC_one (l : List RwM) : ∀ u ∈ l.flatMap rwC, u.oneCell' = true := by
 intro u hu
 rw [List.mem_flatMap] at hu
 obtain ⟨x, _, hx⟩ := hu
 simp [rwC] at hx
 rcases hx with rfl | rfl | rfl <;> rfl
theorem rwC_length (l : List RwM) : (l.flatMap rwC).length = l.length * 3 := by
 induction l with
 | nil => rfl
 | cons x l ih => rw [List.flatMap_cons, List.length_append, ih, List.length_cons]; simp [rwC]; omega
theorem rwC_at (l : List RwM) : ∀ (k : Nat) (x : RwM), l[k]? = some x → (l.flatMap rwC)[k * 3]? = some (.string (Tx.str x.path)) ∧ (l.flatMap rwC)[k * 3 + 1]? = some (.int .i64 x.mode) ∧ (l.flatMap rwC)[k * 3 + 2]? = some (.string (Tx.str x.id)) := by
 induction l with
 | nil => intro k x h; simp at h
 | cons y l ih =>
  intro k x h
  cases k with
  | zero =>
   simp at h
   subst h
   exact ⟨rfl, rfl, rfl⟩
  | succ k =>
   obtain ⟨h0, h1, h2⟩ := ih k x (by simpa using h)
   have e : ∀ j, ((y :: l).flatMap rwC)[(k + 1) * 3 + j]? = (l.flatMap rwC)[k * 3 + j]? := by
    intro j
    rw [List.flatMap_cons, List.getElem?_append_right (by simp [rwC]; omega)]
    congr 1
    simp [rwC]
    omega
   exact ⟨(e 0).trans h0, (e 1).trans h1, (e 2).trans h2⟩
def SlR (w : World) (v : Value) (l : List RwM) : Prop := ∃ A c, v = .slice A l.length c ∧ l.length ≤ c ∧ c ≤ maxLen ∧ (A = none → l = []) ∧ Reads w w.heap.size 3 A l.length (l.flatMap rwC)
def OwnR (T : TypeId) (w : World) (B : Nat) (v : Value) (l : List RwM) : Prop := w.ownsRow B T 3 v l.length (l.flatMap rwC)
section
variable {T : TypeId} {w w' : World} {B : Nat} {v : Value} {l : List RwM}
theorem SlR.below (h : SlR w v l) (hb : Below w.heap.size w w') : SlR w' v l := by
 obtain ⟨A, c, hv, h1, h2, h3, h4⟩ := h
 exact ⟨A, c, hv, h1, h2, h3, (h4.below hb).more hb.size⟩
theorem SlR.nil_ (w : World) : SlR w (.slice none 0 0) [] := ⟨none, 0, rfl, by simp, by unfold maxLen; omega, fun _ => rfl, ⟨by simp, fun h => absurd h (by simp)⟩⟩
theorem rows_at {A : Option Addr} {n : Nat} (h : Reads w B 3 A n (l.flatMap rwC)) (hn : n = l.length) (k : Nat) (x : RwM) (hk : l[k]? = some x) :
  ∃ ad, A = some ad ∧ w.cell? (ad.add (k * 3)) = some (.string (Tx.str x.path)) ∧ w.cell? ⟨(ad.add (k * 3)).block, (ad.add (k * 3)).off + 1, none⟩ = some (.int .i64 x.mode) ∧ w.cell? ⟨(ad.add (k * 3)).block, (ad.add (k * 3)).off + 2, none⟩ = some (.string (Tx.str x.id)) := by
 have hl : k < l.length := (List.getElem?_eq_some_iff.1 hk).1
 obtain ⟨ad, e, _, hc⟩ := h.2 (by omega)
 obtain ⟨h0, h1, h2⟩ := rwC_at l k x hk
 refine ⟨ad, e, hc _ _ h0, ?_, ?_⟩
 ·rw [← Tx.add_field' ad (k * 3) 1 (by omega)]
  exact hc _ _ h1
 ·rw [← Tx.add_field' ad (k * 3) 2 (by omega)]
  exact hc _ _ h2
theorem OwnR.nil_ (T : TypeId) (w : World) (B : Nat) : OwnR T w B (.slice none 0 0) [] := World.ownsRow_nil w B T 3
theorem OwnR.alloc (h : OwnR T w B v l) (o : Obj) : OwnR T (w.alloc o) B v l := World.ownsRow.alloc h o
theorem OwnR.below (h : OwnR T w B v l) (hb : Below w.heap.size w w') : OwnR T w' B v l :=
 World.ownsRow.kept h (only_of_below hb none) (by cases hv : v.ownBlock <;> simp)
theorem OwnR.lt (h : OwnR T w B v l) (k : Nat) (hk : v.ownBlock = some k) : B ≤ k ∧ k < w.heap.size := World.ownsRow.lt h k hk
theorem OwnR.base {B' : Nat} (h : OwnR T w B v l) (hB : B' ≤ B) : OwnR T w B' v l := by
 refine ⟨h.1, ?_⟩
 rcases h.2 with h0 | ⟨g, cap, cur, hv, hb, rest⟩
 ·exact .inl h0
 ·exact .inr ⟨g, cap, cur, hv, by omega, rest⟩
theorem OwnR.slR (h : OwnR T w B v l) : SlR w v l := by
 rcases h.2 with ⟨rfl, h0⟩ | ⟨g, cap, cur, rfl, hb, hg, hc, hm, hcs, htk⟩
 ·have : l = [] := List.eq_nil_of_length_eq_zero h0
  subst this
  exact SlR.nil_ w
 ·have hr := Reads.of_own (show w.ownsRow B T 3 (.slice (some ⟨g, 0, none⟩) l.length cap) l.length (l.flatMap rwC) from h)
  exact ⟨_, cap, rfl, hc, hm, (fun e => by cases e), hr⟩
end
theorem info_srow : (Tryz.prog.info? 120).map (fun i => (i.zero, i.size, i.bytes)) = some (some (.agg #[.string ⟨#[]⟩, .int .i64 0, .string ⟨#[]⟩]), 3, 40) := by kernel_rfl
set_option maxRecDepth 100000 in
theorem sapp_row {ops : Array Oper} {o : Oper} {a : Act} {K : Act → World → Prop} {Q : Exit → Act → World → Prop} {E : Prop} (d : Nat) (hd : o.dst = some d) (hgd : o.guard = none) (s x : Operand)
  (ho : o.op = .call { callee := .builtin .append, args := #[s, x], argTypes := #[51, 51] }) (w : World) (B : Nat) (v : Value) (l : List RwM) (hs : a.eval s = v) (hown : OwnR 120 w B v l)
  (r : RwM) (g : Nat) (hg : Blk w g 120 #[.string (Tx.str r.path), .int .i64 r.mode, .string (Tx.str r.id)]) (hx : a.eval x = .slice (some ⟨g, 0, none⟩) 1 1) (hsmall : l.length + 1 ≤ 2000000) (hB : B ≤ w.heap.size)
  (h : ∀ v' w', OwnR 120 w' B v' (l ++ [r]) → w.grownBy w' v.ownBlock → (v'.ownBlock = v.ownBlock ∨ v'.ownBlock = some w.heap.size) → K (a.put (some d) v') w') : if Region.wanted o (yielded ops a.tmps) = true then Oper.wp Tryz.prog o a w K Q else E := by
 obtain ⟨i0, hi, hz0, hz1, hz2⟩ := info_parts info_srow
 have hr : Reads w w.heap.size 3 (some ⟨g, 0, none⟩) 1 ([r].flatMap rwC) := by
  refine ⟨rfl, fun _ => ⟨_, rfl, hg.lt, fun j v hv => ?_⟩⟩
  rw [Addr.add_mid, Nat.zero_add]
  have hj : j < 3 := by have := (List.getElem?_eq_some_iff.1 hv).1; simpa [rwC] using this
  have h1 := hg.cell j
  rw [← hv]
  rw [h1]
  match j, hj with
  | 0, _ => rfl
  | 1, _ => rfl
  | 2, _ => rfl
 refine step_append_any w hgd s x 51 ho B 120 i0 (.agg #[.string ⟨#[]⟩, .int .i64 0, .string ⟨#[]⟩]) 3 40 Tryz.underlying51 hi hz0 hz1 hz2 rfl (by decide) v l.length _ hs hown w.heap.size (some ⟨g, 0, none⟩) 1 1 _ hx hr (rwC_one [r]) (by unfold maxLen; omega) (by omega) hB ?_
 intro v' w' h1 h2 h3
 rw [hd]
 refine h v' w' ?_ h2 h3
 unfold OwnR
 rw [List.length_append, List.flatMap_append]
 exact h1
structure KnOK (l : List KnM) (D : DataW Value) : Prop where
 has_ : ∀ p, Maps.has D (.string p) = (knF l p).isSome
 at_ : ∀ p k, knF l p = some k → ∀ z, D.atKey (.string p) z = .held (.agg #[.int .i64 k.time, .string (Tx.str k.id)])
theorem KnOK.empty : KnOK [] (.map []) := ⟨fun p => rfl, fun p k h => by cases h⟩
theorem KnOK.put {l : List KnM} {D : DataW Value} (h : KnOK l D) (hm : Maps.IsMap D) (k : KnM) : KnOK (putK l k) (D.put (.string k.path) (.held (.agg #[.int .i64 k.time, .string (Tx.str k.id)]))) := by
 refine ⟨fun p => ?_, fun p x hx z => ?_⟩
 ·rw [knF_put]
  by_cases e : p = k.path
  ·subst e
   rw [Maps.has_put_same hm (isK _), if_pos rfl]
   rfl
  ·rw [Maps.has_put_other (fun x => e (by injection x)), if_neg e, h.has_]
 ·rw [knF_put] at hx
  by_cases e : p = k.path
  ·subst e
   rw [if_pos rfl] at hx
   injection hx with hx
   subst hx
   exact Maps.atKey_put_same hm (isK _) _ _
  ·rw [if_neg e] at hx
   rw [Maps.atKey_put_other (fun x => e (by injection x))]
   exact h.at_ p x hx z
end Go.Proofs.YtbenkmihkbjgeaaGreat.Tx
