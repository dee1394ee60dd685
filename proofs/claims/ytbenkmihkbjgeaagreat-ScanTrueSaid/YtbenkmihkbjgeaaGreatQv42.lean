/- Texts put together: VOb9, VOb10, VOb11, VOb12. -/
import Derived.Test.YtbenkmihkbjgeaaGreatQv41
import Derived.IntWalk
/- obj: putCommit. -/
namespace Go.Proofs.YtbenkmihkbjgeaaGreat.Ob
open Go.RowKit Go.Proofs.YtbenkmihkbjgeaaGreat.Sh
open Go.Proofs.YtbenkmihkbjgeaaGreat.Tx (OwnV SlV sv bl nameB reads_at texts_at toList_ne')
def encC (o : ObM) : List UInt8 := unhexL o.tree ++ [UInt8.ofNat o.parents.length] ++ o.parents.flatMap unhexL ++ putL o.stamp.toNat ++ putL o.author.toNat ++ (putL o.msg.length ++ o.msg)
theorem parB_of {ids : List (List UInt8)} (h : parB ids = true) : ids.length ≤ 2 ∧ ∀ (k : Nat) (x : List UInt8), ids[k]? = some x → validB x = true := by
 unfold parB at h
 rw [Bool.and_eq_true, decide_eq_true_eq, List.all_eq_true] at h
 refine ⟨h.1, fun k x hx => ?_⟩
 have hk := (List.getElem?_eq_some_iff.1 hx).1
 have h2 := h.2 k (List.mem_range.2 hk)
 rw [List.getD_eq_getElem?_getD, hx, Bool.and_eq_true] at h2
 exact h2.1
theorem flat_ids_len {ids : List (List UInt8)} (h : ∀ (k : Nat) (x : List UInt8), ids[k]? = some x → validB x = true) : (ids.flatMap unhexL).length = ids.length * 32 := by
 induction ids with
 | nil => simp
 | cons x l ih =>
  have h1 := validB_len (h 0 x rfl)
  have h2 := ih (fun k y hy => h (k + 1) y (by simpa using hy))
  rw [List.flatMap_cons, List.length_append, List.length_cons, unhexL_length]
  omega
theorem flat_id_snoc {l : List (List UInt8)} {k : Nat} {x : List UInt8} (h : l[k]? = some x) : (l.take (k + 1)).flatMap unhexL = (l.take k).flatMap unhexL ++ unhexL x := by
 obtain ⟨hk, e⟩ := List.getElem?_eq_some_iff.1 h
 rw [List.take_succ_eq_append_getElem hk, List.flatMap_append, e]
 simp
structure CommOk (T : List UInt8) (P : List (List UInt8)) (st au : Int) (ms : List UInt8) : Prop where
 tree : validB T = true
 par : parB P = true
 st0 : 0 ≤ st
 st1 : st ≤ 1099511627776
 au0 : 0 ≤ au
 au1 : au ≤ 255
 msg : msgB ms = true
theorem msgB_len {s : List UInt8} (h : msgB s = true) : s.length ≤ 200 := by
 unfold msgB at h
 rw [Bool.and_eq_true, decide_eq_true_eq] at h
 exact h.1
theorem commB_of {o : ObM} (h : commB o = true) : o.data = [] ∧ o.items = [] ∧ CommOk o.tree o.parents o.stamp o.author o.msg := by
 unfold commB at h
 simp only [Bool.and_eq_true, decide_eq_true_eq] at h
 obtain ⟨⟨⟨⟨⟨⟨⟨⟨h1, h2⟩, h3⟩, h4⟩, h5⟩, h6⟩, h7⟩, h8⟩, h9⟩ := h
 exact ⟨List.eq_nil_of_length_eq_zero h1, List.eq_nil_of_length_eq_zero h2, h3, h4, h5, h6, h7, h8, h9⟩
set_option maxRecDepth 100000 in
set_option maxHeartbeats 3200000 in
theorem putCommit_any (v u : Value) (bs : List UInt8) (o : ObM) (B : Nat) (w0 w : World) (h : Own w B v bs) (hI : ObV w0 u o) (h0 : Below w0.heap.size w0 w) (hB0 : w0.heap.size ≤ B) (hB : B ≤ w.heap.size) (hok : CommOk o.tree o.parents o.stamp o.author o.msg) (hl : bs.length ≤ 1000) :
  Calls Tryz.prog 149 #[v, u] w (AppPost w B bs (encC o)) := by
 obtain ⟨d, it, ps, rfl, hd, hi, hp⟩ := hI
 obtain ⟨k, D, I, T, P, st, au, ms⟩ := o
 replace hd : Sl w0 d D := hd
 replace hi : SlI w0 it I := hi
 replace hp : SlV w0 ps ((P.map str).map sv) := hp
 replace hok : CommOk T P st au ms := hok
 obtain ⟨A, c, rfl, hlc, hcm, _⟩ := hd
 obtain ⟨A2, c2, rfl, hlc2, hcm2, _⟩ := hi
 obtain ⟨A3, c3, rfl, hlc3, hcm3, hR⟩ := hp.len
 unfold maxLen at hcm hcm2 hcm3
 simp only [List.length_map] at hlc3 hR ⊢
 obtain ⟨n, hn⟩ : ∃ n : Nat, st = (n : Int) := ⟨st.toNat, by have := hok.st0; omega⟩
 obtain ⟨a, ha⟩ : ∃ a : Nat, au = (a : Int) := ⟨au.toNat, by have := hok.au0; omega⟩
 subst hn ha
 have hpl := (parB_of hok.par).1
 obtain ⟨l3, hl3⟩ : ∃ l, P.length = l := ⟨_, rfl⟩
 rw [hl3] at hlc3 hpl ⊢
 have HO := Lib.hid h
 have H0 := Lib.hid h0
 have HR := Lib.hid hR
 have HL := Lib.hid hl3
 have HOK := Lib.hid hok
 have hlb := len_byte l3 (by omega)
 have hz0 : B ≤ (w.alloc (.cells #[.int .i64 k, .slice A D.length c, .slice A2 I.length c2, .string (str T), .slice A3 l3 c3, .int .i64 (n : Int), .int .i64 (a : Int), .string (str ms)] 80)).heap.size := by simp; omega
 have HOA : Hid (Own (w.alloc (.cells #[.int .i64 k, .slice A D.length c, .slice A2 I.length c2, .string (str T), .slice A3 l3 c3, .int .i64 (n : Int), .int .i64 (a : Int), .string (str ms)] 80)) B v bs) := HO.out.alloc _
 have HKA : Hid (Blk (w.alloc (.cells #[.int .i64 k, .slice A D.length c, .slice A2 I.length c2, .string (str T), .slice A3 l3 c3, .int .i64 (n : Int), .int .i64 (a : Int), .string (str ms)] 80)) w.heap.size 80 #[.int .i64 k, .slice A D.length c, .slice A2 I.length c2, .string (str T), .slice A3 l3 c3, .int .i64 (n : Int), .int .i64 (a : Int), .string (str ms)]) := Blk.new _ _ _
 have HK0 : Hid (Kp B w (w.alloc (.cells #[.int .i64 k, .slice A D.length c, .slice A2 I.length c2, .string (str T), .slice A3 l3 c3, .int .i64 (n : Int), .int .i64 (a : Int), .string (str ms)] 80))) := (Kp.refl _ _).alloc hB _
 have HT32 : Hid ((unhexL T).length = 32) := by
  unfold Hid
  rw [unhexL_length]
  have := validB_len hok.tree
  omega
 clear h h0 hR hl3 hok
 go_enter Tryz.func149, Tryz.ntmps149
 go_wp2_with fail
 refine (putHash_any v bs T B _ HOA.out HOK.out.tree (by omega) hz0).mono ?_
 rintro e w1 ⟨v1, rfl, ho1, hk1⟩
 have HO1 := Lib.hid ho1
 have HK1 := Lib.hid (HK0.out.trans hk1)
 have HB1 := Lib.hid (hk1.blk _ _ _ HKA.out (by decide))
 have hz1 : B ≤ w1.heap.size := Nat.le_trans hB HK1.out.size
 have hs1 : (bs ++ unhexL T).length + 1 ≤ 140737488355328 := by have := HT32.out; rw [List.length_append]; omega
 clear ho1 hk1
 obtain ⟨-, -, -, -, x4, x5, x6, x7⟩ := box_cells HB1.out
 go_wp2_with (at_builtin; refine app_byte rfl (.tmp 11) (.tmp 16) rfl w1 B v1 _ rfl HO1.out _ (UInt8.ofNat l3) rfl _ rfl rfl hs1 hz1 ?_; intro v2 w2 ho2 hb2; have HO2 := Lib.hid ho2; have HK2 := Lib.hid (HK1.out.trans hb2); have HB2 := Lib.hid (hb2.blk _ _ _ HB1.out (by decide)); clear ho2 hb2; clear x4 x5 x6 x7; obtain ⟨-, -, -, -, x4, x5, x6, x7⟩ := box_cells HB2.out)
 clear x4 x5 x6 x7
 go_loopw [0, 21] (fun b i wr => ∃ j : Nat, j ≤ l3 ∧ i = .int .i64 j ∧ Own wr B b (bs ++ unhexL T ++ [UInt8.ofNat l3] ++ (P.take j).flatMap unhexL) ∧ Kp B w wr ∧ Blk wr w.heap.size 80 #[.int .i64 k, .slice A D.length c, .slice A2 I.length c2, .string (str T), .slice A3 l3 c3, .int .i64 (n : Int), .int .i64 (a : Int), .string (str ms)]) (fun _ i _ => l3 - (intOf i).toNat)
 case atStart => exact ⟨0, Nat.zero_le _, rfl, by simpa using HO2.out, HK2.out, HB2.out⟩
 case round =>
  obtain ⟨j, hj, rfl, hou, hku, hbu⟩ := hrel
  have HOU := Lib.hid hou
  have HKU := Lib.hid hku
  have HBU := Lib.hid hbu
  clear hou hku hbu
  have j0 : (0 : Int) ≤ (j : Int) := by omega
  have hzu : B ≤ wr.heap.size := Nat.le_trans hB HKU.out.size
  have hlen : (bs ++ unhexL T ++ [UInt8.ofNat l3] ++ (P.take j).flatMap unhexL).length ≤ 2000 := by
   have h1 := HT32.out
   have h2 := flat_ids_len (ids := P.take j) (fun i y hy => (parB_of HOK.out.par).2 i y (by
    rw [List.getElem?_take] at hy
    split at hy
    ·exact hy
    ·cases hy))
   rw [List.length_take] at h2
   simp only [List.length_append, List.length_singleton]
   omega
  by_cases hlt : j < l3
  ·have j1 : (j : Int) < (l3 : Int) := by omega
   have hjl : j < P.length := by rw [HL.out]; exact hlt
   obtain ⟨x, hx⟩ : ∃ x, P[j]? = some x := ⟨_, List.getElem?_eq_getElem hjl⟩
   have HSN := Lib.hid (flat_id_snoc hx)
   have hv := (parB_of HOK.out.par).2 j x hx
   obtain ⟨ad, rfl, hcell⟩ := par_at (HR.out.below (H0.out.trans (HKU.out.below.mono hB0))) j hjl
   have hxx : P.getD j [] = x := by rw [List.getD_eq_getElem?_getD, hx]; rfl
   rw [hxx] at hcell
   have HV := Lib.hid hv
   have HLN := Lib.hid hlen
   clear hx hv hxx hjl hlen
   go_wp2_with fail
   refine (putHash_any _ _ x B wr HOU.out HV.out (by have := HLN.out; omega) hzu).mono ?_
   rintro e w3 ⟨v3, rfl, ho3, hk3⟩
   have HO3 := Lib.hid ho3
   have HK3 := Lib.hid (HKU.out.trans hk3)
   have HB3 := Lib.hid (hk3.blk _ _ _ HBU.out (by decide))
   clear ho3 hk3 hcell
   go_wp2_with fail
   go_roundw
   case rel =>
    refine ⟨j + 1, by omega, by go_num, ?_, HK3.out, HB3.out⟩
    rw [HSN.out, ← List.append_assoc]
    exact HO3.out
   case measure => simp [intOf]; omega
  ·obtain rfl : j = l3 := by omega
   have htk : P.take j = P := List.take_of_length_le (by rw [HL.out]; exact Nat.le_refl _)
   rw [htk] at HOU hlen
   obtain ⟨pre, hpre⟩ : ∃ pre, bs ++ unhexL T ++ [UInt8.ofNat j] ++ P.flatMap unhexL = pre := ⟨_, rfl⟩
   rw [hpre] at HOU hlen
   have HPRE := Lib.hid hpre
   clear hpre htk
   obtain ⟨-, -, -, -, -, x5, x6, x7⟩ := box_cells HBU.out
   have hn9 := putL_len9 (show n ≤ 72057594037927936 from by have := HOK.out.st1; omega)
   have ha9 := putL_len9 (show a ≤ 72057594037927936 from by have := HOK.out.au1; omega)
   have HN9 := Lib.hid hn9
   have HA9 := Lib.hid ha9
   have HLN := Lib.hid hlen
   clear hn9 ha9 hlen
   go_wp2_with fail
   clear x5 x6 x7
   refine (putNumber_any _ _ n B wr HOU.out (by have := HOK.out.st1; omega) (by have := HLN.out; omega) hzu).mono ?_
   rintro e w4 ⟨v4, rfl, ho4, hk4⟩
   have HO4 := Lib.hid ho4
   have HK4 := Lib.hid (HKU.out.trans hk4)
   have HB4 := Lib.hid (hk4.blk _ _ _ HBU.out (by decide))
   have hz4 : B ≤ w4.heap.size := Nat.le_trans hB HK4.out.size
   clear ho4 hk4
   obtain ⟨-, -, -, -, -, x5, x6, x7⟩ := box_cells HB4.out
   go_wp2_with fail
   clear x5 x6 x7
   refine (putNumber_any _ _ a B w4 HO4.out (by have := HOK.out.au1; omega) (by have h1 := HLN.out; have h2 := HN9.out; rw [List.length_append]; omega) hz4).mono ?_
   rintro e w5 ⟨v5, rfl, ho5, hk5⟩
   have HO5 := Lib.hid ho5
   have HK5 := Lib.hid (HK4.out.trans hk5)
   have HB5 := Lib.hid (hk5.blk _ _ _ HB4.out (by decide))
   have hz5 : B ≤ w5.heap.size := Nat.le_trans hB HK5.out.size
   clear ho5 hk5
   obtain ⟨-, -, -, -, -, x5, x6, x7⟩ := box_cells HB5.out
   go_wp2_with fail
   clear x5 x6 x7
   refine (putText_any _ _ ms B w5 HO5.out (by have := msgB_len HOK.out.msg; omega) (by have h1 := HLN.out; have h2 := HN9.out; have h3 := HA9.out; simp only [List.length_append]; omega) hz5).mono ?_
   rintro e w6 ⟨v6, rfl, ho6, hk6⟩
   have HO6 := Lib.hid ho6
   have HK6 := Lib.hid (HK5.out.trans hk6)
   clear ho6 hk6
   go_wp2_with fail
   go_ret
   refine ⟨v6, rfl, ?_, HK6.out⟩
   have h6 := HO6.out
   rw [← HPRE.out] at h6
   rw [show encC ⟨k, D, I, T, P, (n : Int), (a : Int), ms⟩ = unhexL T ++ [UInt8.ofNat P.length] ++ P.flatMap unhexL ++ putL (n : Int).toNat ++ putL (a : Int).toNat ++ (putL ms.length ++ ms) from rfl, HL.out, Int.toNat_natCast, Int.toNat_natCast]
   simpa only [List.append_assoc] using h6
end Go.Proofs.YtbenkmihkbjgeaaGreat.Ob
/- obj: Encode. -/
namespace Go.Proofs.YtbenkmihkbjgeaaGreat.Ob
open Go.RowKit Go.Proofs.YtbenkmihkbjgeaaGreat.Sh
open Go.Proofs.YtbenkmihkbjgeaaGreat.Tx (OwnV SlV sv bl nameB reads_at texts_at toList_ne')
def encL (o : ObM) : List UInt8 := [UInt8.ofNat o.kind.toNat] ++ (if o.kind = 1 then o.data else if o.kind = 2 then encIs o.items else encC o)
def EncPost (w : World) (o : ObM) (e : Ending) (w' : World) : Prop :=
 (mayB o = true → ∃ u, e = .returned (.tuple #[u, .int .i64 0]) ∧ Own w' w.heap.size u (encL o)) ∧ (mayB o = false → e = .returned (.tuple #[.slice none 0 0, .int .i64 1])) ∧ Below w.heap.size w w'
theorem own_one (w : World) (k : Int) (u : UInt8) (hu : bi u = k) : Own (w.alloc (.cells #[.int .u8 k] 5)) w.heap.size (.slice (some ⟨w.heap.size, 0, none⟩) 1 1) [u] := by
 subst hu
 refine ⟨rfl, .inr ⟨w.heap.size, 1, _, rfl, Nat.le_refl _, heap_alloc_new w _, Nat.le_refl _, by unfold maxLen; omega, rfl, rfl⟩⟩
theorem blobB_of {o : ObM} (h : blobB o = true) : o.data.length ≤ 20000 ∧ { o with data := [] } = objK 1 := by
 unfold blobB at h
 rw [Bool.and_eq_true, decide_eq_true_eq, sameB_iff] at h
 exact h
theorem treeB_of {o : ObM} (h : treeB o = true) : itemsB o.items = true ∧ { o with items := [] } = objK 2 := by
 unfold treeB at h
 rw [Bool.and_eq_true, sameB_iff] at h
 exact h
theorem mayB_kind {o : ObM} (h : mayB o = true) : (o.kind = 1 ∧ blobB o = true) ∨ (o.kind = 2 ∧ treeB o = true) ∨ (o.kind = 3 ∧ commB o = true) := by
 unfold mayB at h
 split at h
 ·exact .inl ⟨by assumption, h⟩
 ·split at h
  ·exact .inr (.inl ⟨by assumption, h⟩)
  ·split at h
   ·exact .inr (.inr ⟨by assumption, h⟩)
   ·cases h
theorem bi_1 : bi 1 = 1 := by unfold bi; rfl
theorem bi_2 : bi 2 = 2 := by unfold bi; rfl
theorem bi_3 : bi 3 = 3 := by unfold bi; rfl
set_option maxRecDepth 100000 in
set_option maxHeartbeats 3200000 in
theorem encode_any (v : Value) (o : ObM) (w : World) (h : ObV w v o) : Calls Tryz.prog 101 #[v] w (EncPost w o) := by
 obtain ⟨d, it, ps, rfl, hd, hi, hp⟩ := h
 obtain ⟨k, D, I, T, P, st, au, ms⟩ := o
 replace hd : Sl w d D := hd
 replace hi : SlI w it I := hi
 replace hp : SlV w ps ((P.map str).map sv) := hp
 have HD := Lib.hid hd
 have HI := Lib.hid hi
 have HP := Lib.hid hp
 obtain ⟨A, c, rfl, hlc, hcm, _⟩ := hd
 obtain ⟨A2, c2, rfl, hlc2, hcm2, _⟩ := hi
 obtain ⟨A3, c3, rfl, hlc3, hcm3, _⟩ := hp
 unfold maxLen at hcm hcm2 hcm3
 simp only [List.length_map] at hlc3 HP ⊢
 obtain ⟨l, hl⟩ : ∃ l, D.length = l := ⟨_, rfl⟩
 obtain ⟨l2, hl2⟩ : ∃ l, I.length = l := ⟨_, rfl⟩
 obtain ⟨l3, hl3⟩ : ∃ l, P.length = l := ⟨_, rfl⟩
 rw [hl] at hlc HD ⊢
 rw [hl2] at hlc2 HI ⊢
 rw [hl3] at hlc3 HP ⊢
 have HL := Lib.hid hl
 clear hl hl2 hl3
 have HB1 : Hid (Below w.heap.size w (w.alloc (.cells #[.int .i64 k, .slice A l c, .slice A2 l2 c2, .string (str T), .slice A3 l3 c3, .int .i64 st, .int .i64 au, .string (str ms)] 80))) := (Below.refl _ _).alloc (Nat.le_refl _) _
 have HK1 : Hid (Blk (w.alloc (.cells #[.int .i64 k, .slice A l c, .slice A2 l2 c2, .string (str T), .slice A3 l3 c3, .int .i64 st, .int .i64 au, .string (str ms)] 80)) w.heap.size 80 #[.int .i64 k, .slice A l c, .slice A2 l2 c2, .string (str T), .slice A3 l3 c3, .int .i64 st, .int .i64 au, .string (str ms)]) := Blk.new _ _ _
 have HV : Hid (ObV w (.agg #[.int .i64 k, .slice A l c, .slice A2 l2 c2, .string (str T), .slice A3 l3 c3, .int .i64 st, .int .i64 au, .string (str ms)]) ⟨k, D, I, T, P, st, au, ms⟩) := ⟨_, _, _, rfl, HD.out, HI.out, HP.out⟩
 obtain ⟨t, ht⟩ : ∃ t, mayB ⟨k, D, I, T, P, st, au, ms⟩ = t := ⟨_, rfl⟩
 have HT := Lib.hid ht
 clear ht
 go_enter Tryz.func101, Tryz.ntmps101
 go_wp2_with fail
 refine (may_any _ ⟨k, D, I, T, P, st, au, ms⟩ _ (HV.out.below HB1.out)).mono ?_
 rw [HT.out]
 rintro e w1 ⟨rfl, hb1⟩
 have HB2 := Lib.hid (Below.after HB1.out hb1)
 have HK2 := Lib.hid (HK1.out.below hb1 HK1.out.lt)
 have hwz : w.heap.size ≤ w1.heap.size := HB2.out.size
 clear hb1
 cases t with
 | false =>
  go_wp2_with fail
  go_ret2
  exact ⟨fun h => by rw [HT.out] at h; (cases h), fun _ => rfl, HB2.out⟩
 | true =>
  have hkd := mayB_kind HT.out
  obtain ⟨x0, x1, x2, x3, x4, x5, x6, x7⟩ := box_cells HK2.out
  rcases hkd with ⟨rfl, hkb⟩ | ⟨rfl, hkb⟩ | ⟨rfl, hkb⟩
  ·have hlen := (blobB_of hkb).1
   have hsm : [(1 : UInt8)].length + l ≤ 140737488355328 := by
    have : D.length ≤ 20000 := hlen
    rw [HL.out] at this
    rw [List.length_singleton]
    omega
   have HO2 : Hid (Own (w1.alloc (.cells #[.int .u8 1] 5)) w1.heap.size (.slice (some ⟨w1.heap.size, 0, none⟩) 1 1) [1]) := own_one w1 1 1 bi_1
   have HK3 : Hid (Blk (w1.alloc (.cells #[.int .u8 1] 5)) w.heap.size 80 #[.int .i64 1, .slice A l c, .slice A2 l2 c2, .string (str T), .slice A3 l3 c3, .int .i64 st, .int .i64 au, .string (str ms)]) := HK2.out.alloc _
   obtain ⟨y0, y1, y2, y3, y4, y5, y6, y7⟩ := box_cells HK3.out
   have HA2 : Hid (Below w.heap.size w (w1.alloc (.cells #[.int .u8 1] 5))) := HB2.out.alloc hwz _
   have HR : Hid (Reads (w1.alloc (.cells #[.int .u8 1] 5)) (w1.alloc (.cells #[.int .u8 1] 5)).heap.size 1 A l (D.map bv)) := by
    obtain ⟨A', c', hv, _, _, hI, _⟩ := HD.out.below HA2.out
    injection hv with e1 e2 e3
    subst e1
    have := hI.reads
    rw [HL.out] at this
    exact this
   have hz : w1.heap.size ≤ (w1.alloc (.cells #[.int .u8 1] 5)).heap.size := by simp
   have HKB := Lib.hid hkb
   clear hkb hlen
   go_wp2_with (at_builtin; refine app_bytes rfl (.tmp 16) (.tmp 18) rfl _ w1.heap.size _ [1] rfl HO2.out _ A l c D rfl HR.out hsm hz ?_; intro v3 w3 ho3 hb3; have HO3 := Lib.hid ho3; have HB3 := Lib.hid hb3; clear ho3 hb3)
   go_ret2
   refine ⟨fun _ => ⟨v3, rfl, ?_⟩, (fun h => by rw [HT.out] at h; cases h), HA2.out.trans (HB3.out.below.mono hwz)⟩
   exact Own.based HO3.out hwz
  ·have HKB := Lib.hid hkb
   have HO2 : Hid (Own (w1.alloc (.cells #[.int .u8 2] 5)) w1.heap.size (.slice (some ⟨w1.heap.size, 0, none⟩) 1 1) [2]) := own_one w1 2 2 bi_2
   have HK3 : Hid (Blk (w1.alloc (.cells #[.int .u8 2] 5)) w.heap.size 80 #[.int .i64 2, .slice A l c, .slice A2 l2 c2, .string (str T), .slice A3 l3 c3, .int .i64 st, .int .i64 au, .string (str ms)]) := HK2.out.alloc _
   obtain ⟨y0, y1, y2, y3, y4, y5, y6, y7⟩ := box_cells HK3.out
   have HA2 : Hid (Below w.heap.size w (w1.alloc (.cells #[.int .u8 2] 5))) := HB2.out.alloc hwz _
   have HA1 : Hid (Below w1.heap.size w1 (w1.alloc (.cells #[.int .u8 2] 5))) := (Below.refl _ _).alloc (Nat.le_refl _) _
   have hz : w1.heap.size ≤ (w1.alloc (.cells #[.int .u8 2] 5)).heap.size := by simp
   clear hkb
   go_wp2_with fail
   refine (putItems_any _ _ [2] I w1.heap.size w1 _ HO2.out (HI.out.below HB2.out) HA1.out (Nat.le_refl _) hz (treeB_of HKB.out).1 (by decide)).mono ?_
   rintro e w3 ⟨v3, rfl, ho3, hk3⟩
   have HO3 := Lib.hid ho3
   have HB3 := Lib.hid hk3
   clear ho3 hk3 x0 x1 x2 x3 x4 x5 x6 x7 y0 y1 y2 y3 y4 y5 y6 y7
   go_wp2_with fail
   go_ret2
   refine ⟨fun _ => ⟨v3, rfl, ?_⟩, (fun h => by rw [HT.out] at h; cases h), HA2.out.trans (HB3.out.below.mono hwz)⟩
   exact Own.based HO3.out hwz
  ·have HKB := Lib.hid hkb
   have HO2 : Hid (Own (w1.alloc (.cells #[.int .u8 3] 5)) w1.heap.size (.slice (some ⟨w1.heap.size, 0, none⟩) 1 1) [3]) := own_one w1 3 3 bi_3
   have HK3 : Hid (Blk (w1.alloc (.cells #[.int .u8 3] 5)) w.heap.size 80 #[.int .i64 3, .slice A l c, .slice A2 l2 c2, .string (str T), .slice A3 l3 c3, .int .i64 st, .int .i64 au, .string (str ms)]) := HK2.out.alloc _
   obtain ⟨y0, y1, y2, y3, y4, y5, y6, y7⟩ := box_cells HK3.out
   have HA2 : Hid (Below w.heap.size w (w1.alloc (.cells #[.int .u8 3] 5))) := HB2.out.alloc hwz _
   have HA1 : Hid (Below w1.heap.size w1 (w1.alloc (.cells #[.int .u8 3] 5))) := (Below.refl _ _).alloc (Nat.le_refl _) _
   have hz : w1.heap.size ≤ (w1.alloc (.cells #[.int .u8 3] 5)).heap.size := by simp
   clear hkb
   go_wp2_with fail
   refine (putCommit_any _ _ [3] ⟨3, D, I, T, P, st, au, ms⟩ w1.heap.size w1 _ HO2.out (HV.out.below HB2.out) HA1.out (Nat.le_refl _) hz (commB_of HKB.out).2.2 (by decide)).mono ?_
   rintro e w3 ⟨v3, rfl, ho3, hk3⟩
   have HO3 := Lib.hid ho3
   have HB3 := Lib.hid hk3
   clear ho3 hk3 x0 x1 x2 x3 x4 x5 x6 x7 y0 y1 y2 y3 y4 y5 y6 y7
   go_wp2_with fail
   go_ret2
   refine ⟨fun _ => ⟨v3, rfl, ?_⟩, (fun h => by rw [HT.out] at h; cases h), HA2.out.trans (HB3.out.below.mono hwz)⟩
   exact Own.based HO3.out hwz
end Go.Proofs.YtbenkmihkbjgeaaGreat.Ob
/- marlaw6: Few. -/
namespace Go.Proofs.YtbenkmihkbjgeaaGreat.Ob
open Go.RowKit Go.Proofs.YtbenkmihkbjgeaaGreat.Sh
open Go.Proofs.YtbenkmihkbjgeaaGreat.Tx (OwnV SlV sv bl nameB reads_at texts_at toList_ne')
structure FewOk (o : ObM) : Prop where
 items : o.items.length ≤ 400
 parents : o.parents.length ≤ 400
 data : o.data.length ≤ 30000
 tree : o.tree.length ≤ 30000
 msg : o.msg.length ≤ 30000
def FewPost (w : World) (o : ObM) (e : Ending) (w' : World) : Prop := ∃ t, e = .returned (.bool t) ∧ (t = true → FewOk o) ∧ Below w.heap.size w w'
end Go.Proofs.YtbenkmihkbjgeaaGreat.Ob
/- obj: ID, Refs; marlaw6: first. -/
namespace Go.Proofs.YtbenkmihkbjgeaaGreat.Ob
open Go.RowKit Go.Proofs.YtbenkmihkbjgeaaGreat.Sh
open Go.Proofs.YtbenkmihkbjgeaaGreat.Tx (OwnV SlV sv bl nameB reads_at texts_at toList_ne')
def Yes (w : World) (e : Ending) (w' : World) : Prop := e = .returned (.bool true) ∧ Below w.heap.size w w'
def IDPost (w : World) (o : ObM) (e : Ending) (w' : World) : Prop :=
 (mayB o = true → e = .returned (.tuple #[.string (str (hexL (sumOf (encL o)))), .int .i64 0])) ∧ (mayB o = false → e = .returned (.tuple #[.string (str []), .int .i64 1])) ∧ Below w.heap.size w w'
theorem encC_len {o : ObM} (h : CommOk o.tree o.parents o.stamp o.author o.msg) : (encC o).length ≤ 400 := by
 have h1 := (validB_len h.tree).1
 have h2 := flat_ids_len (parB_of h.par).2
 have h3 := (parB_of h.par).1
 have h4 := putL_len9 (show o.stamp.toNat ≤ 72057594037927936 from by have := h.st1; omega)
 have h5 := putL_len9 (show o.author.toNat ≤ 72057594037927936 from by have := h.au1; omega)
 have h6 := msgB_len h.msg
 have h7 := putL_len9 (show o.msg.length ≤ 72057594037927936 from by omega)
 unfold encC
 simp only [List.length_append, List.length_singleton, unhexL_length]
 omega
theorem encL_len {o : ObM} (h : mayB o = true) : (encL o).length ≤ 40000 := by
 unfold encL
 rcases mayB_kind h with ⟨h1, h2⟩ | ⟨h1, h2⟩ | ⟨h1, h2⟩
 ·have := (blobB_of h2).1
  rw [if_pos h1, List.length_append, List.length_singleton]
  omega
 ·have h3 := itemsB_of (treeB_of h2).1
  have h4 := encIs_len h3.2
  have h5 := putL_len9 (show o.items.length ≤ 72057594037927936 from by omega)
  rw [if_neg (by omega), if_pos h1]
  unfold encIs
  rw [List.length_append, List.length_append, List.length_singleton]
  omega
 ·have := encC_len (commB_of h2).2.2
  rw [if_neg (by omega), if_neg (by omega), List.length_append, List.length_singleton]
  omega
set_option maxRecDepth 100000 in
set_option maxHeartbeats 1600000 in
theorem objID_any (v : Value) (o : ObM) (w : World) (h : ObV w v o) : Calls Tryz.prog 87 #[v] w (IDPost w o) := by
 have HV := Lib.hid h
 obtain ⟨d, it, ps, rfl, hd, hi, hp⟩ := h
 have HB1 : Hid (Below w.heap.size w (w.alloc (.cells #[.int .i64 o.kind, d, it, .string (str o.tree), ps, .int .i64 o.stamp, .int .i64 o.author, .string (str o.msg)] 80))) := (Below.refl _ _).alloc (Nat.le_refl _) _
 clear hd hi hp
 obtain ⟨t, ht⟩ : ∃ t, mayB o = t := ⟨_, rfl⟩
 have HT := Lib.hid ht
 clear ht
 go_enter Tryz.func87, Tryz.ntmps87
 go_wp2_with fail
 refine (encode_any _ o _ (HV.out.below HB1.out)).mono ?_
 rintro e w1 ⟨hy, hn, hb1⟩
 have HB2 := Lib.hid (Below.after HB1.out hb1)
 cases t with
 | false =>
  obtain rfl := hn HT.out
  clear hy hn hb1
  go_wp2_with fail
  go_ret2
  exact ⟨fun h => by rw [HT.out] at h; (cases h), fun _ => rfl, HB2.out⟩
 | true =>
  obtain ⟨u, rfl, hu⟩ := hy HT.out
  have HU := Lib.hid hu.sl
  clear hy hn hb1 hu
  go_wp2_with fail
  refine (id_any u (encL o) w1 HU.out (by have := encL_len HT.out; omega)).mono ?_
  rintro e w2 ⟨rfl, hb2⟩
  have HB3 := Lib.hid (Below.after HB2.out hb2)
  clear hb2
  go_wp2_with fail
  go_ret2
  exact ⟨fun _ => rfl, fun h => by rw [HT.out] at h; (cases h), HB3.out⟩
end Go.Proofs.YtbenkmihkbjgeaaGreat.Ob
