/- Texts put together: VSt0, VObIn, VShN4, VOb6. -/
import Derived.Deep.Slices
import Derived.Deep.Fields
import Derived.ChangeSame
import Derived.Test.YtpfjlhpahmhkhaaGreatQv13
import Derived.OpenShut
import Derived.ShutString
import Derived.ChangeOld
import Derived.WideShapes
import Derived.Test.YtpfjlhpahmhkhaaGreatQv18
/- Slices of structs that came in: what their cells hold. -/
namespace Go.Proofs.YtpfjlhpahmhkhaaGreat.Sh
open Go.ChangeShapes Go.WideShapes Go.Deep
end Go.Proofs.YtpfjlhpahmhkhaaGreat.Sh
/- An object that came in: what its cells hold. -/
namespace Go.Proofs.YtpfjlhpahmhkhaaGreat.Ob
open Go.ChangeShapes Go.WideShapes Go.RowKit Go.Deep Go.Proofs.YtpfjlhpahmhkhaaGreat.Sh
open Go.Proofs.YtpfjlhpahmhkhaaGreat.Tx (OwnV SlV sv bl nameB reads_at texts_at toList_ne')
section
variable {H : Type} {enc : TypeId × Value → H} {w : World} {base n : Nat} {held : Bool} {v : Value} {y : DataW H × List MemPlace}
end
section
variable {H : Type} {enc : TypeId × Value → H} {w : World} {base n : Nat} {held : Bool} {v : Value} {y : DataW H × List MemPlace}
end
end Go.Proofs.YtpfjlhpahmhkhaaGreat.Ob
/- The reference's Get. -/
namespace Go.Proofs.YtpfjlhpahmhkhaaGreat.Sh
open Go.RowKit
theorem getD_drop (bs : List UInt8) (k j : Nat) : (bs.drop k).getD j 0 = bs.getD (k + j) 0 := by
 simp only [List.getD_eq_getElem?_getD, List.getElem?_drop]
def Run (bs : List UInt8) (k m : Nat) : Prop := k + m ≤ bs.length ∧ ∀ j, j < m → 128 ≤ (bs.getD (k + j) 0).toNat
theorem run_of {bs : List UInt8} {k : Nat} (hk : k ≤ bs.length) : Run bs k (cont (bs.drop k)) := by
 refine ⟨?_, fun j hj => ?_⟩
 ·have := cont_le (bs.drop k); rw [List.length_drop] at this; omega
 ·rw [← getD_drop]; exact cont_at _ j hj
set_option maxRecDepth 100000 in
set_option maxHeartbeats 800000 in
theorem rget_short (A : Option Addr) (cp : Nat) (bs : List UInt8) (k : Nat) (w : World) (hI : In w A bs) (hl : bs.length ≤ cp) (hcm : cp ≤ maxLen) (hk : k ≤ bs.length) (hs : cont (bs.drop k) = (bs.drop k).length) :
  Calls Tryz.prog 188 #[.slice A bs.length cp, .int .i64 (k : Int)] w fun e w' => e = .returned (.tuple #[.int .i64 0, .int .i64 0, .int .i64 2]) ∧ w = w' := by
 unfold maxLen at hcm
 have HR := Lib.hid (run_of hk)
 rw [hs] at HR
 obtain ⟨m, hm⟩ : ∃ m, (bs.drop k).length = m := ⟨_, rfl⟩
 rw [hm] at HR
 rw [List.length_drop] at hm
 obtain ⟨l, hL⟩ : ∃ l, bs.length = l := ⟨_, rfl⟩
 rw [hL] at hl hk hm ⊢
 have HI := Lib.hid hI
 have HL := Lib.hid hL
 have hkm : k + m = l := by omega
 have HKM := Lib.hid hkm
 clear hL hI hs hm hkm
 have b0 : (k : Int) ≤ (l : Int) := by omega
 have b1 : (0 : Int) ≤ (k : Int) := by omega
 go_enter Tryz.func188, Tryz.ntmps188
 go_wp2
 go_loop [7] (fun i => ∃ j : Nat, j ≤ m ∧ i = .int .i64 ((k + j : Nat) : Int)) (fun i => l - (intOf i).toNat)
 case atStart => exact ⟨0, Nat.zero_le _, rfl⟩
 case round =>
  obtain ⟨j, hj, rfl⟩ := hrel
  obtain ⟨q, hq⟩ : ∃ q, k + j = q := ⟨_, rfl⟩
  rw [hq]
  by_cases hlt : j < m
  ·obtain ⟨ad, rfl, hcell⟩ := HI.out.at_ q (by rw [HL.out]; have := HKM.out; omega)
   have hb := HR.out.2 j hlt
   rw [hq] at hb
   have hb2 : (127 : Int) < bi (bs.getD q 0) := by unfold bi; omega
   have hb3 := (bi_lt (bs.getD q 0)).2
   generalize bi (bs.getD q 0) = x at *
   have c1 : (q : Int) < (l : Int) := by have := HKM.out; omega
   have HQ := Lib.hid hq
   clear hb hq
   go_wp2
   go_round
   case rel => exact ⟨j + 1, by omega, by rw [show k + (j + 1) = q + 1 from by have := HQ.out; omega]; go_num⟩
   case measure => simp [intOf]; omega
  ·have e : q = l := by have := HKM.out; omega
   subst e
   clear hq
   go_wp2
   go_ret3
   exact ⟨rfl, rfl⟩
theorem uand127 (y : Nat) (h : y < 256) : bits .and .u8 (y : Int) 127 = (y : Int) % 128 := by
 rw [show (127 : Int) = ((127 : Nat) : Int) from rfl, u8_and_nat _ _ (by omega) (by omega), show y &&& 127 = y % 128 from Nat.and_two_pow_sub_one_eq_mod y 7]
 omega
set_option maxRecDepth 100000 in
set_option maxHeartbeats 1600000 in
theorem rget_in (A : Option Addr) (cp : Nat) (bs : List UInt8) (k : Nat) (w : World) (hI : In w A bs) (hA0 : A = none → bs = []) (hl : bs.length ≤ cp) (hcm : cp ≤ maxLen) (hk : k ≤ bs.length) (hs : cont (bs.drop k) < (bs.drop k).length) (a b c : Int)
  (hr : getR bs (k : Int) = (a, b, c)) :
  Calls Tryz.prog 188 #[.slice A bs.length cp, .int .i64 (k : Int)] w fun e w' => e = .returned (.tuple #[.int .i64 a, .int .i64 b, .int .i64 c]) ∧ Below w.heap.size w w' := by
 have hsl : Sl w (.slice A bs.length cp) bs := ⟨A, cp, rfl, hl, hcm, hI, hA0⟩
 unfold maxLen at hcm
 have hR := run_of hk
 obtain ⟨hsh, hgl⟩ := cont_take hs
 have hend := cont_end _ hs
 rw [getD_drop] at hend
 have hGI : ∀ j, j < cont (bs.drop k) + 1 → ((bs.drop k).take (cont (bs.drop k) + 1)).getD j 0 = bs.getD (k + j) 0 := fun j hj => by
  rw [List.getD_eq_getElem?_getD, List.getElem?_take, if_pos hj, ← List.getD_eq_getElem?_getD, getD_drop]
 have hok : okL ((bs.drop k).take (cont (bs.drop k) + 1)) = true → ((valL ((bs.drop k).take (cont (bs.drop k) + 1)) : Nat) : Int) = a ∧ (k : Int) + ((cont (bs.drop k) : Int) + 1) = b ∧ 0 = c := fun ho => by
  rw [getR_ok hk hs ho] at hr; injection hr with h1 h2; injection h2 with h2 h3; exact ⟨h1, h2, h3⟩
 have hno : okL ((bs.drop k).take (cont (bs.drop k) + 1)) = false → 0 = a ∧ 0 = b ∧ 4 = c := fun ho => by
  rw [getR_form hk hs ho] at hr; injection hr with h1 h2; injection h2 with h2 h3; exact ⟨h1, h2, h3⟩
 have hsg : In w (A.map (·.add k)) ((bs.drop k).take (cont (bs.drop k) + 1)) := (hI.cut k _ (fun _ ad hA => by rw [hA]; rfl)).take _
 obtain ⟨m, hm⟩ : ∃ m, cont (bs.drop k) = m := ⟨_, rfl⟩
 rw [List.length_drop] at hs
 rw [hm] at hR hgl hend hGI hs hok hno hsg hsh
 obtain ⟨g, hg⟩ : ∃ g, (bs.drop k).take (m + 1) = g := ⟨_, rfl⟩
 rw [hg] at hgl hGI hok hno hsg hsh
 clear hg hm
 have HSG := Lib.hid hsg
 have HR := Lib.hid hR
 have HOK := Lib.hid hok
 have HNO := Lib.hid hno
 have HGI := Lib.hid hGI
 have HSL := Lib.hid hsl
 have HGL := Lib.hid hgl
 have HEND := Lib.hid hend
 have HD := Lib.hid (valL_drop g)
 have HV := Lib.hid (fun k (h : g.length ≤ 9) => valL_lt' g k h)
 clear hsg hR hok hno hGI hsl hend hr
 obtain ⟨l, hL⟩ : ∃ l, bs.length = l := ⟨_, rfl⟩
 rw [hL] at hl hk hs HSL ⊢
 have HI := Lib.hid hI
 have HL := Lib.hid hL
 have HA0 := Lib.hid hA0
 clear hL hI hA0
 have b0 : (k : Int) ≤ (l : Int) := by omega
 have b1 : (0 : Int) ≤ (k : Int) := by omega
 have b2 : (m : Int) + (k : Int) < (l : Int) := by omega
 have HN9 := Lib.hid (okL_long (g := g))
 have HOE := Lib.hid (okL_else hsh)
 have HOZ := Lib.hid (okL_zero (g := g))
 clear hsh hgl
 go_enter Tryz.func188, Tryz.ntmps188
 go_wp2
 go_loop [7] (fun i => ∃ j : Nat, j ≤ m ∧ i = .int .i64 ((k + j : Nat) : Int)) (fun i => l - (intOf i).toNat)
 case atStart => exact ⟨0, Nat.zero_le _, rfl⟩
 case round =>
  obtain ⟨j, hj, rfl⟩ := hrel
  obtain ⟨q, hq⟩ : ∃ q, k + j = q := ⟨_, rfl⟩
  rw [hq]
  obtain ⟨ad, rfl, hcell⟩ := HI.out.at_ q (by rw [HL.out]; omega)
  have c1 : (q : Int) < (l : Int) := by omega
  have c0 : (0 : Int) ≤ (q : Int) := by omega
  have hb3 := bi_lt (bs.getD q 0)
  by_cases hlt : j < m
  ·have hb := HR.out.2 j hlt
   rw [hq] at hb
   have hb2 : (127 : Int) < bi (bs.getD q 0) := by unfold bi; omega
   generalize bi (bs.getD q 0) = x at *
   have hb4 := hb3.2
   have HQ := Lib.hid hq
   clear hb hq hb3
   go_wp2
   go_round
   case rel => exact ⟨j + 1, by omega, by rw [show k + (j + 1) = q + 1 from by have := HQ.out; omega]; go_num⟩
   case measure => simp [intOf]; omega
  ·obtain rfl : j = m := by omega
   have hb := HEND.out
   rw [hq] at hb
   have hb2 : bi (bs.getD q 0) ≤ (127 : Int) := by unfold bi; omega
   generalize bi (bs.getD q 0) = x at *
   have hb4 := hb3.1
   have HQ := Lib.hid hq
   have d0 : ((q : Int) == (l : Int)) = false := beq_eq_false_iff_ne.2 (by omega)
   have d1 : (q : Int) - (k : Int) = (j : Int) := by omega
   by_cases h9 : 8 < j
   ·have d2 : (8 : Int) < (j : Int) := by omega
    have hbad := HN9.out (by rw [HGL.out]; omega)
    obtain ⟨rfl, rfl, rfl⟩ := HNO.out hbad
    clear hb hq hb3 hbad
    go_wp2
    go_ret3
    exact ⟨rfl, Below.refl _ _⟩
   ·have d2 : (j : Int) ≤ 8 := by omega
    clear hb hq hb3
    go_wp2
    have H0 := Lib.hid (show valL (g.drop (j + 1)) = 0 by rw [List.drop_of_length_le (by have := HGL.out; omega)]; rfl)
    clear hcell d0 d1 d2 hb2 hb4
    go_loop [8, 9] (fun n i => ∃ p : Nat, p ≤ j + 1 ∧ i = .int .i64 (((k + p : Nat) : Int) - 1) ∧ n = .int .i64 ((valL (g.drop p) : Nat) : Int)) (fun _ i => (intOf i + 1 - k).toNat)
    case atStart =>
     refine ⟨j + 1, Nat.le_refl _, ?_, ?_⟩
     ·congr 1; have := HQ.out; omega
     ·rw [H0.out]; rfl
    case round =>
     obtain ⟨p, hp, rfl, rfl⟩ := hrel
     by_cases hlt : 0 < p
     ·obtain ⟨p, rfl⟩ : ∃ p', p = p' + 1 := ⟨p - 1, by omega⟩
      obtain ⟨r, hr⟩ : ∃ r, k + p = r := ⟨_, rfl⟩
      rw [show ((k + (p + 1) : Nat) : Int) - 1 = (r : Int) from by omega]
      obtain ⟨ad', e, hcell⟩ := HI.out.at_ r (by rw [HL.out]; omega)
      injection e with e
      subst e
      have hgp := HGI.out p (by omega)
      rw [hr] at hgp
      have hv := HV.out (p + 1) (by rw [HGL.out]; omega) (by omega)
      have hstep := valL_step (valL (g.drop (p + 1))) (g.getD p 0).toNat hv
      have hd := Lib.hid (HD.out p (by rw [HGL.out]; omega))
      rw [hgp] at hstep hd
      generalize valL (g.drop (p + 1)) = z at *
      have hx : bi (bs.getD r 0) = ((bs.getD r 0).toNat : Int) := by unfold bi; rfl
      rw [hx] at hcell
      have hxl := (bs.getD r 0).toNat_lt
      generalize (bs.getD r 0).toNat = y at *
      have hand := uand127 y (by omega)
      have e1 : (0 : Int) ≤ (r : Int) := by omega
      have e2 : (r : Int) < (l : Int) := by omega
      have e3 : (0 : Int) ≤ (z : Int) := by omega
      have e4 : (z : Int) * 128 ≤ 9223372036854775807 := by omega
      have e5 : (0 : Int) ≤ (y : Int) := by omega
      have e6 : (y : Int) ≤ 255 := by omega
      have e7 : (k : Int) ≤ (r : Int) := by omega
      have HR2 := Lib.hid hr
      clear hx hgp hr
      go_wp2
      go_round
      case rel =>
       refine ⟨p, by omega, ?_, ?_⟩
       ·rw [HR2.out]
       ·rw [hd.out, show ((y % 128 + 128 * z : Nat) : Int) = (y : Int) % 128 + 128 * (z : Int) from by omega]
      case measure => simp [intOf]; omega
     ·obtain rfl : p = 0 := by omega
      rw [List.drop_zero]
      have e1 : ((k + 0 : Nat) : Int) - 1 < (k : Int) := by omega
      obtain ⟨kk, hkk⟩ : ∃ kk : Int, ((k + 0 : Nat) : Int) - 1 = kk := ⟨_, rfl⟩
      rw [hkk] at e1 ⊢
      clear hkk
      obtain ⟨vv, hvv⟩ : ∃ vv, valL g = vv := ⟨_, rfl⟩
      rw [hvv]
      by_cases hbig : 72057594037927936 < vv
      ·have hbad : okL g = false := by
        unfold okL
        rw [hvv, decide_eq_false (show ¬ vv ≤ 72057594037927936 by omega), Bool.and_false]
       obtain ⟨rfl, rfl, rfl⟩ := HNO.out hbad
       clear hbad hvv
       go_wp2_with fail
       refine (rput_err _ _ (Or.inr (by omega))).mono ?_
       rintro e w' ⟨rfl, rfl⟩
       go_wp2
       go_ret3
       exact ⟨rfl, Below.refl _ _⟩
      ·have HVV := Lib.hid hvv
       clear hvv
       go_wp2_with fail
       refine (rput_any vv _ (by omega)).mono ?_
       rintro e w1 ⟨v1, rfl, ho1, hb1⟩
       have HO1 := Lib.hid ho1.sl
       have HB1 := Lib.hid hb1
       clear ho1 hb1
       have f1 : (k : Int) ≤ (q : Int) + 1 := by have := HQ.out; omega
       have f2 : q + 1 - k = j + 1 := by have := HQ.out; omega
       have f3 : ¬ cp = k := by omega
       have f4 : (q : Int) + 1 ≤ (cp : Int) := by omega
       have hs2 : Sl w1 (.slice (some (ad.add k)) (j + 1) (cp - k)) g := by
        refine ⟨some (ad.add k), cp - k, ?_, by rw [HGL.out]; have := HQ.out; omega, by unfold maxLen; omega, HSG.out.below HB1.out, fun e => by cases e⟩
        rw [HGL.out]
       have HS2 := Lib.hid hs2
       obtain ⟨t, ht⟩ : ∃ t, (putL vv == g) = t := ⟨_, rfl⟩
       have hoe : okL g = t := by
        unfold okL
        rw [HVV.out, ht, decide_eq_true (show vv ≤ 72057594037927936 by omega), Bool.and_true]
       have HT := Lib.hid ht
       have HOE := Lib.hid hoe
       clear hs2 ht hoe
       go_wp2_with fail
       refine (bytes_any v1 _ (putL vv) g _ HO1.out HS2.out t HT.out).mono ?_
       rintro e w2 ⟨rfl, rfl⟩
       clear f1 f2 f3 f4
       cases t with
       | true =>
        obtain ⟨h1, h2, h3⟩ := HOK.out HOE.out
        rw [HVV.out] at h1
        have HH1 := Lib.hid h1
        have HH2 := Lib.hid h2
        subst h3
        clear h1 h2
        have f5 : (q : Int) + 1 ≤ 9223372036854775807 := by omega
        go_wp2
        go_ret3
        refine ⟨?_, HB1.out⟩
        rw [← HH1.out, ← HH2.out]
        rw [show (k : Int) + ((j : Int) + 1) = (q : Int) + 1 from by have := HQ.out; omega]
        rfl
       | false =>
        obtain ⟨rfl, rfl, rfl⟩ := HNO.out HOE.out
        go_wp2
        go_ret3
        exact ⟨rfl, HB1.out⟩
theorem rget_any (v : Value) (bs : List UInt8) (i a b c : Int) (w : World) (h : Sl w v bs) (hr : getR bs i = (a, b, c)) :
  Calls Tryz.prog 188 #[v, .int .i64 i] w fun e w' => e = .returned (.tuple #[.int .i64 a, .int .i64 b, .int .i64 c]) ∧ Below w.heap.size w w' := by
 obtain ⟨A, cp, rfl, hl, hcm, hI, hA⟩ := h
 by_cases h0 : i < 0
 ·obtain ⟨rfl, rfl, rfl⟩ : 0 = a ∧ 0 = b ∧ 1 = c := by rw [getR_range (Or.inl h0)] at hr; injection hr with h1 h2; injection h2 with h2 h3; exact ⟨h1, h2, h3⟩
  clear hr hI hA
  unfold maxLen at hcm
  generalize bs.length = l at *
  go_enter Tryz.func188, Tryz.ntmps188
  go_wp2
  go_ret3
  exact ⟨rfl, Below.refl _ _⟩
 ·by_cases h1 : (bs.length : Int) < i
  ·obtain ⟨rfl, rfl, rfl⟩ : 0 = a ∧ 0 = b ∧ 1 = c := by rw [getR_range (Or.inr h1)] at hr; injection hr with h1 h2; injection h2 with h2 h3; exact ⟨h1, h2, h3⟩
   clear hr hI hA
   unfold maxLen at hcm
   have h0' : 0 ≤ i := by omega
   generalize bs.length = l at *
   clear h0
   go_enter Tryz.func188, Tryz.ntmps188
   go_wp2
   go_ret3
   exact ⟨rfl, Below.refl _ _⟩
  ·obtain ⟨k, rfl⟩ := Int.eq_ofNat_of_zero_le (show 0 ≤ i by omega)
   have hk : k ≤ bs.length := by omega
   by_cases hs : cont (bs.drop k) = (bs.drop k).length
   ·obtain ⟨rfl, rfl, rfl⟩ : 0 = a ∧ 0 = b ∧ 2 = c := by rw [getR_short hk hs] at hr; injection hr with h1 h2; injection h2 with h2 h3; exact ⟨h1, h2, h3⟩
    exact (rget_short A cp bs k w hI hl hcm hk hs).mono fun _ _ ⟨he, hw⟩ => ⟨he, by subst hw; exact Below.refl _ _⟩
   ·exact rget_in A cp bs k w hI hA hl hcm hk (by have := cont_le (bs.drop k); omega) a b c hr
end Go.Proofs.YtpfjlhpahmhkhaaGreat.Sh
/- obj: mayBlob, mayTree, mayCommit, May. -/
namespace Go.Proofs.YtpfjlhpahmhkhaaGreat.Ob
open Go.RowKit Go.Proofs.YtpfjlhpahmhkhaaGreat.Sh
open Go.Proofs.YtpfjlhpahmhkhaaGreat.Tx (OwnV SlV sv bl nameB reads_at texts_at toList_ne')
def objK (k : Int) : ObM := ⟨k, [], [], [], [], 0, 0, []⟩
theorem objK_v (k : Int) (w : World) : ObV w (.agg #[.int .i64 k, .slice none 0 0, .slice none 0 0, .string ⟨#[]⟩, .slice none 0 0, .int .i64 0, .int .i64 0, .string ⟨#[]⟩]) (objK k) :=
 ⟨_, _, _, rfl, Sl.nil_ w, SlI.nil_ w, Tx.SlV.nil_ w⟩
def blobB (o : ObM) : Bool := decide (o.data.length ≤ 20000) && sameB { o with data := [] } (objK 1)
def treeB (o : ObM) : Bool := itemsB o.items && sameB { o with items := [] } (objK 2)
def commB (o : ObM) : Bool := decide (o.data.length = 0) && decide (o.items.length = 0) && validB o.tree && parB o.parents && decide (0 ≤ o.stamp) && decide (o.stamp ≤ 1099511627776) && decide (0 ≤ o.author) && decide (o.author ≤ 255) && msgB o.msg
def mayB (o : ObM) : Bool := if o.kind = 1 then blobB o else if o.kind = 2 then treeB o else if o.kind = 3 then commB o else false
set_option maxRecDepth 100000 in
set_option maxHeartbeats 1600000 in
theorem mayBlob_any (v : Value) (o : ObM) (w : World) (h : ObV w v o) : Calls Tryz.prog 255 #[v] w (BoolPost w (blobB o)) := by
 obtain ⟨d, it, ps, rfl, hd, hi, hp⟩ := h
 obtain ⟨k, D, I, T, P, st, au, ms⟩ := o
 replace hd : Sl w d D := hd
 replace hi : SlI w it I := hi
 replace hp : Tx.SlV w ps ((P.map str).map Tx.sv) := hp
 have HD := Lib.hid hd
 have HI := Lib.hid hi
 have HP := Lib.hid hp
 obtain ⟨A, c, rfl, hlc, hcm, _⟩ := hd
 obtain ⟨A2, c2, rfl, hlc2, hcm2, _⟩ := hi
 obtain ⟨A3, c3, rfl, hlc3, hcm3, _⟩ := hp
 unfold maxLen at hcm hcm2 hcm3
 simp only [List.length_map] at hlc3 HP ⊢
 obtain ⟨l, hl⟩ : ∃ l, D.length = l := ⟨_, rfl⟩
 obtain ⟨l2, hl2⟩ : ∃ l, I.length = l := ⟨_, rfl⟩
 obtain ⟨l3, hl3⟩ : ∃ l, P.length = l := ⟨_, rfl⟩
 rw [hl] at hlc HD ⊢
 rw [hl2] at hlc2 HI ⊢
 rw [hl3] at hlc3 HP ⊢
 have HL := Lib.hid hl
 have HL2 := Lib.hid hl2
 clear hl hl2 hl3
 have HB1 : Hid (Below w.heap.size w (w.alloc (.cells #[.int .i64 k, .slice A l c, .slice A2 l2 c2, .string (str T), .slice A3 l3 c3, .int .i64 st, .int .i64 au, .string (str ms)] 183))) := (Below.refl _ _).alloc (Nat.le_refl _) _
 have HB2 : Hid (Below w.heap.size w ((w.alloc (.cells #[.int .i64 k, .slice A l c, .slice A2 l2 c2, .string (str T), .slice A3 l3 c3, .int .i64 st, .int .i64 au, .string (str ms)] 183)).alloc (.cells #[.int .i64 k, .slice none 0 0, .slice A2 l2 c2, .string (str T), .slice A3 l3 c3, .int .i64 st, .int .i64 au, .string (str ms)] 183))) := HB1.out.alloc (by simp) _
 by_cases hc : l ≤ 20000
 ·have hB : blobB ⟨k, D, I, T, P, st, au, ms⟩ = sameB ⟨k, [], I, T, P, st, au, ms⟩ (objK 1) := by
   unfold blobB
   rw [HL.out]
   simp [hc]
  rw [hB]
  have hc' : (l : Int) ≤ 20000 := by omega
  clear hB
  go_enter Tryz.func255, Tryz.ntmps255
  go_wp2_with fail
  refine (same_any _ _ ⟨k, [], I, T, P, st, au, ms⟩ (objK 1) ((w.alloc (.cells #[.int .i64 k, .slice A l c, .slice A2 l2 c2, .string (str T), .slice A3 l3 c3, .int .i64 st, .int .i64 au, .string (str ms)] 183)).alloc (.cells #[.int .i64 k, .slice none 0 0, .slice A2 l2 c2, .string (str T), .slice A3 l3 c3, .int .i64 st, .int .i64 au, .string (str ms)] 183)) ⟨_, _, _, rfl, Sl.nil_ _, HI.out.below HB2.out, HP.out.below HB2.out⟩ (objK_v 1 _)).mono ?_
  rintro e w3 ⟨rfl, hb3⟩
  have H3 := Lib.hid (Below.after HB2.out hb3)
  clear hb3
  go_wp2_with fail
  go_ret
  exact ⟨rfl, H3.out⟩
 ·have hB : blobB ⟨k, D, I, T, P, st, au, ms⟩ = false := by
   unfold blobB
   rw [HL.out]
   simp [hc]
  rw [hB]
  have hc' : (20000 : Int) < (l : Int) := by omega
  clear hB
  go_enter Tryz.func255, Tryz.ntmps255
  go_wp2_with fail
  go_ret
  exact ⟨rfl, HB2.out⟩
set_option maxRecDepth 100000 in
set_option maxHeartbeats 1600000 in
theorem mayTree_any (v : Value) (o : ObM) (w : World) (h : ObV w v o) : Calls Tryz.prog 256 #[v] w (BoolPost w (treeB o)) := by
 obtain ⟨d, it, ps, rfl, hd, hi, hp⟩ := h
 obtain ⟨k, D, I, T, P, st, au, ms⟩ := o
 replace hd : Sl w d D := hd
 replace hi : SlI w it I := hi
 replace hp : Tx.SlV w ps ((P.map str).map Tx.sv) := hp
 have HD := Lib.hid hd
 have HI := Lib.hid hi
 have HP := Lib.hid hp
 obtain ⟨A, c, rfl, hlc, hcm, _⟩ := hd
 obtain ⟨A2, c2, rfl, hlc2, hcm2, _⟩ := hi
 obtain ⟨A3, c3, rfl, hlc3, hcm3, _⟩ := hp
 unfold maxLen at hcm hcm2 hcm3
 simp only [List.length_map] at hlc3 HP ⊢
 obtain ⟨l, hl⟩ : ∃ l, D.length = l := ⟨_, rfl⟩
 obtain ⟨l2, hl2⟩ : ∃ l, I.length = l := ⟨_, rfl⟩
 obtain ⟨l3, hl3⟩ : ∃ l, P.length = l := ⟨_, rfl⟩
 rw [hl] at hlc HD ⊢
 rw [hl2] at hlc2 HI ⊢
 rw [hl3] at hlc3 HP ⊢
 have HL := Lib.hid hl
 have HL2 := Lib.hid hl2
 clear hl hl2 hl3
 have HB1 : Hid (Below w.heap.size w (w.alloc (.cells #[.int .i64 k, .slice A l c, .slice A2 l2 c2, .string (str T), .slice A3 l3 c3, .int .i64 st, .int .i64 au, .string (str ms)] 183))) := (Below.refl _ _).alloc (Nat.le_refl _) _
 have HB2 : Hid (Below w.heap.size w ((w.alloc (.cells #[.int .i64 k, .slice A l c, .slice A2 l2 c2, .string (str T), .slice A3 l3 c3, .int .i64 st, .int .i64 au, .string (str ms)] 183)).alloc (.cells #[.int .i64 k, .slice A l c, .slice none 0 0, .string (str T), .slice A3 l3 c3, .int .i64 st, .int .i64 au, .string (str ms)] 183))) := HB1.out.alloc (by simp) _
 obtain ⟨b, hb⟩ : ∃ b, itemsB I = b := ⟨_, rfl⟩
 have HBI := Lib.hid hb
 clear hb
 have HK : Hid (Blk ((w.alloc (.cells #[.int .i64 k, .slice A l c, .slice A2 l2 c2, .string (str T), .slice A3 l3 c3, .int .i64 st, .int .i64 au, .string (str ms)] 183)).alloc (.cells #[.int .i64 k, .slice A l c, .slice none 0 0, .string (str T), .slice A3 l3 c3, .int .i64 st, .int .i64 au, .string (str ms)] 183)) (w.heap.size + 1) 183 #[.int .i64 k, .slice A l c, .slice none 0 0, .string (str T), .slice A3 l3 c3, .int .i64 st, .int .i64 au, .string (str ms)]) := by
  unfold Hid
  rw [show w.heap.size + 1 = (w.alloc (.cells #[.int .i64 k, .slice A l c, .slice A2 l2 c2, .string (str T), .slice A3 l3 c3, .int .i64 st, .int .i64 au, .string (str ms)] 183)).heap.size from by simp]
  exact Blk.new _ _ _
 go_enter Tryz.func256, Tryz.ntmps256
 go_wp2_with fail
 refine (items_any _ I ((w.alloc (.cells #[.int .i64 k, .slice A l c, .slice A2 l2 c2, .string (str T), .slice A3 l3 c3, .int .i64 st, .int .i64 au, .string (str ms)] 183)).alloc (.cells #[.int .i64 k, .slice A l c, .slice none 0 0, .string (str T), .slice A3 l3 c3, .int .i64 st, .int .i64 au, .string (str ms)] 183)) (HI.out.below HB2.out)).mono ?_
 rw [HBI.out]
 rintro e w3 ⟨rfl, hb3⟩
 have H3 := Lib.hid (Below.after HB2.out hb3)
 have HK3 := Lib.hid (HK.out.below hb3 HK.out.lt)
 clear hb3
 cases b with
 | false =>
  have hB : treeB ⟨k, D, I, T, P, st, au, ms⟩ = false := by
   unfold treeB
   rw [HBI.out]
   rfl
  have HBB := Lib.hid hB
  clear hB
  go_wp2_with fail
  go_ret
  exact ⟨by rw [HBB.out]; rfl, H3.out⟩
 | true =>
  have hB : treeB ⟨k, D, I, T, P, st, au, ms⟩ = sameB ⟨k, D, [], T, P, st, au, ms⟩ (objK 2) := by
   unfold treeB
   rw [HBI.out]
   rfl
  have HBB := Lib.hid hB
  clear hB
  obtain ⟨x0, x1, x2, x3, x4, x5, x6, x7⟩ := box_cells HK3.out
  go_wp2_with fail
  clear x0 x1 x2 x3 x4 x5 x6 x7
  refine (same_any _ _ ⟨k, D, [], T, P, st, au, ms⟩ (objK 2) w3 ⟨_, _, _, rfl, HD.out.below H3.out, SlI.nil_ _, HP.out.below H3.out⟩ (objK_v 2 _)).mono ?_
  rintro e w4 ⟨rfl, hb4⟩
  have H4 := Lib.hid (Below.after H3.out hb4)
  clear hb4
  go_wp2_with fail
  go_ret
  exact ⟨by rw [HBB.out]; rfl, H4.out⟩
set_option maxRecDepth 100000 in
set_option maxHeartbeats 1600000 in
theorem mayCommit_any (v : Value) (o : ObM) (w : World) (h : ObV w v o) : Calls Tryz.prog 257 #[v] w (BoolPost w (commB o)) := by
 obtain ⟨d, it, ps, rfl, hd, hi, hp⟩ := h
 obtain ⟨k, D, I, T, P, st, au, ms⟩ := o
 replace hd : Sl w d D := hd
 replace hi : SlI w it I := hi
 replace hp : Tx.SlV w ps ((P.map str).map Tx.sv) := hp
 have HD := Lib.hid hd
 have HI := Lib.hid hi
 have HP := Lib.hid hp
 obtain ⟨A, c, rfl, hlc, hcm, _⟩ := hd
 obtain ⟨A2, c2, rfl, hlc2, hcm2, _⟩ := hi
 obtain ⟨A3, c3, rfl, hlc3, hcm3, _⟩ := hp
 unfold maxLen at hcm hcm2 hcm3
 simp only [List.length_map] at hlc3 HP ⊢
 obtain ⟨l, hl⟩ : ∃ l, D.length = l := ⟨_, rfl⟩
 obtain ⟨l2, hl2⟩ : ∃ l, I.length = l := ⟨_, rfl⟩
 obtain ⟨l3, hl3⟩ : ∃ l, P.length = l := ⟨_, rfl⟩
 rw [hl] at hlc HD ⊢
 rw [hl2] at hlc2 HI ⊢
 rw [hl3] at hlc3 HP ⊢
 have HL := Lib.hid hl
 have HL2 := Lib.hid hl2
 clear hl hl2 hl3
 have HB1 : Hid (Below w.heap.size w (w.alloc (.cells #[.int .i64 k, .slice A l c, .slice A2 l2 c2, .string (str T), .slice A3 l3 c3, .int .i64 st, .int .i64 au, .string (str ms)] 183))) := (Below.refl _ _).alloc (Nat.le_refl _) _
 by_cases h : l = 0
 ·have hT0 := Lib.hid h
  clear h
  by_cases h : l2 = 0
  ·have hT1 := Lib.hid h
   clear h
   by_cases h : validB T = true
   ·have hT2 := Lib.hid h
    clear h
    by_cases h : parB P = true
    ·have hT3 := Lib.hid h
     clear h
     by_cases h : 0 ≤ st
     ·have hT4 := Lib.hid h
      clear h
      by_cases h : st ≤ 1099511627776
      ·have hT5 := Lib.hid h
       clear h
       by_cases h : 0 ≤ au
       ·have hT6 := Lib.hid h
        clear h
        by_cases h : au ≤ 255
        ·have hT7 := Lib.hid h
         clear h
         by_cases h : msgB ms = true
         ·have hT8 := Lib.hid h
          clear h
          have hB : commB ⟨k, D, I, T, P, st, au, ms⟩ = true := by
           unfold commB
           rw [HL.out, HL2.out]
           simp [hT0.out, hT1.out, hT2.out, hT3.out, hT4.out, hT5.out, hT6.out, hT7.out, hT8.out]
          rw [hB]
          clear hB
          have z0 : ((l : Int) == 0) = true := by simp; have := hT0.out; omega
          have z1 : ((l2 : Int) == 0) = true := by simp; have := hT1.out; omega
          have y4 := hT4.out
          have y5 := hT5.out
          have y6 := hT6.out
          have y7 := hT7.out
          go_enter Tryz.func257, Tryz.ntmps257
          go_wp2_with fail
          refine (valid_all T _).mono ?_
          rw [hT2.out]
          rintro e w' ⟨rfl, rfl⟩
          go_wp2_with fail
          refine (par_any _ P _ (HP.out.below HB1.out)).mono ?_
          rw [hT3.out]
          rintro e w' ⟨rfl, rfl⟩
          go_wp2_with fail
          refine (msg_any ms _).mono ?_
          rw [hT8.out]
          rintro e w' ⟨rfl, rfl⟩
          go_wp2_with fail
          go_ret
          exact ⟨rfl, HB1.out⟩
         ·have hT8 := Lib.hid h
          clear h
          have F8 : Hid (msgB ms = false) := by unfold Hid; simpa using hT8.out
          have hB : commB ⟨k, D, I, T, P, st, au, ms⟩ = false := by
           unfold commB
           rw [HL.out, HL2.out]
           simp [hT0.out, hT1.out, hT2.out, hT3.out, hT4.out, hT5.out, hT6.out, hT7.out, hT8.out]
          rw [hB]
          clear hB
          have z0 : ((l : Int) == 0) = true := by simp; have := hT0.out; omega
          have z1 : ((l2 : Int) == 0) = true := by simp; have := hT1.out; omega
          have y4 := hT4.out
          have y5 := hT5.out
          have y6 := hT6.out
          have y7 := hT7.out
          go_enter Tryz.func257, Tryz.ntmps257
          go_wp2_with fail
          refine (valid_all T _).mono ?_
          rw [hT2.out]
          rintro e w' ⟨rfl, rfl⟩
          go_wp2_with fail
          refine (par_any _ P _ (HP.out.below HB1.out)).mono ?_
          rw [hT3.out]
          rintro e w' ⟨rfl, rfl⟩
          go_wp2_with fail
          refine (msg_any ms _).mono ?_
          rw [F8.out]
          rintro e w' ⟨rfl, rfl⟩
          go_wp2_with fail
          go_ret
          exact ⟨rfl, HB1.out⟩
        ·have hT7 := Lib.hid h
         clear h
         have hB : commB ⟨k, D, I, T, P, st, au, ms⟩ = false := by
          unfold commB
          rw [HL.out, HL2.out]
          simp [hT0.out, hT1.out, hT2.out, hT3.out, hT4.out, hT5.out, hT6.out, hT7.out]
         rw [hB]
         clear hB
         have z0 : ((l : Int) == 0) = true := by simp; have := hT0.out; omega
         have z1 : ((l2 : Int) == 0) = true := by simp; have := hT1.out; omega
         have y4 := hT4.out
         have y5 := hT5.out
         have y6 := hT6.out
         have n7 : 255 < au := by have := hT7.out; omega
         go_enter Tryz.func257, Tryz.ntmps257
         go_wp2_with fail
         refine (valid_all T _).mono ?_
         rw [hT2.out]
         rintro e w' ⟨rfl, rfl⟩
         go_wp2_with fail
         refine (par_any _ P _ (HP.out.below HB1.out)).mono ?_
         rw [hT3.out]
         rintro e w' ⟨rfl, rfl⟩
         go_wp2_with fail
         go_ret
         exact ⟨rfl, HB1.out⟩
       ·have hT6 := Lib.hid h
        clear h
        have hB : commB ⟨k, D, I, T, P, st, au, ms⟩ = false := by
         unfold commB
         rw [HL.out, HL2.out]
         simp [hT0.out, hT1.out, hT2.out, hT3.out, hT4.out, hT5.out, hT6.out]
        rw [hB]
        clear hB
        have z0 : ((l : Int) == 0) = true := by simp; have := hT0.out; omega
        have z1 : ((l2 : Int) == 0) = true := by simp; have := hT1.out; omega
        have y4 := hT4.out
        have y5 := hT5.out
        have n6 : au < 0 := by have := hT6.out; omega
        go_enter Tryz.func257, Tryz.ntmps257
        go_wp2_with fail
        refine (valid_all T _).mono ?_
        rw [hT2.out]
        rintro e w' ⟨rfl, rfl⟩
        go_wp2_with fail
        refine (par_any _ P _ (HP.out.below HB1.out)).mono ?_
        rw [hT3.out]
        rintro e w' ⟨rfl, rfl⟩
        go_wp2_with fail
        go_ret
        exact ⟨rfl, HB1.out⟩
      ·have hT5 := Lib.hid h
       clear h
       have hB : commB ⟨k, D, I, T, P, st, au, ms⟩ = false := by
        unfold commB
        rw [HL.out, HL2.out]
        simp [hT0.out, hT1.out, hT2.out, hT3.out, hT4.out, hT5.out]
       rw [hB]
       clear hB
       have z0 : ((l : Int) == 0) = true := by simp; have := hT0.out; omega
       have z1 : ((l2 : Int) == 0) = true := by simp; have := hT1.out; omega
       have y4 := hT4.out
       have n5 : 1099511627776 < st := by have := hT5.out; omega
       go_enter Tryz.func257, Tryz.ntmps257
       go_wp2_with fail
       refine (valid_all T _).mono ?_
       rw [hT2.out]
       rintro e w' ⟨rfl, rfl⟩
       go_wp2_with fail
       refine (par_any _ P _ (HP.out.below HB1.out)).mono ?_
       rw [hT3.out]
       rintro e w' ⟨rfl, rfl⟩
       go_wp2_with fail
       go_ret
       exact ⟨rfl, HB1.out⟩
     ·have hT4 := Lib.hid h
      clear h
      have hB : commB ⟨k, D, I, T, P, st, au, ms⟩ = false := by
       unfold commB
       rw [HL.out, HL2.out]
       simp [hT0.out, hT1.out, hT2.out, hT3.out, hT4.out]
      rw [hB]
      clear hB
      have z0 : ((l : Int) == 0) = true := by simp; have := hT0.out; omega
      have z1 : ((l2 : Int) == 0) = true := by simp; have := hT1.out; omega
      have n4 : st < 0 := by have := hT4.out; omega
      go_enter Tryz.func257, Tryz.ntmps257
      go_wp2_with fail
      refine (valid_all T _).mono ?_
      rw [hT2.out]
      rintro e w' ⟨rfl, rfl⟩
      go_wp2_with fail
      refine (par_any _ P _ (HP.out.below HB1.out)).mono ?_
      rw [hT3.out]
      rintro e w' ⟨rfl, rfl⟩
      go_wp2_with fail
      go_ret
      exact ⟨rfl, HB1.out⟩
    ·have hT3 := Lib.hid h
     clear h
     have F3 : Hid (parB P = false) := by unfold Hid; simpa using hT3.out
     have hB : commB ⟨k, D, I, T, P, st, au, ms⟩ = false := by
      unfold commB
      rw [HL.out, HL2.out]
      simp [hT0.out, hT1.out, hT2.out, hT3.out]
     rw [hB]
     clear hB
     have z0 : ((l : Int) == 0) = true := by simp; have := hT0.out; omega
     have z1 : ((l2 : Int) == 0) = true := by simp; have := hT1.out; omega
     go_enter Tryz.func257, Tryz.ntmps257
     go_wp2_with fail
     refine (valid_all T _).mono ?_
     rw [hT2.out]
     rintro e w' ⟨rfl, rfl⟩
     go_wp2_with fail
     refine (par_any _ P _ (HP.out.below HB1.out)).mono ?_
     rw [F3.out]
     rintro e w' ⟨rfl, rfl⟩
     go_wp2_with fail
     go_ret
     exact ⟨rfl, HB1.out⟩
   ·have hT2 := Lib.hid h
    clear h
    have F2 : Hid (validB T = false) := by unfold Hid; simpa using hT2.out
    have hB : commB ⟨k, D, I, T, P, st, au, ms⟩ = false := by
     unfold commB
     rw [HL.out, HL2.out]
     simp [hT0.out, hT1.out, hT2.out]
    rw [hB]
    clear hB
    have z0 : ((l : Int) == 0) = true := by simp; have := hT0.out; omega
    have z1 : ((l2 : Int) == 0) = true := by simp; have := hT1.out; omega
    go_enter Tryz.func257, Tryz.ntmps257
    go_wp2_with fail
    refine (valid_all T _).mono ?_
    rw [F2.out]
    rintro e w' ⟨rfl, rfl⟩
    go_wp2_with fail
    go_ret
    exact ⟨rfl, HB1.out⟩
  ·have hT1 := Lib.hid h
   clear h
   have hB : commB ⟨k, D, I, T, P, st, au, ms⟩ = false := by
    unfold commB
    rw [HL.out, HL2.out]
    simp [hT0.out, hT1.out]
   rw [hB]
   clear hB
   have z0 : ((l : Int) == 0) = true := by simp; have := hT0.out; omega
   have z1 : ((l2 : Int) == 0) = false := by simp; have := hT1.out; omega
   go_enter Tryz.func257, Tryz.ntmps257
   go_wp2_with fail
   go_ret
   exact ⟨rfl, HB1.out⟩
 ·have hT0 := Lib.hid h
  clear h
  have hB : commB ⟨k, D, I, T, P, st, au, ms⟩ = false := by
   unfold commB
   rw [HL.out, HL2.out]
   simp [hT0.out]
  rw [hB]
  clear hB
  have z0 : ((l : Int) == 0) = false := by simp; have := hT0.out; omega
  go_enter Tryz.func257, Tryz.ntmps257
  go_wp2_with fail
  go_ret
  exact ⟨rfl, HB1.out⟩
set_option maxRecDepth 100000 in
set_option maxHeartbeats 1600000 in
theorem may_any (v : Value) (o : ObM) (w : World) (h : ObV w v o) : Calls Tryz.prog 191 #[v] w (BoolPost w (mayB o)) := by
 obtain ⟨d, it, ps, rfl, hd, hi, hp⟩ := h
 obtain ⟨k, D, I, T, P, st, au, ms⟩ := o
 replace hd : Sl w d D := hd
 replace hi : SlI w it I := hi
 replace hp : Tx.SlV w ps ((P.map str).map Tx.sv) := hp
 have HD := Lib.hid hd
 have HI := Lib.hid hi
 have HP := Lib.hid hp
 obtain ⟨A, c, rfl, hlc, hcm, _⟩ := hd
 obtain ⟨A2, c2, rfl, hlc2, hcm2, _⟩ := hi
 obtain ⟨A3, c3, rfl, hlc3, hcm3, _⟩ := hp
 unfold maxLen at hcm hcm2 hcm3
 simp only [List.length_map] at hlc3 HP ⊢
 obtain ⟨l, hl⟩ : ∃ l, D.length = l := ⟨_, rfl⟩
 obtain ⟨l2, hl2⟩ : ∃ l, I.length = l := ⟨_, rfl⟩
 obtain ⟨l3, hl3⟩ : ∃ l, P.length = l := ⟨_, rfl⟩
 rw [hl] at hlc HD ⊢
 rw [hl2] at hlc2 HI ⊢
 rw [hl3] at hlc3 HP ⊢
 have HL := Lib.hid hl
 have HL2 := Lib.hid hl2
 clear hl hl2 hl3
 have HB1 : Hid (Below w.heap.size w (w.alloc (.cells #[.int .i64 k, .slice A l c, .slice A2 l2 c2, .string (str T), .slice A3 l3 c3, .int .i64 st, .int .i64 au, .string (str ms)] 183))) := (Below.refl _ _).alloc (Nat.le_refl _) _
 have HV : Hid (ObV (w.alloc (.cells #[.int .i64 k, .slice A l c, .slice A2 l2 c2, .string (str T), .slice A3 l3 c3, .int .i64 st, .int .i64 au, .string (str ms)] 183)) (.agg #[.int .i64 k, .slice A l c, .slice A2 l2 c2, .string (str T), .slice A3 l3 c3, .int .i64 st, .int .i64 au, .string (str ms)]) ⟨k, D, I, T, P, st, au, ms⟩) := ⟨_, _, _, rfl, HD.out.below HB1.out, HI.out.below HB1.out, HP.out.below HB1.out⟩
 by_cases h0 : k = 1
 ·have e0 : (k == 1) = true := beq_iff_eq.2 h0
  have hB : mayB ⟨k, D, I, T, P, st, au, ms⟩ = blobB ⟨k, D, I, T, P, st, au, ms⟩ := by unfold mayB; simp [h0]
  rw [hB]
  clear hB h0
  go_enter Tryz.func191, Tryz.ntmps191
  go_wp2_with fail
  refine (mayBlob_any _ _ _ HV.out).mono ?_
  rintro e w3 ⟨rfl, hb3⟩
  have H3 := Lib.hid (Below.after HB1.out hb3)
  clear hb3
  go_wp2_with fail
  go_ret
  exact ⟨rfl, H3.out⟩
 ·have e0 : (k == 1) = false := beq_eq_false_iff_ne.2 h0
  by_cases h1 : k = 2
  ·have e1 : (k == 2) = true := beq_iff_eq.2 h1
   have hB : mayB ⟨k, D, I, T, P, st, au, ms⟩ = treeB ⟨k, D, I, T, P, st, au, ms⟩ := by unfold mayB; simp [h1]
   rw [hB]
   clear hB h1
   go_enter Tryz.func191, Tryz.ntmps191
   go_wp2_with fail
   refine (mayTree_any _ _ _ HV.out).mono ?_
   rintro e w3 ⟨rfl, hb3⟩
   have H3 := Lib.hid (Below.after HB1.out hb3)
   clear hb3
   go_wp2_with fail
   go_ret
   exact ⟨rfl, H3.out⟩
  ·have e1 : (k == 2) = false := beq_eq_false_iff_ne.2 h1
   by_cases h2 : k = 3
   ·have e2 : (k == 3) = true := beq_iff_eq.2 h2
    have hB : mayB ⟨k, D, I, T, P, st, au, ms⟩ = commB ⟨k, D, I, T, P, st, au, ms⟩ := by unfold mayB; simp [h2]
    rw [hB]
    clear hB h2
    go_enter Tryz.func191, Tryz.ntmps191
    go_wp2_with fail
    refine (mayCommit_any _ _ _ HV.out).mono ?_
    rintro e w3 ⟨rfl, hb3⟩
    have H3 := Lib.hid (Below.after HB1.out hb3)
    clear hb3
    go_wp2_with fail
    go_ret
    exact ⟨rfl, H3.out⟩
   ·have e2 : (k == 3) = false := beq_eq_false_iff_ne.2 h2
    have hB : mayB ⟨k, D, I, T, P, st, au, ms⟩ = false := by unfold mayB; simp [h0, h1, h2]
    rw [hB]
    clear hB h0 h1 h2
    go_enter Tryz.func191, Tryz.ntmps191
    go_wp2_with fail
    go_ret
    exact ⟨rfl, HB1.out⟩
end Go.Proofs.YtpfjlhpahmhkhaaGreat.Ob
