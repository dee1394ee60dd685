/- Texts put together: VRo4, VRo5, VRo6, VOb15, VRo7. -/
import Derived.Test.YtpfjlhpahmhkhaaGreatQv18
import Derived.Test.YtpfjlhpahmhkhaaGreatQv20
import Derived.Test.YtpfjlhpahmhkhaaGreatQv25
import Derived.Test.YtpfjlhpahmhkhaaGreatQv19
import Derived.Deep.CutBlock
import Derived.Deep.DeepCutAuto
import Derived.Test.YtpfjlhpahmhkhaaGreatQv21
/- The document's num, raw; marlaw6.Plain. -/
namespace Go.Proofs.YtpfjlhpahmhkhaaGreat.Ob
open Go.RowKit Go.Proofs.YtpfjlhpahmhkhaaGreat.Sh
open Go.Proofs.YtpfjlhpahmhkhaaGreat.Tx (OwnV SlV sv bl nameB reads_at texts_at toList_ne')
set_option maxRecDepth 100000 in
set_option maxHeartbeats 400000 in
theorem num_any (n : Nat) (w : World) (hn : n ≤ 72057594037927936) : Calls Tryz.prog 271 #[.int .i64 (n : Int)] w (OwnPost w (putL n)) := by
 go_enter Tryz.func271, Tryz.ntmps271
 go_wp2_with fail
 refine (rput_any n w hn).mono ?_
 rintro e w1 ⟨u, rfl, hu, hb⟩
 have HU := Lib.hid hu
 have HB := Lib.hid hb
 clear hu hb
 go_wp2_with fail
 go_ret
 exact ⟨u, rfl, HU.out, HB.out⟩
set_option maxRecDepth 100000 in
set_option maxHeartbeats 400000 in
theorem raw_any (id : List UInt8) (w : World) (hn : validB id = true) : Calls Tryz.prog 272 #[.string (str id)] w (OwnPost w (unhexL id)) := by
 have hv := Lib.hid (validB_len hn)
 go_enter Tryz.func272, Tryz.ntmps272
 go_wp2_with fail
 refine (runhex_yes id w hv.out.2 (by have := hv.out.1; omega)).mono ?_
 rintro e w1 ⟨u, rfl, hu, hb⟩
 have HU := Lib.hid hu
 have HB := Lib.hid hb
 clear hu hb
 go_wp2_with fail
 go_ret
 exact ⟨u, rfl, HU.out, HB.out⟩
theorem info_item6 : (Tryz.prog.info? 300).map (fun i => (i.zero, i.size, i.bytes)) = some (some (.agg #[.int .i64 0, .string ⟨#[]⟩, .string ⟨#[]⟩]), 3, 40) := by kernel_rfl
theorem item_reads (w : World) (T : TypeId) (x : ItM) : Reads (w.alloc (.cells #[.int .i64 x.1, .string (str x.2.1), .string (str x.2.2)] T)) (w.heap.size + 1) 3 (some ⟨w.heap.size, 0, none⟩) 1 ([x].flatMap itC) := by
 refine ⟨rfl, fun _ => ⟨_, rfl, by simp, fun j v hv => ?_⟩⟩
 rw [Addr.add_mid, cell_of_row _ _ _ _ T (0, 0) (heap_alloc_new w _), Nat.zero_add, ← hv]
 simp [itC]
def ObjIs (w : World) (o : ObM) (e : Ending) (w' : World) : Prop := ∃ v, e = .returned v ∧ ObV w' v o ∧ Below w.heap.size w w'
end Go.Proofs.YtpfjlhpahmhkhaaGreat.Ob
/- The document's Same; marref.Texts of any two lists. -/
namespace Go.Proofs.YtpfjlhpahmhkhaaGreat.Ob
open Go.RowKit Go.Proofs.YtpfjlhpahmhkhaaGreat.Sh
open Go.Proofs.YtpfjlhpahmhkhaaGreat.Tx (OwnV SlV sv bl nameB reads_at texts_at toList_ne')
end Go.Proofs.YtpfjlhpahmhkhaaGreat.Ob
/- The document's May. -/
namespace Go.Proofs.YtpfjlhpahmhkhaaGreat.Ob
open Go.RowKit Go.Proofs.YtpfjlhpahmhkhaaGreat.Sh
open Go.Proofs.YtpfjlhpahmhkhaaGreat.Tx (OwnV SlV sv bl nameB reads_at texts_at toList_ne')
structure TOk (o : ObM) : Prop where
 tree : o.tree.length ≤ 140737488351232
 pars : ∀ x ∈ o.parents, x.length ≤ 140737488351232
 ids : ∀ x ∈ o.items, x.2.2.length ≤ 140737488351232
 msg : o.msg.length ≤ 140737488351232
 data : o.data.length ≤ 1000000000
 items : o.items.length ≤ 1000000000
def comB (o : ObM) : Bool := !(o.tree == []) || (decide (0 < o.parents.length) || (!(o.stamp == 0) || (!(o.author == 0) || !(o.msg == []))))
theorem obm_iff (o : ObM) (k : Int) : o = objK k ↔ o.kind = k ∧ o.data = [] ∧ o.items = [] ∧ o.tree = [] ∧ o.parents = [] ∧ o.stamp = 0 ∧ o.author = 0 ∧ o.msg = [] := by
 constructor
 ·intro h; subst h; exact ⟨rfl, rfl, rfl, rfl, rfl, rfl, rfl, rfl⟩
 ·rintro ⟨h1, h2, h3, h4, h5, h6, h7, h8⟩
  exact obm_eq h1 h2 h3 h4 h5 h6 h7 h8
theorem comB_no (o : ObM) : comB o = false ↔ o.tree = [] ∧ o.parents = [] ∧ o.stamp = 0 ∧ o.author = 0 ∧ o.msg = [] := by
 unfold comB
 simp only [Bool.or_eq_false_iff, Bool.not_eq_false', beq_iff_eq, decide_eq_false_iff_not, Nat.not_lt, Nat.le_zero, List.length_eq_zero_iff]
theorem blobB_eq {o : ObM} (h : o.kind = 1) : blobB o = (decide (o.data.length ≤ 20000) && (decide (o.items.length = 0) && !comB o)) := by
 unfold blobB
 rw [Bool.eq_iff_iff]
 simp only [Bool.and_eq_true, decide_eq_true_eq, sameB_iff, obm_iff, Bool.not_eq_true', comB_no, List.length_eq_zero_iff]
 constructor
 ·rintro ⟨h1, _, _, h3, h4, h5, h6, h7, h8⟩; exact ⟨h1, h3, h4, h5, h6, h7, h8⟩
 ·rintro ⟨h1, h3, h4, h5, h6, h7, h8⟩; exact ⟨h1, h, trivial, h3, h4, h5, h6, h7, h8⟩
theorem treeB_eq {o : ObM} (h : o.kind = 2) : treeB o = (decide (o.data.length = 0) && (itemsB o.items && !comB o)) := by
 unfold treeB
 rw [Bool.eq_iff_iff]
 simp only [Bool.and_eq_true, decide_eq_true_eq, sameB_iff, obm_iff, Bool.not_eq_true', comB_no, List.length_eq_zero_iff]
 constructor
 ·rintro ⟨h1, _, h2, _, h4, h5, h6, h7, h8⟩; exact ⟨h2, h1, h4, h5, h6, h7, h8⟩
 ·rintro ⟨h2, h1, h4, h5, h6, h7, h8⟩; exact ⟨h1, h, h2, trivial, h4, h5, h6, h7, h8⟩
set_option maxRecDepth 100000 in
set_option maxHeartbeats 12800000 in
theorem rmay_any (v : Value) (o : ObM) (w : World) (h : ObV w v o) (hs : TOk o) : Calls Tryz.prog 270 #[v] w (BoolPost w (mayB o)) := by
 obtain ⟨d, it, ps, rfl, hd, hi, hp⟩ := h
 obtain ⟨k0, D, I, T, P, st, au, ms⟩ := o
 replace hd : Sl w d D := hd
 replace hi : SlI w it I := hi
 replace hp : Tx.SlV w ps ((P.map str).map Tx.sv) := hp
 have HI := Lib.hid hi
 have HP := Lib.hid hp
 have HTO := Lib.hid hs
 obtain ⟨A, c, rfl, hlc, hcm, _⟩ := hd
 obtain ⟨A2, c2, rfl, hlc2, hcm2, _⟩ := hi
 obtain ⟨A3, c3, rfl, hlc3, hcm3, _⟩ := hp
 unfold maxLen at hcm hcm2 hcm3
 simp only [List.length_map] at hlc3 HP ⊢
 obtain ⟨l, hl⟩ : ∃ l, D.length = l := ⟨_, rfl⟩
 obtain ⟨l2, hl2⟩ : ∃ l, I.length = l := ⟨_, rfl⟩
 obtain ⟨l3, hl3⟩ : ∃ l, P.length = l := ⟨_, rfl⟩
 rw [hl] at hlc ⊢
 rw [hl2] at hlc2 HI ⊢
 rw [hl3] at hlc3 HP ⊢
 have HL := Lib.hid hl
 have HL2 := Lib.hid hl2
 have HL3 := Lib.hid hl3
 clear hl hl2 hl3 hs
 obtain ⟨t, ht⟩ : ∃ t, mayB ⟨k0, D, I, T, P, st, au, ms⟩ = t := ⟨_, rfl⟩
 rw [ht]
 have HT := Lib.hid ht
 clear ht
 obtain ⟨cm, hcm9⟩ : ∃ t, comB ⟨k0, D, I, T, P, st, au, ms⟩ = t := ⟨_, rfl⟩
 have HC := Lib.hid hcm9
 clear hcm9
 have HCV : Hid (comB ⟨k0, D, I, T, P, st, au, ms⟩ = (!(T == []) || (decide (0 < l3) || (!(st == 0) || (!(au == 0) || !(ms == [])))))) := by unfold Hid comB; rw [HL3.out]
 have HB1 : Hid (Below w.heap.size w (w.alloc (.cells #[.int .i64 k0, .slice A l c, .slice A2 l2 c2, .string (str T), .slice A3 l3 c3, .int .i64 st, .int .i64 au, .string (str ms)] 199))) := (Below.refl _ _).alloc (Nat.le_refl _) _
 have HK1 : Hid (Blk (w.alloc (.cells #[.int .i64 k0, .slice A l c, .slice A2 l2 c2, .string (str T), .slice A3 l3 c3, .int .i64 st, .int .i64 au, .string (str ms)] 199)) w.heap.size 199 #[.int .i64 k0, .slice A l c, .slice A2 l2 c2, .string (str T), .slice A3 l3 c3, .int .i64 st, .int .i64 au, .string (str ms)]) := Blk.new _ _ _
 go_enter Tryz.func270, Tryz.ntmps270
 go_upto_region 1 with (fail)
 obtain ⟨wz, hwz⟩ : ∃ W, W = (w.alloc (.cells #[.int .i64 k0, .slice A l c, .slice A2 l2 c2, .string (str T), .slice A3 l3 c3, .int .i64 st, .int .i64 au, .string (str ms)] 199)) := ⟨_, rfl⟩
 rw [← hwz] at HB1 HK1 ⊢
 clear hwz
 go_cut [3] (fun x wx => x = .bool cm ∧ wx = wz)
 case first =>
  obtain ⟨x0, x1, x2, x3, x4, x5, x6, x7⟩ := box_cells HK1.out
  have hTl := str_toList T
  have hml := str_toList ms
  by_cases h1 : T = []
  ·have e1 : ((str T).toList == []) = true := by rw [hTl, h1]; rfl
   have e1' : (str T).toList.isEmpty = true := by rw [hTl, h1]; rfl
   by_cases h2 : 0 < l3
   ·have hc : cm = true := by rw [← HC.out, HCV.out]; simp [h2]
    have e2 : decide ((0 : Int) < (l3 : Int)) = true := by simp; omega
    have e2' : decide (0 < l3) = true := by simp; omega
    subst hc
    clear h1 hTl hml
    go_wp2_with fail
    go_meet
    exact ⟨rfl, rfl⟩
   ·have e2 : decide ((0 : Int) < (l3 : Int)) = false := by simp; omega
    have e2' : decide (0 < l3) = false := by simp; omega
    by_cases h3 : st = 0
    ·by_cases h4 : au = 0
     ·by_cases h5 : ms = []
      ·have hc : cm = false := by rw [← HC.out, HCV.out]; simp [h1, h2, h3, h4, h5]
       have e5 : ((str ms).toList == []) = true := by rw [hml, h5]; rfl
       have e5' : (str ms).toList.isEmpty = true := by rw [hml, h5]; rfl
       subst hc
       subst h3 h4
       clear h1 h2 h5 hTl hml
       go_wp2_with fail
       go_meet
       exact ⟨rfl, rfl⟩
      ·have hc : cm = true := by rw [← HC.out, HCV.out]; simp [h5]
       have e5 : ((str ms).toList == []) = false := by rw [hml]; cases ms with | nil => exact absurd rfl h5 | cons a b => rfl
       have e5' : (str ms).toList.isEmpty = false := by rw [hml]; cases ms with | nil => exact absurd rfl h5 | cons a b => rfl
       subst hc
       subst h3 h4
       clear h1 h2 h5 hTl hml
       go_wp2_with fail
       go_meet
       exact ⟨rfl, rfl⟩
     ·have hc : cm = true := by rw [← HC.out, HCV.out]; simp [h4]
      have e4 : (au != 0) = true := by simpa using h4
      subst hc
      subst h3
      clear h1 h2 hTl hml
      go_wp2_with fail
      go_meet
      exact ⟨rfl, rfl⟩
    ·have hc : cm = true := by rw [← HC.out, HCV.out]; simp [h3]
     have e3 : (st != 0) = true := by simpa using h3
     subst hc
     clear h1 h2 hTl hml
     go_wp2_with fail
     go_meet
     exact ⟨rfl, rfl⟩
  ·have hc : cm = true := by rw [← HC.out, HCV.out]; simp [h1]
   have e1 : ((str T).toList == []) = false := by rw [hTl]; cases T with | nil => exact absurd rfl h1 | cons a b => rfl
   have e1' : (str T).toList.isEmpty = false := by rw [hTl]; cases T with | nil => exact absurd rfl h1 | cons a b => rfl
   subst hc
   clear h1 hTl hml
   go_wp2_with fail
   go_meet
   exact ⟨rfl, rfl⟩
 case rest =>
  obtain ⟨rfl, rfl⟩ := hcut
  by_cases hk1 : k0 = 1
  ·subst hk1
   have HM : Hid (t = (decide (l ≤ 20000) && (decide (l2 = 0) && !cm))) := by
    unfold Hid
    rw [← HT.out, ← HC.out, ← HL.out, ← HL2.out]
    show mayB ⟨1, D, I, T, P, st, au, ms⟩ = _
    unfold mayB
    rw [if_pos rfl]
    exact blobB_eq rfl
   obtain ⟨x0, x1, x2, x3, x4, x5, x6, x7⟩ := box_cells HK1.out
   by_cases h1 : l ≤ 20000
   ·have g1 : decide ((l : Int) ≤ 20000) = true := by simp; omega
    by_cases h2 : l2 = 0
    ·have g2 : ((l2 : Int) == 0) = true := by simp; omega
     have htt : t = !cm := by rw [HM.out]; simp [h1, h2]
     subst htt
     clear h1 h2
     go_wp2_with fail
     go_ret
     exact ⟨rfl, HB1.out⟩
    ·have g2 : ((l2 : Int) == 0) = false := by simp; omega
     have htt : t = false := by rw [HM.out]; simp [h2]
     subst htt
     clear h1 h2
     go_wp2_with fail
     go_ret
     exact ⟨rfl, HB1.out⟩
   ·have g1 : decide ((l : Int) ≤ 20000) = false := by simp; omega
    have htt : t = false := by rw [HM.out]; simp [h1]
    subst htt
    clear h1
    go_wp2_with fail
    go_ret
    exact ⟨rfl, HB1.out⟩
  ·have n1 : (k0 == 1) = false := by simpa using hk1
   by_cases hk2 : k0 = 2
   ·subst hk2
    have HM : Hid (t = (decide (l = 0) && (itemsB I && !cm))) := by
     unfold Hid
     rw [← HT.out, ← HC.out, ← HL.out]
     show mayB ⟨2, D, I, T, P, st, au, ms⟩ = _
     unfold mayB
     rw [if_neg (show ¬ ((2 : Int) = 1) from by decide), if_pos rfl]
     exact treeB_eq rfl
    obtain ⟨x0, x1, x2, x3, x4, x5, x6, x7⟩ := box_cells HK1.out
    by_cases h1 : l = 0
    ·have g1 : ((l : Int) == 0) = true := by simp; omega
     obtain ⟨r, hr⟩ : ∃ r, itemsB I = r := ⟨_, rfl⟩
     have HR := Lib.hid hr
     have htt : t = (r && !cm) := by rw [HM.out, hr]; simp [h1]
     clear hr h1
     go_wp2_with fail
     clear x0 x1 x2 x3 x4 x5 x6 x7
     refine (ritems_any6 _ I _ (HI.out.below HB1.out) HTO.out.ids).mono ?_
     rw [HR.out]
     rintro e w3 ⟨rfl, hb3⟩
     have HB3 := Lib.hid (Below.after HB1.out hb3)
     clear hb3
     cases r with
     | false =>
      subst htt
      go_wp2_with fail
      go_ret
      exact ⟨rfl, HB3.out⟩
     | true =>
      subst htt
      go_wp2_with fail
      go_ret
      exact ⟨rfl, HB3.out⟩
    ·have g1 : ((l : Int) == 0) = false := by simp; omega
     have htt : t = false := by rw [HM.out]; simp [h1]
     subst htt
     clear h1
     go_wp2_with fail
     go_ret
     exact ⟨rfl, HB1.out⟩
   ·have n2 : (k0 == 2) = false := by simpa using hk2
    by_cases hk3 : k0 = 3
    ·subst hk3
     clear hk1 hk2 n1 n2
     have HM : Hid (t = commB ⟨3, D, I, T, P, st, au, ms⟩) := by
      unfold Hid
      rw [← HT.out]
      unfold mayB
      rw [if_neg (show ¬ ((3 : Int) = 1) from by decide), if_neg (show ¬ ((3 : Int) = 2) from by decide), if_pos rfl]
     have HCM : Hid (commB ⟨3, D, I, T, P, st, au, ms⟩ = (decide (l = 0) && decide (l2 = 0) && validB T && (decide (l3 ≤ 2) && (validsB P && risesB P)) && decide (0 ≤ st) && decide (st ≤ 1099511627776) && decide (0 ≤ au) && decide (au ≤ 255) && msgB ms)) := by
      unfold Hid commB
      rw [← HL.out, ← HL2.out, ← HL3.out, parB_eq]
     obtain ⟨x0, x1, x2, x3, x4, x5, x6, x7⟩ := box_cells HK1.out
     have s0 : IntKind.i64.wrap ((l : Int) + (l2 : Int)) = (l : Int) + (l2 : Int) ∨ True := .inr trivial
     clear s0
     by_cases h1 : l = 0 ∧ l2 = 0
     ·obtain ⟨h1a, h1b⟩ := h1
      have z0 := Lib.hid h1a
      have z1 := Lib.hid h1b
      have g0 : (l : Int) = 0 := by omega
      have g1 : (l2 : Int) = 0 := by omega
      have g2 : IntKind.i64.wrap ((l : Int) + (l2 : Int)) = 0 := by rw [g0, g1]; rfl
      clear h1a h1b
      obtain ⟨r1, hr1⟩ : ∃ r, validB T = r := ⟨_, rfl⟩
      have R1 := Lib.hid hr1
      clear hr1
      go_wp2_with fail
      clear x0 x1 x2 x3 x4 x5 x6 x7
      refine (rvalid_all T _ HTO.out.tree).mono ?_
      rw [R1.out]
      rintro e w3 ⟨rfl, hb3⟩
      have HB3 := Lib.hid (Below.after HB1.out hb3)
      have HK3 := Lib.hid (HK1.out.below hb3 HK1.out.lt)
      clear hb3
      obtain ⟨x0, x1, x2, x3, x4, x5, x6, x7⟩ := box_cells HK3.out
      cases r1 with
      | false =>
       have htt : t = false := by rw [HM.out, HCM.out]; simp [R1.out]
       subst htt
       go_wp2_with fail
       go_ret
       exact ⟨rfl, HB3.out⟩
      | true =>
       by_cases h3 : l3 ≤ 2
       ·have g3 : decide ((l3 : Int) ≤ 2) = true := by simp; omega
        have z3 := Lib.hid h3
        clear h3
        obtain ⟨r2, hr2⟩ : ∃ r, validsB P = r := ⟨_, rfl⟩
        have R2 := Lib.hid hr2
        clear hr2
        go_wp2_with fail
        clear x0 x1 x2 x3 x4 x5 x6 x7
        refine (rvalids_any _ P _ (HP.out.below HB3.out) HTO.out.pars).mono ?_
        rw [R2.out]
        rintro e w4 ⟨rfl, hb4⟩
        have HB4 := Lib.hid (Below.after HB3.out hb4)
        have HK4 := Lib.hid (HK3.out.below hb4 HK3.out.lt)
        clear hb4
        obtain ⟨x0, x1, x2, x3, x4, x5, x6, x7⟩ := box_cells HK4.out
        cases r2 with
        | false =>
         have htt : t = false := by rw [HM.out, HCM.out]; simp [R2.out]
         subst htt
         go_wp2_with fail
         go_ret
         exact ⟨rfl, HB4.out⟩
        | true =>
         obtain ⟨r3, hr3⟩ : ∃ r, risesB P = r := ⟨_, rfl⟩
         have R3 := Lib.hid hr3
         clear hr3
         go_wp2_with fail
         clear x0 x1 x2 x3 x4 x5 x6 x7
         refine (rrises_any _ P _ (HP.out.below HB4.out)).mono ?_
         rw [R3.out]
         rintro e w5 ⟨rfl, hb5⟩
         have HB5 := Lib.hid (Below.after HB4.out hb5)
         have HK5 := Lib.hid (HK4.out.below hb5 HK4.out.lt)
         clear hb5
         obtain ⟨x0, x1, x2, x3, x4, x5, x6, x7⟩ := box_cells HK5.out
         cases r3 with
         | false =>
          have htt : t = false := by rw [HM.out, HCM.out]; simp [R3.out]
          subst htt
          go_wp2_with fail
          go_ret
          exact ⟨rfl, HB5.out⟩
         | true =>
          by_cases h4 : 0 ≤ st
          ·have g4 : decide (0 ≤ st) = true := by simpa using h4
           have Zh4 := Lib.hid h4
           clear h4
           by_cases h5 : st ≤ 1099511627776
           ·have g5 : decide (st ≤ 1099511627776) = true := by simpa using h5
            have Zh5 := Lib.hid h5
            clear h5
            by_cases h6 : 0 ≤ au
            ·have g6 : decide (0 ≤ au) = true := by simpa using h6
             have Zh6 := Lib.hid h6
             clear h6
             by_cases h7 : au ≤ 255
             ·have g7 : decide (au ≤ 255) = true := by simpa using h7
              have Zh7 := Lib.hid h7
              clear h7
              obtain ⟨r4, hr4⟩ : ∃ r, msgB ms = r := ⟨_, rfl⟩
              have R4 := Lib.hid hr4
              clear hr4
              go_wp2_with fail
              clear x0 x1 x2 x3 x4 x5 x6 x7
              refine (rmsg_any ms _ HTO.out.msg).mono ?_
              rw [R4.out]
              rintro e w9 ⟨rfl, rfl⟩
              obtain ⟨x0, x1, x2, x3, x4, x5, x6, x7⟩ := box_cells HK5.out
              cases r4 with
              | false =>
               have htt : t = false := by rw [HM.out, HCM.out]; simp [R4.out]
               subst htt
               go_wp2_with fail
               go_ret
               exact ⟨rfl, HB5.out⟩
              | true =>
               have htt : t = true := by
                rw [HM.out, HCM.out]
                have := z3.out
                simp [z0.out, z1.out, R1.out, R2.out, R3.out, R4.out, Zh4.out, Zh5.out, Zh6.out, Zh7.out, this]
               subst htt
               go_wp2_with fail
               go_ret
               exact ⟨rfl, HB5.out⟩
             ·have g7 : decide (au ≤ 255) = false := by simpa using h7
              have htt : t = false := by rw [HM.out, HCM.out]; simp [h7]
              subst htt
              clear h7
              go_wp2_with fail
              go_ret
              exact ⟨rfl, HB5.out⟩
            ·have g6 : decide (0 ≤ au) = false := by simpa using h6
             have htt : t = false := by rw [HM.out, HCM.out]; simp [h6]
             subst htt
             clear h6
             go_wp2_with fail
             go_ret
             exact ⟨rfl, HB5.out⟩
           ·have g5 : decide (st ≤ 1099511627776) = false := by simpa using h5
            have htt : t = false := by rw [HM.out, HCM.out]; simp [h5]
            subst htt
            clear h5
            go_wp2_with fail
            go_ret
            exact ⟨rfl, HB5.out⟩
          ·have g4 : decide (0 ≤ st) = false := by simpa using h4
           have htt : t = false := by rw [HM.out, HCM.out]; simp [h4]
           subst htt
           clear h4
           go_wp2_with fail
           go_ret
           exact ⟨rfl, HB5.out⟩
       ·have g3 : decide ((l3 : Int) ≤ 2) = false := by simp; omega
        have htt : t = false := by rw [HM.out, HCM.out]; simp [h3]
        subst htt
        clear h3
        go_wp2_with fail
        go_ret
        exact ⟨rfl, HB3.out⟩
     ·have k1 : l ≤ 1000000000 := by have := HTO.out.data; rw [← HL.out]; exact this
      have k2 : l2 ≤ 1000000000 := by have := HTO.out.items; rw [← HL2.out]; exact this
      have g2 : IntKind.i64.wrap ((l : Int) + (l2 : Int)) = (l : Int) + (l2 : Int) := by rw [IntKind.wrap_i64]; omega
      have g3 : ((l : Int) + (l2 : Int) == 0) = false := by simp; omega
      have htt : t = false := by
       rw [HM.out, HCM.out]
       have : (decide (l = 0) && decide (l2 = 0)) = false := by simp; omega
       rw [this]
       simp
      subst htt
      clear h1
      go_wp2_with fail
      go_ret
      exact ⟨rfl, HB1.out⟩
    ·have n3 : (k0 == 3) = false := by simpa using hk3
     have htt : t = false := by
      rw [← HT.out]
      unfold mayB
      rw [if_neg hk1, if_neg hk2, if_neg hk3]
     subst htt
     obtain ⟨x0, x1, x2, x3, x4, x5, x6, x7⟩ := box_cells HK1.out
     clear hk1 hk2 hk3
     go_wp2_with fail
     go_ret
     exact ⟨rfl, HB1.out⟩
end Go.Proofs.YtpfjlhpahmhkhaaGreat.Ob
/- obj: Refs. -/
namespace Go.Proofs.YtpfjlhpahmhkhaaGreat.Ob
open Go.RowKit Go.Proofs.YtpfjlhpahmhkhaaGreat.Sh
open Go.Proofs.YtpfjlhpahmhkhaaGreat.Tx (OwnV SlV sv bl nameB reads_at texts_at toList_ne')
def refsL (o : ObM) : List (List UInt8) := if o.kind = 2 then o.items.map (·.2.2) else if o.kind = 3 then o.tree :: o.parents else []
def RefsPost (w : World) (o : ObM) (e : Ending) (w' : World) : Prop := ∃ v, e = .returned v ∧ Tx.OwnV 9 w' w.heap.size v (((refsL o).map str).map Tx.sv) ∧ Below w.heap.size w w'
end Go.Proofs.YtpfjlhpahmhkhaaGreat.Ob
/- The document's Refs. -/
namespace Go.Proofs.YtpfjlhpahmhkhaaGreat.Ob
open Go.RowKit Go.Proofs.YtpfjlhpahmhkhaaGreat.Sh
open Go.Proofs.YtpfjlhpahmhkhaaGreat.Tx (OwnV SlV sv bl nameB reads_at texts_at toList_ne')
end Go.Proofs.YtpfjlhpahmhkhaaGreat.Ob
