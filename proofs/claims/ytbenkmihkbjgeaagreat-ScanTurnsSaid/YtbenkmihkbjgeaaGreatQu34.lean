/- Texts put together: UOb4, UOb5, UOb6. -/
import Derived.Test.YtbenkmihkbjgeaaGreatQu33
/- obj: Same. -/
namespace Go.Proofs.YtbenkmihkbjgeaaGreat.Ob
open Go.RowKit Go.Proofs.YtbenkmihkbjgeaaGreat.Sh
open Go.Proofs.YtbenkmihkbjgeaaGreat.Tx (OwnV SlV sv bl nameB reads_at texts_at toList_ne')
def sameB (o p : ObM) : Bool := o.kind == p.kind && o.data == p.data && o.items == p.items && o.tree == p.tree && o.parents == p.parents && o.stamp == p.stamp && o.author == p.author && o.msg == p.msg
theorem sameB_iff {o p : ObM} : sameB o p = true ↔ o = p := by
 unfold sameB
 cases o; cases p
 simp [and_assoc]
theorem Below.after {w w1 w2 : World} (h : Below w.heap.size w w1) (h2 : Below w1.heap.size w1 w2) : Below w.heap.size w w2 := h.trans (h2.mono h.size)
theorem box_cells {w : World} {b : Nat} {T : TypeId} {c0 c1 c2 c3 c4 c5 c6 c7 : Value} (h : Blk w b T #[c0, c1, c2, c3, c4, c5, c6, c7]) :
  w.cell? ⟨b, 0, none⟩ = some c0 ∧ w.cell? ⟨b, 1, none⟩ = some c1 ∧ w.cell? ⟨b, 2, none⟩ = some c2 ∧ w.cell? ⟨b, 3, none⟩ = some c3 ∧ w.cell? ⟨b, 4, none⟩ = some c4 ∧ w.cell? ⟨b, 5, none⟩ = some c5 ∧ w.cell? ⟨b, 6, none⟩ = some c6 ∧ w.cell? ⟨b, 7, none⟩ = some c7 :=
 ⟨h.cell 0, h.cell 1, h.cell 2, h.cell 3, h.cell 4, h.cell 5, h.cell 6, h.cell 7⟩
set_option maxRecDepth 100000 in
set_option maxHeartbeats 1600000 in
theorem same_any (v v' : Value) (o p : ObM) (w : World) (h : ObV w v o) (h' : ObV w v' p) : Calls Tryz.prog 215 #[v, v'] w (BoolPost w (sameB o p)) := by
 obtain ⟨d, it, ps, rfl, hd, hi, hp⟩ := h
 obtain ⟨d', it', ps', rfl, hd', hi', hp'⟩ := h'
 obtain ⟨k0, D, I, t0, P, s0, a0, m0⟩ := o
 obtain ⟨k1, D', I', t1, P', s1, a1, m1⟩ := p
 have HD := Lib.hid hd
 have HI := Lib.hid hi
 have HP := Lib.hid hp
 have HD' := Lib.hid hd'
 have HI' := Lib.hid hi'
 have HP' := Lib.hid hp'
 clear hd hi hp hd' hi' hp'
 show Calls _ _ #[.agg #[.int .i64 k0, d, it, .string (str t0), ps, .int .i64 s0, .int .i64 a0, .string (str m0)], .agg #[.int .i64 k1, d', it', .string (str t1), ps', .int .i64 s1, .int .i64 a1, .string (str m1)]] _ _
 obtain ⟨b0, e0⟩ : ∃ b, (k0 == k1) = b := ⟨_, rfl⟩
 obtain ⟨b1, e1⟩ : ∃ b, (D == D') = b := ⟨_, rfl⟩
 obtain ⟨b2, e2⟩ : ∃ b, (I == I') = b := ⟨_, rfl⟩
 obtain ⟨b3, e3⟩ : ∃ b, ((str t0).toList == (str t1).toList) = b := ⟨_, rfl⟩
 obtain ⟨b4, e4⟩ : ∃ b, (P == P') = b := ⟨_, rfl⟩
 obtain ⟨b5, e5⟩ : ∃ b, (s0 == s1) = b := ⟨_, rfl⟩
 obtain ⟨b6, e6⟩ : ∃ b, (a0 == a1) = b := ⟨_, rfl⟩
 obtain ⟨b7, e7⟩ : ∃ b, ((str m0).toList == (str m1).toList) = b := ⟨_, rfl⟩
 have HS : Hid (sameB ⟨k0, D, I, t0, P, s0, a0, m0⟩ ⟨k1, D', I', t1, P', s1, a1, m1⟩ = (b0 && b1 && b2 && b3 && b4 && b5 && b6 && b7)) := by
  unfold Hid sameB
  rw [← e0, ← e1, ← e2, ← e3, ← e4, ← e5, ← e6, ← e7, str_toList, str_toList, str_toList, str_toList]
 have E1 := Lib.hid e1
 have E2 := Lib.hid e2
 have E4 := Lib.hid e4
 clear e1 e2 e4
 rw [HS.out]
 clear HS
 have hw1 : Below w.heap.size w ((w.alloc (.cells #[.int .i64 k0, d, it, .string (str t0), ps, .int .i64 s0, .int .i64 a0, .string (str m0)] 80)).alloc (.cells #[.int .i64 k1, d', it', .string (str t1), ps', .int .i64 s1, .int .i64 a1, .string (str m1)] 80)) :=
  ((Below.refl _ _).alloc (Nat.le_refl _) _).alloc (by simp) _
 have HW := Lib.hid hw1
 clear hw1
 cases b0 with
 | false =>
  go_enter Tryz.func215, Tryz.ntmps215
  go_wp2_with fail
  go_ret
  exact ⟨rfl, HW.out⟩
 | true =>
  go_enter Tryz.func215, Tryz.ntmps215
  go_wp2_with fail
  obtain ⟨W, hW⟩ : ∃ W, W = ((w.alloc (.cells #[.int .i64 k0, d, it, .string (str t0), ps, .int .i64 s0, .int .i64 a0, .string (str m0)] 80)).alloc (.cells #[.int .i64 k1, d', it', .string (str t1), ps', .int .i64 s1, .int .i64 a1, .string (str m1)] 80)) := ⟨_, rfl⟩
  rw [← hW]
  have HB1 : Hid (Blk W w.heap.size 80 #[.int .i64 k0, d, it, .string (str t0), ps, .int .i64 s0, .int .i64 a0, .string (str m0)]) := by
   unfold Hid
   rw [hW]
   exact (Blk.new w _ _).alloc _
  have HB2 : Hid (Blk W (w.heap.size + 1) 80 #[.int .i64 k1, d', it', .string (str t1), ps', .int .i64 s1, .int .i64 a1, .string (str m1)]) := by
   unfold Hid
   rw [hW, show w.heap.size + 1 = (w.alloc (.cells #[.int .i64 k0, d, it, .string (str t0), ps, .int .i64 s0, .int .i64 a0, .string (str m0)] 80)).heap.size from by simp]
   exact Blk.new _ _ _
  have HWW : Hid (Below w.heap.size w W) := by unfold Hid; rw [hW]; exact HW.out
  clear hW HW
  refine (eqb_any _ _ _ _ W (HD.out.below HWW.out) (HD'.out.below HWW.out)).mono ?_
  rw [E1.out]
  rintro e W3 ⟨rfl, hb3⟩
  have C3 := Lib.hid (Below.after HWW.out hb3)
  have A3 := Lib.hid (HB1.out.below hb3 HB1.out.lt)
  have B3 := Lib.hid (HB2.out.below hb3 HB2.out.lt)
  clear hb3
  cases b1 with
  | false =>
   go_wp2_with fail
   go_ret
   exact ⟨rfl, C3.out⟩
  | true =>
   obtain ⟨-, -, x2, x3, x4, x5, x6, x7⟩ := box_cells A3.out
   obtain ⟨-, -, y2, y3, y4, y5, y6, y7⟩ := box_cells B3.out
   go_wp2_with fail
   clear x2 x3 x4 x5 x6 x7 y2 y3 y4 y5 y6 y7
   refine (eqi_any _ _ _ _ W3 (HI.out.below C3.out) (HI'.out.below C3.out)).mono ?_
   rw [E2.out]
   rintro e W4 ⟨rfl, hb4⟩
   have C4 := Lib.hid (Below.after C3.out hb4)
   have A4 := Lib.hid (A3.out.below hb4 A3.out.lt)
   have B4 := Lib.hid (B3.out.below hb4 B3.out.lt)
   clear hb4
   cases b2 with
   | false =>
    go_wp2_with fail
    go_ret
    exact ⟨rfl, C4.out⟩
   | true =>
    obtain ⟨-, -, x2, x3, x4, x5, x6, x7⟩ := box_cells A4.out
    obtain ⟨-, -, y2, y3, y4, y5, y6, y7⟩ := box_cells B4.out
    cases b3 with
    | false =>
     go_wp2_with fail
     go_ret
     exact ⟨rfl, C4.out⟩
    | true =>
     go_wp2_with fail
     clear x2 x3 x4 x5 x6 x7 y2 y3 y4 y5 y6 y7
     refine (eqt_any _ _ _ _ W4 (HP.out.below C4.out) (HP'.out.below C4.out)).mono ?_
     rw [E4.out]
     rintro e W5 ⟨rfl, hb5⟩
     have C5 := Lib.hid (Below.after C4.out hb5)
     have A5 := Lib.hid (A4.out.below hb5 A4.out.lt)
     have B5 := Lib.hid (B4.out.below hb5 B4.out.lt)
     clear hb5
     obtain ⟨-, -, x2, x3, x4, x5, x6, x7⟩ := box_cells A5.out
     obtain ⟨-, -, y2, y3, y4, y5, y6, y7⟩ := box_cells B5.out
     cases b4 <;> cases b5 <;> cases b6 <;> cases b7 <;> (go_wp2_with fail; go_ret; exact ⟨rfl, C5.out⟩)
end Go.Proofs.YtbenkmihkbjgeaaGreat.Ob
/- obj: mayItems. -/
namespace Go.Proofs.YtbenkmihkbjgeaaGreat.Ob
open Go.RowKit Go.Proofs.YtbenkmihkbjgeaaGreat.Sh
open Go.Proofs.YtbenkmihkbjgeaaGreat.Tx (OwnV SlV sv bl nameB reads_at texts_at toList_ne')
def dI : ItM := (0, [], [])
def itB (x : ItM) : Bool := decide (1 ≤ x.1) && decide (x.1 ≤ 4) && nameB x.2.1 && validB x.2.2
def itemJ (l : List ItM) (j : Nat) : Bool := itB (l.getD j dI) && (decide (j = 0) || bl (l.getD (j - 1) dI).2.1 (l.getD j dI).2.1)
def itemsB (l : List ItM) : Bool := decide (l.length ≤ 256) && (List.range l.length).all (itemJ l)
set_option maxRecDepth 100000 in
set_option maxHeartbeats 1600000 in
theorem items_any (v : Value) (ls : List ItM) (w : World) (h : SlI w v ls) : Calls Tryz.prog 216 #[v] w (BoolPost w (itemsB ls)) := by
 obtain ⟨A, c, rfl, hlc, hcm, _, hR⟩ := h
 have HR := Lib.hid hR
 unfold maxLen at hcm
 obtain ⟨l, hL⟩ : ∃ l, ls.length = l := ⟨_, rfl⟩
 obtain ⟨t, ht⟩ : ∃ t, itemsB ls = t := ⟨_, rfl⟩
 rw [ht]
 unfold itemsB at ht
 rw [hL] at hlc ht ⊢
 have HL := Lib.hid hL
 have HT := Lib.hid ht
 clear hL ht hR
 by_cases h2 : 256 < l
 ·have htt : t = false := by
   rw [← HT.out]
   simp [show ¬ (l ≤ 256) from by omega]
  subst htt
  have l2 : (256 : Int) < (l : Int) := by omega
  clear h2
  go_enter Tryz.func216, Tryz.ntmps216
  go_wp2
  go_ret
  exact ⟨rfl, Below.refl _ _⟩
 ·have l2 : (l : Int) ≤ 256 := by omega
  have HN := Lib.hid h2
  clear h2
  go_enter Tryz.func216, Tryz.ntmps216
  go_wp2
  go_loopw [10] (fun i wr => ∃ k : Nat, k ≤ l ∧ i = .int .i64 k ∧ Below w.heap.size w wr ∧ (List.range k).all (itemJ ls) = true) (fun i _ => l - (intOf i).toNat)
  case atStart => exact ⟨0, by omega, rfl, Below.refl _ _, rfl⟩
  case round =>
   obtain ⟨k, hk, rfl, hb, hok⟩ := hrel
   have HB := Lib.hid hb
   have HOK := Lib.hid hok
   clear hb hok
   have k0 : (0 : Int) ≤ (k : Int) := by omega
   by_cases hlt : k < l
   ·have k1 : (k : Int) < (l : Int) := by omega
    have hkl : k < ls.length := by rw [HL.out]; exact hlt
    obtain ⟨x, hx⟩ : ∃ x, ls[k] = x := ⟨_, rfl⟩
    obtain ⟨ad, rfl, c0, c1, c2⟩ := items_at (HR.out.below HB.out) rfl k x (by rw [List.getElem?_eq_getElem hkl, hx])
    have HX : Hid (ls.getD k dI = x) := by unfold Hid; rw [List.getD_eq_getElem?_getD, List.getElem?_eq_getElem hkl, ← hx]; rfl
    clear hx hkl
    obtain ⟨m, nm, id⟩ := x
    replace c0 : wr.cell? (ad.add (k * 3)) = some (.int .i64 m) := c0
    replace c1 : wr.cell? ⟨(ad.add (k * 3)).block, (ad.add (k * 3)).off + 1, none⟩ = some (.string (str nm)) := c1
    replace c2 : wr.cell? ⟨(ad.add (k * 3)).block, (ad.add (k * 3)).off + 2, none⟩ = some (.string (str id)) := c2
    have HW : Hid (Below w.heap.size w (wr.alloc (.cells #[.int .i64 m, .string (str nm), .string (str id)] 237))) := HB.out.alloc HB.out.size _
    by_cases m1 : m < 1
    ·have htt : t = false := by
      rw [← HT.out, all_bad hlt (by unfold itemJ itB; rw [HX.out]; simp [show ¬ (1 ≤ m) from by omega])]
      simp
     subst htt
     go_wp2_with fail
     go_ret
     exact ⟨rfl, HW.out⟩
    ·have m1' : 1 ≤ m := by omega
     clear m1
     by_cases m2 : 4 < m
     ·have htt : t = false := by
       rw [← HT.out, all_bad hlt (by unfold itemJ itB; rw [HX.out]; simp [show ¬ (m ≤ 4) from by omega])]
       simp
      subst htt
      go_wp2_with fail
      go_ret
      exact ⟨rfl, HW.out⟩
     ·have m2' : m ≤ 4 := by omega
      clear m2
      obtain ⟨b, hb⟩ : ∃ b, nameB nm = b := ⟨_, rfl⟩
      have HBN := Lib.hid hb
      clear hb
      cases b with
      | false =>
       have htt : t = false := by
        rw [← HT.out, all_bad hlt (by unfold itemJ itB; rw [HX.out]; simp [HBN.out])]
        simp
       subst htt
       go_wp2_with fail
       refine (name_all nm _).mono ?_
       rw [HBN.out]
       rintro e w' ⟨rfl, rfl⟩
       go_wp2_with fail
       go_ret
       exact ⟨rfl, HW.out⟩
      | true =>
       obtain ⟨b, hb⟩ : ∃ b, validB id = b := ⟨_, rfl⟩
       have HBV := Lib.hid hb
       clear hb
       cases b with
       | false =>
        have htt : t = false := by
         rw [← HT.out, all_bad hlt (by unfold itemJ itB; rw [HX.out]; simp [HBV.out])]
         simp
        subst htt
        go_wp2_with fail
        refine (name_all nm _).mono ?_
        rw [HBN.out]
        rintro e w' ⟨rfl, rfl⟩
        go_wp2_with fail
        refine (valid_all id _).mono ?_
        rw [HBV.out]
        rintro e w' ⟨rfl, rfl⟩
        go_wp2_with fail
        go_ret
        exact ⟨rfl, HW.out⟩
       | true =>
        have HI : Hid (itB (m, nm, id) = true) := by
         unfold Hid itB
         simp [m1', m2', HBN.out, HBV.out]
        rcases Nat.eq_zero_or_pos k with h0 | h0
        ·have HO := Lib.hid (all_next HOK.out (show itemJ ls k = true from by unfold itemJ; rw [HX.out, HI.out]; simp [h0]))
         have kz : decide (0 < k) = false := by rw [h0]; rfl
         clear h0
         go_wp2_with fail
         refine (name_all nm _).mono ?_
         rw [HBN.out]
         rintro e w' ⟨rfl, rfl⟩
         go_wp2_with fail
         refine (valid_all id _).mono ?_
         rw [HBV.out]
         rintro e w' ⟨rfl, rfl⟩
         go_wp2_with fail
         go_quiet (fail)
         go_wp2_with fail
         go_roundw
         case rel => exact ⟨k + 1, by omega, by go_num, below_drewN HW.out _, HO.out⟩
         case measure => simp [intOf]; omega
        ·obtain ⟨j, hj⟩ : ∃ j, k = j + 1 := ⟨k - 1, by omega⟩
         have hkj : (k : Int) - 1 = (j : Int) := by omega
         have hwj : IntKind.i64.wrap ((k : Int) - 1) = (j : Int) := by rw [IntKind.wrap_i64]; omega
         have kp : (0 : Int) < (k : Int) := by omega
         have kd : decide (0 < k) = true := decide_eq_true h0
         have hjl : j < ls.length := by rw [HL.out]; omega
         obtain ⟨y, hy⟩ : ∃ y, ls[j] = y := ⟨_, rfl⟩
         obtain ⟨ad', had, d0, d1, d2⟩ := items_at (HR.out.below HW.out) rfl j y (by rw [List.getElem?_eq_getElem hjl, hy])
         injection had with had
         subst had
         have HY : Hid (ls.getD j dI = y) := by unfold Hid; rw [List.getD_eq_getElem?_getD, List.getElem?_eq_getElem hjl, ← hy]; rfl
         clear hy hjl d0 d2
         obtain ⟨y0, yn, yi⟩ := y
         replace d1 : (wr.alloc (.cells #[.int .i64 m, .string (str nm), .string (str id)] 237)).cell? ⟨(ad.add (j * 3)).block, (ad.add (j * 3)).off + 1, none⟩ = some (.string (str yn)) := d1
         obtain ⟨r, hr⟩ : ∃ r, Op.bytesLess (str yn).toList (str nm).toList = r := ⟨_, rfl⟩
         have hr' : bl yn nm = r := by rw [str_toList, str_toList] at hr; exact hr
         have j0 : (0 : Int) ≤ (j : Int) := by omega
         have j1 : (j : Int) < (l : Int) := by omega
         have hf : itemJ ls k = r := by
          unfold itemJ
          rw [HX.out, HI.out, show k - 1 = j from by omega, HY.out]
          simp [show k ≠ 0 from by omega, hr']
         have HF := Lib.hid hf
         clear hf h0 hr' hj
         cases r with
         | false =>
          have htt : t = false := by
           rw [← HT.out, all_bad hlt HF.out]
           simp
          subst htt
          go_wp2_with fail
          refine (name_all nm _).mono ?_
          rw [HBN.out]
          rintro e w' ⟨rfl, rfl⟩
          go_wp2_with fail
          refine (valid_all id _).mono ?_
          rw [HBV.out]
          rintro e w' ⟨rfl, rfl⟩
          go_wp2_with fail
          go_quiet (fail)
          go_wp2_with fail
          go_ret
          exact ⟨rfl, below_drewN HW.out _⟩
         | true =>
          have HO := Lib.hid (all_next HOK.out HF.out)
          go_wp2_with fail
          refine (name_all nm _).mono ?_
          rw [HBN.out]
          rintro e w' ⟨rfl, rfl⟩
          go_wp2_with fail
          refine (valid_all id _).mono ?_
          rw [HBV.out]
          rintro e w' ⟨rfl, rfl⟩
          go_wp2_with fail
          go_quiet (fail)
          go_wp2_with fail
          go_roundw
          case rel => exact ⟨k + 1, by omega, by go_num, below_drewN HW.out _, HO.out⟩
          case measure => simp [intOf]; omega
   ·obtain rfl : k = l := by omega
    have htt : t = true := by
     rw [← HT.out, HOK.out]
     simp
     omega
    subst htt
    go_wp2
    go_ret
    exact ⟨rfl, HB.out⟩
end Go.Proofs.YtbenkmihkbjgeaaGreat.Ob
/- obj: mayBlob, mayTree, mayCommit, May. -/
namespace Go.Proofs.YtbenkmihkbjgeaaGreat.Ob
open Go.RowKit Go.Proofs.YtbenkmihkbjgeaaGreat.Sh
open Go.Proofs.YtbenkmihkbjgeaaGreat.Tx (OwnV SlV sv bl nameB reads_at texts_at toList_ne')
def objK (k : Int) : ObM := ⟨k, [], [], [], [], 0, 0, []⟩
theorem objK_v (k : Int) (w : World) : ObV w (.agg #[.int .i64 k, .slice none 0 0, .slice none 0 0, .string ⟨#[]⟩, .slice none 0 0, .int .i64 0, .int .i64 0, .string ⟨#[]⟩]) (objK k) :=
 ⟨_, _, _, rfl, Sl.nil_ w, SlI.nil_ w, SlV.nil_ w⟩
def blobB (o : ObM) : Bool := decide (o.data.length ≤ 20000) && sameB { o with data := [] } (objK 1)
def treeB (o : ObM) : Bool := itemsB o.items && sameB { o with items := [] } (objK 2)
def commB (o : ObM) : Bool := decide (o.data.length = 0) && decide (o.items.length = 0) && validB o.tree && parB o.parents && decide (0 ≤ o.stamp) && decide (o.stamp ≤ 1099511627776) && decide (0 ≤ o.author) && decide (o.author ≤ 255) && msgB o.msg
def mayB (o : ObM) : Bool := if o.kind = 1 then blobB o else if o.kind = 2 then treeB o else if o.kind = 3 then commB o else false
set_option maxRecDepth 100000 in
set_option maxHeartbeats 1600000 in
theorem mayBlob_any (v : Value) (o : ObM) (w : World) (h : ObV w v o) : Calls Tryz.prog 186 #[v] w (BoolPost w (blobB o)) := by
 obtain ⟨d, it, ps, rfl, hd, hi, hp⟩ := h
 obtain ⟨k, D, I, T, P, st, au, ms⟩ := o
 replace hd : Sl w d D := hd
 replace hi : SlI w it I := hi
 replace hp : SlV w ps ((P.map str).map sv) := hp
 have HD := Lib.hid hd
 have HI := Lib.hid hi
 have HP := Lib.hid hp
 obtain ⟨A, c, rfl, hlc, hcm, _⟩ := hd
 obtain ⟨A2, c2, rfl, hlc2, hcm2, _⟩ := hi
 obtain ⟨A3, c3, rfl, hlc3, hcm3, _⟩ := hp
 unfold maxLen at hcm hcm2 hcm3
 simp only [List.length_map] at hlc3 HP ⊢
 obtain ⟨l, hl⟩ : ∃ l, D.length = l := ⟨_, rfl⟩
 obtain ⟨l2, hl2⟩ : ∃ l, I.length = l := ⟨_, rfl⟩
 obtain ⟨l3, hl3⟩ : ∃ l, P.length = l := ⟨_, rfl⟩
 rw [hl] at hlc HD ⊢
 rw [hl2] at hlc2 HI ⊢
 rw [hl3] at hlc3 HP ⊢
 have HL := Lib.hid hl
 have HL2 := Lib.hid hl2
 clear hl hl2 hl3
 have HB1 : Hid (Below w.heap.size w (w.alloc (.cells #[.int .i64 k, .slice A l c, .slice A2 l2 c2, .string (str T), .slice A3 l3 c3, .int .i64 st, .int .i64 au, .string (str ms)] 80))) := (Below.refl _ _).alloc (Nat.le_refl _) _
 have HB2 : Hid (Below w.heap.size w ((w.alloc (.cells #[.int .i64 k, .slice A l c, .slice A2 l2 c2, .string (str T), .slice A3 l3 c3, .int .i64 st, .int .i64 au, .string (str ms)] 80)).alloc (.cells #[.int .i64 k, .slice none 0 0, .slice A2 l2 c2, .string (str T), .slice A3 l3 c3, .int .i64 st, .int .i64 au, .string (str ms)] 80))) := HB1.out.alloc (by simp) _
 by_cases hc : l ≤ 20000
 ·have hB : blobB ⟨k, D, I, T, P, st, au, ms⟩ = sameB ⟨k, [], I, T, P, st, au, ms⟩ (objK 1) := by
   unfold blobB
   rw [HL.out]
   simp [hc]
  rw [hB]
  have hc' : (l : Int) ≤ 20000 := by omega
  clear hB
  go_enter Tryz.func186, Tryz.ntmps186
  go_wp2_with fail
  refine (same_any _ _ ⟨k, [], I, T, P, st, au, ms⟩ (objK 1) ((w.alloc (.cells #[.int .i64 k, .slice A l c, .slice A2 l2 c2, .string (str T), .slice A3 l3 c3, .int .i64 st, .int .i64 au, .string (str ms)] 80)).alloc (.cells #[.int .i64 k, .slice none 0 0, .slice A2 l2 c2, .string (str T), .slice A3 l3 c3, .int .i64 st, .int .i64 au, .string (str ms)] 80)) ⟨_, _, _, rfl, Sl.nil_ _, HI.out.below HB2.out, HP.out.below HB2.out⟩ (objK_v 1 _)).mono ?_
  rintro e w3 ⟨rfl, hb3⟩
  have H3 := Lib.hid (Below.after HB2.out hb3)
  clear hb3
  go_wp2_with fail
  go_ret
  exact ⟨rfl, H3.out⟩
 ·have hB : blobB ⟨k, D, I, T, P, st, au, ms⟩ = false := by
   unfold blobB
   rw [HL.out]
   simp [hc]
  rw [hB]
  have hc' : (20000 : Int) < (l : Int) := by omega
  clear hB
  go_enter Tryz.func186, Tryz.ntmps186
  go_wp2_with fail
  go_ret
  exact ⟨rfl, HB2.out⟩
set_option maxRecDepth 100000 in
set_option maxHeartbeats 1600000 in
theorem mayTree_any (v : Value) (o : ObM) (w : World) (h : ObV w v o) : Calls Tryz.prog 187 #[v] w (BoolPost w (treeB o)) := by
 obtain ⟨d, it, ps, rfl, hd, hi, hp⟩ := h
 obtain ⟨k, D, I, T, P, st, au, ms⟩ := o
 replace hd : Sl w d D := hd
 replace hi : SlI w it I := hi
 replace hp : SlV w ps ((P.map str).map sv) := hp
 have HD := Lib.hid hd
 have HI := Lib.hid hi
 have HP := Lib.hid hp
 obtain ⟨A, c, rfl, hlc, hcm, _⟩ := hd
 obtain ⟨A2, c2, rfl, hlc2, hcm2, _⟩ := hi
 obtain ⟨A3, c3, rfl, hlc3, hcm3, _⟩ := hp
 unfold maxLen at hcm hcm2 hcm3
 simp only [List.length_map] at hlc3 HP ⊢
 obtain ⟨l, hl⟩ : ∃ l, D.length = l := ⟨_, rfl⟩
 obtain ⟨l2, hl2⟩ : ∃ l, I.length = l := ⟨_, rfl⟩
 obtain ⟨l3, hl3⟩ : ∃ l, P.length = l := ⟨_, rfl⟩
 rw [hl] at hlc HD ⊢
 rw [hl2] at hlc2 HI ⊢
 rw [hl3] at hlc3 HP ⊢
 have HL := Lib.hid hl
 have HL2 := Lib.hid hl2
 clear hl hl2 hl3
 have HB1 : Hid (Below w.heap.size w (w.alloc (.cells #[.int .i64 k, .slice A l c, .slice A2 l2 c2, .string (str T), .slice A3 l3 c3, .int .i64 st, .int .i64 au, .string (str ms)] 80))) := (Below.refl _ _).alloc (Nat.le_refl _) _
 have HB2 : Hid (Below w.heap.size w ((w.alloc (.cells #[.int .i64 k, .slice A l c, .slice A2 l2 c2, .string (str T), .slice A3 l3 c3, .int .i64 st, .int .i64 au, .string (str ms)] 80)).alloc (.cells #[.int .i64 k, .slice A l c, .slice none 0 0, .string (str T), .slice A3 l3 c3, .int .i64 st, .int .i64 au, .string (str ms)] 80))) := HB1.out.alloc (by simp) _
 obtain ⟨b, hb⟩ : ∃ b, itemsB I = b := ⟨_, rfl⟩
 have HBI := Lib.hid hb
 clear hb
 have HK : Hid (Blk ((w.alloc (.cells #[.int .i64 k, .slice A l c, .slice A2 l2 c2, .string (str T), .slice A3 l3 c3, .int .i64 st, .int .i64 au, .string (str ms)] 80)).alloc (.cells #[.int .i64 k, .slice A l c, .slice none 0 0, .string (str T), .slice A3 l3 c3, .int .i64 st, .int .i64 au, .string (str ms)] 80)) (w.heap.size + 1) 80 #[.int .i64 k, .slice A l c, .slice none 0 0, .string (str T), .slice A3 l3 c3, .int .i64 st, .int .i64 au, .string (str ms)]) := by
  unfold Hid
  rw [show w.heap.size + 1 = (w.alloc (.cells #[.int .i64 k, .slice A l c, .slice A2 l2 c2, .string (str T), .slice A3 l3 c3, .int .i64 st, .int .i64 au, .string (str ms)] 80)).heap.size from by simp]
  exact Blk.new _ _ _
 go_enter Tryz.func187, Tryz.ntmps187
 go_wp2_with fail
 refine (items_any _ I ((w.alloc (.cells #[.int .i64 k, .slice A l c, .slice A2 l2 c2, .string (str T), .slice A3 l3 c3, .int .i64 st, .int .i64 au, .string (str ms)] 80)).alloc (.cells #[.int .i64 k, .slice A l c, .slice none 0 0, .string (str T), .slice A3 l3 c3, .int .i64 st, .int .i64 au, .string (str ms)] 80)) (HI.out.below HB2.out)).mono ?_
 rw [HBI.out]
 rintro e w3 ⟨rfl, hb3⟩
 have H3 := Lib.hid (Below.after HB2.out hb3)
 have HK3 := Lib.hid (HK.out.below hb3 HK.out.lt)
 clear hb3
 cases b with
 | false =>
  have hB : treeB ⟨k, D, I, T, P, st, au, ms⟩ = false := by
   unfold treeB
   rw [HBI.out]
   rfl
  have HBB := Lib.hid hB
  clear hB
  go_wp2_with fail
  go_ret
  exact ⟨by rw [HBB.out]; rfl, H3.out⟩
 | true =>
  have hB : treeB ⟨k, D, I, T, P, st, au, ms⟩ = sameB ⟨k, D, [], T, P, st, au, ms⟩ (objK 2) := by
   unfold treeB
   rw [HBI.out]
   rfl
  have HBB := Lib.hid hB
  clear hB
  obtain ⟨x0, x1, x2, x3, x4, x5, x6, x7⟩ := box_cells HK3.out
  go_wp2_with fail
  clear x0 x1 x2 x3 x4 x5 x6 x7
  refine (same_any _ _ ⟨k, D, [], T, P, st, au, ms⟩ (objK 2) w3 ⟨_, _, _, rfl, HD.out.below H3.out, SlI.nil_ _, HP.out.below H3.out⟩ (objK_v 2 _)).mono ?_
  rintro e w4 ⟨rfl, hb4⟩
  have H4 := Lib.hid (Below.after H3.out hb4)
  clear hb4
  go_wp2_with fail
  go_ret
  exact ⟨by rw [HBB.out]; rfl, H4.out⟩
set_option maxRecDepth 100000 in
set_option maxHeartbeats 1600000 in
theorem mayCommit_any (v : Value) (o : ObM) (w : World) (h : ObV w v o) : Calls Tryz.prog 188 #[v] w (BoolPost w (commB o)) := by
 obtain ⟨d, it, ps, rfl, hd, hi, hp⟩ := h
 obtain ⟨k, D, I, T, P, st, au, ms⟩ := o
 replace hd : Sl w d D := hd
 replace hi : SlI w it I := hi
 replace hp : SlV w ps ((P.map str).map sv) := hp
 have HD := Lib.hid hd
 have HI := Lib.hid hi
 have HP := Lib.hid hp
 obtain ⟨A, c, rfl, hlc, hcm, _⟩ := hd
 obtain ⟨A2, c2, rfl, hlc2, hcm2, _⟩ := hi
 obtain ⟨A3, c3, rfl, hlc3, hcm3, _⟩ := hp
 unfold maxLen at hcm hcm2 hcm3
 simp only [List.length_map] at hlc3 HP ⊢
 obtain ⟨l, hl⟩ : ∃ l, D.length = l := ⟨_, rfl⟩
 obtain ⟨l2, hl2⟩ : ∃ l, I.length = l := ⟨_, rfl⟩
 obtain ⟨l3, hl3⟩ : ∃ l, P.length = l := ⟨_, rfl⟩
 rw [hl] at hlc HD ⊢
 rw [hl2] at hlc2 HI ⊢
 rw [hl3] at hlc3 HP ⊢
 have HL := Lib.hid hl
 have HL2 := Lib.hid hl2
 clear hl hl2 hl3
 have HB1 : Hid (Below w.heap.size w (w.alloc (.cells #[.int .i64 k, .slice A l c, .slice A2 l2 c2, .string (str T), .slice A3 l3 c3, .int .i64 st, .int .i64 au, .string (str ms)] 80))) := (Below.refl _ _).alloc (Nat.le_refl _) _
 by_cases h : l = 0
 ·have hT0 := Lib.hid h
  clear h
  by_cases h : l2 = 0
  ·have hT1 := Lib.hid h
   clear h
   by_cases h : validB T = true
   ·have hT2 := Lib.hid h
    clear h
    by_cases h : parB P = true
    ·have hT3 := Lib.hid h
     clear h
     by_cases h : 0 ≤ st
     ·have hT4 := Lib.hid h
      clear h
      by_cases h : st ≤ 1099511627776
      ·have hT5 := Lib.hid h
       clear h
       by_cases h : 0 ≤ au
       ·have hT6 := Lib.hid h
        clear h
        by_cases h : au ≤ 255
        ·have hT7 := Lib.hid h
         clear h
         by_cases h : msgB ms = true
         ·have hT8 := Lib.hid h
          clear h
          have hB : commB ⟨k, D, I, T, P, st, au, ms⟩ = true := by
           unfold commB
           rw [HL.out, HL2.out]
           simp [hT0.out, hT1.out, hT2.out, hT3.out, hT4.out, hT5.out, hT6.out, hT7.out, hT8.out]
          rw [hB]
          clear hB
          have z0 : ((l : Int) == 0) = true := by simp; have := hT0.out; omega
          have z1 : ((l2 : Int) == 0) = true := by simp; have := hT1.out; omega
          have y4 := hT4.out
          have y5 := hT5.out
          have y6 := hT6.out
          have y7 := hT7.out
          go_enter Tryz.func188, Tryz.ntmps188
          go_wp2_with fail
          refine (valid_all T _).mono ?_
          rw [hT2.out]
          rintro e w' ⟨rfl, rfl⟩
          go_wp2_with fail
          refine (par_any _ P _ (HP.out.below HB1.out)).mono ?_
          rw [hT3.out]
          rintro e w' ⟨rfl, rfl⟩
          go_wp2_with fail
          refine (msg_any ms _).mono ?_
          rw [hT8.out]
          rintro e w' ⟨rfl, rfl⟩
          go_wp2_with fail
          go_ret
          exact ⟨rfl, HB1.out⟩
         ·have hT8 := Lib.hid h
          clear h
          have F8 : Hid (msgB ms = false) := by unfold Hid; simpa using hT8.out
          have hB : commB ⟨k, D, I, T, P, st, au, ms⟩ = false := by
           unfold commB
           rw [HL.out, HL2.out]
           simp [hT0.out, hT1.out, hT2.out, hT3.out, hT4.out, hT5.out, hT6.out, hT7.out, hT8.out]
          rw [hB]
          clear hB
          have z0 : ((l : Int) == 0) = true := by simp; have := hT0.out; omega
          have z1 : ((l2 : Int) == 0) = true := by simp; have := hT1.out; omega
          have y4 := hT4.out
          have y5 := hT5.out
          have y6 := hT6.out
          have y7 := hT7.out
          go_enter Tryz.func188, Tryz.ntmps188
          go_wp2_with fail
          refine (valid_all T _).mono ?_
          rw [hT2.out]
          rintro e w' ⟨rfl, rfl⟩
          go_wp2_with fail
          refine (par_any _ P _ (HP.out.below HB1.out)).mono ?_
          rw [hT3.out]
          rintro e w' ⟨rfl, rfl⟩
          go_wp2_with fail
          refine (msg_any ms _).mono ?_
          rw [F8.out]
          rintro e w' ⟨rfl, rfl⟩
          go_wp2_with fail
          go_ret
          exact ⟨rfl, HB1.out⟩
        ·have hT7 := Lib.hid h
         clear h
         have hB : commB ⟨k, D, I, T, P, st, au, ms⟩ = false := by
          unfold commB
          rw [HL.out, HL2.out]
          simp [hT0.out, hT1.out, hT2.out, hT3.out, hT4.out, hT5.out, hT6.out, hT7.out]
         rw [hB]
         clear hB
         have z0 : ((l : Int) == 0) = true := by simp; have := hT0.out; omega
         have z1 : ((l2 : Int) == 0) = true := by simp; have := hT1.out; omega
         have y4 := hT4.out
         have y5 := hT5.out
         have y6 := hT6.out
         have n7 : 255 < au := by have := hT7.out; omega
         go_enter Tryz.func188, Tryz.ntmps188
         go_wp2_with fail
         refine (valid_all T _).mono ?_
         rw [hT2.out]
         rintro e w' ⟨rfl, rfl⟩
         go_wp2_with fail
         refine (par_any _ P _ (HP.out.below HB1.out)).mono ?_
         rw [hT3.out]
         rintro e w' ⟨rfl, rfl⟩
         go_wp2_with fail
         go_ret
         exact ⟨rfl, HB1.out⟩
       ·have hT6 := Lib.hid h
        clear h
        have hB : commB ⟨k, D, I, T, P, st, au, ms⟩ = false := by
         unfold commB
         rw [HL.out, HL2.out]
         simp [hT0.out, hT1.out, hT2.out, hT3.out, hT4.out, hT5.out, hT6.out]
        rw [hB]
        clear hB
        have z0 : ((l : Int) == 0) = true := by simp; have := hT0.out; omega
        have z1 : ((l2 : Int) == 0) = true := by simp; have := hT1.out; omega
        have y4 := hT4.out
        have y5 := hT5.out
        have n6 : au < 0 := by have := hT6.out; omega
        go_enter Tryz.func188, Tryz.ntmps188
        go_wp2_with fail
        refine (valid_all T _).mono ?_
        rw [hT2.out]
        rintro e w' ⟨rfl, rfl⟩
        go_wp2_with fail
        refine (par_any _ P _ (HP.out.below HB1.out)).mono ?_
        rw [hT3.out]
        rintro e w' ⟨rfl, rfl⟩
        go_wp2_with fail
        go_ret
        exact ⟨rfl, HB1.out⟩
      ·have hT5 := Lib.hid h
       clear h
       have hB : commB ⟨k, D, I, T, P, st, au, ms⟩ = false := by
        unfold commB
        rw [HL.out, HL2.out]
        simp [hT0.out, hT1.out, hT2.out, hT3.out, hT4.out, hT5.out]
       rw [hB]
       clear hB
       have z0 : ((l : Int) == 0) = true := by simp; have := hT0.out; omega
       have z1 : ((l2 : Int) == 0) = true := by simp; have := hT1.out; omega
       have y4 := hT4.out
       have n5 : 1099511627776 < st := by have := hT5.out; omega
       go_enter Tryz.func188, Tryz.ntmps188
       go_wp2_with fail
       refine (valid_all T _).mono ?_
       rw [hT2.out]
       rintro e w' ⟨rfl, rfl⟩
       go_wp2_with fail
       refine (par_any _ P _ (HP.out.below HB1.out)).mono ?_
       rw [hT3.out]
       rintro e w' ⟨rfl, rfl⟩
       go_wp2_with fail
       go_ret
       exact ⟨rfl, HB1.out⟩
     ·have hT4 := Lib.hid h
      clear h
      have hB : commB ⟨k, D, I, T, P, st, au, ms⟩ = false := by
       unfold commB
       rw [HL.out, HL2.out]
       simp [hT0.out, hT1.out, hT2.out, hT3.out, hT4.out]
      rw [hB]
      clear hB
      have z0 : ((l : Int) == 0) = true := by simp; have := hT0.out; omega
      have z1 : ((l2 : Int) == 0) = true := by simp; have := hT1.out; omega
      have n4 : st < 0 := by have := hT4.out; omega
      go_enter Tryz.func188, Tryz.ntmps188
      go_wp2_with fail
      refine (valid_all T _).mono ?_
      rw [hT2.out]
      rintro e w' ⟨rfl, rfl⟩
      go_wp2_with fail
      refine (par_any _ P _ (HP.out.below HB1.out)).mono ?_
      rw [hT3.out]
      rintro e w' ⟨rfl, rfl⟩
      go_wp2_with fail
      go_ret
      exact ⟨rfl, HB1.out⟩
    ·have hT3 := Lib.hid h
     clear h
     have F3 : Hid (parB P = false) := by unfold Hid; simpa using hT3.out
     have hB : commB ⟨k, D, I, T, P, st, au, ms⟩ = false := by
      unfold commB
      rw [HL.out, HL2.out]
      simp [hT0.out, hT1.out, hT2.out, hT3.out]
     rw [hB]
     clear hB
     have z0 : ((l : Int) == 0) = true := by simp; have := hT0.out; omega
     have z1 : ((l2 : Int) == 0) = true := by simp; have := hT1.out; omega
     go_enter Tryz.func188, Tryz.ntmps188
     go_wp2_with fail
     refine (valid_all T _).mono ?_
     rw [hT2.out]
     rintro e w' ⟨rfl, rfl⟩
     go_wp2_with fail
     refine (par_any _ P _ (HP.out.below HB1.out)).mono ?_
     rw [F3.out]
     rintro e w' ⟨rfl, rfl⟩
     go_wp2_with fail
     go_ret
     exact ⟨rfl, HB1.out⟩
   ·have hT2 := Lib.hid h
    clear h
    have F2 : Hid (validB T = false) := by unfold Hid; simpa using hT2.out
    have hB : commB ⟨k, D, I, T, P, st, au, ms⟩ = false := by
     unfold commB
     rw [HL.out, HL2.out]
     simp [hT0.out, hT1.out, hT2.out]
    rw [hB]
    clear hB
    have z0 : ((l : Int) == 0) = true := by simp; have := hT0.out; omega
    have z1 : ((l2 : Int) == 0) = true := by simp; have := hT1.out; omega
    go_enter Tryz.func188, Tryz.ntmps188
    go_wp2_with fail
    refine (valid_all T _).mono ?_
    rw [F2.out]
    rintro e w' ⟨rfl, rfl⟩
    go_wp2_with fail
    go_ret
    exact ⟨rfl, HB1.out⟩
  ·have hT1 := Lib.hid h
   clear h
   have hB : commB ⟨k, D, I, T, P, st, au, ms⟩ = false := by
    unfold commB
    rw [HL.out, HL2.out]
    simp [hT0.out, hT1.out]
   rw [hB]
   clear hB
   have z0 : ((l : Int) == 0) = true := by simp; have := hT0.out; omega
   have z1 : ((l2 : Int) == 0) = false := by simp; have := hT1.out; omega
   go_enter Tryz.func188, Tryz.ntmps188
   go_wp2_with fail
   go_ret
   exact ⟨rfl, HB1.out⟩
 ·have hT0 := Lib.hid h
  clear h
  have hB : commB ⟨k, D, I, T, P, st, au, ms⟩ = false := by
   unfold commB
   rw [HL.out, HL2.out]
   simp [hT0.out]
  rw [hB]
  clear hB
  have z0 : ((l : Int) == 0) = false := by simp; have := hT0.out; omega
  go_enter Tryz.func188, Tryz.ntmps188
  go_wp2_with fail
  go_ret
  exact ⟨rfl, HB1.out⟩
set_option maxRecDepth 100000 in
set_option maxHeartbeats 1600000 in
theorem may_any (v : Value) (o : ObM) (w : World) (h : ObV w v o) : Calls Tryz.prog 147 #[v] w (BoolPost w (mayB o)) := by
 obtain ⟨d, it, ps, rfl, hd, hi, hp⟩ := h
 obtain ⟨k, D, I, T, P, st, au, ms⟩ := o
 replace hd : Sl w d D := hd
 replace hi : SlI w it I := hi
 replace hp : SlV w ps ((P.map str).map sv) := hp
 have HD := Lib.hid hd
 have HI := Lib.hid hi
 have HP := Lib.hid hp
 obtain ⟨A, c, rfl, hlc, hcm, _⟩ := hd
 obtain ⟨A2, c2, rfl, hlc2, hcm2, _⟩ := hi
 obtain ⟨A3, c3, rfl, hlc3, hcm3, _⟩ := hp
 unfold maxLen at hcm hcm2 hcm3
 simp only [List.length_map] at hlc3 HP ⊢
 obtain ⟨l, hl⟩ : ∃ l, D.length = l := ⟨_, rfl⟩
 obtain ⟨l2, hl2⟩ : ∃ l, I.length = l := ⟨_, rfl⟩
 obtain ⟨l3, hl3⟩ : ∃ l, P.length = l := ⟨_, rfl⟩
 rw [hl] at hlc HD ⊢
 rw [hl2] at hlc2 HI ⊢
 rw [hl3] at hlc3 HP ⊢
 have HL := Lib.hid hl
 have HL2 := Lib.hid hl2
 clear hl hl2 hl3
 have HB1 : Hid (Below w.heap.size w (w.alloc (.cells #[.int .i64 k, .slice A l c, .slice A2 l2 c2, .string (str T), .slice A3 l3 c3, .int .i64 st, .int .i64 au, .string (str ms)] 80))) := (Below.refl _ _).alloc (Nat.le_refl _) _
 have HV : Hid (ObV (w.alloc (.cells #[.int .i64 k, .slice A l c, .slice A2 l2 c2, .string (str T), .slice A3 l3 c3, .int .i64 st, .int .i64 au, .string (str ms)] 80)) (.agg #[.int .i64 k, .slice A l c, .slice A2 l2 c2, .string (str T), .slice A3 l3 c3, .int .i64 st, .int .i64 au, .string (str ms)]) ⟨k, D, I, T, P, st, au, ms⟩) := ⟨_, _, _, rfl, HD.out.below HB1.out, HI.out.below HB1.out, HP.out.below HB1.out⟩
 by_cases h0 : k = 1
 ·have e0 : (k == 1) = true := beq_iff_eq.2 h0
  have hB : mayB ⟨k, D, I, T, P, st, au, ms⟩ = blobB ⟨k, D, I, T, P, st, au, ms⟩ := by unfold mayB; simp [h0]
  rw [hB]
  clear hB h0
  go_enter Tryz.func147, Tryz.ntmps147
  go_wp2_with fail
  refine (mayBlob_any _ _ _ HV.out).mono ?_
  rintro e w3 ⟨rfl, hb3⟩
  have H3 := Lib.hid (Below.after HB1.out hb3)
  clear hb3
  go_wp2_with fail
  go_ret
  exact ⟨rfl, H3.out⟩
 ·have e0 : (k == 1) = false := beq_eq_false_iff_ne.2 h0
  by_cases h1 : k = 2
  ·have e1 : (k == 2) = true := beq_iff_eq.2 h1
   have hB : mayB ⟨k, D, I, T, P, st, au, ms⟩ = treeB ⟨k, D, I, T, P, st, au, ms⟩ := by unfold mayB; simp [h1]
   rw [hB]
   clear hB h1
   go_enter Tryz.func147, Tryz.ntmps147
   go_wp2_with fail
   refine (mayTree_any _ _ _ HV.out).mono ?_
   rintro e w3 ⟨rfl, hb3⟩
   have H3 := Lib.hid (Below.after HB1.out hb3)
   clear hb3
   go_wp2_with fail
   go_ret
   exact ⟨rfl, H3.out⟩
  ·have e1 : (k == 2) = false := beq_eq_false_iff_ne.2 h1
   by_cases h2 : k = 3
   ·have e2 : (k == 3) = true := beq_iff_eq.2 h2
    have hB : mayB ⟨k, D, I, T, P, st, au, ms⟩ = commB ⟨k, D, I, T, P, st, au, ms⟩ := by unfold mayB; simp [h2]
    rw [hB]
    clear hB h2
    go_enter Tryz.func147, Tryz.ntmps147
    go_wp2_with fail
    refine (mayCommit_any _ _ _ HV.out).mono ?_
    rintro e w3 ⟨rfl, hb3⟩
    have H3 := Lib.hid (Below.after HB1.out hb3)
    clear hb3
    go_wp2_with fail
    go_ret
    exact ⟨rfl, H3.out⟩
   ·have e2 : (k == 3) = false := beq_eq_false_iff_ne.2 h2
    have hB : mayB ⟨k, D, I, T, P, st, au, ms⟩ = false := by unfold mayB; simp [h0, h1, h2]
    rw [hB]
    clear hB h0 h1 h2
    go_enter Tryz.func147, Tryz.ntmps147
    go_wp2_with fail
    go_ret
    exact ⟨rfl, HB1.out⟩
end Go.Proofs.YtbenkmihkbjgeaaGreat.Ob
