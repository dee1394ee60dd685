/- Texts put together: VOb4, VOb5, VRo2. -/
import Derived.Test.YtpfjlhpahmhkhaaGreatQv17
import Derived.Deep.RegionHeld3
/- obj: Same. -/
namespace Go.Proofs.YtpfjlhpahmhkhaaGreat.Ob
open Go.RowKit Go.Proofs.YtpfjlhpahmhkhaaGreat.Sh
open Go.Proofs.YtpfjlhpahmhkhaaGreat.Tx (OwnV SlV sv bl nameB reads_at texts_at toList_ne')
def sameB (o p : ObM) : Bool := o.kind == p.kind && o.data == p.data && o.items == p.items && o.tree == p.tree && o.parents == p.parents && o.stamp == p.stamp && o.author == p.author && o.msg == p.msg
theorem sameB_iff {o p : ObM} : sameB o p = true ↔ o = p := by
 unfold sameB
 cases o; cases p
 simp [and_assoc]
theorem Below.after {w w1 w2 : World} (h : Below w.heap.size w w1) (h2 : Below w1.heap.size w1 w2) : Below w.heap.size w w2 := h.trans (h2.mono h.size)
theorem box_cells {w : World} {b : Nat} {T : TypeId} {c0 c1 c2 c3 c4 c5 c6 c7 : Value} (h : Blk w b T #[c0, c1, c2, c3, c4, c5, c6, c7]) :
  w.cell? ⟨b, 0, none⟩ = some c0 ∧ w.cell? ⟨b, 1, none⟩ = some c1 ∧ w.cell? ⟨b, 2, none⟩ = some c2 ∧ w.cell? ⟨b, 3, none⟩ = some c3 ∧ w.cell? ⟨b, 4, none⟩ = some c4 ∧ w.cell? ⟨b, 5, none⟩ = some c5 ∧ w.cell? ⟨b, 6, none⟩ = some c6 ∧ w.cell? ⟨b, 7, none⟩ = some c7 :=
 ⟨h.cell 0, h.cell 1, h.cell 2, h.cell 3, h.cell 4, h.cell 5, h.cell 6, h.cell 7⟩
set_option maxRecDepth 100000 in
set_option maxHeartbeats 1600000 in
theorem same_any (v v' : Value) (o p : ObM) (w : World) (h : ObV w v o) (h' : ObV w v' p) : Calls Tryz.prog 307 #[v, v'] w (BoolPost w (sameB o p)) := by
 obtain ⟨d, it, ps, rfl, hd, hi, hp⟩ := h
 obtain ⟨d', it', ps', rfl, hd', hi', hp'⟩ := h'
 obtain ⟨k0, D, I, t0, P, s0, a0, m0⟩ := o
 obtain ⟨k1, D', I', t1, P', s1, a1, m1⟩ := p
 have HD := Lib.hid hd
 have HI := Lib.hid hi
 have HP := Lib.hid hp
 have HD' := Lib.hid hd'
 have HI' := Lib.hid hi'
 have HP' := Lib.hid hp'
 clear hd hi hp hd' hi' hp'
 show Calls _ _ #[.agg #[.int .i64 k0, d, it, .string (str t0), ps, .int .i64 s0, .int .i64 a0, .string (str m0)], .agg #[.int .i64 k1, d', it', .string (str t1), ps', .int .i64 s1, .int .i64 a1, .string (str m1)]] _ _
 obtain ⟨b0, e0⟩ : ∃ b, (k0 == k1) = b := ⟨_, rfl⟩
 obtain ⟨b1, e1⟩ : ∃ b, (D == D') = b := ⟨_, rfl⟩
 obtain ⟨b2, e2⟩ : ∃ b, (I == I') = b := ⟨_, rfl⟩
 obtain ⟨b3, e3⟩ : ∃ b, ((str t0).toList == (str t1).toList) = b := ⟨_, rfl⟩
 obtain ⟨b4, e4⟩ : ∃ b, (P == P') = b := ⟨_, rfl⟩
 obtain ⟨b5, e5⟩ : ∃ b, (s0 == s1) = b := ⟨_, rfl⟩
 obtain ⟨b6, e6⟩ : ∃ b, (a0 == a1) = b := ⟨_, rfl⟩
 obtain ⟨b7, e7⟩ : ∃ b, ((str m0).toList == (str m1).toList) = b := ⟨_, rfl⟩
 have HS : Hid (sameB ⟨k0, D, I, t0, P, s0, a0, m0⟩ ⟨k1, D', I', t1, P', s1, a1, m1⟩ = (b0 && b1 && b2 && b3 && b4 && b5 && b6 && b7)) := by
  unfold Hid sameB
  rw [← e0, ← e1, ← e2, ← e3, ← e4, ← e5, ← e6, ← e7, str_toList, str_toList, str_toList, str_toList]
 have E1 := Lib.hid e1
 have E2 := Lib.hid e2
 have E4 := Lib.hid e4
 clear e1 e2 e4
 rw [HS.out]
 clear HS
 have hw1 : Below w.heap.size w ((w.alloc (.cells #[.int .i64 k0, d, it, .string (str t0), ps, .int .i64 s0, .int .i64 a0, .string (str m0)] 183)).alloc (.cells #[.int .i64 k1, d', it', .string (str t1), ps', .int .i64 s1, .int .i64 a1, .string (str m1)] 183)) :=
  ((Below.refl _ _).alloc (Nat.le_refl _) _).alloc (by simp) _
 have HW := Lib.hid hw1
 clear hw1
 cases b0 with
 | false =>
  go_enter Tryz.func307, Tryz.ntmps307
  go_wp2_with fail
  go_ret
  exact ⟨rfl, HW.out⟩
 | true =>
  go_enter Tryz.func307, Tryz.ntmps307
  go_wp2_with fail
  obtain ⟨W, hW⟩ : ∃ W, W = ((w.alloc (.cells #[.int .i64 k0, d, it, .string (str t0), ps, .int .i64 s0, .int .i64 a0, .string (str m0)] 183)).alloc (.cells #[.int .i64 k1, d', it', .string (str t1), ps', .int .i64 s1, .int .i64 a1, .string (str m1)] 183)) := ⟨_, rfl⟩
  rw [← hW]
  have HB1 : Hid (Blk W w.heap.size 183 #[.int .i64 k0, d, it, .string (str t0), ps, .int .i64 s0, .int .i64 a0, .string (str m0)]) := by
   unfold Hid
   rw [hW]
   exact (Blk.new w _ _).alloc _
  have HB2 : Hid (Blk W (w.heap.size + 1) 183 #[.int .i64 k1, d', it', .string (str t1), ps', .int .i64 s1, .int .i64 a1, .string (str m1)]) := by
   unfold Hid
   rw [hW, show w.heap.size + 1 = (w.alloc (.cells #[.int .i64 k0, d, it, .string (str t0), ps, .int .i64 s0, .int .i64 a0, .string (str m0)] 183)).heap.size from by simp]
   exact Blk.new _ _ _
  have HWW : Hid (Below w.heap.size w W) := by unfold Hid; rw [hW]; exact HW.out
  clear hW HW
  refine (eqb_any _ _ _ _ W (HD.out.below HWW.out) (HD'.out.below HWW.out)).mono ?_
  rw [E1.out]
  rintro e W3 ⟨rfl, hb3⟩
  have C3 := Lib.hid (Below.after HWW.out hb3)
  have A3 := Lib.hid (HB1.out.below hb3 HB1.out.lt)
  have B3 := Lib.hid (HB2.out.below hb3 HB2.out.lt)
  clear hb3
  cases b1 with
  | false =>
   go_wp2_with fail
   go_ret
   exact ⟨rfl, C3.out⟩
  | true =>
   obtain ⟨-, -, x2, x3, x4, x5, x6, x7⟩ := box_cells A3.out
   obtain ⟨-, -, y2, y3, y4, y5, y6, y7⟩ := box_cells B3.out
   go_wp2_with fail
   clear x2 x3 x4 x5 x6 x7 y2 y3 y4 y5 y6 y7
   refine (eqi_any _ _ _ _ W3 (HI.out.below C3.out) (HI'.out.below C3.out)).mono ?_
   rw [E2.out]
   rintro e W4 ⟨rfl, hb4⟩
   have C4 := Lib.hid (Below.after C3.out hb4)
   have A4 := Lib.hid (A3.out.below hb4 A3.out.lt)
   have B4 := Lib.hid (B3.out.below hb4 B3.out.lt)
   clear hb4
   cases b2 with
   | false =>
    go_wp2_with fail
    go_ret
    exact ⟨rfl, C4.out⟩
   | true =>
    obtain ⟨-, -, x2, x3, x4, x5, x6, x7⟩ := box_cells A4.out
    obtain ⟨-, -, y2, y3, y4, y5, y6, y7⟩ := box_cells B4.out
    cases b3 with
    | false =>
     go_wp2_with fail
     go_ret
     exact ⟨rfl, C4.out⟩
    | true =>
     go_wp2_with fail
     clear x2 x3 x4 x5 x6 x7 y2 y3 y4 y5 y6 y7
     refine (eqt_any _ _ _ _ W4 (HP.out.below C4.out) (HP'.out.below C4.out)).mono ?_
     rw [E4.out]
     rintro e W5 ⟨rfl, hb5⟩
     have C5 := Lib.hid (Below.after C4.out hb5)
     have A5 := Lib.hid (A4.out.below hb5 A4.out.lt)
     have B5 := Lib.hid (B4.out.below hb5 B4.out.lt)
     clear hb5
     obtain ⟨-, -, x2, x3, x4, x5, x6, x7⟩ := box_cells A5.out
     obtain ⟨-, -, y2, y3, y4, y5, y6, y7⟩ := box_cells B5.out
     cases b4 <;> cases b5 <;> cases b6 <;> cases b7 <;> (go_wp2_with fail; go_ret; exact ⟨rfl, C5.out⟩)
end Go.Proofs.YtpfjlhpahmhkhaaGreat.Ob
/- obj: mayItems. -/
namespace Go.Proofs.YtpfjlhpahmhkhaaGreat.Ob
open Go.RowKit Go.Proofs.YtpfjlhpahmhkhaaGreat.Sh
open Go.Proofs.YtpfjlhpahmhkhaaGreat.Tx (OwnV SlV sv bl nameB reads_at texts_at toList_ne')
def dI : ItM := (0, [], [])
def itB (x : ItM) : Bool := decide (1 ≤ x.1) && decide (x.1 ≤ 4) && nameB x.2.1 && validB x.2.2
def itemJ (l : List ItM) (j : Nat) : Bool := itB (l.getD j dI) && (decide (j = 0) || bl (l.getD (j - 1) dI).2.1 (l.getD j dI).2.1)
def itemsB (l : List ItM) : Bool := decide (l.length ≤ 256) && (List.range l.length).all (itemJ l)
set_option maxRecDepth 100000 in
set_option maxHeartbeats 1600000 in
theorem items_any (v : Value) (ls : List ItM) (w : World) (h : SlI w v ls) : Calls Tryz.prog 308 #[v] w (BoolPost w (itemsB ls)) := by
 obtain ⟨A, c, rfl, hlc, hcm, _, hR⟩ := h
 have HR := Lib.hid hR
 unfold maxLen at hcm
 obtain ⟨l, hL⟩ : ∃ l, ls.length = l := ⟨_, rfl⟩
 obtain ⟨t, ht⟩ : ∃ t, itemsB ls = t := ⟨_, rfl⟩
 rw [ht]
 unfold itemsB at ht
 rw [hL] at hlc ht ⊢
 have HL := Lib.hid hL
 have HT := Lib.hid ht
 clear hL ht hR
 by_cases h2 : 256 < l
 ·have htt : t = false := by
   rw [← HT.out]
   simp [show ¬ (l ≤ 256) from by omega]
  subst htt
  have l2 : (256 : Int) < (l : Int) := by omega
  clear h2
  go_enter Tryz.func308, Tryz.ntmps308
  go_wp2
  go_ret
  exact ⟨rfl, Below.refl _ _⟩
 ·have l2 : (l : Int) ≤ 256 := by omega
  have HN := Lib.hid h2
  clear h2
  go_enter Tryz.func308, Tryz.ntmps308
  go_wp2
  go_loopw [10] (fun i wr => ∃ k : Nat, k ≤ l ∧ i = .int .i64 k ∧ Below w.heap.size w wr ∧ (List.range k).all (itemJ ls) = true) (fun i _ => l - (intOf i).toNat)
  case atStart => exact ⟨0, by omega, rfl, Below.refl _ _, rfl⟩
  case round =>
   obtain ⟨k, hk, rfl, hb, hok⟩ := hrel
   have HB := Lib.hid hb
   have HOK := Lib.hid hok
   clear hb hok
   have k0 : (0 : Int) ≤ (k : Int) := by omega
   by_cases hlt : k < l
   ·have k1 : (k : Int) < (l : Int) := by omega
    have hkl : k < ls.length := by rw [HL.out]; exact hlt
    obtain ⟨x, hx⟩ : ∃ x, ls[k] = x := ⟨_, rfl⟩
    obtain ⟨ad, rfl, c0, c1, c2⟩ := items_at (HR.out.below HB.out) rfl k x (by rw [List.getElem?_eq_getElem hkl, hx])
    have HX : Hid (ls.getD k dI = x) := by unfold Hid; rw [List.getD_eq_getElem?_getD, List.getElem?_eq_getElem hkl, ← hx]; rfl
    clear hx hkl
    obtain ⟨m, nm, id⟩ := x
    replace c0 : wr.cell? (ad.add (k * 3)) = some (.int .i64 m) := c0
    replace c1 : wr.cell? ⟨(ad.add (k * 3)).block, (ad.add (k * 3)).off + 1, none⟩ = some (.string (str nm)) := c1
    replace c2 : wr.cell? ⟨(ad.add (k * 3)).block, (ad.add (k * 3)).off + 2, none⟩ = some (.string (str id)) := c2
    have HW : Hid (Below w.heap.size w (wr.alloc (.cells #[.int .i64 m, .string (str nm), .string (str id)] 345))) := HB.out.alloc HB.out.size _
    by_cases m1 : m < 1
    ·have htt : t = false := by
      rw [← HT.out, all_bad hlt (by unfold itemJ itB; rw [HX.out]; simp [show ¬ (1 ≤ m) from by omega])]
      simp
     subst htt
     go_wp2_with fail
     go_ret
     exact ⟨rfl, HW.out⟩
    ·have m1' : 1 ≤ m := by omega
     clear m1
     by_cases m2 : 4 < m
     ·have htt : t = false := by
       rw [← HT.out, all_bad hlt (by unfold itemJ itB; rw [HX.out]; simp [show ¬ (m ≤ 4) from by omega])]
       simp
      subst htt
      go_wp2_with fail
      go_ret
      exact ⟨rfl, HW.out⟩
     ·have m2' : m ≤ 4 := by omega
      clear m2
      obtain ⟨b, hb⟩ : ∃ b, nameB nm = b := ⟨_, rfl⟩
      have HBN := Lib.hid hb
      clear hb
      cases b with
      | false =>
       have htt : t = false := by
        rw [← HT.out, all_bad hlt (by unfold itemJ itB; rw [HX.out]; simp [HBN.out])]
        simp
       subst htt
       go_wp2_with fail
       refine (name_all nm _).mono ?_
       rw [HBN.out]
       rintro e w' ⟨rfl, rfl⟩
       go_wp2_with fail
       go_ret
       exact ⟨rfl, HW.out⟩
      | true =>
       obtain ⟨b, hb⟩ : ∃ b, validB id = b := ⟨_, rfl⟩
       have HBV := Lib.hid hb
       clear hb
       cases b with
       | false =>
        have htt : t = false := by
         rw [← HT.out, all_bad hlt (by unfold itemJ itB; rw [HX.out]; simp [HBV.out])]
         simp
        subst htt
        go_wp2_with fail
        refine (name_all nm _).mono ?_
        rw [HBN.out]
        rintro e w' ⟨rfl, rfl⟩
        go_wp2_with fail
        refine (valid_all id _).mono ?_
        rw [HBV.out]
        rintro e w' ⟨rfl, rfl⟩
        go_wp2_with fail
        go_ret
        exact ⟨rfl, HW.out⟩
       | true =>
        have HI : Hid (itB (m, nm, id) = true) := by
         unfold Hid itB
         simp [m1', m2', HBN.out, HBV.out]
        rcases Nat.eq_zero_or_pos k with h0 | h0
        ·have HO := Lib.hid (all_next HOK.out (show itemJ ls k = true from by unfold itemJ; rw [HX.out, HI.out]; simp [h0]))
         have kz : decide (0 < k) = false := by rw [h0]; rfl
         clear h0
         go_wp2_with fail
         refine (name_all nm _).mono ?_
         rw [HBN.out]
         rintro e w' ⟨rfl, rfl⟩
         go_wp2_with fail
         refine (valid_all id _).mono ?_
         rw [HBV.out]
         rintro e w' ⟨rfl, rfl⟩
         go_wp2_with fail
         go_quiet (fail)
         go_wp2_with fail
         go_roundw
         case rel => exact ⟨k + 1, by omega, by go_num, below_drewN HW.out _, HO.out⟩
         case measure => simp [intOf]; omega
        ·obtain ⟨j, hj⟩ : ∃ j, k = j + 1 := ⟨k - 1, by omega⟩
         have hkj : (k : Int) - 1 = (j : Int) := by omega
         have hwj : IntKind.i64.wrap ((k : Int) - 1) = (j : Int) := by rw [IntKind.wrap_i64]; omega
         have kp : (0 : Int) < (k : Int) := by omega
         have kd : decide (0 < k) = true := decide_eq_true h0
         have hjl : j < ls.length := by rw [HL.out]; omega
         obtain ⟨y, hy⟩ : ∃ y, ls[j] = y := ⟨_, rfl⟩
         obtain ⟨ad', had, d0, d1, d2⟩ := items_at (HR.out.below HW.out) rfl j y (by rw [List.getElem?_eq_getElem hjl, hy])
         injection had with had
         subst had
         have HY : Hid (ls.getD j dI = y) := by unfold Hid; rw [List.getD_eq_getElem?_getD, List.getElem?_eq_getElem hjl, ← hy]; rfl
         clear hy hjl d0 d2
         obtain ⟨y0, yn, yi⟩ := y
         replace d1 : (wr.alloc (.cells #[.int .i64 m, .string (str nm), .string (str id)] 345)).cell? ⟨(ad.add (j * 3)).block, (ad.add (j * 3)).off + 1, none⟩ = some (.string (str yn)) := d1
         obtain ⟨r, hr⟩ : ∃ r, Op.bytesLess (str yn).toList (str nm).toList = r := ⟨_, rfl⟩
         have hr' : bl yn nm = r := by rw [str_toList, str_toList] at hr; exact hr
         have j0 : (0 : Int) ≤ (j : Int) := by omega
         have j1 : (j : Int) < (l : Int) := by omega
         have hf : itemJ ls k = r := by
          unfold itemJ
          rw [HX.out, HI.out, show k - 1 = j from by omega, HY.out]
          simp [show k ≠ 0 from by omega, hr']
         have HF := Lib.hid hf
         clear hf h0 hr' hj
         cases r with
         | false =>
          have htt : t = false := by
           rw [← HT.out, all_bad hlt HF.out]
           simp
          subst htt
          go_wp2_with fail
          refine (name_all nm _).mono ?_
          rw [HBN.out]
          rintro e w' ⟨rfl, rfl⟩
          go_wp2_with fail
          refine (valid_all id _).mono ?_
          rw [HBV.out]
          rintro e w' ⟨rfl, rfl⟩
          go_wp2_with fail
          go_quiet (fail)
          go_wp2_with fail
          go_ret
          exact ⟨rfl, below_drewN HW.out _⟩
         | true =>
          have HO := Lib.hid (all_next HOK.out HF.out)
          go_wp2_with fail
          refine (name_all nm _).mono ?_
          rw [HBN.out]
          rintro e w' ⟨rfl, rfl⟩
          go_wp2_with fail
          refine (valid_all id _).mono ?_
          rw [HBV.out]
          rintro e w' ⟨rfl, rfl⟩
          go_wp2_with fail
          go_quiet (fail)
          go_wp2_with fail
          go_roundw
          case rel => exact ⟨k + 1, by omega, by go_num, below_drewN HW.out _, HO.out⟩
          case measure => simp [intOf]; omega
   ·obtain rfl : k = l := by omega
    have htt : t = true := by
     rw [← HT.out, HOK.out]
     simp
     omega
    subst htt
    go_wp2
    go_ret
    exact ⟨rfl, HB.out⟩
end Go.Proofs.YtpfjlhpahmhkhaaGreat.Ob
/- The document's Valid, valid, Rises, Msg. -/
namespace Go.Proofs.YtpfjlhpahmhkhaaGreat.Ob
open Go.RowKit Go.Proofs.YtpfjlhpahmhkhaaGreat.Sh
open Go.Proofs.YtpfjlhpahmhkhaaGreat.Tx (OwnV SlV sv bl nameB reads_at texts_at toList_ne')
theorem take_at {P : Program} {md : Region.Mode} {ops : Array Oper} {Q : Exit → Act → World → Prop} {S : World → Prop} {i d : Nat} {oi : Oper} {v : Value} {fuel : Nat} {listed : Array Bool} {a : Act} {w : World} (hi : ops[i]? = some oi) (hd : oi.dst = some d)
  (hs : Region.noSelect ops = true := by kernel_rfl) (hf : Region.free md ops listed i = true := by kernel_rfl) (hr : (Region.ready md ops listed).contains i = true := by kernel_rfl)
  (hQ : ∀ c a w, Q (.panic c) (a.put (some d) v) w → Q (.panic c) a w := by exact fun _ _ _ h => h) (hy : YieldsIf P ops S oi v a) (hS : S w := by assumption)
  (h : wpAnyH P md ops Q S fuel (listed.setIfInBounds i true) (a.put (some d) v) w) : wpAnyH P md ops Q S (fuel + 1) listed a w :=
 wpAnyH_take hi hs hf hr (by rw [hd]; exact hQ) hy hS (by rw [hd]; exact h)
theorem rvalid_all (cs : List UInt8) (w : World) (hl : cs.length ≤ 140737488351232) : Calls Tryz.prog 147 #[.string (str cs)] w (BoolPost w (validB cs)) := rvalid_any cs (validB cs) rfl w hl
theorem rname_all (cs : List UInt8) (w : World) : Calls Tryz.prog 222 #[.string (str cs)] w fun e w' => e = .returned (.bool (nameB cs)) ∧ w = w' := Tx.rname_all cs w
def validsB (ids : List (List UInt8)) : Bool := (List.range ids.length).all fun j => validB (ids.getD j [])
def risesB (ids : List (List UInt8)) : Bool := (List.range (ids.length - 1)).all fun j => bl (ids.getD j []) (ids.getD (j + 1) [])
theorem leq_not (x y : List UInt8) : (bl x y || x == y) = !bl y x := by
 rcases Tx.bl_tri x y with h | h | h
 ·rw [h, Tx.bl_asymm x y h]; rfl
 ·subst h; rw [Tx.bl_irr]; simp
 ·rw [h, Tx.bl_asymm y x h]
  have : x ≠ y := fun e => by rw [e, Tx.bl_irr] at h; cases h
  simp [this]
theorem parB_eq (ids : List (List UInt8)) : parB ids = (decide (ids.length ≤ 2) && (validsB ids && risesB ids)) := by
 unfold parB validsB risesB
 rw [Bool.eq_iff_iff]
 simp only [Bool.and_eq_true, decide_eq_true_eq, List.all_eq_true, List.mem_range, Bool.or_eq_true]
 constructor
 ·rintro ⟨h1, h2⟩
  refine ⟨h1, fun j hj => (h2 j hj).1, fun j hj => ?_⟩
  have := (h2 (j + 1) (by omega)).2
  rcases this with h | h
  ·omega
  ·simpa using h
 ·rintro ⟨h1, h2, h3⟩
  refine ⟨h1, fun j hj => ⟨h2 j hj, ?_⟩⟩
  cases j with
  | zero => exact .inl rfl
  | succ j => exact .inr (by simpa using h3 j (by omega))
set_option maxRecDepth 100000 in
set_option maxHeartbeats 800000 in
theorem rvalids_any (v : Value) (ids : List (List UInt8)) (w : World) (h : Tx.SlV w v ((ids.map str).map Tx.sv)) (hs : ∀ x ∈ ids, x.length ≤ 140737488351232) : Calls Tryz.prog 330 #[v] w (BoolPost w (validsB ids)) := by
 obtain ⟨A, c, rfl, hlc, hcm, hR⟩ := h.len
 rw [List.length_map, List.length_map] at hlc hR ⊢
 have HR := Lib.hid hR
 have HS := Lib.hid hs
 unfold maxLen at hcm
 obtain ⟨l, hL⟩ : ∃ l, ids.length = l := ⟨_, rfl⟩
 obtain ⟨t, ht⟩ : ∃ t, validsB ids = t := ⟨_, rfl⟩
 rw [ht]
 unfold validsB at ht
 rw [hL] at hlc ht ⊢
 have HL := Lib.hid hL
 have HT := Lib.hid ht
 clear hL ht h hR hs
 go_enter Tryz.func330, Tryz.ntmps330
 go_wp2
 go_loopw [3] (fun i wr => ∃ k : Nat, k ≤ l ∧ i = .int .i64 k ∧ Below w.heap.size w wr ∧ (List.range k).all (fun j => validB (ids.getD j [])) = true) (fun i _ => l - (intOf i).toNat)
 case atStart => exact ⟨0, by omega, rfl, Below.refl _ _, rfl⟩
 case round =>
  obtain ⟨k, hk, rfl, hb, hok⟩ := hrel
  have HB := Lib.hid hb
  have HOK := Lib.hid hok
  clear hb hok
  have k0 : (0 : Int) ≤ (k : Int) := by omega
  by_cases hlt : k < l
  ·have k1 : (k : Int) < (l : Int) := by omega
   have hkl : k < ids.length := by rw [HL.out]; exact hlt
   obtain ⟨ad, rfl, hcell⟩ := par_at (HR.out.below HB.out) k hkl
   have hxs : (ids.getD k []).length ≤ 140737488351232 := by
    rw [List.getD_eq_getElem?_getD, List.getElem?_eq_getElem hkl]
    exact HS.out _ (List.getElem_mem hkl)
   obtain ⟨x, hx⟩ : ∃ x, ids.getD k [] = x := ⟨_, rfl⟩
   rw [hx] at hcell hxs
   have HX := Lib.hid hx
   have HXS := Lib.hid hxs
   obtain ⟨b, hbv⟩ : ∃ b, validB x = b := ⟨_, rfl⟩
   have HBV := Lib.hid hbv
   clear hx hxs hbv hkl
   cases b with
   | false =>
    have htt : t = false := by rw [← HT.out, all_bad hlt (by rw [HX.out, HBV.out])]
    subst htt
    go_wp2_with fail
    refine (rvalid_all x _ HXS.out).mono ?_
    rw [HBV.out]
    rintro e w' ⟨rfl, hb'⟩
    have HB' := Lib.hid (Below.after HB.out hb')
    clear hb' hcell
    go_wp2_with fail
    go_ret
    exact ⟨rfl, HB'.out⟩
   | true =>
    have HO := Lib.hid (all_next HOK.out (show validB (ids.getD k []) = true from by rw [HX.out, HBV.out]))
    go_wp2_with fail
    refine (rvalid_all x _ HXS.out).mono ?_
    rw [HBV.out]
    rintro e w' ⟨rfl, hb'⟩
    have HB' := Lib.hid (Below.after HB.out hb')
    clear hb' hcell
    go_wp2_with fail
    go_roundw
    case rel => exact ⟨k + 1, by omega, by go_num, HB'.out, HO.out⟩
    case measure => simp [intOf]; omega
  ·obtain rfl : k = l := by omega
   have htt : t = true := by rw [← HT.out, HOK.out]
   subst htt
   go_wp2
   go_ret
   exact ⟨rfl, HB.out⟩
set_option maxRecDepth 100000 in
set_option maxHeartbeats 800000 in
theorem rrises_any (v : Value) (ids : List (List UInt8)) (w : World) (h : Tx.SlV w v ((ids.map str).map Tx.sv)) : Calls Tryz.prog 331 #[v] w (BoolPost w (risesB ids)) := by
 obtain ⟨A, c, rfl, hlc, hcm, hR⟩ := h.len
 rw [List.length_map, List.length_map] at hlc hR ⊢
 have HR := Lib.hid hR
 unfold maxLen at hcm
 obtain ⟨l, hL⟩ : ∃ l, ids.length = l := ⟨_, rfl⟩
 obtain ⟨t, ht⟩ : ∃ t, risesB ids = t := ⟨_, rfl⟩
 rw [ht]
 unfold risesB at ht
 rw [hL] at hlc ht ⊢
 have HL := Lib.hid hL
 have HT := Lib.hid ht
 clear hL ht h hR
 go_enter Tryz.func331, Tryz.ntmps331
 go_wp2
 go_loopw [3] (fun i wr => ∃ k : Nat, (k + 1 ≤ l ∨ k = 0) ∧ i = .int .i64 ((k : Int) + 1) ∧ Below w.heap.size w wr ∧ (List.range k).all (fun j => bl (ids.getD j []) (ids.getD (j + 1) [])) = true) (fun i _ => l - (intOf i).toNat)
 case atStart => exact ⟨0, .inr rfl, rfl, Below.refl _ _, rfl⟩
 case round =>
  obtain ⟨k, hk, rfl, hb, hok⟩ := hrel
  have HB := Lib.hid hb
  have HOK := Lib.hid hok
  have HK := Lib.hid hk
  clear hb hok hk
  have k0 : (0 : Int) ≤ (k : Int) := by omega
  by_cases hlt : k + 1 < l
  ·obtain ⟨m, hm⟩ : ∃ m : Nat, k + 1 = m := ⟨_, rfl⟩
   have hmi : (k : Int) + 1 = (m : Int) := by omega
   rw [hmi]
   have m0 : (0 : Int) ≤ (m : Int) := by omega
   have m1 : (m : Int) < (l : Int) := by omega
   have k1 : (k : Int) < (l : Int) := by omega
   have hml : m < ids.length := by rw [HL.out]; omega
   have hkl : k < ids.length := by rw [HL.out]; omega
   obtain ⟨ad, rfl, hcell⟩ := par_at (HR.out.below HB.out) m hml
   obtain ⟨ad', had, hcell'⟩ := par_at (HR.out.below HB.out) k hkl
   injection had with had
   subst had
   obtain ⟨x, hx⟩ : ∃ x, ids.getD m [] = x := ⟨_, rfl⟩
   obtain ⟨y, hy⟩ : ∃ y, ids.getD k [] = y := ⟨_, rfl⟩
   rw [hx] at hcell
   rw [hy] at hcell'
   have hj : (m : Int) - 1 = (k : Int) := by omega
   have hw : IntKind.i64.wrap ((m : Int) - 1) = (k : Int) := by rw [IntKind.wrap_i64]; omega
   have hl2 : m ≤ 9223372036854775807 := by omega
   obtain ⟨r, hr⟩ : ∃ r, bl y x = r := ⟨_, rfl⟩
   have hle : (Op.bytesLess (str x).toList (str y).toList || (str x).toList == (str y).toList) = !r := by
    rw [str_toList, str_toList, ← hr]
    exact leq_not x y
   have HR2 := Lib.hid hr
   have HX := Lib.hid hx
   have HY := Lib.hid hy
   have HM := Lib.hid hm
   clear hr hx hy hml hkl hmi hm
   have HLT := Lib.hid hlt
   clear hlt
   cases r with
   | false =>
    have htt : t = false := by
     rw [← HT.out]
     exact all_bad (k := k) (by have := HLT.out; omega) (by rw [HM.out, HX.out, HY.out, HR2.out])
    subst htt
    have hle2 : (Op.bytesLess (str x).toList (str y).toList || (str x).toList == (str y).toList) = true := hle
    clear hle
    go_wp2_with fail
    go_quiet (fail)
    go_wp2_with fail
    go_ret
    exact ⟨rfl, below_drewN HB.out _⟩
   | true =>
    have hle2 : (Op.bytesLess (str x).toList (str y).toList || (str x).toList == (str y).toList) = false := hle
    clear hle
    have HO := Lib.hid (all_next HOK.out (show bl (ids.getD k []) (ids.getD (k + 1) []) = true from by rw [HM.out, HX.out, HY.out, HR2.out]))
    go_wp2_with fail
    go_quiet (fail)
    go_wp2_with fail
    go_roundw
    case rel => exact ⟨k + 1, .inl (by have := HLT.out; omega), by have := HM.out; congr 1; omega, below_drewN HB.out _, HO.out⟩
    case measure => have := HM.out; have := HLT.out; simp [intOf]; omega
  ·have htt : t = true := by
    rw [← HT.out]
    have e : l - 1 = k := by have := HK.out; omega
    rw [e, HOK.out]
   subst htt
   have hge : (l : Int) ≤ (k : Int) + 1 := by omega
   have HLT := Lib.hid hlt
   clear hlt
   go_wp2
   go_ret
   exact ⟨rfl, HB.out⟩
set_option maxRecDepth 100000 in
set_option maxHeartbeats 800000 in
theorem rmsg_any (cs : List UInt8) (w : World) (hln : cs.length ≤ 140737488351232) : Calls Tryz.prog 332 #[.string (str cs)] w fun e w' => e = .returned (.bool (msgB cs)) ∧ w = w' := by
 have hsz := str_size cs
 obtain ⟨l, hL⟩ : ∃ l, cs.length = l := ⟨_, rfl⟩
 obtain ⟨t, ht⟩ : ∃ t, msgB cs = t := ⟨_, rfl⟩
 rw [ht]
 unfold msgB at ht
 rw [hL] at hsz ht hln
 have HL := Lib.hid hL
 have HT := Lib.hid ht
 have n0 : (0 : Int) ≤ (l : Int) := by omega
 clear hL ht
 go_enter Tryz.func332, Tryz.ntmps332
 go_wp2
 go_loop [3] (fun i => ∃ k : Nat, k ≤ l ∧ i = .int .i64 k ∧ (List.range k).all (fun j => okm (cs.getD j 0)) = true) (fun i => l - (intOf i).toNat)
 case atStart => exact ⟨0, by omega, rfl, rfl⟩
 case round =>
  obtain ⟨k, hk, rfl, hok⟩ := hrel
  have HOK := Lib.hid hok
  clear hok
  have k0 : (0 : Int) ≤ (k : Int) := by omega
  by_cases hlt : k < l
  ·have k1 : (k : Int) < (l : Int) := by omega
   have hix := index_str cs k (by rw [HL.out]; exact hlt)
   obtain ⟨x, hx⟩ : ∃ x, cs.getD k 0 = x := ⟨_, rfl⟩
   rw [hx] at hix
   have HX := Lib.hid hx
   clear hx
   by_cases c1 : bi x < 32
   ·have htt : t = false := by
     rw [← HT.out, all_bad hlt (by rw [HX.out]; unfold okm; simp [show ¬ (32 ≤ bi x) from by omega])]
     simp
    subst htt
    generalize bi x = y at *
    go_wp2
    go_ret
    exact ⟨rfl, rfl⟩
   ·have c1' : 32 ≤ bi x := by omega
    clear c1
    by_cases c2 : 126 < bi x
    ·have htt : t = false := by
      rw [← HT.out, all_bad hlt (by rw [HX.out]; unfold okm; simp [show ¬ (bi x ≤ 126) from by omega])]
      simp
     subst htt
     generalize bi x = y at *
     go_wp2
     go_ret
     exact ⟨rfl, rfl⟩
    ·have c2' : bi x ≤ 126 := by omega
     have HO := Lib.hid (all_next HOK.out (show okm (cs.getD k 0) = true from by rw [HX.out]; unfold okm; simp [c1', c2']))
     clear c2
     generalize bi x = y at *
     go_wp2
     go_round
     case rel => exact ⟨k + 1, by omega, by go_num, HO.out⟩
     case measure => simp [intOf]; omega
  ·obtain rfl : k = l := by omega
   by_cases h2 : k ≤ 200
   ·have h2' : (k : Int) ≤ 200 := by omega
    have htt : t = true := by
     rw [← HT.out, HOK.out]
     simp [h2]
    subst htt
    clear h2
    go_wp2
    go_ret
    have HD : decide ((k : Int) ≤ 200) = true := by simp; omega
    refine ⟨?_, rfl⟩
    first | rfl | (show Ending.returned (.bool (decide ((k : Int) ≤ 200))) = _; rw [HD])
   ·have h2' : (200 : Int) < (k : Int) := by omega
    have htt : t = false := by
     rw [← HT.out]
     simp [h2]
    subst htt
    clear h2
    go_wp2
    go_ret
    have HD : decide ((k : Int) ≤ 200) = false := by simp; omega
    refine ⟨?_, rfl⟩
    show Ending.returned (.bool (decide ((k : Int) ≤ 200))) = _
    rw [HD]
end Go.Proofs.YtpfjlhpahmhkhaaGreat.Ob
