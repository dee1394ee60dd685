/- Texts put together: VRo12. -/
import Derived.Test.YtpfjlhpahmhkhaaGreatQv43
import Derived.Deep.CutBlock
import Derived.Deep.DeepCutAuto
/- The document's Decode. -/
namespace Go.Proofs.YtpfjlhpahmhkhaaGreat.Ob
open Go.RowKit Go.Proofs.YtpfjlhpahmhkhaaGreat.Sh
open Go.Proofs.YtpfjlhpahmhkhaaGreat.Tx (OwnV SlV sv bl nameB reads_at texts_at toList_ne')
def DecX (w w1 wx : World) (b g : Nat) (o : ObM) (s : Rdr) : Prop := ∃ A n c A2 n2 c2 A3 n3 c3, OdX w1 wx w.heap.size b o A n c A2 n2 c2 A3 n3 c3 ∧ RfAt w1 wx g s
set_option maxRecDepth 100000 in
theorem conv_sl (W : World) (A : Option Addr) (x : List UInt8) (n c : Nat) (hn : x.length = n) (h : Sl W (.slice A n c) x) : (convert 32 9 (.slice A n c)).run Tryz.prog W = .ok (.string (str x)) W := by
 subst hn
 obtain ⟨A', c', hv, _, _, hi, hA⟩ := h
 injection hv with e1 e2 e3
 subst e1 e3
 exact conv_str W A x c hi hA
theorem rows_apart {w w1 : World} {T T' : TypeId} {B B' sz sz' n n' : Nat} {v v' : Value} {xs xs' : List Value} (h : w.ownsRow B T sz v n xs) (h' : w.ownsRow B' T' sz' v' n' xs') (hT : T' ≠ T) (hg : w.grownBy w1 v.ownBlock) : w1.ownsRow B' T' sz' v' n' xs' := by
 refine World.ownsRow.kept h' hg ?_
 rcases h'.2 with ⟨rfl, _⟩ | ⟨g', cap, cur, rfl, _, hb, _⟩
 ·exact .inl rfl
 ·right
  have := row_sep h hb hT
  simpa [Value.ownBlock] using this
theorem OdX.grewI {w wx wy : World} {R b : Nat} {o : ObM} {A A2 A3 : Option Addr} {n c n2 c2 n3 c3 : Nat} (h : OdX w wx R b o A n c A2 n2 c2 A3 n3 c3) (hg : wx.grownBy wy (Value.slice A2 n2 c2).ownBlock) {A' : Option Addr} {n' c' : Nat} {l : List ItM} (hi : OwnI 300 wy w.heap.size (.slice A' n' c') l) :
  Blk wy b 199 #[.int .i64 o.kind, .slice A n c, .slice A2 n2 c2, .string (str o.tree), .slice A3 n3 c3, .int .i64 o.stamp, .int .i64 o.author, .string (str o.msg)] ∧ Below w.heap.size wx wy ∧ OdX w (wy.setCell ⟨b, 2, none⟩ (.slice A' n' c')) R b { o with items := l } A n c A' n' c' A3 n3 c3 := by
 have hi9 : wx.ownsRow w.heap.size 300 3 (.slice A2 n2 c2) o.items.length (o.items.flatMap itC) := h.items
 have hb := h.blk.grown hg (row_sep hi9 h.blk (by decide))
 have hbl : Below w.heap.size wx wy := (Below.refl _ _).grown hg h.below.size (fun k hk => (World.ownsRow.lt hi9 k hk).1)
 have hu := (Upd.refl b wy).set_ 2 (.slice A' n' c')
 have hr := h.res.grown hg (row_sep hi9 h.res (by decide))
 refine ⟨hb, hbl, ⟨by simpa using hb.set_ 2 (.slice A' n' c'), row_upd (rows_apart hi9 h.data (by decide) hg) hb (by decide) hu, row_upd hi hb (by decide) hu, row_upd (rows_apart hi9 h.pars (by decide) hg) hb (by decide) hu, (h.below.trans hbl).trans (hu.below h.lowb (h.below.trans hbl).size), hu.blk hr h.apart, h.apart, h.lowb⟩⟩
theorem OdX.grewP {w wx wy : World} {R b : Nat} {o : ObM} {A A2 A3 : Option Addr} {n c n2 c2 n3 c3 : Nat} (h : OdX w wx R b o A n c A2 n2 c2 A3 n3 c3) (hg : wx.grownBy wy (Value.slice A3 n3 c3).ownBlock) {A' : Option Addr} {n' c' : Nat} {l : List (List UInt8)} (hi : Tx.OwnV 9 wy w.heap.size (.slice A' n' c') ((l.map str).map Tx.sv)) :
  Blk wy b 199 #[.int .i64 o.kind, .slice A n c, .slice A2 n2 c2, .string (str o.tree), .slice A3 n3 c3, .int .i64 o.stamp, .int .i64 o.author, .string (str o.msg)] ∧ Below w.heap.size wx wy ∧ OdX w (wy.setCell ⟨b, 4, none⟩ (.slice A' n' c')) R b { o with parents := l } A n c A2 n2 c2 A' n' c' := by
 have hi9 : wx.ownsRow w.heap.size 9 1 (.slice A3 n3 c3) ((o.parents.map str).map Tx.sv).length ((o.parents.map str).map Tx.sv) := h.pars
 have hb := h.blk.grown hg (row_sep hi9 h.blk (by decide))
 have hbl : Below w.heap.size wx wy := (Below.refl _ _).grown hg h.below.size (fun k hk => (World.ownsRow.lt hi9 k hk).1)
 have hu := (Upd.refl b wy).set_ 4 (.slice A' n' c')
 have hr := h.res.grown hg (row_sep hi9 h.res (by decide))
 refine ⟨hb, hbl, ⟨by simpa using hb.set_ 4 (.slice A' n' c'), row_upd (rows_apart hi9 h.data (by decide) hg) hb (by decide) hu, row_upd (rows_apart hi9 h.items (by decide) hg) hb (by decide) hu, row_upd hi hb (by decide) hu, (h.below.trans hbl).trans (hu.below h.lowb (h.below.trans hbl).size), hu.blk hr h.apart, h.apart, h.lowb⟩⟩
theorem zero_obV (W : World) : ObV W (.agg #[.int .i64 0, .slice none 0 0, .slice none 0 0, .string (str []), .slice none 0 0, .int .i64 0, .int .i64 0, .string (str [])]) (objK 0) :=
 ⟨_, _, _, rfl, (Own.nil_ W 0).sl, (OwnI.nil_ 300 W 0).slI, (Tx.OwnV.nil_ (E := 9) W 0).slv⟩
structure RDecIs (bs : List UInt8) (v : Value) (k : Int) (w' : World) : Prop where
 yes : decB bs = true → k = 0 ∧ ObV w' v (objR bs).1
 no : decB bs = false → ObV w' v (objK 0)
 short : bs = [] → k = 2
 form : bs ≠ [] → decB bs = false → k = 4
def RDecPost (w : World) (bs : List UInt8) (e : Ending) (w' : World) : Prop := ∃ v k, e = .returned (.tuple #[v, .int .i64 k]) ∧ RDecIs bs v k w' ∧ Below w.heap.size w w'
theorem rdec_ok {w' : World} {bs : List UInt8} {v : Value} {o : ObM} (h : decB bs = true) (hb : bs ≠ []) (hr : (objR bs).1 = o) (ho : ObV w' v o) : RDecIs bs v 0 w' :=
 ⟨fun _ => ⟨rfl, by rw [hr]; exact ho⟩, (fun h2 => by rw [h] at h2; cases h2), fun h2 => absurd h2 hb, fun _ h2 => by rw [h] at h2; cases h2⟩
theorem rdec_no {w' : World} {bs : List UInt8} {v : Value} (h : decB bs = false) (hb : bs ≠ []) (ho : ObV w' v (objK 0)) : RDecIs bs v 4 w' :=
 ⟨(fun h2 => by rw [h] at h2; cases h2), fun _ => ho, fun h2 => absurd h2 hb, fun _ _ => rfl⟩
theorem rdec_nil {w' : World} {v : Value} (ho : ObV w' v (objK 0)) : RDecIs [] v 2 w' :=
 ⟨(fun h2 => by rw [decB_nil] at h2; cases h2), fun _ => ho, fun _ => rfl, fun h2 => absurd rfl h2⟩
set_option linter.unusedSimpArgs false in
set_option maxRecDepth 100000 in
set_option maxHeartbeats 25600000 in
theorem rdecode_any (v : Value) (bs : List UInt8) (w : World) (h : Sl w v bs) (hlen : bs.length ≤ 1000000) : Calls Tryz.prog 127 #[v] w (RDecPost w bs) := by
 have HSL := Lib.hid h
 obtain ⟨A, c, rfl, hlc, hcm, _⟩ := h.len
 unfold maxLen at hcm
 obtain ⟨wz, hwz⟩ : ∃ W, W = w.alloc (.cells #[.int .i64 0, .slice none 0 0, .slice none 0 0, .string ⟨#[]⟩, .slice none 0 0, .int .i64 0, .int .i64 0, .string ⟨#[]⟩] 199) := ⟨_, rfl⟩
 have HY0 : Hid (Blk wz w.heap.size 199 zero6) := by unfold Hid; rw [hwz]; exact Blk.new _ _ _
 have HB0 : Hid (Below w.heap.size w wz) := by unfold Hid; rw [hwz]; exact (Below.refl _ _).alloc (Nat.le_refl _) _
 cases bs with
 | nil =>
  clear h
  simp only [List.length_nil] at hlc ⊢
  go_enter Tryz.func127, Tryz.ntmps127
  go_upto_region 1 with (fail)
  rw [← hwz]
  clear hwz
  obtain ⟨z0, z1, z2, z3, z4, z5, z6, z7⟩ := box_cells HY0.out
  obtain ⟨f0, f1, f2, f3, f4, f5, f6, f7⟩ := cells8 HY0.out
  go_wp2_with fail
  change bodyPost _ _ _ _ _ (set8 wz w.heap.size (.int .i64 0) (.slice none 0 0) (.slice none 0 0) (.string (str [])) (.slice none 0 0) (.int .i64 0) (.int .i64 0) (.string (str [])))
  obtain ⟨wc, hwc⟩ : ∃ wc, wc = set8 wz w.heap.size (.int .i64 0) (.slice none 0 0) (.slice none 0 0) (.string (str [])) (.slice none 0 0) (.int .i64 0) (.int .i64 0) (.string (str [])) := ⟨_, rfl⟩
  have hb8 := set8_blk HY0.out (.int .i64 0) (.slice none 0 0) (.slice none 0 0) (.string (str [])) (.slice none 0 0) (.int .i64 0) (.int .i64 0) (.string (str []))
  have hu8 := set8_upd wz w.heap.size (.int .i64 0) (.slice none 0 0) (.slice none 0 0) (.string (str [])) (.slice none 0 0) (.int .i64 0) (.int .i64 0) (.string (str []))
  rw [← hwc] at hb8 hu8 ⊢
  obtain ⟨q0, q1, q2, q3, q4, q5, q6, q7⟩ := box_cells hb8
  refine bodyPost_ret (v := .tuple #[.agg #[.int .i64 0, .slice none 0 0, .slice none 0 0, .string (str []), .slice none 0 0, .int .i64 0, .int .i64 0, .string (str [])], .int .i64 2]) (by simp [results, Tryz.results127, go_sem, q0, q1, q2, q3, q4, q5, q6, q7]) rfl ?_
  exact ⟨_, _, rfl, rdec_nil (zero_obV _), (HB0.out).trans (hu8.below (Nat.le_refl _) (HB0.out).size)⟩
 | cons b0 t =>
  obtain ⟨l, hl⟩ : ∃ l, (b0 :: t).length = l := ⟨_, rfl⟩
  have HL := Lib.hid hl
  have hl0 : 0 < l := by rw [← hl]; simp
  have HLN := Lib.hid hlen
  rw [hl] at hlc
  obtain ⟨ad, hA, hc0⟩ : ∃ ad, A = some ad ∧ ∀ W, Below w.heap.size w W → W.cell? ad = some (.int .u8 (bi b0)) := by
   obtain ⟨A', c', hv, _, _, hI⟩ := HSL.out.len
   injection hv with q1 q2 q3
   subst q1
   obtain ⟨ad, rfl, hc⟩ := hI.at_ 0 (by simp)
   refine ⟨ad, rfl, fun W hW => ?_⟩
   have h9 := HSL.out.below hW
   obtain ⟨A', c', hv, _, _, hI⟩ := h9.len
   injection hv with q1 q2 q3
   subst q1
   obtain ⟨ad', he, hc⟩ := hI.at_ 0 (by simp)
   injection he with he
   subst he
   rw [show ad.add 0 = ad from by simp [Addr.add]] at hc
   exact hc
  subst hA
  obtain ⟨k, hk⟩ : ∃ k, b0.toNat = k := ⟨_, rfl⟩
  have hbk : bi b0 = (k : Int) := by unfold bi; rw [hk]
  have e0 : ((l : Int) == 0) = false := beq_eq_false_iff_ne.2 (by omega)
  have hw0 : IntKind.i64.wrap (k : Int) = (k : Int) := by
   have := bi_lt b0
   rw [IntKind.wrap_i64]
   omega
  have HO2 : Hid (objR2 (b0 :: t) = objS2 k (t, false)) := by unfold Hid objR2; rw [octR_cons, hk]
  have HC0 : Hid (∀ W, Below w.heap.size w W → W.cell? ad = some (.int .u8 (k : Int))) := by unfold Hid; rw [← hbk]; exact hc0
  have hml : t.length + 1 = l := by rw [← hl]; simp
  have HML := Lib.hid hml
  rw [hl] at HSL ⊢
  clear h hl hc0 hlen hbk hk hml
  go_enter Tryz.func127, Tryz.ntmps127
  go_upto_region 1 with (fail)
  rw [← hwz]
  clear hwz
  go_wp2_with fail
  refine (copyb_any (.slice (some ad) l c) (b0 :: t) wz (HSL.out.below HB0.out) (by have := HLN.out; omega)).mono ?_
  rintro e w1 ⟨u1, rfl, hu1, hb1⟩
  have HB1 := Lib.hid (Below.after HB0.out hb1)
  have HY1 := Lib.hid (HY0.out.below hb1 HY0.out.lt)
  have HU1 := Lib.hid hu1.sl
  obtain ⟨u1A, u1c, rfl, hu1l, hu1m, _⟩ := hu1.sl.len
  rw [HL.out] at HU1 hu1l ⊢
  unfold maxLen at hu1m
  have hz1 : w.heap.size < w1.heap.size := HY1.out.lt
  have hk1 := HC0.out (w1.alloc (.cells #[.slice u1A l u1c, .int .i64 1, .bool false] 297)) (HB1.out.alloc (Nat.le_of_lt hz1) _)
  clear hu1 hb1
  go_upto_block 0 with (fail)
  obtain ⟨w2, hw2⟩ : ∃ W, W = (w1.alloc (.cells #[.slice u1A l u1c, .int .i64 1, .bool false] 297)).alloc (.cells #[.int .i64 (k : Int), .slice none 0 0, .slice none 0 0, .string ⟨#[]⟩, .slice none 0 0, .int .i64 0, .int .i64 0, .string ⟨#[]⟩] 199) := ⟨_, rfl⟩
  have HRF : Hid (RfAt w1 w2 w1.heap.size (t, false)) := by
   refine ⟨u1A, u1c, b0 :: t, 1, false, ?_, by rw [HL.out]; exact HU1.out, by rw [HL.out]; exact hl0, HLN.out, by rw [absR_ok]; rfl, Nat.le_refl _, ?_⟩
   ·rw [hw2, HL.out]
    exact (Blk.new _ _ _).alloc _
   ·rw [hw2]
    exact ((Below.refl _ _).alloc (Nat.le_refl _) _).alloc (by simp) _
  have HOX : Hid (OdX w1 w2 w.heap.size (w1.heap.size + 1) (objK (k : Int)) none 0 0 none 0 0 none 0 0) := by
   refine ⟨?_, Own.nil_ _ _, OwnI.nil_ _ _ _, Tx.OwnV.nil_ _ _, ?_, ?_, by omega, by omega⟩
   ·rw [hw2]
    show Blk _ (w1.heap.size + 1) _ _
    rw [show w1.heap.size + 1 = (w1.alloc (.cells #[.slice u1A l u1c, .int .i64 1, .bool false] 297)).heap.size from by simp]
    exact Blk.new _ _ _
   ·rw [hw2]
    exact ((Below.refl _ _).alloc (Nat.le_refl _) _).alloc (by simp) _
   ·rw [hw2]
    exact (HY1.out.alloc _).alloc _
  rw [← hw2]
  clear hw2 hk1
  have HZ : Hid (w1.heap.size ≤ w1.heap.size) := Nat.le_refl _
  go_cut [] (fun wx => DecX w w1 wx (w1.heap.size + 1) w1.heap.size (objR2 (b0 :: t)).1 (objR2 (b0 :: t)).2)
  case first =>
   obtain ⟨x0, x1, x2, x3, x4, x5, x6, x7⟩ := box_cells HOX.out.blk
   obtain ⟨f0, f1, f2, f3, f4, f5, f6, f7⟩ := cells8 HOX.out.blk
   by_cases h1 : k = 1
   ·subst h1
    obtain ⟨m, hm⟩ : ∃ m, t.length = m := ⟨_, rfl⟩
    have hm2 : l = m + 1 := by have := HML.out; omega
    have hwm : IntKind.i64.wrap ((l : Int) - 1) = (m : Int) := by rw [IntKind.wrap_i64]; omega
    have hwm3 : (l : Int) - 1 = (m : Int) := by omega
    have HM := Lib.hid hm
    have HM2 : Hid (m ≤ 1000000) := by have := HLN.out; rw [List.length_cons] at this; unfold Hid; omega
    clear hm hm2
    go_wp2_with fail
    refine (rtake_any w1 w2 w1.heap.size m (t, false) HRF.out (by have := HM2.out; omega)).mono ?_
    rintro e w3 ⟨u3, rfl, ho3, hr3, hu3⟩
    obtain ⟨cs, hcs⟩ := HRF.out.blk
    have HR3 := Lib.hid hr3
    have HO3 := Lib.hid (HOX.out.upd hcs hu3 HZ.out)
    have HD3 := Lib.hid (Own.base ho3 HOX.out.below.size)
    obtain ⟨A3, c3, rfl, _⟩ := ho3.sl.len
    obtain ⟨y0, y1, y2, y3, y4, y5, y6, y7⟩ := box_cells HO3.out.blk
    obtain ⟨g0, g1, g2, g3, g4, g5, g6, g7⟩ := cells8 HO3.out.blk
    clear x0 x1 x2 x3 x4 x5 x6 x7 f0 f1 f2 f3 f4 f5 f6 f7 ho3 hr3 hu3 hcs
    go_wp2_with fail
    go_meet
    have h9 := HO3.out.setData HD3.out
    have h8 := HR3.out.set_ (i := 1) HO3.out.blk (by decide) (by omega : w1.heap.size ≤ w1.heap.size + 1) (.slice A3 (takeR (t, false) m).1.length c3)
    have e9 : objS2 1 (t, false) = (⟨1, (takeR (t, false) m).1, [], [], [], 0, 0, []⟩, (takeR (t, false) m).2) := by
     unfold objS2
     rw [if_pos rfl]
     show (_, (takeR (t, false) t.length).2) = _
     rw [HM.out]
    rw [HO2.out, e9]
    exact ⟨_, _, _, _, _, _, _, _, _, h9, h8⟩
   ·have hk1 : ((k : Int) == 1) = false := beq_eq_false_iff_ne.2 (by omega)
    by_cases h2 : k = 2
    ·subst h2
     obtain ⟨N, s0, e0'⟩ : ∃ N s0, numR (t, false) = (N, s0) := ⟨_, _, pe _⟩
     have hnb := numR_le (t, false)
     have hnl := numR_len (t, false)
     rw [e0'] at hnb hnl
     have HNB : Hid (N ≤ 72057594037927936) := hnb
     have HNL : Hid (s0.1.length ≤ 1000000) := by have := HLN.out; rw [List.length_cons] at this; have h9 : s0.1.length ≤ t.length := hnl; unfold Hid; omega
     have HE0 := Lib.hid e0'
     have HOB : Hid (objS2 2 (t, false) = (⟨2, [], (itemsR N s0).1, [], [], 0, 0, []⟩, (itemsR N s0).2)) := by
      unfold Hid objS2
      rw [if_neg (by decide), if_pos rfl, e0']
     clear e0' hnb hnl
     go_wp2_with fail
     refine (rnum_any w1 w2 w1.heap.size (t, false) HRF.out).mono ?_
     rw [HE0.out]
     rintro e w3 ⟨rfl, hr3, hu3⟩
     obtain ⟨cs, hcs⟩ := HRF.out.blk
     have HR3 := Lib.hid hr3
     have HO3 := Lib.hid (HOX.out.upd hcs hu3 HZ.out)
     clear x0 x1 x2 x3 x4 x5 x6 x7 f0 f1 f2 f3 f4 f5 f6 f7 hr3 hu3 hcs
     go_wp2_with fail
     go_loopw [7] (fun iv wr => ∃ (i : Nat) (acc : List ItM) (q : Rdr) (A2 : Option Addr) (n2 c2 : Nat), iv = .int .i64 i ∧ i ≤ N ∧ OdX w1 wr w.heap.size (w1.heap.size + 1) ⟨2, [], acc, [], [], 0, 0, []⟩ none 0 0 A2 n2 c2 none 0 0 ∧ RfAt w1 wr w1.heap.size q ∧ itemsR N s0 = (acc ++ (itemsR (N - i) q).1, (itemsR (N - i) q).2) ∧ (q.2 = false → acc.length + q.1.length ≤ 1000000) ∧ acc.length ≤ 1000001) (fun iv _ => N - (intOf iv).toNat)
     case atStart => exact ⟨0, [], s0, none, 0, 0, rfl, Nat.zero_le _, HO3.out, HR3.out, by simp, fun _ => by simpa using HNL.out, by simp⟩
     case round =>
      obtain ⟨i, acc, q, A2, n2, c2, rfl, hi, ho, hr, he, hb1, hb2⟩ := hrel
      have HOX := Lib.hid ho
      have HRF := Lib.hid hr
      have HE := Lib.hid he
      have HB1' := Lib.hid hb1
      have HB2 := Lib.hid hb2
      obtain ⟨f, hf⟩ : ∃ f, q.2 = f := ⟨_, rfl⟩
      have x2 := hr.flag
      rw [hf] at x2
      have HF := Lib.hid hf
      have i0 : (0 : Int) ≤ (i : Int) := by omega
      clear ho hr he hb1 hb2 hf
      by_cases hlt : i < N
      ·have HLT : Hid (i < N) := hlt
       have hwr : IntKind.i64.wrap ((i : Int) + 1) = (i : Int) + 1 := by have := HNB.out; rw [IntKind.wrap_i64]; omega
       have k1 : (i : Int) < (N : Int) := by omega
       have k1' : decide ((i : Int) < (N : Int)) = true := by simp; omega
       have k1'' : decide (i < N) = true := by simp; omega
       cases f with
       | true =>
        have HZZ : Hid (itemsR N s0 = (acc, q)) := by
         unfold Hid
         have := HE.out
         rw [itemsR_fail _ q HF.out] at this
         simpa using this
        go_wp2_with fail
        go_meet
        rw [HO2.out, HOB.out, HZZ.out]
        exact ⟨_, _, _, _, _, _, _, _, _, HOX.out, HRF.out⟩
       | false =>
        have HST : Hid (itemsR N s0 = ((acc ++ [(itemR q).1]) ++ (itemsR (N - (i + 1)) (itemR q).2).1, (itemsR (N - (i + 1)) (itemR q).2).2)) := by
         have := HE.out
         rw [show N - i = (N - (i + 1)) + 1 from by omega, itemsR_step _ q HF.out] at this
         unfold Hid
         rw [this]
         simp
        have HLN2 := Lib.hid (itemR_len q)
        obtain ⟨m, q1, e1⟩ : ∃ m q1, octR q = (m, q1) := ⟨_, _, pe _⟩
        obtain ⟨z, q2, e2⟩ : ∃ z q2, numR q1 = (z, q2) := ⟨_, _, pe _⟩
        obtain ⟨x, q3, e3⟩ : ∃ x q3, takeR q2 z = (x, q3) := ⟨_, _, pe _⟩
        obtain ⟨y, q4, e4⟩ : ∃ y q4, takeR q3 32 = (y, q4) := ⟨_, _, pe _⟩
        have hz9 := numR_le q1
        rw [e2] at hz9
        have HZ9 : Hid (z ≤ 72057594037927936) := hz9
        have hy9 := (takeR_len q3 32).1
        rw [e4] at hy9
        have HY9 : Hid (y.length ≤ 32) := hy9
        have HIT9 : Hid (itemR q = (((m : Int), x, hexL y), q4)) := by
         unfold Hid itemR textR hashR
         rw [e1]
         simp only
         rw [e2]
         simp only
         rw [e3]
         simp only
         rw [e4]
        have HE1 := Lib.hid e1
        have HE2 := Lib.hid e2
        have HE3 := Lib.hid e3
        have HE4 := Lib.hid e4
        clear e1 e2 e3 e4 hz9 hy9
        go_wp2_with fail
        refine (rbyte_any w1 wr w1.heap.size q HRF.out).mono ?_
        rw [HE1.out]
        rintro e w4 ⟨rfl, hr4, hu4⟩
        obtain ⟨cs, hcs⟩ := HRF.out.blk
        replace HOX := Lib.hid (HOX.out.upd hcs hu4 HZ.out)
        replace HRF := Lib.hid hr4
        clear x2 hr4 hu4 hcs
        go_wp2_with fail
        refine (rnum_any w1 w4 w1.heap.size q1 HRF.out).mono ?_
        rw [HE2.out]
        rintro e w5 ⟨rfl, hr5, hu5⟩
        obtain ⟨cs, hcs⟩ := HRF.out.blk
        replace HOX := Lib.hid (HOX.out.upd hcs hu5 HZ.out)
        replace HRF := Lib.hid hr5
        clear hr5 hu5 hcs
        go_wp2_with fail
        refine (rtake_any w1 w5 w1.heap.size z q2 HRF.out HZ9.out).mono ?_
        rw [HE3.out]
        rintro e w6 ⟨u6, rfl, ho6, hr6, hu6⟩
        obtain ⟨cs, hcs⟩ := HRF.out.blk
        have HX0 := Lib.hid (Own.base ho6 HOX.out.below.size)
        replace HOX := Lib.hid (HOX.out.upd hcs hu6 HZ.out)
        replace HRF := Lib.hid hr6
        obtain ⟨uA, uc, rfl, _⟩ := ho6.sl.len
        obtain ⟨xl, hxl⟩ : ∃ n, x.length = n := ⟨_, rfl⟩
        have HXL := Lib.hid hxl
        rw [hxl] at HX0 ⊢
        clear hr6 hu6 hcs ho6 hxl
        obtain ⟨i9, hi9, hz0, hz1', hz2⟩ := info_parts info_item6
        have HIT : Hid (Tryz.prog.info? 300 = some i9) := hi9
        clear hi9
        go_upto_region 15 with (fail)
        replace HOX := Lib.hid (HOX.out.still (Below.refl _ _).drew)
        replace HRF := Lib.hid (HRF.out.below (Below.refl _ _).drew)
        have HX : Hid (Own w6.drew w1.heap.size (.slice uA xl uc) x) := HX0.out
        clear HX0
        refine wp_region_held_drew (S := (fun W : World => Sl W (.slice uA xl uc) x)) (by kernel_rfl) ?_ (fun hHeld => ?_)
        ·(try dsimp only); exact HX.out.sl
        refine take_at (i := 0) (d := 59) (v := ?_) rfl (by kernel_rfl) (hy := .inl ⟨by kernel_rfl, ?_⟩) (h := ?_)
        rotate_left
        ·intro W hSw; (try dsimp only at hSw); go_simp; first | done | with_reducible rfl
        try simp only [Act.put, List.setIfInBounds_toArray, List.set_cons_zero, List.set_cons_succ]
        refine take_at (i := 2) (d := 61) (v := ?_) rfl (by kernel_rfl) (hy := .inl ⟨by kernel_rfl, ?_⟩) (h := ?_)
        rotate_left
        ·intro W hSw; (try dsimp only at hSw); go_simp; first | done | with_reducible rfl
        try simp only [Act.put, List.setIfInBounds_toArray, List.set_cons_zero, List.set_cons_succ]
        refine take_at (i := 3) (d := 62) (v := ?_) rfl (by kernel_rfl) (hy := .inl ⟨by kernel_rfl, ?_⟩) (h := ?_)
        rotate_left
        ·intro W hSw; (try dsimp only at hSw); go_simp; first | done | with_reducible rfl
        try simp only [Act.put, List.setIfInBounds_toArray, List.set_cons_zero, List.set_cons_succ]
        refine take_at (i := 4) (d := 63) (v := ?_) rfl (by kernel_rfl) (hy := .inl ⟨by kernel_rfl, ?_⟩) (h := ?_)
        rotate_left
        ·intro W hSw
         try dsimp only at hSw
         have kc := conv_sl W uA x xl uc HXL.out hSw
         go_simp
         first | done | with_reducible rfl
        try simp only [Act.put, List.setIfInBounds_toArray, List.set_cons_zero, List.set_cons_succ]
        refine take_at (i := 5) (d := 64) (v := ?_) rfl (by kernel_rfl) (hy := .inl ⟨by kernel_rfl, ?_⟩) (h := ?_)
        rotate_left
        ·intro W hSw; (try dsimp only at hSw); go_simp; first | done | with_reducible rfl
        try simp only [Act.put, List.setIfInBounds_toArray, List.set_cons_zero, List.set_cons_succ]
        refine wpAnyH_ready (rs := [1, 6]) (by kernel_rfl) (by simp) (AllReadyH.cons rfl (fun K hK => ?_) (AllReadyH.cons rfl (fun K hK => ?_) AllReadyH.nil))
        ·have y2 := HOX.out.blk.cell 2
         go_simp
         clear y2
         try go_wp2_with fail
         refine hK.out _ _ ?_ (fun hHeld => ?_)
         ·(try dsimp only); exact HX.out.sl
         clear hK K
         try simp only [Act.put, List.setIfInBounds_toArray, List.set_cons_zero, List.set_cons_succ]
         refine wpAnyH_ready (rs := [6]) (by kernel_rfl) (by simp) (AllReadyH.cons rfl (fun K hK => ?_) AllReadyH.nil)
         go_simp
         go_at_call 205
         refine (rtake_any w1 _ w1.heap.size 32 q3 HRF.out (by decide)).mono ?_
         rw [HE4.out]
         rintro e w7 ⟨u7, rfl, ho7, hr7, hu7⟩
         obtain ⟨cs, hcs⟩ := HRF.out.blk
         have hx7 : Own w7 w1.heap.size (.slice uA xl uc) x := row_upd HX.out hcs (by decide) hu7
         replace HX := Lib.hid hx7
         replace HOX := Lib.hid (HOX.out.upd hcs hu7 HZ.out)
         replace HRF := Lib.hid hr7
         have HT7 := Lib.hid ho7.sl
         obtain ⟨A7, c7, rfl, _⟩ := ho7.sl.len
         clear hr7 hu7 ho7 hcs hx7
         try go_wp2_with fail
         refine hK.out _ _ ?_ (fun hHeld => ?_)
         ·(try dsimp only); exact HX.out.sl
         clear hK K
         try simp only [Act.put, List.setIfInBounds_toArray, List.set_cons_zero, List.set_cons_succ]
         refine wpAnyH_ready (rs := [7]) (by kernel_rfl) (by simp) (AllReadyH.cons rfl (fun K hK => ?_) AllReadyH.nil)
         go_simp
         go_at_call 186
         refine (rhex_any _ y _ HT7.out (by have := HY9.out; omega)).mono ?_
         rintro e w8 ⟨rfl, hb8⟩
         replace HX := Lib.hid (HX.out.below hb8)
         replace HOX := Lib.hid (HOX.out.still hb8)
         replace HRF := Lib.hid (HRF.out.below hb8)
         clear hb8
         try go_wp2_with fail
         refine hK.out _ _ ?_ (fun hHeld => ?_)
         ·(try dsimp only); exact HX.out.sl
         clear hK K
         try simp only [Act.put, List.setIfInBounds_toArray, List.set_cons_zero, List.set_cons_succ]
         refine take_at (i := 8) (d := 67) (v := ?_) rfl (by kernel_rfl) (hy := .inl ⟨by kernel_rfl, ?_⟩) (h := ?_)
         rotate_left
         ·intro W hSw; (try dsimp only at hSw); go_simp; first | done | with_reducible rfl
         try simp only [Act.put, List.setIfInBounds_toArray, List.set_cons_zero, List.set_cons_succ]
         refine wpAnyH_ready (rs := [9]) (by kernel_rfl) (by simp) (AllReadyH.cons rfl (fun K hK => ?_) AllReadyH.nil)
         go_simp
         have HRA := Lib.hid (item_reads w8 300 ((m : Int), x, hexL y))
         replace HX := Lib.hid (HX.out.alloc (.cells #[.int .i64 (m : Int), .string (str x), .string (str (hexL y))] 300))
         have hbl9 : Below w8.heap.size w8 (w8.alloc (.cells #[.int .i64 (m : Int), .string (str x), .string (str (hexL y))] 300)) := (Below.refl _ _).alloc (Nat.le_refl _) _
         replace HOX := Lib.hid (HOX.out.still hbl9)
         replace HRF := Lib.hid (HRF.out.below hbl9)
         clear hbl9
         try go_wp2_with fail
         refine hK.out _ _ ?_ (fun hHeld => ?_)
         ·(try dsimp only); exact HX.out.sl
         clear hK K
         try simp only [Act.put, List.setIfInBounds_toArray, List.set_cons_zero, List.set_cons_succ]
         refine wpAnyH_ready (rs := [10]) (by kernel_rfl) (by simp) (AllReadyH.cons rfl (fun K hK => ?_) AllReadyH.nil)
         have hac := HB2.out
         refine step_append_any _ rfl (.tmp 60) (.tmp 68) 197 rfl w1.heap.size 300 i9 (.agg #[.int .i64 0, .string ⟨#[]⟩, .string ⟨#[]⟩]) 3 40 Tryz.underlying197 HIT.out hz0 hz1' hz2 rfl (by decide) (.slice A2 n2 c2) acc.length _ rfl (by exact HOX.out.items) _ (some ⟨w8.heap.size, 0, none⟩) 1 1 ([(((m : Int), x, hexL y) : ItM)].flatMap itC) rfl (by exact HRA.out) (itC_one [((m : Int), x, hexL y)]) (by unfold maxLen; omega) (by omega) (by exact HOX.out.below.size) ?_
         intro v9 w9 ho9 hg9 hk9
         have HO9 : Hid (OwnI 300 w9 w1.heap.size v9 (acc ++ [((m : Int), x, hexL y)])) := (by unfold Hid OwnI; rw [List.length_append, List.flatMap_append]; exact ho9)
         obtain ⟨A9, c9, rfl, _⟩ := HO9.out.slI
         obtain ⟨n9, hn9⟩ : ∃ n, (acc ++ [((m : Int), x, hexL y)]).length = n := ⟨_, rfl⟩
         rw [hn9] at HO9 ⊢
         obtain ⟨hb9, hl9, hf9⟩ := HOX.out.grewI hg9 HO9.out
         have HBX := Lib.hid hb9
         have HFX := Lib.hid hf9
         have hr9 : RfAt w1 w9 w1.heap.size q4 := HRF.out.row HOX.out.items (by decide) hg9 HZ.out HOX.out.below.size
         have hx9 : Own w9 w1.heap.size (.slice uA xl uc) x := rows_apart HOX.out.items HX.out (by decide) hg9
         replace HX := Lib.hid hx9
         replace HRF := Lib.hid hr9
         clear ho9 hg9 hk9 hn9 hb9 hl9 hf9 hr9 hx9 hac
         try go_wp2_with fail
         refine hK.out _ _ ?_ (fun hHeld => ?_)
         ·(try dsimp only); exact HX.out.sl
         clear hK K
         try simp only [Act.put, List.setIfInBounds_toArray, List.set_cons_zero, List.set_cons_succ]
         refine take_at (i := 11) (d := 70) (v := ?_) rfl (by kernel_rfl) (hy := .inl ⟨by kernel_rfl, ?_⟩) (h := ?_)
         rotate_left
         ·intro W hSw; (try dsimp only at hSw); go_simp; first | done | with_reducible rfl
         try simp only [Act.put, List.setIfInBounds_toArray, List.set_cons_zero, List.set_cons_succ]
         refine wpAnyH_ready (rs := [12]) (by kernel_rfl) (by simp) (AllReadyH.cons rfl (fun K hK => ?_) AllReadyH.nil)
         have g2 := HBX.out.frozen 2
         have y2 := HBX.out.cell 2
         go_simp
         clear g2 y2
         have hx10 : Own (w9.setCell ⟨w1.heap.size + 1, 2, none⟩ (.slice A9 n9 c9)) w1.heap.size (.slice uA xl uc) x := row_upd HX.out HBX.out (by decide) ((Upd.refl _ _).set_ 2 _)
         replace HX := Lib.hid hx10
         clear hx10
         try go_wp2_with fail
         refine hK.out _ _ ?_ (fun hHeld => ?_)
         ·(try dsimp only); exact HX.out.sl
         clear hK K
         refine wpAnyH_done (by kernel_rfl) ?_ _
         go_wp2_with fail
         go_roundw
         case rel =>
          have hlt9 : i < N := HLT.out
          have hnb9 : N ≤ 72057594037927936 := HNB.out
          have hr10 := HRF.out.set_ (i := 2) HBX.out (by decide) (by omega : w1.heap.size ≤ w1.heap.size + 1) (.slice A9 n9 c9)
          have hst := HST.out
          have hln := HLN2.out.2
          rw [HIT9.out] at hst hln
          refine ⟨i + 1, acc ++ [((m : Int), x, hexL y)], q4, A9, n9, c9, by go_num, by omega, HFX.out, hr10, hst, fun hf => ?_, ?_⟩
          ·have h1 := HB1'.out HF.out
           have h2 : q4.1.length + 1 ≤ q.1.length := hln hf
           rw [List.length_append, List.length_singleton]
           omega
          ·have h1 := HB1'.out HF.out
           rw [List.length_append, List.length_singleton]
           omega
         case measure => have hlt9 : i < N := HLT.out; have hnb9 : N ≤ 72057594037927936 := HNB.out; simp [intOf]; omega
        ·go_simp
         go_at_call 205
         refine (rtake_any w1 _ w1.heap.size 32 q3 HRF.out (by decide)).mono ?_
         rw [HE4.out]
         rintro e w7 ⟨u7, rfl, ho7, hr7, hu7⟩
         obtain ⟨cs, hcs⟩ := HRF.out.blk
         have hx7 : Own w7 w1.heap.size (.slice uA xl uc) x := row_upd HX.out hcs (by decide) hu7
         replace HX := Lib.hid hx7
         replace HOX := Lib.hid (HOX.out.upd hcs hu7 HZ.out)
         replace HRF := Lib.hid hr7
         have HT7 := Lib.hid ho7.sl
         obtain ⟨A7, c7, rfl, _⟩ := ho7.sl.len
         clear hr7 hu7 ho7 hcs hx7
         try go_wp2_with fail
         refine hK.out _ _ ?_ (fun hHeld => ?_)
         ·(try dsimp only); exact HX.out.sl
         clear hK K
         try simp only [Act.put, List.setIfInBounds_toArray, List.set_cons_zero, List.set_cons_succ]
         refine wpAnyH_ready (rs := [1, 7]) (by kernel_rfl) (by simp) (AllReadyH.cons rfl (fun K hK => ?_) (AllReadyH.cons rfl (fun K hK => ?_) AllReadyH.nil))
         ·have y2 := HOX.out.blk.cell 2
          go_simp
          clear y2
          try go_wp2_with fail
          refine hK.out _ _ ?_ (fun hHeld => ?_)
          ·(try dsimp only); exact HX.out.sl
          clear hK K
          try simp only [Act.put, List.setIfInBounds_toArray, List.set_cons_zero, List.set_cons_succ]
          refine wpAnyH_ready (rs := [7]) (by kernel_rfl) (by simp) (AllReadyH.cons rfl (fun K hK => ?_) AllReadyH.nil)
          go_simp
          go_at_call 186
          refine (rhex_any _ y _ HT7.out (by have := HY9.out; omega)).mono ?_
          rintro e w8 ⟨rfl, hb8⟩
          replace HX := Lib.hid (HX.out.below hb8)
          replace HOX := Lib.hid (HOX.out.still hb8)
          replace HRF := Lib.hid (HRF.out.below hb8)
          clear hb8
          try go_wp2_with fail
          refine hK.out _ _ ?_ (fun hHeld => ?_)
          ·(try dsimp only); exact HX.out.sl
          clear hK K
          try simp only [Act.put, List.setIfInBounds_toArray, List.set_cons_zero, List.set_cons_succ]
          refine take_at (i := 8) (d := 67) (v := ?_) rfl (by kernel_rfl) (hy := .inl ⟨by kernel_rfl, ?_⟩) (h := ?_)
          rotate_left
          ·intro W hSw; (try dsimp only at hSw); go_simp; first | done | with_reducible rfl
          try simp only [Act.put, List.setIfInBounds_toArray, List.set_cons_zero, List.set_cons_succ]
          refine wpAnyH_ready (rs := [9]) (by kernel_rfl) (by simp) (AllReadyH.cons rfl (fun K hK => ?_) AllReadyH.nil)
          go_simp
          have HRA := Lib.hid (item_reads w8 300 ((m : Int), x, hexL y))
          replace HX := Lib.hid (HX.out.alloc (.cells #[.int .i64 (m : Int), .string (str x), .string (str (hexL y))] 300))
          have hbl9 : Below w8.heap.size w8 (w8.alloc (.cells #[.int .i64 (m : Int), .string (str x), .string (str (hexL y))] 300)) := (Below.refl _ _).alloc (Nat.le_refl _) _
          replace HOX := Lib.hid (HOX.out.still hbl9)
          replace HRF := Lib.hid (HRF.out.below hbl9)
          clear hbl9
          try go_wp2_with fail
          refine hK.out _ _ ?_ (fun hHeld => ?_)
          ·(try dsimp only); exact HX.out.sl
          clear hK K
          try simp only [Act.put, List.setIfInBounds_toArray, List.set_cons_zero, List.set_cons_succ]
          refine wpAnyH_ready (rs := [10]) (by kernel_rfl) (by simp) (AllReadyH.cons rfl (fun K hK => ?_) AllReadyH.nil)
          have hac := HB2.out
          refine step_append_any _ rfl (.tmp 60) (.tmp 68) 197 rfl w1.heap.size 300 i9 (.agg #[.int .i64 0, .string ⟨#[]⟩, .string ⟨#[]⟩]) 3 40 Tryz.underlying197 HIT.out hz0 hz1' hz2 rfl (by decide) (.slice A2 n2 c2) acc.length _ rfl (by exact HOX.out.items) _ (some ⟨w8.heap.size, 0, none⟩) 1 1 ([(((m : Int), x, hexL y) : ItM)].flatMap itC) rfl (by exact HRA.out) (itC_one [((m : Int), x, hexL y)]) (by unfold maxLen; omega) (by omega) (by exact HOX.out.below.size) ?_
          intro v9 w9 ho9 hg9 hk9
          have HO9 : Hid (OwnI 300 w9 w1.heap.size v9 (acc ++ [((m : Int), x, hexL y)])) := (by unfold Hid OwnI; rw [List.length_append, List.flatMap_append]; exact ho9)
          obtain ⟨A9, c9, rfl, _⟩ := HO9.out.slI
          obtain ⟨n9, hn9⟩ : ∃ n, (acc ++ [((m : Int), x, hexL y)]).length = n := ⟨_, rfl⟩
          rw [hn9] at HO9 ⊢
          obtain ⟨hb9, hl9, hf9⟩ := HOX.out.grewI hg9 HO9.out
          have HBX := Lib.hid hb9
          have HFX := Lib.hid hf9
          have hr9 : RfAt w1 w9 w1.heap.size q4 := HRF.out.row HOX.out.items (by decide) hg9 HZ.out HOX.out.below.size
          have hx9 : Own w9 w1.heap.size (.slice uA xl uc) x := rows_apart HOX.out.items HX.out (by decide) hg9
          replace HX := Lib.hid hx9
          replace HRF := Lib.hid hr9
          clear ho9 hg9 hk9 hn9 hb9 hl9 hf9 hr9 hx9 hac
          try go_wp2_with fail
          refine hK.out _ _ ?_ (fun hHeld => ?_)
          ·(try dsimp only); exact HX.out.sl
          clear hK K
          try simp only [Act.put, List.setIfInBounds_toArray, List.set_cons_zero, List.set_cons_succ]
          refine take_at (i := 11) (d := 70) (v := ?_) rfl (by kernel_rfl) (hy := .inl ⟨by kernel_rfl, ?_⟩) (h := ?_)
          rotate_left
          ·intro W hSw; (try dsimp only at hSw); go_simp; first | done | with_reducible rfl
          try simp only [Act.put, List.setIfInBounds_toArray, List.set_cons_zero, List.set_cons_succ]
          refine wpAnyH_ready (rs := [12]) (by kernel_rfl) (by simp) (AllReadyH.cons rfl (fun K hK => ?_) AllReadyH.nil)
          have g2 := HBX.out.frozen 2
          have y2 := HBX.out.cell 2
          go_simp
          clear g2 y2
          have hx10 : Own (w9.setCell ⟨w1.heap.size + 1, 2, none⟩ (.slice A9 n9 c9)) w1.heap.size (.slice uA xl uc) x := row_upd HX.out HBX.out (by decide) ((Upd.refl _ _).set_ 2 _)
          replace HX := Lib.hid hx10
          clear hx10
          try go_wp2_with fail
          refine hK.out _ _ ?_ (fun hHeld => ?_)
          ·(try dsimp only); exact HX.out.sl
          clear hK K
          refine wpAnyH_done (by kernel_rfl) ?_ _
          go_wp2_with fail
          go_roundw
          case rel =>
           have hlt9 : i < N := HLT.out
           have hnb9 : N ≤ 72057594037927936 := HNB.out
           have hr10 := HRF.out.set_ (i := 2) HBX.out (by decide) (by omega : w1.heap.size ≤ w1.heap.size + 1) (.slice A9 n9 c9)
           have hst := HST.out
           have hln := HLN2.out.2
           rw [HIT9.out] at hst hln
           refine ⟨i + 1, acc ++ [((m : Int), x, hexL y)], q4, A9, n9, c9, by go_num, by omega, HFX.out, hr10, hst, fun hf => ?_, ?_⟩
           ·have h1 := HB1'.out HF.out
            have h2 : q4.1.length + 1 ≤ q.1.length := hln hf
            rw [List.length_append, List.length_singleton]
            omega
           ·have h1 := HB1'.out HF.out
            rw [List.length_append, List.length_singleton]
            omega
          case measure => have hlt9 : i < N := HLT.out; have hnb9 : N ≤ 72057594037927936 := HNB.out; simp [intOf]; omega
         ·go_simp
          go_at_call 186
          refine (rhex_any _ y _ HT7.out (by have := HY9.out; omega)).mono ?_
          rintro e w8 ⟨rfl, hb8⟩
          replace HX := Lib.hid (HX.out.below hb8)
          replace HOX := Lib.hid (HOX.out.still hb8)
          replace HRF := Lib.hid (HRF.out.below hb8)
          clear hb8
          try go_wp2_with fail
          refine hK.out _ _ ?_ (fun hHeld => ?_)
          ·(try dsimp only); exact HX.out.sl
          clear hK K
          try simp only [Act.put, List.setIfInBounds_toArray, List.set_cons_zero, List.set_cons_succ]
          refine take_at (i := 8) (d := 67) (v := ?_) rfl (by kernel_rfl) (hy := .inl ⟨by kernel_rfl, ?_⟩) (h := ?_)
          rotate_left
          ·intro W hSw; (try dsimp only at hSw); go_simp; first | done | with_reducible rfl
          try simp only [Act.put, List.setIfInBounds_toArray, List.set_cons_zero, List.set_cons_succ]
          refine wpAnyH_ready (rs := [1, 9]) (by kernel_rfl) (by simp) (AllReadyH.cons rfl (fun K hK => ?_) (AllReadyH.cons rfl (fun K hK => ?_) AllReadyH.nil))
          ·have y2 := HOX.out.blk.cell 2
           go_simp
           clear y2
           try go_wp2_with fail
           refine hK.out _ _ ?_ (fun hHeld => ?_)
           ·(try dsimp only); exact HX.out.sl
           clear hK K
           try simp only [Act.put, List.setIfInBounds_toArray, List.set_cons_zero, List.set_cons_succ]
           refine wpAnyH_ready (rs := [9]) (by kernel_rfl) (by simp) (AllReadyH.cons rfl (fun K hK => ?_) AllReadyH.nil)
           go_simp
           have HRA := Lib.hid (item_reads w8 300 ((m : Int), x, hexL y))
           replace HX := Lib.hid (HX.out.alloc (.cells #[.int .i64 (m : Int), .string (str x), .string (str (hexL y))] 300))
           have hbl9 : Below w8.heap.size w8 (w8.alloc (.cells #[.int .i64 (m : Int), .string (str x), .string (str (hexL y))] 300)) := (Below.refl _ _).alloc (Nat.le_refl _) _
           replace HOX := Lib.hid (HOX.out.still hbl9)
           replace HRF := Lib.hid (HRF.out.below hbl9)
           clear hbl9
           try go_wp2_with fail
           refine hK.out _ _ ?_ (fun hHeld => ?_)
           ·(try dsimp only); exact HX.out.sl
           clear hK K
           try simp only [Act.put, List.setIfInBounds_toArray, List.set_cons_zero, List.set_cons_succ]
           refine wpAnyH_ready (rs := [10]) (by kernel_rfl) (by simp) (AllReadyH.cons rfl (fun K hK => ?_) AllReadyH.nil)
           have hac := HB2.out
           refine step_append_any _ rfl (.tmp 60) (.tmp 68) 197 rfl w1.heap.size 300 i9 (.agg #[.int .i64 0, .string ⟨#[]⟩, .string ⟨#[]⟩]) 3 40 Tryz.underlying197 HIT.out hz0 hz1' hz2 rfl (by decide) (.slice A2 n2 c2) acc.length _ rfl (by exact HOX.out.items) _ (some ⟨w8.heap.size, 0, none⟩) 1 1 ([(((m : Int), x, hexL y) : ItM)].flatMap itC) rfl (by exact HRA.out) (itC_one [((m : Int), x, hexL y)]) (by unfold maxLen; omega) (by omega) (by exact HOX.out.below.size) ?_
           intro v9 w9 ho9 hg9 hk9
           have HO9 : Hid (OwnI 300 w9 w1.heap.size v9 (acc ++ [((m : Int), x, hexL y)])) := (by unfold Hid OwnI; rw [List.length_append, List.flatMap_append]; exact ho9)
           obtain ⟨A9, c9, rfl, _⟩ := HO9.out.slI
           obtain ⟨n9, hn9⟩ : ∃ n, (acc ++ [((m : Int), x, hexL y)]).length = n := ⟨_, rfl⟩
           rw [hn9] at HO9 ⊢
           obtain ⟨hb9, hl9, hf9⟩ := HOX.out.grewI hg9 HO9.out
           have HBX := Lib.hid hb9
           have HFX := Lib.hid hf9
           have hr9 : RfAt w1 w9 w1.heap.size q4 := HRF.out.row HOX.out.items (by decide) hg9 HZ.out HOX.out.below.size
           have hx9 : Own w9 w1.heap.size (.slice uA xl uc) x := rows_apart HOX.out.items HX.out (by decide) hg9
           replace HX := Lib.hid hx9
           replace HRF := Lib.hid hr9
           clear ho9 hg9 hk9 hn9 hb9 hl9 hf9 hr9 hx9 hac
           try go_wp2_with fail
           refine hK.out _ _ ?_ (fun hHeld => ?_)
           ·(try dsimp only); exact HX.out.sl
           clear hK K
           try simp only [Act.put, List.setIfInBounds_toArray, List.set_cons_zero, List.set_cons_succ]
           refine take_at (i := 11) (d := 70) (v := ?_) rfl (by kernel_rfl) (hy := .inl ⟨by kernel_rfl, ?_⟩) (h := ?_)
           rotate_left
           ·intro W hSw; (try dsimp only at hSw); go_simp; first | done | with_reducible rfl
           try simp only [Act.put, List.setIfInBounds_toArray, List.set_cons_zero, List.set_cons_succ]
           refine wpAnyH_ready (rs := [12]) (by kernel_rfl) (by simp) (AllReadyH.cons rfl (fun K hK => ?_) AllReadyH.nil)
           have g2 := HBX.out.frozen 2
           have y2 := HBX.out.cell 2
           go_simp
           clear g2 y2
           have hx10 : Own (w9.setCell ⟨w1.heap.size + 1, 2, none⟩ (.slice A9 n9 c9)) w1.heap.size (.slice uA xl uc) x := row_upd HX.out HBX.out (by decide) ((Upd.refl _ _).set_ 2 _)
           replace HX := Lib.hid hx10
           clear hx10
           try go_wp2_with fail
           refine hK.out _ _ ?_ (fun hHeld => ?_)
           ·(try dsimp only); exact HX.out.sl
           clear hK K
           refine wpAnyH_done (by kernel_rfl) ?_ _
           go_wp2_with fail
           go_roundw
           case rel =>
            have hlt9 : i < N := HLT.out
            have hnb9 : N ≤ 72057594037927936 := HNB.out
            have hr10 := HRF.out.set_ (i := 2) HBX.out (by decide) (by omega : w1.heap.size ≤ w1.heap.size + 1) (.slice A9 n9 c9)
            have hst := HST.out
            have hln := HLN2.out.2
            rw [HIT9.out] at hst hln
            refine ⟨i + 1, acc ++ [((m : Int), x, hexL y)], q4, A9, n9, c9, by go_num, by omega, HFX.out, hr10, hst, fun hf => ?_, ?_⟩
            ·have h1 := HB1'.out HF.out
             have h2 : q4.1.length + 1 ≤ q.1.length := hln hf
             rw [List.length_append, List.length_singleton]
             omega
            ·have h1 := HB1'.out HF.out
             rw [List.length_append, List.length_singleton]
             omega
           case measure => have hlt9 : i < N := HLT.out; have hnb9 : N ≤ 72057594037927936 := HNB.out; simp [intOf]; omega
          ·go_simp
           have HRA := Lib.hid (item_reads w8 300 ((m : Int), x, hexL y))
           replace HX := Lib.hid (HX.out.alloc (.cells #[.int .i64 (m : Int), .string (str x), .string (str (hexL y))] 300))
           have hbl9 : Below w8.heap.size w8 (w8.alloc (.cells #[.int .i64 (m : Int), .string (str x), .string (str (hexL y))] 300)) := (Below.refl _ _).alloc (Nat.le_refl _) _
           replace HOX := Lib.hid (HOX.out.still hbl9)
           replace HRF := Lib.hid (HRF.out.below hbl9)
           clear hbl9
           try go_wp2_with fail
           refine hK.out _ _ ?_ (fun hHeld => ?_)
           ·(try dsimp only); exact HX.out.sl
           clear hK K
           try simp only [Act.put, List.setIfInBounds_toArray, List.set_cons_zero, List.set_cons_succ]
           refine wpAnyH_ready (rs := [1]) (by kernel_rfl) (by simp) (AllReadyH.cons rfl (fun K hK => ?_) AllReadyH.nil)
           have y2 := HOX.out.blk.cell 2
           go_simp
           clear y2
           try go_wp2_with fail
           refine hK.out _ _ ?_ (fun hHeld => ?_)
           ·(try dsimp only); exact HX.out.sl
           clear hK K
           try simp only [Act.put, List.setIfInBounds_toArray, List.set_cons_zero, List.set_cons_succ]
           refine wpAnyH_ready (rs := [10]) (by kernel_rfl) (by simp) (AllReadyH.cons rfl (fun K hK => ?_) AllReadyH.nil)
           have hac := HB2.out
           refine step_append_any _ rfl (.tmp 60) (.tmp 68) 197 rfl w1.heap.size 300 i9 (.agg #[.int .i64 0, .string ⟨#[]⟩, .string ⟨#[]⟩]) 3 40 Tryz.underlying197 HIT.out hz0 hz1' hz2 rfl (by decide) (.slice A2 n2 c2) acc.length _ rfl (by exact HOX.out.items) _ (some ⟨w8.heap.size, 0, none⟩) 1 1 ([(((m : Int), x, hexL y) : ItM)].flatMap itC) rfl (by exact HRA.out) (itC_one [((m : Int), x, hexL y)]) (by unfold maxLen; omega) (by omega) (by exact HOX.out.below.size) ?_
           intro v9 w9 ho9 hg9 hk9
           have HO9 : Hid (OwnI 300 w9 w1.heap.size v9 (acc ++ [((m : Int), x, hexL y)])) := (by unfold Hid OwnI; rw [List.length_append, List.flatMap_append]; exact ho9)
           obtain ⟨A9, c9, rfl, _⟩ := HO9.out.slI
           obtain ⟨n9, hn9⟩ : ∃ n, (acc ++ [((m : Int), x, hexL y)]).length = n := ⟨_, rfl⟩
           rw [hn9] at HO9 ⊢
           obtain ⟨hb9, hl9, hf9⟩ := HOX.out.grewI hg9 HO9.out
           have HBX := Lib.hid hb9
           have HFX := Lib.hid hf9
           have hr9 : RfAt w1 w9 w1.heap.size q4 := HRF.out.row HOX.out.items (by decide) hg9 HZ.out HOX.out.below.size
           have hx9 : Own w9 w1.heap.size (.slice uA xl uc) x := rows_apart HOX.out.items HX.out (by decide) hg9
           replace HX := Lib.hid hx9
           replace HRF := Lib.hid hr9
           clear ho9 hg9 hk9 hn9 hb9 hl9 hf9 hr9 hx9 hac
           try go_wp2_with fail
           refine hK.out _ _ ?_ (fun hHeld => ?_)
           ·(try dsimp only); exact HX.out.sl
           clear hK K
           try simp only [Act.put, List.setIfInBounds_toArray, List.set_cons_zero, List.set_cons_succ]
           refine take_at (i := 11) (d := 70) (v := ?_) rfl (by kernel_rfl) (hy := .inl ⟨by kernel_rfl, ?_⟩) (h := ?_)
           rotate_left
           ·intro W hSw; (try dsimp only at hSw); go_simp; first | done | with_reducible rfl
           try simp only [Act.put, List.setIfInBounds_toArray, List.set_cons_zero, List.set_cons_succ]
           refine wpAnyH_ready (rs := [12]) (by kernel_rfl) (by simp) (AllReadyH.cons rfl (fun K hK => ?_) AllReadyH.nil)
           have g2 := HBX.out.frozen 2
           have y2 := HBX.out.cell 2
           go_simp
           clear g2 y2
           have hx10 : Own (w9.setCell ⟨w1.heap.size + 1, 2, none⟩ (.slice A9 n9 c9)) w1.heap.size (.slice uA xl uc) x := row_upd HX.out HBX.out (by decide) ((Upd.refl _ _).set_ 2 _)
           replace HX := Lib.hid hx10
           clear hx10
           try go_wp2_with fail
           refine hK.out _ _ ?_ (fun hHeld => ?_)
           ·(try dsimp only); exact HX.out.sl
           clear hK K
           refine wpAnyH_done (by kernel_rfl) ?_ _
           go_wp2_with fail
           go_roundw
           case rel =>
            have hlt9 : i < N := HLT.out
            have hnb9 : N ≤ 72057594037927936 := HNB.out
            have hr10 := HRF.out.set_ (i := 2) HBX.out (by decide) (by omega : w1.heap.size ≤ w1.heap.size + 1) (.slice A9 n9 c9)
            have hst := HST.out
            have hln := HLN2.out.2
            rw [HIT9.out] at hst hln
            refine ⟨i + 1, acc ++ [((m : Int), x, hexL y)], q4, A9, n9, c9, by go_num, by omega, HFX.out, hr10, hst, fun hf => ?_, ?_⟩
            ·have h1 := HB1'.out HF.out
             have h2 : q4.1.length + 1 ≤ q.1.length := hln hf
             rw [List.length_append, List.length_singleton]
             omega
            ·have h1 := HB1'.out HF.out
             rw [List.length_append, List.length_singleton]
             omega
           case measure => have hlt9 : i < N := HLT.out; have hnb9 : N ≤ 72057594037927936 := HNB.out; simp [intOf]; omega
      ·obtain rfl : i = N := by omega
       have k1 : ¬ ((i : Int) < (i : Int)) := by omega
       have k1' : decide ((i : Int) < (i : Int)) = false := by simp
       have HZZ : Hid (itemsR i s0 = (acc, q)) := by
        unfold Hid
        have := HE.out
        rw [Nat.sub_self, itemsR_zero] at this
        simpa using this
       go_wp2_with fail
       go_meet
       rw [HO2.out, HOB.out, HZZ.out]
       exact ⟨_, _, _, _, _, _, _, _, _, HOX.out, HRF.out⟩
    ·have hk2 : ((k : Int) == 2) = false := beq_eq_false_iff_ne.2 (by omega)
     by_cases h3 : k = 3
     ·subst h3
      obtain ⟨y, s1, e1⟩ : ∃ y s1, takeR (t, false) 32 = (y, s1) := ⟨_, _, pe _⟩
      obtain ⟨N, s2, e2⟩ : ∃ N s2, octR s1 = (N, s2) := ⟨_, _, pe _⟩
      obtain ⟨ids, s3, e3⟩ : ∃ ids s3, idsR2 N s2 = (ids, s3) := ⟨_, _, pe _⟩
      obtain ⟨st, s4, e4⟩ : ∃ st s4, numR s3 = (st, s4) := ⟨_, _, pe _⟩
      obtain ⟨au, s5, e5⟩ : ∃ au s5, numR s4 = (au, s5) := ⟨_, _, pe _⟩
      obtain ⟨z, s6, e6⟩ : ∃ z s6, numR s5 = (z, s6) := ⟨_, _, pe _⟩
      obtain ⟨x, s7, e7⟩ : ∃ x s7, takeR s6 z = (x, s7) := ⟨_, _, pe _⟩
      have HOB : Hid (objS2 3 (t, false) = (⟨3, [], [], hexL y, ids, (st : Int), (au : Int), x⟩, s7)) := by
       unfold Hid objS2
       rw [if_neg (by decide), if_neg (by decide), if_pos rfl]
       unfold commR2 hashR
       rw [e1]
       unfold commP2
       simp only
       rw [e2]
       simp only
       rw [e3]
       unfold commS
       simp only
       rw [e4]
       unfold commA
       simp only
       rw [e5]
       unfold commM textR
       simp only
       rw [e6]
       simp only
       rw [e7]
      have HZ9 : Hid (z ≤ 72057594037927936) := by have := numR_le s5; rw [e6] at this; exact this
      have HN9 : Hid (N ≤ 255) := by
       have h9 : (octR s1).1 ≤ 255 := by
        unfold octR
        have := UInt8.toNat_lt ((takeR s1 1).1.headD 0)
        show ((takeR s1 1).1.headD 0).toNat ≤ 255
        omega
       rw [e2] at h9
       exact h9
      have HY9 : Hid (y.length ≤ 32) := by have := (takeR_len (t, false) 32).1; rw [e1] at this; exact this
      have HE1 := Lib.hid e1
      have HE2 := Lib.hid e2
      have HE3 := Lib.hid e3
      have HE4 := Lib.hid e4
      have HE5 := Lib.hid e5
      have HE6 := Lib.hid e6
      have HE7 := Lib.hid e7
      clear e1 e2 e3 e4 e5 e6 e7
      go_wp2_with fail
      refine (rtake_any w1 w2 w1.heap.size 32 (t, false) HRF.out (by decide)).mono ?_
      rw [HE1.out]
      rintro e w3 ⟨u3, rfl, ho3, hr3, hu3⟩
      obtain ⟨cs, hcs⟩ := HRF.out.blk
      replace HOX := Lib.hid (HOX.out.upd hcs hu3 HZ.out)
      replace HRF := Lib.hid hr3
      have HT3 := Lib.hid ho3.sl
      obtain ⟨A3', c3', rfl, _⟩ := ho3.sl.len
      clear x0 x1 x2 x3 x4 x5 x6 x7 f0 f1 f2 f3 f4 f5 f6 f7 ho3 hr3 hu3 hcs
      go_wp2_with fail
      refine (rhex_any _ y w3 HT3.out (by have := HY9.out; omega)).mono ?_
      rintro e w4 ⟨rfl, hb4⟩
      replace HOX := Lib.hid (HOX.out.still hb4)
      replace HRF := Lib.hid (HRF.out.below hb4)
      obtain ⟨y0, y1, y2, y3, y4, y5, y6, y7⟩ := box_cells HOX.out.blk
      obtain ⟨g0, g1, g2, g3, g4, g5, g6, g7⟩ := cells8 HOX.out.blk
      replace HRF := Lib.hid (HRF.out.set_ (i := 3) HOX.out.blk (by decide) (by omega : w1.heap.size ≤ w1.heap.size + 1) (.string (str (hexL y))))
      replace HOX := Lib.hid (HOX.out.setTree (hexL y))
      clear hb4
      go_wp2_with fail
      clear y0 y1 y2 y3 y4 y5 y6 y7 g0 g1 g2 g3 g4 g5 g6 g7
      refine (rbyte_any w1 _ w1.heap.size s1 HRF.out).mono ?_
      rw [HE2.out]
      rintro e w5 ⟨rfl, hr5, hu5⟩
      obtain ⟨cs, hcs⟩ := HRF.out.blk
      replace HOX := Lib.hid (HOX.out.upd hcs hu5 HZ.out)
      replace HRF := Lib.hid hr5
      clear hr5 hu5 hcs
      go_wp2_with fail
      go_loopw [11] (fun iv wr => ∃ (i : Nat) (P : List (List UInt8)) (q : Rdr) (A3 : Option Addr) (n3 c3 : Nat), iv = .int .i64 i ∧ i ≤ N ∧ idsR2 i s2 = (P, q) ∧ OdX w1 wr w.heap.size (w1.heap.size + 1) ⟨3, [], [], hexL y, P, 0, 0, []⟩ none 0 0 none 0 0 A3 n3 c3 ∧ RfAt w1 wr w1.heap.size q) (fun iv _ => N - (intOf iv).toNat)
      case atStart => exact ⟨0, [], s2, none, 0, 0, rfl, Nat.zero_le _, rfl, HOX.out, HRF.out⟩
      case round =>
       obtain ⟨i, P, q, A3, n3, c3, rfl, hi, he, ho, hr⟩ := hrel
       have HOX := Lib.hid ho
       have HRF := Lib.hid hr
       have HE := Lib.hid he
       obtain ⟨f, hf⟩ : ∃ f, q.2 = f := ⟨_, rfl⟩
       have x2 := hr.flag
       rw [hf] at x2
       have HF := Lib.hid hf
       have hnN : N ≤ 255 := HN9.out
       have i0 : (0 : Int) ≤ (i : Int) := by omega
       have hpl := idsR2_len i s2
       rw [he] at hpl
       have HPL : Hid (P.length ≤ i) := hpl
       clear ho hr he hf hpl
       by_cases hlt : i < N
       ·have HLT : Hid (i < N) := hlt
        have hwr : IntKind.i64.wrap ((i : Int) + 1) = (i : Int) + 1 := by rw [IntKind.wrap_i64]; omega
        have k1 : (i : Int) < (N : Int) := by omega
        have k1' : decide ((i : Int) < (N : Int)) = true := by simp; omega
        have k1'' : decide (i < N) = true := by simp; omega
        cases f with
        | true =>
         have HEQ : P = ids ∧ q = s3 := by
          have h9 := idsR2_more (Nat.le_of_lt hlt) s2 (by rw [HE.out]; exact HF.out)
          rw [HE.out, HE3.out] at h9
          injection h9 with a1 a2
          exact ⟨a1.symm, a2.symm⟩
         obtain ⟨rfl, rfl⟩ := HEQ
         obtain ⟨y0, y1, y2, y3, y4, y5, y6, y7⟩ := box_cells HOX.out.blk
         clear y0 y1 y2 y3 y4 y5 y6 y7
         go_wp2_with fail
         refine (rnum_any w1 wr w1.heap.size q HRF.out).mono ?_
         rw [HE4.out]
         rintro e w8 ⟨rfl, hr8, hu8⟩
         obtain ⟨cs, hcs⟩ := HRF.out.blk
         replace HOX := Lib.hid (HOX.out.upd hcs hu8 HZ.out)
         replace HRF := Lib.hid hr8
         clear hr8 hu8 hcs
         try clear x2
         go_wp2_with fail
         refine (rnum_any w1 w8 w1.heap.size s4 HRF.out).mono ?_
         rw [HE5.out]
         rintro e w9 ⟨rfl, hr9, hu9⟩
         obtain ⟨cs, hcs⟩ := HRF.out.blk
         replace HOX := Lib.hid (HOX.out.upd hcs hu9 HZ.out)
         replace HRF := Lib.hid hr9
         obtain ⟨y0, y1, y2, y3, y4, y5, y6, y7⟩ := box_cells HOX.out.blk
         obtain ⟨g0, g1, g2, g3, g4, g5, g6, g7⟩ := cells8 HOX.out.blk
         clear hr9 hu9 hcs
         replace HRF := Lib.hid (HRF.out.set_ (i := 5) HOX.out.blk (by decide) (by omega : w1.heap.size ≤ w1.heap.size + 1) (.int .i64 (st : Int)))
         replace HOX := Lib.hid (HOX.out.setStamp (st : Int))
         replace HRF := Lib.hid (HRF.out.set_ (i := 6) HOX.out.blk (by decide) (by omega : w1.heap.size ≤ w1.heap.size + 1) (.int .i64 (au : Int)))
         replace HOX := Lib.hid (HOX.out.setAuthor (au : Int))
         go_wp2_with fail
         clear y0 y1 y2 y3 y4 y5 y6 y7 g0 g1 g2 g3 g4 g5 g6 g7
         refine (rnum_any w1 _ w1.heap.size s5 HRF.out).mono ?_
         rw [HE6.out]
         rintro e w10 ⟨rfl, hr10, hu10⟩
         obtain ⟨cs, hcs⟩ := HRF.out.blk
         replace HOX := Lib.hid (HOX.out.upd hcs hu10 HZ.out)
         replace HRF := Lib.hid hr10
         clear hr10 hu10 hcs
         go_wp2_with fail
         refine (rtake_any w1 w10 w1.heap.size z s6 HRF.out HZ9.out).mono ?_
         rw [HE7.out]
         rintro e w11 ⟨u11, rfl, ho11, hr11, hu11⟩
         obtain ⟨cs, hcs⟩ := HRF.out.blk
         replace HOX := Lib.hid (HOX.out.upd hcs hu11 HZ.out)
         replace HRF := Lib.hid hr11
         have HX := Lib.hid ho11.sl
         obtain ⟨uA, uc, rfl, _⟩ := ho11.sl.len
         obtain ⟨xl, hxl⟩ : ∃ n, x.length = n := ⟨_, rfl⟩
         rw [hxl] at HX ⊢
         have kc := conv_sl w11 uA x xl uc hxl HX.out
         obtain ⟨y0, y1, y2, y3, y4, y5, y6, y7⟩ := box_cells HOX.out.blk
         obtain ⟨g0, g1, g2, g3, g4, g5, g6, g7⟩ := cells8 HOX.out.blk
         clear hr11 hu11 hcs ho11 hxl
         go_wp2_with fail
         go_meet
         rw [HO2.out, HOB.out]
         exact ⟨_, _, _, _, _, _, _, _, _, HOX.out.setMsg x, HRF.out.set_ (i := 7) HOX.out.blk (by decide) (by omega : w1.heap.size ≤ w1.heap.size + 1) (.string (str x))⟩
        | false =>
         obtain ⟨y9, q4, e9⟩ : ∃ y q4, takeR q 32 = (y, q4) := ⟨_, _, pe _⟩
         have HST : Hid (idsR2 (i + 1) s2 = (P ++ [hexL y9], q4)) := by
          have h9 := idsR2_snoc i s2 (by rw [HE.out]; exact HF.out)
          rw [HE.out] at h9
          unfold hashR at h9
          simp only at h9
          rw [e9] at h9
          exact h9
         have HL9 : Hid (y9.length ≤ 32) := by have := (takeR_len q 32).1; rw [e9] at this; exact this
         have HE9 := Lib.hid e9
         clear e9
         obtain ⟨i9, hi9, hz0, hz1', hz2⟩ := info_parts Tx.info_str
         have HIT : Hid (Tryz.prog.info? 9 = some i9) := hi9
         clear hi9
         go_upto_region 22 with (fail)
         replace HOX := Lib.hid (HOX.out.still (Below.refl _ _).drew)
         replace HRF := Lib.hid (HRF.out.below (Below.refl _ _).drew)
         clear x2
         refine wp_region_held_drew (S := (fun _ : World => True)) (by kernel_rfl) ?_ (fun hHeld => ?_)
         ·try dsimp only
          all_goals trivial
         refine take_at (i := 0) (d := 91) (v := ?_) rfl (by kernel_rfl) (hy := .inl ⟨by kernel_rfl, ?_⟩) (h := ?_)
         rotate_left
         ·intro W hSw; (try dsimp only at hSw); go_simp; first | done | with_reducible rfl
         try simp only [Act.put, List.setIfInBounds_toArray, List.set_cons_zero, List.set_cons_succ]
         refine take_at (i := 2) (d := 93) (v := ?_) rfl (by kernel_rfl) (hy := .inl ⟨by kernel_rfl, ?_⟩) (h := ?_)
         rotate_left
         ·intro W hSw; (try dsimp only at hSw); go_simp; first | done | with_reducible rfl
         try simp only [Act.put, List.setIfInBounds_toArray, List.set_cons_zero, List.set_cons_succ]
         refine wpAnyH_ready (rs := [1, 3]) (by kernel_rfl) (by simp) (AllReadyH.cons rfl (fun K hK => ?_) (AllReadyH.cons rfl (fun K hK => ?_) AllReadyH.nil))
         ·have y2 := HOX.out.blk.cell 4
          go_simp
          clear y2
          try go_wp2_with fail
          refine hK.out _ _ ?_ (fun hHeld => ?_)
          ·try dsimp only
           all_goals trivial
          clear hK K
          try simp only [Act.put, List.setIfInBounds_toArray, List.set_cons_zero, List.set_cons_succ]
          refine wpAnyH_ready (rs := [3]) (by kernel_rfl) (by simp) (AllReadyH.cons rfl (fun K hK => ?_) AllReadyH.nil)
          go_simp
          go_at_call 205
          refine (rtake_any w1 _ w1.heap.size 32 q HRF.out (by decide)).mono ?_
          rw [HE9.out]
          rintro e w7 ⟨u7, rfl, ho7, hr7, hu7⟩
          obtain ⟨cs, hcs⟩ := HRF.out.blk
          replace HOX := Lib.hid (HOX.out.upd hcs hu7 HZ.out)
          replace HRF := Lib.hid hr7
          have HT7 := Lib.hid ho7.sl
          obtain ⟨A7, c7, rfl, _⟩ := ho7.sl.len
          clear hr7 hu7 ho7 hcs
          try go_wp2_with fail
          refine hK.out _ _ ?_ (fun hHeld => ?_)
          ·try dsimp only
           all_goals trivial
          clear hK K
          try simp only [Act.put, List.setIfInBounds_toArray, List.set_cons_zero, List.set_cons_succ]
          refine wpAnyH_ready (rs := [4]) (by kernel_rfl) (by simp) (AllReadyH.cons rfl (fun K hK => ?_) AllReadyH.nil)
          go_simp
          go_at_call 186
          refine (rhex_any _ y9 _ HT7.out (by have := HL9.out; omega)).mono ?_
          rintro e w8 ⟨rfl, hb8⟩
          replace HOX := Lib.hid (HOX.out.still hb8)
          replace HRF := Lib.hid (HRF.out.below hb8)
          clear hb8
          try go_wp2_with fail
          refine hK.out _ _ ?_ (fun hHeld => ?_)
          ·try dsimp only
           all_goals trivial
          clear hK K
          try simp only [Act.put, List.setIfInBounds_toArray, List.set_cons_zero, List.set_cons_succ]
          refine wpAnyH_ready (rs := [5]) (by kernel_rfl) (by simp) (AllReadyH.cons rfl (fun K hK => ?_) AllReadyH.nil)
          go_simp
          have HRA := Lib.hid (reads_one w8 (str (hexL y9)))
          have hbl9 : Below w8.heap.size w8 (w8.alloc (.cells #[.string (str (hexL y9))] 9)) := (Below.refl _ _).alloc (Nat.le_refl _) _
          replace HOX := Lib.hid (HOX.out.still hbl9)
          replace HRF := Lib.hid (HRF.out.below hbl9)
          clear hbl9
          try go_wp2_with fail
          refine hK.out _ _ ?_ (fun hHeld => ?_)
          ·try dsimp only
           all_goals trivial
          clear hK K
          try simp only [Act.put, List.setIfInBounds_toArray, List.set_cons_zero, List.set_cons_succ]
          refine wpAnyH_ready (rs := [6]) (by kernel_rfl) (by simp) (AllReadyH.cons rfl (fun K hK => ?_) AllReadyH.nil)
          have hpl := HPL.out
          have hown : World.ownsRow (w8.alloc (.cells #[.string (str (hexL y9))] 9)) w1.heap.size 9 1 (.slice A3 n3 c3) P.length ((P.map str).map Tx.sv) := (by have h9 := HOX.out.pars; unfold Tx.OwnV at h9; rw [List.length_map, List.length_map] at h9; exact h9)
          refine step_append_any _ rfl (.tmp 92) (.tmp 96) 50 rfl w1.heap.size 9 i9 (.string ⟨#[]⟩) 1 16 Tryz.underlying50 HIT.out hz0 hz1' hz2 rfl (by decide) (.slice A3 n3 c3) P.length _ rfl (by exact hown) _ (some ⟨w8.heap.size, 0, none⟩) 1 1 [Tx.sv (str (hexL y9))] rfl (by exact HRA.out) (Tx.sv_one [str (hexL y9)]) (by unfold maxLen; omega) (by omega) (by exact HOX.out.below.size) ?_
          intro v9 w9 ho9 hg9 hk9
          have HO9 : Hid (Tx.OwnV 9 w9 w1.heap.size v9 (((P ++ [hexL y9]).map str).map Tx.sv)) := (by unfold Hid Tx.OwnV; rw [List.length_map, List.length_map, List.length_append, List.map_append, List.map_append]; exact ho9)
          obtain ⟨A9, c9, rfl, _⟩ := HO9.out.slv.len
          obtain ⟨n9, hn9⟩ : ∃ n, (((P ++ [hexL y9]).map str).map Tx.sv).length = n := ⟨_, rfl⟩
          rw [hn9] at HO9 ⊢
          obtain ⟨hb9, hl9, hf9⟩ := HOX.out.grewP hg9 HO9.out
          have HBX := Lib.hid hb9
          have HFX := Lib.hid hf9
          have hr9 : RfAt w1 w9 w1.heap.size q4 := HRF.out.row hown (by decide) hg9 HZ.out HOX.out.below.size
          replace HRF := Lib.hid hr9
          clear ho9 hg9 hk9 hn9 hb9 hl9 hf9 hr9 hown hpl
          try go_wp2_with fail
          refine hK.out _ _ ?_ (fun hHeld => ?_)
          ·try dsimp only
           all_goals trivial
          clear hK K
          try simp only [Act.put, List.setIfInBounds_toArray, List.set_cons_zero, List.set_cons_succ]
          refine take_at (i := 7) (d := 98) (v := ?_) rfl (by kernel_rfl) (hy := .inl ⟨by kernel_rfl, ?_⟩) (h := ?_)
          rotate_left
          ·intro W hSw; (try dsimp only at hSw); go_simp; first | done | with_reducible rfl
          try simp only [Act.put, List.setIfInBounds_toArray, List.set_cons_zero, List.set_cons_succ]
          refine wpAnyH_ready (rs := [8]) (by kernel_rfl) (by simp) (AllReadyH.cons rfl (fun K hK => ?_) AllReadyH.nil)
          have g2 := HBX.out.frozen 4
          have y2 := HBX.out.cell 4
          go_simp
          clear g2 y2
          try go_wp2_with fail
          refine hK.out _ _ ?_ (fun hHeld => ?_)
          ·try dsimp only
           all_goals trivial
          clear hK K
          refine wpAnyH_done (by kernel_rfl) ?_ _
          go_wp2_with fail
          go_roundw
          case rel =>
           have hlt9 : i < N := HLT.out
           have hr10 := HRF.out.set_ (i := 4) HBX.out (by decide) (by omega : w1.heap.size ≤ w1.heap.size + 1) (.slice A9 n9 c9)
           exact ⟨i + 1, P ++ [hexL y9], q4, A9, n9, c9, by go_num, by omega, HST.out, HFX.out, hr10⟩
          case measure => have hlt9 : i < N := HLT.out; simp [intOf]; omega
         ·go_simp
          go_at_call 205
          refine (rtake_any w1 _ w1.heap.size 32 q HRF.out (by decide)).mono ?_
          rw [HE9.out]
          rintro e w7 ⟨u7, rfl, ho7, hr7, hu7⟩
          obtain ⟨cs, hcs⟩ := HRF.out.blk
          replace HOX := Lib.hid (HOX.out.upd hcs hu7 HZ.out)
          replace HRF := Lib.hid hr7
          have HT7 := Lib.hid ho7.sl
          obtain ⟨A7, c7, rfl, _⟩ := ho7.sl.len
          clear hr7 hu7 ho7 hcs
          try go_wp2_with fail
          refine hK.out _ _ ?_ (fun hHeld => ?_)
          ·try dsimp only
           all_goals trivial
          clear hK K
          try simp only [Act.put, List.setIfInBounds_toArray, List.set_cons_zero, List.set_cons_succ]
          refine wpAnyH_ready (rs := [1, 4]) (by kernel_rfl) (by simp) (AllReadyH.cons rfl (fun K hK => ?_) (AllReadyH.cons rfl (fun K hK => ?_) AllReadyH.nil))
          ·have y2 := HOX.out.blk.cell 4
           go_simp
           clear y2
           try go_wp2_with fail
           refine hK.out _ _ ?_ (fun hHeld => ?_)
           ·try dsimp only
            all_goals trivial
           clear hK K
           try simp only [Act.put, List.setIfInBounds_toArray, List.set_cons_zero, List.set_cons_succ]
           refine wpAnyH_ready (rs := [4]) (by kernel_rfl) (by simp) (AllReadyH.cons rfl (fun K hK => ?_) AllReadyH.nil)
           go_simp
           go_at_call 186
           refine (rhex_any _ y9 _ HT7.out (by have := HL9.out; omega)).mono ?_
           rintro e w8 ⟨rfl, hb8⟩
           replace HOX := Lib.hid (HOX.out.still hb8)
           replace HRF := Lib.hid (HRF.out.below hb8)
           clear hb8
           try go_wp2_with fail
           refine hK.out _ _ ?_ (fun hHeld => ?_)
           ·try dsimp only
            all_goals trivial
           clear hK K
           try simp only [Act.put, List.setIfInBounds_toArray, List.set_cons_zero, List.set_cons_succ]
           refine wpAnyH_ready (rs := [5]) (by kernel_rfl) (by simp) (AllReadyH.cons rfl (fun K hK => ?_) AllReadyH.nil)
           go_simp
           have HRA := Lib.hid (reads_one w8 (str (hexL y9)))
           have hbl9 : Below w8.heap.size w8 (w8.alloc (.cells #[.string (str (hexL y9))] 9)) := (Below.refl _ _).alloc (Nat.le_refl _) _
           replace HOX := Lib.hid (HOX.out.still hbl9)
           replace HRF := Lib.hid (HRF.out.below hbl9)
           clear hbl9
           try go_wp2_with fail
           refine hK.out _ _ ?_ (fun hHeld => ?_)
           ·try dsimp only
            all_goals trivial
           clear hK K
           try simp only [Act.put, List.setIfInBounds_toArray, List.set_cons_zero, List.set_cons_succ]
           refine wpAnyH_ready (rs := [6]) (by kernel_rfl) (by simp) (AllReadyH.cons rfl (fun K hK => ?_) AllReadyH.nil)
           have hpl := HPL.out
           have hown : World.ownsRow (w8.alloc (.cells #[.string (str (hexL y9))] 9)) w1.heap.size 9 1 (.slice A3 n3 c3) P.length ((P.map str).map Tx.sv) := (by have h9 := HOX.out.pars; unfold Tx.OwnV at h9; rw [List.length_map, List.length_map] at h9; exact h9)
           refine step_append_any _ rfl (.tmp 92) (.tmp 96) 50 rfl w1.heap.size 9 i9 (.string ⟨#[]⟩) 1 16 Tryz.underlying50 HIT.out hz0 hz1' hz2 rfl (by decide) (.slice A3 n3 c3) P.length _ rfl (by exact hown) _ (some ⟨w8.heap.size, 0, none⟩) 1 1 [Tx.sv (str (hexL y9))] rfl (by exact HRA.out) (Tx.sv_one [str (hexL y9)]) (by unfold maxLen; omega) (by omega) (by exact HOX.out.below.size) ?_
           intro v9 w9 ho9 hg9 hk9
           have HO9 : Hid (Tx.OwnV 9 w9 w1.heap.size v9 (((P ++ [hexL y9]).map str).map Tx.sv)) := (by unfold Hid Tx.OwnV; rw [List.length_map, List.length_map, List.length_append, List.map_append, List.map_append]; exact ho9)
           obtain ⟨A9, c9, rfl, _⟩ := HO9.out.slv.len
           obtain ⟨n9, hn9⟩ : ∃ n, (((P ++ [hexL y9]).map str).map Tx.sv).length = n := ⟨_, rfl⟩
           rw [hn9] at HO9 ⊢
           obtain ⟨hb9, hl9, hf9⟩ := HOX.out.grewP hg9 HO9.out
           have HBX := Lib.hid hb9
           have HFX := Lib.hid hf9
           have hr9 : RfAt w1 w9 w1.heap.size q4 := HRF.out.row hown (by decide) hg9 HZ.out HOX.out.below.size
           replace HRF := Lib.hid hr9
           clear ho9 hg9 hk9 hn9 hb9 hl9 hf9 hr9 hown hpl
           try go_wp2_with fail
           refine hK.out _ _ ?_ (fun hHeld => ?_)
           ·try dsimp only
            all_goals trivial
           clear hK K
           try simp only [Act.put, List.setIfInBounds_toArray, List.set_cons_zero, List.set_cons_succ]
           refine take_at (i := 7) (d := 98) (v := ?_) rfl (by kernel_rfl) (hy := .inl ⟨by kernel_rfl, ?_⟩) (h := ?_)
           rotate_left
           ·intro W hSw; (try dsimp only at hSw); go_simp; first | done | with_reducible rfl
           try simp only [Act.put, List.setIfInBounds_toArray, List.set_cons_zero, List.set_cons_succ]
           refine wpAnyH_ready (rs := [8]) (by kernel_rfl) (by simp) (AllReadyH.cons rfl (fun K hK => ?_) AllReadyH.nil)
           have g2 := HBX.out.frozen 4
           have y2 := HBX.out.cell 4
           go_simp
           clear g2 y2
           try go_wp2_with fail
           refine hK.out _ _ ?_ (fun hHeld => ?_)
           ·try dsimp only
            all_goals trivial
           clear hK K
           refine wpAnyH_done (by kernel_rfl) ?_ _
           go_wp2_with fail
           go_roundw
           case rel =>
            have hlt9 : i < N := HLT.out
            have hr10 := HRF.out.set_ (i := 4) HBX.out (by decide) (by omega : w1.heap.size ≤ w1.heap.size + 1) (.slice A9 n9 c9)
            exact ⟨i + 1, P ++ [hexL y9], q4, A9, n9, c9, by go_num, by omega, HST.out, HFX.out, hr10⟩
           case measure => have hlt9 : i < N := HLT.out; simp [intOf]; omega
          ·go_simp
           go_at_call 186
           refine (rhex_any _ y9 _ HT7.out (by have := HL9.out; omega)).mono ?_
           rintro e w8 ⟨rfl, hb8⟩
           replace HOX := Lib.hid (HOX.out.still hb8)
           replace HRF := Lib.hid (HRF.out.below hb8)
           clear hb8
           try go_wp2_with fail
           refine hK.out _ _ ?_ (fun hHeld => ?_)
           ·try dsimp only
            all_goals trivial
           clear hK K
           try simp only [Act.put, List.setIfInBounds_toArray, List.set_cons_zero, List.set_cons_succ]
           refine wpAnyH_ready (rs := [1, 5]) (by kernel_rfl) (by simp) (AllReadyH.cons rfl (fun K hK => ?_) (AllReadyH.cons rfl (fun K hK => ?_) AllReadyH.nil))
           ·have y2 := HOX.out.blk.cell 4
            go_simp
            clear y2
            try go_wp2_with fail
            refine hK.out _ _ ?_ (fun hHeld => ?_)
            ·try dsimp only
             all_goals trivial
            clear hK K
            try simp only [Act.put, List.setIfInBounds_toArray, List.set_cons_zero, List.set_cons_succ]
            refine wpAnyH_ready (rs := [5]) (by kernel_rfl) (by simp) (AllReadyH.cons rfl (fun K hK => ?_) AllReadyH.nil)
            go_simp
            have HRA := Lib.hid (reads_one w8 (str (hexL y9)))
            have hbl9 : Below w8.heap.size w8 (w8.alloc (.cells #[.string (str (hexL y9))] 9)) := (Below.refl _ _).alloc (Nat.le_refl _) _
            replace HOX := Lib.hid (HOX.out.still hbl9)
            replace HRF := Lib.hid (HRF.out.below hbl9)
            clear hbl9
            try go_wp2_with fail
            refine hK.out _ _ ?_ (fun hHeld => ?_)
            ·try dsimp only
             all_goals trivial
            clear hK K
            try simp only [Act.put, List.setIfInBounds_toArray, List.set_cons_zero, List.set_cons_succ]
            refine wpAnyH_ready (rs := [6]) (by kernel_rfl) (by simp) (AllReadyH.cons rfl (fun K hK => ?_) AllReadyH.nil)
            have hpl := HPL.out
            have hown : World.ownsRow (w8.alloc (.cells #[.string (str (hexL y9))] 9)) w1.heap.size 9 1 (.slice A3 n3 c3) P.length ((P.map str).map Tx.sv) := (by have h9 := HOX.out.pars; unfold Tx.OwnV at h9; rw [List.length_map, List.length_map] at h9; exact h9)
            refine step_append_any _ rfl (.tmp 92) (.tmp 96) 50 rfl w1.heap.size 9 i9 (.string ⟨#[]⟩) 1 16 Tryz.underlying50 HIT.out hz0 hz1' hz2 rfl (by decide) (.slice A3 n3 c3) P.length _ rfl (by exact hown) _ (some ⟨w8.heap.size, 0, none⟩) 1 1 [Tx.sv (str (hexL y9))] rfl (by exact HRA.out) (Tx.sv_one [str (hexL y9)]) (by unfold maxLen; omega) (by omega) (by exact HOX.out.below.size) ?_
            intro v9 w9 ho9 hg9 hk9
            have HO9 : Hid (Tx.OwnV 9 w9 w1.heap.size v9 (((P ++ [hexL y9]).map str).map Tx.sv)) := (by unfold Hid Tx.OwnV; rw [List.length_map, List.length_map, List.length_append, List.map_append, List.map_append]; exact ho9)
            obtain ⟨A9, c9, rfl, _⟩ := HO9.out.slv.len
            obtain ⟨n9, hn9⟩ : ∃ n, (((P ++ [hexL y9]).map str).map Tx.sv).length = n := ⟨_, rfl⟩
            rw [hn9] at HO9 ⊢
            obtain ⟨hb9, hl9, hf9⟩ := HOX.out.grewP hg9 HO9.out
            have HBX := Lib.hid hb9
            have HFX := Lib.hid hf9
            have hr9 : RfAt w1 w9 w1.heap.size q4 := HRF.out.row hown (by decide) hg9 HZ.out HOX.out.below.size
            replace HRF := Lib.hid hr9
            clear ho9 hg9 hk9 hn9 hb9 hl9 hf9 hr9 hown hpl
            try go_wp2_with fail
            refine hK.out _ _ ?_ (fun hHeld => ?_)
            ·try dsimp only
             all_goals trivial
            clear hK K
            try simp only [Act.put, List.setIfInBounds_toArray, List.set_cons_zero, List.set_cons_succ]
            refine take_at (i := 7) (d := 98) (v := ?_) rfl (by kernel_rfl) (hy := .inl ⟨by kernel_rfl, ?_⟩) (h := ?_)
            rotate_left
            ·intro W hSw; (try dsimp only at hSw); go_simp; first | done | with_reducible rfl
            try simp only [Act.put, List.setIfInBounds_toArray, List.set_cons_zero, List.set_cons_succ]
            refine wpAnyH_ready (rs := [8]) (by kernel_rfl) (by simp) (AllReadyH.cons rfl (fun K hK => ?_) AllReadyH.nil)
            have g2 := HBX.out.frozen 4
            have y2 := HBX.out.cell 4
            go_simp
            clear g2 y2
            try go_wp2_with fail
            refine hK.out _ _ ?_ (fun hHeld => ?_)
            ·try dsimp only
             all_goals trivial
            clear hK K
            refine wpAnyH_done (by kernel_rfl) ?_ _
            go_wp2_with fail
            go_roundw
            case rel =>
             have hlt9 : i < N := HLT.out
             have hr10 := HRF.out.set_ (i := 4) HBX.out (by decide) (by omega : w1.heap.size ≤ w1.heap.size + 1) (.slice A9 n9 c9)
             exact ⟨i + 1, P ++ [hexL y9], q4, A9, n9, c9, by go_num, by omega, HST.out, HFX.out, hr10⟩
            case measure => have hlt9 : i < N := HLT.out; simp [intOf]; omega
           ·go_simp
            have HRA := Lib.hid (reads_one w8 (str (hexL y9)))
            have hbl9 : Below w8.heap.size w8 (w8.alloc (.cells #[.string (str (hexL y9))] 9)) := (Below.refl _ _).alloc (Nat.le_refl _) _
            replace HOX := Lib.hid (HOX.out.still hbl9)
            replace HRF := Lib.hid (HRF.out.below hbl9)
            clear hbl9
            try go_wp2_with fail
            refine hK.out _ _ ?_ (fun hHeld => ?_)
            ·try dsimp only
             all_goals trivial
            clear hK K
            try simp only [Act.put, List.setIfInBounds_toArray, List.set_cons_zero, List.set_cons_succ]
            refine wpAnyH_ready (rs := [1]) (by kernel_rfl) (by simp) (AllReadyH.cons rfl (fun K hK => ?_) AllReadyH.nil)
            have y2 := HOX.out.blk.cell 4
            go_simp
            clear y2
            try go_wp2_with fail
            refine hK.out _ _ ?_ (fun hHeld => ?_)
            ·try dsimp only
             all_goals trivial
            clear hK K
            try simp only [Act.put, List.setIfInBounds_toArray, List.set_cons_zero, List.set_cons_succ]
            refine wpAnyH_ready (rs := [6]) (by kernel_rfl) (by simp) (AllReadyH.cons rfl (fun K hK => ?_) AllReadyH.nil)
            have hpl := HPL.out
            have hown : World.ownsRow (w8.alloc (.cells #[.string (str (hexL y9))] 9)) w1.heap.size 9 1 (.slice A3 n3 c3) P.length ((P.map str).map Tx.sv) := (by have h9 := HOX.out.pars; unfold Tx.OwnV at h9; rw [List.length_map, List.length_map] at h9; exact h9)
            refine step_append_any _ rfl (.tmp 92) (.tmp 96) 50 rfl w1.heap.size 9 i9 (.string ⟨#[]⟩) 1 16 Tryz.underlying50 HIT.out hz0 hz1' hz2 rfl (by decide) (.slice A3 n3 c3) P.length _ rfl (by exact hown) _ (some ⟨w8.heap.size, 0, none⟩) 1 1 [Tx.sv (str (hexL y9))] rfl (by exact HRA.out) (Tx.sv_one [str (hexL y9)]) (by unfold maxLen; omega) (by omega) (by exact HOX.out.below.size) ?_
            intro v9 w9 ho9 hg9 hk9
            have HO9 : Hid (Tx.OwnV 9 w9 w1.heap.size v9 (((P ++ [hexL y9]).map str).map Tx.sv)) := (by unfold Hid Tx.OwnV; rw [List.length_map, List.length_map, List.length_append, List.map_append, List.map_append]; exact ho9)
            obtain ⟨A9, c9, rfl, _⟩ := HO9.out.slv.len
            obtain ⟨n9, hn9⟩ : ∃ n, (((P ++ [hexL y9]).map str).map Tx.sv).length = n := ⟨_, rfl⟩
            rw [hn9] at HO9 ⊢
            obtain ⟨hb9, hl9, hf9⟩ := HOX.out.grewP hg9 HO9.out
            have HBX := Lib.hid hb9
            have HFX := Lib.hid hf9
            have hr9 : RfAt w1 w9 w1.heap.size q4 := HRF.out.row hown (by decide) hg9 HZ.out HOX.out.below.size
            replace HRF := Lib.hid hr9
            clear ho9 hg9 hk9 hn9 hb9 hl9 hf9 hr9 hown hpl
            try go_wp2_with fail
            refine hK.out _ _ ?_ (fun hHeld => ?_)
            ·try dsimp only
             all_goals trivial
            clear hK K
            try simp only [Act.put, List.setIfInBounds_toArray, List.set_cons_zero, List.set_cons_succ]
            refine take_at (i := 7) (d := 98) (v := ?_) rfl (by kernel_rfl) (hy := .inl ⟨by kernel_rfl, ?_⟩) (h := ?_)
            rotate_left
            ·intro W hSw; (try dsimp only at hSw); go_simp; first | done | with_reducible rfl
            try simp only [Act.put, List.setIfInBounds_toArray, List.set_cons_zero, List.set_cons_succ]
            refine wpAnyH_ready (rs := [8]) (by kernel_rfl) (by simp) (AllReadyH.cons rfl (fun K hK => ?_) AllReadyH.nil)
            have g2 := HBX.out.frozen 4
            have y2 := HBX.out.cell 4
            go_simp
            clear g2 y2
            try go_wp2_with fail
            refine hK.out _ _ ?_ (fun hHeld => ?_)
            ·try dsimp only
             all_goals trivial
            clear hK K
            refine wpAnyH_done (by kernel_rfl) ?_ _
            go_wp2_with fail
            go_roundw
            case rel =>
             have hlt9 : i < N := HLT.out
             have hr10 := HRF.out.set_ (i := 4) HBX.out (by decide) (by omega : w1.heap.size ≤ w1.heap.size + 1) (.slice A9 n9 c9)
             exact ⟨i + 1, P ++ [hexL y9], q4, A9, n9, c9, by go_num, by omega, HST.out, HFX.out, hr10⟩
            case measure => have hlt9 : i < N := HLT.out; simp [intOf]; omega
       ·obtain rfl : i = N := by omega
        have k1 : ¬ ((i : Int) < (i : Int)) := by omega
        have k1' : decide ((i : Int) < (i : Int)) = false := by simp
        have HEQ : P = ids ∧ q = s3 := by
         have h9 := HE.out
         rw [HE3.out] at h9
         injection h9 with a1 a2
         exact ⟨a1.symm, a2.symm⟩
        obtain ⟨rfl, rfl⟩ := HEQ
        obtain ⟨y0, y1, y2, y3, y4, y5, y6, y7⟩ := box_cells HOX.out.blk
        clear y0 y1 y2 y3 y4 y5 y6 y7
        go_wp2_with fail
        refine (rnum_any w1 wr w1.heap.size q HRF.out).mono ?_
        rw [HE4.out]
        rintro e w8 ⟨rfl, hr8, hu8⟩
        obtain ⟨cs, hcs⟩ := HRF.out.blk
        replace HOX := Lib.hid (HOX.out.upd hcs hu8 HZ.out)
        replace HRF := Lib.hid hr8
        clear hr8 hu8 hcs
        try clear x2
        go_wp2_with fail
        refine (rnum_any w1 w8 w1.heap.size s4 HRF.out).mono ?_
        rw [HE5.out]
        rintro e w9 ⟨rfl, hr9, hu9⟩
        obtain ⟨cs, hcs⟩ := HRF.out.blk
        replace HOX := Lib.hid (HOX.out.upd hcs hu9 HZ.out)
        replace HRF := Lib.hid hr9
        obtain ⟨y0, y1, y2, y3, y4, y5, y6, y7⟩ := box_cells HOX.out.blk
        obtain ⟨g0, g1, g2, g3, g4, g5, g6, g7⟩ := cells8 HOX.out.blk
        clear hr9 hu9 hcs
        replace HRF := Lib.hid (HRF.out.set_ (i := 5) HOX.out.blk (by decide) (by omega : w1.heap.size ≤ w1.heap.size + 1) (.int .i64 (st : Int)))
        replace HOX := Lib.hid (HOX.out.setStamp (st : Int))
        replace HRF := Lib.hid (HRF.out.set_ (i := 6) HOX.out.blk (by decide) (by omega : w1.heap.size ≤ w1.heap.size + 1) (.int .i64 (au : Int)))
        replace HOX := Lib.hid (HOX.out.setAuthor (au : Int))
        go_wp2_with fail
        clear y0 y1 y2 y3 y4 y5 y6 y7 g0 g1 g2 g3 g4 g5 g6 g7
        refine (rnum_any w1 _ w1.heap.size s5 HRF.out).mono ?_
        rw [HE6.out]
        rintro e w10 ⟨rfl, hr10, hu10⟩
        obtain ⟨cs, hcs⟩ := HRF.out.blk
        replace HOX := Lib.hid (HOX.out.upd hcs hu10 HZ.out)
        replace HRF := Lib.hid hr10
        clear hr10 hu10 hcs
        go_wp2_with fail
        refine (rtake_any w1 w10 w1.heap.size z s6 HRF.out HZ9.out).mono ?_
        rw [HE7.out]
        rintro e w11 ⟨u11, rfl, ho11, hr11, hu11⟩
        obtain ⟨cs, hcs⟩ := HRF.out.blk
        replace HOX := Lib.hid (HOX.out.upd hcs hu11 HZ.out)
        replace HRF := Lib.hid hr11
        have HX := Lib.hid ho11.sl
        obtain ⟨uA, uc, rfl, _⟩ := ho11.sl.len
        obtain ⟨xl, hxl⟩ : ∃ n, x.length = n := ⟨_, rfl⟩
        rw [hxl] at HX ⊢
        have kc := conv_sl w11 uA x xl uc hxl HX.out
        obtain ⟨y0, y1, y2, y3, y4, y5, y6, y7⟩ := box_cells HOX.out.blk
        obtain ⟨g0, g1, g2, g3, g4, g5, g6, g7⟩ := cells8 HOX.out.blk
        clear hr11 hu11 hcs ho11 hxl
        go_wp2_with fail
        go_meet
        rw [HO2.out, HOB.out]
        exact ⟨_, _, _, _, _, _, _, _, _, HOX.out.setMsg x, HRF.out.set_ (i := 7) HOX.out.blk (by decide) (by omega : w1.heap.size ≤ w1.heap.size + 1) (.string (str x))⟩
     ·have hk3 : ((k : Int) == 3) = false := beq_eq_false_iff_ne.2 (by omega)
      have HE : Hid (objS2 k (t, false) = (objK (k : Int), (t, false))) := by unfold Hid objS2; rw [if_neg h1, if_neg h2, if_neg h3]
      clear h1 h2 h3
      go_wp2_with fail
      go_meet
      rw [HO2.out, HE.out]
      exact ⟨_, _, _, _, _, _, _, _, _, HOX.out, HRF.out⟩
  case rest =>
   obtain ⟨A1, n1, c1, A2, n2, c2, A3, n3, c3, ho, hr⟩ := hcut
   obtain ⟨o, hoq⟩ : ∃ o, (objR2 (b0 :: t)).1 = o := ⟨_, rfl⟩
   obtain ⟨f, hfq⟩ : ∃ f, (objR2 (b0 :: t)).2.2 = f := ⟨_, rfl⟩
   have HTO : Hid (TOk o) := by unfold Hid; rw [← hoq]; exact tok_read HLN.out
   have HDB : Hid (decB (b0 :: t) = (!f && mayB o && (encL o == b0 :: t))) := by unfold Hid; rw [← okR2_eq]; unfold okR2; rw [hoq, hfq]
   have HOR : Hid (decB (b0 :: t) = true → (objR (b0 :: t)).1 = o) := by intro h9; rw [← objR2_of h9]; exact hoq
   have HNE : Hid (b0 :: t ≠ []) := by simp [Hid]
   rw [hoq] at ho
   have HFL := Lib.hid hr
   have HOX := Lib.hid ho
   obtain ⟨x0, x1, x2, x3, x4, x5, x6, x7⟩ := box_cells ho.blk
   have HFQ := Lib.hid hfq
   clear hoq hfq ho hr
   go_wp2_with fail
   refine (rencode_any _ o _ ⟨_, _, _, rfl, HOX.out.data.sl, HOX.out.items.slI, HOX.out.pars.slv⟩ HTO.out).mono ?_
   intro e w3 hp
   have hb3 := hp.2.2
   replace HOX := Lib.hid (HOX.out.still hb3)
   replace HFL := Lib.hid (HFL.out.below hb3)
   have HB : Hid (Below w.heap.size w w3) := HB1.out.trans (HOX.out.below.mono (Nat.le_of_lt hz1))
   have HY := Lib.hid HOX.out.res
   have xf := HFL.out.flag
   rw [HFQ.out] at xf
   clear x0 x1 x2 x3 x4 x5 x6 x7 hb3
   obtain ⟨m, hm⟩ : ∃ m, mayB o = m := ⟨_, rfl⟩
   have HM := Lib.hid hm
   cases m with
   | false =>
    have hr := hp.2.1 hm
    subst hr
    have HD : Hid (decB (b0 :: t) = false) := by unfold Hid; rw [HDB.out, HM.out]; simp
    obtain ⟨z0, z1, z2, z3, z4, z5, z6, z7⟩ := box_cells HY.out
    obtain ⟨f0, f1, f2, f3, f4, f5, f6, f7⟩ := cells8 HY.out
    clear hp hm
    cases f with
    | true =>
     go_wp2_with fail
     change bodyPost _ _ _ _ _ (set8 w3 w.heap.size (.int .i64 0) (.slice none 0 0) (.slice none 0 0) (.string (str [])) (.slice none 0 0) (.int .i64 0) (.int .i64 0) (.string (str [])))
     obtain ⟨wc, hwc⟩ : ∃ wc, wc = set8 w3 w.heap.size (.int .i64 0) (.slice none 0 0) (.slice none 0 0) (.string (str [])) (.slice none 0 0) (.int .i64 0) (.int .i64 0) (.string (str [])) := ⟨_, rfl⟩
     have hb8 := set8_blk HY.out (.int .i64 0) (.slice none 0 0) (.slice none 0 0) (.string (str [])) (.slice none 0 0) (.int .i64 0) (.int .i64 0) (.string (str []))
     have hu8 := set8_upd w3 w.heap.size (.int .i64 0) (.slice none 0 0) (.slice none 0 0) (.string (str [])) (.slice none 0 0) (.int .i64 0) (.int .i64 0) (.string (str []))
     rw [← hwc] at hb8 hu8 ⊢
     obtain ⟨q0, q1, q2, q3, q4, q5, q6, q7⟩ := box_cells hb8
     refine bodyPost_ret (v := .tuple #[.agg #[.int .i64 0, .slice none 0 0, .slice none 0 0, .string (str []), .slice none 0 0, .int .i64 0, .int .i64 0, .string (str [])], .int .i64 4]) (by simp [results, Tryz.results127, go_sem, q0, q1, q2, q3, q4, q5, q6, q7]) rfl ?_
     exact ⟨_, _, rfl, rdec_no HD.out HNE.out (zero_obV _), (HB.out).trans (hu8.below (Nat.le_refl _) (HB.out).size)⟩
    | false =>
     go_wp2_with fail
     change bodyPost _ _ _ _ _ (set8 w3 w.heap.size (.int .i64 0) (.slice none 0 0) (.slice none 0 0) (.string (str [])) (.slice none 0 0) (.int .i64 0) (.int .i64 0) (.string (str [])))
     obtain ⟨wc, hwc⟩ : ∃ wc, wc = set8 w3 w.heap.size (.int .i64 0) (.slice none 0 0) (.slice none 0 0) (.string (str [])) (.slice none 0 0) (.int .i64 0) (.int .i64 0) (.string (str [])) := ⟨_, rfl⟩
     have hb8 := set8_blk HY.out (.int .i64 0) (.slice none 0 0) (.slice none 0 0) (.string (str [])) (.slice none 0 0) (.int .i64 0) (.int .i64 0) (.string (str []))
     have hu8 := set8_upd w3 w.heap.size (.int .i64 0) (.slice none 0 0) (.slice none 0 0) (.string (str [])) (.slice none 0 0) (.int .i64 0) (.int .i64 0) (.string (str []))
     rw [← hwc] at hb8 hu8 ⊢
     obtain ⟨q0, q1, q2, q3, q4, q5, q6, q7⟩ := box_cells hb8
     refine bodyPost_ret (v := .tuple #[.agg #[.int .i64 0, .slice none 0 0, .slice none 0 0, .string (str []), .slice none 0 0, .int .i64 0, .int .i64 0, .string (str [])], .int .i64 4]) (by simp [results, Tryz.results127, go_sem, q0, q1, q2, q3, q4, q5, q6, q7]) rfl ?_
     exact ⟨_, _, rfl, rdec_no HD.out HNE.out (zero_obV _), (HB.out).trans (hu8.below (Nat.le_refl _) (HB.out).size)⟩
   | true =>
    obtain ⟨u, hr, hou⟩ := hp.1 hm
    subst hr
    have HOU := Lib.hid hou
    clear hp hm hou
    cases f with
    | true =>
     have HD : Hid (decB (b0 :: t) = false) := by unfold Hid; rw [HDB.out]; rfl
     obtain ⟨z0, z1, z2, z3, z4, z5, z6, z7⟩ := box_cells HY.out
     obtain ⟨f0, f1, f2, f3, f4, f5, f6, f7⟩ := cells8 HY.out
     go_wp2_with fail
     change bodyPost _ _ _ _ _ (set8 w3 w.heap.size (.int .i64 0) (.slice none 0 0) (.slice none 0 0) (.string (str [])) (.slice none 0 0) (.int .i64 0) (.int .i64 0) (.string (str [])))
     obtain ⟨wc, hwc⟩ : ∃ wc, wc = set8 w3 w.heap.size (.int .i64 0) (.slice none 0 0) (.slice none 0 0) (.string (str [])) (.slice none 0 0) (.int .i64 0) (.int .i64 0) (.string (str [])) := ⟨_, rfl⟩
     have hb8 := set8_blk HY.out (.int .i64 0) (.slice none 0 0) (.slice none 0 0) (.string (str [])) (.slice none 0 0) (.int .i64 0) (.int .i64 0) (.string (str []))
     have hu8 := set8_upd w3 w.heap.size (.int .i64 0) (.slice none 0 0) (.slice none 0 0) (.string (str [])) (.slice none 0 0) (.int .i64 0) (.int .i64 0) (.string (str []))
     rw [← hwc] at hb8 hu8 ⊢
     obtain ⟨q0, q1, q2, q3, q4, q5, q6, q7⟩ := box_cells hb8
     refine bodyPost_ret (v := .tuple #[.agg #[.int .i64 0, .slice none 0 0, .slice none 0 0, .string (str []), .slice none 0 0, .int .i64 0, .int .i64 0, .string (str [])], .int .i64 4]) (by simp [results, Tryz.results127, go_sem, q0, q1, q2, q3, q4, q5, q6, q7]) rfl ?_
     exact ⟨_, _, rfl, rdec_no HD.out HNE.out (zero_obV _), (HB.out).trans (hu8.below (Nat.le_refl _) (HB.out).size)⟩
    | false =>
     obtain ⟨q, hq⟩ : ∃ q, (encL o == b0 :: t) = q := ⟨_, rfl⟩
     have HQ := Lib.hid hq
     clear hq
     go_wp2_with fail
     refine (bytes_any u _ (encL o) (b0 :: t) w3 HOU.out.sl (HSL.out.below HB.out) q HQ.out).mono ?_
     rintro e w4 ⟨rfl, rfl⟩
     obtain ⟨z0, z1, z2, z3, z4, z5, z6, z7⟩ := box_cells HY.out
     obtain ⟨f0, f1, f2, f3, f4, f5, f6, f7⟩ := cells8 HY.out
     clear xf
     cases q with
     | false =>
      have HD : Hid (decB (b0 :: t) = false) := by unfold Hid; rw [HDB.out, HQ.out]; simp
      go_wp2_with fail
      change bodyPost _ _ _ _ _ (set8 w3 w.heap.size (.int .i64 0) (.slice none 0 0) (.slice none 0 0) (.string (str [])) (.slice none 0 0) (.int .i64 0) (.int .i64 0) (.string (str [])))
      obtain ⟨wc, hwc⟩ : ∃ wc, wc = set8 w3 w.heap.size (.int .i64 0) (.slice none 0 0) (.slice none 0 0) (.string (str [])) (.slice none 0 0) (.int .i64 0) (.int .i64 0) (.string (str [])) := ⟨_, rfl⟩
      have hb8 := set8_blk HY.out (.int .i64 0) (.slice none 0 0) (.slice none 0 0) (.string (str [])) (.slice none 0 0) (.int .i64 0) (.int .i64 0) (.string (str []))
      have hu8 := set8_upd w3 w.heap.size (.int .i64 0) (.slice none 0 0) (.slice none 0 0) (.string (str [])) (.slice none 0 0) (.int .i64 0) (.int .i64 0) (.string (str []))
      rw [← hwc] at hb8 hu8 ⊢
      obtain ⟨q0, q1, q2, q3, q4, q5, q6, q7⟩ := box_cells hb8
      refine bodyPost_ret (v := .tuple #[.agg #[.int .i64 0, .slice none 0 0, .slice none 0 0, .string (str []), .slice none 0 0, .int .i64 0, .int .i64 0, .string (str [])], .int .i64 4]) (by simp [results, Tryz.results127, go_sem, q0, q1, q2, q3, q4, q5, q6, q7]) rfl ?_
      exact ⟨_, _, rfl, rdec_no HD.out HNE.out (zero_obV _), (HB.out).trans (hu8.below (Nat.le_refl _) (HB.out).size)⟩
     | true =>
      have HD : Hid (decB (b0 :: t) = true) := by unfold Hid; rw [HDB.out, HM.out, HQ.out]; rfl
      obtain ⟨y0, y1, y2, y3, y4, y5, y6, y7⟩ := box_cells HOX.out.blk
      go_wp2_with fail
      change bodyPost _ _ _ _ _ (set8 w3 w.heap.size (.int .i64 o.kind) (.slice A1 n1 c1) (.slice A2 n2 c2) (.string (str o.tree)) (.slice A3 n3 c3) (.int .i64 o.stamp) (.int .i64 o.author) (.string (str o.msg)))
      obtain ⟨wc, hwc⟩ : ∃ wc, wc = set8 w3 w.heap.size (.int .i64 o.kind) (.slice A1 n1 c1) (.slice A2 n2 c2) (.string (str o.tree)) (.slice A3 n3 c3) (.int .i64 o.stamp) (.int .i64 o.author) (.string (str o.msg)) := ⟨_, rfl⟩
      have hb8 := set8_blk HY.out (.int .i64 o.kind) (.slice A1 n1 c1) (.slice A2 n2 c2) (.string (str o.tree)) (.slice A3 n3 c3) (.int .i64 o.stamp) (.int .i64 o.author) (.string (str o.msg))
      have hu8 := set8_upd w3 w.heap.size (.int .i64 o.kind) (.slice A1 n1 c1) (.slice A2 n2 c2) (.string (str o.tree)) (.slice A3 n3 c3) (.int .i64 o.stamp) (.int .i64 o.author) (.string (str o.msg))
      rw [← hwc] at hb8 hu8 ⊢
      obtain ⟨q0, q1, q2, q3, q4, q5, q6, q7⟩ := box_cells hb8
      refine bodyPost_ret (v := .tuple #[.agg #[.int .i64 o.kind, .slice A1 n1 c1, .slice A2 n2 c2, .string (str o.tree), .slice A3 n3 c3, .int .i64 o.stamp, .int .i64 o.author, .string (str o.msg)], .int .i64 0]) (by simp [results, Tryz.results127, go_sem, q0, q1, q2, q3, q4, q5, q6, q7]) rfl ?_
      have hz := Nat.le_of_lt hz1
      exact ⟨_, _, rfl, rdec_ok HD.out HNE.out (HOR.out HD.out) ⟨_, _, _, rfl, Own.sl (B := w1.heap.size) (row_upd HOX.out.data HY.out (by decide) hu8), OwnI.slI (B := w1.heap.size) (row_upd HOX.out.items HY.out (by decide) hu8), Tx.OwnV.slv (B := w1.heap.size) (row_upd HOX.out.pars HY.out (by decide) hu8)⟩, HB.out.trans (hu8.below (Nat.le_refl _) HB.out.size)⟩
end Go.Proofs.YtpfjlhpahmhkhaaGreat.Ob
