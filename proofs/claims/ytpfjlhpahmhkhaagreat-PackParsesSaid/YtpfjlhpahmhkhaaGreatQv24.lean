/- Texts put together: VOb19. -/
import Derived.Test.YtpfjlhpahmhkhaaGreatQv23
/- obj's reader: object. -/
namespace Go.Proofs.YtpfjlhpahmhkhaaGreat.Ob
open Go.RowKit Go.Proofs.YtpfjlhpahmhkhaaGreat.Sh
open Go.Proofs.YtpfjlhpahmhkhaaGreat.Tx (OwnV SlV sv bl nameB reads_at texts_at toList_ne')
def ObO (w : World) (B : Nat) (v : Value) (o : ObM) : Prop := ∃ A n c A2 n2 c2 A3 n3 c3, v = .agg #[.int .i64 o.kind, .slice A n c, .slice A2 n2 c2, .string (str o.tree), .slice A3 n3 c3, .int .i64 o.stamp, .int .i64 o.author, .string (str o.msg)] ∧ Own w B (.slice A n c) o.data ∧ OwnI 345 w B (.slice A2 n2 c2) o.items ∧ Tx.OwnV 9 w B (.slice A3 n3 c3) ((o.parents.map str).map Tx.sv)
def set8 (w : World) (b : Nat) (c0 c1 c2 c3 c4 c5 c6 c7 : Value) : World := (((((((w.setCell ⟨b, 0, none⟩ c0).setCell ⟨b, 1, none⟩ c1).setCell ⟨b, 2, none⟩ c2).setCell ⟨b, 3, none⟩ c3).setCell ⟨b, 4, none⟩ c4).setCell ⟨b, 5, none⟩ c5).setCell ⟨b, 6, none⟩ c6).setCell ⟨b, 7, none⟩ c7
theorem set8_blk {w : World} {b : Nat} {T : TypeId} {d0 d1 d2 d3 d4 d5 d6 d7 : Value} (h : Blk w b T #[d0, d1, d2, d3, d4, d5, d6, d7]) (c0 c1 c2 c3 c4 c5 c6 c7 : Value) : Blk (set8 w b c0 c1 c2 c3 c4 c5 c6 c7) b T #[c0, c1, c2, c3, c4, c5, c6, c7] := by
 have := (((((((h.set_ 0 c0).set_ 1 c1).set_ 2 c2).set_ 3 c3).set_ 4 c4).set_ 5 c5).set_ 6 c6).set_ 7 c7
 simpa [set8] using this
theorem set8_upd (w : World) (b : Nat) (c0 c1 c2 c3 c4 c5 c6 c7 : Value) : Upd b w (set8 w b c0 c1 c2 c3 c4 c5 c6 c7) :=
 ((((((((Upd.refl b w).set_ 0 c0).set_ 1 c1).set_ 2 c2).set_ 3 c3).set_ 4 c4).set_ 5 c5).set_ 6 c6).set_ 7 c7
theorem row_upd {w w1 : World} {T T' : TypeId} {B sz n g : Nat} {v : Value} {xs : List Value} {cs : Array Value} (h : w.ownsRow B T sz v n xs) (hg : Blk w g T' cs) (hT : T' ≠ T) (hu : Upd g w w1) : w1.ownsRow B T sz v n xs := World.ownsRow.kept h hu.grownBy (row_ne h hg hT)
theorem obj_fin {w0 w wz : World} {g b : Nat} {s : Rdr} {d0 d1 d2 d3 d4 d5 d6 d7 : Value} (hb : Blk wz b 183 #[d0, d1, d2, d3, d4, d5, d6, d7]) (hz : w0.heap.size ≤ b) (hw : w.heap.size ≤ b) (hr : RdAt w0 wz g s) (hu : Upd g w wz)
  {o : ObM} {A A2 A3 : Option Addr} {n c n2 c2 n3 c3 : Nat} (h1 : Own wz w.heap.size (.slice A n c) o.data) (h2 : OwnI 345 wz w.heap.size (.slice A2 n2 c2) o.items) (h3 : Tx.OwnV 9 wz w.heap.size (.slice A3 n3 c3) ((o.parents.map str).map Tx.sv)) :
  Blk (set8 wz b (.int .i64 o.kind) (.slice A n c) (.slice A2 n2 c2) (.string (str o.tree)) (.slice A3 n3 c3) (.int .i64 o.stamp) (.int .i64 o.author) (.string (str o.msg))) b 183 #[.int .i64 o.kind, .slice A n c, .slice A2 n2 c2, .string (str o.tree), .slice A3 n3 c3, .int .i64 o.stamp, .int .i64 o.author, .string (str o.msg)] ∧
  ObO (set8 wz b (.int .i64 o.kind) (.slice A n c) (.slice A2 n2 c2) (.string (str o.tree)) (.slice A3 n3 c3) (.int .i64 o.stamp) (.int .i64 o.author) (.string (str o.msg))) w.heap.size (.agg #[.int .i64 o.kind, .slice A n c, .slice A2 n2 c2, .string (str o.tree), .slice A3 n3 c3, .int .i64 o.stamp, .int .i64 o.author, .string (str o.msg)]) o ∧
  RdAt w0 (set8 wz b (.int .i64 o.kind) (.slice A n c) (.slice A2 n2 c2) (.string (str o.tree)) (.slice A3 n3 c3) (.int .i64 o.stamp) (.int .i64 o.author) (.string (str o.msg))) g s ∧
  Upd g w (set8 wz b (.int .i64 o.kind) (.slice A n c) (.slice A2 n2 c2) (.string (str o.tree)) (.slice A3 n3 c3) (.int .i64 o.stamp) (.int .i64 o.author) (.string (str o.msg))) := by
 have hu8 := set8_upd wz b (.int .i64 o.kind) (.slice A n c) (.slice A2 n2 c2) (.string (str o.tree)) (.slice A3 n3 c3) (.int .i64 o.stamp) (.int .i64 o.author) (.string (str o.msg))
 have hne : g ≠ b := by
  obtain ⟨_, hg⟩ := hr.blk
  exact Blk.ne_ hg hb (by decide)
 refine ⟨set8_blk hb _ _ _ _ _ _ _ _, ⟨A, n, c, A2, n2, c2, A3, n3, c3, rfl, row_upd h1 hb (by decide) hu8, row_upd h2 hb (by decide) hu8, row_upd h3 hb (by decide) hu8⟩, hr.upd hu8 hne hz, hu.then_below (hu8.below hw hu.size)⟩
theorem cells8 {w : World} {b : Nat} {T : TypeId} {c0 c1 c2 c3 c4 c5 c6 c7 : Value} (h : Blk w b T #[c0, c1, c2, c3, c4, c5, c6, c7]) :
  (w.frozen? ⟨b, 0, none⟩ = false ∧ w.frozen? ⟨b, 1, none⟩ = false ∧ w.frozen? ⟨b, 2, none⟩ = false ∧ w.frozen? ⟨b, 3, none⟩ = false ∧ w.frozen? ⟨b, 4, none⟩ = false ∧ w.frozen? ⟨b, 5, none⟩ = false ∧ w.frozen? ⟨b, 6, none⟩ = false ∧ w.frozen? ⟨b, 7, none⟩ = false) :=
 ⟨h.frozen 0, h.frozen 1, h.frozen 2, h.frozen 3, h.frozen 4, h.frozen 5, h.frozen 6, h.frozen 7⟩
theorem takeR_all (s : Rdr) : takeR s s.1.length = (s.1, ([], s.2)) := by
 unfold takeR
 rw [if_neg (by omega)]
 simp
def ObjPost (w0 w : World) (g : Nat) (o : ObM) (s : Rdr) (e : Ending) (w' : World) : Prop := ∃ v, e = .returned v ∧ ObO w' w.heap.size v o ∧ RdAt w0 w' g s ∧ Upd g w w'
set_option maxRecDepth 100000 in
set_option maxHeartbeats 6400000 in
theorem object_any (w0 w : World) (g : Nat) (s : Rdr) (h : RdAt w0 w g s) (hlen : s.1.length ≤ 1000000) : Calls Tryz.prog 264 #[.pointer (some ⟨g, 0, none⟩)] w (ObjPost w0 w g (objS (octR s).1 (octR s).2).1 (objS (octR s).1 (octR s).2).2) := by
 have hww : w0.heap.size ≤ w.heap.size := by obtain ⟨_, _, _, _, _, h4⟩ := h; exact h4.size
 obtain ⟨k, s1, e1⟩ : ∃ k s1, octR s = (k, s1) := ⟨_, _, pe _⟩
 have hl1 : s1.1.length ≤ 1000000 := by have := octR_len s; rw [e1] at this; exact Nat.le_trans this hlen
 rw [e1]
 have E1 := Lib.hid e1
 have HS : Hid (RdAt w0 (w.alloc (.cells #[.int .i64 0, .slice none 0 0, .slice none 0 0, .string ⟨#[]⟩, .slice none 0 0, .int .i64 0, .int .i64 0, .string ⟨#[]⟩] 183)) g s) := h.below ((Below.refl _ _).alloc (Nat.le_refl _) _)
 have HU0 : Hid (Upd g w (w.alloc (.cells #[.int .i64 0, .slice none 0 0, .slice none 0 0, .string ⟨#[]⟩, .slice none 0 0, .int .i64 0, .int .i64 0, .string ⟨#[]⟩] 183))) := (Upd.refl g w).alloc _
 have HZ0 : Hid (Blk (w.alloc (.cells #[.int .i64 0, .slice none 0 0, .slice none 0 0, .string ⟨#[]⟩, .slice none 0 0, .int .i64 0, .int .i64 0, .string ⟨#[]⟩] 183)) w.heap.size 183 #[.int .i64 0, .slice none 0 0, .slice none 0 0, .string ⟨#[]⟩, .slice none 0 0, .int .i64 0, .int .i64 0, .string ⟨#[]⟩]) := Blk.new _ _ _
 have HL1 := Lib.hid hl1
 clear h e1 hlen hl1
 go_enter Tryz.func264, Tryz.ntmps264
 go_wp2_with fail
 refine (octet_any w0 _ g s HS.out).mono ?_
 rw [E1.out]
 rintro e w1 ⟨rfl, hr1, hu1⟩
 obtain ⟨cs, hcs⟩ := HS.out.blk
 have HZ1 := Lib.hid (hu1.blk HZ0.out (Blk.ne_ HZ0.out hcs (by decide)))
 have HR1 : Hid (RdAt w0 (w1.alloc (.cells #[.int .i64 (k : Int), .slice none 0 0, .slice none 0 0, .string ⟨#[]⟩, .slice none 0 0, .int .i64 0, .int .i64 0, .string ⟨#[]⟩] 183)) g s1) := hr1.below ((Below.refl _ _).alloc (Nat.le_refl _) _)
 have HU1 : Hid (Upd g w (w1.alloc (.cells #[.int .i64 (k : Int), .slice none 0 0, .slice none 0 0, .string ⟨#[]⟩, .slice none 0 0, .int .i64 0, .int .i64 0, .string ⟨#[]⟩] 183))) := (HU0.out.trans hu1).alloc _
 have hz1 : w.heap.size ≤ w1.heap.size := (HU0.out.trans hu1).size
 have HB1 : Hid (Blk (w1.alloc (.cells #[.int .i64 (k : Int), .slice none 0 0, .slice none 0 0, .string ⟨#[]⟩, .slice none 0 0, .int .i64 0, .int .i64 0, .string ⟨#[]⟩] 183)) w1.heap.size 183 #[.int .i64 (k : Int), .slice none 0 0, .slice none 0 0, .string ⟨#[]⟩, .slice none 0 0, .int .i64 0, .int .i64 0, .string ⟨#[]⟩]) := Blk.new _ _ _
 have HY1 : Hid (Blk (w1.alloc (.cells #[.int .i64 (k : Int), .slice none 0 0, .slice none 0 0, .string ⟨#[]⟩, .slice none 0 0, .int .i64 0, .int .i64 0, .string ⟨#[]⟩] 183)) w.heap.size 183 #[.int .i64 0, .slice none 0 0, .slice none 0 0, .string ⟨#[]⟩, .slice none 0 0, .int .i64 0, .int .i64 0, .string ⟨#[]⟩]) := HZ1.out.alloc _
 have hlt1 : w.heap.size < w1.heap.size := HZ1.out.lt
 have HN23 : Hid (w1.heap.size ≠ w.heap.size) := by unfold Hid; omega
 have HZB : Hid (w.heap.size ≤ w1.heap.size) := hz1
 clear hr1 hu1 hcs hlt1 hz1
 by_cases h1 : k = 1
 ·subst h1
  have HM : Hid (objS 1 s1 = (⟨1, s1.1, [], [], [], 0, 0, []⟩, ([], s1.2))) := by unfold Hid objS; rw [if_pos rfl]
  rw [show ((1 : Nat) : Int) = 1 from rfl] at *
  obtain ⟨RA, rc, hrb, _⟩ := HR1.out
  obtain ⟨r0, r1, _, _⟩ := two_cells hrb
  obtain ⟨l, hl⟩ : ∃ l, s1.1.length = l := ⟨_, rfl⟩
  have HLL := Lib.hid hl
  rw [hl] at r0
  clear hrb hl
  go_wp2_with fail
  clear r0 r1
  refine (take_any w0 _ g l s1 HR1.out).mono ?_
  rw [show takeR s1 l = (s1.1, ([], s1.2)) from by rw [← HLL.out]; exact takeR_all s1]
  rintro e w2 ⟨u, rfl, hsl, hr2, hu2⟩
  obtain ⟨cs, hcs⟩ := HR1.out.blk
  have HB2 := Lib.hid (hu2.blk HB1.out (Blk.ne_ HB1.out hcs (by decide)))
  have HY2 := Lib.hid (hu2.blk HY1.out (Blk.ne_ HY1.out hcs (by decide)))
  have HR2 := Lib.hid hr2
  have HU2 := Lib.hid (HU1.out.trans hu2)
  have HSL : Hid (Sl w2 u s1.1) := by obtain ⟨_, _, _, _, _, h4⟩ := hr2; exact hsl.below h4
  clear hsl hr2 hu2 hcs
  go_wp2_with fail
  refine (clone_any u s1.1 w2 HSL.out (by have := HL1.out; omega)).mono ?_
  rintro e w3 ⟨dv, rfl, ho3, hb3⟩
  have HB3 := Lib.hid (HB2.out.below hb3 HB2.out.lt)
  have HY3 := Lib.hid (HY2.out.below hb3 HY2.out.lt)
  have HR3 := Lib.hid (HR2.out.below hb3)
  have HU3 := Lib.hid (HU2.out.trans (Upd.of_below hb3))
  have HO3 : Hid (Own w3 w.heap.size dv s1.1) := Own.based ho3 HU2.out.size
  obtain ⟨DA, dc, hdv, _, _⟩ := Own.length ho3
  subst hdv
  clear ho3 hb3
  obtain ⟨dn, hdn⟩ : ∃ dn, s1.1.length = dn := ⟨_, rfl⟩
  rw [hdn] at HO3 ⊢
  clear hdn
  have xb := HB3.out.cell 1
  have fb := HB3.out.frozen 1
  have HB4 : Hid (Blk (w3.setCell ⟨w1.heap.size, 1, none⟩ (.slice DA dn dc)) w1.heap.size 183 #[.int .i64 1, .slice DA dn dc, .slice none 0 0, .string ⟨#[]⟩, .slice none 0 0, .int .i64 0, .int .i64 0, .string ⟨#[]⟩]) := by unfold Hid; simpa using HB3.out.set_ 1 (.slice DA dn dc)
  have HY4 : Hid (Blk (w3.setCell ⟨w1.heap.size, 1, none⟩ (.slice DA dn dc)) w.heap.size 183 #[.int .i64 0, .slice none 0 0, .slice none 0 0, .string ⟨#[]⟩, .slice none 0 0, .int .i64 0, .int .i64 0, .string ⟨#[]⟩]) := HY3.out.far (fun e => HN23.out e.symm) _
  have HR4 : Hid (RdAt w0 (w3.setCell ⟨w1.heap.size, 1, none⟩ (.slice DA dn dc)) g ([], s1.2)) := HR3.out.set_ HB3.out (by decide) (Nat.le_trans hww HZB.out) _
  have HU4 : Hid (Upd g w (w3.setCell ⟨w1.heap.size, 1, none⟩ (.slice DA dn dc))) := HU3.out.then_below ((Below.refl _ _).setCell (p := ⟨w1.heap.size, 1, none⟩) HZB.out _)
  have HO4 : Hid (Own (w3.setCell ⟨w1.heap.size, 1, none⟩ (.slice DA dn dc)) w.heap.size (.slice DA dn dc) s1.1) := row_upd HO3.out HB3.out (by decide) ((Upd.refl _ _).set_ 1 _)
  obtain ⟨y0, y1, y2, y3, y4, y5, y6, y7⟩ := box_cells HB4.out
  obtain ⟨z0, z1, z2, z3, z4, z5, z6, z7⟩ := box_cells HY4.out
  obtain ⟨f0, f1, f2, f3, f4, f5, f6, f7⟩ := cells8 HY4.out
  go_wp2_with fail
  obtain ⟨wz, hwz⟩ : ∃ W, W = w3.setCell ⟨w1.heap.size, 1, none⟩ (.slice DA dn dc) := ⟨_, rfl⟩
  have HWZ := Lib.hid hwz
  rw [← hwz]
  have HYZ : Hid (Blk wz w.heap.size 183 #[.int .i64 0, .slice none 0 0, .slice none 0 0, .string ⟨#[]⟩, .slice none 0 0, .int .i64 0, .int .i64 0, .string ⟨#[]⟩]) := by unfold Hid; rw [hwz]; exact HY4.out
  have HRZ : Hid (RdAt w0 wz g ([], s1.2)) := by unfold Hid; rw [hwz]; exact HR4.out
  have HUZ : Hid (Upd g w wz) := by unfold Hid; rw [hwz]; exact HU4.out
  have HOZ : Hid (Own wz w.heap.size (.slice DA dn dc) s1.1) := by unfold Hid; rw [hwz]; exact HO4.out
  have hfin := obj_fin (w := w) (o := (⟨1, s1.1, [], [], [], 0, 0, []⟩ : ObM)) HYZ.out hww (Nat.le_refl _) HRZ.out HUZ.out HOZ.out (OwnI.nil_ _ _ _) (Tx.OwnV.nil_ _ _)
  clear hwz z0 z1 z2 z3 z4 z5 z6 z7 f0 f1 f2 f3 f4 f5 f6 f7
  obtain ⟨wc, hwc⟩ : ∃ wc, wc = set8 wz w.heap.size (.int .i64 1) (.slice DA dn dc) (.slice none 0 0) (.string (str [])) (.slice none 0 0) (.int .i64 0) (.int .i64 0) (.string (str [])) := ⟨_, rfl⟩
  change bodyPost _ _ _ _ _ (set8 wz w.heap.size (.int .i64 1) (.slice DA dn dc) (.slice none 0 0) (.string (str [])) (.slice none 0 0) (.int .i64 0) (.int .i64 0) (.string (str [])))
  rw [← hwc]
  obtain ⟨g1, g2, g3, g4⟩ := hfin
  obtain ⟨q0, q1, q2, q3, q4, q5, q6, q7⟩ : wc.cell? ⟨w.heap.size, 0, none⟩ = _ ∧ wc.cell? ⟨w.heap.size, 1, none⟩ = _ ∧ wc.cell? ⟨w.heap.size, 2, none⟩ = _ ∧ wc.cell? ⟨w.heap.size, 3, none⟩ = _ ∧ wc.cell? ⟨w.heap.size, 4, none⟩ = _ ∧ wc.cell? ⟨w.heap.size, 5, none⟩ = _ ∧ wc.cell? ⟨w.heap.size, 6, none⟩ = _ ∧ wc.cell? ⟨w.heap.size, 7, none⟩ = _ := by
   rw [hwc]
   exact box_cells g1
  refine bodyPost_ret (v := .agg #[.int .i64 1, .slice DA dn dc, .slice none 0 0, .string (str []), .slice none 0 0, .int .i64 0, .int .i64 0, .string (str [])]) (by simp [results, Tryz.results264, go_sem, q0, q1, q2, q3, q4, q5, q6, q7]) rfl ?_
  rw [hwc]
  rw [HM.out]
  exact ⟨_, rfl, g2, g3, g4⟩
 ·by_cases h2 : k = 2
  ·subst h2
   have HM : Hid (objS 2 s1 = (⟨2, [], (itemsR (numR s1).1 (numR s1).2).1, [], [], 0, 0, []⟩, (itemsR (numR s1).1 (numR s1).2).2)) := by unfold Hid objS; rw [if_neg (by decide), if_pos rfl]
   rw [show ((2 : Nat) : Int) = 2 from rfl] at *
   clear h1
   obtain ⟨L, sL, hLs⟩ : ∃ L sL, itemsR (numR s1).1 (numR s1).2 = (L, sL) := ⟨_, _, pe _⟩
   have HLs := Lib.hid hLs
   clear hLs
   go_wp2_with fail
   refine (ritems_any w0 _ g s1 HR1.out HL1.out).mono ?_
   rw [HLs.out]
   rintro e w3 ⟨dv, rfl, ho3, hr3, hu3⟩
   obtain ⟨cs, hcs⟩ := HR1.out.blk
   have HB3 := Lib.hid (hu3.blk HB1.out (Blk.ne_ HB1.out hcs (by decide)))
   have HY3 := Lib.hid (hu3.blk HY1.out (Blk.ne_ HY1.out hcs (by decide)))
   have HR3 := Lib.hid hr3
   have HU3 := Lib.hid (HU1.out.trans hu3)
   have HO3 : Hid (OwnI 345 w3 w.heap.size dv L) := OwnI.base ho3 HU1.out.size
   obtain ⟨DA, dc, hdv, _, _⟩ : ∃ A c, dv = .slice A L.length c ∧ True ∧ True := by
    rcases ho3.2 with ⟨rfl, h0⟩ | ⟨gg, cap, cur, rfl, _⟩
    ·exact ⟨none, 0, by rw [h0], trivial, trivial⟩
    ·exact ⟨_, _, rfl, trivial, trivial⟩
   subst hdv
   clear ho3 hr3 hu3 hcs
   obtain ⟨dn, hdn⟩ : ∃ dn, L.length = dn := ⟨_, rfl⟩
   rw [hdn] at HO3 ⊢
   clear hdn
   have xb := HB3.out.cell 2
   have fb := HB3.out.frozen 2
   have HB4 : Hid (Blk (w3.setCell ⟨w1.heap.size, 2, none⟩ (.slice DA dn dc)) w1.heap.size 183 #[.int .i64 2, .slice none 0 0, .slice DA dn dc, .string ⟨#[]⟩, .slice none 0 0, .int .i64 0, .int .i64 0, .string ⟨#[]⟩]) := by unfold Hid; simpa using HB3.out.set_ 2 (.slice DA dn dc)
   have HY4 : Hid (Blk (w3.setCell ⟨w1.heap.size, 2, none⟩ (.slice DA dn dc)) w.heap.size 183 #[.int .i64 0, .slice none 0 0, .slice none 0 0, .string ⟨#[]⟩, .slice none 0 0, .int .i64 0, .int .i64 0, .string ⟨#[]⟩]) := HY3.out.far (fun e => HN23.out e.symm) _
   have HR4 : Hid (RdAt w0 (w3.setCell ⟨w1.heap.size, 2, none⟩ (.slice DA dn dc)) g sL) := HR3.out.set_ HB3.out (by decide) (Nat.le_trans hww HZB.out) _
   have HU4 : Hid (Upd g w (w3.setCell ⟨w1.heap.size, 2, none⟩ (.slice DA dn dc))) := HU3.out.then_below ((Below.refl _ _).setCell (p := ⟨w1.heap.size, 2, none⟩) HZB.out _)
   have HO4 : Hid (OwnI 345 (w3.setCell ⟨w1.heap.size, 2, none⟩ (.slice DA dn dc)) w.heap.size (.slice DA dn dc) L) := row_upd HO3.out HB3.out (by decide) ((Upd.refl _ _).set_ 2 _)
   obtain ⟨y0, y1, y2, y3, y4, y5, y6, y7⟩ := box_cells HB4.out
   obtain ⟨z0, z1, z2, z3, z4, z5, z6, z7⟩ := box_cells HY4.out
   obtain ⟨f0, f1, f2, f3, f4, f5, f6, f7⟩ := cells8 HY4.out
   go_wp2_with fail
   obtain ⟨wz, hwz⟩ : ∃ W, W = w3.setCell ⟨w1.heap.size, 2, none⟩ (.slice DA dn dc) := ⟨_, rfl⟩
   have HWZ := Lib.hid hwz
   rw [← hwz]
   have HYZ : Hid (Blk wz w.heap.size 183 #[.int .i64 0, .slice none 0 0, .slice none 0 0, .string ⟨#[]⟩, .slice none 0 0, .int .i64 0, .int .i64 0, .string ⟨#[]⟩]) := by unfold Hid; rw [hwz]; exact HY4.out
   have HRZ : Hid (RdAt w0 wz g sL) := by unfold Hid; rw [hwz]; exact HR4.out
   have HUZ : Hid (Upd g w wz) := by unfold Hid; rw [hwz]; exact HU4.out
   have HOZ : Hid (OwnI 345 wz w.heap.size (.slice DA dn dc) L) := by unfold Hid; rw [hwz]; exact HO4.out
   have hfin := obj_fin (w := w) (o := (⟨2, [], L, [], [], 0, 0, []⟩ : ObM)) HYZ.out hww (Nat.le_refl _) HRZ.out HUZ.out (Own.nil_ _ _) HOZ.out (Tx.OwnV.nil_ _ _)
   clear hwz z0 z1 z2 z3 z4 z5 z6 z7 f0 f1 f2 f3 f4 f5 f6 f7
   obtain ⟨wc, hwc⟩ : ∃ wc, wc = set8 wz w.heap.size (.int .i64 2) (.slice none 0 0) (.slice DA dn dc) (.string (str [])) (.slice none 0 0) (.int .i64 0) (.int .i64 0) (.string (str [])) := ⟨_, rfl⟩
   change bodyPost _ _ _ _ _ (set8 wz w.heap.size (.int .i64 2) (.slice none 0 0) (.slice DA dn dc) (.string (str [])) (.slice none 0 0) (.int .i64 0) (.int .i64 0) (.string (str [])))
   rw [← hwc]
   obtain ⟨g1, g2, g3, g4⟩ := hfin
   obtain ⟨q0, q1, q2, q3, q4, q5, q6, q7⟩ : wc.cell? ⟨w.heap.size, 0, none⟩ = _ ∧ wc.cell? ⟨w.heap.size, 1, none⟩ = _ ∧ wc.cell? ⟨w.heap.size, 2, none⟩ = _ ∧ wc.cell? ⟨w.heap.size, 3, none⟩ = _ ∧ wc.cell? ⟨w.heap.size, 4, none⟩ = _ ∧ wc.cell? ⟨w.heap.size, 5, none⟩ = _ ∧ wc.cell? ⟨w.heap.size, 6, none⟩ = _ ∧ wc.cell? ⟨w.heap.size, 7, none⟩ = _ := by
    rw [hwc]
    exact box_cells g1
   refine bodyPost_ret (v := .agg #[.int .i64 2, .slice none 0 0, .slice DA dn dc, .string (str []), .slice none 0 0, .int .i64 0, .int .i64 0, .string (str [])]) (by simp [results, Tryz.results264, go_sem, q0, q1, q2, q3, q4, q5, q6, q7]) rfl ?_
   rw [hwc]
   rw [HM.out, HLs.out]
   exact ⟨_, rfl, g2, g3, g4⟩
  ·by_cases h3 : k = 3
   ·subst h3
    have HM : Hid (objS 3 s1 = (⟨3, [], [], (commR s1).1.tree, (commR s1).1.parents, (commR s1).1.stamp, (commR s1).1.author, (commR s1).1.msg⟩, (commR s1).2)) := by unfold Hid objS; rw [if_neg (by decide), if_neg (by decide), if_pos rfl]
    rw [show ((3 : Nat) : Int) = 3 from rfl] at *
    clear h1 h2
    obtain ⟨C, sL, hLs⟩ : ∃ C sL, commR s1 = (C, sL) := ⟨_, _, pe _⟩
    have HLs := Lib.hid hLs
    clear hLs
    go_wp2_with fail
    refine (commit_any w0 _ g w1.heap.size 3 s1 HR1.out HB1.out (Nat.le_trans hww HZB.out)).mono ?_
    rw [HLs.out]
    rintro e w3 ⟨rfl, hc3, hr3, hu3⟩
    obtain ⟨t, ids, st, au, ms⟩ := C
    obtain ⟨DA, dn, dc, hb3, ho3⟩ := hc3
    obtain ⟨cs, hcs⟩ := HR1.out.blk
    have HB3 := Lib.hid hb3
    have HY3 : Hid (Blk w3 w.heap.size 183 #[.int .i64 0, .slice none 0 0, .slice none 0 0, .string ⟨#[]⟩, .slice none 0 0, .int .i64 0, .int .i64 0, .string ⟨#[]⟩]) := (hu3.block w.heap.size HY1.out.lt (Blk.ne_ HY1.out hcs (by decide)) (fun e => HN23.out e.symm)).trans HY1.out
    have HR3 := Lib.hid hr3
    have HU3 : Hid (Upd g w w3) := ⟨hu3.os.trans HU1.out.os, hu3.tape.trans HU1.out.tape, hu3.output.trans HU1.out.output, Nat.le_trans HU1.out.size hu3.size, fun k hk hn => (hu3.block k (Nat.lt_of_lt_of_le hk HU1.out.size) hn (by have := HZB.out; omega)).trans (HU1.out.block k hk hn)⟩
    have HO3 : Hid (Tx.OwnV 9 w3 w.heap.size (.slice DA dn dc) ((ids.map str).map Tx.sv)) := Tx.OwnV.base ho3 HU1.out.size
    clear hr3 hu3 hcs hb3 ho3
    obtain ⟨y0, y1, y2, y3, y4, y5, y6, y7⟩ := box_cells HB3.out
    obtain ⟨z0, z1, z2, z3, z4, z5, z6, z7⟩ := box_cells HY3.out
    obtain ⟨f0, f1, f2, f3, f4, f5, f6, f7⟩ := cells8 HY3.out
    go_wp2_with fail
    obtain ⟨wz, hwz⟩ : ∃ W, W = w3 := ⟨_, rfl⟩
    have HWZ := Lib.hid hwz
    rw [← hwz]
    have HYZ : Hid (Blk wz w.heap.size 183 #[.int .i64 0, .slice none 0 0, .slice none 0 0, .string ⟨#[]⟩, .slice none 0 0, .int .i64 0, .int .i64 0, .string ⟨#[]⟩]) := by unfold Hid; rw [hwz]; exact HY3.out
    have HRZ : Hid (RdAt w0 wz g sL) := by unfold Hid; rw [hwz]; exact HR3.out
    have HUZ : Hid (Upd g w wz) := by unfold Hid; rw [hwz]; exact HU3.out
    have HOZ : Hid (Tx.OwnV 9 wz w.heap.size (.slice DA dn dc) ((ids.map str).map Tx.sv)) := by unfold Hid; rw [hwz]; exact HO3.out
    have hfin := obj_fin (w := w) (o := (⟨3, [], [], t, ids, (st : Int), (au : Int), ms⟩ : ObM)) HYZ.out hww (Nat.le_refl _) HRZ.out HUZ.out (Own.nil_ _ _) (OwnI.nil_ _ _ _) HOZ.out
    clear hwz z0 z1 z2 z3 z4 z5 z6 z7 f0 f1 f2 f3 f4 f5 f6 f7
    obtain ⟨wc, hwc⟩ : ∃ wc, wc = set8 wz w.heap.size (.int .i64 3) (.slice none 0 0) (.slice none 0 0) (.string (str t)) (.slice DA dn dc) (.int .i64 (st : Int)) (.int .i64 (au : Int)) (.string (str ms)) := ⟨_, rfl⟩
    change bodyPost _ _ _ _ _ (set8 wz w.heap.size (.int .i64 3) (.slice none 0 0) (.slice none 0 0) (.string (str t)) (.slice DA dn dc) (.int .i64 (st : Int)) (.int .i64 (au : Int)) (.string (str ms)))
    rw [← hwc]
    obtain ⟨g1, g2, g3, g4⟩ := hfin
    obtain ⟨q0, q1, q2, q3, q4, q5, q6, q7⟩ : wc.cell? ⟨w.heap.size, 0, none⟩ = _ ∧ wc.cell? ⟨w.heap.size, 1, none⟩ = _ ∧ wc.cell? ⟨w.heap.size, 2, none⟩ = _ ∧ wc.cell? ⟨w.heap.size, 3, none⟩ = _ ∧ wc.cell? ⟨w.heap.size, 4, none⟩ = _ ∧ wc.cell? ⟨w.heap.size, 5, none⟩ = _ ∧ wc.cell? ⟨w.heap.size, 6, none⟩ = _ ∧ wc.cell? ⟨w.heap.size, 7, none⟩ = _ := by
     rw [hwc]
     exact box_cells g1
    refine bodyPost_ret (v := .agg #[.int .i64 3, .slice none 0 0, .slice none 0 0, .string (str t), .slice DA dn dc, .int .i64 (st : Int), .int .i64 (au : Int), .string (str ms)]) (by simp [results, Tryz.results264, go_sem, q0, q1, q2, q3, q4, q5, q6, q7]) rfl ?_
    rw [hwc]
    rw [HM.out, HLs.out]
    exact ⟨_, rfl, g2, g3, g4⟩
   ·have hm : objS k s1 = (objK k, s1) := by unfold objS; rw [if_neg h1, if_neg h2, if_neg h3]
    have HM := Lib.hid hm
    have e1' : ((k : Int) == 1) = false := beq_eq_false_iff_ne.2 (by omega)
    have e2' : ((k : Int) == 2) = false := beq_eq_false_iff_ne.2 (by omega)
    have e3' : ((k : Int) == 3) = false := beq_eq_false_iff_ne.2 (by omega)
    clear h1 h2 h3 hm
    obtain ⟨z0, z1, z2, z3, z4, z5, z6, z7⟩ := box_cells HY1.out
    obtain ⟨f0, f1, f2, f3, f4, f5, f6, f7⟩ := cells8 HY1.out
    go_wp2_with fail
    obtain ⟨wz, hwz⟩ : ∃ W, W = (w1.alloc (.cells #[.int .i64 (k : Int), .slice none 0 0, .slice none 0 0, .string ⟨#[]⟩, .slice none 0 0, .int .i64 0, .int .i64 0, .string ⟨#[]⟩] 183)) := ⟨_, rfl⟩
    have HWZ := Lib.hid hwz
    rw [← hwz]
    have HYZ : Hid (Blk wz w.heap.size 183 #[.int .i64 0, .slice none 0 0, .slice none 0 0, .string ⟨#[]⟩, .slice none 0 0, .int .i64 0, .int .i64 0, .string ⟨#[]⟩]) := by unfold Hid; rw [hwz]; exact HY1.out
    have HRZ : Hid (RdAt w0 wz g s1) := by unfold Hid; rw [hwz]; exact HR1.out
    have HUZ : Hid (Upd g w wz) := by unfold Hid; rw [hwz]; exact HU1.out
    have hfin := obj_fin (w := w) (o := (⟨k, [], [], [], [], 0, 0, []⟩ : ObM)) HYZ.out hww (Nat.le_refl _) HRZ.out HUZ.out (Own.nil_ _ _) (OwnI.nil_ _ _ _) (Tx.OwnV.nil_ _ _)
    clear hwz z0 z1 z2 z3 z4 z5 z6 z7 f0 f1 f2 f3 f4 f5 f6 f7
    obtain ⟨wc, hwc⟩ : ∃ wc, wc = set8 wz w.heap.size (.int .i64 (k : Int)) (.slice none 0 0) (.slice none 0 0) (.string (str [])) (.slice none 0 0) (.int .i64 0) (.int .i64 0) (.string (str [])) := ⟨_, rfl⟩
    change bodyPost _ _ _ _ _ (set8 wz w.heap.size (.int .i64 (k : Int)) (.slice none 0 0) (.slice none 0 0) (.string (str [])) (.slice none 0 0) (.int .i64 0) (.int .i64 0) (.string (str [])))
    rw [← hwc]
    obtain ⟨g1, g2, g3, g4⟩ := hfin
    obtain ⟨q0, q1, q2, q3, q4, q5, q6, q7⟩ : wc.cell? ⟨w.heap.size, 0, none⟩ = _ ∧ wc.cell? ⟨w.heap.size, 1, none⟩ = _ ∧ wc.cell? ⟨w.heap.size, 2, none⟩ = _ ∧ wc.cell? ⟨w.heap.size, 3, none⟩ = _ ∧ wc.cell? ⟨w.heap.size, 4, none⟩ = _ ∧ wc.cell? ⟨w.heap.size, 5, none⟩ = _ ∧ wc.cell? ⟨w.heap.size, 6, none⟩ = _ ∧ wc.cell? ⟨w.heap.size, 7, none⟩ = _ := by
     rw [hwc]
     exact box_cells g1
    refine bodyPost_ret (v := .agg #[.int .i64 (k : Int), .slice none 0 0, .slice none 0 0, .string (str []), .slice none 0 0, .int .i64 0, .int .i64 0, .string (str [])]) (by simp [results, Tryz.results264, go_sem, q0, q1, q2, q3, q4, q5, q6, q7]) rfl ?_
    rw [hwc]
    rw [HM.out]
    exact ⟨_, rfl, g2, g3, g4⟩
end Go.Proofs.YtpfjlhpahmhkhaaGreat.Ob
