/- Texts put together: VOb20. -/
import Derived.Test.YtpfjlhpahmhkhaaGreatQv24
/- obj.Decode. -/
namespace Go.Proofs.YtpfjlhpahmhkhaaGreat.Ob
open Go.RowKit Go.Proofs.YtpfjlhpahmhkhaaGreat.Sh
open Go.Proofs.YtpfjlhpahmhkhaaGreat.Tx (OwnV SlV sv bl nameB reads_at texts_at toList_ne')
theorem fin8 {w wz : World} {d0 d1 d2 d3 d4 d5 d6 d7 : Value} (hb : Blk wz w.heap.size 183 #[d0, d1, d2, d3, d4, d5, d6, d7]) (hu : Upd (w.heap.size + 1) w wz)
  {o : ObM} {A A2 A3 : Option Addr} {n c n2 c2 n3 c3 : Nat} (h1 : Own wz w.heap.size (.slice A n c) o.data) (h2 : OwnI 345 wz w.heap.size (.slice A2 n2 c2) o.items) (h3 : Tx.OwnV 9 wz w.heap.size (.slice A3 n3 c3) ((o.parents.map str).map Tx.sv)) :
  Blk (set8 wz w.heap.size (.int .i64 o.kind) (.slice A n c) (.slice A2 n2 c2) (.string (str o.tree)) (.slice A3 n3 c3) (.int .i64 o.stamp) (.int .i64 o.author) (.string (str o.msg))) w.heap.size 183 #[.int .i64 o.kind, .slice A n c, .slice A2 n2 c2, .string (str o.tree), .slice A3 n3 c3, .int .i64 o.stamp, .int .i64 o.author, .string (str o.msg)] ∧
  ObO (set8 wz w.heap.size (.int .i64 o.kind) (.slice A n c) (.slice A2 n2 c2) (.string (str o.tree)) (.slice A3 n3 c3) (.int .i64 o.stamp) (.int .i64 o.author) (.string (str o.msg))) w.heap.size (.agg #[.int .i64 o.kind, .slice A n c, .slice A2 n2 c2, .string (str o.tree), .slice A3 n3 c3, .int .i64 o.stamp, .int .i64 o.author, .string (str o.msg)]) o ∧
  Upd (w.heap.size + 1) w (set8 wz w.heap.size (.int .i64 o.kind) (.slice A n c) (.slice A2 n2 c2) (.string (str o.tree)) (.slice A3 n3 c3) (.int .i64 o.stamp) (.int .i64 o.author) (.string (str o.msg))) := by
 have hu8 := set8_upd wz w.heap.size (.int .i64 o.kind) (.slice A n c) (.slice A2 n2 c2) (.string (str o.tree)) (.slice A3 n3 c3) (.int .i64 o.stamp) (.int .i64 o.author) (.string (str o.msg))
 refine ⟨set8_blk hb _ _ _ _ _ _ _ _, ⟨A, n, c, A2, n2, c2, A3, n3, c3, rfl, row_upd h1 hb (by decide) hu8, row_upd h2 hb (by decide) hu8, row_upd h3 hb (by decide) hu8⟩, hu.then_below (hu8.below (Nat.le_refl _) hu.size)⟩
structure DecIs (w : World) (bs : List UInt8) (v : Value) (k : Int) (w' : World) : Prop where
 yes : decB bs = true → k = 0 ∧ ObO w' w.heap.size v (objR bs).1
 no : decB bs = false → ObO w' w.heap.size v (objK 0)
 short : bs = [] → k = 2
 form : bs ≠ [] → decB bs = false → k = 4
def DecPost (w : World) (bs : List UInt8) (e : Ending) (w' : World) : Prop := ∃ v k, e = .returned (.tuple #[v, .int .i64 k]) ∧ DecIs w bs v k w' ∧ Below w.heap.size w w'
theorem decB_nil : decB [] = false := by
 unfold decB objR
 rw [show octR (([] : List UInt8), false) = (0, ([], true)) from rfl]
 rfl
theorem dec_ok {w w' : World} {bs : List UInt8} {v : Value} {o : ObM} (h : decB bs = true) (hb : bs ≠ []) (hr : (objR bs).1 = o) (ho : ObO w' w.heap.size v o) : DecIs w bs v 0 w' :=
 ⟨fun _ => ⟨rfl, by rw [hr]; exact ho⟩, (fun h2 => by rw [h] at h2; cases h2), fun h2 => absurd h2 hb, fun _ h2 => by rw [h] at h2; cases h2⟩
theorem dec_no {w w' : World} {bs : List UInt8} {v : Value} (h : decB bs = false) (hb : bs ≠ []) (ho : ObO w' w.heap.size v ⟨0, [], [], [], [], 0, 0, []⟩) : DecIs w bs v 4 w' :=
 ⟨(fun h2 => by rw [h] at h2; cases h2), fun _ => ho, fun h2 => absurd h2 hb, fun _ _ => rfl⟩
theorem dec_nil {w w' : World} {v : Value} (ho : ObO w' w.heap.size v ⟨0, [], [], [], [], 0, 0, []⟩) : DecIs w [] v 2 w' :=
 ⟨(fun h2 => by rw [decB_nil] at h2; cases h2), fun _ => ho, fun _ => rfl, fun h2 => absurd rfl h2⟩
set_option maxRecDepth 100000 in
set_option maxHeartbeats 2000000 in
theorem decode_any (v : Value) (bs : List UInt8) (w : World) (h : Sl w v bs) (hlen : bs.length ≤ 1000000) : Calls Tryz.prog 198 #[v] w (DecPost w bs) := by
 have HSL := Lib.hid h
 obtain ⟨A, c, rfl, hlc, hcm, _⟩ := h.len
 unfold maxLen at hcm
 have HY0 : Hid (Blk (w.alloc (.cells #[.int .i64 0, .slice none 0 0, .slice none 0 0, .string ⟨#[]⟩, .slice none 0 0, .int .i64 0, .int .i64 0, .string ⟨#[]⟩] 183)) w.heap.size 183 #[.int .i64 0, .slice none 0 0, .slice none 0 0, .string ⟨#[]⟩, .slice none 0 0, .int .i64 0, .int .i64 0, .string ⟨#[]⟩]) := Blk.new _ _ _
 have HU0 : Hid (Upd (w.heap.size + 1) w (w.alloc (.cells #[.int .i64 0, .slice none 0 0, .slice none 0 0, .string ⟨#[]⟩, .slice none 0 0, .int .i64 0, .int .i64 0, .string ⟨#[]⟩] 183))) := (Upd.refl _ w).alloc _
 cases bs with
 | nil =>
  clear h
  simp only [List.length_nil] at hlc ⊢
  go_enter Tryz.func198, Tryz.ntmps198
  obtain ⟨z0, z1, z2, z3, z4, z5, z6, z7⟩ := box_cells HY0.out
  obtain ⟨f0, f1, f2, f3, f4, f5, f6, f7⟩ := cells8 HY0.out
  go_wp2_with fail
  obtain ⟨wz, hwz⟩ : ∃ W, W = (w.alloc (.cells #[.int .i64 0, .slice none 0 0, .slice none 0 0, .string ⟨#[]⟩, .slice none 0 0, .int .i64 0, .int .i64 0, .string ⟨#[]⟩] 183)) := ⟨_, rfl⟩
  rw [← hwz] at z0 z1 z2 z3 z4 z5 z6 z7 ⊢
  refine bodyPost_ret (v := .tuple #[.agg #[.int .i64 0, .slice none 0 0, .slice none 0 0, .string (str []), .slice none 0 0, .int .i64 0, .int .i64 0, .string (str [])], .int .i64 2]) (by simp [results, Tryz.results198, go_sem, z0, z1, z2, z3, z4, z5, z6, z7]; try rfl) rfl ?_
  rw [hwz]
  exact ⟨_, _, rfl, dec_nil ⟨none, 0, 0, none, 0, 0, none, 0, 0, rfl, Own.nil_ _ _, OwnI.nil_ _ _ _, Tx.OwnV.nil_ _ _⟩, HU0.out.below (Nat.le_succ _) (Nat.le_refl _)⟩
 | cons b0 t =>
  obtain ⟨bs, hbs⟩ : ∃ bs, b0 :: t = bs := ⟨_, rfl⟩
  have hne : bs ≠ [] := by rw [← hbs]; simp
  have hl0 : 0 < bs.length := by rw [← hbs]; simp
  rw [hbs] at HSL hlc hlen ⊢
  have HNE := Lib.hid hne
  have HLN := Lib.hid hlen
  have HR1 : Hid (RdAt w ((w.alloc (.cells #[.int .i64 0, .slice none 0 0, .slice none 0 0, .string ⟨#[]⟩, .slice none 0 0, .int .i64 0, .int .i64 0, .string ⟨#[]⟩] 183)).alloc (.cells #[.slice A bs.length c, .bool false] 355)) (w.heap.size + 1) (bs, false)) := by
   refine ⟨A, c, ?_, HSL.out, Nat.le_succ _, ((Below.refl _ _).alloc (Nat.le_refl _) _).alloc (by simp) _⟩
   show Blk _ (w.heap.size + 1) _ #[.slice A bs.length c, .bool false]
   rw [show w.heap.size + 1 = (w.alloc (.cells #[.int .i64 0, .slice none 0 0, .slice none 0 0, .string ⟨#[]⟩, .slice none 0 0, .int .i64 0, .int .i64 0, .string ⟨#[]⟩] 183)).heap.size from by simp]
   exact Blk.new _ _ _
  have HU1 : Hid (Upd (w.heap.size + 1) w ((w.alloc (.cells #[.int .i64 0, .slice none 0 0, .slice none 0 0, .string ⟨#[]⟩, .slice none 0 0, .int .i64 0, .int .i64 0, .string ⟨#[]⟩] 183)).alloc (.cells #[.slice A bs.length c, .bool false] 355))) := HU0.out.alloc _
  have HY1 : Hid (Blk ((w.alloc (.cells #[.int .i64 0, .slice none 0 0, .slice none 0 0, .string ⟨#[]⟩, .slice none 0 0, .int .i64 0, .int .i64 0, .string ⟨#[]⟩] 183)).alloc (.cells #[.slice A bs.length c, .bool false] 355)) w.heap.size 183 #[.int .i64 0, .slice none 0 0, .slice none 0 0, .string ⟨#[]⟩, .slice none 0 0, .int .i64 0, .int .i64 0, .string ⟨#[]⟩]) := HY0.out.alloc _
  obtain ⟨l, hl⟩ : ∃ l, bs.length = l := ⟨_, rfl⟩
  have HL := Lib.hid hl
  rw [hl] at hlc hl0 HR1 HU1 HY1 ⊢
  have e0 : ((l : Int) == 0) = false := beq_eq_false_iff_ne.2 (by omega)
  obtain ⟨o, s', hos⟩ : ∃ o s', objS (octR (bs, false)).1 (octR (bs, false)).2 = (o, s') := ⟨_, _, pe _⟩
  have hobj : objR bs = (o, s') := hos
  have HOBJ := Lib.hid hobj
  have HOS := Lib.hid hos
  clear h hne hl hlen hbs hos hobj hl0
  go_enter Tryz.func198, Tryz.ntmps198
  go_wp2_with fail
  refine (object_any w _ (w.heap.size + 1) (bs, false) HR1.out HLN.out).mono ?_
  rw [HOS.out]
  rintro e w2 ⟨v, rfl, ho2, hr2, hu2⟩
  obtain ⟨cs, hcs⟩ := HR1.out.blk
  have HY2 := Lib.hid (hu2.blk HY1.out (Blk.ne_ HY1.out hcs (by decide)))
  have HU2 := Lib.hid (HU1.out.trans hu2)
  have hz2 : w.heap.size ≤ w2.heap.size := HU2.out.size
  obtain ⟨VA, vn, vc, VA2, vn2, vc2, VA3, vn3, vc3, rfl, o1, o2, o3⟩ := ho2
  have HO1 := Lib.hid (Own.based o1 HU1.out.size)
  have HO2 := Lib.hid (OwnI.base o2 HU1.out.size)
  have HO3 := Lib.hid (Tx.OwnV.base o3 HU1.out.size)
  obtain ⟨rA, rc, hrb, _⟩ := hr2
  have HRB := Lib.hid (hrb.alloc (.cells #[.int .i64 o.kind, .slice VA vn vc, .slice VA2 vn2 vc2, .string (str o.tree), .slice VA3 vn3 vc3, .int .i64 o.stamp, .int .i64 o.author, .string (str o.msg)] 183))
  have HY3 : Hid (Blk (w2.alloc (.cells #[.int .i64 o.kind, .slice VA vn vc, .slice VA2 vn2 vc2, .string (str o.tree), .slice VA3 vn3 vc3, .int .i64 o.stamp, .int .i64 o.author, .string (str o.msg)] 183)) w.heap.size 183 #[.int .i64 0, .slice none 0 0, .slice none 0 0, .string ⟨#[]⟩, .slice none 0 0, .int .i64 0, .int .i64 0, .string ⟨#[]⟩]) := HY2.out.alloc _
  have HU3 : Hid (Upd (w.heap.size + 1) w (w2.alloc (.cells #[.int .i64 o.kind, .slice VA vn vc, .slice VA2 vn2 vc2, .string (str o.tree), .slice VA3 vn3 vc3, .int .i64 o.stamp, .int .i64 o.author, .string (str o.msg)] 183))) := HU2.out.alloc _
  have HK3 : Hid (Blk (w2.alloc (.cells #[.int .i64 o.kind, .slice VA vn vc, .slice VA2 vn2 vc2, .string (str o.tree), .slice VA3 vn3 vc3, .int .i64 o.stamp, .int .i64 o.author, .string (str o.msg)] 183)) w2.heap.size 183 #[.int .i64 o.kind, .slice VA vn vc, .slice VA2 vn2 vc2, .string (str o.tree), .slice VA3 vn3 vc3, .int .i64 o.stamp, .int .i64 o.author, .string (str o.msg)]) := Blk.new _ _ _
  obtain ⟨fl, hfl⟩ : ∃ f, s'.2 = f := ⟨_, rfl⟩
  obtain ⟨rn, hrn⟩ : ∃ n, s'.1.length = n := ⟨_, rfl⟩
  rw [hfl, hrn] at HRB
  obtain ⟨r0, r1, _, _⟩ := two_cells HRB.out
  have HFL := Lib.hid hfl
  have HRN := Lib.hid hrn
  clear hu2 hcs o1 o2 o3 hrb hfl hrn
  have HDB : Hid (decB bs = (!fl && (rn == 0) && mayB o)) := by
   unfold Hid decB
   rw [HOBJ.out]
   show (!s'.2 && s'.1.isEmpty && mayB o) = _
   rw [HFL.out, ← HRN.out]
   congr 2
   cases s'.1 <;> rfl
  cases fl with
  | true =>
   have HD : Hid (decB bs = false) := by unfold Hid; rw [HDB.out]; rfl
   obtain ⟨z0, z1, z2, z3, z4, z5, z6, z7⟩ := box_cells HY3.out
   obtain ⟨f0, f1, f2, f3, f4, f5, f6, f7⟩ := cells8 HY3.out
   go_wp2_with fail
   obtain ⟨wz, hwz⟩ : ∃ W, W = (w2.alloc (.cells #[.int .i64 o.kind, .slice VA vn vc, .slice VA2 vn2 vc2, .string (str o.tree), .slice VA3 vn3 vc3, .int .i64 o.stamp, .int .i64 o.author, .string (str o.msg)] 183)) := ⟨_, rfl⟩
   rw [← hwz]
   have HYZ : Hid (Blk wz w.heap.size 183 #[.int .i64 0, .slice none 0 0, .slice none 0 0, .string ⟨#[]⟩, .slice none 0 0, .int .i64 0, .int .i64 0, .string ⟨#[]⟩]) := by unfold Hid; rw [hwz]; exact HY3.out
   have HUZ : Hid (Upd (w.heap.size + 1) w wz) := by unfold Hid; rw [hwz]; exact HU3.out
   have hfin := fin8 (w := w) (o := (⟨0, [], [], [], [], 0, 0, []⟩ : ObM)) HYZ.out HUZ.out (Own.nil_ _ _) (OwnI.nil_ _ _ _) (Tx.OwnV.nil_ _ _)
   clear hwz z0 z1 z2 z3 z4 z5 z6 z7 f0 f1 f2 f3 f4 f5 f6 f7
   obtain ⟨wc, hwc⟩ : ∃ wc, wc = set8 wz w.heap.size (.int .i64 0) (.slice none 0 0) (.slice none 0 0) (.string (str [])) (.slice none 0 0) (.int .i64 0) (.int .i64 0) (.string (str [])) := ⟨_, rfl⟩
   change bodyPost _ _ _ _ _ (set8 wz w.heap.size (.int .i64 0) (.slice none 0 0) (.slice none 0 0) (.string (str [])) (.slice none 0 0) (.int .i64 0) (.int .i64 0) (.string (str [])))
   rw [← hwc]
   obtain ⟨g1, g2, g4⟩ := hfin
   obtain ⟨q0, q1, q2, q3, q4, q5, q6, q7⟩ : wc.cell? ⟨w.heap.size, 0, none⟩ = _ ∧ wc.cell? ⟨w.heap.size, 1, none⟩ = _ ∧ wc.cell? ⟨w.heap.size, 2, none⟩ = _ ∧ wc.cell? ⟨w.heap.size, 3, none⟩ = _ ∧ wc.cell? ⟨w.heap.size, 4, none⟩ = _ ∧ wc.cell? ⟨w.heap.size, 5, none⟩ = _ ∧ wc.cell? ⟨w.heap.size, 6, none⟩ = _ ∧ wc.cell? ⟨w.heap.size, 7, none⟩ = _ := by
    rw [hwc]
    exact box_cells g1
   refine bodyPost_ret (v := .tuple #[.agg #[.int .i64 0, .slice none 0 0, .slice none 0 0, .string (str []), .slice none 0 0, .int .i64 0, .int .i64 0, .string (str [])], .int .i64 4]) (by simp [results, Tryz.results198, go_sem, q0, q1, q2, q3, q4, q5, q6, q7]) rfl ?_
   rw [hwc]
   exact ⟨_, _, rfl, dec_no HD.out HNE.out g2, g4.below (Nat.le_succ _) (Nat.le_refl _)⟩
  | false =>
   by_cases hr0 : 0 < rn
   ·have HD : Hid (decB bs = false) := by
     unfold Hid
     rw [HDB.out, show (rn == 0) = false from beq_eq_false_iff_ne.2 (by omega)]
     rfl
    have hr0' : (0 : Int) < (rn : Int) := by omega
    obtain ⟨z0, z1, z2, z3, z4, z5, z6, z7⟩ := box_cells HY3.out
    obtain ⟨f0, f1, f2, f3, f4, f5, f6, f7⟩ := cells8 HY3.out
    go_wp2_with fail
    obtain ⟨wz, hwz⟩ : ∃ W, W = (w2.alloc (.cells #[.int .i64 o.kind, .slice VA vn vc, .slice VA2 vn2 vc2, .string (str o.tree), .slice VA3 vn3 vc3, .int .i64 o.stamp, .int .i64 o.author, .string (str o.msg)] 183)) := ⟨_, rfl⟩
    rw [← hwz]
    have HYZ : Hid (Blk wz w.heap.size 183 #[.int .i64 0, .slice none 0 0, .slice none 0 0, .string ⟨#[]⟩, .slice none 0 0, .int .i64 0, .int .i64 0, .string ⟨#[]⟩]) := by unfold Hid; rw [hwz]; exact HY3.out
    have HUZ : Hid (Upd (w.heap.size + 1) w wz) := by unfold Hid; rw [hwz]; exact HU3.out
    have hfin := fin8 (w := w) (o := (⟨0, [], [], [], [], 0, 0, []⟩ : ObM)) HYZ.out HUZ.out (Own.nil_ _ _) (OwnI.nil_ _ _ _) (Tx.OwnV.nil_ _ _)
    clear hwz z0 z1 z2 z3 z4 z5 z6 z7 f0 f1 f2 f3 f4 f5 f6 f7
    obtain ⟨wc, hwc⟩ : ∃ wc, wc = set8 wz w.heap.size (.int .i64 0) (.slice none 0 0) (.slice none 0 0) (.string (str [])) (.slice none 0 0) (.int .i64 0) (.int .i64 0) (.string (str [])) := ⟨_, rfl⟩
    change bodyPost _ _ _ _ _ (set8 wz w.heap.size (.int .i64 0) (.slice none 0 0) (.slice none 0 0) (.string (str [])) (.slice none 0 0) (.int .i64 0) (.int .i64 0) (.string (str [])))
    rw [← hwc]
    obtain ⟨g1, g2, g4⟩ := hfin
    obtain ⟨q0, q1, q2, q3, q4, q5, q6, q7⟩ : wc.cell? ⟨w.heap.size, 0, none⟩ = _ ∧ wc.cell? ⟨w.heap.size, 1, none⟩ = _ ∧ wc.cell? ⟨w.heap.size, 2, none⟩ = _ ∧ wc.cell? ⟨w.heap.size, 3, none⟩ = _ ∧ wc.cell? ⟨w.heap.size, 4, none⟩ = _ ∧ wc.cell? ⟨w.heap.size, 5, none⟩ = _ ∧ wc.cell? ⟨w.heap.size, 6, none⟩ = _ ∧ wc.cell? ⟨w.heap.size, 7, none⟩ = _ := by
     rw [hwc]
     exact box_cells g1
    refine bodyPost_ret (v := .tuple #[.agg #[.int .i64 0, .slice none 0 0, .slice none 0 0, .string (str []), .slice none 0 0, .int .i64 0, .int .i64 0, .string (str [])], .int .i64 4]) (by simp [results, Tryz.results198, go_sem, q0, q1, q2, q3, q4, q5, q6, q7]) rfl ?_
    rw [hwc]
    exact ⟨_, _, rfl, dec_no HD.out HNE.out g2, g4.below (Nat.le_succ _) (Nat.le_refl _)⟩
   ·have hr0' : (rn : Int) ≤ 0 := by omega
    have hrz : rn = 0 := by omega
    obtain ⟨m, hm⟩ : ∃ m, mayB o = m := ⟨_, rfl⟩
    have HM := Lib.hid hm
    have HD : Hid (decB bs = m) := by
     unfold Hid
     rw [HDB.out, hrz, hm]
     rfl
    have HBO2 : Hid (Below w2.heap.size w2 (w2.alloc (.cells #[.int .i64 o.kind, .slice VA vn vc, .slice VA2 vn2 vc2, .string (str o.tree), .slice VA3 vn3 vc3, .int .i64 o.stamp, .int .i64 o.author, .string (str o.msg)] 183))) := (Below.refl _ _).alloc (Nat.le_refl _) _
    clear hm hr0 hrz
    go_wp2_with fail
    refine (may_any _ o _ ⟨_, _, _, rfl, (HO1.out.sl).below HBO2.out, (HO2.out.slI).below HBO2.out, (HO3.out.slv).below HBO2.out⟩).mono ?_
    rw [HM.out]
    rintro e w4 ⟨rfl, hb4⟩
    have HY4 := Lib.hid (HY3.out.below hb4 HY3.out.lt)
    have HU4 := Lib.hid (HU3.out.trans (Upd.of_below hb4))
    have HK4 := Lib.hid (HK3.out.below hb4 HK3.out.lt)
    have HB24 := Lib.hid (Below.after HBO2.out hb4)
    clear hb4 r0 r1
    cases m with
    | false =>
     obtain ⟨z0, z1, z2, z3, z4, z5, z6, z7⟩ := box_cells HY4.out
     obtain ⟨f0, f1, f2, f3, f4, f5, f6, f7⟩ := cells8 HY4.out
     go_wp2_with fail
     obtain ⟨wz, hwz⟩ : ∃ W, W = w4 := ⟨_, rfl⟩
     rw [← hwz]
     have HYZ : Hid (Blk wz w.heap.size 183 #[.int .i64 0, .slice none 0 0, .slice none 0 0, .string ⟨#[]⟩, .slice none 0 0, .int .i64 0, .int .i64 0, .string ⟨#[]⟩]) := by unfold Hid; rw [hwz]; exact HY4.out
     have HUZ : Hid (Upd (w.heap.size + 1) w wz) := by unfold Hid; rw [hwz]; exact HU4.out
     have hfin := fin8 (w := w) (o := (⟨0, [], [], [], [], 0, 0, []⟩ : ObM)) HYZ.out HUZ.out (Own.nil_ _ _) (OwnI.nil_ _ _ _) (Tx.OwnV.nil_ _ _)
     clear hwz z0 z1 z2 z3 z4 z5 z6 z7 f0 f1 f2 f3 f4 f5 f6 f7
     obtain ⟨wc, hwc⟩ : ∃ wc, wc = set8 wz w.heap.size (.int .i64 0) (.slice none 0 0) (.slice none 0 0) (.string (str [])) (.slice none 0 0) (.int .i64 0) (.int .i64 0) (.string (str [])) := ⟨_, rfl⟩
     change bodyPost _ _ _ _ _ (set8 wz w.heap.size (.int .i64 0) (.slice none 0 0) (.slice none 0 0) (.string (str [])) (.slice none 0 0) (.int .i64 0) (.int .i64 0) (.string (str [])))
     rw [← hwc]
     obtain ⟨g1, g2, g4⟩ := hfin
     obtain ⟨q0, q1, q2, q3, q4, q5, q6, q7⟩ : wc.cell? ⟨w.heap.size, 0, none⟩ = _ ∧ wc.cell? ⟨w.heap.size, 1, none⟩ = _ ∧ wc.cell? ⟨w.heap.size, 2, none⟩ = _ ∧ wc.cell? ⟨w.heap.size, 3, none⟩ = _ ∧ wc.cell? ⟨w.heap.size, 4, none⟩ = _ ∧ wc.cell? ⟨w.heap.size, 5, none⟩ = _ ∧ wc.cell? ⟨w.heap.size, 6, none⟩ = _ ∧ wc.cell? ⟨w.heap.size, 7, none⟩ = _ := by
      rw [hwc]
      exact box_cells g1
     refine bodyPost_ret (v := .tuple #[.agg #[.int .i64 0, .slice none 0 0, .slice none 0 0, .string (str []), .slice none 0 0, .int .i64 0, .int .i64 0, .string (str [])], .int .i64 4]) (by simp [results, Tryz.results198, go_sem, q0, q1, q2, q3, q4, q5, q6, q7]) rfl ?_
     rw [hwc]
     exact ⟨_, _, rfl, dec_no HD.out HNE.out g2, g4.below (Nat.le_succ _) (Nat.le_refl _)⟩
    | true =>
     obtain ⟨y0, y1, y2, y3, y4, y5, y6, y7⟩ := box_cells HK4.out
     obtain ⟨z0, z1, z2, z3, z4, z5, z6, z7⟩ := box_cells HY4.out
     obtain ⟨f0, f1, f2, f3, f4, f5, f6, f7⟩ := cells8 HY4.out
     go_wp2_with fail
     obtain ⟨wz, hwz⟩ : ∃ W, W = w4 := ⟨_, rfl⟩
     rw [← hwz]
     have HYZ : Hid (Blk wz w.heap.size 183 #[.int .i64 0, .slice none 0 0, .slice none 0 0, .string ⟨#[]⟩, .slice none 0 0, .int .i64 0, .int .i64 0, .string ⟨#[]⟩]) := by unfold Hid; rw [hwz]; exact HY4.out
     have HUZ : Hid (Upd (w.heap.size + 1) w wz) := by unfold Hid; rw [hwz]; exact HU4.out
     have HZ1 : Hid (Own wz w.heap.size (.slice VA vn vc) o.data) := by unfold Hid; rw [hwz]; exact HO1.out.below HB24.out
     have HZ2 : Hid (OwnI 345 wz w.heap.size (.slice VA2 vn2 vc2) o.items) := by unfold Hid; rw [hwz]; exact HO2.out.below HB24.out
     have HZ3 : Hid (Tx.OwnV 9 wz w.heap.size (.slice VA3 vn3 vc3) ((o.parents.map str).map Tx.sv)) := by unfold Hid; rw [hwz]; exact HO3.out.below HB24.out
     have hfin := fin8 (w := w) (o := o) HYZ.out HUZ.out HZ1.out HZ2.out HZ3.out
     clear hwz z0 z1 z2 z3 z4 z5 z6 z7 f0 f1 f2 f3 f4 f5 f6 f7
     obtain ⟨wc, hwc⟩ : ∃ wc, wc = set8 wz w.heap.size (.int .i64 o.kind) (.slice VA vn vc) (.slice VA2 vn2 vc2) (.string (str o.tree)) (.slice VA3 vn3 vc3) (.int .i64 o.stamp) (.int .i64 o.author) (.string (str o.msg)) := ⟨_, rfl⟩
     change bodyPost _ _ _ _ _ (set8 wz w.heap.size (.int .i64 o.kind) (.slice VA vn vc) (.slice VA2 vn2 vc2) (.string (str o.tree)) (.slice VA3 vn3 vc3) (.int .i64 o.stamp) (.int .i64 o.author) (.string (str o.msg)))
     rw [← hwc]
     obtain ⟨g1, g2, g4⟩ := hfin
     obtain ⟨q0, q1, q2, q3, q4, q5, q6, q7⟩ : wc.cell? ⟨w.heap.size, 0, none⟩ = _ ∧ wc.cell? ⟨w.heap.size, 1, none⟩ = _ ∧ wc.cell? ⟨w.heap.size, 2, none⟩ = _ ∧ wc.cell? ⟨w.heap.size, 3, none⟩ = _ ∧ wc.cell? ⟨w.heap.size, 4, none⟩ = _ ∧ wc.cell? ⟨w.heap.size, 5, none⟩ = _ ∧ wc.cell? ⟨w.heap.size, 6, none⟩ = _ ∧ wc.cell? ⟨w.heap.size, 7, none⟩ = _ := by
      rw [hwc]
      exact box_cells g1
     refine bodyPost_ret (v := .tuple #[.agg #[.int .i64 o.kind, .slice VA vn vc, .slice VA2 vn2 vc2, .string (str o.tree), .slice VA3 vn3 vc3, .int .i64 o.stamp, .int .i64 o.author, .string (str o.msg)], .int .i64 0]) (by simp [results, Tryz.results198, go_sem, q0, q1, q2, q3, q4, q5, q6, q7]) rfl ?_
     rw [hwc]
     exact ⟨_, _, rfl, dec_ok HD.out HNE.out (by rw [HOBJ.out]) g2, g4.below (Nat.le_succ _) (Nat.le_refl _)⟩
end Go.Proofs.YtpfjlhpahmhkhaaGreat.Ob
