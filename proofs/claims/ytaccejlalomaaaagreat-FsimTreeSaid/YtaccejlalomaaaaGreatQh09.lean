/- Texts put together: Fx4. -/
import Derived.Test.YtaccejlalomaaaaGreatQh08
/- The reference's file system: apply. -/
namespace Go.Proofs.YtaccejlalomaaaaGreat.Tx
open Go.RowKit Go.Proofs.YtaccejlalomaaaaGreat.Sh

/-- Rows of one's own, as rows that stay. -/
theorem RowsOwn.rin {F : Nat → Prop} {w : World} {B : Nat} {v : Value} {R : List RowM} (h : RowsOwn F w B v R) : RowsIn (fun k => F k ∨ (B ≤ k ∧ k < w.heap.size)) w v R := by
  obtain ⟨⟨ds, h1, h2⟩, _⟩ := h
  exact ⟨ds, Rd.of_own h1 (fun k hk => .inr (h1.lt k hk)), h2.mono (fun _ _ hk => .inl hk)⟩
theorem f2_lt {F : Nat → Prop} {a b : Nat} (h : ∀ k, F k → k < b) (k : Nat) (hk : F k ∨ (a ≤ k ∧ k < b)) : k < b := hk.elim (h k) (·.2)
theorem f2_w {F : Nat → Prop} {a b c d w n : Nat} (h1 : w ≤ a) (h2 : w ≤ c) (k : Nat) (_ : k < n) (hk : (F k ∨ (a ≤ k ∧ k < b)) ∨ (c ≤ k ∧ k < d)) : F k ∨ w ≤ k := by
  rcases hk with (hk | hk) | hk
  · exact .inl hk
  · right; omega
  · right; omega
theorem findZ_none {R : List RowM} {p : List UInt8} (h : findM R p = none) : findZ R p = -1 := by unfold findZ; rw [h]
theorem findZ_some {R : List RowM} {p : List UInt8} {i : Nat} (h : findM R p = some i) : findZ R p = (i : Int) := by unfold findZ; rw [h]
theorem find_at {R : List RowM} {p : List UInt8} {i : Nat} (h : findM R p = some i) : ∃ r, R[i]? = some r ∧ r.path = p := by
  unfold findM at h
  rw [List.findIdx?_eq_some_iff_getElem] at h
  obtain ⟨hl, h1, _⟩ := h
  exact ⟨R[i], List.getElem?_eq_getElem hl, by simpa using h1⟩

set_option maxRecDepth 100000 in
set_option maxHeartbeats 1600000 in
theorem rapply_any (F : Nat → Prop) (v : Value) (R : List RowM) (o : OpM) (d : Value) (w : World) (h : RowsIn F w v R) (hn : R.length ≤ 1000000) (hd : By F w d o.f.data) (hF : ∀ k, F k → k < w.heap.size) :
    Calls Tryz.prog 142 #[v, .agg #[.int .i64 o.kind, .string (str o.fr), .string (str o.to), .int .i64 o.f.mode, d, .int .i64 o.f.time]] w fun e w' => ∃ v', e = .returned v' ∧ RowsIn (fun k => F k ∨ w.heap.size ≤ k) w' v' (applyM R o) ∧ Below w.heap.size w w' := by
  have hone := hd.one
  obtain ⟨wb, hwb⟩ : ∃ wb, wb = w.alloc (.cells #[.int .i64 o.kind, .string (str o.fr), .string (str o.to), .int .i64 o.f.mode, d, .int .i64 o.f.time] 164) := ⟨_, rfl⟩
  have hB : Below w.heap.size w wb := by rw [hwb]; exact (Below.refl _ _).alloc (Nat.le_refl _) _
  have hblk : Blk wb w.heap.size 164 #[.int .i64 o.kind, .string (str o.fr), .string (str o.to), .int .i64 o.f.mode, d, .int .i64 o.f.time] := by rw [hwb]; exact Blk.new _ _ _
  have H := Lib.hid (h.below hB)
  have HD := Lib.hid (hd.only (Only.of_below (M := fun _ => False) hB) (fun _ _ => id))
  have hFB : ∀ k, F k → k < wb.heap.size := fun k hk => by have := hF k hk; have := hB.size; omega
  have HF := Lib.hid hFB
  have HRL := Lib.hid hn
  have c0 := hblk.cell 0
  have c1 := hblk.cell 1
  have c2 := hblk.cell 2
  have c3 := hblk.cell 3
  have c4 := hblk.cell 4
  have c5 := hblk.cell 5
  simp only [List.getElem?_toArray, List.getElem?_cons_zero, List.getElem?_cons_succ] at c0 c1 c2 c3 c4 c5
  have HB := Lib.hid hB
  have HBLK := Lib.hid hblk
  have hwz := hB.size
  have hlt := hblk.lt
  clear h hd hF hFB hn hB hblk
  go_enter Tryz.func142, Tryz.ntmps142
  go_upto_region 1 with (fail)
  rw [← hwb]
  clear hwb
  obtain ⟨q, hq⟩ : ∃ q, o.kind = q := ⟨_, rfl⟩
  have HQ := Lib.hid hq
  rw [hq] at c0
  by_cases h1 : q = 1
  · subst h1
    have HR : Hid (applyM R o = withM R o.to o.f) := by unfold Hid applyM; rw [if_pos hq]
    clear hq
    go_wp2_with fail
    refine (rwith_any F v R o.to o.f d _ H.out HRL.out HD.out HF.out).mono ?_
    rintro e w1 ⟨v1, rfl, ho, hb⟩
    have HO := Lib.hid ho
    have HB1 := Lib.hid hb
    clear ho hb
    go_wp2_with fail
    go_ret
    refine ⟨v1, rfl, ?_, HB.out.trans (HB1.out.mono hwz)⟩
    rw [HR.out]
    exact HO.out.rin.mono (fun k _ hk => hk.imp id (fun h => by have := h.1; omega))
  · have e1 : (q == 1) = false := by rw [beq_eq_false_iff_ne]; exact h1
    by_cases h2 : q = 2
    · subst h2
      cases hf : findM R o.fr with
      | none =>
        have HR : Hid (applyM R o = R) := by unfold Hid applyM; rw [if_neg (by rw [hq]; decide), if_pos hq, hf]
        have hz := findZ_none hf
        have HZ := Lib.hid hz
        clear hq h1 hf hz
        go_wp2_with fail
        refine (rfind_any F v R o.fr _ H.out).mono ?_
        rintro e w1 ⟨rfl, rfl⟩
        rw [HZ.out]
        go_wp2_with fail
        go_ret
        exact ⟨v, rfl, by rw [HR.out]; exact H.out.mono (fun _ _ hk => .inl hk), HB.out⟩
      | some i =>
        obtain ⟨r, hr, _⟩ := find_at hf
        have HR : Hid (applyM R o = withM (withoutM R o.fr) o.to r.f) := by unfold Hid applyM; rw [if_neg (by rw [hq]; decide), if_pos hq, hf]; simp only [hr]
        have hz := findZ_some hf
        have HZ := Lib.hid hz
        obtain ⟨A, c, rfl, hlc, hcm⟩ := H.out.slice
        have hil : i < R.length := (List.getElem?_eq_some_iff.1 hr).1
        obtain ⟨n, hN⟩ : ∃ n, R.length = n := ⟨_, rfl⟩
        rw [hN] at hlc hil H ⊢
        have hn6 : n ≤ 1000000 := by rw [← hN]; exact HRL.out
        unfold maxLen at hcm
        have HN := Lib.hid hN
        obtain ⟨ad, d2, rfl, hby, x0, x1, x2, x3⟩ := H.out.at_ i r hr
        obtain ⟨A2, c2', rfl, _, _⟩ := hby.slice
        have HBY := Lib.hid hby
        have i0 : (0 : Int) ≤ (i : Int) := by omega
        have i1 : (i : Int) < (n : Int) := by omega
        clear hq h1 hf hz hr hN hby
        go_wp2_with fail
        refine (rfind_any F _ R o.fr _ H.out).mono ?_
        rintro e w1 ⟨rfl, rfl⟩
        rw [HZ.out]
        go_upto_region 9 with (fail)
        obtain ⟨wx, hwx⟩ : ∃ wx, wx = wb.alloc (.cells #[.int .i64 r.f.mode, .slice A2 r.f.data.length c2', .int .i64 r.f.time] 121) := ⟨_, rfl⟩
        have hbx : Below wb.heap.size wb wx := by rw [hwx]; exact (Below.refl _ _).alloc (Nat.le_refl _) _
        have hblkx : Blk wx wb.heap.size 121 #[.int .i64 r.f.mode, .slice A2 r.f.data.length c2', .int .i64 r.f.time] := by rw [hwx]; exact Blk.new _ _ _
        rw [← hwx]
        have HS : Hid (∀ W, Below wx.heap.size wx W → W.cell? ⟨w.heap.size, 1, none⟩ = some (.string (str o.fr)) ∧ W.cell? ⟨w.heap.size, 2, none⟩ = some (.string (str o.to)) ∧ W.cell? ⟨wb.heap.size, 0, none⟩ = some (.int .i64 r.f.mode) ∧ W.cell? ⟨wb.heap.size, 1, none⟩ = some (.slice A2 r.f.data.length c2') ∧ W.cell? ⟨wb.heap.size, 2, none⟩ = some (.int .i64 r.f.time)) := fun W hW => by
          have b1 := (HBLK.out.below hbx hlt).below hW ((HBLK.out.below hbx hlt).lt)
          have b2 := hblkx.below hW hblkx.lt
          exact ⟨b1.cell 1, b1.cell 2, b2.cell 0, b2.cell 1, b2.cell 2⟩
        have HX0 := Lib.hid (Below.refl wx.heap.size wx)
        have HIX := Lib.hid (H.out.below hbx)
        have HFX : Hid (∀ k, F k → k < wx.heap.size) := fun k hk => by have := HF.out k hk; have := hbx.size; omega
        have HBYX := Lib.hid (HBY.out.only (Only.of_below (M := fun _ => False) hbx) (fun _ _ => id))
        have hxz := hbx.size
        have HBX := Lib.hid (HB.out.trans (hbx.mono hwz))
        clear hwx hbx hblkx x0 x1 x2 x3 c0 c1 c2 c3 c4 c5 HBY
        go_cut [4] (fun q wz => RowsIn (fun k => F k ∨ w.heap.size ≤ k) wz q (withM (withoutM R o.fr) o.to r.f) ∧ Below w.heap.size w wz)
        case first =>
          go_region_held3 (fun W => W.cell? ⟨w.heap.size, 1, none⟩ = some (.string (str o.fr)) ∧ W.cell? ⟨w.heap.size, 2, none⟩ = some (.string (str o.to)) ∧ W.cell? ⟨wb.heap.size, 0, none⟩ = some (.int .i64 r.f.mode) ∧ W.cell? ⟨wb.heap.size, 1, none⟩ = some (.slice A2 r.f.data.length c2') ∧ W.cell? ⟨wb.heap.size, 2, none⟩ = some (.int .i64 r.f.time))
            (first | with_reducible exact HS.out _ HX0.out | with_reducible exact HS.out _ HX0.out.drew | with_reducible exact HS.out _ HX0.out.drew.drew | with_reducible exact HS.out _ HB2.out | with_reducible exact HS.out _ HB2.out.drew | with_reducible exact HS.out _ HB2.out.drew.drew | with_reducible exact HS.out _ HB3.out | with_reducible exact HS.out _ HB3.out.drew)
            (first
              | (go_at_call 166; refine (rwith_any _ v2 (withoutM R o.fr) o.to r.f (.slice A2 r.f.data.length c2') _ (by exact HI2.out) HM2.out (by exact HD2.out) (by exact HF2.out)).mono ?_; rintro e w3 ⟨v3, rfl, ho3, hb3⟩; have HO3 := Lib.hid ho3; have HB3 := Lib.hid (Below.trans HB2.out (Below.mono (show Below w2.heap.size w2 w3 from ⟨hb3.os, hb3.tape, hb3.output, hb3.size, hb3.block⟩) HB2.out.size)); clear ho3 hb3)
              | (go_at_call 165; refine (rwithout_any F _ R o.fr _ (by exact HIX.out) HRL.out (by exact HFX.out)).mono ?_; rintro e w2 ⟨v2, rfl, ho2, hb2⟩; have hb2' : Below wx.heap.size wx w2 := ⟨hb2.os, hb2.tape, hb2.output, hb2.size, hb2.block⟩; have HI2 := Lib.hid ho2.rin; have HB2 := Lib.hid hb2'; have HM2 : Hid ((withoutM R o.fr).length ≤ 1000000) := Nat.le_trans (without_le R o.fr) HRL.out; have HD2 := Lib.hid ((HBYX.out.only (Only.of_below (M := fun _ => False) hb2') (fun _ _ => id)).mono (F' := fun k => F k ∨ (wx.heap.size ≤ k ∧ k < w2.heap.size)) (fun _ _ hk => .inl hk)); have HF2 := Lib.hid (f2_lt (a := wx.heap.size) (fun k hk => Nat.lt_of_lt_of_le (HFX.out k hk) hb2'.size)); clear ho2 hb2 hb2'))
          all_goals (go_wp2_with fail; go_meet; exact ⟨HO3.out.rin.mono (f2_w (Nat.le_trans hwz hxz) (Nat.le_trans (Nat.le_trans hwz hxz) HB2.out.size)), HBX.out.trans (HB3.out.mono (Nat.le_trans hwz hxz))⟩)
        case rest =>
          obtain ⟨hi, hb⟩ := hcut
          have HI := Lib.hid hi
          have HBZ := Lib.hid hb
          clear hi hb
          go_wp2_with fail
          go_ret
          exact ⟨_, rfl, by rw [HR.out]; exact HI.out, HBZ.out⟩
    · have e2 : (q == 2) = false := by rw [beq_eq_false_iff_ne]; exact h2
      have HR : Hid (applyM R o = withoutM R o.fr) := by unfold Hid applyM; rw [if_neg (by rw [hq]; exact h1), if_neg (by rw [hq]; exact h2)]
      clear hq h1 h2
      go_wp2_with fail
      refine (rwithout_any F v R o.fr _ H.out HRL.out HF.out).mono ?_
      rintro e w1 ⟨v1, rfl, ho, hb⟩
      have HO := Lib.hid ho
      have HB1 := Lib.hid hb
      clear ho hb
      go_wp2_with fail
      go_ret
      refine ⟨v1, rfl, ?_, HB.out.trans (HB1.out.mono hwz)⟩
      rw [HR.out]
      exact HO.out.rin.mono (fun k _ hk => hk.imp id (fun h => by have := h.1; omega))
end Go.Proofs.YtaccejlalomaaaaGreat.Tx
