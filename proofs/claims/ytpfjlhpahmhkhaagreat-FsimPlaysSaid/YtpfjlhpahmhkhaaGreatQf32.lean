/- Texts put together: WGs17, WGs18. -/
import Derived.Test.YtpfjlhpahmhkhaaGreatQf31
import Derived.Test.YtpfjlhpahmhkhaaGreatQf25
/- Package fsim: what users did; a file system copied. -/
namespace Go.Proofs.YtpfjlhpahmhkhaaGreat.Tx
open Go.RowKit Go.Maps Go.Proofs.YtpfjlhpahmhkhaaGreat.Sh

set_option maxRecDepth 100000 in
theorem user_any {F M : Nat → Prop} {b : Nat} {c : CSt} {w : World} (h : FcAt F w b c M) (hn : c.users.length ≤ 1000000) (hd : ∀ e ∈ c.users, e.data.length ≤ 1000000) : Calls Tryz.prog 110 #[.pointer (some ⟨b, 0, none⟩)] w fun e w' => ∃ v, e = .returned v ∧ NewEvs w c.users v w' := by
  obtain ⟨x, hX, _⟩ := h
  have c5 : w.cell? ⟨b, 5, none⟩ = some x.users := hX.blk.cell 5
  have HC := Lib.hid (copies_any F x.users c.users w hX.users.tmp hn hd hX.low)
  clear hX
  go_enter Tryz.func110, Tryz.ntmps110
  go_wp2_with fail
  refine HC.out.mono ?_
  rintro e w1 ⟨v, rfl, hn1⟩
  have HN1 := Lib.hid hn1
  clear hn1
  go_wp2_with fail
  go_ret
  exact ⟨v, rfl, HN1.out⟩
theorem OwnL.inl {K : Shape} {T : TypeId} {F F' : Nat → Prop} {w : World} {B : Nat} {v : Value} {l : List K.α} (h : OwnL K T F w B v l) (hF : ∀ k, F k → F' k) (hv : ∀ k, v.ownBlock = some k → F' k) : InL K F' w v l := by
  obtain ⟨⟨ds, h1, h2⟩, _⟩ := h
  exact ⟨ds, Rd.of_own h1 hv, h2.mono (fun k _ hk => hF k hk)⟩
set_option maxRecDepth 100000 in
theorem store64 (a : Addr) (x y : Int) (w : World) (h : w.cell? a = some (.int .i64 x)) (hz : w.frozen? a = false) :
    Calls Tryz.prog 69 #[.pointer (some a), .int .i64 y] w fun e w' => e = .returned (.tuple #[]) ∧ w' = w.setCell a (.int .i64 y) := by
  have hl := run_call_store (P := Tryz.prog) Tryz.func157 (by kernel_rfl) (by kernel_rfl) (by kernel_rfl) (by kernel_rfl) (k := .i64) (y := y) h hz
  go_enter Tryz.func69, Tryz.ntmps69
  go_wp2
  go_end0
  exact ⟨rfl, rfl⟩

/-- A file system of its own. -/
def CopyPost (F : Nat → Prop) (w : World) (c : CSt) (e : Ending) (w' : World) : Prop := ∃ b M, e = .returned (.pointer (some ⟨b, 0, none⟩)) ∧ FcAt (grow F w w' M) w' b c M ∧ Below w.heap.size w w' ∧ ∀ k, M k → w.heap.size ≤ k
theorem copy_fin {F : Nat → Prop} {w w1 w2 w3 w4 w5 wf : World} {c : CSt} {v1 v2 v5 : Value} {t3 t4 : Nat} (hF : ∀ k, F k → k < w.heap.size) (h1 : OwnL evK 143 F w1 w.heap.size v1 c.plan) (b1 : Below w.heap.size w w1) (h2 : OwnL evK 143 F w2 w1.heap.size v2 c.users) (b2 : Below w1.heap.size w1 w2)
    (h3 : NewTree F w2 w3 t3 c.here) (h4 : NewTree F w3 w4 t4 c.durable) (h5 : OwnL chK 146 F w5 w4.heap.size v5 c.pending) (b5 : Below w4.heap.size w4 w5) (hwb : Below w5.heap.size w5 wf) (hblk : Blk wf w5.heap.size 135 #[.int .i64 c.room, .int .i64 c.calls, .int .i64 c.time, .bool c.down, v1, v2, .pointer (some ⟨t3, 0, none⟩), .pointer (some ⟨t4, 0, none⟩), v5]) :
    ∃ M, FcAt (grow F w wf M) wf w5.heap.size c M ∧ Below w.heap.size w wf ∧ ∀ k, M k → w.heap.size ≤ k := by
  obtain ⟨b3, f3, u3, ht3, hl3⟩ := h3
  obtain ⟨b4, f4, u4, ht4, hl4⟩ := h4
  have z1 := b1.size
  have z2 := b2.size
  have z3 := b3.size
  have z4 := b4.size
  have z5 := b5.size
  have zf := hwb.size
  have c12 : Below w1.heap.size w1 wf := (((b2.trans (b3.mono z2)).trans (b4.mono (by omega))).trans (b5.mono (by omega))).trans (hwb.mono (by omega))
  have c23 : Below w2.heap.size w2 wf := ((b3.trans (b4.mono (by omega))).trans (b5.mono (by omega))).trans (hwb.mono (by omega))
  have c34 : Below w3.heap.size w3 wf := (b4.trans (b5.mono (by omega))).trans (hwb.mono (by omega))
  have c45 : Below w4.heap.size w4 wf := b5.trans (hwb.mono (by omega))
  have o1 : Only (fun _ => False) w1 wf := Only.of_below c12
  have o2 : Only (fun _ => False) w2 wf := Only.of_below c23
  have o3 : Only (fun _ => False) w3 wf := Only.of_below c34
  have o4 : Only (fun _ => False) w4 wf := Only.of_below c45
  have o5 : Only (fun _ => False) w5 wf := Only.of_below hwb
  obtain ⟨x, hx⟩ : ∃ x : FcV, x = ⟨v1, v2, t3, t4, v5, f3, u3, f4, u4⟩ := ⟨_, rfl⟩
  have hM : ∀ k, fcM w5.heap.size x k → w.heap.size ≤ k ∧ v1.ownBlock ≠ some k := fun k hk => by
    subst hx
    have hv1 : ∀ g, v1.ownBlock = some g → g < w1.heap.size := fun g hg => (h1.lt g hg).2
    rcases hk with rfl | h | h | h | h
    · exact ⟨by omega, fun e => by have := hv1 _ e; omega⟩
    · have := hl3 k h; exact ⟨by omega, fun e => by have := hv1 _ e; omega⟩
    · have := hl4 k h; exact ⟨by omega, fun e => by have := hv1 _ e; omega⟩
    · have := (h5.lt k h).1; exact ⟨by omega, fun e => by have := hv1 _ e; omega⟩
    · have := (h2.lt k h).1; exact ⟨by omega, fun e => by have := hv1 _ e; omega⟩
  have hg : ∀ k, F k → grow F w wf (fcM w5.heap.size x) k := fun k hk => .inl hk
  refine ⟨fcM w5.heap.size x, ⟨x, ⟨?_, ?_, ?_, ?_, ?_, ?_, ?_, ?_, ?_⟩, fun k => Iff.rfl⟩, b1.trans (c12.mono z1), fun k hk => (hM k hk).1⟩
  · subst hx; exact hblk
  · subst hx; exact (ht3.only o3 (fun _ _ => id) (fun _ _ => id)).mono (fun k _ => hg k)
  · subst hx; exact (ht4.only o4 (fun _ _ => id) (fun _ _ => id)).mono (fun k _ => hg k)
  · subst hx
    refine ((h5.only o5 (fun _ _ => id) (fun _ _ => id)).base (Nat.zero_le _)).mono (fun k _ => hg k) (fun k hk hgk => ?_)
    rcases hgk with h | ⟨_, _, h⟩
    · exact h5.2 k hk h
    · exact h (.inr (.inr (.inr (.inl hk))))
  · have h7 : InL evK (grow F w wf (fcM w5.heap.size x)) wf v1 c.plan := (h1.only o1 (fun _ _ => id) (fun _ _ => id)).inl hg (fun k hk => .inr ⟨(h1.lt k hk).1, by have := (h1.lt k hk).2; have := c12.size; omega, fun hm => (hM k hm).2 hk⟩)
    subst hx
    exact h7
  · subst hx
    refine ((h2.only o2 (fun _ _ => id) (fun _ _ => id)).base (Nat.zero_le _)).mono (fun k _ => hg k) (fun k hk hgk => ?_)
    rcases hgk with h | ⟨_, _, h⟩
    · exact h2.2 k hk h
    · exact h (.inr (.inr (.inr (.inr hk))))
  · rintro k (h | ⟨_, _, h⟩) hm
    · have := hF k h; have := (hM k hm).1; omega
    · exact h hm
  · rintro k (h | ⟨_, h, _⟩)
    · have := hF k h; have := c12.size; omega
    · exact h
  · intro k hk hd
    subst hx
    have h8 := ht3.lt k hk
    have h9 := hl4 k hd
    omega
set_option maxRecDepth 100000 in
set_option maxHeartbeats 6400000 in
theorem copy_any {F M : Nat → Prop} {b : Nat} {c : CSt} {w : World} (h : FcAt F w b c M) (hs : CSmall c) (hp : c.plan.length ≤ 1000000) : Calls Tryz.prog 14 #[.pointer (some ⟨b, 0, none⟩)] w (CopyPost F w c) := by
  obtain ⟨x, hX, _⟩ := h
  have HX := Lib.hid hX
  have HS := Lib.hid hs
  have HPL := Lib.hid hp
  obtain ⟨rm, hrm⟩ : ∃ rm, c.room = rm := ⟨_, rfl⟩
  obtain ⟨tm, htm⟩ : ∃ tm, c.time = tm := ⟨_, rfl⟩
  obtain ⟨dn, hdn⟩ : ∃ dn, c.down = dn := ⟨_, rfl⟩
  obtain ⟨cn, hcn⟩ : ∃ cn, c.calls = cn := ⟨_, rfl⟩
  have HSC : Hid (∀ W, Below w.heap.size w W → W.cell? ⟨b, 0, none⟩ = some (.int .i64 rm) ∧ W.cell? ⟨b, 2, none⟩ = some (.int .i64 tm) ∧ W.cell? ⟨b, 3, none⟩ = some (.bool dn) ∧ W.cell? ⟨b, 4, none⟩ = some x.plan ∧ W.cell? ⟨b, 5, none⟩ = some x.users ∧ W.cell? ⟨b, 6, none⟩ = some (.pointer (some ⟨x.here, 0, none⟩)) ∧ W.cell? ⟨b, 7, none⟩ = some (.pointer (some ⟨x.dur, 0, none⟩)) ∧ W.cell? ⟨b, 8, none⟩ = some x.pending) := fun W hW => by
    have b1 := (HX.out.below hW).blk
    rw [← hrm, ← htm, ← hdn]
    exact ⟨b1.cell 0, b1.cell 2, b1.cell 3, b1.cell 4, b1.cell 5, b1.cell 6, b1.cell 7, b1.cell 8⟩
  have HRM := Lib.hid hrm
  have HTM := Lib.hid htm
  have HDN := Lib.hid hdn
  have HCN := Lib.hid hcn
  have q0 := HSC.out w (Below.refl _ _)
  clear hX hs hrm htm hdn hcn hp
  go_enter Tryz.func14, Tryz.ntmps14
  go_upto_region 1 with (fail)
  go_cut [3] (fun v wx => ∃ w1 w2 w3 w4 w5 v1 v2 t3 t4 v5, v = .pointer (some ⟨w5.heap.size, 0, none⟩) ∧ OwnL evK 143 F w1 w.heap.size v1 c.plan ∧ Below w.heap.size w w1 ∧ OwnL evK 143 F w2 w1.heap.size v2 c.users ∧ Below w1.heap.size w1 w2 ∧ NewTree F w2 w3 t3 c.here ∧ NewTree F w3 w4 t4 c.durable ∧ OwnL chK 146 F w5 w4.heap.size v5 c.pending ∧ Below w4.heap.size w4 w5 ∧ wx = w5.alloc (.cells #[.int .i64 rm, .int .i64 0, .int .i64 tm, .bool dn, v1, v2, .pointer (some ⟨t3, 0, none⟩), .pointer (some ⟨t4, 0, none⟩), v5] 135))
  case first =>
    go_region_held3 (fun W => W.cell? ⟨b, 0, none⟩ = some (.int .i64 rm) ∧ W.cell? ⟨b, 2, none⟩ = some (.int .i64 tm) ∧ W.cell? ⟨b, 3, none⟩ = some (.bool dn) ∧ W.cell? ⟨b, 4, none⟩ = some x.plan ∧ W.cell? ⟨b, 5, none⟩ = some x.users ∧ W.cell? ⟨b, 6, none⟩ = some (.pointer (some ⟨x.here, 0, none⟩)) ∧ W.cell? ⟨b, 7, none⟩ = some (.pointer (some ⟨x.dur, 0, none⟩)) ∧ W.cell? ⟨b, 8, none⟩ = some x.pending)
      (first | exact HSC.out _ (HB5.out.alloc HB5.out.size _) | exact HSC.out _ HB5.out | exact HSC.out _ HB4.out | exact HSC.out _ HB3.out | exact HSC.out _ HB2.out | exact HSC.out _ HB1.out | exact q0)
      (first
        | (go_at_call 68; refine (chclone_any F x.pending c.pending _ (by exact (HX.out.below HB4.out).pending.tmp) (by have := HS.out.both; omega) (by exact (HX.out.below HB4.out).low)).mono ?_; rintro e w5 ⟨v5, rfl, ho5, hb5⟩; obtain ⟨A5, c5, rfl, _, _⟩ := chs_slice ho5.tmp; have HO5 := Lib.hid ho5; have HC5 := Lib.hid hb5; have HB5 := Lib.hid (HB4.out.trans (hb5.mono HB4.out.size)); clear ho5 hb5)
        | (go_at_call 67; have _t := tok4; refine (tclone_any F x.dur x.df x.du c.durable _ (by exact (HX.out.below HB3.out).dur)).mono ?_; rintro e w4 ⟨t4, rfl, hn4⟩; have HN4 := Lib.hid hn4; have HB4 := Lib.hid (HB3.out.trans (hn4.1.mono HB3.out.size)); clear hn4 tok4)
        | (go_at_call 67; have _t := tok3; refine (tclone_any F x.here x.hf x.hu c.here _ (by exact (HX.out.below HB2.out).here)).mono ?_; rintro e w3 ⟨t3, rfl, hn3⟩; have HN3 := Lib.hid hn3; have HB3 := Lib.hid (HB2.out.trans (hn3.1.mono HB2.out.size)); have tok4 : True := trivial; clear hn3 tok3)
        | (go_at_call 66; have _t := tok2; refine (evclone_any F x.users c.users _ (by exact (HX.out.below HB1.out).users.tmp) (by have := HS.out.users; omega) (by exact (HX.out.below HB1.out).low)).mono ?_; rintro e w2 ⟨v2, rfl, ho2, hb2⟩; obtain ⟨A2, c2, rfl, _, _⟩ := evs_slice ho2.tmp; have HO2 := Lib.hid ho2; have HC2 := Lib.hid hb2; have HB2 := Lib.hid (HB1.out.trans (hb2.mono HB1.out.size)); have tok3 : True := trivial; clear ho2 hb2 tok2)
        | (go_at_call 66; refine (evclone_any F x.plan c.plan w.drew (by exact HX.out.plan.tmp) HPL.out (by exact HX.out.low)).mono ?_; rintro e w1 ⟨v1, rfl, ho1, hb1⟩; obtain ⟨A1, c1, rfl, _, _⟩ := evs_slice ho1.tmp; have HO1 := Lib.hid ho1; have hb1' : Below w.heap.size w w1 := ⟨hb1.os, hb1.tape, hb1.output, hb1.size, hb1.block⟩; have HB1 := Lib.hid hb1'; have tok2 : True := trivial; clear ho1 hb1 hb1'))
    go_wp2_with fail
    go_meet
    exact ⟨_, _, _, _, _, _, _, _, _, _, rfl, HO1.out, HB1.out, HO2.out, HC2.out, HN3.out, HN4.out, HO5.out, HC5.out, rfl⟩
  case rest =>
    obtain ⟨w1, w2, w3, w4, w5, v1, v2, t3, t4, v5, rfl, h1, b1, h2, b2, h3, h4, h5, b5, hwc⟩ := hcut
    have hBn : Below w5.heap.size w5 wc := by rw [hwc]; exact (Below.refl _ _).alloc (Nat.le_refl _) _
    have hbk : Blk wc w5.heap.size 135 #[.int .i64 rm, .int .i64 0, .int .i64 tm, .bool dn, v1, v2, .pointer (some ⟨t3, 0, none⟩), .pointer (some ⟨t4, 0, none⟩), v5] := by rw [hwc]; exact Blk.new _ _ _
    have z1 := b1.size
    have z2 := b2.size
    have z3 := h3.1.size
    have z4 := h4.1.size
    have z5 := b5.size
    have hBw : Below w.heap.size w wc := ((((b1.trans (b2.mono z1)).trans (h3.1.mono (by omega))).trans (h4.1.mono (by omega))).trans (b5.mono (by omega))).trans (hBn.mono (by omega))
    have k1 : wc.cell? ⟨b, 1, none⟩ = some (.int .i64 cn) := by rw [← HCN.out]; exact (HX.out.below hBw).blk.cell 1
    have k2 : wc.cell? ⟨w5.heap.size, 1, none⟩ = some (.int .i64 0) := hbk.cell 1
    have k2f : wc.frozen? ⟨w5.heap.size, 1, none⟩ = false := hbk.frozen 1
    have hbk2 : Blk (wc.setCell ⟨w5.heap.size, 1, none⟩ (.int .i64 cn)) w5.heap.size 135 #[.int .i64 c.room, .int .i64 c.calls, .int .i64 c.time, .bool c.down, v1, v2, .pointer (some ⟨t3, 0, none⟩), .pointer (some ⟨t4, 0, none⟩), v5] := by
      rw [HRM.out, HTM.out, HDN.out, HCN.out]
      exact hbk.set_ 1 _
    have hB2 : Below w5.heap.size w5 (wc.setCell ⟨w5.heap.size, 1, none⟩ (.int .i64 cn)) := hBn.setCell (p := ⟨w5.heap.size, 1, none⟩) (Nat.le_refl _) _
    have HFIN := Lib.hid (copy_fin HX.out.low h1 b1 h2 b2 h3 h4 h5 b5 hB2 hbk2)
    clear h1 b1 h2 b2 h3 h4 h5 b5 hwc hBn hbk hBw hbk2 hB2 q0 z1 z2 z3 z4 z5
    go_upto_region 2 with (fail)
    go_region_with (first
      | (go_at_call 69; refine (store64 ⟨w5.heap.size, 1, none⟩ 0 cn _ (by exact k2) (by exact k2f)).mono ?_; rintro e w7 ⟨rfl, rfl⟩)
      | (go_at_call 70; refine (load64 ⟨b, 1, none⟩ cn _ (by exact k1)).mono ?_; rintro e w6 ⟨rfl, rfl⟩))
    all_goals
      go_wp2_with fail
      go_ret
      obtain ⟨M', h7, h8, h9⟩ := HFIN.out
      exact ⟨_, M', rfl, h7.only (Z := fun _ => False) ((Only.refl _ _).drew) (fun _ _ => id) (fun _ _ => id), h8.drew, h9⟩
end Go.Proofs.YtpfjlhpahmhkhaaGreat.Tx
/- Package fsim: Read. -/
namespace Go.Proofs.YtpfjlhpahmhkhaaGreat.Tx
open Go.RowKit Go.Maps Go.Proofs.YtpfjlhpahmhkhaaGreat.Sh

def redE (st : CSt) (p : List UInt8) : Int := if bgE st = 0 then (if pathB p = false then 6 else if peekB (bgC st).c.here p = true then 0 else 7) else bgE st
def redF (st : CSt) (p : List UInt8) : FileM := if redE st p = 0 then peekF (bgC st).c.here p else ⟨0, [], 0⟩
/-- A file was given, beside a file system. -/
def RedPost (F M : Nat → Prop) (w : World) (b : Nat) (s : CSt) (n : Int) (f : FileM) (e : Ending) (w' : World) : Prop :=
  ∃ u v M', e = .returned (.tuple #[u, .int .i64 n]) ∧ u = .agg #[.int .i64 f.mode, v, .int .i64 f.time] ∧ FcAt (grow F w w' M') w' b s M' ∧ Only M w w' ∧ (∀ k, M' k → M k ∨ w.heap.size ≤ k) ∧ By (grow F w w' M') w' v f.data
theorem red_fin {F M M1 : Nat → Prop} {w wa w1 w' : World} {b : Nat} {s : CSt} (hwa : Below w.heap.size w wa) (hz : w.heap.size < wa.heap.size) (hat : FcAt (grow F wa w1 M1) w1 b s M1) (hon : Only M wa w1) (hsub : ∀ k, M1 k → M k ∨ wa.heap.size ≤ k)
    (hr : Only (fun k => k = w.heap.size) w1 w') (hF : ∀ k, F k → k < w.heap.size) (hM : ∀ k, M k → k < w.heap.size) :
    FcAt (grow F w w' M1) w' b s M1 ∧ Only M w w' ∧ ∀ k, M1 k → M k ∨ w.heap.size ≤ k := by
  obtain ⟨x, hX, hX2⟩ := hat
  have hz1 := hon.size
  have hz2 := hr.size
  have hne : ∀ k, M1 k → ¬ (k = w.heap.size) := fun k hk e => by
    rcases hsub k hk with h | h
    · have := hM k h; omega
    · omega
  have h1 : FcX (grow F wa w1 M1) w' b s x := hX.only hr (fun k hk e => by
    rcases hk with hk | ⟨g1, _, _⟩
    · have := hF k hk; omega
    · omega) (fun k hk => hne k ((hX2 k).2 hk))
  refine ⟨⟨x, h1.mono (F' := grow F w w' M1) (fun k hk => ?_) (fun k hk hm => ?_) (fun k hk => ?_), hX2⟩, ((Only.of_below hwa).trans hon (fun k hk => .inl hk)).trans hr (fun k hk => .inr (by rw [hk]; exact Nat.le_refl _)), fun k hk => (hsub k hk).imp id (fun h => by omega)⟩
  · rcases hk with hk | ⟨g1, g2, g3⟩
    · exact .inl hk
    · exact .inr ⟨by omega, by omega, g3⟩
  · rcases hk with hk | ⟨_, _, g3⟩
    · exact hX.self k (.inl hk) hm
    · exact g3 ((hX2 k).2 hm)
  · rcases hk with hk | ⟨_, g2, _⟩
    · have := hF k hk; omega
    · exact g2

set_option maxRecDepth 100000 in
set_option maxHeartbeats 3200000 in
theorem read_any (F M : Nat → Prop) (b : Nat) (st : CSt) (N : Nat) (p : List UInt8) (w : World) (h : FcAt F w b st M) (hr : CReady st N) (hp : p.length ≤ 1000000) :
    Calls Tryz.prog 85 #[.pointer (some ⟨b, 0, none⟩), .string (str p)] w (RedPost F M w b (bgC st).c (redE st p) (redF st p)) := by
  have HR := Lib.hid hr
  have HS := Lib.hid hr.small
  have HLF := Lib.hid h.low
  have HLM := Lib.hid h.lt
  obtain ⟨wa, hwa⟩ : ∃ wa, wa = w.alloc (.cells #[.int .i64 0, .slice none 0 0, .int .i64 0] 122) := ⟨_, rfl⟩
  have hBa : Below w.heap.size w wa := by rw [hwa]; exact (Below.refl _ _).alloc (Nat.le_refl _) _
  have hba : Blk wa w.heap.size 122 #[.int .i64 0, .slice none 0 0, .int .i64 0] := by rw [hwa]; exact Blk.new _ _ _
  have HZA : Hid (w.heap.size < wa.heap.size) := hba.lt
  have HBA := Lib.hid hBa
  have HBLK := Lib.hid hba
  have H := Lib.hid (h.below hBa)
  clear h hr hBa hba
  obtain ⟨be, hbe⟩ : ∃ be, bgE st = be := ⟨_, rfl⟩
  have HBE := Lib.hid hbe
  obtain ⟨tp, htp⟩ : ∃ t, pathB p = t := ⟨_, rfl⟩
  have HTP := Lib.hid htp
  clear hbe htp
  go_enter Tryz.func85, Tryz.ntmps85
  go_upto_region 1 with (fail)
  rw [← hwa]
  clear hwa
  go_wp2_with fail
  refine (begin_any F M b st N _ H.out HR.out.fits HR.out.big HR.out.calls HR.out.paths).mono ?_
  rintro e w1 ⟨rfl, hpost⟩
  rw [HBE.out]
  obtain ⟨s, hs⟩ : ∃ s, (bgC st).c = s := ⟨_, rfl⟩
  have HSS := Lib.hid hs
  rw [hs] at hpost
  obtain ⟨M1, hat, hon, hsub⟩ := hpost
  have HSM : Hid (CSmall s) := by rw [← hs]; exact HS.out
  have HAT := Lib.hid hat
  have HON := Lib.hid hon
  have HSUB := Lib.hid hsub
  have hb1 : Blk w1 w.heap.size 122 #[.int .i64 0, .slice none 0 0, .int .i64 0] := hon.blk HBLK.out (fun hm => by have := HLM.out _ hm; omega)
  have HB1 := Lib.hid hb1
  have hwl : w.heap.size < w1.heap.size := hb1.lt
  clear hat hon hsub hs hb1
  obtain ⟨fu, hfu⟩ : ∃ fu, (bgC st).room = fu := ⟨_, rfl⟩
  rw [hfu]
  clear hfu
  by_cases hb0 : be = 0
  · subst hb0
    go_wp2_with fail
    refine (npath_any p _ hp).mono ?_
    rintro e w2 ⟨rfl, hb2⟩
    rw [HTP.out]
    have HB2 := Lib.hid hb2
    have HK2 := Lib.hid (HB1.out.below hb2 hwl)
    have hz2 := hb2.size
    clear hb2
    cases tp with
    | false =>
      have HE : Hid (redE st p = 6 ∧ redF st p = ⟨0, [], 0⟩) := by
        have h1 : redE st p = 6 := by unfold redE; rw [if_pos HBE.out, if_pos HTP.out]
        exact ⟨h1, by unfold redF; rw [h1, if_neg (by decide)]⟩
      have a0 : w2.cell? ⟨w.heap.size, 0, none⟩ = some (.int .i64 0) := HK2.out.cell 0
      have a1 : w2.cell? ⟨w.heap.size, 1, none⟩ = some (.slice none 0 0) := HK2.out.cell 1
      have a2 : w2.cell? ⟨w.heap.size, 2, none⟩ = some (.int .i64 0) := HK2.out.cell 2
      have f0 : w2.frozen? ⟨w.heap.size, 0, none⟩ = false := HK2.out.frozen 0
      have f1 : w2.frozen? ⟨w.heap.size, 1, none⟩ = false := HK2.out.frozen 1
      have f2 : w2.frozen? ⟨w.heap.size, 2, none⟩ = false := HK2.out.frozen 2
      have hs3 := set3 HK2.out (.int .i64 0) (.slice none 0 0) (.int .i64 0)
      have HBC := Lib.hid hs3.1
      have HON3 := Lib.hid ((Only.of_below HB2.out).trans hs3.2 (fun _ h => .inl h))
      clear hs3
      go_wp2_with fail
      generalize (((w2.setCell ⟨w.heap.size, 0, none⟩ (.int .i64 0)).setCell ⟨w.heap.size, 1, none⟩ (.slice none 0 0)).setCell ⟨w.heap.size, 2, none⟩ (.int .i64 0)) = wc at *
      have q0 : wc.cell? ⟨w.heap.size, 0, none⟩ = some (.int .i64 0) := HBC.out.cell 0
      have q1 : wc.cell? ⟨w.heap.size, 1, none⟩ = some (.slice none 0 0) := HBC.out.cell 1
      have q2 : wc.cell? ⟨w.heap.size, 2, none⟩ = some (.int .i64 0) := HBC.out.cell 2
      refine bodyPost_ret (v := .tuple #[.agg #[(.int .i64 0), (.slice none 0 0), (.int .i64 0)], .int .i64 6]) (by simp [results, Tryz.results85, go_sem, q0, q1, q2]) rfl ?_
      have hfin := red_fin HBA.out HZA.out HAT.out HON.out HSUB.out HON3.out HLF.out HLM.out
      refine ⟨_, _, M1, by rw [HE.out.1], by rw [HE.out.2], by rw [HSS.out]; exact hfin.1, hfin.2.1, hfin.2.2, ?_⟩
      rw [HE.out.2]
      exact By.nil_ _ _
    | true =>
      go_wp2_with fail
      refine (peek_any p (HAT.out.below HB2.out) HSM.out hp).mono ?_
      rintro e w3 ⟨u3, rfl, hfv, hb3⟩
      obtain ⟨v3, rfl, ho3⟩ := hfv
      have hb13 : Below w1.heap.size w1 w3 := HB2.out.trans (hb3.mono hz2)
      have HO3 := Lib.hid ho3
      obtain ⟨A3, c3, rfl, _, _⟩ := ho3.length
      rw [List.length_map] at HO3 ⊢
      obtain ⟨pf, hpf⟩ : ∃ pf, peekF s.here p = pf := ⟨_, rfl⟩
      obtain ⟨pb, hpb⟩ : ∃ pb, peekB s.here p = pb := ⟨_, rfl⟩
      have HPF := Lib.hid hpf
      have HPB := Lib.hid hpb
      rw [hpf] at HO3 ⊢
      rw [hpb]
      clear hpf hpb ho3
      obtain ⟨w4, hw4⟩ : ∃ w4, w4 = w3.alloc (.cells #[.int .i64 pf.mode, .slice A3 pf.data.length c3, .int .i64 pf.time] 122) := ⟨_, rfl⟩
      have hb34 : Below w3.heap.size w3 w4 := by rw [hw4]; exact (Below.refl _ _).alloc (Nat.le_refl _) _
      have hbx : Blk w4 w3.heap.size 122 #[.int .i64 pf.mode, .slice A3 pf.data.length c3, .int .i64 pf.time] := by rw [hw4]; exact Blk.new _ _ _
      have hz3 := hb13.size
      have HO4 := Lib.hid (HO3.out.below hb34)
      have HB14 := Lib.hid (hb13.trans (hb34.mono hz3))
      have HK4 := Lib.hid (HB1.out.below HB14.out hwl)
      have HX4 := Lib.hid hbx
      clear hb13 hb34 hbx hb3
      go_upto_region 7 with (fail)
      rw [← hw4]
      clear hw4
      have x0 : w4.cell? ⟨w3.heap.size, 0, none⟩ = some (.int .i64 pf.mode) := HX4.out.cell 0
      have x1 : w4.cell? ⟨w3.heap.size, 1, none⟩ = some (.slice A3 pf.data.length c3) := HX4.out.cell 1
      have x2 : w4.cell? ⟨w3.heap.size, 2, none⟩ = some (.int .i64 pf.time) := HX4.out.cell 2
      have a0 : w4.cell? ⟨w.heap.size, 0, none⟩ = some (.int .i64 0) := HK4.out.cell 0
      have a1 : w4.cell? ⟨w.heap.size, 1, none⟩ = some (.slice none 0 0) := HK4.out.cell 1
      have a2 : w4.cell? ⟨w.heap.size, 2, none⟩ = some (.int .i64 0) := HK4.out.cell 2
      have f0 : w4.frozen? ⟨w.heap.size, 0, none⟩ = false := HK4.out.frozen 0
      have f1 : w4.frozen? ⟨w.heap.size, 1, none⟩ = false := HK4.out.frozen 1
      have f2 : w4.frozen? ⟨w.heap.size, 2, none⟩ = false := HK4.out.frozen 2
      cases pb with
      | false =>
        have HE : Hid (redE st p = 7 ∧ redF st p = ⟨0, [], 0⟩) := by
          have h1 : redE st p = 7 := by unfold redE; rw [if_pos HBE.out, if_neg (by rw [HTP.out]; decide), HSS.out, if_neg (by rw [HPB.out]; decide)]
          exact ⟨h1, by unfold redF; rw [h1, if_neg (by decide)]⟩
        have hs3 := set3 HK4.out (.int .i64 0) (.slice none 0 0) (.int .i64 0)
        have HBC := Lib.hid hs3.1
        have HON3 := Lib.hid ((Only.of_below HB14.out).trans hs3.2 (fun _ h => .inl h))
        clear hs3
        go_wp2_with fail
        generalize (((w4.setCell ⟨w.heap.size, 0, none⟩ (.int .i64 0)).setCell ⟨w.heap.size, 1, none⟩ (.slice none 0 0)).setCell ⟨w.heap.size, 2, none⟩ (.int .i64 0)) = wc at *
        have q0 : wc.cell? ⟨w.heap.size, 0, none⟩ = some (.int .i64 0) := HBC.out.cell 0
        have q1 : wc.cell? ⟨w.heap.size, 1, none⟩ = some (.slice none 0 0) := HBC.out.cell 1
        have q2 : wc.cell? ⟨w.heap.size, 2, none⟩ = some (.int .i64 0) := HBC.out.cell 2
        refine bodyPost_ret (v := .tuple #[.agg #[(.int .i64 0), (.slice none 0 0), (.int .i64 0)], .int .i64 7]) (by simp [results, Tryz.results85, go_sem, q0, q1, q2]) rfl ?_
        have hfin := red_fin HBA.out HZA.out HAT.out HON.out HSUB.out HON3.out HLF.out HLM.out
        refine ⟨_, _, M1, by rw [HE.out.1], by rw [HE.out.2], by rw [HSS.out]; exact hfin.1, hfin.2.1, hfin.2.2, ?_⟩
        rw [HE.out.2]
        exact By.nil_ _ _
      | true =>
        have HE : Hid (redE st p = 0 ∧ redF st p = pf) := by
          have h1 : redE st p = 0 := by unfold redE; rw [if_pos HBE.out, if_neg (by rw [HTP.out]; decide), HSS.out, if_pos HPB.out]
          exact ⟨h1, by unfold redF; rw [h1, if_pos rfl, HSS.out, HPF.out]⟩
        have HBY := Lib.hid (OwnV.by_ (F := fun _ => False) HO4.out)
        have hs3 := set3 HK4.out (.int .i64 pf.mode) (.slice A3 pf.data.length c3) (.int .i64 pf.time)
        have HBC := Lib.hid hs3.1
        have HON3 := Lib.hid ((Only.of_below HB14.out).trans hs3.2 (fun _ h => .inl h))
        have HBYC := Lib.hid (HBY.out.only hs3.2 (fun k hk e => by
          rcases hk with hk | hk
          · exact hk
          · have := hk.1; omega))
        clear hs3
        go_wp2_with fail
        generalize (((w4.setCell ⟨w.heap.size, 0, none⟩ (.int .i64 pf.mode)).setCell ⟨w.heap.size, 1, none⟩ (.slice A3 pf.data.length c3)).setCell ⟨w.heap.size, 2, none⟩ (.int .i64 pf.time)) = wc at *
        have q0 : wc.cell? ⟨w.heap.size, 0, none⟩ = some (.int .i64 pf.mode) := HBC.out.cell 0
        have q1 : wc.cell? ⟨w.heap.size, 1, none⟩ = some (.slice A3 pf.data.length c3) := HBC.out.cell 1
        have q2 : wc.cell? ⟨w.heap.size, 2, none⟩ = some (.int .i64 pf.time) := HBC.out.cell 2
        refine bodyPost_ret (v := .tuple #[.agg #[(.int .i64 pf.mode), (.slice A3 pf.data.length c3), (.int .i64 pf.time)], .int .i64 0]) (by simp [results, Tryz.results85, go_sem, q0, q1, q2]) rfl ?_
        have hfin := red_fin HBA.out HZA.out HAT.out HON.out HSUB.out HON3.out HLF.out HLM.out
        refine ⟨_, _, M1, by rw [HE.out.1], by rw [HE.out.2], by rw [HSS.out]; exact hfin.1, hfin.2.1, hfin.2.2, ?_⟩
        rw [HE.out.2]
        refine HBYC.out.mono (fun k hk hf => ?_)
        rcases hf with hf | hf
        · exact hf.elim
        · exact .inr ⟨by have := hf.1; omega, hk, fun hm => by have := HAT.out.lt k hm; have := hf.1; omega⟩
  · have e1 : (be == 0) = false := by rw [beq_eq_false_iff_ne]; exact hb0
    have HE : Hid (redE st p = be ∧ redF st p = ⟨0, [], 0⟩) := by
      have h1 : redE st p = be := by unfold redE; rw [HBE.out, if_neg hb0]
      exact ⟨h1, by unfold redF; rw [h1, if_neg hb0]⟩
    clear hb0
    have a0 : w1.cell? ⟨w.heap.size, 0, none⟩ = some (.int .i64 0) := HB1.out.cell 0
    have a1 : w1.cell? ⟨w.heap.size, 1, none⟩ = some (.slice none 0 0) := HB1.out.cell 1
    have a2 : w1.cell? ⟨w.heap.size, 2, none⟩ = some (.int .i64 0) := HB1.out.cell 2
    have f0 : w1.frozen? ⟨w.heap.size, 0, none⟩ = false := HB1.out.frozen 0
    have f1 : w1.frozen? ⟨w.heap.size, 1, none⟩ = false := HB1.out.frozen 1
    have f2 : w1.frozen? ⟨w.heap.size, 2, none⟩ = false := HB1.out.frozen 2
    have hs3 := set3 HB1.out (.int .i64 0) (.slice none 0 0) (.int .i64 0)
    have HBC := Lib.hid hs3.1
    have HON3 := Lib.hid ((Only.refl _ w1).trans hs3.2 (fun _ h => .inl h))
    clear hs3
    go_wp2_with fail
    generalize (((w1.setCell ⟨w.heap.size, 0, none⟩ (.int .i64 0)).setCell ⟨w.heap.size, 1, none⟩ (.slice none 0 0)).setCell ⟨w.heap.size, 2, none⟩ (.int .i64 0)) = wc at *
    have q0 : wc.cell? ⟨w.heap.size, 0, none⟩ = some (.int .i64 0) := HBC.out.cell 0
    have q1 : wc.cell? ⟨w.heap.size, 1, none⟩ = some (.slice none 0 0) := HBC.out.cell 1
    have q2 : wc.cell? ⟨w.heap.size, 2, none⟩ = some (.int .i64 0) := HBC.out.cell 2
    refine bodyPost_ret (v := .tuple #[.agg #[(.int .i64 0), (.slice none 0 0), (.int .i64 0)], .int .i64 be]) (by simp [results, Tryz.results85, go_sem, q0, q1, q2]) rfl ?_
    have hfin := red_fin HBA.out HZA.out HAT.out HON.out HSUB.out HON3.out HLF.out HLM.out
    refine ⟨_, _, M1, by rw [HE.out.1], by rw [HE.out.2], by rw [HSS.out]; exact hfin.1, hfin.2.1, hfin.2.2, ?_⟩
    rw [HE.out.2]
    exact By.nil_ _ _
end Go.Proofs.YtpfjlhpahmhkhaaGreat.Tx
