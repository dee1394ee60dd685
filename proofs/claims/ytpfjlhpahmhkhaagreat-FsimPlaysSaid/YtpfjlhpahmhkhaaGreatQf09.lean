/- Texts put together: WFx6. -/
import Derived.Test.YtpfjlhpahmhkhaaGreatQf08
/- The reference's file system: change. -/
namespace Go.Proofs.YtpfjlhpahmhkhaaGreat.Tx
open Go.RowKit Go.Proofs.YtpfjlhpahmhkhaaGreat.Sh

def opOf (st : FSM) (o : OpM) : OpM := if o.kind = 1 then { o with f := { o.f with time := st.time + 1 } } else o
theorem opOf_yes {st : FSM} {o : OpM} (h : o.kind = 1) : opOf st o = { o with f := { o.f with time := st.time + 1 } } := by unfold opOf; rw [if_pos h]
theorem opOf_no {st : FSM} {o : OpM} (h : o.kind ≠ 1) : opOf st o = o := by unfold opOf; rw [if_neg h]

/-- What stands behind a change, put together. -/
theorem change_fin {F : Nat → Prop} {w wo wc wl w5 : World} {b : Nat} {st : FSM} {x : FsV} {M : Nat → Prop} {t : Int} {v' v5 : Value} {now' : List RowM} {p' : List OpM} (hX : RefX F w b st x) (hM : ∀ k, M k ↔ fsM b x k)
    (hOP : Only (fun k => k = b) w wc) (hwo : w.heap.size ≤ wo.heap.size) (hnow : RowsIn (fun k => F k ∨ (wo.heap.size ≤ k ∧ k < wc.heap.size)) wc v' now') (hblk : Blk w5 b 140 (fsC { st with time := t } { x with now := v' }))
    (hl : Below wc.heap.size wc wl) (hg : wl.grownBy w5 x.pending.ownBlock) (hown : OwnL opK 257 F w5 0 v5 p') (hk : v5.ownBlock = x.pending.ownBlock ∨ v5.ownBlock = some wl.heap.size) :
    FsPost F M w b { st with time := t, now := now', pending := p' } (w5.setCell ⟨b, 3, none⟩ v5) := by
  have hz1 := hOP.size
  have hz2 := hl.size
  have hz3 := hg.size
  have hbw : b < w.heap.size := hX.blk.lt
  have hpw : ∀ k, x.pending.ownBlock = some k → k < w.heap.size := fun k hk => (hX.pending.lt k hk).2
  have huw : ∀ k, x.user.ownBlock = some k → k < w.heap.size := fun k hk => (hX.user.lt k hk).2
  have hwz : (w5.setCell ⟨b, 3, none⟩ v5).heap.size = w5.heap.size := by simp [World.setCell]
  have o5 : Only (fun k => x.pending.ownBlock = some k) wc w5 := (Only.of_below hl).trans (M' := fun k => x.pending.ownBlock = some k) ⟨hg.os, hg.tape, hg.output, hg.size, fun k hk hn => hg.block k hk (fun e => hn e.symm)⟩ (fun k hk => .inl hk)
  have of : Only (fun k => k = b ∨ x.pending.ownBlock = some k) wc (w5.setCell ⟨b, 3, none⟩ v5) := Only.set_ (M := fun k => k = b ∨ x.pending.ownBlock = some k) (g := b) (i := 3) (o5.more (fun k _ h => .inr h)) (.inl (.inl rfl)) v5
  have ow : Only (fun k => k = b ∨ x.pending.ownBlock = some k) w (w5.setCell ⟨b, 3, none⟩ v5) := (hOP.more (M' := fun k => k = b ∨ x.pending.ownBlock = some k) (fun k _ h => .inl h)).trans of (fun k hk => .inl hk)
  have hdF : ∀ k, F k → ¬ (k = b ∨ x.pending.ownBlock = some k) := fun k hf h => hX.apart k hf (h.imp id .inl)
  have hM' : ∀ k, fsM b { x with now := v', pending := v5 } k → fsM b x k ∨ wc.heap.size ≤ k := fun k h => by
    rcases h with h | h | h
    · exact .inl (.inl h)
    · rcases hk with e | e
      · exact .inl (.inr (.inl (by rw [← e]; exact h)))
      · right
        have h' : v5.ownBlock = some k := h
        rw [e] at h'
        injection h' with h'
        omega
    · exact .inl (.inr (.inr h))
  have hMlt : ∀ k, fsM b x k → k < w.heap.size := hX.lt
  have hgF : ∀ k, F k → grow F w (w5.setCell ⟨b, 3, none⟩ v5) (fsM b { x with now := v', pending := v5 }) k := fun k h => .inl h
  have hgN : ∀ k, w.heap.size ≤ k → k < wc.heap.size → grow F w (w5.setCell ⟨b, 3, none⟩ v5) (fsM b { x with now := v', pending := v5 }) k := fun k h1 h2 => .inr ⟨h1, by rw [hwz]; omega, fun hm => by
    rcases hM' k hm with h | h
    · have := hMlt k h; omega
    · omega⟩
  have hv5b : ∀ k, v5.ownBlock = some k → ¬ (k = b) := fun k hk e => by
    obtain ⟨⟨ds, h1, _⟩, _⟩ := hown
    exact own_blk_ne h1 hblk (by decide) (by rw [hk, e])
  refine ⟨fsM b { x with now := v', pending := v5 }, ⟨{ x with now := v', pending := v5 }, ⟨hblk.set_ 3 v5, ?_, ?_, ?_, ?_, ?_, ?_, ?_⟩, fun k => Iff.rfl⟩, ow.more (fun k _ h => (hM k).2 (h.imp id .inl)), fun k h => ?_⟩
  · refine (hnow.only of (fun k hf h => ?_)).mono (fun k _ hf => ?_)
    · rcases hf with hf | hf
      · exact hdF k hf h
      · rcases h with rfl | h
        · omega
        · have := hpw k h; omega
    · rcases hf with hf | hf
      · exact hgF k hf
      · exact hgN k (by omega) hf.2
  · exact (hX.sure.only ow hdF).mono (fun k _ => hgF k)
  · refine (hown.only (M := fun k => k = b) (Only.set_ (M := fun k => k = b) (g := b) (i := 3) (Only.refl _ w5) (.inl rfl) v5) (fun k hf e => hX.self (by rw [← e]; exact hf)) hv5b).mono (fun k _ => hgF k) (fun k hk hg => ?_)
    rcases hg with hf | ⟨_, _, hn⟩
    · exact hown.2 k hk hf
    · exact hn (.inr (.inl hk))
  · exact (hX.plan.only ow hdF).mono (fun k _ => hgF k)
  · refine (hX.user.only ow hdF (fun k hk h => ?_)).mono (fun k _ => hgF k) (fun k hk hg => ?_)
    · rcases h with h | h
      · exact hX.u_ne (by rw [hk, h])
      · exact hX.pu_ne k h hk
    · rcases hg with hf | ⟨_, _, hn⟩
      · exact hX.user.2 k hk hf
      · exact hn (.inr (.inr hk))
  · rintro (h | ⟨_, _, h⟩)
    · exact hX.self h
    · exact h (.inl rfl)
  · rintro k (h | ⟨_, h, _⟩)
    · have := hX.low k h; rw [hwz]; omega
    · exact h
  · rcases hM' k h with h | h
    · exact .inl ((hM k).2 h)
    · right; omega

set_option maxRecDepth 100000 in
set_option maxHeartbeats 3200000 in
theorem rchange_any (F M : Nat → Prop) (b : Nat) (st : FSM) (o : OpM) (d : Value) (w : World) (h : RefAt F w b st M) (hd : By F w d o.f.data) (ht : 0 ≤ st.time ∧ st.time ≤ 4000000000000) (hn : st.now.length ≤ 1000000) (hp : st.pending.length ≤ 1000000) :
    Calls Tryz.prog 231 #[.pointer (some ⟨b, 0, none⟩), .agg #[.int .i64 o.kind, .string (str o.fr), .string (str o.to), .int .i64 o.f.mode, d, .int .i64 o.f.time]] w fun e w' => e = .returned (.tuple #[]) ∧ FsPost F M w b (changeM st o) w' := by
  obtain ⟨x, hX, hM⟩ := h
  have hone := hd.one
  obtain ⟨dA, dc, rfl, _, _⟩ := hd.slice
  obtain ⟨wb, hwb⟩ : ∃ wb, wb = w.alloc (.cells #[.int .i64 o.kind, .string (str o.fr), .string (str o.to), .int .i64 o.f.mode, .slice dA o.f.data.length dc, .int .i64 o.f.time] 257) := ⟨_, rfl⟩
  have hB : Below w.heap.size w wb := by rw [hwb]; exact (Below.refl _ _).alloc (Nat.le_refl _) _
  have hbox : Blk wb w.heap.size 257 #[.int .i64 o.kind, .string (str o.fr), .string (str o.to), .int .i64 o.f.mode, .slice dA o.f.data.length dc, .int .i64 o.f.time] := by rw [hwb]; exact Blk.new _ _ _
  have hblt := hX.blk.lt
  have hne : w.heap.size ≠ b := by omega
  have hblk : Blk wb b 140 (fsC st x) := (hX.below hB).blk
  obtain ⟨t, hT⟩ : ∃ t, st.time = t := ⟨_, rfl⟩
  rw [hT] at ht
  obtain ⟨t0, t1⟩ := ht
  have f6 : wb.cell? ⟨b, 6, none⟩ = some (.int .i64 t) := by rw [← hT]; exact hblk.cell 6
  have z6 : wb.frozen? ⟨b, 6, none⟩ = false := hblk.frozen 6
  have HX := Lib.hid hX
  have HMM := Lib.hid hM
  have HD := Lib.hid hd
  have HB := Lib.hid hB
  have HBOX := Lib.hid hbox
  have HBLK := Lib.hid hblk
  have HT := Lib.hid hT
  have HN := Lib.hid hn
  have HP := Lib.hid hp
  have hwz := hB.size
  clear hX hM hd hB hbox hblk hT hn hp
  go_enter Tryz.func231, Tryz.ntmps231
  go_upto_region 1 with (fail)
  rw [← hwb]
  clear hwb
  go_upto_region 2 with (fail)
  have hw1 : Blk (wb.setCell ⟨b, 6, none⟩ (.int .i64 (t + 1))) b 140 (fsC { st with time := t + 1 } x) := HBLK.out.set_ 6 _
  have hbox1 : Blk (wb.setCell ⟨b, 6, none⟩ (.int .i64 (t + 1))) w.heap.size 257 #[.int .i64 o.kind, .string (str o.fr), .string (str o.to), .int .i64 o.f.mode, .slice dA o.f.data.length dc, .int .i64 o.f.time] := HBOX.out.far hne _
  have ho1 : Only (fun k => k = b) w (wb.setCell ⟨b, 6, none⟩ (.int .i64 (t + 1))) := Only.set_ (M := fun k => k = b) (g := b) (i := 6) (Only.of_below HB.out) (.inl rfl) _
  generalize wb.setCell ⟨b, 6, none⟩ (.int .i64 (t + 1)) = w1 at *
  have HW1 := Lib.hid hw1
  have HBOX1 := Lib.hid hbox1
  have HO1 := Lib.hid ho1
  have k0 : w1.cell? ⟨w.heap.size, 0, none⟩ = some (.int .i64 o.kind) := hbox1.cell 0
  have k6 : w1.cell? ⟨b, 6, none⟩ = some (.int .i64 (t + 1)) := hw1.cell 6
  have k5 : (w1.cell? ⟨w.heap.size, 5, none⟩).isSome = true ∧ w1.frozen? ⟨w.heap.size, 5, none⟩ = false := ⟨by rw [hbox1.cell 5]; rfl, hbox1.frozen 5⟩
  have k5c : w1.cell? ⟨w.heap.size, 5, none⟩ = some (.int .i64 o.f.time) := hbox1.cell 5
  have k5f := k5.2
  obtain ⟨q, hq⟩ : ∃ q, o.kind = q := ⟨_, rfl⟩
  rw [hq] at k0
  have HQ := Lib.hid hq
  clear hw1 hbox1 ho1 f6 z6 HBOX HBLK HB k5 hq
  obtain ⟨o', ho'⟩ : ∃ o', opOf st o = o' := ⟨_, rfl⟩
  go_upto_if 13 with (fail)
  go_cut [] (fun wx => Blk wx w.heap.size 257 #[.int .i64 o'.kind, .string (str o'.fr), .string (str o'.to), .int .i64 o'.f.mode, .slice dA o'.f.data.length dc, .int .i64 o'.f.time] ∧ o'.f.data = o.f.data ∧ Blk wx b 140 (fsC { st with time := t + 1 } x) ∧ Only (fun k => k = b) w wx)
  case first =>
    by_cases h1 : q = 1
    · subst h1
      have ho2 := opOf_yes (st := st) HQ.out
      rw [HT.out] at ho2
      rw [ho'] at ho2
      have HO2 := Lib.hid ho2
      clear ho2 ho'
      go_wp2_with fail
      go_meet
      rw [HO2.out]
      refine ⟨?_, rfl, HW1.out.far (fun e => hne e.symm) _, Only.set_ (M := fun k => k = b) (g := w.heap.size) (i := 5) HO1.out (.inr (Nat.le_refl _)) _⟩
      exact HBOX1.out.set_ 5 _
    · have e1 : (q == 1) = false := by rw [beq_eq_false_iff_ne]; exact h1
      have ho2 := opOf_no (st := st) (o := o) (by rw [HQ.out]; exact h1)
      rw [ho'] at ho2
      have HO2 := Lib.hid ho2
      clear ho2 ho' h1
      go_wp2_with fail
      go_meet
      rw [HO2.out]
      exact ⟨HBOX1.out, rfl, HW1.out, HO1.out⟩
  case rest =>
    obtain ⟨wo, hwo⟩ : ∃ wo, wo = wc := ⟨_, rfl⟩
    subst hwo
    obtain ⟨hbox, hdat, hblk, ho⟩ := hcut
    have hFb : ∀ k, F k → ¬ (k = b) := fun k hk e => HX.out.self (by rw [← e]; exact hk)
    have HNOW := Lib.hid (HX.out.now.only ho hFb)
    have hdt : By F wo (.slice dA o'.f.data.length dc) o'.f.data := by rw [hdat]; exact HD.out.only ho hFb
    have HDT := Lib.hid hdt
    have HFC : Hid (∀ k, F k → k < wo.heap.size) := fun k hk => Nat.lt_of_lt_of_le (HX.out.low k hk) ho.size
    have HS : Hid (∀ W, Below wo.heap.size wo W → W.cell? ⟨b, 1, none⟩ = some x.now ∧ W.cell? ⟨w.heap.size, 0, none⟩ = some (.int .i64 o'.kind) ∧ W.cell? ⟨w.heap.size, 1, none⟩ = some (.string (str o'.fr)) ∧ W.cell? ⟨w.heap.size, 2, none⟩ = some (.string (str o'.to)) ∧ W.cell? ⟨w.heap.size, 3, none⟩ = some (.int .i64 o'.f.mode) ∧ W.cell? ⟨w.heap.size, 4, none⟩ = some (.slice dA o'.f.data.length dc) ∧ W.cell? ⟨w.heap.size, 5, none⟩ = some (.int .i64 o'.f.time)) := fun W hW => by
      have b1 := hblk.below hW hblk.lt
      have b2 := hbox.below hW hbox.lt
      exact ⟨b1.cell 1, b2.cell 0, b2.cell 1, b2.cell 2, b2.cell 3, b2.cell 4, b2.cell 5⟩
    have hblt2 : b < wo.heap.size := hblk.lt
    have HOC := Lib.hid ho
    have HBLKC := Lib.hid hblk
    have HBOXC := Lib.hid hbox
    have HDAT := Lib.hid hdat
    have HO' := Lib.hid ho'
    have HWO : Hid (w.heap.size ≤ wo.heap.size) := ho.size
    have HX0 := Lib.hid (Below.refl wo.heap.size wo)
    have hcz := ho.size
    clear ho hblk hbox hdt hdat ho' hFb k0 k6 k5c k5f HW1 HBOX1 HO1
    go_upto_region 4 with (fail)
    go_cut [] (fun wx => ∃ v', RowsIn (fun k => F k ∨ (wo.heap.size ≤ k ∧ k < wx.heap.size)) wx v' (applyM st.now o') ∧ Blk wx b 140 (fsC { st with time := t + 1 } { x with now := v' }) ∧ Blk wx w.heap.size 257 #[.int .i64 o'.kind, .string (str o'.fr), .string (str o'.to), .int .i64 o'.f.mode, .slice dA o'.f.data.length dc, .int .i64 o'.f.time] ∧ Only (fun k => k = b) w wx)
    case first =>
      obtain ⟨p0, p1, p2, p3, p4, p5, p6⟩ := HS.out _ HX0.out
      go_region_with ((go_at_call 170; refine (rapply_any F _ st.now o' (.slice dA o'.f.data.length dc) _ (by exact HNOW.out) HN.out (by exact HDT.out) (by exact HFC.out)).mono ?_; rintro e w2 ⟨v2, rfl, hi2, hb2⟩; obtain ⟨A2, c2, rfl, g1, g2⟩ := hi2.slice; clear g1 g2; have hb2' : Below wo.heap.size wo w2 := ⟨hb2.os, hb2.tape, hb2.output, hb2.size, hb2.block⟩; have HB2 := Lib.hid hb2'; have HI2 := Lib.hid hi2; have hblk2 := HBLKC.out.below hb2' hblt2; have q1 : w2.cell? ⟨b, 1, none⟩ = some x.now := hblk2.cell 1; have q2 : w2.frozen? ⟨b, 1, none⟩ = false := hblk2.frozen 1; have HK2 := Lib.hid hblk2; clear hi2 hb2 hb2' hblk2))
      all_goals
        have hu : RowsIn (fun k => F k ∨ (wo.heap.size ≤ k ∧ k < w2.heap.size)) w2 (.slice A2 (applyM st.now o').length c2) (applyM st.now o') := HI2.out.mono (fun k hk hf => hf.imp id (fun h => ⟨h, hk⟩))
        have HU := Lib.hid (hu.only (Only.set_ (M := fun k => k = b) (g := b) (i := 1) (Only.refl _ w2) (.inl rfl) (.slice A2 (applyM st.now o').length c2)) (fun k hk e => by
          rcases hk with hk | hk
          · exact HX.out.self (by rw [← e]; exact hk)
          · omega))
        clear hu
        go_wp2_with fail
        go_meet
        refine ⟨_, ?_, HK2.out.set_ 1 _, ((HBOXC.out.below HB2.out HBOXC.out.lt).far hne _), ?_⟩
        · simpa using HU.out
        · exact Only.set_ (M := fun k => k = b) (g := b) (i := 1) (HOC.out.then_below HB2.out) (.inl rfl) _
    case rest =>
      obtain ⟨v', hnow', hblk', hbox', ho'⟩ := hcut
      go_upto_region 5 with (fail)
      have hFb : ∀ k, F k → ¬ (k = b) := fun k hk e => HX.out.self (by rw [← e]; exact hk)
      have hpn : ∀ k, x.pending.ownBlock = some k → ¬ (k = b) := fun k hk e => HX.out.p_ne (by rw [hk, e])
      have hpend := HX.out.pending.only ho' hFb hpn
      have HBLKP := Lib.hid hblk'
      have HBOXP := Lib.hid hbox'
      have HNOWP := Lib.hid hnow'
      have HOP := Lib.hid ho'
      have HPEND := Lib.hid hpend
      have p3 : wc.cell? ⟨b, 3, none⟩ = some x.pending := hblk'.cell 3
      have p3f : wc.frozen? ⟨b, 3, none⟩ = false := hblk'.frozen 3
      obtain ⟨r0, r1, r2, r3, r4, r5⟩ : wc.cell? ⟨w.heap.size, 0, none⟩ = some (.int .i64 o'.kind) ∧ wc.cell? ⟨w.heap.size, 1, none⟩ = some (.string (str o'.fr)) ∧ wc.cell? ⟨w.heap.size, 2, none⟩ = some (.string (str o'.to)) ∧ wc.cell? ⟨w.heap.size, 3, none⟩ = some (.int .i64 o'.f.mode) ∧ wc.cell? ⟨w.heap.size, 4, none⟩ = some (.slice dA o'.f.data.length dc) ∧ wc.cell? ⟨w.heap.size, 5, none⟩ = some (.int .i64 o'.f.time) := ⟨hbox'.cell 0, hbox'.cell 1, hbox'.cell 2, hbox'.cell 3, hbox'.cell 4, hbox'.cell 5⟩
      clear hnow' hblk' hbox' ho' hFb hpn hpend
      have hdt2 : By F wc (.slice dA o'.f.data.length dc) o'.f.data := by rw [HDAT.out]; exact HD.out.only HOP.out (fun k hk e => HX.out.self (by rw [← e]; exact hk))
      have HPA := Lib.hid (HPEND.out.alloc (.cells #[.int .i64 o'.kind, .string (str o'.fr), .string (str o'.to), .int .i64 o'.f.mode, .slice dA o'.f.data.length dc, .int .i64 o'.f.time] 257))
      have HPD := Lib.hid (HPEND.out.drew.alloc (.cells #[.int .i64 o'.kind, .string (str o'.fr), .string (str o'.to), .int .i64 o'.f.mode, .slice dA o'.f.data.length dc, .int .i64 o'.f.time] 257))
      have HLA := Lib.hid (TmpL.one (K := opK) (F := F) (a := o') (d := .slice dA o'.f.data.length dc) (Blk.new wc 257 #[.int .i64 o'.kind, .string (str o'.fr), .string (str o'.to), .int .i64 o'.f.mode, .slice dA o'.f.data.length dc, .int .i64 o'.f.time]) rfl (hdt2.only ((Only.refl (fun _ => False) wc).alloc _) (fun _ _ => id)))
      have HLD := Lib.hid (TmpL.one (K := opK) (F := F) (a := o') (d := .slice dA o'.f.data.length dc) (Blk.new wc.drew 257 #[.int .i64 o'.kind, .string (str o'.fr), .string (str o'.to), .int .i64 o'.f.mode, .slice dA o'.f.data.length dc, .int .i64 o'.f.time]) rfl (hdt2.only (((Only.refl (fun _ => False) wc).drew).alloc _) (fun _ _ => id)))
      have HFP : Hid (∀ k, F k → k < (wc.alloc (.cells #[.int .i64 o'.kind, .string (str o'.fr), .string (str o'.to), .int .i64 o'.f.mode, .slice dA o'.f.data.length dc, .int .i64 o'.f.time] 257)).heap.size) := fun k hk => by have := HX.out.low k hk; have := HOP.out.size; simp; omega
      have s1 : Hid (st.pending.length + [o'].length ≤ 2000000) := by unfold Hid; have := HP.out; simp; omega
      clear hdt2
      have p3a : (wc.alloc (.cells #[.int .i64 o'.kind, .string (str o'.fr), .string (str o'.to), .int .i64 o'.f.mode, .slice dA o'.f.data.length dc, .int .i64 o'.f.time] 257)).cell? ⟨b, 3, none⟩ = some x.pending := (HBLKP.out.alloc _).cell 3
      go_region_law (refine step_appendL typed_op (v := x.pending) (ex := .slice (some ⟨wc.heap.size, 0, none⟩) 1 1) (l2 := [o']) rfl (.tmp 33) (.tmp 35) rfl (by first | exact HPA.out.drew | exact HPA.out | exact HPD.out) (by first | exact HLA.out.drew | exact HLA.out | exact HLD.out) (by rfl) (by rfl) s1.out (by exact Nat.zero_le _) (by exact HFP.out) ?_; intro v5 w5 ho5 hg5 hk5; obtain ⟨A5, c5, hv5, _, _⟩ := ho5.tmp.slice; subst hv5; have hb5 : Blk w5 b 140 (fsC { st with time := t + 1 } { x with now := v' }) := (HBLKP.out.alloc _).drew.grown hg5 (fun e => HX.out.p_ne e.symm); have y3 : w5.cell? ⟨b, 3, none⟩ = some x.pending := hb5.cell 3; have y3f : w5.frozen? ⟨b, 3, none⟩ = false := hb5.frozen 3; have HO5 := Lib.hid ho5; have HG5 := Lib.hid hg5; have HK5 := Lib.hid hk5; have HB5 := Lib.hid hb5; clear ho5 hg5 hk5 hb5)
      all_goals
        go_end0
        refine ⟨rfl, ?_⟩
        have := change_fin (wo := wo) HX.out HMM.out HOP.out HWO.out HNOWP.out HB5.out (((Below.refl _ _).alloc (Nat.le_refl _) _).drew) HG5.out HO5.out HK5.out
        unfold changeM
        rw [show (if o.kind = 1 then { o with f := { o.f with time := st.time + 1 } } else o) = o' from HO'.out, HT.out]
        exact this
end Go.Proofs.YtpfjlhpahmhkhaaGreat.Tx
