/- Texts put together: Gs19, Fx22, Gd0, Gd1. -/
import Derived.Test.YtalnfiegkkkkgaaGreatQr25
import Derived.Test.YtalnfiegkkkkgaaGreatQr20
/- Package fsim: List. -/
namespace Go.Proofs.YtalnfiegkkkkgaaGreat.Tx
open Go.RowKit Go.Maps Go.Proofs.YtalnfiegkkkkgaaGreat.Sh

def lisE (c : CSt) (dir : List UInt8) : Int := if bgE c = 0 then (if dir ≠ [] ∧ pathB dir = false then 6 else 0) else bgE c
def lisO (c : CSt) (dir : List UInt8) : List (List UInt8) := if lisE c dir = 0 then listC (bgC c).c.here dir else []
def LisPost (F M : Nat → Prop) (w : World) (b : Nat) (s : CSt) (n : Int) (l : List (List UInt8)) (e : Ending) (w' : World) : Prop :=
  ∃ v w1, e = .returned (.tuple #[v, .int .i64 n]) ∧ FcPost F M w b s w1 ∧ Below w1.heap.size w1 w' ∧ OwnV 9 w' w1.heap.size v ((l.map str).map sv)
set_option maxRecDepth 100000 in
set_option maxHeartbeats 3200000 in
theorem list_any (F M : Nat → Prop) (b : Nat) (c : CSt) (N : Nat) (dir : List UInt8) (w : World) (h : FcAt F w b c M) (hr : CReady c N) (hd : dir.length ≤ 900000) :
    Calls Tryz.prog 84 #[.pointer (some ⟨b, 0, none⟩), .string (str dir)] w (LisPost F M w b (bgC c).c (lisE c dir) (lisO c dir)) := by
  have H := Lib.hid h
  have HR := Lib.hid hr
  obtain ⟨be, hbe⟩ : ∃ be, bgE c = be := ⟨_, rfl⟩
  have HBE := Lib.hid hbe
  obtain ⟨rm, hrm⟩ : ∃ rm, (bgC c).room = rm := ⟨_, rfl⟩
  have HRM := Lib.hid hrm
  obtain ⟨s, hs⟩ : ∃ s, (bgC c).c = s := ⟨_, rfl⟩
  have HSS := Lib.hid hs
  have HSM := Lib.hid hr.small
  obtain ⟨tp, htp⟩ : ∃ t, pathB dir = t := ⟨_, rfl⟩
  have HTP := Lib.hid htp
  clear h hr hbe hrm hs htp
  rw [HSS.out]
  go_enter Tryz.func84, Tryz.ntmps84
  go_wp2_with fail
  refine (begin_any F M b c N _ H.out HR.out.fits HR.out.big HR.out.calls HR.out.paths).mono ?_
  rintro e w1 ⟨rfl, hpost⟩
  rw [HBE.out, HRM.out]
  rw [HSS.out] at hpost HSM
  have HP1 := Lib.hid hpost
  obtain ⟨M1, hat, hon, hsub⟩ := hpost
  have HAT := Lib.hid hat
  clear hat hon hsub
  have HLP : Hid (∀ w', Below w1.heap.size w1 w' → FcAt (grow F w w1 M1) w' b s M1) := fun w' hb => HAT.out.below hb
  have HTREE : Hid (∀ w', Below w1.heap.size w1 w' → ∃ t, w'.cell? ⟨b, 6, none⟩ = some (.pointer (some ⟨t, 0, none⟩)) ∧ Calls Tryz.prog 129 #[.pointer (some ⟨t, 0, none⟩), .string (str dir)] w' (TextsPost w' ((listC s.here dir).map str))) := fun w' hb => by
    obtain ⟨x, hX, _⟩ := HAT.out.below hb
    exact ⟨x.here, hX.blk.cell 6, tpaths_any _ x.here x.hf x.hu s.here dir w' hX.here (by have := HSM.out.here; omega) hd⟩
  by_cases hb0 : be = 0
  · subst hb0
    by_cases hde : dir = []
    · have HE : Hid (lisE c dir = 0 ∧ lisO c dir = listC s.here dir) := by
        have h1 : lisE c dir = 0 := by unfold lisE; rw [if_pos HBE.out, if_neg (fun h => h.1 hde)]
        exact ⟨h1, by unfold lisO; rw [h1, if_pos rfl, HSS.out]⟩
      obtain ⟨z2, z3⟩ := str_nil hde
      obtain ⟨t, c6, hpaths⟩ := HTREE.out w1 (Below.refl _ _)
      have HPA := Lib.hid hpaths
      clear hde hpaths
      go_wp2_with fail
      refine HPA.out.mono ?_
      rintro e w2 ⟨v, rfl, ho, hb⟩
      have HO := Lib.hid ho
      have HB := Lib.hid hb
      clear ho hb
      go_wp2_with fail
      go_ret2
      refine ⟨v, w1, by rw [HE.out.1]; rfl, HP1.out, HB.out, by rw [HE.out.2]; exact HO.out⟩
    · have HDE := Lib.hid hde
      obtain ⟨z2, z3⟩ := str_some hde
      clear hde
      go_wp2_with fail
      refine (npath_any dir _ (by omega)).mono ?_
      rintro e w2 ⟨rfl, hb2⟩
      rw [HTP.out]
      have HB2 := Lib.hid hb2
      clear hb2
      cases tp with
      | false =>
        have HE : Hid (lisE c dir = 6 ∧ lisO c dir = []) := by
          have h1 : lisE c dir = 6 := by unfold lisE; rw [if_pos HBE.out, if_pos ⟨HDE.out, HTP.out⟩]
          exact ⟨h1, by unfold lisO; rw [h1, if_neg (by decide)]⟩
        go_wp2_with fail
        go_ret2
        refine ⟨_, w1, by rw [HE.out.1]; rfl, HP1.out, HB2.out, by rw [HE.out.2]; exact OwnV.nil_ _ _⟩
      | true =>
        have HE : Hid (lisE c dir = 0 ∧ lisO c dir = listC s.here dir) := by
          have h1 : lisE c dir = 0 := by unfold lisE; rw [if_pos HBE.out, if_neg (fun h => by rw [HTP.out] at h; exact absurd h.2 (by decide))]
          exact ⟨h1, by unfold lisO; rw [h1, if_pos rfl, HSS.out]⟩
        obtain ⟨t, c6, hpaths⟩ := HTREE.out w2 HB2.out
        have HPA := Lib.hid hpaths
        clear hpaths
        go_wp2_with fail
        refine HPA.out.mono ?_
        rintro e w3 ⟨v, rfl, ho, hb⟩
        have HO := Lib.hid ho
        have HB := Lib.hid hb
        clear ho hb
        go_wp2_with fail
        go_ret2
        refine ⟨v, w1, by rw [HE.out.1]; rfl, HP1.out, HB2.out.trans (HB.out.mono HB2.out.size), by rw [HE.out.2]; exact HO.out.base HB2.out.size⟩
  · have e1 : (be == 0) = false := by rw [beq_eq_false_iff_ne]; exact hb0
    have HE : Hid (lisE c dir = be ∧ lisO c dir = []) := by
      have h1 : lisE c dir = be := by unfold lisE; rw [HBE.out, if_neg hb0]
      exact ⟨h1, by unfold lisO; rw [h1, if_neg hb0]⟩
    clear hb0
    go_wp2_with fail
    go_ret2
    refine ⟨_, w1, by rw [HE.out.1]; rfl, HP1.out, Below.refl _ _, by rw [HE.out.2]; exact OwnV.nil_ _ _⟩
end Go.Proofs.YtalnfiegkkkkgaaGreat.Tx
/- The reference's file system: Plan. -/
namespace Go.Proofs.YtalnfiegkkkkgaaGreat.Tx
open Go.RowKit Go.Proofs.YtalnfiegkkkkgaaGreat.Sh

def planR (c : Int) (l : List EvM) : List EvM := l.filter fun e => decide (c < e.at_)
def planM (st : FSM) (l : List EvM) : FSM := { st with plan := planR st.calls l }
theorem plan_yes {c : Int} {l : List EvM} {k : Nat} {e : EvM} (h : l[k]? = some e) (hb : c < e.at_) : planR c (l.take (k + 1)) = planR c (l.take k) ++ [e] := by
  obtain ⟨hl, he⟩ := List.getElem?_eq_some_iff.1 h
  unfold planR
  rw [List.take_succ_eq_append_getElem hl, List.filter_append, he]
  simp [hb]
theorem plan_no {c : Int} {l : List EvM} {k : Nat} {e : EvM} (h : l[k]? = some e) (hb : ¬ c < e.at_) : planR c (l.take (k + 1)) = planR c (l.take k) := by
  obtain ⟨hl, he⟩ := List.getElem?_eq_some_iff.1 h
  unfold planR
  rw [List.take_succ_eq_append_getElem hl, List.filter_append, he]
  simp [hb]
theorem plan_len (c : Int) (l : List EvM) (k : Nat) : (planR c (l.take k)).length ≤ k := by
  unfold planR
  exact Nat.le_trans (List.length_filter_le _ _) (by rw [List.length_take]; omega)
theorem plan_step {F : Nat → Prop} {w wa w5 : World} {b : Nat} {st : FSM} {x : FsV} {pv v5 : Value} {l : List EvM} (hX : RefX F w b st x) (hg : wa.grownBy w5 pv.ownBlock) (hna : Only (fun k => k = b) w wa) (hp : ∀ k, pv.ownBlock = some k → w.heap.size ≤ k)
    (hb : Blk w5 b 117 (fsC st { x with plan := pv })) (ho : OwnL evK 144 F w5 w.heap.size v5 l) :
    Blk (w5.setCell ⟨b, 4, none⟩ v5) b 117 (fsC st { x with plan := v5 }) ∧ OwnL evK 144 F (w5.setCell ⟨b, 4, none⟩ v5) w.heap.size v5 l ∧ Only (fun k => k = b) w (w5.setCell ⟨b, 4, none⟩ v5) := by
  have hblt := hX.blk.lt
  have o5 : Only (fun k => k = b) w w5 := hna.trans (M' := fun k => pv.ownBlock = some k) ⟨hg.os, hg.tape, hg.output, hg.size, fun k hk hn => hg.block k hk (fun e => hn e.symm)⟩ (fun k hk => .inr (hp k hk))
  have os : Only (fun k => k = b) w5 (w5.setCell ⟨b, 4, none⟩ v5) := Only.set_ (M := fun k => k = b) (g := b) (i := 4) (Only.refl _ w5) (.inl rfl) v5
  exact ⟨hb.set_ 4 v5, ho.only os (fun k hk e => hX.self (by rw [← e]; exact hk)) (fun k hk e => by have := (ho.lt k hk).1; omega), Only.set_ (M := fun k => k = b) (g := b) (i := 4) o5 (.inl rfl) v5⟩
/-- What stands behind a plan that was laid, put together. -/
theorem plan_fin {F M : Nat → Prop} {w w' : World} {b : Nat} {st : FSM} {x : FsV} {pv : Value} {l : List EvM} (hX : RefX F w b st x) (hM : ∀ k, M k ↔ fsM b x k) (ob : Only (fun k => k = b) w w') (hb : Blk w' b 117 (fsC st { x with plan := pv }))
    (ho : OwnL evK 144 F w' w.heap.size pv l) : FsPost F M w b { st with plan := l } w' := by
  have hFb : ∀ k, F k → ¬ (k = b) := fun k hk e => hX.self (by rw [← e]; exact hk)
  have hun : ∀ k, x.user.ownBlock = some k → ¬ (k = b) := fun k hk e => hX.u_ne (by rw [hk, e])
  have hpn : ∀ k, x.pending.ownBlock = some k → ¬ (k = b) := fun k hk e => hX.p_ne (by rw [hk, e])
  refine fs_fin (x' := { x with plan := pv }) hX hM (ob.more (fun k _ h => .inl h)) (fun k h => .inl h) hb ((hX.now.only ob hFb).mono (fun k _ hk => .inl hk)) ((hX.sure.only ob hFb).mono (fun k _ hk => .inl hk)) ((hX.pending.only ob hFb hpn).toG (fun k _ hk => .inl hk) (fun k hk => .inr (.inl hk)) hX.pending.2) ?_ ((hX.user.only ob hFb hun).toG (fun k _ hk => .inl hk) (fun k hk => .inr (.inr hk)) hX.user.2)
  refine ho.rin.mono (fun k hk hf => ?_)
  rcases hf with hf | hf
  · exact .inl hf
  · exact .inr ⟨hf.1, hk, fun hm => by have := hX.lt k hm; omega⟩

set_option maxRecDepth 100000 in
set_option maxHeartbeats 6400000 in
theorem rplan_any (F M : Nat → Prop) (b : Nat) (st : FSM) (lv : Value) (l : List EvM) (w : World) (h : RefAt F w b st M) (hl : InL evK F w lv l) (hn : l.length ≤ 1000000) :
    Calls Tryz.prog 91 #[.pointer (some ⟨b, 0, none⟩), lv] w fun e w' => e = .returned (.tuple #[]) ∧ FsPost F M w b (planM st l) w' := by
  obtain ⟨x, hX, hM⟩ := h
  have HX := Lib.hid hX
  have HMM := Lib.hid hM
  have HL := Lib.hid hl
  have hblt := hX.blk.lt
  have c4 : w.cell? ⟨b, 4, none⟩ = some x.plan := hX.blk.cell 4
  have c4f : w.frozen? ⟨b, 4, none⟩ = false := hX.blk.frozen 4
  obtain ⟨LA, lc, hLA, hl1, hl2⟩ := hl.tmp.slice
  obtain ⟨ln, hln⟩ : ∃ ln, l.length = ln := ⟨_, rfl⟩
  have hLA' : lv = .slice LA ln lc := by rw [← hln]; exact hLA
  have hl1' : ln ≤ lc := by rw [← hln]; exact hl1
  subst hLA'
  rw [hln] at hn
  unfold maxLen at hl2
  have HLN := Lib.hid hln
  obtain ⟨cl, hcl⟩ : ∃ cl, st.calls = cl := ⟨_, rfl⟩
  have HCL := Lib.hid hcl
  have HFb : Hid (∀ k, F k → ¬ (k = b)) := fun k hk e => hX.self (by rw [← e]; exact hk)
  have HK0 : Hid (Blk (w.setCell ⟨b, 4, none⟩ (.slice none 0 0)) b 117 (fsC st { x with plan := .slice none 0 0 })) := hX.blk.set_ 4 (.slice none 0 0)
  have HO0 : Hid (Only (fun k => k = b) w (w.setCell ⟨b, 4, none⟩ (.slice none 0 0))) := Only.set_ (M := fun k => k = b) (g := b) (i := 4) (Only.refl _ w) (.inl rfl) _
  clear hX hM hl hLA hl1 hln hcl
  go_enter Tryz.func91, Tryz.ntmps91
  go_wp2_with fail
  generalize w.setCell ⟨b, 4, none⟩ (.slice none 0 0) = w0 at *
  go_loopw [4] (fun i wr => ∃ (k : Nat) (pv : Value), k ≤ ln ∧ i = .int .i64 k ∧ Blk wr b 117 (fsC st { x with plan := pv }) ∧ OwnL evK 144 F wr w.heap.size pv (planR cl (l.take k)) ∧ Only (fun k => k = b) w wr) (fun i _ => ln - (intOf i).toNat)
  case atStart => exact ⟨0, _, Nat.zero_le _, rfl, HK0.out, OwnL.nil_ _ _ _ _ _, HO0.out⟩
  case round =>
    obtain ⟨k, pv, hk, rfl, hb, ho, hon⟩ := hrel
    have HB := Lib.hid hb
    have HO := Lib.hid ho
    have HON := Lib.hid hon
    have k0 : (0 : Int) ≤ (k : Int) := by omega
    by_cases hlt : k < ln
    · have k1 : (k : Int) < (ln : Int) := by omega
      obtain ⟨e, he⟩ : ∃ e, l[k]? = some e := ⟨_, List.getElem?_eq_getElem (by rw [HLN.out]; omega)⟩
      have hev : EvsTmp F wr (.slice LA ln lc) l := (HL.out.only hon HFb.out).tmp
      obtain ⟨ad, dA, dc, rfl, hby, x0, x1, x2, x3, x4, x5, x6⟩ := ev_cells hev k e he
      have y5 : wr.cell? ⟨b, 5, none⟩ = some (.int .i64 cl) := by rw [← HCL.out]; exact hb.cell 5
      have y4 : wr.cell? ⟨b, 4, none⟩ = some pv := hb.cell 4
      have y4f : wr.frozen? ⟨b, 4, none⟩ = false := hb.frozen 4
      have HE := Lib.hid he
      have HBY := Lib.hid hby
      clear he hev hby hb ho hon
      by_cases hgt : cl < e.at_
      · have HNX := Lib.hid (plan_yes HE.out hgt)
        go_upto_region 4 with (fail)
        go_quiet (fail)
        obtain ⟨wq, hwq⟩ : ∃ wq, wq = wr.drewN nq := ⟨_, rfl⟩
        rw [← hwq]
        have hbq : Blk wq b 117 (fsC st { x with plan := pv }) := by rw [hwq]; exact HB.out
        have hoq : OwnL evK 144 F wq w.heap.size pv (planR cl (l.take k)) := by rw [hwq]; exact HO.out
        have hnq : Only (fun k => k = b) w wq := by rw [hwq]; exact HON.out.drewN _
        have hevq : EvsTmp F wq (.slice (some ad) ln lc) l := (HL.out.only hnq HFb.out).tmp
        clear hwq x0 x1 x2 x3 x4 x5 x6 y4 y4f y5 HBY
        clear dA dc
        obtain ⟨ad', dA, dc, hA', hyq, x0, x1, x2, x3, x4, x5, x6⟩ := ev_cells hevq k e HE.out
        injection hA' with hA'
        subst hA'
        have y4 : wq.cell? ⟨b, 4, none⟩ = some pv := hbq.cell 4
        have y4f : wq.frozen? ⟨b, 4, none⟩ = false := hbq.frozen 4
        have y4a : (wq.alloc (.cells #[.int .i64 e.at_, .int .i64 e.kind, .int .i64 e.mode, .int .i64 e.keep, .int .i64 e.torn, .string (str e.path), .slice dA e.data.length dc] 144)).cell? ⟨b, 4, none⟩ = some pv := (hbq.alloc _).cell 4
        have hz1 := hnq.size
        have hsa : wq.heap.size ≤ (wq.alloc (.cells #[.int .i64 e.at_, .int .i64 e.kind, .int .i64 e.mode, .int .i64 e.keep, .int .i64 e.torn, .string (str e.path), .slice dA e.data.length dc] 144)).heap.size := ((Below.refl wq.heap.size wq).alloc (Nat.le_refl _) _).size
        have HPA := Lib.hid (hoq.alloc (.cells #[.int .i64 e.at_, .int .i64 e.kind, .int .i64 e.mode, .int .i64 e.keep, .int .i64 e.torn, .string (str e.path), .slice dA e.data.length dc] 144))
        have HLA := Lib.hid (TmpL.one (K := evK) (F := F) (a := e) (d := .slice dA e.data.length dc) (Blk.new wq 144 #[.int .i64 e.at_, .int .i64 e.kind, .int .i64 e.mode, .int .i64 e.keep, .int .i64 e.torn, .string (str e.path), .slice dA e.data.length dc]) rfl (hyq.only ((Only.refl (fun _ => False) wq).alloc _) (fun _ _ => id)))
        have HFP : Hid (∀ k, F k → k < (wq.alloc (.cells #[.int .i64 e.at_, .int .i64 e.kind, .int .i64 e.mode, .int .i64 e.keep, .int .i64 e.torn, .string (str e.path), .slice dA e.data.length dc] 144)).heap.size) := fun k hk => by have := HX.out.low k hk; omega
        have HSZ : Hid (w.heap.size ≤ (wq.alloc (.cells #[.int .i64 e.at_, .int .i64 e.kind, .int .i64 e.mode, .int .i64 e.keep, .int .i64 e.torn, .string (str e.path), .slice dA e.data.length dc] 144)).heap.size) := Nat.le_trans hz1 hsa
        have s1 : Hid (List.length (α := evK.α) (planR cl (l.take k)) + List.length (α := evK.α) [e] ≤ 2000000) := by
          have h9 := plan_len cl l k
          show (planR cl (l.take k)).length + 1 ≤ 2000000
          omega
        have HBA := Lib.hid (hbq.alloc (.cells #[.int .i64 e.at_, .int .i64 e.kind, .int .i64 e.mode, .int .i64 e.keep, .int .i64 e.torn, .string (str e.path), .slice dA e.data.length dc] 144))
        have HBQ := Lib.hid hbq
        have HNQ := Lib.hid hnq
        have HPNE : Hid (∀ k, pv.ownBlock = some k → w.heap.size ≤ k) := fun k hk => (hoq.lt k hk).1
        clear hbq hoq hnq hevq hyq hsa
        go_wp2_with fail
        go_region_law (refine step_appendL typed_ev (v := pv) (ex := .slice (some ⟨wq.heap.size, 0, none⟩) 1 1) (l2 := [e]) rfl (.tmp 28) (.tmp 33) rfl (by first | exact HPA.out.drew | exact HPA.out) (by first | exact HLA.out.drew | exact HLA.out) (by rfl) (by rfl) s1.out (by exact HSZ.out) (by exact HFP.out) ?_; intro v5 w5 ho5 hg5 hk5; obtain ⟨A5, c5, hv5, _, _⟩ := ho5.tmp.slice; subst hv5; have hb5 : Blk w5 b 117 (fsC st { x with plan := pv }) := HBA.out.drew.grown hg5 (fun e => by have := HPNE.out b e.symm; omega); have z4 : w5.cell? ⟨b, 4, none⟩ = some pv := hb5.cell 4; have z4f : w5.frozen? ⟨b, 4, none⟩ = false := hb5.frozen 4; have HO5 := Lib.hid ho5; have HG5 := Lib.hid hg5; have HK5 := Lib.hid hk5; have HB5 := Lib.hid hb5; clear ho5 hg5 hk5 hb5)
        all_goals
          have hst := plan_step HX.out HG5.out (by first | exact HNQ.out.alloc _ | exact (HNQ.out.alloc _).drew | exact HNQ.out.drew.alloc _) HPNE.out HB5.out HO5.out
          have HST := Lib.hid hst
          clear hst
          generalize w5.setCell ⟨b, 4, none⟩ _ = w6 at *
          go_wp2_with fail
          go_roundw
          case rel => exact ⟨k + 1, _, by omega, by go_num, HST.out.1, by rw [HNX.out]; exact HST.out.2.1, HST.out.2.2⟩
          case measure => simp [intOf]; omega
      · have HNX := Lib.hid (plan_no HE.out hgt)
        have hgt' : e.at_ ≤ cl := by omega
        clear hgt
        go_upto_region 4 with (fail)
        go_quiet (fail)
        go_wp2_with fail
        go_roundw
        case rel => exact ⟨k + 1, pv, by omega, by go_num, HB.out.drewN _, by rw [HNX.out]; exact HO.out, HON.out.drewN _⟩
        case measure => simp [intOf]; omega
    · obtain rfl : k = ln := by omega
      go_wp2
      go_end0
      refine ⟨rfl, ?_⟩
      have h1 := HO.out
      rw [← HLN.out, List.take_length] at h1
      unfold planM
      rw [show planR st.calls l = planR cl l by rw [HCL.out]]
      exact plan_fin HX.out HMM.out HON.out HB.out h1
end Go.Proofs.YtalnfiegkkkkgaaGreat.Tx
/- A file system of the program's beside one of the document's. -/
namespace Go.Proofs.YtalnfiegkkkkgaaGreat.Tx
open Go.RowKit Go.Maps Go.Proofs.YtalnfiegkkkkgaaGreat.Sh

theorem FcAt.mono_ {F F' M : Nat → Prop} {w : World} {b : Nat} {c : CSt} (h : FcAt F w b c M) (hF : ∀ k, F k → F' k) (hn : ∀ k, F' k → ¬ M k) (hl : ∀ k, F' k → k < w.heap.size) : FcAt F' w b c M := by
  obtain ⟨x, h1, h2⟩ := h
  exact ⟨x, h1.mono hF (fun k hk hm => hn k hk ((h2 k).2 hm)) hl, h2⟩
theorem FcAt.apart_ {F M : Nat → Prop} {w : World} {b : Nat} {c : CSt} (h : FcAt F w b c M) (k : Nat) (hk : F k) : ¬ M k := by
  obtain ⟨x, h1, h2⟩ := h
  exact fun hm => h1.self k hk ((h2 k).1 hm)
theorem RefAt.mono_ {F F' M : Nat → Prop} {w : World} {b : Nat} {st : FSM} (h : RefAt F w b st M) (hF : ∀ k, F k → F' k) (hn : ∀ k, F' k → ¬ M k) (hl : ∀ k, F' k → k < w.heap.size) : RefAt F' w b st M := by
  obtain ⟨x, h1, h2⟩ := h
  exact ⟨x, h1.mono hF (fun k hk hm => hn k hk ((h2 k).2 hm)) hl, h2⟩
theorem RefAt.apart_ {F M : Nat → Prop} {w : World} {b : Nat} {st : FSM} (h : RefAt F w b st M) (k : Nat) (hk : F k) : ¬ M k := by
  obtain ⟨x, h1, h2⟩ := h
  exact fun hm => h1.apart k hk ((h2 k).1 hm)
theorem RefAt.only {F M Z : Nat → Prop} {w w' : World} {b : Nat} {st : FSM} (h : RefAt F w b st M) (ho : Only Z w w') (hF : ∀ k, F k → ¬ Z k) (hM : ∀ k, M k → ¬ Z k) : RefAt F w' b st M := by
  obtain ⟨x, h1, h2⟩ := h
  exact ⟨x, h1.only ho hF (fun k hk => hM k ((h2 k).2 hk)), h2⟩

/-- Both stand, apart from each other. -/
structure TwoX (F : Nat → Prop) (w : World) (b : Nat) (c : CSt) (d : Nat) (st : FSM) (Mf Mx : Nat → Prop) : Prop where
  f : FcAt F w b c Mf
  x : RefAt F w d st Mx
  apart : ∀ k, Mf k → ¬ Mx k
def TwoAt (F : Nat → Prop) (w : World) (b : Nat) (c : CSt) (d : Nat) (st : FSM) (M : Nat → Prop) : Prop := ∃ Mf Mx, TwoX F w b c d st Mf Mx ∧ ∀ k, M k ↔ Mf k ∨ Mx k
def TwoPost (F M : Nat → Prop) (w : World) (b : Nat) (c : CSt) (d : Nat) (st : FSM) (w' : World) : Prop := ∃ M', TwoAt (grow F w w' M') w' b c d st M' ∧ Only M w w' ∧ ∀ k, M' k → M k ∨ w.heap.size ≤ k
section
variable {F F' M Mf Mx Z : Nat → Prop} {w w1 w2 w3 w' : World} {b d : Nat} {c c' : CSt} {st st' : FSM}
theorem TwoAt.lt (h : TwoAt F w b c d st M) (k : Nat) (hk : M k) : k < w.heap.size := by
  obtain ⟨Mf, Mx, h1, h2⟩ := h
  rcases (h2 k).1 hk with h3 | h3
  · exact h1.f.lt k h3
  · exact h1.x.mlt k h3
theorem TwoAt.low (h : TwoAt F w b c d st M) (k : Nat) (hk : F k) : k < w.heap.size := by
  obtain ⟨Mf, Mx, h1, h2⟩ := h
  exact h1.f.low k hk
theorem TwoAt.apart_ (h : TwoAt F w b c d st M) (k : Nat) (hk : F k) : ¬ M k := by
  obtain ⟨Mf, Mx, h1, h2⟩ := h
  intro hm
  rcases (h2 k).1 hm with h3 | h3
  · exact h1.f.apart_ k hk h3
  · exact h1.x.apart_ k hk h3
theorem TwoAt.mono_ (h : TwoAt F w b c d st M) (hF : ∀ k, F k → F' k) (hn : ∀ k, F' k → ¬ M k) (hl : ∀ k, F' k → k < w.heap.size) : TwoAt F' w b c d st M := by
  obtain ⟨Mf, Mx, h1, h2⟩ := h
  exact ⟨Mf, Mx, ⟨h1.f.mono_ hF (fun k hk hm => hn k hk ((h2 k).2 (.inl hm))) hl, h1.x.mono_ hF (fun k hk hm => hn k hk ((h2 k).2 (.inr hm))) hl, h1.apart⟩, h2⟩
theorem TwoAt.only (h : TwoAt F w b c d st M) (ho : Only Z w w') (hF : ∀ k, F k → ¬ Z k) (hM : ∀ k, M k → ¬ Z k) : TwoAt F w' b c d st M := by
  obtain ⟨Mf, Mx, h1, h2⟩ := h
  exact ⟨Mf, Mx, ⟨h1.f.only ho hF (fun k hk => hM k ((h2 k).2 (.inl hk))), h1.x.only ho hF (fun k hk => hM k ((h2 k).2 (.inr hk))), h1.apart⟩, h2⟩
theorem TwoAt.below (h : TwoAt F w b c d st M) (hb : Below w.heap.size w w') : TwoAt F w' b c d st M := h.only (Only.of_below (M := fun _ => False) hb) (fun _ _ => id) (fun _ _ => id)
theorem grow_lt {M' : Nat → Prop} (hF : ∀ k, F k → k < w.heap.size) (hz : w.heap.size ≤ w'.heap.size) (k : Nat) (hk : grow F w w' M' k) : k < w'.heap.size := by
  rcases hk with hk | ⟨_, h, _⟩
  · have := hF k hk; omega
  · exact h
theorem TwoPost.refl (h : TwoAt F w b c d st M) : TwoPost F M w b c d st w :=
  ⟨M, h.mono_ (fun _ hk => .inl hk) (fun k hk => grow_apart h.apart_ h.low (fun _ hk => .inl hk) k hk) (grow_lt h.low (Nat.le_refl _)), Only.refl M w, fun _ hk => .inl hk⟩
theorem TwoPost.trans {M1 : Nat → Prop} (h0 : TwoAt F w b c d st M) (h01 : Only M w w1) (hM : ∀ k, M1 k → M k ∨ w.heap.size ≤ k) (h : TwoPost (grow F w w1 M1) M1 w1 b c' d st' w2) : TwoPost F M w b c' d st' w2 := by
  obtain ⟨M2, h2, h3, h4⟩ := h
  have hM2 : ∀ k, M2 k → M k ∨ w.heap.size ≤ k := fun k hk => by
    rcases h4 k hk with h5 | h5
    · exact hM k h5
    · have := h01.size; right; omega
  exact ⟨M2, h2.mono_ (fun k hk => grow_grow h3.size h01.size h4 hk) (grow_apart h0.apart_ h0.low hM2) (grow_lt h0.low (Nat.le_trans h01.size h3.size)), h01.trans h3 hM, hM2⟩
theorem TwoPost.of_below (h0 : TwoAt F w b c d st M) (hb : Below w.heap.size w w1) (h : TwoPost F M w1 b c' d st' w2) : TwoPost F M w b c' d st' w2 := by
  obtain ⟨M2, h2, h3, h4⟩ := h
  have hz := hb.size
  have hM2 : ∀ k, M2 k → M k ∨ w.heap.size ≤ k := fun k hk => (h4 k hk).imp id (fun h => by omega)
  refine ⟨M2, h2.mono_ (fun k hk => ?_) (grow_apart h0.apart_ h0.low hM2) (grow_lt h0.low (Nat.le_trans hz h3.size)), (Only.of_below hb).trans h3 (fun _ hk => .inl hk), hM2⟩
  rcases hk with hk | ⟨g1, g2, g3⟩
  · exact .inl hk
  · exact .inr ⟨by omega, g2, g3⟩
theorem TwoPost.then_below (h0 : TwoAt F w b c d st M) (h : TwoPost F M w b c' d st' w1) (hb : Below w1.heap.size w1 w2) : TwoPost F M w b c' d st' w2 := by
  obtain ⟨M1, h1, h3, h4⟩ := h
  exact TwoPost.trans h0 h3 h4 (TwoPost.of_below h1 hb (TwoPost.refl (h1.below hb)))
/-- A call of the program's. -/
theorem TwoPost.of_f (h : TwoX F w b c d st Mf Mx) (hp : FcPost F Mf w b c' w') (hM : ∀ k, M k ↔ Mf k ∨ Mx k) : TwoPost F M w b c' d st w' := by
  obtain ⟨M1, h1, h2, h3⟩ := hp
  have hz := h2.size
  have hs : ∀ k, M1 k ∨ Mx k → M k ∨ w.heap.size ≤ k := fun k hk => by
    rcases hk with hk | hk
    · exact (h3 k hk).imp (fun h => (hM k).2 (.inl h)) id
    · exact .inl ((hM k).2 (.inr hk))
  have hap : ∀ k, F k → ¬ M k := fun k hk hm => by
    rcases (hM k).1 hm with h4 | h4
    · exact h.f.apart_ k hk h4
    · exact h.x.apart_ k hk h4
  have hga := grow_apart (w' := w') hap h.f.low hs
  have hgl := grow_lt (M' := fun k => M1 k ∨ Mx k) h.f.low hz
  refine ⟨fun k => M1 k ∨ Mx k, ⟨M1, Mx, ⟨h1.mono_ (fun k hk => ?_) (fun k hk hm => hga k hk (.inl hm)) hgl, ?_, fun k hk hx => ?_⟩, fun _ => Iff.rfl⟩, h2.more (fun k _ hk => (hM k).2 (.inl hk)), hs⟩
  · rcases hk with hk | ⟨g1, g2, g3⟩
    · exact .inl hk
    · refine .inr ⟨g1, g2, fun h => ?_⟩
      rcases h with h5 | h5
      · exact g3 h5
      · have := h.x.mlt k h5; omega
  · exact (h.x.only h2 (fun k hk => h.f.apart_ k hk) (fun k hk hf => h.apart k hf hk)).mono_ (fun _ hk => .inl hk) (fun k hk hm => hga k hk (.inr hm)) hgl
  · rcases h3 k hk with h4 | h4
    · exact h.apart k h4 hx
    · have := h.x.mlt k hx; omega
/-- A call of the document's. -/
theorem TwoPost.of_x (h : TwoX F w b c d st Mf Mx) (hp : FsPost F Mx w d st' w') (hM : ∀ k, M k ↔ Mf k ∨ Mx k) : TwoPost F M w b c d st' w' := by
  obtain ⟨M1, h1, h2, h3⟩ := hp
  have hz := h2.size
  have hs : ∀ k, Mf k ∨ M1 k → M k ∨ w.heap.size ≤ k := fun k hk => by
    rcases hk with hk | hk
    · exact .inl ((hM k).2 (.inl hk))
    · exact (h3 k hk).imp (fun h => (hM k).2 (.inr h)) id
  have hap : ∀ k, F k → ¬ M k := fun k hk hm => by
    rcases (hM k).1 hm with h4 | h4
    · exact h.f.apart_ k hk h4
    · exact h.x.apart_ k hk h4
  have hga := grow_apart (w' := w') hap h.f.low hs
  have hgl := grow_lt (M' := fun k => Mf k ∨ M1 k) h.f.low hz
  refine ⟨fun k => Mf k ∨ M1 k, ⟨Mf, M1, ⟨?_, h1.mono_ (fun k hk => ?_) (fun k hk hm => hga k hk (.inr hm)) hgl, fun k hk hx => ?_⟩, fun _ => Iff.rfl⟩, h2.more (fun k _ hk => (hM k).2 (.inr hk)), hs⟩
  · exact (h.f.only h2 (fun k hk => h.x.apart_ k hk) (fun k hk hx => h.apart k hk hx)).mono_ (fun _ hk => .inl hk) (fun k hk hm => hga k hk (.inl hm)) hgl
  · rcases hk with hk | ⟨g1, g2, g3⟩
    · exact .inl hk
    · refine .inr ⟨g1, g2, fun h => ?_⟩
      rcases h with h5 | h5
      · have := h.f.lt k h5; omega
      · exact g3 h5
  · rcases h3 k hx with h4 | h4
    · exact h.apart k hk h4
    · have := h.f.lt k hk; omega
/-- One's own copy, made ahead of the calls, may be written behind them. -/
theorem TwoPost.around (h0 : TwoAt F w b c d st M) (hb : Below w.heap.size w w1) (h : TwoPost F M w1 b c' d st' w2) (ho : Only Z w2 w3) (hZ : ∀ k, Z k → w.heap.size ≤ k ∧ k < w1.heap.size) : TwoPost F M w b c' d st' w3 := by
  obtain ⟨M2, h2, h3, h4⟩ := h
  have hz := hb.size
  have hz2 := h3.size
  have hz3 := ho.size
  have hM2 : ∀ k, M2 k → M k ∨ w.heap.size ≤ k := fun k hk => (h4 k hk).imp id (fun h => by omega)
  refine ⟨M2, (h2.only ho (fun k hk hzk => ?_) (fun k hk hzk => ?_)).mono_ (fun k hk => ?_) (grow_apart h0.apart_ h0.low hM2) (grow_lt h0.low (by omega)), ?_, hM2⟩
  · obtain ⟨e1, e2⟩ := hZ k hzk
    rcases hk with hk | ⟨g1, _, _⟩
    · have := h0.low k hk; omega
    · omega
  · obtain ⟨e1, e2⟩ := hZ k hzk
    rcases h4 k hk with h5 | h5
    · have := h0.lt k h5; omega
    · omega
  · rcases hk with hk | ⟨g1, g2, g3⟩
    · exact .inl hk
    · exact .inr ⟨by omega, by omega, g3⟩
  · exact ((Only.of_below hb).trans h3 (fun _ hk => .inl hk)).trans ho (fun k hk => .inr (hZ k hk).1)
end
end Go.Proofs.YtalnfiegkkkkgaaGreat.Tx
/- The laws' operations, as plain data: what each does to either file system; how great it may grow; what counts. (No Go in it.) -/
namespace Go.Proofs.YtalnfiegkkkkgaaGreat.Tx

structure LOp where
  kind : Int
  mode : Int
  keep : Int
  torn : Int
  path : List UInt8
  dest : List UInt8
  data : List UInt8
  plan : List EvM
def planC (c : CSt) (l : List EvM) : CSt := { c with plan := (l.filter fun e => decide (c.calls < e.at_)).mergeSort fun a b => decide (a.at_ ≤ b.at_) }
def doesC (c : CSt) (o : LOp) : CSt :=
  if o.kind = 0 then crtC c o.path o.mode o.data true
  else if o.kind = 1 then crtC c o.path o.mode o.data false
  else if o.kind = 2 then movC c o.path o.dest false
  else if o.kind = 3 then movC c o.path o.dest true
  else if o.kind = 4 then remC c o.path
  else if o.kind = 5 then synC c
  else if o.kind = 6 then (bgC c).c
  else if o.kind = 7 then (bgC c).c
  else if o.kind = 8 then uwC c o.path o.mode o.data
  else if o.kind = 9 then urC c o.path
  else if o.kind = 10 then crC c o.keep o.torn
  else if o.kind = 11 then { c with down := false }
  else if o.kind = 12 then planC c o.plan
  else c
def doesM (s : FSM) (o : LOp) : FSM :=
  if o.kind = 0 then writeM s o.path o.mode o.data true
  else if o.kind = 1 then writeM s o.path o.mode o.data false
  else if o.kind = 2 then moveM s o.path o.dest false
  else if o.kind = 3 then moveM s o.path o.dest true
  else if o.kind = 4 then removeM s o.path
  else if o.kind = 5 then syncM s
  else if o.kind = 6 then (beginM s).st
  else if o.kind = 7 then (beginM s).st
  else if o.kind = 8 then userWM s o.path o.mode o.data
  else if o.kind = 9 then userRM s o.path
  else if o.kind = 10 then crashM s o.keep o.torn
  else if o.kind = 11 then { s with down := false }
  else if o.kind = 12 then planM s o.plan
  else s
/-- An operation that is few and small. -/
structure OpOK (o : LOp) : Prop where
  path : o.path.length ≤ 400
  dest : o.dest.length ≤ 400
  data : o.data.length ≤ 140737488351232
  plan : o.plan.length ≤ 60
  paths : ∀ e ∈ o.plan, e.path.length ≤ 400

/-- Behind i operations. -/
structure GoC (c : CSt) (i : Nat) : Prop where
  fits : CFits c (130 * i)
  calls : 0 ≤ c.calls ∧ c.calls ≤ (i : Int)
  plan : c.plan.length ≤ 60
  paths : ∀ e ∈ c.plan, e.path.length ≤ 400
theorem GoC.ready {c : CSt} {i : Nat} (h : GoC c i) (hi : i ≤ 4000) : CReady c (130 * i) :=
  ⟨h.fits, by have := h.plan; omega, ⟨h.calls.1, by have := h.calls.2; omega⟩, fun e he => Nat.le_trans (h.paths e he) (by decide)⟩
theorem GoC.next {c c' : CSt} {i k : Nat} (h : GoC c i) (hf : CFits c' (130 * i + 122)) (hc : c'.calls = c.calls ∨ c'.calls = c.calls + 1) (hp : c'.plan = c.plan.drop k) : GoC c' (i + 1) := by
  have h1 := h.calls
  refine ⟨hf.more (by omega), ?_, ?_, fun e he => h.paths e (List.mem_of_mem_drop (hp ▸ he))⟩
  · rcases hc with hc | hc
    · rw [hc]; constructor <;> omega
    · rw [hc]; constructor <;> omega
  · rw [hp]
    exact Nat.le_trans (by simp) h.plan
theorem mv_plan (c : CSt) (fr tt : List UInt8) (create : Bool) : (mvC c fr tt create).plan = c.plan ∧ (mvC c fr tt create).calls = c.calls := by
  unfold mvC
  split <;> exact ⟨rfl, rfl⟩
theorem GoC.begun {c : CSt} {i : Nat} (h : GoC c i) : CFits (bgC c).c (130 * i + 120) := by
  have h1 := bgN_le c
  have h2 := h.plan
  exact (h.fits.bg (bgN c) h1).more (by omega)
theorem bg_plan (c : CSt) : (bgC c).c.plan = c.plan.drop (bgN c) ∧ (bgC c).c.calls = c.calls + 1 := ⟨(bgK_plan c (bgN c)).1, (bgK_plan c (bgN c)).2.1⟩
theorem GoC.crt {c : CSt} {i : Nat} (h : GoC c i) (p : List UInt8) (mode : Int) (data : List UInt8) (create : Bool) : GoC (crtC c p mode data create) (i + 1) := by
  obtain ⟨e1, e2⟩ := bg_plan c
  unfold crtC
  split
  · obtain ⟨e3, e4, _⟩ := wr_plan (bgC c).c p mode data (bgC c).room create
    exact h.next ((h.begun.wr p mode data _ create).more (by omega)) (.inr (e4.trans e2)) (e3.trans e1)
  · exact h.next (h.begun.more (by omega)) (.inr e2) e1
theorem GoC.mov {c : CSt} {i : Nat} (h : GoC c i) (fr tt : List UInt8) (create : Bool) : GoC (movC c fr tt create) (i + 1) := by
  obtain ⟨e1, e2⟩ := bg_plan c
  unfold movC
  split
  · obtain ⟨e3, e4⟩ := mv_plan (bgC c).c fr tt create
    exact h.next ((h.begun.mv fr tt create).more (by omega)) (.inr (e4.trans e2)) (e3.trans e1)
  · exact h.next (h.begun.more (by omega)) (.inr e2) e1
theorem GoC.rem {c : CSt} {i : Nat} (h : GoC c i) (p : List UInt8) : GoC (remC c p) (i + 1) := by
  obtain ⟨e1, e2⟩ := bg_plan c
  unfold remC
  split
  · obtain ⟨e3, e4, _⟩ := rm_plan (bgC c).c p
    exact h.next ((h.begun.rm p).more (by omega)) (.inr (e4.trans e2)) (e3.trans e1)
  · exact h.next (h.begun.more (by omega)) (.inr e2) e1
theorem GoC.syn {c : CSt} {i : Nat} (h : GoC c i) : GoC (synC c) (i + 1) := by
  obtain ⟨e1, e2⟩ := bg_plan c
  unfold synC
  split
  · exact h.next (h.begun.settle.more (by omega)) (.inr e2) e1
  · exact h.next (h.begun.more (by omega)) (.inr e2) e1
theorem GoC.bg {c : CSt} {i : Nat} (h : GoC c i) : GoC (bgC c).c (i + 1) := by
  obtain ⟨e1, e2⟩ := bg_plan c
  exact h.next (h.begun.more (by omega)) (.inr e2) e1
theorem doesC_at {P : CSt → Prop} (c : CSt) (o : LOp)
    (h0 : o.kind = 0 → P (crtC c o.path o.mode o.data true))
    (h1 : o.kind = 1 → P (crtC c o.path o.mode o.data false))
    (h2 : o.kind = 2 → P (movC c o.path o.dest false))
    (h3 : o.kind = 3 → P (movC c o.path o.dest true))
    (h4 : o.kind = 4 → P (remC c o.path))
    (h5 : o.kind = 5 → P (synC c))
    (h6 : o.kind = 6 → P ((bgC c).c))
    (h7 : o.kind = 7 → P ((bgC c).c))
    (h8 : o.kind = 8 → P (uwC c o.path o.mode o.data))
    (h9 : o.kind = 9 → P (urC c o.path))
    (h10 : o.kind = 10 → P (crC c o.keep o.torn))
    (h11 : o.kind = 11 → P ({ c with down := false }))
    (h12 : o.kind = 12 → P (planC c o.plan))
    (hx : o.kind < 0 ∨ 12 < o.kind → P c) : P (doesC c o) := by
  unfold doesC
  by_cases e0 : o.kind = 0
  · rw [if_pos e0]; exact h0 e0
  rw [if_neg e0]
  by_cases e1 : o.kind = 1
  · rw [if_pos e1]; exact h1 e1
  rw [if_neg e1]
  by_cases e2 : o.kind = 2
  · rw [if_pos e2]; exact h2 e2
  rw [if_neg e2]
  by_cases e3 : o.kind = 3
  · rw [if_pos e3]; exact h3 e3
  rw [if_neg e3]
  by_cases e4 : o.kind = 4
  · rw [if_pos e4]; exact h4 e4
  rw [if_neg e4]
  by_cases e5 : o.kind = 5
  · rw [if_pos e5]; exact h5 e5
  rw [if_neg e5]
  by_cases e6 : o.kind = 6
  · rw [if_pos e6]; exact h6 e6
  rw [if_neg e6]
  by_cases e7 : o.kind = 7
  · rw [if_pos e7]; exact h7 e7
  rw [if_neg e7]
  by_cases e8 : o.kind = 8
  · rw [if_pos e8]; exact h8 e8
  rw [if_neg e8]
  by_cases e9 : o.kind = 9
  · rw [if_pos e9]; exact h9 e9
  rw [if_neg e9]
  by_cases e10 : o.kind = 10
  · rw [if_pos e10]; exact h10 e10
  rw [if_neg e10]
  by_cases e11 : o.kind = 11
  · rw [if_pos e11]; exact h11 e11
  rw [if_neg e11]
  by_cases e12 : o.kind = 12
  · rw [if_pos e12]; exact h12 e12
  rw [if_neg e12]
  exact hx (by omega)
theorem GoC.does {c : CSt} {i : Nat} (h : GoC c i) {o : LOp} (ho : OpOK o) : GoC (doesC c o) (i + 1) := by
  refine doesC_at (P := fun c' => GoC c' (i + 1)) c o (fun e0 => ?_) (fun e1 => ?_) (fun e2 => ?_) (fun e3 => ?_) (fun e4 => ?_) (fun e5 => ?_) (fun e6 => ?_) (fun e7 => ?_) (fun e8 => ?_) (fun e9 => ?_) (fun e10 => ?_) (fun e11 => ?_) (fun e12 => ?_) (fun _ => ?_)
  · exact h.crt _ _ _ _
  · exact h.crt _ _ _ _
  · exact h.mov _ _ _
  · exact h.mov _ _ _
  · exact h.rem _
  · exact h.syn
  · exact h.bg
  · exact h.bg
  · obtain ⟨e3, e4, _⟩ := uw_plan c o.path o.mode o.data
    exact h.next (k := 0) ((h.fits.uw _ _ _).more (by omega)) (.inl e4) (e3.trans (List.drop_zero).symm)
  · obtain ⟨e3, e4, _⟩ := ur_plan c o.path
    exact h.next (k := 0) ((h.fits.ur _).more (by omega)) (.inl e4) (e3.trans (List.drop_zero).symm)
  · obtain ⟨e3, e4, _⟩ := cr_plan c o.keep o.torn
    exact h.next (k := 0) ((h.fits.cr _ _).more (by omega)) (.inl e4) (e3.trans (List.drop_zero).symm)
  · exact h.next (k := 0) (c' := { c with down := false }) ⟨Nat.le_trans h.fits.here (by omega), Nat.le_trans h.fits.both (by omega), Nat.le_trans h.fits.users (by omega), h.fits.time0, by have := h.fits.time; show c.time ≤ _; omega, h.fits.hrow, h.fits.drow, h.fits.prow⟩ (.inl rfl) (List.drop_zero).symm
  · have h1 := h.calls
    refine ⟨(h.fits.plan _).more (by omega), ⟨h1.1, by show c.calls ≤ _; omega⟩, ?_, fun e he => ?_⟩
    · show (List.mergeSort _ _).length ≤ 60
      rw [List.length_mergeSort]
      exact Nat.le_trans (List.length_filter_le _ _) ho.plan
    · have h2 : e ∈ (o.plan.filter fun e => decide (c.calls < e.at_)).mergeSort fun a b => decide (a.at_ ≤ b.at_) := he
      rw [List.mem_mergeSort] at h2
      exact ho.paths e (List.mem_filter.1 h2).1
  · exact h.next (k := 0) (h.fits.more (by omega)) (.inl rfl) (List.drop_zero).symm
theorem GoC.new_ (room : Int) : GoC (newC room) 0 := by
  refine ⟨⟨Nat.le_refl _, Nat.le_refl _, Nat.le_refl _, Int.le_refl _, Int.le_refl _, ?_, ?_, ?_⟩, ⟨Int.le_refl _, Int.le_refl _⟩, Nat.zero_le _, ?_⟩
  all_goals exact fun r hr => by cases hr

structure GoM (s : FSM) (i : Nat) : Prop where
  fits : Fits s (130 * i)
  calls : 0 ≤ s.calls ∧ s.calls ≤ (i : Int)
  plan : s.plan.length ≤ 60
  paths : ∀ e ∈ s.plan, e.path.length ≤ 400
theorem GoM.ready {s : FSM} {i : Nat} (h : GoM s i) (hi : i ≤ 4000) : Ready s (130 * i) :=
  ⟨h.fits, by have := h.plan; omega, ⟨h.calls.1, by have := h.calls.2; omega⟩, fun e he => Nat.le_trans (h.paths e he) (by decide)⟩

/-! What counts, where nothing is planned. -/
theorem bg_none {c : CSt} (h : c.plan = []) : bgC c = bg0 c := by
  have h1 : bgN c = 0 := by unfold bgN; rw [h]; rfl
  unfold bgC
  rw [h1]
  exact bgK_zero c
structure Tick (c c' : CSt) : Prop where
  calls : c'.calls = c.calls
  plan : c'.plan = c.plan
  time : c'.time = c.time ∧ c'.pending.length = c.pending.length ∨ c'.time = c.time + 1 ∧ c'.pending.length = c.pending.length + 1
theorem Tick.refl (c : CSt) : Tick c c := ⟨rfl, rfl, .inl ⟨rfl, rfl⟩⟩
theorem Tick.do_ (c : CSt) (q : ChM) : Tick c (doC c q) := ⟨rfl, rfl, .inr ⟨rfl, by show (c.pending ++ [q]).length = _; simp⟩⟩
theorem wr_tick (c : CSt) (p : List UInt8) (mode : Int) (data : List UInt8) (room : Int) (create : Bool) : Tick c (wrC c p mode data room create) := by
  unfold wrC
  split
  · exact Tick.do_ _ _
  · exact Tick.refl _
theorem rm_tick (c : CSt) (p : List UInt8) : Tick c (rmC c p) := by
  unfold rmC
  split
  · exact Tick.do_ _ _
  · exact Tick.refl _
theorem mv_tick (c : CSt) (fr tt : List UInt8) (create : Bool) : Tick c (mvC c fr tt create) := by
  unfold mvC
  split
  · exact Tick.do_ _ _
  · exact Tick.refl _
structure Counts (c c' : CSt) (k : Int) : Prop where
  calls : c'.calls = c.calls + if k ≤ 7 then 1 else 0
  time : c.time ≤ c'.time ∧ c'.time ≤ c.time + 1
  four : k ≤ 4 → (c'.pending.length : Int) = c.pending.length + c'.time - c.time
  more : 4 < k → c'.pending.length ≤ c.pending.length
  still : 5 ≤ k → k ≤ 7 → c'.time = c.time
  plan : c'.plan = []
theorem Counts.tick {c c' : CSt} {k : Int} (hp : c.plan = []) (hk : k ≤ 4) (h : Tick (bg0 c).c c') : Counts c c' k := by
  have h1 : c'.calls = c.calls + 1 := h.calls
  have h2 : c'.time = c.time ∧ c'.pending.length = c.pending.length ∨ c'.time = c.time + 1 ∧ c'.pending.length = c.pending.length + 1 := h.time
  refine ⟨by rw [if_pos (by omega)]; exact h1, by omega, fun _ => by omega, fun _ => by omega, fun _ _ => by omega, h.plan.trans hp⟩
theorem Counts.quiet {c c' : CSt} {k : Int} (hp : c'.plan = []) (hk : 5 ≤ k ∧ k ≤ 7) (hc : c'.calls = c.calls + 1) (ht : c'.time = c.time) (hn : c'.pending.length ≤ c.pending.length) : Counts c c' k :=
  ⟨by rw [if_pos hk.2]; exact hc, by omega, fun _ => by omega, fun _ => hn, fun _ _ => ht, hp⟩
theorem Counts.user {c c' : CSt} {k : Int} (hp : c'.plan = []) (hk : 7 < k) (hc : c'.calls = c.calls) (ht : c.time ≤ c'.time ∧ c'.time ≤ c.time + 1) (hn : c'.pending.length ≤ c.pending.length) : Counts c c' k :=
  ⟨by rw [if_neg (by omega)]; omega, ht, fun _ => by omega, fun _ => hn, fun _ _ => by omega, hp⟩
theorem counts_of {c : CSt} (o : LOp) (hp : c.plan = []) (h0 : 0 ≤ o.kind) (h11 : o.kind ≤ 11) : Counts c (doesC c o) o.kind := by
  have hb := bg_none hp
  have hcrt : ∀ create, o.kind ≤ 4 → Counts c (crtC c o.path o.mode o.data create) o.kind := fun create hk => by
    refine Counts.tick hp hk ?_
    unfold crtC
    rw [hb]
    split
    · exact wr_tick _ _ _ _ _ _
    · exact Tick.refl _
  have hmov : ∀ create, o.kind ≤ 4 → Counts c (movC c o.path o.dest create) o.kind := fun create hk => by
    refine Counts.tick hp hk ?_
    unfold movC
    rw [hb]
    split
    · exact mv_tick _ _ _ _
    · exact Tick.refl _
  have hbg : 5 ≤ o.kind → o.kind ≤ 7 → Counts c (bgC c).c o.kind := fun h5 h7 => by
    rw [hb]
    exact Counts.quiet hp ⟨h5, h7⟩ rfl rfl (Nat.le_refl _)
  refine doesC_at (P := fun c' => Counts c c' o.kind) c o (fun e0 => ?_) (fun e1 => ?_) (fun e2 => ?_) (fun e3 => ?_) (fun e4 => ?_) (fun e5 => ?_) (fun e6 => ?_) (fun e7 => ?_) (fun e8 => ?_) (fun e9 => ?_) (fun e10 => ?_) (fun e11 => ?_) (fun e12 => ?_) (fun e13 => ?_)
  · exact hcrt _ (by omega)
  · exact hcrt _ (by omega)
  · exact hmov _ (by omega)
  · exact hmov _ (by omega)
  · refine Counts.tick hp (by omega) ?_
    unfold remC
    rw [hb]
    split
    · exact rm_tick _ _
    · exact Tick.refl _
  · unfold synC
    rw [hb]
    split
    · exact Counts.quiet hp ⟨by omega, by omega⟩ rfl rfl (Nat.zero_le _)
    · exact Counts.quiet hp ⟨by omega, by omega⟩ rfl rfl (Nat.le_refl _)
  · exact hbg (by omega) (by omega)
  · exact hbg (by omega) (by omega)
  · obtain ⟨e3, e4, _⟩ := uw_plan c o.path o.mode o.data
    refine Counts.user (e3.trans hp) (by omega) e4 ?_ ?_
    · unfold uwC
      split
      · have h := (wr_tick c o.path o.mode o.data 9223372036854775807 false).time
        show c.time ≤ (wrC c o.path o.mode o.data 9223372036854775807 false).time ∧ (wrC c o.path o.mode o.data 9223372036854775807 false).time ≤ c.time + 1
        omega
      · omega
    · unfold uwC
      split
      · exact Nat.zero_le _
      · exact Nat.le_refl _
  · obtain ⟨e3, e4, _⟩ := ur_plan c o.path
    refine Counts.user (e3.trans hp) (by omega) e4 ?_ ?_
    · unfold urC
      split
      · have h := (rm_tick c o.path).time
        show c.time ≤ (rmC c o.path).time ∧ (rmC c o.path).time ≤ c.time + 1
        omega
      · omega
    · unfold urC
      split
      · exact Nat.zero_le _
      · exact Nat.le_refl _
  · obtain ⟨e3, e4, _⟩ := cr_plan c o.keep o.torn
    refine Counts.user (e3.trans hp) (by omega) e4 ?_ ?_
    · unfold crC
      split
      · omega
      · show c.time ≤ c.time ∧ c.time ≤ c.time + 1; omega
    · unfold crC
      split
      · exact Nat.le_refl _
      · exact Nat.zero_le _
  · exact Counts.user hp (by omega) rfl (by show c.time ≤ c.time ∧ c.time ≤ c.time + 1; omega) (Nat.le_refl _)
  · omega
  · omega
end Go.Proofs.YtalnfiegkkkkgaaGreat.Tx
