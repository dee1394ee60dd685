/- Texts put together: WGs19, WFx22, WGd0. -/
import Derived.Test.YtpfjlhpahmhkhaaGreatQf32
import Derived.Test.YtpfjlhpahmhkhaaGreatQf25
/- Package fsim: List. -/
namespace Go.Proofs.YtpfjlhpahmhkhaaGreat.Tx
open Go.RowKit Go.Maps Go.Proofs.YtpfjlhpahmhkhaaGreat.Sh

def lisE (c : CSt) (dir : List UInt8) : Int := if bgE c = 0 then (if dir ≠ [] ∧ pathB dir = false then 6 else 0) else bgE c
def lisO (c : CSt) (dir : List UInt8) : List (List UInt8) := if lisE c dir = 0 then listC (bgC c).c.here dir else []
def LisPost (F M : Nat → Prop) (w : World) (b : Nat) (s : CSt) (n : Int) (l : List (List UInt8)) (e : Ending) (w' : World) : Prop :=
  ∃ v w1, e = .returned (.tuple #[v, .int .i64 n]) ∧ FcPost F M w b s w1 ∧ Below w1.heap.size w1 w' ∧ OwnV 9 w' w1.heap.size v ((l.map str).map sv)
set_option maxRecDepth 100000 in
set_option maxHeartbeats 3200000 in
theorem list_any (F M : Nat → Prop) (b : Nat) (c : CSt) (N : Nat) (dir : List UInt8) (w : World) (h : FcAt F w b c M) (hr : CReady c N) (hd : dir.length ≤ 900000) :
    Calls Tryz.prog 88 #[.pointer (some ⟨b, 0, none⟩), .string (str dir)] w (LisPost F M w b (bgC c).c (lisE c dir) (lisO c dir)) := by
  have H := Lib.hid h
  have HR := Lib.hid hr
  obtain ⟨be, hbe⟩ : ∃ be, bgE c = be := ⟨_, rfl⟩
  have HBE := Lib.hid hbe
  obtain ⟨rm, hrm⟩ : ∃ rm, (bgC c).room = rm := ⟨_, rfl⟩
  have HRM := Lib.hid hrm
  obtain ⟨s, hs⟩ : ∃ s, (bgC c).c = s := ⟨_, rfl⟩
  have HSS := Lib.hid hs
  have HSM := Lib.hid hr.small
  obtain ⟨tp, htp⟩ : ∃ t, pathB dir = t := ⟨_, rfl⟩
  have HTP := Lib.hid htp
  clear h hr hbe hrm hs htp
  rw [HSS.out]
  go_enter Tryz.func88, Tryz.ntmps88
  go_wp2_with fail
  refine (begin_any F M b c N _ H.out HR.out.fits HR.out.big HR.out.calls HR.out.paths).mono ?_
  rintro e w1 ⟨rfl, hpost⟩
  rw [HBE.out, HRM.out]
  rw [HSS.out] at hpost HSM
  have HP1 := Lib.hid hpost
  obtain ⟨M1, hat, hon, hsub⟩ := hpost
  have HAT := Lib.hid hat
  clear hat hon hsub
  have HLP : Hid (∀ w', Below w1.heap.size w1 w' → FcAt (grow F w w1 M1) w' b s M1) := fun w' hb => HAT.out.below hb
  have HTREE : Hid (∀ w', Below w1.heap.size w1 w' → ∃ t, w'.cell? ⟨b, 6, none⟩ = some (.pointer (some ⟨t, 0, none⟩)) ∧ Calls Tryz.prog 169 #[.pointer (some ⟨t, 0, none⟩), .string (str dir)] w' (TextsPost w' ((listC s.here dir).map str))) := fun w' hb => by
    obtain ⟨x, hX, _⟩ := HAT.out.below hb
    exact ⟨x.here, hX.blk.cell 6, tpaths_any _ x.here x.hf x.hu s.here dir w' hX.here (by have := HSM.out.here; omega) hd⟩
  by_cases hb0 : be = 0
  · subst hb0
    by_cases hde : dir = []
    · have HE : Hid (lisE c dir = 0 ∧ lisO c dir = listC s.here dir) := by
        have h1 : lisE c dir = 0 := by unfold lisE; rw [if_pos HBE.out, if_neg (fun h => h.1 hde)]
        exact ⟨h1, by unfold lisO; rw [h1, if_pos rfl, HSS.out]⟩
      obtain ⟨z2, z3⟩ := str_nil hde
      obtain ⟨t, c6, hpaths⟩ := HTREE.out w1 (Below.refl _ _)
      have HPA := Lib.hid hpaths
      clear hde hpaths
      go_wp2_with fail
      refine HPA.out.mono ?_
      rintro e w2 ⟨v, rfl, ho, hb⟩
      have HO := Lib.hid ho
      have HB := Lib.hid hb
      clear ho hb
      go_wp2_with fail
      go_ret2
      refine ⟨v, w1, by rw [HE.out.1]; rfl, HP1.out, HB.out, by rw [HE.out.2]; exact HO.out⟩
    · have HDE := Lib.hid hde
      obtain ⟨z2, z3⟩ := str_some hde
      clear hde
      go_wp2_with fail
      refine (npath_any dir _ (by omega)).mono ?_
      rintro e w2 ⟨rfl, hb2⟩
      rw [HTP.out]
      have HB2 := Lib.hid hb2
      clear hb2
      cases tp with
      | false =>
        have HE : Hid (lisE c dir = 6 ∧ lisO c dir = []) := by
          have h1 : lisE c dir = 6 := by unfold lisE; rw [if_pos HBE.out, if_pos ⟨HDE.out, HTP.out⟩]
          exact ⟨h1, by unfold lisO; rw [h1, if_neg (by decide)]⟩
        go_wp2_with fail
        go_ret2
        refine ⟨_, w1, by rw [HE.out.1]; rfl, HP1.out, HB2.out, by rw [HE.out.2]; exact OwnV.nil_ _ _⟩
      | true =>
        have HE : Hid (lisE c dir = 0 ∧ lisO c dir = listC s.here dir) := by
          have h1 : lisE c dir = 0 := by unfold lisE; rw [if_pos HBE.out, if_neg (fun h => by rw [HTP.out] at h; exact absurd h.2 (by decide))]
          exact ⟨h1, by unfold lisO; rw [h1, if_pos rfl, HSS.out]⟩
        obtain ⟨t, c6, hpaths⟩ := HTREE.out w2 HB2.out
        have HPA := Lib.hid hpaths
        clear hpaths
        go_wp2_with fail
        refine HPA.out.mono ?_
        rintro e w3 ⟨v, rfl, ho, hb⟩
        have HO := Lib.hid ho
        have HB := Lib.hid hb
        clear ho hb
        go_wp2_with fail
        go_ret2
        refine ⟨v, w1, by rw [HE.out.1]; rfl, HP1.out, HB2.out.trans (HB.out.mono HB2.out.size), by rw [HE.out.2]; exact HO.out.base HB2.out.size⟩
  · have e1 : (be == 0) = false := by rw [beq_eq_false_iff_ne]; exact hb0
    have HE : Hid (lisE c dir = be ∧ lisO c dir = []) := by
      have h1 : lisE c dir = be := by unfold lisE; rw [HBE.out, if_neg hb0]
      exact ⟨h1, by unfold lisO; rw [h1, if_neg hb0]⟩
    clear hb0
    go_wp2_with fail
    go_ret2
    refine ⟨_, w1, by rw [HE.out.1]; rfl, HP1.out, Below.refl _ _, by rw [HE.out.2]; exact OwnV.nil_ _ _⟩
end Go.Proofs.YtpfjlhpahmhkhaaGreat.Tx
/- The reference's file system: Plan. -/
namespace Go.Proofs.YtpfjlhpahmhkhaaGreat.Tx
open Go.RowKit Go.Proofs.YtpfjlhpahmhkhaaGreat.Sh

def planR (c : Int) (l : List EvM) : List EvM := l.filter fun e => decide (c < e.at_)
def planM (st : FSM) (l : List EvM) : FSM := { st with plan := planR st.calls l }
theorem plan_yes {c : Int} {l : List EvM} {k : Nat} {e : EvM} (h : l[k]? = some e) (hb : c < e.at_) : planR c (l.take (k + 1)) = planR c (l.take k) ++ [e] := by
  obtain ⟨hl, he⟩ := List.getElem?_eq_some_iff.1 h
  unfold planR
  rw [List.take_succ_eq_append_getElem hl, List.filter_append, he]
  simp [hb]
theorem plan_no {c : Int} {l : List EvM} {k : Nat} {e : EvM} (h : l[k]? = some e) (hb : ¬ c < e.at_) : planR c (l.take (k + 1)) = planR c (l.take k) := by
  obtain ⟨hl, he⟩ := List.getElem?_eq_some_iff.1 h
  unfold planR
  rw [List.take_succ_eq_append_getElem hl, List.filter_append, he]
  simp [hb]
theorem plan_len (c : Int) (l : List EvM) (k : Nat) : (planR c (l.take k)).length ≤ k := by
  unfold planR
  exact Nat.le_trans (List.length_filter_le _ _) (by rw [List.length_take]; omega)
theorem plan_step {F : Nat → Prop} {w wa w5 : World} {b : Nat} {st : FSM} {x : FsV} {pv v5 : Value} {l : List EvM} (hX : RefX F w b st x) (hg : wa.grownBy w5 pv.ownBlock) (hna : Only (fun k => k = b) w wa) (hp : ∀ k, pv.ownBlock = some k → w.heap.size ≤ k)
    (hb : Blk w5 b 140 (fsC st { x with plan := pv })) (ho : OwnL evK 169 F w5 w.heap.size v5 l) :
    Blk (w5.setCell ⟨b, 4, none⟩ v5) b 140 (fsC st { x with plan := v5 }) ∧ OwnL evK 169 F (w5.setCell ⟨b, 4, none⟩ v5) w.heap.size v5 l ∧ Only (fun k => k = b) w (w5.setCell ⟨b, 4, none⟩ v5) := by
  have hblt := hX.blk.lt
  have o5 : Only (fun k => k = b) w w5 := hna.trans (M' := fun k => pv.ownBlock = some k) ⟨hg.os, hg.tape, hg.output, hg.size, fun k hk hn => hg.block k hk (fun e => hn e.symm)⟩ (fun k hk => .inr (hp k hk))
  have os : Only (fun k => k = b) w5 (w5.setCell ⟨b, 4, none⟩ v5) := Only.set_ (M := fun k => k = b) (g := b) (i := 4) (Only.refl _ w5) (.inl rfl) v5
  exact ⟨hb.set_ 4 v5, ho.only os (fun k hk e => hX.self (by rw [← e]; exact hk)) (fun k hk e => by have := (ho.lt k hk).1; omega), Only.set_ (M := fun k => k = b) (g := b) (i := 4) o5 (.inl rfl) v5⟩
/-- What stands behind a plan that was laid, put together. -/
theorem plan_fin {F M : Nat → Prop} {w w' : World} {b : Nat} {st : FSM} {x : FsV} {pv : Value} {l : List EvM} (hX : RefX F w b st x) (hM : ∀ k, M k ↔ fsM b x k) (ob : Only (fun k => k = b) w w') (hb : Blk w' b 140 (fsC st { x with plan := pv }))
    (ho : OwnL evK 169 F w' w.heap.size pv l) : FsPost F M w b { st with plan := l } w' := by
  have hFb : ∀ k, F k → ¬ (k = b) := fun k hk e => hX.self (by rw [← e]; exact hk)
  have hun : ∀ k, x.user.ownBlock = some k → ¬ (k = b) := fun k hk e => hX.u_ne (by rw [hk, e])
  have hpn : ∀ k, x.pending.ownBlock = some k → ¬ (k = b) := fun k hk e => hX.p_ne (by rw [hk, e])
  refine fs_fin (x' := { x with plan := pv }) hX hM (ob.more (fun k _ h => .inl h)) (fun k h => .inl h) hb ((hX.now.only ob hFb).mono (fun k _ hk => .inl hk)) ((hX.sure.only ob hFb).mono (fun k _ hk => .inl hk)) ((hX.pending.only ob hFb hpn).toG (fun k _ hk => .inl hk) (fun k hk => .inr (.inl hk)) hX.pending.2) ?_ ((hX.user.only ob hFb hun).toG (fun k _ hk => .inl hk) (fun k hk => .inr (.inr hk)) hX.user.2)
  refine ho.rin.mono (fun k hk hf => ?_)
  rcases hf with hf | hf
  · exact .inl hf
  · exact .inr ⟨hf.1, hk, fun hm => by have := hX.lt k hm; omega⟩

set_option maxRecDepth 100000 in
set_option maxHeartbeats 6400000 in
theorem rplan_any (F M : Nat → Prop) (b : Nat) (st : FSM) (lv : Value) (l : List EvM) (w : World) (h : RefAt F w b st M) (hl : InL evK F w lv l) (hn : l.length ≤ 1000000) :
    Calls Tryz.prog 95 #[.pointer (some ⟨b, 0, none⟩), lv] w fun e w' => e = .returned (.tuple #[]) ∧ FsPost F M w b (planM st l) w' := by
  obtain ⟨x, hX, hM⟩ := h
  have HX := Lib.hid hX
  have HMM := Lib.hid hM
  have HL := Lib.hid hl
  have hblt := hX.blk.lt
  have c4 : w.cell? ⟨b, 4, none⟩ = some x.plan := hX.blk.cell 4
  have c4f : w.frozen? ⟨b, 4, none⟩ = false := hX.blk.frozen 4
  obtain ⟨LA, lc, hLA, hl1, hl2⟩ := hl.tmp.slice
  obtain ⟨ln, hln⟩ : ∃ ln, l.length = ln := ⟨_, rfl⟩
  have hLA' : lv = .slice LA ln lc := by rw [← hln]; exact hLA
  have hl1' : ln ≤ lc := by rw [← hln]; exact hl1
  subst hLA'
  rw [hln] at hn
  unfold maxLen at hl2
  have HLN := Lib.hid hln
  obtain ⟨cl, hcl⟩ : ∃ cl, st.calls = cl := ⟨_, rfl⟩
  have HCL := Lib.hid hcl
  have HFb : Hid (∀ k, F k → ¬ (k = b)) := fun k hk e => hX.self (by rw [← e]; exact hk)
  have HK0 : Hid (Blk (w.setCell ⟨b, 4, none⟩ (.slice none 0 0)) b 140 (fsC st { x with plan := .slice none 0 0 })) := hX.blk.set_ 4 (.slice none 0 0)
  have HO0 : Hid (Only (fun k => k = b) w (w.setCell ⟨b, 4, none⟩ (.slice none 0 0))) := Only.set_ (M := fun k => k = b) (g := b) (i := 4) (Only.refl _ w) (.inl rfl) _
  clear hX hM hl hLA hl1 hln hcl
  go_enter Tryz.func95, Tryz.ntmps95
  go_wp2_with fail
  generalize w.setCell ⟨b, 4, none⟩ (.slice none 0 0) = w0 at *
  go_loopw [4] (fun i wr => ∃ (k : Nat) (pv : Value), k ≤ ln ∧ i = .int .i64 k ∧ Blk wr b 140 (fsC st { x with plan := pv }) ∧ OwnL evK 169 F wr w.heap.size pv (planR cl (l.take k)) ∧ Only (fun k => k = b) w wr) (fun i _ => ln - (intOf i).toNat)
  case atStart => exact ⟨0, _, Nat.zero_le _, rfl, HK0.out, OwnL.nil_ _ _ _ _ _, HO0.out⟩
  case round =>
    obtain ⟨k, pv, hk, rfl, hb, ho, hon⟩ := hrel
    have HB := Lib.hid hb
    have HO := Lib.hid ho
    have HON := Lib.hid hon
    have k0 : (0 : Int) ≤ (k : Int) := by omega
    by_cases hlt : k < ln
    · have k1 : (k : Int) < (ln : Int) := by omega
      obtain ⟨e, he⟩ : ∃ e, l[k]? = some e := ⟨_, List.getElem?_eq_getElem (by rw [HLN.out]; omega)⟩
      have hev : EvsTmp F wr (.slice LA ln lc) l := (HL.out.only hon HFb.out).tmp
      obtain ⟨ad, dA, dc, rfl, hby, x0, x1, x2, x3, x4, x5, x6⟩ := ev_cells hev k e he
      have y5 : wr.cell? ⟨b, 5, none⟩ = some (.int .i64 cl) := by rw [← HCL.out]; exact hb.cell 5
      have y4 : wr.cell? ⟨b, 4, none⟩ = some pv := hb.cell 4
      have y4f : wr.frozen? ⟨b, 4, none⟩ = false := hb.frozen 4
      have HE := Lib.hid he
      have HBY := Lib.hid hby
      clear he hev hby hb ho hon
      by_cases hgt : cl < e.at_
      · have HNX := Lib.hid (plan_yes HE.out hgt)
        go_upto_region 4 with (fail)
        go_quiet (fail)
        obtain ⟨wq, hwq⟩ : ∃ wq, wq = wr.drewN nq := ⟨_, rfl⟩
        rw [← hwq]
        have hbq : Blk wq b 140 (fsC st { x with plan := pv }) := by rw [hwq]; exact HB.out
        have hoq : OwnL evK 169 F wq w.heap.size pv (planR cl (l.take k)) := by rw [hwq]; exact HO.out
        have hnq : Only (fun k => k = b) w wq := by rw [hwq]; exact HON.out.drewN _
        have hevq : EvsTmp F wq (.slice (some ad) ln lc) l := (HL.out.only hnq HFb.out).tmp
        clear hwq x0 x1 x2 x3 x4 x5 x6 y4 y4f y5 HBY
        clear dA dc
        obtain ⟨ad', dA, dc, hA', hyq, x0, x1, x2, x3, x4, x5, x6⟩ := ev_cells hevq k e HE.out
        injection hA' with hA'
        subst hA'
        have y4 : wq.cell? ⟨b, 4, none⟩ = some pv := hbq.cell 4
        have y4f : wq.frozen? ⟨b, 4, none⟩ = false := hbq.frozen 4
        have y4a : (wq.alloc (.cells #[.int .i64 e.at_, .int .i64 e.kind, .int .i64 e.mode, .int .i64 e.keep, .int .i64 e.torn, .string (str e.path), .slice dA e.data.length dc] 169)).cell? ⟨b, 4, none⟩ = some pv := (hbq.alloc _).cell 4
        have hz1 := hnq.size
        have hsa : wq.heap.size ≤ (wq.alloc (.cells #[.int .i64 e.at_, .int .i64 e.kind, .int .i64 e.mode, .int .i64 e.keep, .int .i64 e.torn, .string (str e.path), .slice dA e.data.length dc] 169)).heap.size := ((Below.refl wq.heap.size wq).alloc (Nat.le_refl _) _).size
        have HPA := Lib.hid (hoq.alloc (.cells #[.int .i64 e.at_, .int .i64 e.kind, .int .i64 e.mode, .int .i64 e.keep, .int .i64 e.torn, .string (str e.path), .slice dA e.data.length dc] 169))
        have HLA := Lib.hid (TmpL.one (K := evK) (F := F) (a := e) (d := .slice dA e.data.length dc) (Blk.new wq 169 #[.int .i64 e.at_, .int .i64 e.kind, .int .i64 e.mode, .int .i64 e.keep, .int .i64 e.torn, .string (str e.path), .slice dA e.data.length dc]) rfl (hyq.only ((Only.refl (fun _ => False) wq).alloc _) (fun _ _ => id)))
        have HFP : Hid (∀ k, F k → k < (wq.alloc (.cells #[.int .i64 e.at_, .int .i64 e.kind, .int .i64 e.mode, .int .i64 e.keep, .int .i64 e.torn, .string (str e.path), .slice dA e.data.length dc] 169)).heap.size) := fun k hk => by have := HX.out.low k hk; omega
        have HSZ : Hid (w.heap.size ≤ (wq.alloc (.cells #[.int .i64 e.at_, .int .i64 e.kind, .int .i64 e.mode, .int .i64 e.keep, .int .i64 e.torn, .string (str e.path), .slice dA e.data.length dc] 169)).heap.size) := Nat.le_trans hz1 hsa
        have s1 : Hid (List.length (α := evK.α) (planR cl (l.take k)) + List.length (α := evK.α) [e] ≤ 2000000) := by
          have h9 := plan_len cl l k
          show (planR cl (l.take k)).length + 1 ≤ 2000000
          omega
        have HBA := Lib.hid (hbq.alloc (.cells #[.int .i64 e.at_, .int .i64 e.kind, .int .i64 e.mode, .int .i64 e.keep, .int .i64 e.torn, .string (str e.path), .slice dA e.data.length dc] 169))
        have HBQ := Lib.hid hbq
        have HNQ := Lib.hid hnq
        have HPNE : Hid (∀ k, pv.ownBlock = some k → w.heap.size ≤ k) := fun k hk => (hoq.lt k hk).1
        clear hbq hoq hnq hevq hyq hsa
        go_wp2_with fail
        go_region_law (refine step_appendL typed_ev (v := pv) (ex := .slice (some ⟨wq.heap.size, 0, none⟩) 1 1) (l2 := [e]) rfl (.tmp 28) (.tmp 33) rfl (by first | exact HPA.out.drew | exact HPA.out) (by first | exact HLA.out.drew | exact HLA.out) (by rfl) (by rfl) s1.out (by exact HSZ.out) (by exact HFP.out) ?_; intro v5 w5 ho5 hg5 hk5; obtain ⟨A5, c5, hv5, _, _⟩ := ho5.tmp.slice; subst hv5; have hb5 : Blk w5 b 140 (fsC st { x with plan := pv }) := HBA.out.drew.grown hg5 (fun e => by have := HPNE.out b e.symm; omega); have z4 : w5.cell? ⟨b, 4, none⟩ = some pv := hb5.cell 4; have z4f : w5.frozen? ⟨b, 4, none⟩ = false := hb5.frozen 4; have HO5 := Lib.hid ho5; have HG5 := Lib.hid hg5; have HK5 := Lib.hid hk5; have HB5 := Lib.hid hb5; clear ho5 hg5 hk5 hb5)
        all_goals
          have hst := plan_step HX.out HG5.out (by first | exact HNQ.out.alloc _ | exact (HNQ.out.alloc _).drew | exact HNQ.out.drew.alloc _) HPNE.out HB5.out HO5.out
          have HST := Lib.hid hst
          clear hst
          generalize w5.setCell ⟨b, 4, none⟩ _ = w6 at *
          go_wp2_with fail
          go_roundw
          case rel => exact ⟨k + 1, _, by omega, by go_num, HST.out.1, by rw [HNX.out]; exact HST.out.2.1, HST.out.2.2⟩
          case measure => simp [intOf]; omega
      · have HNX := Lib.hid (plan_no HE.out hgt)
        have hgt' : e.at_ ≤ cl := by omega
        clear hgt
        go_upto_region 4 with (fail)
        go_quiet (fail)
        go_wp2_with fail
        go_roundw
        case rel => exact ⟨k + 1, pv, by omega, by go_num, HB.out.drewN _, by rw [HNX.out]; exact HO.out, HON.out.drewN _⟩
        case measure => simp [intOf]; omega
    · obtain rfl : k = ln := by omega
      go_wp2
      go_end0
      refine ⟨rfl, ?_⟩
      have h1 := HO.out
      rw [← HLN.out, List.take_length] at h1
      unfold planM
      rw [show planR st.calls l = planR cl l by rw [HCL.out]]
      exact plan_fin HX.out HMM.out HON.out HB.out h1
end Go.Proofs.YtpfjlhpahmhkhaaGreat.Tx
/- A file system of the program's beside one of the document's. -/
namespace Go.Proofs.YtpfjlhpahmhkhaaGreat.Tx
open Go.RowKit Go.Maps Go.Proofs.YtpfjlhpahmhkhaaGreat.Sh

theorem FcAt.mono_ {F F' M : Nat → Prop} {w : World} {b : Nat} {c : CSt} (h : FcAt F w b c M) (hF : ∀ k, F k → F' k) (hn : ∀ k, F' k → ¬ M k) (hl : ∀ k, F' k → k < w.heap.size) : FcAt F' w b c M := by
  obtain ⟨x, h1, h2⟩ := h
  exact ⟨x, h1.mono hF (fun k hk hm => hn k hk ((h2 k).2 hm)) hl, h2⟩
theorem FcAt.apart_ {F M : Nat → Prop} {w : World} {b : Nat} {c : CSt} (h : FcAt F w b c M) (k : Nat) (hk : F k) : ¬ M k := by
  obtain ⟨x, h1, h2⟩ := h
  exact fun hm => h1.self k hk ((h2 k).1 hm)
theorem RefAt.mono_ {F F' M : Nat → Prop} {w : World} {b : Nat} {st : FSM} (h : RefAt F w b st M) (hF : ∀ k, F k → F' k) (hn : ∀ k, F' k → ¬ M k) (hl : ∀ k, F' k → k < w.heap.size) : RefAt F' w b st M := by
  obtain ⟨x, h1, h2⟩ := h
  exact ⟨x, h1.mono hF (fun k hk hm => hn k hk ((h2 k).2 hm)) hl, h2⟩
theorem RefAt.apart_ {F M : Nat → Prop} {w : World} {b : Nat} {st : FSM} (h : RefAt F w b st M) (k : Nat) (hk : F k) : ¬ M k := by
  obtain ⟨x, h1, h2⟩ := h
  exact fun hm => h1.apart k hk ((h2 k).1 hm)
theorem RefAt.only {F M Z : Nat → Prop} {w w' : World} {b : Nat} {st : FSM} (h : RefAt F w b st M) (ho : Only Z w w') (hF : ∀ k, F k → ¬ Z k) (hM : ∀ k, M k → ¬ Z k) : RefAt F w' b st M := by
  obtain ⟨x, h1, h2⟩ := h
  exact ⟨x, h1.only ho hF (fun k hk => hM k ((h2 k).2 hk)), h2⟩

/-- Both stand, apart from each other. -/
structure TwoX (F : Nat → Prop) (w : World) (b : Nat) (c : CSt) (d : Nat) (st : FSM) (Mf Mx : Nat → Prop) : Prop where
  f : FcAt F w b c Mf
  x : RefAt F w d st Mx
  apart : ∀ k, Mf k → ¬ Mx k
def TwoAt (F : Nat → Prop) (w : World) (b : Nat) (c : CSt) (d : Nat) (st : FSM) (M : Nat → Prop) : Prop := ∃ Mf Mx, TwoX F w b c d st Mf Mx ∧ ∀ k, M k ↔ Mf k ∨ Mx k
def TwoPost (F M : Nat → Prop) (w : World) (b : Nat) (c : CSt) (d : Nat) (st : FSM) (w' : World) : Prop := ∃ M', TwoAt (grow F w w' M') w' b c d st M' ∧ Only M w w' ∧ ∀ k, M' k → M k ∨ w.heap.size ≤ k
section
variable {F F' M Mf Mx Z : Nat → Prop} {w w1 w2 w3 w' : World} {b d : Nat} {c c' : CSt} {st st' : FSM}
theorem TwoAt.lt (h : TwoAt F w b c d st M) (k : Nat) (hk : M k) : k < w.heap.size := by
  obtain ⟨Mf, Mx, h1, h2⟩ := h
  rcases (h2 k).1 hk with h3 | h3
  · exact h1.f.lt k h3
  · exact h1.x.mlt k h3
theorem TwoAt.low (h : TwoAt F w b c d st M) (k : Nat) (hk : F k) : k < w.heap.size := by
  obtain ⟨Mf, Mx, h1, h2⟩ := h
  exact h1.f.low k hk
theorem TwoAt.apart_ (h : TwoAt F w b c d st M) (k : Nat) (hk : F k) : ¬ M k := by
  obtain ⟨Mf, Mx, h1, h2⟩ := h
  intro hm
  rcases (h2 k).1 hm with h3 | h3
  · exact h1.f.apart_ k hk h3
  · exact h1.x.apart_ k hk h3
theorem TwoAt.mono_ (h : TwoAt F w b c d st M) (hF : ∀ k, F k → F' k) (hn : ∀ k, F' k → ¬ M k) (hl : ∀ k, F' k → k < w.heap.size) : TwoAt F' w b c d st M := by
  obtain ⟨Mf, Mx, h1, h2⟩ := h
  exact ⟨Mf, Mx, ⟨h1.f.mono_ hF (fun k hk hm => hn k hk ((h2 k).2 (.inl hm))) hl, h1.x.mono_ hF (fun k hk hm => hn k hk ((h2 k).2 (.inr hm))) hl, h1.apart⟩, h2⟩
theorem TwoAt.only (h : TwoAt F w b c d st M) (ho : Only Z w w') (hF : ∀ k, F k → ¬ Z k) (hM : ∀ k, M k → ¬ Z k) : TwoAt F w' b c d st M := by
  obtain ⟨Mf, Mx, h1, h2⟩ := h
  exact ⟨Mf, Mx, ⟨h1.f.only ho hF (fun k hk => hM k ((h2 k).2 (.inl hk))), h1.x.only ho hF (fun k hk => hM k ((h2 k).2 (.inr hk))), h1.apart⟩, h2⟩
theorem TwoAt.below (h : TwoAt F w b c d st M) (hb : Below w.heap.size w w') : TwoAt F w' b c d st M := h.only (Only.of_below (M := fun _ => False) hb) (fun _ _ => id) (fun _ _ => id)
theorem grow_lt {M' : Nat → Prop} (hF : ∀ k, F k → k < w.heap.size) (hz : w.heap.size ≤ w'.heap.size) (k : Nat) (hk : grow F w w' M' k) : k < w'.heap.size := by
  rcases hk with hk | ⟨_, h, _⟩
  · have := hF k hk; omega
  · exact h
theorem TwoPost.refl (h : TwoAt F w b c d st M) : TwoPost F M w b c d st w :=
  ⟨M, h.mono_ (fun _ hk => .inl hk) (fun k hk => grow_apart h.apart_ h.low (fun _ hk => .inl hk) k hk) (grow_lt h.low (Nat.le_refl _)), Only.refl M w, fun _ hk => .inl hk⟩
theorem TwoPost.trans {M1 : Nat → Prop} (h0 : TwoAt F w b c d st M) (h01 : Only M w w1) (hM : ∀ k, M1 k → M k ∨ w.heap.size ≤ k) (h : TwoPost (grow F w w1 M1) M1 w1 b c' d st' w2) : TwoPost F M w b c' d st' w2 := by
  obtain ⟨M2, h2, h3, h4⟩ := h
  have hM2 : ∀ k, M2 k → M k ∨ w.heap.size ≤ k := fun k hk => by
    rcases h4 k hk with h5 | h5
    · exact hM k h5
    · have := h01.size; right; omega
  exact ⟨M2, h2.mono_ (fun k hk => grow_grow h3.size h01.size h4 hk) (grow_apart h0.apart_ h0.low hM2) (grow_lt h0.low (Nat.le_trans h01.size h3.size)), h01.trans h3 hM, hM2⟩
theorem TwoPost.of_below (h0 : TwoAt F w b c d st M) (hb : Below w.heap.size w w1) (h : TwoPost F M w1 b c' d st' w2) : TwoPost F M w b c' d st' w2 := by
  obtain ⟨M2, h2, h3, h4⟩ := h
  have hz := hb.size
  have hM2 : ∀ k, M2 k → M k ∨ w.heap.size ≤ k := fun k hk => (h4 k hk).imp id (fun h => by omega)
  refine ⟨M2, h2.mono_ (fun k hk => ?_) (grow_apart h0.apart_ h0.low hM2) (grow_lt h0.low (Nat.le_trans hz h3.size)), (Only.of_below hb).trans h3 (fun _ hk => .inl hk), hM2⟩
  rcases hk with hk | ⟨g1, g2, g3⟩
  · exact .inl hk
  · exact .inr ⟨by omega, g2, g3⟩
theorem TwoPost.then_below (h0 : TwoAt F w b c d st M) (h : TwoPost F M w b c' d st' w1) (hb : Below w1.heap.size w1 w2) : TwoPost F M w b c' d st' w2 := by
  obtain ⟨M1, h1, h3, h4⟩ := h
  exact TwoPost.trans h0 h3 h4 (TwoPost.of_below h1 hb (TwoPost.refl (h1.below hb)))
/-- A call of the program's. -/
theorem TwoPost.of_f (h : TwoX F w b c d st Mf Mx) (hp : FcPost F Mf w b c' w') (hM : ∀ k, M k ↔ Mf k ∨ Mx k) : TwoPost F M w b c' d st w' := by
  obtain ⟨M1, h1, h2, h3⟩ := hp
  have hz := h2.size
  have hs : ∀ k, M1 k ∨ Mx k → M k ∨ w.heap.size ≤ k := fun k hk => by
    rcases hk with hk | hk
    · exact (h3 k hk).imp (fun h => (hM k).2 (.inl h)) id
    · exact .inl ((hM k).2 (.inr hk))
  have hap : ∀ k, F k → ¬ M k := fun k hk hm => by
    rcases (hM k).1 hm with h4 | h4
    · exact h.f.apart_ k hk h4
    · exact h.x.apart_ k hk h4
  have hga := grow_apart (w' := w') hap h.f.low hs
  have hgl := grow_lt (M' := fun k => M1 k ∨ Mx k) h.f.low hz
  refine ⟨fun k => M1 k ∨ Mx k, ⟨M1, Mx, ⟨h1.mono_ (fun k hk => ?_) (fun k hk hm => hga k hk (.inl hm)) hgl, ?_, fun k hk hx => ?_⟩, fun _ => Iff.rfl⟩, h2.more (fun k _ hk => (hM k).2 (.inl hk)), hs⟩
  · rcases hk with hk | ⟨g1, g2, g3⟩
    · exact .inl hk
    · refine .inr ⟨g1, g2, fun h => ?_⟩
      rcases h with h5 | h5
      · exact g3 h5
      · have := h.x.mlt k h5; omega
  · exact (h.x.only h2 (fun k hk => h.f.apart_ k hk) (fun k hk hf => h.apart k hf hk)).mono_ (fun _ hk => .inl hk) (fun k hk hm => hga k hk (.inr hm)) hgl
  · rcases h3 k hk with h4 | h4
    · exact h.apart k h4 hx
    · have := h.x.mlt k hx; omega
/-- A call of the document's. -/
theorem TwoPost.of_x (h : TwoX F w b c d st Mf Mx) (hp : FsPost F Mx w d st' w') (hM : ∀ k, M k ↔ Mf k ∨ Mx k) : TwoPost F M w b c d st' w' := by
  obtain ⟨M1, h1, h2, h3⟩ := hp
  have hz := h2.size
  have hs : ∀ k, Mf k ∨ M1 k → M k ∨ w.heap.size ≤ k := fun k hk => by
    rcases hk with hk | hk
    · exact .inl ((hM k).2 (.inl hk))
    · exact (h3 k hk).imp (fun h => (hM k).2 (.inr h)) id
  have hap : ∀ k, F k → ¬ M k := fun k hk hm => by
    rcases (hM k).1 hm with h4 | h4
    · exact h.f.apart_ k hk h4
    · exact h.x.apart_ k hk h4
  have hga := grow_apart (w' := w') hap h.f.low hs
  have hgl := grow_lt (M' := fun k => Mf k ∨ M1 k) h.f.low hz
  refine ⟨fun k => Mf k ∨ M1 k, ⟨Mf, M1, ⟨?_, h1.mono_ (fun k hk => ?_) (fun k hk hm => hga k hk (.inr hm)) hgl, fun k hk hx => ?_⟩, fun _ => Iff.rfl⟩, h2.more (fun k _ hk => (hM k).2 (.inr hk)), hs⟩
  · exact (h.f.only h2 (fun k hk => h.x.apart_ k hk) (fun k hk hx => h.apart k hk hx)).mono_ (fun _ hk => .inl hk) (fun k hk hm => hga k hk (.inl hm)) hgl
  · rcases hk with hk | ⟨g1, g2, g3⟩
    · exact .inl hk
    · refine .inr ⟨g1, g2, fun h => ?_⟩
      rcases h with h5 | h5
      · have := h.f.lt k h5; omega
      · exact g3 h5
  · rcases h3 k hx with h4 | h4
    · exact h.apart k hk h4
    · have := h.f.lt k hk; omega
/-- One's own copy, made ahead of the calls, may be written behind them. -/
theorem TwoPost.around (h0 : TwoAt F w b c d st M) (hb : Below w.heap.size w w1) (h : TwoPost F M w1 b c' d st' w2) (ho : Only Z w2 w3) (hZ : ∀ k, Z k → w.heap.size ≤ k ∧ k < w1.heap.size) : TwoPost F M w b c' d st' w3 := by
  obtain ⟨M2, h2, h3, h4⟩ := h
  have hz := hb.size
  have hz2 := h3.size
  have hz3 := ho.size
  have hM2 : ∀ k, M2 k → M k ∨ w.heap.size ≤ k := fun k hk => (h4 k hk).imp id (fun h => by omega)
  refine ⟨M2, (h2.only ho (fun k hk hzk => ?_) (fun k hk hzk => ?_)).mono_ (fun k hk => ?_) (grow_apart h0.apart_ h0.low hM2) (grow_lt h0.low (by omega)), ?_, hM2⟩
  · obtain ⟨e1, e2⟩ := hZ k hzk
    rcases hk with hk | ⟨g1, _, _⟩
    · have := h0.low k hk; omega
    · omega
  · obtain ⟨e1, e2⟩ := hZ k hzk
    rcases h4 k hk with h5 | h5
    · have := h0.lt k h5; omega
    · omega
  · rcases hk with hk | ⟨g1, g2, g3⟩
    · exact .inl hk
    · exact .inr ⟨by omega, by omega, g3⟩
  · exact ((Only.of_below hb).trans h3 (fun _ hk => .inl hk)).trans ho (fun k hk => .inr (hZ k hk).1)
end
end Go.Proofs.YtpfjlhpahmhkhaaGreat.Tx
