/- Texts put together: Hl0, Hl1, Hl2. -/
import Derived.Test.YtaccejlalomaaaaGreatQh47
/- marlaw5.Played: a file system behind any operations. -/
set_option linter.unusedVariables false
set_option linter.unusedSimpArgs false
namespace Go.Proofs.YtaccejlalomaaaaGreat.Tx
open Go.RowKit Go.Maps Go.Proofs.YtaccejlalomaaaaGreat.Sh

theorem doesR_room {c c' : CSt} {o : LOp} (h : DoesR c o c') : c'.room = c.room := by
  have hb : (bgC c).c.room = c.room := (bgK_plan c _).2.2
  have hmv : ∀ (s : CSt) fr tt create, (mvC s fr tt create).room = s.room := fun s fr tt create => by
    unfold mvC
    split <;> rfl
  refine h.keeps (P := fun x => x.room = c.room) ?_ (fun _ _ => rfl)
  have hcrt : ∀ create, (crtC c o.path o.mode o.data create).room = c.room := fun create => by
    unfold crtC
    split
    · exact (wr_plan _ _ _ _ _ _).2.2.trans hb
    · exact hb
  have hmov : ∀ create, (movC c o.path o.dest create).room = c.room := fun create => by
    unfold movC
    split
    · exact (hmv _ _ _ _).trans hb
    · exact hb
  refine doesC_at (P := fun x => x.room = c.room) c o (fun _ => hcrt _) (fun _ => hcrt _) (fun _ => hmov _) (fun _ => hmov _) (fun _ => ?_) (fun _ => ?_) (fun _ => hb) (fun _ => hb) (fun _ => (uw_plan c _ _ _).2.2) (fun _ => (ur_plan c _).2.2) (fun _ => (cr_plan c _ _).2.2) (fun _ => rfl) (fun _ => rfl) (fun _ => rfl)
  · unfold remC
    split
    · exact (rm_plan _ _).2.2.trans hb
    · exact hb
  · unfold synC
    split
    · exact hb
    · exact hb
theorem GoC.more {c : CSt} {i j : Nat} (h : GoC c i) (hij : i ≤ j) : GoC c j := ⟨h.fits.more (by omega), ⟨h.calls.1, by have := h.calls.2; omega⟩, h.plan, h.paths⟩
theorem GoM.more {s : FSM} {i j : Nat} (h : GoM s i) (hij : i ≤ j) : GoM s j := ⟨h.fits.more (by omega), ⟨h.calls.1, by have := h.calls.2; omega⟩, h.plan, h.paths⟩
structure PlayInv (G : Nat → Prop) (w : World) (v : Value) (l : List LOp) (room : Int) (b d k : Nat) (wr : World) (F M : Nat → Prop) (cs : CSt) (s : FSM) : Prop where
  two : TwoAt F wr b cs d s M
  sub : ∀ q, G q → F q
  goC : GoC cs k
  goM : GoM s k
  inv : InvC cs
  kept : KeptU cs
  room : cs.room = room
  ops : OpsF G wr v l
  low : ∀ q, M q → w.heap.size ≤ q
  below : Below w.heap.size w wr
theorem PlayInv.does {G : Nat → Prop} {w wr w2 : World} {v : Value} {l : List LOp} {room : Int} {b d k : Nat} {F M : Nat → Prop} {cs c' : CSt} {s : FSM} {o : LOp} (h : PlayInv G w v l room b d k wr F M cs s) (hd : DoesR cs o c') (hp : TwoPost F M wr b c' d (doesM s o) w2) (ho : OpOK o) : ∃ F' M', PlayInv G w v l room b d (k + 1) w2 F' M' c' (doesM s o) := by
  obtain ⟨M1, h1, h2, h3⟩ := hp
  have hz2 := h.below.size
  refine ⟨_, M1, ⟨h1, fun q hq => .inl (h.sub q hq), h.goC.doesR ho hd, h.goM.does ho, h.inv.doesR hd, h.kept.doesR h.inv hd, (doesR_room hd).trans h.room, h.ops.only h2 (fun q hq => h.two.apart_ q (h.sub q hq)), fun q hq => ?_, ?_⟩⟩
  · rcases h3 q hq with h4 | h4
    · exact h.low q h4
    · omega
  · exact h.below.trans ⟨h2.os, h2.tape, h2.output, h2.size, fun q hq => h2.block q (by omega) (fun hm => by have := h.low q hm; omega)⟩
/-- What Played leaves: nothing, or a file system of its own. -/
def PlayedAt (G : Nat → Prop) (room : Int) (w : World) (b : Nat) (F M : Nat → Prop) (c : CSt) (w' : World) : Prop :=
  (∀ q, G q → F q) ∧ FcAt F w' b c M ∧ (∀ q, M q → w.heap.size ≤ q) ∧ InvC c ∧ KeptU c ∧ c.room = room ∧ GoC c 100
def PlayedPost (G : Nat → Prop) (room : Int) (w : World) (e : Ending) (w' : World) : Prop :=
  Below w.heap.size w w' ∧ (e = .returned (.pointer none) ∨ ∃ b F M c, e = .returned (.pointer (some ⟨b, 0, none⟩)) ∧ PlayedAt G room w b F M c w')
set_option linter.unusedSimpArgs false in
set_option maxRecDepth 100000 in
set_option maxHeartbeats 12800000 in
theorem played_any (G : Nat → Prop) (room : Int) (v : Value) (l : List LOp) (w : World) (h : OpsF G w v l) (hG : ∀ k, G k → k < w.heap.size) (hdl : ∀ o ∈ l, o.data.length ≤ 140737488351232 ∧ ∀ e ∈ o.plan, e.data.length ≤ 140737488351232) : Calls Tryz.prog 22 #[.int .i64 room, v] w (PlayedPost G room w) := by
  have HL := Lib.hid h
  have HG := Lib.hid hG
  have HDL := Lib.hid hdl
  obtain ⟨A, c, rfl, hlc, hcm, _⟩ := h
  obtain ⟨n, hn⟩ : ∃ n, l.length = n := ⟨_, rfl⟩
  have HN := Lib.hid hn
  rw [hn] at hlc HL ⊢
  unfold maxLen at hcm
  clear hn hG hdl
  go_enter Tryz.func22, Tryz.ntmps22
  go_wp2_with fail
  refine (new_any G room w HG.out).mono ?_
  rintro e w2 ⟨hb2, hcase⟩
  have HB2 := Lib.hid hb2
  clear hb2
  rcases hcase with ⟨hnb, rfl⟩ | ⟨hnb, b, M, hbz, hM, rfl, hat⟩
  · have HNB := Lib.hid hnb
    clear hnb
    go_wp2_with fail
    refine (rnew_any G room w2 (fun k hk => Nat.lt_of_lt_of_le (HG.out k hk) HB2.out.size)).mono ?_
    rintro e w3 ⟨hb3, hcase⟩
    have HB3 := Lib.hid (HB2.out.trans (hb3.mono HB2.out.size))
    clear hb3
    rcases hcase with ⟨_, rfl⟩ | ⟨hy, _⟩
    · go_wp2_with fail
      go_ret
      exact ⟨HB3.out, .inl rfl⟩
    · rw [HNB.out] at hy
      cases hy
  · have HNB := Lib.hid hnb
    have HM := Lib.hid hM
    have HAT := Lib.hid hat
    clear hnb hM hat hbz
    go_wp2_with fail
    refine (rnew_any G room w2 (fun k hk => Nat.lt_of_lt_of_le (HG.out k hk) HB2.out.size)).mono ?_
    rintro e w3 ⟨hb3, hcase⟩
    have HB3 := Lib.hid (HB2.out.trans (hb3.mono HB2.out.size))
    have HB3' := Lib.hid hb3
    clear hb3
    rcases hcase with ⟨hy, _⟩ | ⟨_, d, hdz, rfl, hat2⟩
    · rw [HNB.out] at hy
      cases hy
    · have HT : Hid (TwoAt G w3 b (newC room) d (newM room) (fun k => M k ∨ k = d)) := ⟨M, _, ⟨HAT.out.below HB3'.out, hat2, fun k hk e => by have := HAT.out.lt k hk; subst e; omega⟩, fun _ => Iff.rfl⟩
      have HLOW : Hid (∀ q, M q ∨ q = d → w.heap.size ≤ q) := fun q hq => by
        have := HB2.out.size
        rcases hq with hq | hq
        · have := HM.out q hq; omega
        · omega
      clear hat2 hdz
      go_wp2_with fail
      refine (few_any G _ l w3 (by have := HL.out.below HB3.out; exact this)).mono ?_
      rintro e w4 ⟨t, rfl, ht, hb4⟩
      have HB4 := Lib.hid (HB3.out.trans (hb4.mono HB3.out.size))
      have HT4 : Hid (TwoAt G w4 b (newC room) d (newM room) (fun k => M k ∨ k = d)) := HT.out.below hb4
      have HF := Lib.hid ht
      clear hb4 ht
      cases t with
      | false =>
        go_wp2_with fail
        go_ret
        exact ⟨HB4.out, .inl rfl⟩
      | true =>
        have HFW := Lib.hid (HF.out rfl)
        clear HF
        have hn100 : n ≤ 100 := by have := HFW.out.1; rw [HN.out] at this; exact this
        go_wp2_with fail
        go_loopw [9] (fun i wr => ∃ (k : Nat) (F M : Nat → Prop) (cs : CSt) (s : FSM), k ≤ n ∧ i = .int .i64 k ∧ PlayInv G w (.slice A n c) l room b d k wr F M cs s) (fun i _ => n - (intOf i).toNat)
        case atStart => exact ⟨0, G, _, newC room, newM room, Nat.zero_le _, rfl, ⟨HT4.out, fun _ h => h, GoC.new_ room, GoM.new_ room, InvC.new_ room, KeptU.new_ room, rfl, HL.out.below HB4.out, HLOW.out, HB4.out⟩⟩
        case round =>
          obtain ⟨k, F', M', cs, s, hk, rfl, hinv⟩ := hrel
          have HI := Lib.hid hinv
          clear hinv
          have k0 : (0 : Int) ≤ (k : Int) := by omega
          by_cases hlt : k < n
          · have k1 : (k : Int) < (n : Int) := by omega
            have hkl : k < l.length := by rw [HN.out]; exact hlt
            obtain ⟨A', c', hv, _, _, hat⟩ := HI.out.ops
            injection hv with e1 e2 e3
            subst e1
            clear e2 e3
            obtain ⟨ad, dv, pv, rfl, hGa, hal, hoc⟩ := hat k l[k] (List.getElem?_eq_getElem hkl)
            clear hat
            have HFO : Hid (OpFew l[k]) := HFW.out.2 _ (List.getElem_mem hkl)
            have HDO : Hid (l[k].data.length ≤ 140737488351232 ∧ ∀ e ∈ l[k].plan, e.data.length ≤ 140737488351232) := HDL.out _ (List.getElem_mem hkl)
            generalize l[k] = o at *
            clear hkl hGa hal
            obtain ⟨kd, mo, ke, tn, pa, de, da, pl⟩ := o
            obtain ⟨hdv, hplan, x0, x1, x2, x3, x4, x5, x6, x7⟩ := hoc
            obtain ⟨dA, dc, rfl, _, _⟩ := hdv.slice
            obtain ⟨pA, pc, rfl, _, _⟩ := evs_slice hplan.tmp
            have HDV := Lib.hid hdv
            have HPL := Lib.hid hplan
            dsimp only at x0 x1 x2 x3 x4 x5 x6 x7
            have HOK : Hid (OpOK ⟨kd, mo, ke, tn, pa, de, da, pl⟩) := ⟨HFO.out.path, HFO.out.dest, HDO.out.1, HFO.out.plan, HFO.out.paths⟩
            have hdo := does_all F' M' b d cs s k ⟨kd, mo, ke, tn, pa, de, da, pl⟩ (.slice dA da.length dc) (.slice pA pl.length pc) G wr HI.out.two HI.out.goC HI.out.goM (by omega) HOK.out hdv (fun q hq => HI.out.two.apart_ q (HI.out.sub q hq)) (hplan.mono (fun q _ hq => HI.out.sub q hq)) HDO.out.2
            unfold opV at hdo
            have HDOES := Lib.hid hdo
            clear hdv hplan hdo
            go_wp2_with fail
            refine HDOES.out.mono ?_
            rintro e w5 ⟨t5, c5, rfl, hdr, hp5⟩
            obtain ⟨F5, M5, hinv5⟩ := HI.out.does hdr hp5 HOK.out
            have HI5 := Lib.hid hinv5
            clear hdr hp5 hinv5 HDOES x0 x1 x2 x3 x4 x5 x6 x7
            go_wp2_with fail
            go_roundw
            case rel => exact ⟨k + 1, F5, M5, _, _, by omega, by go_num, HI5.out⟩
            case measure => simp [intOf]; omega
          · obtain rfl : k = n := by omega
            go_wp2_with fail
            go_ret
            obtain ⟨Mf, Mx, hx, hmm⟩ := HI.out.two
            exact ⟨HI.out.below, .inr ⟨b, F', Mf, cs, rfl, HI.out.sub, hx.f, fun q hq => HI.out.low q ((hmm q).2 (.inl hq)), HI.out.inv, HI.out.kept, HI.out.room, HI.out.goC.more hn100⟩⟩
end Go.Proofs.YtaccejlalomaaaaGreat.Tx
/- marlaw5.alike, where the same files stand in both. -/
set_option linter.unusedVariables false
set_option linter.unusedSimpArgs false
namespace Go.Proofs.YtaccejlalomaaaaGreat.Tx
open Go.RowKit Go.Maps Go.Proofs.YtaccejlalomaaaaGreat.Sh

set_option maxRecDepth 100000 in
set_option maxHeartbeats 6400000 in
theorem alike_any (F1 M1 F2 M2 : Nat → Prop) (b1 b2 : Nat) (c1 c2 : CSt) (w : World) (h1 : FcAt F1 w b1 c1 M1) (h2 : FcAt F2 w b2 c2 M2) (hs1 : CSmall c1) (hs2 : CSmall c2) (he : c1.here = c2.here) :
    Calls Tryz.prog 38 #[.pointer (some ⟨b1, 0, none⟩), .pointer (some ⟨b2, 0, none⟩)] w fun e w' => e = .returned (.bool true) ∧ Below w.heap.size w w' := by
  have H1 := Lib.hid h1
  have H2 := Lib.hid h2
  have HS1 := Lib.hid hs1
  have HS2 := Lib.hid hs2
  have HE := Lib.hid he
  obtain ⟨R, hR⟩ : ∃ R, c1.here = R := ⟨_, rfl⟩
  have HR1 := Lib.hid hR
  have HR2 := Lib.hid (he.symm.trans hR)
  obtain ⟨ps, hps⟩ : ∃ ps, (pathsM R).map str = ps := ⟨_, rfl⟩
  have HPS := Lib.hid hps
  have HLP : Hid (∀ k x, ps[k]? = some x → ∃ p : List UInt8, x = str p ∧ p.length ≤ 1000) := fun k x hx => by
    rw [← hps, List.getElem?_map] at hx
    cases hq : (pathsM R)[k]? with
    | none => rw [hq] at hx; cases hx
    | some p =>
      rw [hq] at hx
      injection hx with hx
      refine ⟨p, hx.symm, ?_⟩
      unfold pathsM at hq
      rw [List.getElem?_map] at hq
      cases hr : R[k]? with
      | none => rw [hr] at hq; cases hq
      | some r =>
        rw [hr] at hq
        injection hq with hq
        rw [← hq]
        exact (hs1.hrow r (by rw [hR]; exact List.mem_of_getElem? hr)).1
  clear h1 h2 hs1 hs2 he hR hps
  go_enter Tryz.func38, Tryz.ntmps38
  go_wp2_with fail
  refine (paths_any H1.out HS1.out).mono ?_
  rw [HR1.out, HPS.out]
  rintro e w1 ⟨v1, rfl, ho1, hb1⟩
  obtain ⟨A, c, rfl, hlc, hcm, _⟩ := ho1.slv
  have HB1 := Lib.hid hb1
  have HV1 := Lib.hid ho1.slv
  have HQ2 := Lib.hid (H2.out.below hb1)
  obtain ⟨n, hn⟩ : ∃ n, (ps.map sv).length = n := ⟨_, rfl⟩
  rw [hn] at hlc HV1
  rw [hn]
  have HN : Hid (ps.length = n) := by rw [← hn]; show ps.length = (ps.map sv).length; simp
  unfold maxLen at hcm
  clear ho1 hb1 hn
  go_wp2_with fail
  refine (paths_any HQ2.out HS2.out).mono ?_
  rw [HR2.out, HPS.out]
  rintro e w2 ⟨v2, rfl, ho2, hb2⟩
  obtain ⟨A2, c2', rfl, _, _, _⟩ := ho2.slv
  have HB2 := Lib.hid (HB1.out.trans (hb2.mono HB1.out.size))
  have HV2 := Lib.hid (HV1.out.below hb2)
  have hw2 := ho2.slv
  have hn2 : (ps.map sv).length = n := by rw [List.length_map]; exact HN.out
  rw [hn2] at hw2
  rw [hn2]
  have HW2 := Lib.hid hw2
  clear ho2 hb2 hn2 hw2
  go_wp2_with fail
  refine (texts_any _ _ ps ps w2 HV2.out HW2.out).mono ?_
  rintro e w3 ⟨t, rfl, ht, hb3⟩
  obtain rfl : t = true := ht.2 rfl
  have HB3 := Lib.hid (HB2.out.trans (hb3.mono HB2.out.size))
  have HV3 := Lib.hid (HV2.out.below hb3)
  clear ht hb3
  go_wp2_with fail
  go_loopw [6] (fun i wr => ∃ k : Nat, k ≤ n ∧ i = .int .i64 k ∧ Below w.heap.size w wr ∧ SlV wr (.slice A n c) (ps.map sv)) (fun i _ => n - (intOf i).toNat)
  case atStart => exact ⟨0, Nat.zero_le _, rfl, HB3.out, HV3.out⟩
  case round =>
    obtain ⟨k, hk, rfl, hb, hv⟩ := hrel
    have HB := Lib.hid hb
    have HV := Lib.hid hv
    clear hb hv
    have z0 : (0 : Int) ≤ (k : Int) := by omega
    by_cases hlt : k < n
    · have z1 : (k : Int) < (n : Int) := by omega
      have hkl : k < ps.length := by rw [HN.out]; exact hlt
      obtain ⟨p, hp, hpl⟩ := HLP.out k ps[k] (List.getElem?_eq_getElem hkl)
      obtain ⟨ad, rfl⟩ : ∃ ad, A = some ad := by
        obtain ⟨A', c', hv', _, _, hR, _⟩ := HV.out
        injection hv' with e1 _ _
        subst e1
        rw [List.length_map] at hR
        obtain ⟨ad, e, _⟩ := texts_at hR k hkl
        exact ⟨ad, e⟩
      have HCL : Hid (∀ W, Below wr.heap.size wr W → W.cell? (ad.add k) = some (.string (str p))) := fun W hW => by
        obtain ⟨A', c', hv', _, _, hR, _⟩ := HV.out.below hW
        injection hv' with e1 _ _
        subst e1
        rw [List.length_map] at hR
        obtain ⟨ad', e, hc⟩ := texts_at hR k hkl
        injection e with e
        subst e
        rw [hc, hp]
      have hcell := HCL.out wr (Below.refl _ _)
      have HPL := Lib.hid hpl
      clear hkl hp hpl
      go_wp2_with fail
      refine (peek_any p (H1.out.below HB.out) HS1.out (Nat.le_trans HPL.out (by decide))).mono ?_
      rw [HR1.out]
      rintro e w4 ⟨u4, rfl, ⟨v4, rfl, ho4⟩, hb4⟩
      obtain ⟨f, hf⟩ : ∃ f, peekF R p = f := ⟨_, rfl⟩
      obtain ⟨st, hst⟩ : ∃ t, peekB R p = t := ⟨_, rfl⟩
      rw [hf] at ho4 ⊢
      rw [hst]
      have HF := Lib.hid hf
      have HST := Lib.hid hst
      obtain ⟨A4, c4, rfl, _, _⟩ := ho4.slv
      rw [List.length_map] at ho4 ⊢
      obtain ⟨fl, hfl⟩ : ∃ l, f.data.length = l := ⟨_, rfl⟩
      rw [hfl] at ho4 ⊢
      have HFL := Lib.hid hfl
      have hba := hb4.alloc hb4.size (.cells #[.int .i64 f.mode, .slice A4 fl c4, .int .i64 f.time] 46)
      have hcell4 := HCL.out _ hba
      have HBA := Lib.hid hba
      have HX4 : Hid (Blk (w4.alloc (.cells #[.int .i64 f.mode, .slice A4 fl c4, .int .i64 f.time] 46)) w4.heap.size 46 #[.int .i64 f.mode, .slice A4 fl c4, .int .i64 f.time]) := Blk.new _ _ _
      have HS4 : Hid (SlV (w4.alloc (.cells #[.int .i64 f.mode, .slice A4 fl c4, .int .i64 f.time] 46)) (.slice A4 fl c4) (f.data.map bv)) := ho4.slv.below ((Below.refl _ _).alloc (Nat.le_refl _) _)
      clear ho4 hb4 hba hf hst hfl hcell
      go_wp2_with fail
      refine (peek_any p (H2.out.below (HB.out.trans (HBA.out.mono HB.out.size))) HS2.out (Nat.le_trans HPL.out (by decide))).mono ?_
      rw [HR2.out]
      rintro e w5 ⟨u5, rfl, ⟨v5, rfl, ho5⟩, hb5⟩
      rw [HF.out] at ho5 ⊢
      rw [HST.out]
      obtain ⟨A5, c5, rfl, _, _⟩ := ho5.slv
      rw [List.length_map] at ho5 ⊢
      rw [HFL.out] at ho5 ⊢
      have hbb := hb5.alloc hb5.size (.cells #[.int .i64 f.mode, .slice A5 fl c5, .int .i64 f.time] 46)
      have hx4 := HX4.out.below hbb HX4.out.lt
      have y0 := hx4.cell 0
      have y1 := hx4.cell 1
      have y2 := hx4.cell 2
      have HS5 : Hid (SlV (w5.alloc (.cells #[.int .i64 f.mode, .slice A5 fl c5, .int .i64 f.time] 46)) (.slice A5 fl c5) (f.data.map bv)) := ho5.slv.below ((Below.refl _ _).alloc (Nat.le_refl _) _)
      have HS45 : Hid (SlV (w5.alloc (.cells #[.int .i64 f.mode, .slice A5 fl c5, .int .i64 f.time] 46)) (.slice A4 fl c4) (f.data.map bv)) := HS4.out.below hbb
      have HBB := Lib.hid (HBA.out.trans (hbb.mono HBA.out.size))
      clear ho5 hb5 hbb hx4 hcell4
      go_wp2_with fail
      refine (tbytes_any A4 A5 fl fl c4 c5 f.data f.data _ HFL.out HFL.out HS45.out HS5.out true (by simp)).mono ?_
      rintro e w6 ⟨rfl, rfl⟩
      clear y0 y1 y2
      go_wp2_with fail
      go_roundw
      case rel => exact ⟨k + 1, by omega, by go_num, HB.out.trans (HBB.out.mono HB.out.size), HV.out.below HBB.out⟩
      case measure => simp [intOf]; omega
    · obtain rfl : k = n := by omega
      go_wp2_with fail
      go_ret
      exact ⟨rfl, HB.out⟩
end Go.Proofs.YtaccejlalomaaaaGreat.Tx
/- File systems side by side: a call of one leaves the others; what a move, a failed call make, as plain data. -/
set_option linter.unusedVariables false
set_option linter.unusedSimpArgs false
namespace Go.Proofs.YtaccejlalomaaaaGreat.Tx
open Go.RowKit Go.Maps Go.Proofs.YtaccejlalomaaaaGreat.Sh

/-- Z's blocks are none of F's and M's. -/
def Ap (F M Z : Nat → Prop) : Prop := ∀ k, Z k → ¬ F k ∧ ¬ M k
section
variable {F F' M M' Z Z' : Nat → Prop} {w w' : World} {b B : Nat} {c c' : CSt}
theorem FcAt.stay (h : FcAt F w b c M) (ha : Ap F M Z) (ho : Only Z w w') : FcAt F w' b c M := h.only ho (fun k hk hz => (ha k hz).1 hk) (fun k hk hz => (ha k hz).2 hk)
theorem Ap.step (ha : Ap F M Z) (h : FcAt F w b c M) (hZ : ∀ k, Z' k → Z k ∨ w.heap.size ≤ k) : Ap F M Z' := fun k hk => by
  rcases hZ k hk with h1 | h1
  · exact ha k h1
  · exact ⟨fun hf => by have := h.low k hf; omega, fun hm => by have := h.lt k hm; omega⟩
theorem Ap.own (ha : Ap F M Z) (hz : ∀ k, Z k → k < w.heap.size) (hM : ∀ k, M' k → M k ∨ w.heap.size ≤ k) (hF : ∀ k, F' k → F k ∨ w.heap.size ≤ k) : Ap F' M' Z := fun k hk => by
  have := hz k hk
  refine ⟨fun hf => ?_, fun hm => ?_⟩
  · rcases hF k hf with h1 | h1
    · exact (ha k hk).1 h1
    · omega
  · rcases hM k hm with h1 | h1
    · exact (ha k hk).2 h1
    · omega
/-- What a call leaves, taken apart. -/
structure Stp (F M : Nat → Prop) (w : World) (b : Nat) (c' : CSt) (w' : World) (F' M' : Nat → Prop) : Prop where
  at_ : FcAt F' w' b c' M'
  only : Only M w w'
  mm : ∀ k, M' k → M k ∨ w.heap.size ≤ k
  ff : ∀ k, F' k → F k ∨ w.heap.size ≤ k
  sub : ∀ k, F k → F' k
theorem FcPost.stp (hp : FcPost F M w b c' w') : ∃ F' M', Stp F M w b c' w' F' M' := by
  obtain ⟨M', h1, h2, h3⟩ := hp
  refine ⟨_, M', h1, h2, h3, fun k hk => ?_, fun k hk => .inl hk⟩
  rcases hk with hk | hk
  · exact .inl hk
  · exact .inr hk.1
theorem Stp.low (h : Stp F M w b c' w' F' M') (hB : ∀ k, M k → B ≤ k) (hw : B ≤ w.heap.size) (k : Nat) (hk : M' k) : B ≤ k := by
  rcases h.mm k hk with h1 | h1
  · exact hB k h1
  · omega
theorem Stp.below {w0 : World} (h : Stp F M w b c' w' F' M') (hb : Below w0.heap.size w0 w) (hB : ∀ k, M k → w0.heap.size ≤ k) : Below w0.heap.size w0 w' :=
  hb.trans ⟨h.only.os, h.only.tape, h.only.output, h.only.size, fun q hq => h.only.block q (by have := hb.size; omega) (fun hm => by have := hB q hm; omega)⟩
theorem copy_ap (h : FcAt F w b c M) (hl : ∀ k, M' k → w.heap.size ≤ k) : Ap (grow F w w' M') M' M ∧ Ap F M M' := by
  refine ⟨fun k hk => ?_, fun k hk => ?_⟩
  · have := h.lt k hk
    refine ⟨fun hf => ?_, fun hm => by have := hl k hm; omega⟩
    rcases hf with hf | ⟨h1, _⟩
    · exact h.apart_ k hf hk
    · omega
  · have := hl k hk
    exact ⟨fun hf => by have := h.low k hf; omega, fun hm => by have := h.lt k hm; omega⟩
end
theorem planR_nil {c : CSt} {R : List EvM} (h : PlanR c [] R) : R = [] := List.eq_nil_of_length_eq_zero h.len
theorem GoC.planned {c : CSt} {i : Nat} (h : GoC c i) {R : List EvM} (h1 : R.length ≤ 60) (h2 : ∀ e ∈ R, e.path.length ≤ 400) : GoC { c with plan := R } i := ⟨h.fits.plan R, h.calls, h1, h2⟩
theorem GoC.up {c : CSt} {i : Nat} (h : GoC c i) : GoC { c with down := false } i := ⟨⟨h.fits.here, h.fits.both, h.fits.users, h.fits.time0, h.fits.time, h.fits.hrow, h.fits.drow, h.fits.prow⟩, h.calls, h.plan, h.paths⟩
theorem GoC.small {c : CSt} {i : Nat} (h : GoC c i) (hi : i ≤ 4000) : CSmall c := h.fits.small (by omega)
theorem bg_calm {c : CSt} (hp : c.plan = []) (hd : c.down = false) : bgC c = bg0 c ∧ bgE c = 0 := by
  have h := bg_none hp
  refine ⟨h, ?_⟩
  unfold bgE
  rw [h]
  show (if c.down = true then (12 : Int) else 0) = 0
  rw [hd]
  rfl
theorem mov_calm {c : CSt} (hp : c.plan = []) (hd : c.down = false) (fr tt : List UInt8) (create : Bool) : movE c fr tt create = mvE c fr tt create ∧ movC c fr tt create = mvC { c with calls := c.calls + 1 } fr tt create := by
  obtain ⟨h1, h2⟩ := bg_calm hp hd
  unfold movE movC
  rw [if_pos h2, if_pos h2, h1]
  exact ⟨rfl, rfl⟩
theorem mv_rest (c : CSt) (n : Int) (fr tt : List UInt8) (create : Bool) : (mvC { c with calls := n } fr tt create).here = (mvC c fr tt create).here := by
  have he : mvE { c with calls := n } fr tt create = mvE c fr tt create := rfl
  unfold mvC
  rw [he]
  split <;> rfl
/-- What is said of a move. -/
structure Moved (c c' : CSt) (fr tt : List UInt8) (only : Bool) : Prop where
  there : peekB c.here fr = true
  stands : peekB c'.here tt = true
  free : only = true → peekB c.here tt = false
  still : peekB c'.here fr = decide (fr = tt)
  same : peekF c'.here tt = peekF c.here fr
  used : usedM c'.here ≤ usedM c.here
theorem mv_fine {c : CSt} (hi : InvC c) (fr tt : List UInt8) (only : Bool) (h : mvE c fr tt only = 0) : Moved c (mvC c fr tt only) fr tt only := by
  obtain ⟨a, b, d, n, m⟩ := mvE_ok h
  have hfree : only = true → peekB c.here tt = false := fun ho => by
    cases ht : peekB c.here tt with
    | false => rfl
    | true => exact absurd ⟨ho, ht⟩ n
  by_cases hne : tt = fr
  · have e : mvC c fr tt only = c := mv_no h (.inr hne)
    rw [e]
    subst hne
    exact ⟨d, d, hfree, by rw [d, decide_eq_true rfl], rfl, Nat.le_refl _⟩
  · have e : mvC c fr tt only = doC c ⟨fr, tt, peekF c.here fr⟩ := by unfold mvC; rw [if_pos ⟨h, hne⟩]
    have eh : (doC c ⟨fr, tt, peekF c.here fr⟩).here = withM (withoutM c.here fr) tt (peekF c.here fr) := apply_move _ _ _ _ (path_ne a) (path_ne b)
    rw [e]
    have ho : Ord (withM (withoutM c.here fr) tt (peekF c.here fr)) := with_ord (without_ord hi.rows.ord fr) tt _
    have hm : (⟨tt, peekF c.here fr⟩ : RowM) ∈ withM (withoutM c.here fr) tt (peekF c.here fr) := mem_with.2 (.inl rfl)
    obtain ⟨p1, p2⟩ := peek_row ho hm
    refine ⟨d, by rw [eh]; exact p2, hfree, ?_, by rw [eh]; exact p1, by rw [eh]; exact used_move hi.rows.ord d⟩
    rw [decide_eq_false (fun e => hne e.symm), eh]
    have hs : standsM (withM (withoutM c.here fr) tt (peekF c.here fr)) fr = false := by
      rw [stands_with, stands_without, decide_eq_false (fun e : fr = tt => hne e.symm), decide_eq_true (rfl : fr = fr)]
      rfl
    exact (peek_none hs).2
theorem mv_said {c : CSt} (fr tt : List UInt8) (only : Bool) (h : mvE c fr tt only ≠ 0) : mvC c fr tt only = c ∧ (mvE c fr tt only = 8 → only = true ∧ peekB c.here tt = true) ∧ (mvE c fr tt only = 7 → peekB c.here fr = false) := by
  refine ⟨mv_no rfl (.inl h), fun h8 => ?_, fun h7 => ?_⟩
  · unfold mvE at h8
    split at h8
    · cases h8
    · split at h8
      · cases h8
      · split at h8
        · rename_i h3; exact h3
        · split at h8
          · cases h8
          · split at h8 <;> cases h8
  · unfold mvE at h7
    split at h7
    · cases h7
    · split at h7
      · rename_i h2; exact h2
      · split at h7
        · cases h7
        · split at h7
          · cases h7
          · split at h7 <;> cases h7
/-! A call that fails. -/
theorem wr_calls (c : CSt) (n : Int) (p : List UInt8) (mode : Int) (data : List UInt8) (room : Int) (create : Bool) : wrE { c with calls := n } p mode data room create = wrE c p mode data room create := rfl
theorem wr_here (c : CSt) (n : Int) (p : List UInt8) (mode : Int) (data : List UInt8) (room : Int) (create : Bool) : (wrC { c with calls := n } p mode data room create).here = (wrC c p mode data room create).here := by
  unfold wrC
  rw [wr_calls]
  split <;> rfl
theorem crt_calm {c : CSt} (hp : c.plan = []) (hd : c.down = false) (p : List UInt8) (mode : Int) (data : List UInt8) (create : Bool) : crtE c p mode data create = wrE c p mode data c.room create ∧ crtC c p mode data create = wrC { c with calls := c.calls + 1 } p mode data c.room create := by
  obtain ⟨h1, h2⟩ := bg_calm hp hd
  unfold crtE crtC
  rw [if_pos h2, if_pos h2, h1]
  exact ⟨rfl, rfl⟩
theorem bg_one {c : CSt} {ev : EvM} (hp : c.plan = [ev]) (ha : ev.at_ = c.calls + 1) : bgC c = evC (bg0 c) ev := by
  have h1 : bgN c = 1 := by
    unfold bgN
    rw [hp, List.takeWhile_cons, if_pos (by rw [ha]; exact decide_eq_true rfl)]
    rfl
  unfold bgC
  rw [h1, bgK_next (e := ev) (by rw [hp]; rfl)]
  rfl
theorem wr_full {c : CSt} (hi : InvC c) (p : List UInt8) (mode : Int) (data : List UInt8) (create : Bool) : wrE c p mode data (-1) create ≠ 0 ∧ ∀ room, wrE c p mode data room create = 0 → wrE c p mode data (-1) create = 10 := by
  have hu : ((peekF c.here p).data.length : Int) ≤ (usedM c.here : Int) := by
    have := used_without p hi.rows.ord
    rw [old_peek] at this
    omega
  refine ⟨fun h => ?_, fun room h => ?_⟩
  · obtain ⟨_, _, _, _, h5, _⟩ := wrE_ok h
    omega
  · obtain ⟨a, b, d, m, r, n⟩ := wrE_ok h
    unfold wrE
    rw [if_neg (by rw [a]; decide), if_neg (by omega), if_neg (by omega), if_neg n, if_neg (by rw [m]; decide), if_pos (by omega)]
/-- A call that meets Broken or NoRoom, and the one behind it. -/
structure Failed (c : CSt) (p : List UInt8) (mode : Int) (data : List UInt8) (k : Int) (c1 : CSt) : Prop where
  err : crtE c p mode data false ≠ 0
  io : k = 3 → crtE c p mode data false = 11
  full : k = 2 → wrE c p mode data c.room false = 0 → crtE c p mode data false = 10
  eq : c1 = { c with calls := c.calls + 1, plan := [] }
theorem fails_plain {c : CSt} (hi : InvC c) {ev : EvM} (hp : c.plan = [ev]) (ha : ev.at_ = c.calls + 1) (hd : c.down = false) (hk : ev.kind = 3 ∨ ev.kind = 2) (p : List UInt8) (mode : Int) (data : List UInt8) : Failed c p mode data ev.kind (crtC c p mode data false) := by
  have hb := bg_one hp ha
  rcases hk with hk | hk
  · have hb2 : bgC c = ⟨c.room, 11, { c with calls := c.calls + 1, plan := [] }⟩ := by
      rw [hb]
      unfold evC
      rw [if_neg (by omega), if_neg (by omega), if_pos hk]
      show (⟨c.room, 11, { c with calls := c.calls + 1, plan := c.plan.tail }⟩ : BgC) = _
      rw [hp]
      rfl
    have he : bgE c = 11 := by
      unfold bgE
      rw [hb2]
      show (if c.down = true then (12 : Int) else 11) = 11
      rw [hd]
      rfl
    have h1 : crtE c p mode data false = 11 := by unfold crtE; rw [if_neg (by rw [he]; decide)]; exact he
    refine ⟨by rw [h1]; decide, fun _ => h1, fun h => by omega, ?_⟩
    unfold crtC
    rw [if_neg (by rw [he]; decide), hb2]
  · have hb2 : bgC c = ⟨-1, 0, { c with calls := c.calls + 1, plan := [] }⟩ := by
      rw [hb]
      unfold evC
      rw [if_neg (by omega), if_pos hk]
      show (⟨-1, 0, { c with calls := c.calls + 1, plan := c.plan.tail }⟩ : BgC) = _
      rw [hp]
      rfl
    have he : bgE c = 0 := by
      unfold bgE
      rw [hb2]
      show (if c.down = true then (12 : Int) else 0) = 0
      rw [hd]
      rfl
    have h1 : crtE c p mode data false = wrE c p mode data (-1) false := by unfold crtE; rw [if_pos he, hb2]; rfl
    obtain ⟨f1, f2⟩ := wr_full hi p mode data false
    refine ⟨by rw [h1]; exact f1, fun h => by omega, fun _ h0 => by rw [h1]; exact f2 _ h0, ?_⟩
    unfold crtC
    rw [if_pos he, hb2]
    exact wr_no (c := { c with calls := c.calls + 1, plan := [] }) rfl f1
end Go.Proofs.YtaccejlalomaaaaGreat.Tx
