/- Texts put together: Hkp. -/
import Derived.Test.YtaccejlalomaaaaGreatQh56
/- marlaw5.FsimKeeps: the walk. -/
set_option linter.unusedVariables false
set_option linter.unusedSimpArgs false
namespace Go.Proofs.YtaccejlalomaaaaGreat.Tx
open Go.RowKit Go.Maps Go.Proofs.YtaccejlalomaaaaGreat.Sh

set_option linter.unusedSimpArgs false in
set_option maxRecDepth 100000 in
set_option maxHeartbeats 25600000 in
theorem keeps_any (G : Nat → Prop) (room : Int) (v : Value) (l : List LOp) (v2 : Value) (l2 : List LOp) (p : List UInt8) (dv : Value) (data : List UInt8) (w : World) (h : OpsF G w v l) (hG : ∀ k, G k → k < w.heap.size) (hdl : ∀ o ∈ l, o.data.length ≤ 140737488351232 ∧ ∀ e ∈ o.plan, e.data.length ≤ 140737488351232)
    (h2 : OpsF G w v2 l2) (hdl2 : ∀ o ∈ l2, o.data.length ≤ 140737488351232 ∧ ∀ e ∈ o.plan, e.data.length ≤ 140737488351232) (hdv : By G w dv data) : Calls Tryz.prog 6 #[.int .i64 room, v, v2, .string (str p), dv] w (Yes w) := by
  have HL := Lib.hid h
  have HL2 := Lib.hid h2
  have HG := Lib.hid hG
  have HDL := Lib.hid hdl
  have HDL2 := Lib.hid hdl2
  obtain ⟨A2, k2, rfl, _, _, _⟩ := h2
  obtain ⟨n2, hn2⟩ : ∃ n, l2.length = n := ⟨_, rfl⟩
  have HN2 := Lib.hid hn2
  rw [hn2] at HL2 ⊢
  obtain ⟨dA, dc, rfl, _, _⟩ := hdv.slice
  obtain ⟨dn, hdn⟩ : ∃ n, data.length = n := ⟨_, rfl⟩
  rw [hdn] at hdv ⊢
  have HDV := Lib.hid hdv
  have HDN := Lib.hid hdn
  have hsp : (str p).size = p.length := str_size _
  clear h hG hdl hdv hdn hdl2 hn2
  go_enter Tryz.func6, Tryz.ntmps6
  go_wp2_with fail
  refine (first_any w).mono ?_
  rintro e w1 ⟨rfl, hb1⟩
  have HB1 := Lib.hid hb1
  clear hb1
  go_wp2_with fail
  refine (played_any G room v l w1 (HL.out.below HB1.out) (fun k hk => Nat.lt_of_lt_of_le (HG.out k hk) HB1.out.size) HDL.out).mono ?_
  rintro e w2 ⟨hb2, rfl | ⟨b0, F, M, c, rfl, hsub, hat, hlow, hinv, hkept, hroom, hgo⟩⟩
  · have HB2 := Lib.hid (HB1.out.trans (hb2.mono HB1.out.size))
    clear hb2
    go_wp2_with fail
    refine (first_any w2).mono ?_
    rintro e wf ⟨rfl, hbf⟩
    have HBF := Lib.hid (HB2.out.trans (hbf.mono HB2.out.size))
    clear hbf
    go_wp2_with fail
    go_ret
    exact ⟨rfl, HBF.out⟩
  have HB2 := Lib.hid (HB1.out.trans (hb2.mono HB1.out.size))
  have HAT := Lib.hid hat
  have HSUB := Lib.hid hsub
  have HLOW : Hid (∀ k, M k → w.heap.size ≤ k) := fun k hk => by have := hlow k hk; have := HB1.out.size; omega
  have HINV := Lib.hid hinv
  have HGO := Lib.hid hgo
  clear hb2 hat hlow hinv hkept hroom hgo hsub
  go_wp2_with fail
  refine (few_any G _ l2 w2 (by have := HL2.out.below HB2.out; rw [← HN2.out] at this ⊢; exact this)).mono ?_
  rintro e w3 ⟨t, rfl, ht, hb3⟩
  have HB3 := Lib.hid (HB2.out.trans (hb3.mono HB2.out.size))
  have HAT3 := Lib.hid (HAT.out.below hb3)
  have HF := Lib.hid ht
  clear hb3 ht
  cases t with
  | false =>
    go_wp2_with fail
    refine (first_any w3).mono ?_
    rintro e wf ⟨rfl, hbf⟩
    have HBF := Lib.hid (HB3.out.trans (hbf.mono HB3.out.size))
    clear hbf
    go_wp2_with fail
    go_ret
    exact ⟨rfl, HBF.out⟩
  | true =>
  have HFW := Lib.hid (HF.out rfl)
  clear HF
  have hn100 : n2 ≤ 100 := by have := HFW.out.1; rw [HN2.out] at this; exact this
  by_cases hla : 400 < p.length
  · have hla' : (400 : Int) < (p.length : Int) := by omega
    go_wp2_with fail
    refine (first_any w3).mono ?_
    rintro e wf ⟨rfl, hbf⟩
    have HBF := Lib.hid (HB3.out.trans (hbf.mono HB3.out.size))
    clear hbf
    go_wp2_with fail
    go_ret
    exact ⟨rfl, HBF.out⟩
  have hla' : ¬ (400 : Int) < (p.length : Int) := by omega
  by_cases hlb : 3000 < dn
  · have hlb' : (3000 : Int) < (dn : Int) := by omega
    go_wp2_with fail
    refine (first_any w3).mono ?_
    rintro e wf ⟨rfl, hbf⟩
    have HBF := Lib.hid (HB3.out.trans (hbf.mono HB3.out.size))
    clear hbf
    go_wp2_with fail
    go_ret
    exact ⟨rfl, HBF.out⟩
  have hlb' : ¬ (3000 : Int) < (dn : Int) := by omega
  have HA : Hid (p.length ≤ 900000) := by unfold Hid; omega
  clear hla hlb
  go_wp2_with fail
  refine (plan_any F M b0 c (.slice none 0 0) [] w3 HAT3.out (InL.nil_ evK F w3).tmp (Nat.zero_le _) (fun e he => by cases he)).mono ?_
  rintro e w4 ⟨rfl, R, hR, hp⟩
  obtain rfl := planR_nil hR
  obtain ⟨F4, M4, hs4⟩ := hp.stp
  have HS4 := Lib.hid hs4
  have HB4 := Lib.hid (hs4.below HB3.out HLOW.out)
  have HLOW4 : Hid (∀ k, M4 k → w.heap.size ≤ k) := hs4.low HLOW.out HB3.out.size
  clear hR hp hs4 hla' hlb' hsp
  go_wp2_with fail
  refine (reboot_any HS4.out.at_).mono ?_
  rintro e w5 ⟨rfl, hp⟩
  obtain ⟨F5, M5, hs5⟩ := hp.stp
  have HS5 := Lib.hid hs5
  have HB5 := Lib.hid (hs5.below HB4.out HLOW4.out)
  have HLOW5 : Hid (∀ k, M5 k → w.heap.size ≤ k) := hs5.low HLOW4.out HB4.out.size
  clear hp hs5
  obtain ⟨c5, hc5⟩ : ∃ x : CSt, x = { { c with plan := [] } with down := false } := ⟨_, rfl⟩
  have HPD : Hid (c5.plan = [] ∧ c5.down = false) := by rw [hc5]; exact ⟨rfl, rfl⟩
  have HAT5 : Hid (FcAt F5 w5 b0 c5 M5) := by rw [hc5]; exact HS5.out.at_
  have HINV5 : Hid (InvC c5) := HINV.out.same (by rw [hc5]) (by rw [hc5]) (by rw [hc5]) (by rw [hc5])
  have HGO5 : Hid (GoC c5 100) := by rw [hc5]; exact (HGO.out.planned (Nat.zero_le _) (fun e he => by cases he)).up
  have HSUB5 : Hid (∀ q, G q → F5 q) := fun q hq => HS5.out.sub q (HS4.out.sub q (HSUB.out q hq))
  clear hc5 HS4 HS5 HAT HAT3 HINV HGO HLOW HLOW4 HSUB
  have HE0 : Hid (bgE c5 = 0) := (bg_calm HPD.out.1 HPD.out.2).2
  go_wp2_with fail
  refine (syncf_any F5 M5 b0 c5 13000 w5 HAT5.out (HGO5.out.ready (by decide))).mono ?_
  rw [HE0.out]
  rintro e w6 ⟨rfl, hp⟩
  obtain ⟨F6, M6, hs6⟩ := hp.stp
  have HS6 := Lib.hid hs6
  have HB6 := Lib.hid (hs6.below HB5.out HLOW5.out)
  have HLOW6 : Hid (∀ k, M6 k → w.heap.size ≤ k) := hs6.low HLOW5.out HB5.out.size
  have HSUB6 : Hid (∀ q, G q → F6 q) := fun q hq => hs6.sub q (HSUB5.out q hq)
  obtain ⟨c6, hc6⟩ : ∃ x : CSt, x = synC c5 := ⟨_, rfl⟩
  have hsc := syn_calm HPD.out.1 HPD.out.2
  have HPD6 : Hid (c6.plan = [] ∧ c6.down = false ∧ c6.durable = c6.here) := by
    rw [hc6, hsc]
    refine ⟨HPD.out.1, HPD.out.2, ?_⟩
    show c5.pending.foldl applyC c5.durable = c5.here
    rw [HINV5.out.here, foldC_all _ _ (Nat.le_refl _)]
  have HAT6 : Hid (FcAt F6 w6 b0 c6 M6) := by rw [hc6]; exact hs6.at_
  have HINV6 : Hid (InvC c6) := by rw [hc6]; exact HINV5.out.syn
  have HGO6 : Hid (GoC c6 101) := by rw [hc6]; exact HGO5.out.syn
  clear hp hs6 hc6 hsc HS6 HAT5 HINV5 HGO5 HLOW5 HSUB5 HPD HE0
  have HSM6 : Hid (CSmall c6) := HGO6.out.small (by decide)
  go_wp2_with fail
  refine (copy_any HAT6.out HSM6.out (Nat.le_trans HGO6.out.plan (by decide))).mono ?_
  rintro e w7 ⟨bw, MW, rfl, hatw, hb7, hloww⟩
  obtain ⟨FW, hFW⟩ : ∃ X, grow F6 w6 w7 MW = X := ⟨_, rfl⟩
  obtain ⟨hap1, hap2⟩ := copy_ap (w' := w7) HAT6.out hloww
  rw [hFW] at hatw hap1
  have HATW := Lib.hid hatw
  have HAPW := Lib.hid hap1
  have HAT7 := Lib.hid (HAT6.out.below hb7)
  have HB7 := Lib.hid (HB6.out.trans (hb7.mono HB6.out.size))
  clear hatw hb7 hloww hap1 hap2 hFW
  go_wp2_with fail
  refine (calm_any G (.slice A2 n2 k2) l2 w7 (HL2.out.below HB7.out) (by rw [HN2.out]; omega) (fun k hk => Nat.lt_of_lt_of_le (HG.out k hk) HB7.out.size)).mono ?_
  rintro e w8 ⟨v8, els, rfl, ho8, hm8, hb8⟩
  obtain ⟨A8, k8, hv8, _, _⟩ := ho8.slice
  subst hv8
  have HOPS : Hid (OpsF (fun k => G k ∨ (w7.heap.size ≤ k ∧ k < w8.heap.size)) w8 (.slice A8 els.length k8) (els.map OpS.o)) := ho8.ops (fun k hk => .inl hk) (fun k h1 h2 => .inr ⟨h1, h2⟩)
  have HCALM : Hid (∀ o ∈ els.map OpS.o, OpOK o ∧ 0 ≤ o.kind ∧ o.kind ≤ 7 ∧ ∀ e ∈ o.plan, e.data.length ≤ 140737488351232) := fun o ho => by
    rw [hm8] at ho
    obtain ⟨h1, h2⟩ := List.mem_filter.1 ho
    have hf := HFW.out.2 o h1
    have hd := HDL2.out o h1
    unfold calmB at h2
    rw [Bool.and_eq_true] at h2
    exact ⟨⟨hf.path, hf.dest, hd.1, hf.plan, hf.paths⟩, of_decide_eq_true h2.2, of_decide_eq_true h2.1, hd.2⟩
  have hmn : els.length ≤ 100 := by
    have h1 := congrArg List.length hm8
    have h2 := List.length_filter_le calmB l2
    rw [List.length_map] at h1
    have := HN2.out
    omega
  obtain ⟨mn, hmm⟩ : ∃ m, els.length = m := ⟨_, rfl⟩
  rw [hmm] at HOPS hmn
  rw [hmm]
  have HMN : Hid ((els.map OpS.o).length = mn) := by rw [← hmm]; show (els.map OpS.o).length = els.length; exact List.length_map _
  generalize els.map OpS.o = lm at HOPS HCALM HMN
  have HAT8 : Hid (FcAt (fun k => F6 k ∨ (w7.heap.size ≤ k ∧ k < w8.heap.size)) w8 b0 c6 M6) := (HAT7.out.below hb8).mono_ (fun k hk => .inl hk) (fun k hk hm => by
    rcases hk with hk | hk
    · exact HAT7.out.apart_ k hk hm
    · have := HAT7.out.lt k hm; omega) (fun k hk => by
    rcases hk with hk | hk
    · have := HAT7.out.low k hk; have := hb8.size; omega
    · exact hk.2)
  have HATW8 := Lib.hid (HATW.out.below hb8)
  have HB8 := Lib.hid (HB7.out.trans (hb8.mono HB7.out.size))
  have HZ78 : Hid (w7.heap.size ≤ w8.heap.size) := hb8.size
  have HSUB8 : Hid (∀ k, (G k ∨ (w7.heap.size ≤ k ∧ k < w8.heap.size)) → (F6 k ∨ (w7.heap.size ≤ k ∧ k < w8.heap.size))) := fun k hk => hk.imp (HSUB6.out k) id
  clear ho8 hm8 hb8 hmm
  obtain ⟨GG, hGG⟩ : ∃ X : Nat → Prop, (fun k => G k ∨ (w7.heap.size ≤ k ∧ k < w8.heap.size)) = X := ⟨_, rfl⟩
  obtain ⟨F8, hF8⟩ : ∃ X : Nat → Prop, (fun k => F6 k ∨ (w7.heap.size ≤ k ∧ k < w8.heap.size)) = X := ⟨_, rfl⟩
  rw [hGG] at HOPS
  rw [hF8] at HAT8
  have HSUBG : Hid (∀ k, GG k → F8 k) := by rw [← hGG, ← hF8]; exact HSUB8.out
  clear hGG hF8 HSUB8
  have HNB : Hid (newB 1073741824 = true) := by show newB 1073741824 = true; decide
  go_wp2_with fail
  refine (rnew_any F8 1073741824 w8 (fun k hk => HAT8.out.low k hk)).mono ?_
  rintro e w9 ⟨hb9, ⟨hy, _⟩ | ⟨_, d, hdz, rfl, hat2⟩⟩
  · rw [HNB.out] at hy
    cases hy
  have HT : Hid (TwoAt F8 w9 b0 c6 d (newM 1073741824) (fun k => M6 k ∨ k = d)) := ⟨M6, _, ⟨HAT8.out.below hb9, hat2, fun k hk e => by have := HAT8.out.lt k hk; subst e; omega⟩, fun _ => Iff.rfl⟩
  have HDZ := Lib.hid hdz
  have HB9 := Lib.hid (HB8.out.trans (hb9.mono HB8.out.size))
  have HATW9 := Lib.hid (HATW8.out.below hb9)
  have HOPS9 := Lib.hid (HOPS.out.below hb9)
  have HAP9 : Hid (Ap FW MW (fun k => M6 k ∨ k = d)) := fun k hk => by
    rcases hk with hk | rfl
    · exact HAPW.out k hk
    · exact ⟨fun hf => by have := HATW.out.low k hf; have := HDZ.out; have := HZ78.out; omega, fun hm => by have := HATW.out.lt k hm; have := HDZ.out; have := HZ78.out; omega⟩
  have HLOW9 : Hid (∀ q, M6 q ∨ q = d → w.heap.size ≤ q) := fun q hq => by
    rcases hq with hq | hq
    · exact HLOW6.out q hq
    · have := HB8.out.size; have := HDZ.out; omega
  clear hb9 hat2 hdz
  go_wp2_with fail
  go_loopw [16] (fun i wr => ∃ (k : Nat) (F M : Nat → Prop) (cs : CSt) (s : FSM), k ≤ mn ∧ i = .int .i64 k ∧ CalmInv FW MW bw c6 GG w (.slice A8 mn k8) lm b0 d k wr F M cs s ∧ cs.durable = c6.durable) (fun i _ => mn - (intOf i).toNat)
  case atStart => exact ⟨0, F8, _, c6, newM 1073741824, Nat.zero_le _, rfl, ⟨HT.out, HSUBG.out, HGO6.out.more (by omega), (GoM.new_ 1073741824).more (by omega), HINV6.out, HPD6.out.1, HPD6.out.2.1, HOPS9.out, HATW9.out, HAP9.out, HLOW9.out, HB9.out⟩, rfl⟩
  case round =>
    obtain ⟨k, F', M', cs, s, hk, rfl, hinv, hdur⟩ := hrel
    have HI := Lib.hid hinv
    have HDUR := Lib.hid hdur
    clear hinv hdur
    have k0 : (0 : Int) ≤ (k : Int) := by omega
    by_cases hlt : k < mn
    · have k1 : (k : Int) < (mn : Int) := by omega
      have hkl : k < lm.length := by rw [HMN.out]; exact hlt
      obtain ⟨A', c', hv, _, _, hat⟩ := HI.out.ops
      injection hv with e1 e2 e3
      subst e1
      clear e2 e3
      obtain ⟨ad, dv', pv, rfl, hGa, hal, hoc⟩ := hat k lm[k] (List.getElem?_eq_getElem hkl)
      clear hat
      have HFO := Lib.hid (HCALM.out lm[k] (List.getElem_mem hkl))
      generalize lm[k] = o at *
      clear hkl hGa hal
      obtain ⟨kd, mo, ke, tn, pa, de, da, pl⟩ := o
      obtain ⟨hdv, hplan, x0, x1, x2, x3, x4, x5, x6, x7⟩ := hoc
      obtain ⟨oA, oc, rfl, _, _⟩ := hdv.slice
      obtain ⟨pA, pc, rfl, _, _⟩ := evs_slice hplan.tmp
      dsimp only at x0 x1 x2 x3 x4 x5 x6 x7
      have hdo := does_all F' M' b0 d cs s (110 + k) ⟨kd, mo, ke, tn, pa, de, da, pl⟩ (.slice oA da.length oc) (.slice pA pl.length pc) GG wr HI.out.two HI.out.goC HI.out.goM (by omega) HFO.out.1 hdv (fun q hq => HI.out.two.apart_ q (HI.out.sub q hq)) (hplan.mono (fun q _ hq => HI.out.sub q hq)) HFO.out.2.2.2
      unfold opV at hdo
      have HDOES := Lib.hid hdo
      clear hdv hplan hdo
      by_cases h5 : kd = 5
      · subst h5
        clear HDOES
        go_wp2_with fail
        go_roundw
        case rel => exact ⟨k + 1, F', M', cs, s, by omega, by go_num, HI.out.skip, HDUR.out⟩
        case measure => simp [intOf]; omega
      · have e5 : (kd != 5) = true := bne_iff_ne.2 h5
        have HQ := Lib.hid (quiet_does HI.out.plan HI.out.down (o := ⟨kd, mo, ke, tn, pa, de, da, pl⟩) HFO.out.2.1 HFO.out.2.2.1)
        have H5 : Hid (kd ≠ 5) := h5
        clear h5
        go_wp2_with fail
        refine HDOES.out.mono ?_
        rintro e w5' ⟨t5, c5', rfl, hdr, hp5⟩
        obtain ⟨F5', M5', hinv5, he5⟩ := HI.out.does hdr HFO.out.2.1 HFO.out.2.2.1 hp5 HFO.out.1
        have HI5 := Lib.hid hinv5
        have HD5 : Hid (c5'.durable = c6.durable) := by show c5'.durable = c6.durable; rw [he5, HQ.out.durable H5.out]; exact HDUR.out
        clear hdr hp5 hinv5 he5 HDOES x0 x1 x2 x3 x4 x5 x6 x7
        go_wp2_with fail
        go_roundw
        case rel => exact ⟨k + 1, F5', M5', _, _, by omega, by go_num, HI5.out, HD5.out⟩
        case measure => simp [intOf]; omega
    · obtain rfl : k = mn := by omega
      obtain ⟨Mf, Mx, hx, hmm⟩ := HI.out.two
      have HATF : Hid (FcAt F' wr b0 cs Mf) := hx.f
      have HLOWF : Hid (∀ q, Mf q → w.heap.size ≤ q) := fun q hq => HI.out.low q ((hmm q).2 (.inl hq))
      have HWF : Hid (Ap FW MW Mf) := fun q hq => HI.out.ap q ((hmm q).2 (.inl hq))
      have HATWR := Lib.hid HI.out.was
      have HBR := Lib.hid HI.out.below
      have HGOR : Hid (GoC cs 210) := HI.out.goC.more (by omega)
      have HINVR := Lib.hid HI.out.inv
      have HPDR : Hid (cs.plan = [] ∧ cs.down = false) := ⟨HI.out.plan, HI.out.down⟩
      clear hx hmm HI
      have HSMR : Hid (CSmall cs) := HGOR.out.small (by decide)
      have HPLR : Hid (cs.plan.length ≤ 1000000) := Nat.le_trans HGOR.out.plan (by decide)
      go_wp2_with fail
      refine (copy_any HATF.out HSMR.out HPLR.out).mono ?_
      rintro e wA ⟨bA, MA, rfl, hatA, hbA, hlA⟩
      obtain ⟨FA, hFA⟩ : ∃ X, grow F' wr wA MA = X := ⟨_, rfl⟩
      have hA1 := (copy_ap (w' := wA) HATF.out hlA).1
      have hA2 : Ap F' Mf MA := ap_new HATF.out hlA
      have hA3 : Ap FW MW MA := ap_new HATWR.out hlA
      rw [hFA] at hatA hA1
      have HATA := Lib.hid hatA
      have HA1 := Lib.hid hA1
      have HA2 := Lib.hid hA2
      have HA3 := Lib.hid hA3
      have HLA : Hid (∀ q, MA q → w.heap.size ≤ q) := fun q hq => by have := hlA q hq; have := HBR.out.size; omega
      have HATFA := Lib.hid (HATF.out.below hbA)
      have HATWA := Lib.hid (HATWR.out.below hbA)
      have HBA := Lib.hid (HBR.out.trans (hbA.mono HBR.out.size))
      clear hatA hbA hlA hFA hA1 hA2 hA3
      go_wp2_with fail
      refine (copy_any HATFA.out HSMR.out HPLR.out).mono ?_
      rintro e wN ⟨bN, MN, rfl, hatN, hbN, hlN⟩
      obtain ⟨FN, hFN⟩ : ∃ X, grow F' wA wN MN = X := ⟨_, rfl⟩
      have hN1 : Ap (grow F' wA wN MN) MN MA := copy_ap2 HA2.out (fun q hq => HATA.out.lt q hq) hlN
      have hN4 : Ap FA MA MN := ap_new HATA.out hlN
      have hN3 : Ap FW MW MN := ap_new HATWA.out hlN
      have hN2 : Ap F' Mf MN := ap_new HATFA.out hlN
      rw [hFN] at hatN hN1
      have HATN := Lib.hid hatN
      have HN1 := Lib.hid hN1
      have HN2' := Lib.hid hN2
      have HN3 := Lib.hid hN3
      have HN4 := Lib.hid hN4
      have HLN : Hid (∀ q, MN q → w.heap.size ≤ q) := fun q hq => by have := hlN q hq; have := HBA.out.size; omega
      have HATFN := Lib.hid (HATFA.out.below hbN)
      have HATWN := Lib.hid (HATWA.out.below hbN)
      have HATAN := Lib.hid (HATA.out.below hbN)
      have HBN := Lib.hid (HBA.out.trans (hbN.mono HBA.out.size))
      clear hatN hbN hlN hFN hN1 hN2 hN3 hN4
      go_wp2_with fail
      refine (copy_any HATFN.out HSMR.out HPLR.out).mono ?_
      rintro e wU ⟨bU, MU, rfl, hatU, hbU, hlU⟩
      obtain ⟨FU, hFU⟩ : ∃ X, grow F' wN wU MU = X := ⟨_, rfl⟩
      have hU1 : Ap (grow F' wN wU MU) MU MA := copy_ap2 HA2.out (fun q hq => HATAN.out.lt q hq) hlU
      have hU2 : Ap (grow F' wN wU MU) MU MN := copy_ap2 HN2'.out (fun q hq => HATN.out.lt q hq) hlU
      have hU3 : Ap F' Mf MU := ap_new HATFN.out hlU
      rw [hFU] at hatU hU1 hU2
      have HATU := Lib.hid hatU
      have HU1 := Lib.hid hU1
      have HU2 := Lib.hid hU2
      have HU3 := Lib.hid hU3
      have HLU : Hid (∀ q, MU q → w.heap.size ≤ q) := fun q hq => by have := hlU q hq; have := HBN.out.size; omega
      have HATFU := Lib.hid (HATFN.out.below hbU)
      have HATWU := Lib.hid (HATWN.out.below hbU)
      have HATAU := Lib.hid (HATAN.out.below hbU)
      have HATNU := Lib.hid (HATN.out.below hbU)
      have HBU := Lib.hid (HBN.out.trans (hbU.mono HBN.out.size))
      clear hatU hbU hlU hFU hU1 hU2 hU3
      go_wp2_with fail
      refine (crash_any FA MA bA cs 1073741824 (-1) wU HATAU.out HSMR.out).mono ?_
      rintro e wB ⟨rfl, hp⟩
      obtain ⟨FA2, MA2, hs⟩ := hp.stp
      have HSA := Lib.hid hs
      have HBB := Lib.hid (hs.below HBU.out HLA.out)
      have HATFB := Lib.hid (HATFU.out.stay HA2.out hs.only)
      have HATWB := Lib.hid (HATWU.out.stay HA3.out hs.only)
      have HATNB := Lib.hid (HATNU.out.stay HN1.out hs.only)
      have HATUB := Lib.hid (HATU.out.stay HU1.out hs.only)
      have HN4B : Hid (Ap FA2 MA2 MN) := HN4.out.own (fun q hq => HATNU.out.lt q hq) hs.mm hs.ff
      have HCA : Hid ((crC cs 1073741824 (-1)).here = cs.here ∧ CSmall (crC cs 1073741824 (-1))) := by
        have hfit := HGOR.out.fits
        exact ⟨cr_all HINVR.out HPDR.out.2 (by have := hfit.both; omega), (hfit.cr 1073741824 (-1)).small (by decide)⟩
      clear hp hs
      go_wp2_with fail
      refine (crash_any FN MN bN cs 0 (-1) wB HATNB.out HSMR.out).mono ?_
      rintro e wC ⟨rfl, hp⟩
      obtain ⟨FN2, MN2, hs⟩ := hp.stp
      have HSN := Lib.hid hs
      have HBC := Lib.hid (hs.below HBB.out HLN.out)
      have HATFC := Lib.hid (HATFB.out.stay HN2'.out hs.only)
      have HATWC := Lib.hid (HATWB.out.stay HN3.out hs.only)
      have HATAC := Lib.hid (HSA.out.at_.stay HN4B.out hs.only)
      have HATUC := Lib.hid (HATUB.out.stay HU2.out hs.only)
      have HCN : Hid ((crC cs 0 (-1)).here = c6.here ∧ CSmall (crC cs 0 (-1))) := by
        have hfit := HGOR.out.fits
        exact ⟨by rw [cr_none HPDR.out.2, HDUR.out]; exact HPD6.out.2.2, (hfit.cr 0 (-1)).small (by decide)⟩
      clear hp hs
      go_wp2_with fail
      refine (alike_any FA2 MA2 F' Mf bA b0 _ cs wC HATAC.out HATFC.out HCA.out.2 HSMR.out HCA.out.1).mono ?_
      rintro e wD ⟨rfl, hbD⟩
      have HBD := Lib.hid (HBC.out.trans (hbD.mono HBC.out.size))
      have HATFD := Lib.hid (HATFC.out.below hbD)
      have HATWD := Lib.hid (HATWC.out.below hbD)
      have HATND := Lib.hid (HSN.out.at_.below hbD)
      have HATUD := Lib.hid (HATUC.out.below hbD)
      clear hbD
      go_wp2_with fail
      refine (alike_any FN2 MN2 FW MW bN bw _ c6 wD HATND.out HATWD.out HCN.out.2 HSM6.out HCN.out.1).mono ?_
      rintro e wE ⟨rfl, hbE⟩
      have HBE := Lib.hid (HBD.out.trans (hbE.mono HBD.out.size))
      have HATFE := Lib.hid (HATFD.out.below hbE)
      have HATUE := Lib.hid (HATUD.out.below hbE)
      clear hbE
      have HDVW : Hid (∀ W, Below w.heap.size w W → By (fun k => G k ∧ k < w.heap.size) W (.slice dA dn dc) data) := fun W hW => by
        have h1 := HDV.out.bound
        exact h1.only (Only.of_below (M := fun _ => False) hW) (fun _ _ => id)
      obtain ⟨em, hem⟩ : ∃ x, uwE cs p 1 data = x := ⟨_, rfl⟩
      obtain ⟨cu, hcu⟩ : ∃ x, uwC cs p 1 data = x := ⟨_, rfl⟩
      have HEM := Lib.hid hem
      have HCU := Lib.hid hcu
      have hrun := userw_any FU MU bU cs 27300 p 1 (.slice dA dn dc) data (fun k => G k ∧ k < w.heap.size) wE HATUE.out HGOR.out.fits (by decide) (HDVW.out wE HBE.out) (fun k hk hm => by have := HLU.out k hm; omega) (Nat.le_trans HA.out (by decide))
      rw [hem, hcu] at hrun
      have HRUN := Lib.hid hrun
      have HSMU : Hid (CSmall cu) := by rw [← hcu]; exact (HGOR.out.fits.uw p 1 data).small (by decide)
      clear hem hcu hrun
      by_cases he0 : em = 0
      · subst he0
        obtain ⟨u1, u2, u3, u4, u5, u6⟩ := uw_fine HINVR.out HEM.out
        rw [HCU.out] at u2 u3 u4 u5 u6
        have HU1' := Lib.hid u1
        have HU2' := Lib.hid u2
        have HU3' := Lib.hid u3
        have HU4' := Lib.hid u4
        have HU5' := Lib.hid u5
        have HU6' : Hid (cu.down = false) := u6.trans HPDR.out.2
        have HPLU : Hid (cu.plan.length ≤ 1000000) := by rw [← HCU.out, (uw_plan cs p 1 data).1]; exact HPLR.out
        clear u1 u2 u3 u4 u5 u6
        go_wp2_with fail
        refine HRUN.out.mono ?_
        rintro e wG ⟨rfl, hp⟩
        obtain ⟨FU2, MU2, hs⟩ := hp.stp
        have HSU := Lib.hid hs
        have HBG := Lib.hid (hs.below HBE.out HLU.out)
        have HLU2 : Hid (∀ q, MU2 q → w.heap.size ≤ q) := hs.low HLU.out HBE.out.size
        clear hp hs HRUN
        go_wp2_with fail
        refine (copy_any HSU.out.at_ HSMU.out HPLU.out).mono ?_
        rintro e wH ⟨bT, MT, rfl, hatT, hbT, hlT⟩
        obtain ⟨FT, hFT⟩ : ∃ X, grow FU2 wG wH MT = X := ⟨_, rfl⟩
        have hT1 := (copy_ap (w' := wH) HSU.out.at_ hlT).1
        rw [hFT] at hatT hT1
        have HATT := Lib.hid hatT
        have HT1 := Lib.hid hT1
        have HATUH := Lib.hid (HSU.out.at_.below hbT)
        have HBH := Lib.hid (HBG.out.trans (hbT.mono HBG.out.size))
        clear hatT hbT hlT hFT hT1
        go_wp2_with fail
        refine (crash_any FU2 MU2 bU cu 0 0 wH HATUH.out HSMU.out).mono ?_
        rintro e wI ⟨rfl, hp⟩
        obtain ⟨FU3, MU3, hs⟩ := hp.stp
        have HSU3 := Lib.hid hs
        have HBI := Lib.hid (hs.below HBH.out HLU2.out)
        have HATTI := Lib.hid (HATT.out.stay HT1.out hs.only)
        obtain ⟨cz, hcz⟩ : ∃ x, crC cu 0 0 = x := ⟨_, rfl⟩
        have HCZ : Hid (cz.here = cu.here) := by
          show cz.here = cu.here
          rw [← hcz, cr_sure HU6'.out HU5'.out 0 0]
          exact HU4'.out
        have HSMZ : Hid (CSmall cz) := by rw [← hcz, ← HCU.out]; exact (((HGOR.out.fits.uw p 1 data).cr 0 0)).small (by decide)
        have HATZ : Hid (FcAt FU3 wI bU cz MU3) := by rw [← hcz]; exact hs.at_
        clear hp hs hcz
        go_wp2_with fail
        refine (peek_any p HATZ.out HSMZ.out (Nat.le_trans HA.out (by decide))).mono ?_
        rw [HCZ.out, HU2'.out]
        rintro e wJ ⟨uJ, rfl, ⟨vJ, rfl, hoJ⟩, hbJ⟩
        obtain ⟨fz, hfz⟩ : ∃ f, peekF cu.here p = f := ⟨_, rfl⟩
        have hfd : fz.data = data := by rw [← hfz]; exact HU3'.out
        rw [hfz] at hoJ ⊢
        obtain ⟨AJ, kJ, rfl, _, _⟩ := hoJ.slv
        rw [hfd, List.length_map, HDN.out] at hoJ
        rw [hfd, List.length_map, HDN.out]
        have hba := hbJ.alloc hbJ.size (.cells #[.int .i64 fz.mode, .slice AJ dn kJ, .int .i64 fz.time] 46)
        have HBAJ := Lib.hid hba
        have HXJ : Hid (Blk (wJ.alloc (.cells #[.int .i64 fz.mode, .slice AJ dn kJ, .int .i64 fz.time] 46)) wJ.heap.size 46 #[.int .i64 fz.mode, .slice AJ dn kJ, .int .i64 fz.time]) := Blk.new _ _ _
        have HSJ : Hid (SlV (wJ.alloc (.cells #[.int .i64 fz.mode, .slice AJ dn kJ, .int .i64 fz.time] 46)) (.slice AJ dn kJ) (data.map bv)) := hoJ.slv.below ((Below.refl _ _).alloc (Nat.le_refl _) _)
        have HBJ := Lib.hid (HBI.out.trans (hba.mono HBI.out.size))
        clear hoJ hbJ hba hfz hfd
        go_wp2_with fail
        refine (first_any _).mono ?_
        rintro e wK ⟨rfl, hbK⟩
        have HBK := Lib.hid (HBJ.out.trans (hbK.mono HBJ.out.size))
        have HBIK := Lib.hid (HBAJ.out.trans (hbK.mono HBAJ.out.size))
        have hxk := HXJ.out.below hbK HXJ.out.lt
        have q1 := hxk.cell 1
        have HSK := Lib.hid (HSJ.out.below hbK)
        have HDK : Hid (SlV wK (.slice dA dn dc) (data.map bv)) := Rd.slv (by rw [List.length_map, HDN.out]; have h9 := HDVW.out wK HBK.out; unfold By at h9; rw [HDN.out] at h9; exact h9)
        clear hbK hxk
        go_wp2_with fail
        refine (tbytes_any AJ dA dn dn kJ dc data data _ HDN.out HDN.out HSK.out HDK.out true (by simp)).mono ?_
        rintro e wz ⟨rfl, rfl⟩
        clear q1
        go_wp2_with fail
        refine (alike_any FU3 MU3 FT MT bU bT cz cu wK (HATZ.out.below HBIK.out) (HATTI.out.below HBIK.out) HSMZ.out HSMU.out HCZ.out).mono ?_
        rintro e wL ⟨rfl, hbL⟩
        have HBL := Lib.hid (HBK.out.trans (hbL.mono HBK.out.size))
        clear hbL
        go_wp2_with fail
        refine (rpath_any p wL (Nat.le_trans HA.out (by decide))).mono ?_
        rw [HU1'.out]
        rintro e wM ⟨rfl, hbM⟩
        have HBM := Lib.hid (HBL.out.trans (hbM.mono HBL.out.size))
        clear hbM
        go_wp2_with fail
        go_ret
        exact ⟨by first | rfl | simp, HBM.out⟩
      · have e0 : (em != 0) = true := bne_iff_ne.2 he0
        have e0' : (em == 0) = false := beq_eq_false_iff_ne.2 he0
        have HSAME : Hid (cu = cs) := by
          show cu = cs
          rw [← HCU.out]
          exact uw_said (by rw [HEM.out]; exact he0)
        go_wp2_with fail
        refine HRUN.out.mono ?_
        rintro e wG ⟨rfl, hp⟩
        obtain ⟨FU2, MU2, hs⟩ := hp.stp
        have HSU := Lib.hid hs
        have HBG := Lib.hid (hs.below HBE.out HLU.out)
        have HATFG := Lib.hid (HATFE.out.stay HU3.out hs.only)
        clear hp hs HRUN
        go_wp2_with fail
        refine (first_any wG).mono ?_
        rintro e wH ⟨rfl, hbH⟩
        have HBH := Lib.hid (HBG.out.trans (hbH.mono HBG.out.size))
        have HATFH := Lib.hid (HATFG.out.below hbH)
        have HATUH := Lib.hid (HSU.out.at_.below hbH)
        clear hbH
        go_wp2_with fail
        refine (alike_any FU2 MU2 F' Mf bU b0 cu cs wH HATUH.out HATFH.out HSMU.out HSMR.out (by rw [HSAME.out])).mono ?_
        rintro e wI ⟨rfl, hbI⟩
        have HBI := Lib.hid (HBH.out.trans (hbI.mono HBH.out.size))
        clear hbI
        go_wp2_with fail
        go_ret
        exact ⟨rfl, HBI.out⟩
end Go.Proofs.YtaccejlalomaaaaGreat.Tx
