/- Texts put together: Hsf. -/
import Derived.Test.YtaccejlalomaaaaGreatQh59
/- marlaw5.FsimSafe: the walk. -/
set_option linter.unusedVariables false
set_option linter.unusedSimpArgs false
namespace Go.Proofs.YtaccejlalomaaaaGreat.Tx
open Go.RowKit Go.Maps Go.Proofs.YtaccejlalomaaaaGreat.Sh

section
variable {FW MW GG Z : Nat → Prop} {bw : Nat} {cw : CSt} {w wr w2 : World} {v : Value} {l : List LOp} {b d k : Nat} {F M : Nat → Prop} {cs c' : CSt} {s : FSM} {o : LOp}
theorem CalmInv.only (h : CalmInv FW MW bw cw GG w v l b d k wr F M cs s) (ho : Only Z wr w2) (hF : ∀ q, F q → ¬ Z q) (hM : ∀ q, M q → ¬ Z q) (hW : ∀ q, FW q ∨ MW q → ¬ Z q) (hZ : ∀ q, Z q → w.heap.size ≤ q) : CalmInv FW MW bw cw GG w v l b d k w2 F M cs s :=
  ⟨h.two.only ho hF hM, h.sub, h.goC, h.goM, h.inv, h.plan, h.down, h.ops.only ho (fun q hq => hF q (h.sub q hq)), h.was.only ho (fun q hq => hW q (.inl hq)) (fun q hq => hW q (.inr hq)), h.ap, h.low,
    h.below.trans ⟨ho.os, ho.tape, ho.output, ho.size, fun q hq => ho.block q (by have := h.below.size; omega) (fun hz => by have := hZ q hz; omega)⟩⟩
theorem CalmInv.does2 (h : CalmInv FW MW bw cw GG w v l b d k wr F M cs s) (hd : DoesR cs o c') (h0 : 0 ≤ o.kind) (h7 : o.kind ≤ 7) (hp : TwoPost F M wr b c' d (doesM s o) w2) (ho : OpOK o) : ∃ F' M', CalmInv FW MW bw cw GG w v l b d (k + 1) w2 F' M' c' (doesM s o) ∧ c' = doesC cs o ∧ Only M wr w2 ∧ (∀ q, F' q → F q ∨ wr.heap.size ≤ q) ∧ (∀ q, M' q → M q ∨ wr.heap.size ≤ q) := by
  obtain ⟨M1, h1, h2, h3⟩ := hp
  have hz2 := h.below.size
  have hc : c' = doesC cs o := hd.1 (by omega)
  have hq := quiet_does h.plan h.down h0 h7
  refine ⟨_, M1, ⟨h1, fun q hq => .inl (h.sub q hq), h.goC.doesR ho hd, h.goM.does ho, h.inv.doesR hd, by rw [hc]; exact hq.plan, by rw [hc]; exact hq.down, h.ops.only h2 (fun q hq => h.two.apart_ q (h.sub q hq)), h.was.stay h.ap h2, h.ap.step h.was h3, fun q hq => ?_, ?_⟩, hc, h2, fun q hq => ?_, h3⟩
  · rcases h3 q hq with h4 | h4
    · exact h.low q h4
    · omega
  · exact h.below.trans ⟨h2.os, h2.tape, h2.output, h2.size, fun q hq => h2.block q (by omega) (fun hm => by have := h.low q hm; omega)⟩
  · rcases hq with hq | hq
    · exact .inl hq
    · exact .inr hq.1
/-- Beside a loop of calm calls: the names, in a row of one's own. -/
structure SafeInv (B : Nat) (R0 : List RowM) (N : List (List UInt8)) (wr : World) (F M : Nat → Prop) (cs : CSt) (u : Value) : Prop where
  named : Named N R0 cs
  own : OwnV 9 wr B u ((N.map str).map sv)
  apart : ∀ q, u.ownBlock = some q → ¬ F q ∧ ¬ M q
theorem safe_app {B : Nat} {R0 : List RowM} {N : List (List UInt8)} {wa w5 : World} {u v5 : Value} {p q : List UInt8} (h : CalmInv FW MW bw cw GG w v l b d k wr F M cs s) (hs : SafeInv B R0 N wr F M cs u) (hBz : B ≤ wr.heap.size) (hwB : w.heap.size ≤ B) (hW : ∀ q, FW q ∨ MW q → q < B) (hwa : Below wr.heap.size wr wa)
    (ho5 : OwnV 9 w5 B v5 ((N.map str ++ [str p, str q]).map sv)) (hg5 : wa.grownBy w5 u.ownBlock) (hk5 : v5.ownBlock = u.ownBlock ∨ v5.ownBlock = some wa.heap.size) :
    CalmInv FW MW bw cw GG w v l b d k w5 F M cs s ∧ SafeInv B R0 (N ++ [p, q]) w5 F M cs v5 ∧ B ≤ w5.heap.size ∧ Only (fun k => u.ownBlock = some k) wr w5 ∧ ∀ k, GG k → ¬ (u.ownBlock = some k) := by
  have hon : Only (fun k => u.ownBlock = some k) wr w5 := (Only.of_below hwa).trans (M' := fun k => u.ownBlock = some k) ⟨hg5.os, hg5.tape, hg5.output, hg5.size, fun k hk hn => hg5.block k hk (fun e => hn e.symm)⟩ (fun k hk => .inl hk)
  have hF : ∀ k, F k → ¬ (u.ownBlock = some k) := fun k hk e => (hs.apart k e).1 hk
  have hM : ∀ k, M k → ¬ (u.ownBlock = some k) := fun k hk e => (hs.apart k e).2 hk
  have hz := hon.size
  refine ⟨h.only hon hF hM (fun k hk e => ?_) (fun k e => ?_), ⟨hs.named.more (fun x hx => List.mem_append_left _ hx), ?_, fun k hk => ?_⟩, by omega, hon, fun k hk => hF k (h.sub k hk)⟩
  · have := hW k hk
    have := (hs.own.lt k e).1
    omega
  · have := (hs.own.lt k e).1
    omega
  · rw [List.map_append]
    exact ho5
  · rcases hk5 with hk5 | hk5
    · exact hs.apart k (hk5.symm.trans hk)
    · rw [hk5] at hk
      injection hk with hk
      subst hk
      have h1 := hwa.size
      exact ⟨fun hf => by have := h.two.low _ hf; omega, fun hm => by have := h.two.lt _ hm; omega⟩
end
set_option linter.unusedSimpArgs false in
set_option maxRecDepth 100000 in
set_option maxHeartbeats 25600000 in
theorem safe_any (G : Nat → Prop) (room : Int) (v : Value) (l : List LOp) (v2 : Value) (l2 : List LOp) (keep torn : Int) (w : World) (h : OpsF G w v l) (hG : ∀ k, G k → k < w.heap.size) (hdl : ∀ o ∈ l, o.data.length ≤ 140737488351232 ∧ ∀ e ∈ o.plan, e.data.length ≤ 140737488351232)
    (h2 : OpsF G w v2 l2) (hdl2 : ∀ o ∈ l2, o.data.length ≤ 140737488351232 ∧ ∀ e ∈ o.plan, e.data.length ≤ 140737488351232) : Calls Tryz.prog 5 #[.int .i64 room, v, v2, .int .i64 keep, .int .i64 torn] w (Yes w) := by
  have HL := Lib.hid h
  have HL2 := Lib.hid h2
  have HG := Lib.hid hG
  have HDL := Lib.hid hdl
  have HDL2 := Lib.hid hdl2
  obtain ⟨A2, k2, rfl, _, _, _⟩ := h2
  obtain ⟨n2, hn2⟩ : ∃ n, l2.length = n := ⟨_, rfl⟩
  have HN2 := Lib.hid hn2
  rw [hn2] at HL2 ⊢
  clear h hG hdl hdl2 hn2
  go_enter Tryz.func5, Tryz.ntmps5
  go_wp2_with fail
  refine (first_any w).mono ?_
  rintro e w1 ⟨rfl, hb1⟩
  have HB1 := Lib.hid hb1
  clear hb1
  go_wp2_with fail
  refine (played_any G room v l w1 (HL.out.below HB1.out) (fun k hk => Nat.lt_of_lt_of_le (HG.out k hk) HB1.out.size) HDL.out).mono ?_
  rintro e w2 ⟨hb2, rfl | ⟨b0, F, M, c, rfl, hsub, hat, hlow, hinv, hkept, hroom, hgo⟩⟩
  · have HB2 := Lib.hid (HB1.out.trans (hb2.mono HB1.out.size))
    clear hb2
    go_wp2_with fail
    refine (first_any w2).mono ?_
    rintro e wf ⟨rfl, hbf⟩
    have HBF := Lib.hid (HB2.out.trans (hbf.mono HB2.out.size))
    clear hbf
    go_wp2_with fail
    go_ret
    exact ⟨rfl, HBF.out⟩
  have HB2 := Lib.hid (HB1.out.trans (hb2.mono HB1.out.size))
  have HAT := Lib.hid hat
  have HSUB := Lib.hid hsub
  have HLOW : Hid (∀ k, M k → w.heap.size ≤ k) := fun k hk => by have := hlow k hk; have := HB1.out.size; omega
  have HINV := Lib.hid hinv
  have HGO := Lib.hid hgo
  clear hb2 hat hlow hinv hkept hroom hgo hsub
  go_wp2_with fail
  refine (few_any G _ l2 w2 (by have := HL2.out.below HB2.out; rw [← HN2.out] at this ⊢; exact this)).mono ?_
  rintro e w3 ⟨t, rfl, ht, hb3⟩
  have HB3 := Lib.hid (HB2.out.trans (hb3.mono HB2.out.size))
  have HAT3 := Lib.hid (HAT.out.below hb3)
  have HF := Lib.hid ht
  clear hb3 ht
  cases t with
  | false =>
    go_wp2_with fail
    refine (first_any w3).mono ?_
    rintro e wf ⟨rfl, hbf⟩
    have HBF := Lib.hid (HB3.out.trans (hbf.mono HB3.out.size))
    clear hbf
    go_wp2_with fail
    go_ret
    exact ⟨rfl, HBF.out⟩
  | true =>
  have HFW := Lib.hid (HF.out rfl)
  clear HF
  have hn100 : n2 ≤ 100 := by have := HFW.out.1; rw [HN2.out] at this; exact this
  go_wp2_with fail
  refine (plan_any F M b0 c (.slice none 0 0) [] w3 HAT3.out (InL.nil_ evK F w3).tmp (Nat.zero_le _) (fun e he => by cases he)).mono ?_
  rintro e w4 ⟨rfl, R, hR, hp⟩
  obtain rfl := planR_nil hR
  obtain ⟨F4, M4, hs4⟩ := hp.stp
  have HS4 := Lib.hid hs4
  have HB4 := Lib.hid (hs4.below HB3.out HLOW.out)
  have HLOW4 : Hid (∀ k, M4 k → w.heap.size ≤ k) := hs4.low HLOW.out HB3.out.size
  clear hR hp hs4
  go_wp2_with fail
  refine (reboot_any HS4.out.at_).mono ?_
  rintro e w5 ⟨rfl, hp⟩
  obtain ⟨F5, M5, hs5⟩ := hp.stp
  have HS5 := Lib.hid hs5
  have HB5 := Lib.hid (hs5.below HB4.out HLOW4.out)
  have HLOW5 : Hid (∀ k, M5 k → w.heap.size ≤ k) := hs5.low HLOW4.out HB4.out.size
  clear hp hs5
  obtain ⟨c5, hc5⟩ : ∃ x : CSt, x = { { c with plan := [] } with down := false } := ⟨_, rfl⟩
  have HPD : Hid (c5.plan = [] ∧ c5.down = false) := by rw [hc5]; exact ⟨rfl, rfl⟩
  have HAT5 : Hid (FcAt F5 w5 b0 c5 M5) := by rw [hc5]; exact HS5.out.at_
  have HINV5 : Hid (InvC c5) := HINV.out.same (by rw [hc5]) (by rw [hc5]) (by rw [hc5]) (by rw [hc5])
  have HGO5 : Hid (GoC c5 100) := by rw [hc5]; exact (HGO.out.planned (Nat.zero_le _) (fun e he => by cases he)).up
  have HSUB5 : Hid (∀ q, G q → F5 q) := fun q hq => HS5.out.sub q (HS4.out.sub q (HSUB.out q hq))
  clear hc5 HS4 HS5 HAT HAT3 HINV HGO HLOW HLOW4 HSUB
  have HE0 : Hid (bgE c5 = 0) := (bg_calm HPD.out.1 HPD.out.2).2
  go_wp2_with fail
  refine (syncf_any F5 M5 b0 c5 13000 w5 HAT5.out (HGO5.out.ready (by decide))).mono ?_
  rw [HE0.out]
  rintro e w6 ⟨rfl, hp⟩
  obtain ⟨F6, M6, hs6⟩ := hp.stp
  have HS6 := Lib.hid hs6
  have HB6 := Lib.hid (hs6.below HB5.out HLOW5.out)
  have HLOW6 : Hid (∀ k, M6 k → w.heap.size ≤ k) := hs6.low HLOW5.out HB5.out.size
  have HSUB6 : Hid (∀ q, G q → F6 q) := fun q hq => hs6.sub q (HSUB5.out q hq)
  obtain ⟨c6, hc6⟩ : ∃ x : CSt, x = synC c5 := ⟨_, rfl⟩
  have hsc := syn_calm HPD.out.1 HPD.out.2
  have HPD6 : Hid (c6.plan = [] ∧ c6.down = false ∧ c6.durable = c6.here ∧ c6.pending = []) := by
    rw [hc6, hsc]
    refine ⟨HPD.out.1, HPD.out.2, ?_, rfl⟩
    show c5.pending.foldl applyC c5.durable = c5.here
    rw [HINV5.out.here, foldC_all _ _ (Nat.le_refl _)]
  have HAT6 : Hid (FcAt F6 w6 b0 c6 M6) := by rw [hc6]; exact hs6.at_
  have HINV6 : Hid (InvC c6) := by rw [hc6]; exact HINV5.out.syn
  have HGO6 : Hid (GoC c6 101) := by rw [hc6]; exact HGO5.out.syn
  clear hp hs6 hc6 hsc HS6 HAT5 HINV5 HGO5 HLOW5 HSUB5 HPD HE0
  have HSM6 : Hid (CSmall c6) := HGO6.out.small (by decide)
  go_wp2_with fail
  refine (copy_any HAT6.out HSM6.out (Nat.le_trans HGO6.out.plan (by decide))).mono ?_
  rintro e w7 ⟨bw, MW, rfl, hatw, hb7, hloww⟩
  obtain ⟨FW, hFW⟩ : ∃ X, grow F6 w6 w7 MW = X := ⟨_, rfl⟩
  obtain ⟨hap1, hap2⟩ := copy_ap (w' := w7) HAT6.out hloww
  rw [hFW] at hatw hap1
  have HATW := Lib.hid hatw
  have HAPW := Lib.hid hap1
  have HAT7 := Lib.hid (HAT6.out.below hb7)
  have HB7 := Lib.hid (HB6.out.trans (hb7.mono HB6.out.size))
  clear hatw hb7 hloww hap1 hap2 hFW
  go_wp2_with fail
  refine (calm_any G (.slice A2 n2 k2) l2 w7 (HL2.out.below HB7.out) (by rw [HN2.out]; omega) (fun k hk => Nat.lt_of_lt_of_le (HG.out k hk) HB7.out.size)).mono ?_
  rintro e w8 ⟨v8, els, rfl, ho8, hm8, hb8⟩
  obtain ⟨A8, k8, hv8, _, _⟩ := ho8.slice
  subst hv8
  have HOPS : Hid (OpsF (fun k => G k ∨ (w7.heap.size ≤ k ∧ k < w8.heap.size)) w8 (.slice A8 els.length k8) (els.map OpS.o)) := ho8.ops (fun k hk => .inl hk) (fun k h1 h2 => .inr ⟨h1, h2⟩)
  have HCALM : Hid (∀ o ∈ els.map OpS.o, OpOK o ∧ 0 ≤ o.kind ∧ o.kind ≤ 7 ∧ ∀ e ∈ o.plan, e.data.length ≤ 140737488351232) := fun o ho => by
    rw [hm8] at ho
    obtain ⟨h1, h2⟩ := List.mem_filter.1 ho
    have hf := HFW.out.2 o h1
    have hd := HDL2.out o h1
    unfold calmB at h2
    rw [Bool.and_eq_true] at h2
    exact ⟨⟨hf.path, hf.dest, hd.1, hf.plan, hf.paths⟩, of_decide_eq_true h2.2, of_decide_eq_true h2.1, hd.2⟩
  have hmn : els.length ≤ 100 := by
    have h1 := congrArg List.length hm8
    have h2 := List.length_filter_le calmB l2
    rw [List.length_map] at h1
    have := HN2.out
    omega
  obtain ⟨mn, hmm⟩ : ∃ m, els.length = m := ⟨_, rfl⟩
  rw [hmm] at HOPS hmn
  rw [hmm]
  have HMN : Hid ((els.map OpS.o).length = mn) := by rw [← hmm]; show (els.map OpS.o).length = els.length; exact List.length_map _
  generalize els.map OpS.o = lm at HOPS HCALM HMN
  have HAT8 : Hid (FcAt (fun k => F6 k ∨ (w7.heap.size ≤ k ∧ k < w8.heap.size)) w8 b0 c6 M6) := (HAT7.out.below hb8).mono_ (fun k hk => .inl hk) (fun k hk hm => by
    rcases hk with hk | hk
    · exact HAT7.out.apart_ k hk hm
    · have := HAT7.out.lt k hm; omega) (fun k hk => by
    rcases hk with hk | hk
    · have := HAT7.out.low k hk; have := hb8.size; omega
    · exact hk.2)
  have HATW8 := Lib.hid (HATW.out.below hb8)
  have HB8 := Lib.hid (HB7.out.trans (hb8.mono HB7.out.size))
  have HZ78 : Hid (w7.heap.size ≤ w8.heap.size) := hb8.size
  have HSUB8 : Hid (∀ k, (G k ∨ (w7.heap.size ≤ k ∧ k < w8.heap.size)) → (F6 k ∨ (w7.heap.size ≤ k ∧ k < w8.heap.size))) := fun k hk => hk.imp (HSUB6.out k) id
  clear ho8 hm8 hb8 hmm
  obtain ⟨GG, hGG⟩ : ∃ X : Nat → Prop, (fun k => G k ∨ (w7.heap.size ≤ k ∧ k < w8.heap.size)) = X := ⟨_, rfl⟩
  obtain ⟨F8, hF8⟩ : ∃ X : Nat → Prop, (fun k => F6 k ∨ (w7.heap.size ≤ k ∧ k < w8.heap.size)) = X := ⟨_, rfl⟩
  rw [hGG] at HOPS
  rw [hF8] at HAT8
  have HSUBG : Hid (∀ k, GG k → F8 k) := by rw [← hGG, ← hF8]; exact HSUB8.out
  clear hGG hF8 HSUB8
  have HNB : Hid (newB 1073741824 = true) := by show newB 1073741824 = true; decide
  go_wp2_with fail
  refine (rnew_any F8 1073741824 w8 (fun k hk => HAT8.out.low k hk)).mono ?_
  rintro e w9 ⟨hb9, ⟨hy, _⟩ | ⟨_, d, hdz, rfl, hat2⟩⟩
  · rw [HNB.out] at hy
    cases hy
  have HT : Hid (TwoAt F8 w9 b0 c6 d (newM 1073741824) (fun k => M6 k ∨ k = d)) := ⟨M6, _, ⟨HAT8.out.below hb9, hat2, fun k hk e => by have := HAT8.out.lt k hk; subst e; omega⟩, fun _ => Iff.rfl⟩
  have HDZ := Lib.hid hdz
  have HB9 := Lib.hid (HB8.out.trans (hb9.mono HB8.out.size))
  have HATW9 := Lib.hid (HATW8.out.below hb9)
  have HOPS9 := Lib.hid (HOPS.out.below hb9)
  have HAP9 : Hid (Ap FW MW (fun k => M6 k ∨ k = d)) := fun k hk => by
    rcases hk with hk | rfl
    · exact HAPW.out k hk
    · exact ⟨fun hf => by have := HATW.out.low k hf; have := HDZ.out; have := HZ78.out; omega, fun hm => by have := HATW.out.lt k hm; have := HDZ.out; have := HZ78.out; omega⟩
  have HLOW9 : Hid (∀ q, M6 q ∨ q = d → w.heap.size ≤ q) := fun q hq => by
    rcases hq with hq | hq
    · exact HLOW6.out q hq
    · have := HB8.out.size; have := HDZ.out; omega
  clear hb9 hat2 hdz
  have HZ9 : Hid (∀ q, FW q ∨ MW q → q < w9.heap.size) := fun q hq => by
    rcases hq with hq | hq
    · have := HATW9.out.low q hq; exact this
    · have := HATW9.out.lt q hq; exact this
  have HB9W : Hid (w.heap.size ≤ w9.heap.size) := HB9.out.size
  obtain ⟨base, hbase⟩ : ∃ x, w9.heap.size = x := ⟨_, rfl⟩
  rw [hbase] at HZ9 HB9W
  have HBASE := Lib.hid hbase
  clear hbase
  go_wp2_with fail
  go_loopw [16, 17] (fun u i wr => ∃ (k : Nat) (F M : Nat → Prop) (cs : CSt) (s : FSM), k ≤ mn ∧ i = .int .i64 k ∧ CalmInv FW MW bw c6 GG w (.slice A8 mn k8) lm b0 d k wr F M cs s ∧ SafeInv base c6.here (namesO (lm.take k)) wr F M cs u ∧ base ≤ wr.heap.size) (fun _ i _ => mn - (intOf i).toNat)
  case atStart => exact ⟨0, F8, _, c6, newM 1073741824, Nat.zero_le _, rfl, ⟨HT.out, HSUBG.out, HGO6.out.more (by omega), (GoM.new_ 1073741824).more (by omega), HINV6.out, HPD6.out.1, HPD6.out.2.1, HOPS9.out, HATW9.out, HAP9.out, HLOW9.out, HB9.out⟩, ⟨Named.start HPD6.out.2.2.1 HPD6.out.2.2.2, OwnV.nil_ _ _, fun q hq => by cases hq⟩, Nat.le_of_eq HBASE.out.symm⟩
  case round =>
    obtain ⟨k, F', M', cs, s, hk, rfl, hinv, hsafe, hbz⟩ := hrel
    obtain ⟨A16, n16, k16, hu16⟩ : ∃ A n c, u16 = .slice A n c := by
      obtain ⟨A, c, e, _, _⟩ := hsafe.own.length
      exact ⟨_, _, _, e⟩
    subst hu16
    have HI := Lib.hid hinv
    have HSF := Lib.hid hsafe
    have HBZ := Lib.hid hbz
    clear hinv hsafe hbz
    have k0 : (0 : Int) ≤ (k : Int) := by omega
    by_cases hlt : k < mn
    · have k1 : (k : Int) < (mn : Int) := by omega
      have hkl : k < lm.length := by rw [HMN.out]; exact hlt
      obtain ⟨A', c', hv, _, _, hat⟩ := HI.out.ops
      injection hv with e1 e2 e3
      subst e1
      clear e2 e3
      obtain ⟨ad, dv', pv, rfl, hGa, hal, hoc⟩ := hat k lm[k] (List.getElem?_eq_getElem hkl)
      clear hat
      have HFO := Lib.hid (HCALM.out lm[k] (List.getElem_mem hkl))
      have HTK : Hid (namesO (lm.take (k + 1)) = namesO (lm.take k) ++ [lm[k].path, lm[k].dest]) := by
        show namesO (lm.take (k + 1)) = _
        rw [show lm.take (k + 1) = lm.take k ++ [lm[k]] from List.take_succ_eq_append_getElem hkl, namesO_app]
        rfl
      have HTL : Hid ((namesO (lm.take k)).length ≤ 200) := by
        show (namesO (lm.take k)).length ≤ 200
        have h1 : ∀ m : List LOp, (namesO m).length = 2 * m.length := fun m => by
          induction m with
          | nil => rfl
          | cons a m ih => show (a.path :: a.dest :: namesO m).length = _; simp only [List.length_cons, ih]; omega
        rw [h1, List.length_take]
        omega
      generalize lm[k] = o at *
      clear hkl
      obtain ⟨kd, mo, ke, tn, pa, de, da, pl⟩ := o
      obtain ⟨hdv, hplan, x0, x1, x2, x3, x4, x5, x6, x7⟩ := hoc
      obtain ⟨oA, oc, rfl, _, _⟩ := hdv.slice
      obtain ⟨pA, pc, rfl, _, _⟩ := evs_slice hplan.tmp
      dsimp only at x0 x1 x2 x3 x4 x5 x6 x7
      have HGA := Lib.hid hGa
      have HAL := Lib.hid hal
      have HOC : Hid (OpCells GG wr (ad.add (k * 8)) ⟨kd, mo, ke, tn, pa, de, da, pl⟩ (.slice oA da.length oc) (.slice pA pl.length pc)) := ⟨hdv, hplan, x0, x1, x2, x3, x4, x5, x6, x7⟩
      have HOWNA : Hid (OwnV 9 (wr.drew.alloc (.cells #[.string (str pa), .string (str de)] 9)) base (.slice A16 n16 k16) (((namesO (lm.take k)).map str).map sv)) := by
        have h1 : OwnV 9 wr.drew base (.slice A16 n16 k16) (((namesO (lm.take k)).map str).map sv) := HSF.out.own
        exact h1.alloc _
      have HBKA : Hid (Blk (wr.drew.alloc (.cells #[.string (str pa), .string (str de)] 9)) wr.heap.size 9 #[.string (str pa), .string (str de)]) := Blk.new wr.drew _ _
      have HZA : Hid (base ≤ (wr.drew.alloc (.cells #[.string (str pa), .string (str de)] 9)).heap.size) := by
        show base ≤ _
        have h1 := HBZ.out
        have h2 : wr.heap.size ≤ (wr.drew.alloc (.cells #[.string (str pa), .string (str de)] 9)).heap.size := by simp
        omega
      have HBWA : Hid (Below wr.heap.size wr (wr.drew.alloc (.cells #[.string (str pa), .string (str de)] 9))) := ((Below.refl _ _).drew).alloc (Nat.le_refl _) _
      clear hdv hplan hGa hal x0 x1 x2 x3 x6 x7
      have HOWNB : Hid (OwnV 9 (wr.alloc (.cells #[.string (str pa), .string (str de)] 9)) base (.slice A16 n16 k16) (((namesO (lm.take k)).map str).map sv)) := by
        have h1 : OwnV 9 wr base (.slice A16 n16 k16) (((namesO (lm.take k)).map str).map sv) := HSF.out.own
        exact h1.alloc _
      have HBKB : Hid (Blk (wr.alloc (.cells #[.string (str pa), .string (str de)] 9)) wr.heap.size 9 #[.string (str pa), .string (str de)]) := Blk.new wr _ _
      have HBWB : Hid (Below wr.heap.size wr (wr.alloc (.cells #[.string (str pa), .string (str de)] 9))) := (Below.refl _ _).alloc (Nat.le_refl _) _
      have x4a : (wr.alloc (.cells #[.string (str pa), .string (str de)] 9)).cell? ⟨(ad.add (k * 8)).block, (ad.add (k * 8)).off + 4, none⟩ = some (.string (str pa)) := Lib.cell?_alloc_some _ x4
      have x5a : (wr.alloc (.cells #[.string (str pa), .string (str de)] 9)).cell? ⟨(ad.add (k * 8)).block, (ad.add (k * 8)).off + 5, none⟩ = some (.string (str de)) := Lib.cell?_alloc_some _ x5
      go_upto_region 19 with (fail)
      go_cut [16] (fun u wx => ∃ A5 n5 k5 wa, u = Value.slice A5 n5 k5 ∧ Below wr.heap.size wr wa ∧ OwnV 9 wx base (.slice A5 n5 k5) (((namesO (lm.take k)).map str ++ [str pa, str de]).map sv) ∧ wa.grownBy wx (Value.slice A16 n16 k16).ownBlock ∧ ((Value.slice A5 n5 k5).ownBlock = (Value.slice A16 n16 k16).ownBlock ∨ (Value.slice A5 n5 k5).ownBlock = some wa.heap.size))
      case first =>
        go_region_law (refine step_names (v := .slice A16 n16 k16) (g := wr.heap.size) (p := str pa) (q := str de) rfl (.tmp 60) (.tmp 71) rfl (by first | exact HOWNB.out | exact HOWNA.out | exact HOWNB.out.drew) (by first | exact HBKB.out | exact HBKA.out) (by rfl) (by rfl) (by have h9 := HTL.out; rw [List.length_map]; exact Nat.le_trans (Nat.add_le_add_right h9 2) (by decide)) (by exact HZA.out) ?_; intro v5 w5 ho5 hg5 hk5; obtain ⟨A5, n5, k5, hv5⟩ : ∃ A n c, v5 = .slice A n c := (by obtain ⟨A, c, e, _, _⟩ := ho5.length; exact ⟨_, _, _, e⟩); subst hv5; have HO5 := Lib.hid ho5; have HG5 := Lib.hid hg5; have HK5 := Lib.hid hk5; clear ho5 hg5 hk5)
        all_goals
          go_wp2_with fail
          go_meet
          exact ⟨_, _, _, _, rfl, by first | exact HBWB.out | exact HBWA.out | exact HBWB.out.drew, HO5.out, HG5.out, HK5.out⟩
      case rest =>
      obtain ⟨A5, n5, k5, wa, rfl, hwa, ho5, hg5, hk5⟩ := hcut
      obtain ⟨hI5, hS5, hB5, hon5, hgg⟩ := safe_app HI.out HSF.out HBZ.out HB9W.out HZ9.out hwa ho5 hg5 hk5
      have hoc5 := HOC.out.only hon5 hgg (by rw [addr_block]; exact HGA.out) (by rw [addr_block]; exact HAL.out)
      have HI5 := Lib.hid hI5
      have HS5 := Lib.hid hS5
      have HB5 := Lib.hid hB5
      have HOC5 := Lib.hid hoc5
      obtain ⟨_, _, z0, z1, z2, z3, z4, z5, z6, z7⟩ := hoc5
      dsimp only at z0 z1 z2 z3 z4 z5 z6 z7
      clear ho5 hg5 hk5 hI5 hS5 hB5 hon5 hgg x4 x5 x4a x5a hwa
      go_wp2_with fail
      have hdo := does_all F' M' b0 d cs s (110 + k) ⟨kd, mo, ke, tn, pa, de, da, pl⟩ (.slice oA da.length oc) (.slice pA pl.length pc) GG wc HI5.out.two HI5.out.goC HI5.out.goM (by omega) HFO.out.1 HOC5.out.data (fun q hq => HI5.out.two.apart_ q (HI5.out.sub q hq)) (HOC5.out.plan.mono (fun q _ hq => HI5.out.sub q hq)) HFO.out.2.2.2
      unfold opV at hdo
      refine hdo.mono ?_
      clear hdo
      rintro e w6' ⟨t6, c6', rfl, hdr, hp6⟩
      obtain ⟨F6', M6', hinv6, he6, ho6, hf6, hm6⟩ := HI5.out.does2 hdr HFO.out.2.1 HFO.out.2.2.1 hp6 HFO.out.1
      have HI6 := Lib.hid hinv6
      have HSN : Hid (SafeInv base c6.here (namesO (lm.take (k + 1))) w6' F6' M6' c6' (.slice A5 n5 k5)) := by
        rw [HTK.out]
        refine ⟨?_, ho6.own HS5.out.own (fun q hq => (HS5.out.apart q hq).2), fun q hq => ?_⟩
        · rw [he6]
          exact HS5.out.named.does HI5.out.plan HI5.out.down HFO.out.2.1 HFO.out.2.2.1 (List.mem_append_right _ (List.mem_cons_self)) (List.mem_append_right _ (List.mem_cons_of_mem _ List.mem_cons_self))
        · have h1 := HS5.out.apart q hq
          have h2 := (HS5.out.own.lt q hq).2
          exact ⟨fun h => by rcases hf6 q h with h3 | h3; exact h1.1 h3; omega, fun h => by rcases hm6 q h with h3 | h3; exact h1.2 h3; omega⟩
      have HBN : Hid (base ≤ w6'.heap.size) := Nat.le_trans HB5.out ho6.size
      clear hdr hp6 hinv6 he6 ho6 hf6 hm6 z0 z1 z2 z3 z4 z5 z6 z7
      go_wp2_with fail
      go_roundw
      case rel => exact ⟨k + 1, F6', M6', _, _, by omega, by go_num, HI6.out, HSN.out, HBN.out⟩
      case measure => simp [intOf]; omega
    · obtain rfl : k = mn := by omega
      obtain ⟨Mf, Mx, hx, hmm⟩ := HI.out.two
      have HATF : Hid (FcAt F' wr b0 cs Mf) := hx.f
      have HLOWF : Hid (∀ q, Mf q → w.heap.size ≤ q) := fun q hq => HI.out.low q ((hmm q).2 (.inl hq))
      have HWF : Hid (Ap FW MW Mf) := fun q hq => HI.out.ap q ((hmm q).2 (.inl hq))
      have HATWR := Lib.hid HI.out.was
      have HBR := Lib.hid HI.out.below
      have HGOR : Hid (GoC cs 210) := HI.out.goC.more (by omega)
      have HINVR := Lib.hid HI.out.inv
      have HPDR : Hid (cs.plan = [] ∧ cs.down = false) := ⟨HI.out.plan, HI.out.down⟩
      have HNM : Hid (Named (namesO (lm.take k)) c6.here cs) := HSF.out.named
      have HNO : Hid (OwnV 9 wr base (.slice A16 n16 k16) (((namesO (lm.take k)).map str).map sv)) := HSF.out.own
      have HNF : Hid (∀ q, (Value.slice A16 n16 k16).ownBlock = some q → ¬ Mf q) := fun q hq hm => (HSF.out.apart q hq).2 ((hmm q).2 (.inl hm))
      obtain ⟨N, hN⟩ : ∃ N, namesO (lm.take k) = N := ⟨_, rfl⟩
      rw [hN] at HNM HNO
      clear hx hmm HI HSF hN
      have HSMR : Hid (CSmall cs) := HGOR.out.small (by decide)
      go_wp2_with fail
      refine (crash_any F' Mf b0 cs keep torn wr HATF.out HSMR.out).mono ?_
      rintro e wA ⟨rfl, hp⟩
      obtain ⟨FA, MA, hs⟩ := hp.stp
      obtain ⟨cz, hcz⟩ : ∃ x, crC cs keep torn = x := ⟨_, rfl⟩
      have HATA : Hid (FcAt FA wA b0 cz MA) := by rw [← hcz]; exact hs.at_
      have HBA := Lib.hid (hs.below HBR.out HLOWF.out)
      have HATWA := Lib.hid (HATWR.out.stay HWF.out hs.only)
      have HNA : Hid (SlV wA (.slice A16 n16 k16) ((N.map str).map sv)) := (hs.only.own HNO.out HNF.out).slv
      have HSMZ : Hid (CSmall cz) := by rw [← hcz]; exact (HGOR.out.fits.cr keep torn).small (by decide)
      have HLIKE : Hid (∀ r : RowM, r ∈ c6.here → r.path ∉ N → peekB cz.here r.path = true ∧ peekF cz.here r.path = peekF c6.here r.path) := fun r hr hn => by
        rw [← hcz]
        exact peek_like HINV6.out.rows.ord ((HINVR.out.cr keep torn).rows.ord) (fun r hr => HNM.out.crash HPDR.out.2 keep torn hr) hr hn
      have HAFT : Hid (cz.pending.length = 0 ∧ cz.down = true) := by
        rw [← hcz]
        obtain ⟨h1, h2⟩ := cr_after HPDR.out.2 keep torn
        exact ⟨by rw [h1]; rfl, h2⟩
      clear hp hs hcz
      go_wp2_with fail
      refine (paths_any HATWA.out HSM6.out).mono ?_
      rintro e wB ⟨vB, rfl, hoB, hbB⟩
      obtain ⟨R0, hR0⟩ : ∃ R, c6.here = R := ⟨_, rfl⟩
      rw [hR0] at HLIKE hoB
      have HR0 := Lib.hid hR0
      obtain ⟨ps, hps⟩ : ∃ ps, (pathsM R0).map str = ps := ⟨_, rfl⟩
      rw [hps] at hoB
      have HLP : Hid (∀ k x, ps[k]? = some x → ∃ r : RowM, r ∈ R0 ∧ x = str r.path ∧ r.path.length ≤ 1000) := fun k x hx => by
        rw [← hps, List.getElem?_map] at hx
        unfold pathsM at hx
        rw [List.getElem?_map] at hx
        cases hr : R0[k]? with
        | none => rw [hr] at hx; cases hx
        | some r =>
          rw [hr] at hx
          injection hx with hx
          exact ⟨r, List.mem_of_getElem? hr, hx.symm, (HSM6.out.hrow r (by rw [hR0]; exact List.mem_of_getElem? hr)).1⟩
      obtain ⟨AB, kB, hvB, _, _, _⟩ := hoB.slv
      subst hvB
      obtain ⟨pn, hpn⟩ : ∃ n, (ps.map sv).length = n := ⟨_, rfl⟩
      have hvB' := hoB.slv
      rw [hpn] at hvB'
      rw [hpn]
      have HPN : Hid (ps.length = pn) := by rw [← hpn]; show ps.length = (ps.map sv).length; simp
      have HVB := Lib.hid hvB'
      have hpnb : pn ≤ 900000 := by
        rw [← hpn, ← hps, ← hR0]
        have h1 := HSM6.out.here
        have h2 : (((pathsM c6.here).map str).map sv).length = c6.here.length := by unfold pathsM; simp
        omega
      have HBB := Lib.hid (HBA.out.trans (hbB.mono HBA.out.size))
      have HATAB := Lib.hid (HATA.out.below hbB)
      have HATWB := Lib.hid (HATWA.out.below hbB)
      have HNB2 := Lib.hid (HNA.out.below hbB)
      clear hoB hbB hR0 hps hpn hvB'
      go_wp2_with fail
      go_loopw [19] (fun i wr => ∃ k : Nat, k ≤ pn ∧ i = .int .i64 k ∧ Below wB.heap.size wB wr) (fun i _ => pn - (intOf i).toNat)
      case atStart => exact ⟨0, Nat.zero_le _, rfl, Below.refl _ _⟩
      case round =>
        obtain ⟨j, hj, rfl, hb⟩ := hrel
        have HB := Lib.hid hb
        clear hb
        have z0 : (0 : Int) ≤ (j : Int) := by omega
        by_cases hlt2 : j < pn
        · have z1 : (j : Int) < (pn : Int) := by omega
          have hjl : j < ps.length := by rw [HPN.out]; exact hlt2
          obtain ⟨r, hr, hx, hxl⟩ := HLP.out j ps[j] (List.getElem?_eq_getElem hjl)
          obtain ⟨ad, rfl⟩ : ∃ ad, AB = some ad := by
            obtain ⟨A', c', hv', _, _, hR, _⟩ := HVB.out
            injection hv' with e1 _ _
            subst e1
            rw [List.length_map] at hR
            obtain ⟨ad, e, _⟩ := texts_at hR j hjl
            exact ⟨ad, e⟩
          have HCL : Hid (∀ W, Below wr.heap.size wr W → W.cell? (ad.add j) = some (.string (str r.path))) := fun W hW => by
            obtain ⟨A', c', hv', _, _, hR, _⟩ := HVB.out.below (HB.out.trans (hW.mono HB.out.size))
            injection hv' with e1 _ _
            subst e1
            rw [List.length_map] at hR
            obtain ⟨ad', e, hc⟩ := texts_at hR j hjl
            injection e with e
            subst e
            rw [hc, hx]
          have hcell := HCL.out wr (Below.refl _ _)
          have HPL : Hid (r.path.length ≤ 1000) := hxl
          have HRM := Lib.hid hr
          clear hjl hx hxl hr
          go_wp2_with fail
          refine (peek_any r.path (HATWB.out.below HB.out) HSM6.out (Nat.le_trans HPL.out (by decide))).mono ?_
          rw [HR0.out]
          rintro e w4 ⟨u4, rfl, ⟨v4, rfl, ho4⟩, hb4⟩
          obtain ⟨f, hf⟩ : ∃ f, peekF R0 r.path = f := ⟨_, rfl⟩
          obtain ⟨st, hst⟩ : ∃ t, peekB R0 r.path = t := ⟨_, rfl⟩
          rw [hf] at ho4 ⊢
          rw [hst]
          have HF := Lib.hid hf
          obtain ⟨A4, c4, rfl, _, _⟩ := ho4.slv
          rw [List.length_map] at ho4 ⊢
          obtain ⟨fl, hfl⟩ : ∃ l, f.data.length = l := ⟨_, rfl⟩
          rw [hfl] at ho4 ⊢
          have HFL := Lib.hid hfl
          have hba := hb4.alloc hb4.size (.cells #[.int .i64 f.mode, .slice A4 fl c4, .int .i64 f.time] 46)
          have hcell4 := HCL.out _ hba
          have HBA4 := Lib.hid hba
          have HX4 : Hid (Blk (w4.alloc (.cells #[.int .i64 f.mode, .slice A4 fl c4, .int .i64 f.time] 46)) w4.heap.size 46 #[.int .i64 f.mode, .slice A4 fl c4, .int .i64 f.time]) := Blk.new _ _ _
          have HS4 : Hid (SlV (w4.alloc (.cells #[.int .i64 f.mode, .slice A4 fl c4, .int .i64 f.time] 46)) (.slice A4 fl c4) (f.data.map bv)) := ho4.slv.below ((Below.refl _ _).alloc (Nat.le_refl _) _)
          clear ho4 hb4 hba hf hst hfl hcell
          go_wp2_with fail
          refine (peek_any r.path (HATAB.out.below (HB.out.trans (HBA4.out.mono HB.out.size))) HSMZ.out (Nat.le_trans HPL.out (by decide))).mono ?_
          rintro e w5 ⟨u5, rfl, ⟨v5, rfl, ho5⟩, hb5⟩
          by_cases hn : r.path ∈ N
          · obtain ⟨g, hg⟩ : ∃ f, peekF cz.here r.path = f := ⟨_, rfl⟩
            obtain ⟨su, hsu⟩ : ∃ t, peekB cz.here r.path = t := ⟨_, rfl⟩
            rw [hg] at ho5 ⊢
            rw [hsu]
            obtain ⟨A5, c5, rfl, _, _⟩ := ho5.slv
            rw [List.length_map] at ho5 ⊢
            obtain ⟨gl, hgl⟩ : ∃ l, g.data.length = l := ⟨_, rfl⟩
            rw [hgl] at ho5 ⊢
            have hbb := hb5.alloc hb5.size (.cells #[.int .i64 g.mode, .slice A5 gl c5, .int .i64 g.time] 46)
            have hcell5 := HCL.out _ (HBA4.out.trans (hbb.mono HBA4.out.size))
            have HBB5 := Lib.hid (HBA4.out.trans (hbb.mono HBA4.out.size))
            have HHAS : Hid (hasT (N.map str) (str r.path) = true) := hasT_yes (List.mem_map.2 ⟨_, hn, rfl⟩)
            clear ho5 hb5 hbb hg hsu hgl hcell4
            go_wp2_with fail
            refine (rhas_any _ (N.map str) (str r.path) _ (HNB2.out.below (HB.out.trans (HBB5.out.mono HB.out.size)))).mono ?_
            rw [HHAS.out]
            rintro e w6 ⟨rfl, rfl⟩
            clear hcell5
            go_wp2_with fail
            go_roundw
            case rel => exact ⟨j + 1, by omega, by go_num, HB.out.trans (HBB5.out.mono HB.out.size)⟩
            case measure => simp [intOf]; omega
          · obtain ⟨l1, l2⟩ := HLIKE.out r HRM.out hn
            rw [l1]
            rw [l2, HF.out] at ho5 ⊢
            obtain ⟨A5, c5, rfl, _, _⟩ := ho5.slv
            rw [List.length_map, HFL.out] at ho5 ⊢
            have hbb := hb5.alloc hb5.size (.cells #[.int .i64 f.mode, .slice A5 fl c5, .int .i64 f.time] 46)
            have hcell5 := HCL.out _ (HBA4.out.trans (hbb.mono HBA4.out.size))
            have HBB5 := Lib.hid (HBA4.out.trans (hbb.mono HBA4.out.size))
            have HHAS : Hid (hasT (N.map str) (str r.path) = false) := hasT_no (fun h => by
              obtain ⟨x, hx, e⟩ := List.mem_map.1 h
              exact hn (str_inj e ▸ hx))
            have hx4 := HX4.out.below hbb HX4.out.lt
            have y0 := hx4.cell 0
            have y1 := hx4.cell 1
            have y2 := hx4.cell 2
            have HS5 : Hid (SlV (w5.alloc (.cells #[.int .i64 f.mode, .slice A5 fl c5, .int .i64 f.time] 46)) (.slice A5 fl c5) (f.data.map bv)) := ho5.slv.below ((Below.refl _ _).alloc (Nat.le_refl _) _)
            have HS45 : Hid (SlV (w5.alloc (.cells #[.int .i64 f.mode, .slice A5 fl c5, .int .i64 f.time] 46)) (.slice A4 fl c4) (f.data.map bv)) := HS4.out.below hbb
            clear ho5 hb5 hbb hx4 hcell4 l1 l2
            go_wp2_with fail
            refine (rhas_any _ (N.map str) (str r.path) _ (HNB2.out.below (HB.out.trans (HBB5.out.mono HB.out.size)))).mono ?_
            rw [HHAS.out]
            rintro e w6 ⟨rfl, rfl⟩
            clear hcell5
            go_wp2_with fail
            refine (tbytes_any A4 A5 fl fl c4 c5 f.data f.data _ HFL.out HFL.out HS45.out HS5.out true (by simp)).mono ?_
            rintro e w7 ⟨rfl, rfl⟩
            clear y0 y1 y2
            go_wp2_with fail
            go_roundw
            case rel => exact ⟨j + 1, by omega, by go_num, HB.out.trans (HBB5.out.mono HB.out.size)⟩
            case measure => simp [intOf]; omega
        · obtain rfl : j = pn := by omega
          go_wp2_with fail
          refine (first_any wr).mono ?_
          rintro e w5 ⟨rfl, hb5⟩
          have HB5 := Lib.hid (HB.out.trans (hb5.mono HB.out.size))
          have HATZ := Lib.hid (HATAB.out.below HB5.out)
          have HBE := Lib.hid (HBB.out.trans (HB5.out.mono HBB.out.size))
          clear hb5
          go_wp2_with fail
          refine (pending_any HATZ.out).mono ?_
          rw [HAFT.out.1]
          rintro e w6 ⟨rfl, rfl⟩
          go_wp2_with fail
          refine (up_any HATZ.out).mono ?_
          rw [HAFT.out.2]
          rintro e w6 ⟨rfl, rfl⟩
          go_wp2_with fail
          go_ret
          exact ⟨by first | rfl | simp, HBE.out⟩
end Go.Proofs.YtaccejlalomaaaaGreat.Tx
