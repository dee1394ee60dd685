/- Texts put together: WHd3. -/
import Derived.Test.YtpfjlhpahmhkhaaGreatQf50
import Derived.Test.YtpfjlhpahmhkhaaGreatQf39
import Derived.Test.YtpfjlhpahmhkhaaGreatQf34
import Derived.Test.YtpfjlhpahmhkhaaGreatQf52
/- marlaw5.FsimPlays: the walk. -/
set_option linter.unusedVariables false
set_option linter.unusedSimpArgs false
namespace Go.Proofs.YtpfjlhpahmhkhaaGreat.Tx
open Go.RowKit Go.Maps Go.Proofs.YtpfjlhpahmhkhaaGreat.Sh

structure TieInv (G : Nat → Prop) (w : World) (v : Value) (l : List LOp) (b d k : Nat) (wr : World) (F M : Nat → Prop) (cs : CSt) (s : FSM) : Prop where
  two : TwoAt F wr b cs d s M
  sub : ∀ q, G q → F q
  goC : GoC cs k
  goM : GoM s k
  tied : Tied cs s
  usr : UsrC cs
  ops : OpsF G wr v l
  low : ∀ q, M q → w.heap.size ≤ q
  below : Below w.heap.size w wr
section
variable {G F M : Nat → Prop} {w wr w1 w2 : World} {v : Value} {l : List LOp} {b d k : Nat} {cs c' : CSt} {s : FSM} {o : LOp}
theorem doesR_go (h : GoC cs k) (ho : OpOK o) (hd : DoesR cs o c') : GoC c' (k + 1) := h.doesR ho hd
theorem TieInv.below_ (h : TieInv G w v l b d k wr F M cs s) (hb : Below wr.heap.size wr w2) : TieInv G w v l b d k w2 F M cs s :=
  ⟨h.two.below hb, h.sub, h.goC, h.goM, h.tied, h.usr, h.ops.below hb, h.low, h.below.trans (hb.mono h.below.size)⟩
theorem TieInv.does (h : TieInv G w v l b d k wr F M cs s) (hd : DoesR cs o c') (ht : Tied c' (doesM s o)) (hp : TwoPost F M wr b c' d (doesM s o) w2) (ho : OpOK o) : ∃ F' M', TieInv G w v l b d (k + 1) w2 F' M' c' (doesM s o) := by
  obtain ⟨M1, h1, h2, h3⟩ := hp
  have hz2 := h.below.size
  refine ⟨_, M1, ⟨h1, fun q hq => .inl (h.sub q hq), doesR_go h.goC ho hd, h.goM.does ho, ht, hd.keeps (P := UsrC) (h.usr.does o) (fun _ _ => h.usr), h.ops.only h2 (fun q hq => h.two.apart_ q (h.sub q hq)), fun q hq => ?_, ?_⟩⟩
  · rcases h3 q hq with h4 | h4
    · exact h.low q h4
    · omega
  · exact h.below.trans ⟨h2.os, h2.tape, h2.output, h2.size, fun q hq => h2.block q (by omega) (fun hm => by have := h.low q hm; omega)⟩
/-- A copy goes on; whatever becomes of the first one. -/
theorem TieInv.copied {Mf Mx Mc : Nat → Prop} {b' : Nat} (h : TieInv G w v l b d k wr F M cs s) (hX : TwoX F wr b cs d s Mf Mx) (hMx : ∀ q, M q ↔ Mf q ∨ Mx q) (hb : Below wr.heap.size wr w1) (hc : FcAt (grow F wr w1 Mc) w1 b' cs Mc) (hMc : ∀ q, Mc q → wr.heap.size ≤ q) (ho : Only Mf w1 w2) :
    ∃ F' M', TieInv G w v l b' d k w2 F' M' cs s := by
  have hlt : ∀ q, Mf q → q < wr.heap.size := fun q hq => hX.f.lt q hq
  have hlx : ∀ q, Mx q → q < wr.heap.size := fun q hq => hX.x.mlt q hq
  have hgf : ∀ q, grow F wr w1 Mc q → ¬ Mf q := fun q hq hm => by
    rcases hq with hq | hq
    · exact hX.f.apart_ q hq hm
    · have := hlt q hm; have := hq.1; omega
  have hgx : ∀ q, grow F wr w1 Mc q → ¬ Mx q := fun q hq hm => by
    rcases hq with hq | hq
    · exact hX.x.apart_ q hq hm
    · have := hlx q hm; have := hq.1; omega
  have h1 : FcAt (grow F wr w1 Mc) w2 b' cs Mc := hc.only ho hgf (fun q hq hm => by have := hlt q hm; have := hMc q hq; omega)
  have h2 : RefAt F w2 d s Mx := (hX.x.below hb).only ho (fun q hq => hX.f.apart_ q hq) (fun q hq hm => hX.apart q hm hq)
  have h3 : RefAt (grow F wr w1 Mc) w2 d s Mx := h2.mono_ (fun q hq => .inl hq) hgx (fun q hq => Nat.lt_of_lt_of_le (hc.low q hq) ho.size)
  have hz := hb.size
  have hz2 := h.below.size
  refine ⟨grow F wr w1 Mc, fun q => Mc q ∨ Mx q, ⟨⟨Mc, Mx, ⟨h1, h3, fun q hq hm => by have := hMc q hq; have := hlx q hm; omega⟩, fun _ => Iff.rfl⟩, fun q hq => .inl (h.sub q hq), h.goC, h.goM, h.tied, h.usr, (h.ops.below hb).only ho (fun q hq => hX.f.apart_ q (h.sub q hq)), fun q hq => ?_, ?_⟩⟩
  · rcases hq with hq | hq
    · have := hMc q hq; omega
    · exact h.low q ((hMx q).2 (.inr hq))
  · exact (h.below.trans (hb.mono hz2)).trans ⟨ho.os, ho.tape, ho.output, ho.size, fun q hq => ho.block q (by omega) (fun hm => by have := h.low q ((hMx q).2 (.inl hm)); omega)⟩
end
set_option maxRecDepth 100000 in
set_option maxHeartbeats 12800000 in
theorem plays_any (G : Nat → Prop) (room : Int) (v : Value) (l : List LOp) (w : World) (h : OpsF G w v l) (hG : ∀ k, G k → k < w.heap.size) (hdl : ∀ o ∈ l, o.data.length ≤ 140737488351232 ∧ ∀ e ∈ o.plan, e.data.length ≤ 140737488351232) : Calls Tryz.prog 3 #[.int .i64 room, v] w (Yes w) := by
  have HL := Lib.hid h
  have HG := Lib.hid hG
  have HDL := Lib.hid hdl
  obtain ⟨A, c, rfl, hlc, hcm, _⟩ := h
  obtain ⟨n, hn⟩ : ∃ n, l.length = n := ⟨_, rfl⟩
  have HN := Lib.hid hn
  rw [hn] at hlc HL ⊢
  unfold maxLen at hcm
  clear hn hG hdl
  have kc := fun (w : World) (C : Array Value) (n c : Nat) => Lib.run_convert_bytes_const (P := Tryz.prog) w 32 5 C n c Tryz.underlying32 Tryz.underlying5
  go_enter Tryz.func3, Tryz.ntmps3
  go_wp2_with fail
  refine (first_any w).mono ?_
  rintro e w0 ⟨rfl, hb0⟩
  have HB0 := Lib.hid hb0
  clear hb0
  go_wp2_with fail
  refine (few_any G _ l w0 (by have := HL.out.below HB0.out; exact this)).mono ?_
  rintro e w1 ⟨t, rfl, ht, hb1⟩
  have HB1 := Lib.hid (HB0.out.trans (hb1.mono HB0.out.size))
  have HF := Lib.hid ht
  clear hb1 ht
  cases t with
  | false =>
    go_wp2_with fail
    refine (first_any w1).mono ?_
    rintro e w2 ⟨rfl, hb2⟩
    have HB2 := Lib.hid (HB1.out.trans (hb2.mono HB1.out.size))
    clear hb2
    go_wp2_with fail
    go_ret
    exact ⟨rfl, HB2.out⟩
  | true =>
  have HFW := Lib.hid (HF.out rfl)
  clear HF
  have hn100 : n ≤ 100 := by have := HFW.out.1; rw [HN.out] at this; exact this
  go_wp2_with fail
  refine (new_any G room w1 (fun k hk => Nat.lt_of_lt_of_le (HG.out k hk) HB1.out.size)).mono ?_
  rintro e w2 ⟨hb2, hcase⟩
  have HB2 := Lib.hid (HB1.out.trans (hb2.mono HB1.out.size))
  have HB2' := Lib.hid hb2
  clear hb2
  rcases hcase with ⟨hnb, rfl⟩ | ⟨hnb, b, M, hbz, hM, rfl, hat⟩
  · have HNB := Lib.hid hnb
    clear hnb
    go_wp2_with fail
    refine (rnew_any G room w2 (fun k hk => Nat.lt_of_lt_of_le (HG.out k hk) HB2.out.size)).mono ?_
    rintro e w3 ⟨hb3, hcase⟩
    have HB3 := Lib.hid (HB2.out.trans (hb3.mono HB2.out.size))
    clear hb3
    rcases hcase with ⟨_, rfl⟩ | ⟨hy, _⟩
    · go_wp2_with fail
      go_loopw [5, 9] (fun f i wr => f = .pointer none ∧ i = .int .i64 0 ∧ wr = w3) (fun _ _ _ => 0)
      case atStart => exact ⟨rfl, rfl, rfl⟩
      case round =>
        obtain ⟨rfl, rfl, rfl⟩ := hrel
        go_wp2_with fail
        refine (first_any wr).mono ?_
        rintro e w4 ⟨rfl, hb4⟩
        have HB4 := Lib.hid (HB3.out.trans (hb4.mono HB3.out.size))
        clear hb4
        go_wp2_with fail
        go_ret
        exact ⟨rfl, HB4.out⟩
    · rw [HNB.out] at hy
      cases hy
  · have HNB := Lib.hid hnb
    have HM := Lib.hid hM
    have HAT := Lib.hid hat
    clear hnb hM hat hbz
    go_wp2_with fail
    refine (rnew_any G room w2 (fun k hk => Nat.lt_of_lt_of_le (HG.out k hk) HB2.out.size)).mono ?_
    rintro e w3 ⟨hb3, hcase⟩
    have HB3 := Lib.hid (HB2.out.trans (hb3.mono HB2.out.size))
    have HB3' := Lib.hid hb3
    clear hb3
    rcases hcase with ⟨hy, _⟩ | ⟨_, d, hdz, rfl, hat2⟩
    · rw [HNB.out] at hy
      cases hy
    · have HT : Hid (TwoAt G w3 b (newC room) d (newM room) (fun k => M k ∨ k = d)) := ⟨M, _, ⟨HAT.out.below HB3'.out, hat2, fun k hk e => by have := HAT.out.lt k hk; subst e; omega⟩, fun _ => Iff.rfl⟩
      have HLOW : Hid (∀ q, M q ∨ q = d → w.heap.size ≤ q) := fun q hq => by
        have := HB1.out.size
        have := HB2'.out.size
        rcases hq with hq | hq
        · have := HM.out q hq; omega
        · omega
      clear hat2 hdz
      go_wp2_with fail
      go_loopw [5, 9] (fun fv i wr => ∃ (k b : Nat) (F M : Nat → Prop) (cs : CSt) (s : FSM), k ≤ n ∧ fv = .pointer (some ⟨b, 0, none⟩) ∧ i = .int .i64 k ∧ TieInv G w (.slice A n c) l b d k wr F M cs s) (fun _ i _ => n - (intOf i).toNat)
      case atStart => exact ⟨0, b, G, _, newC room, newM room, Nat.zero_le _, rfl, rfl, ⟨HT.out, fun _ h => h, GoC.new_ room, GoM.new_ room, Tied.new_ room, (fun e he => by cases he), HL.out.below HB3.out, HLOW.out, HB3.out⟩⟩
      case round =>
        obtain ⟨k, b, F', M', cs, s, hk, rfl, rfl, hinv⟩ := hrel
        have HI := Lib.hid hinv
        clear hinv HT HLOW HAT HB2' HB3' HB3 HB2 HB1 HB0
        have k0 : (0 : Int) ≤ (k : Int) := by omega
        by_cases hlt : k < n
        · have k1 : (k : Int) < (n : Int) := by omega
          have hkl : k < l.length := by rw [HN.out]; exact hlt
          have hek := List.getElem?_eq_getElem hkl
          have HFO : Hid (OpFew l[k]) := HFW.out.2 _ (List.getElem_mem hkl)
          have HDO : Hid (l[k].data.length ≤ 140737488351232 ∧ ∀ e ∈ l[k].plan, e.data.length ≤ 140737488351232) := HDL.out _ (List.getElem_mem hkl)
          generalize l[k] = o at *
          have HEK := Lib.hid hek
          clear hkl hek
          obtain ⟨kd, mo, ke, tn, pa, de, da, pl⟩ := o
          have HOK : Hid (OpOK ⟨kd, mo, ke, tn, pa, de, da, pl⟩) := ⟨HFO.out.path, HFO.out.dest, HDO.out.1, HFO.out.plan, HFO.out.paths⟩
          obtain ⟨A', c', hv, hx1, hx2, hat⟩ := HI.out.ops
          injection hv with e1 e2 e3
          subst e1
          obtain ⟨ad, dv, pv, rfl, _, _, hoc⟩ := hat k _ HEK.out
          have x0 := hoc.kind
          dsimp only at x0
          clear hat e2 e3 hoc hx1 hx2
          go_upto_region 12 with (fail)
          go_cut [60] (fun tv wx => wx = wr ∧ tv = .bool (decide (kd < 0) || decide (12 < kd)))
          case first =>
            by_cases h0 : kd < 0
            · have y0 : decide (kd < 0) = true := decide_eq_true h0
              have YV : Hid ((decide (kd < 0) || decide (12 < kd)) = true) := by unfold Hid; rw [y0]; rfl
              clear h0
              go_wp2_with fail
              go_meet
              exact ⟨rfl, by rw [YV.out]⟩
            · have y0 : decide (kd < 0) = false := decide_eq_false h0
              by_cases h12 : 12 < kd
              · have y1 : decide (12 < kd) = true := decide_eq_true h12
                have YV : Hid ((decide (kd < 0) || decide (12 < kd)) = true) := by unfold Hid; rw [y1, Bool.or_true]
                clear h0 h12
                go_wp2_with fail
                go_meet
                exact ⟨rfl, by rw [YV.out]⟩
              · have y1 : decide (12 < kd) = false := decide_eq_false h12
                have YV : Hid ((decide (kd < 0) || decide (12 < kd)) = false) := by unfold Hid; rw [y0, y1]; rfl
                clear h0 h12
                go_wp2_with fail
                go_meet
                exact ⟨rfl, by rw [YV.out]⟩
          case rest =>
            obtain ⟨rfl, rfl⟩ := hcut
            obtain ⟨tt, htt⟩ : ∃ tt, (decide (kd < 0) || decide (12 < kd)) = tt := ⟨_, rfl⟩
            rw [htt]
            clear htt x0
            cases tt with
            | true =>
              obtain ⟨Mf, Mx, hX, hMx⟩ := HI.out.two
              have HX := Lib.hid hX
              have HMX := Lib.hid hMx
              have HCS : Hid (CSmall cs) := HI.out.goC.fits.small (by omega)
              clear hX hMx
              go_wp2_with fail
              refine (copy_any HX.out.f HCS.out (Nat.le_trans HI.out.goC.plan (by decide))).mono ?_
              rintro e w1 ⟨b2, Mc, rfl, hc1, hb1, hmc⟩
              have HC1 := Lib.hid hc1
              have HB1 := Lib.hid hb1
              have HMC := Lib.hid hmc
              clear hc1 hb1 hmc
              have HB2 : Hid (Below wc.heap.size wc (w1.alloc (.cells #[.int .u8 113] 5 (1, 2)))) := HB1.out.alloc HB1.out.size _
              have HZ1 : Hid (wc.heap.size ≤ w1.heap.size) := HB1.out.size
              go_wp2_with fail
              refine (userw_any F' Mf b cs _ [113] 1 _ [113] _ _ (HX.out.f.below HB2.out) HI.out.goC.fits (by omega) (by_new w1 [113] #[.int .u8 113] _ _ (by simp [bv, bi]) 1 rfl (by omega)) (fun q hq hm => by have := HX.out.f.lt q hm; have := HZ1.out; subst hq; omega) (by simp)).mono ?_
              rintro e w3 ⟨rfl, hp3⟩
              obtain ⟨M3, h3, o3, s3⟩ := hp3
              have H3 := Lib.hid h3
              have O3 := Lib.hid o3
              have S3 := Lib.hid s3
              have HS3 : Hid (CSmall (uwC cs [113] 1 [113])) := (HI.out.goC.fits.uw [113] 1 [113]).small (by omega)
              clear h3 o3 s3
              go_wp2_with fail
              refine (crash_any _ M3 b _ 1 1 w3 H3.out HS3.out).mono ?_
              rintro e w4 ⟨rfl, hp4⟩
              obtain ⟨M4, _, o4, _⟩ := hp4
              have hof : Only Mf w1 w4 := ((Only.refl Mf w1).alloc _).trans (O3.out.trans o4 S3.out) (fun q hq => .inl hq)
              obtain ⟨F5, M5, h5⟩ := HI.out.copied HX.out HMX.out HB1.out HC1.out HMC.out hof
              have HI5 := Lib.hid h5
              clear o4 hof h5
              clear HI
              have HI := HI5
              clear HI5 HX HMX HCS HC1 HB1 HMC HB2 HZ1 H3 O3 S3 HS3
              clear kc
              obtain ⟨A', c', hv, hx1, hx2, hat⟩ := HI.out.ops
              injection hv with e1 e2 e3
              subst e1
              clear e2 e3 hx1 hx2
              obtain ⟨ad2, dv, pv, had, hGa, hal, hoc⟩ := hat k _ HEK.out
              injection had with had
              subst had
              clear hat hGa hal
              obtain ⟨hdv, hplan, x0, x1, x2, x3, x4, x5, x6, x7⟩ := hoc
              obtain ⟨dA, dc, rfl, _, _⟩ := hdv.slice
              obtain ⟨pA, pc, rfl, _, _⟩ := evs_slice hplan.tmp
              dsimp only at x0 x1 x2 x3 x4 x5 x6 x7
              have hdo := does_x F5 M5 b2 d cs s k ⟨kd, mo, ke, tn, pa, de, da, pl⟩ (.slice dA da.length dc) (.slice pA pl.length pc) G w4 HI.out.two HI.out.tied HI.out.goC HI.out.goM (by omega) HOK.out hdv (fun q hq => HI.out.two.apart_ q (HI.out.sub q hq)) (hplan.mono (fun q _ hq => HI.out.sub q hq)) HDO.out.2
              unfold opV at hdo
              have HDOES := Lib.hid hdo
              clear hdv hplan hdo
              go_wp2_with fail
              refine HDOES.out.mono ?_
              rintro e w5 ⟨c5, rfl, hdr, htd, hp5⟩
              obtain ⟨F6, M6, hinv6⟩ := HI.out.does hdr htd hp5 HOK.out
              have HI6 := Lib.hid hinv6
              clear hdr htd hp5 hinv6 HDOES x0 x1 x2 x3 x4 x5 x6 x7 HI
              go_wp2_with fail
              refine (same_x F6 M6 b2 d _ _ w5 HI6.out.two HI6.out.tied (HI6.out.goC.fits.small (by omega)) HI6.out.usr).mono ?_
              rintro e w6 ⟨rfl, hb6⟩
              have HI7 := Lib.hid (HI6.out.below_ hb6)
              clear hb6 HI6
              go_wp2_with fail
              go_roundw
              case rel => exact ⟨k + 1, b2, F6, M6, _, _, by omega, rfl, by go_num, HI7.out⟩
              case measure => simp [intOf]; omega
            | false =>
              clear kc
              obtain ⟨A', c', hv, hx1, hx2, hat⟩ := HI.out.ops
              injection hv with e1 e2 e3
              subst e1
              clear e2 e3 hx1 hx2
              obtain ⟨ad2, dv, pv, had, hGa, hal, hoc⟩ := hat k _ HEK.out
              injection had with had
              subst had
              clear hat hGa hal
              obtain ⟨hdv, hplan, x0, x1, x2, x3, x4, x5, x6, x7⟩ := hoc
              obtain ⟨dA, dc, rfl, _, _⟩ := hdv.slice
              obtain ⟨pA, pc, rfl, _, _⟩ := evs_slice hplan.tmp
              dsimp only at x0 x1 x2 x3 x4 x5 x6 x7
              have hdo := does_x F' M' b d cs s k ⟨kd, mo, ke, tn, pa, de, da, pl⟩ (.slice dA da.length dc) (.slice pA pl.length pc) G wc HI.out.two HI.out.tied HI.out.goC HI.out.goM (by omega) HOK.out hdv (fun q hq => HI.out.two.apart_ q (HI.out.sub q hq)) (hplan.mono (fun q _ hq => HI.out.sub q hq)) HDO.out.2
              unfold opV at hdo
              have HDOES := Lib.hid hdo
              clear hdv hplan hdo
              go_wp2_with fail
              refine HDOES.out.mono ?_
              rintro e w5 ⟨c5, rfl, hdr, htd, hp5⟩
              obtain ⟨F6, M6, hinv6⟩ := HI.out.does hdr htd hp5 HOK.out
              have HI6 := Lib.hid hinv6
              clear hdr htd hp5 hinv6 HDOES x0 x1 x2 x3 x4 x5 x6 x7 HI
              go_wp2_with fail
              refine (same_x F6 M6 b d _ _ w5 HI6.out.two HI6.out.tied (HI6.out.goC.fits.small (by omega)) HI6.out.usr).mono ?_
              rintro e w6 ⟨rfl, hb6⟩
              have HI7 := Lib.hid (HI6.out.below_ hb6)
              clear hb6 HI6
              go_wp2_with fail
              go_roundw
              case rel => exact ⟨k + 1, b, F6, M6, _, _, by omega, rfl, by go_num, HI7.out⟩
              case measure => simp [intOf]; omega
        · obtain rfl : k = n := by omega
          have HBZ := Lib.hid HI.out.below
          go_wp2_with fail
          refine (first_any wr).mono ?_
          rintro e w4 ⟨rfl, hb4⟩
          have HB4 := Lib.hid (HBZ.out.trans (hb4.mono HBZ.out.size))
          clear hb4
          go_wp2_with fail
          go_ret
          exact ⟨rfl, HB4.out⟩
theorem fsimPlays_walk {p : Prop} (room : Int) (v : Value) (l : List LOp) (w : World) (_ : p) (h : OpsF (Low w) w v l) (hb : ∀ o ∈ l, o.data.length ≤ 140737488351232 ∧ ∀ e ∈ o.plan, e.data.length ≤ 140737488351232) : Calls Tryz.prog 3 #[.int .i64 room, v] w (Yes w) := by
  exact plays_any (Low w) room v l w h (fun _ hk => hk) hb
end Go.Proofs.YtpfjlhpahmhkhaaGreat.Tx
