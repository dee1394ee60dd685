/- Texts put together: Gd6, Ge2, Ge3, Hm1. -/
import Derived.Test.YtaccejlalomaaaaGreatQh40
import Derived.Test.YtaccejlalomaaaaGreatQh46
import Derived.Test.YtaccejlalomaaaaGreatQh39
import Derived.IntWalk
import Derived.Test.YtaccejlalomaaaaGreatQh45
/- marlaw5.Does. -/
set_option linter.unusedVariables false
set_option linter.unusedSimpArgs false
namespace Go.Proofs.YtaccejlalomaaaaGreat.Tx
open Go.RowKit Go.Maps Go.Proofs.YtaccejlalomaaaaGreat.Sh

set_option maxRecDepth 100000 in
set_option maxHeartbeats 6400000 in
theorem does_more (F M : Nat → Prop) (b d : Nat) (c : CSt) (s : FSM) (i : Nat) (o : LOp) (dv pv : Value) (_hpv : pv.oneCell' = true) (G : Nat → Prop) (w : World) (h : TwoAt F w b c d s M) (hc : GoC c i) (hs : GoM s i) (hi : i ≤ 2000) (ho : OpOK o) (hk : o.kind < 0 ∨ 11 < o.kind) (hdv : By G w dv o.data) (hG : ∀ k, G k → ¬ M k) (hpl : InL evK F w pv o.plan) (hpd : ∀ e ∈ o.plan, e.data.length ≤ 140737488351232) :
    Calls Tryz.prog 20 #[.pointer (some ⟨b, 0, none⟩), .pointer (some ⟨d, 0, none⟩), opV o dv pv] w fun e w' => ∃ t c', e = .returned (.bool t) ∧ DoesR c o c' ∧ TwoPost F M w b c' d (doesM s o) w' := by
  obtain ⟨kd, mo, ke, tn, pa, de, da, pl⟩ := o
  unfold opV
  dsimp only at hk hdv hpl hpd ⊢
  obtain ⟨pA, pcap, rfl, _, _⟩ := evs_slice hpl.tmp
  obtain ⟨pn, hpn⟩ : ∃ pn, pl.length = pn := ⟨_, rfl⟩
  rw [hpn] at hpl
  rw [hpn]
  obtain ⟨dA, dc, rfl, _, _⟩ := hdv.slice
  obtain ⟨dl, hdl⟩ : ∃ dl, da.length = dl := ⟨_, rfl⟩
  have hba := (Below.refl w.heap.size w).alloc (Nat.le_refl _) (.cells #[.int .i64 kd, .int .i64 mo, .int .i64 ke, .int .i64 tn, .string (str pa), .string (str de), .slice dA dl dc, .slice pA pn pcap] 35)
  have hbk : Blk (w.alloc (.cells #[.int .i64 kd, .int .i64 mo, .int .i64 ke, .int .i64 tn, .string (str pa), .string (str de), .slice dA dl dc, .slice pA pn pcap] 35)) w.heap.size 35 #[.int .i64 kd, .int .i64 mo, .int .i64 ke, .int .i64 tn, .string (str pa), .string (str de), .slice dA dl dc, .slice pA pn pcap] := Blk.new _ _ _
  rw [hdl] at hdv ⊢
  go_enter Tryz.func20, Tryz.ntmps20
  have c3 := hbk.cell 6
  have HDV := Lib.hid hdv.bound
  have hsl : SlV (w.alloc (.cells #[.int .i64 kd, .int .i64 mo, .int .i64 ke, .int .i64 tn, .string (str pa), .string (str de), .slice dA dl dc, .slice pA pn pcap] 35)) (.slice dA dl dc) (da.map bv) := (hdv.only (Only.of_below (M := fun _ => False) hba) (fun _ _ => id)).slv
  have HG := Lib.hid hG
  have HC := Lib.hid (hc.ready (by omega))
  have HCF := Lib.hid hc.fits
  have HSM := Lib.hid hs
  have HS := Lib.hid (hs.ready (by omega))
  have HO := Lib.hid ho
  have HDL := Lib.hid hdl
  have H := Lib.hid h
  have HBA := Lib.hid hba
  have HBK := Lib.hid hbk
  have HSL := Lib.hid hsl
  have HI := Lib.hid hi
  have HPL := Lib.hid hpl
  have HPD := Lib.hid hpd
  have HPN := Lib.hid hpn
  clear hdv hG hc hs ho hdl h hba hbk hsl hi hpl hpd hpn
  go_wp2_with fail
  refine (rcopyb_big (.slice dA dl dc) da _ HSL.out (by have h9 : da.length ≤ 140737488351232 := HO.out.data; omega)).mono ?_
  rintro e w0 ⟨iv, rfl, hown, hb0⟩
  obtain ⟨iA, ic, rfl, _, _⟩ := hown.slv
  rw [List.length_map, HDL.out] at hown ⊢
  have HOWN := Lib.hid hown
  have HB0 := Lib.hid (HBA.out.trans (hb0.mono HBA.out.size))
  have HBK0 : Hid (Blk w0 w.heap.size 35 #[.int .i64 kd, .int .i64 mo, .int .i64 ke, .int .i64 tn, .string (str pa), .string (str de), .slice dA dl dc, .slice pA pn pcap]) := HBK.out.below hb0 (by simp)
  have hz0 : w.heap.size < w0.heap.size := by have := hb0.size; simp at this; omega
  have HZ0 := Lib.hid hz0
  have H0 : Hid (TwoAt F w0 b c d s M) := H.out.below HB0.out
  clear hown hb0 hz0 c3
  have HT0 : Hid (TwoPost F M w0 b c d s w0) := TwoPost.refl H0.out
  have HML : Hid (∀ k, M k → k < w.heap.size) := H.out.lt
  have HSC : Hid (∀ W, Only M w0 W → W.cell? ⟨w.heap.size, 0, none⟩ = some (.int .i64 kd) ∧ W.cell? ⟨w.heap.size, 1, none⟩ = some (.int .i64 mo) ∧ W.cell? ⟨w.heap.size, 2, none⟩ = some (.int .i64 ke) ∧ W.cell? ⟨w.heap.size, 3, none⟩ = some (.int .i64 tn) ∧ W.cell? ⟨w.heap.size, 4, none⟩ = some (.string (str pa)) ∧ W.cell? ⟨w.heap.size, 5, none⟩ = some (.string (str de)) ∧ W.cell? ⟨w.heap.size, 6, none⟩ = some (.slice dA dl dc) ∧ W.cell? ⟨w.heap.size, 7, none⟩ = some (.slice pA pn pcap)) := fun W hW => by
    have b1 := hW.blk HBK0.out (fun hm => by have := HML.out _ hm; omega)
    exact ⟨b1.cell 0, b1.cell 1, b1.cell 2, b1.cell 3, b1.cell 4, b1.cell 5, b1.cell 6, b1.cell 7⟩
  have HIN : Hid (By (fun k => w.heap.size < k ∧ k < w0.heap.size) w0 (.slice iA dl ic) da) := by
    have h1 := OwnV.by_ (F := fun _ => False) HOWN.out
    exact h1.mono (fun k _ hk => by
      rcases hk with hk | ⟨g1, g2⟩
      · exact hk.elim
      · simp at g1; exact ⟨by omega, g2⟩)
  have HD0 : Hid (By (fun k => G k ∧ k < w.heap.size) w0 (.slice dA dl dc) da) := HDV.out.only (Only.of_below (M := fun _ => False) HB0.out) (fun _ _ => id)
  have q0 := HSC.out w0 (Only.refl _ _)
  have HPA : Hid (pa.length ≤ 900000) := Nat.le_trans HO.out.path (by decide : 400 ≤ 900000)
  have HDE : Hid (de.length ≤ 900000) := Nat.le_trans HO.out.dest (by decide : 400 ≤ 900000)
  have HI7 : Hid (130 * i ≤ 700000) := by have := HI.out; show 130 * i ≤ 700000; omega
  go_upto_block 0 with (fail)
  go_cut [8] (fun v wx => ∃ t c', v = .bool t ∧ DoesR c ⟨kd, mo, ke, tn, pa, de, da, pl⟩ c' ∧ TwoPost F M w0 b c' d (doesM s ⟨kd, mo, ke, tn, pa, de, da, pl⟩) wx)
  case first =>
    by_cases e12 : kd = 12
    · subst e12
      obtain ⟨Mf, Mx, hX, hM⟩ := H0.out
      have HX := Lib.hid hX
      have HM := Lib.hid hM
      have HLT : Hid (∀ k, Mx k → k < w0.heap.size) := hX.x.mlt
      have HP0 : Hid (InL evK F w0 (.slice pA pn pcap) pl) := HPL.out.below HB0.out
      clear hX hM
      go_wp2_with fail
      refine (plan_any F Mf b c (.slice pA pn pcap) pl w0 HX.out.f HP0.out.tmp (Nat.le_trans HO.out.plan (by decide)) (fun e he => Nat.le_trans (HPD.out e he) (by decide))).mono ?_
      rintro e w1 ⟨rfl, R, hR, hp⟩
      have HR := Lib.hid hR
      have HP := Lib.hid hp
      have HX1 := Lib.hid (HX.out.later HP.out)
      have hon : Only Mf w0 w1 := by obtain ⟨_, _, h9, _⟩ := hp; exact h9
      have HP1 : Hid (InL evK F w1 (.slice pA pn pcap) pl) := HP0.out.only hon (fun k hk => HX.out.f.apart_ k hk)
      have HON := Lib.hid hon
      have q1 := HSC.out w1 (hon.more (fun k _ hk => (HM.out k).2 (.inl hk)))
      clear hR hp hon q0
      go_wp2_with fail
      refine (plainev_any F (.slice pA pn pcap) pl w1 HP1.out.tmp (Nat.le_trans HO.out.plan (by decide)) (fun k hk => Nat.lt_of_lt_of_le (HX.out.f.low k hk) HON.out.size)).mono ?_
      rintro e w2 ⟨v2, rfl, ho2, hb2⟩
      have hz1 := HON.out.size
      have HX2 : Hid (RefAt (fun k => F k ∨ (w1.heap.size ≤ k ∧ k < w2.heap.size)) w2 d s Mx) := (HX1.out.below hb2).mono_ (fun k hk => .inl hk) (fun k hk hm => by
        rcases hk with hk | hk
        · exact HX.out.x.apart_ k hk hm
        · have := HLT.out k hm; omega) (fun k hk => by
        rcases hk with hk | hk
        · have := HX.out.f.low k hk; have := hb2.size; omega
        · exact hk.2)
      have HI2 : Hid (InL evK (fun k => F k ∨ (w1.heap.size ≤ k ∧ k < w2.heap.size)) w2 v2 pl) := ho2.rin
      have HB2 := Lib.hid hb2
      clear ho2 hb2 q1 hz1
      go_wp2_with fail
      refine (rplan_any _ Mx d s v2 pl w2 HX2.out HI2.out (Nat.le_trans HO.out.plan (by decide))).mono ?_
      rintro e w3 ⟨rfl, hq⟩
      have HT := Lib.hid (two_both HX.out HM.out HP.out (FsPost.wide HB2.out (fun k hk => hk) (fun k hk => .inl hk) hq))
      clear hq
      go_wp2_with fail
      go_meet
      exact ⟨_, { c with plan := R }, rfl, ⟨fun h => absurd rfl h, fun _ => ⟨R, HR.out, rfl⟩⟩, by simpa [doesM] using HT.out⟩
    · have HDR : Hid (DoesR c ⟨kd, mo, ke, tn, pa, de, da, pl⟩ c ∧ doesM s ⟨kd, mo, ke, tn, pa, de, da, pl⟩ = s) := by
        refine ⟨⟨fun _ => ?_, fun h => absurd h e12⟩, ?_⟩
        · unfold doesC
          dsimp only
          repeat rw [if_neg (by omega)]
        · unfold doesM
          dsimp only
          repeat rw [if_neg (by omega)]
      by_cases e13 : 12 < kd
      · go_wp2_with fail
        go_meet
        exact ⟨_, c, rfl, HDR.out.1, by rw [HDR.out.2]; exact HT0.out⟩
      · have e14 : kd < 0 := by omega
        go_wp2_with fail
        go_meet
        exact ⟨_, c, rfl, HDR.out.1, by rw [HDR.out.2]; exact HT0.out⟩
  case rest =>
    obtain ⟨t, c', rfl, hdr, hp⟩ := hcut
    have HP := Lib.hid hp
    have HDR := Lib.hid hdr
    obtain ⟨_, _, ho, _⟩ := hp
    have qc := HSC.out wc ho
    have HI1 : Hid (SlV wc (.slice iA dl ic) (da.map bv)) := (HIN.out.only ho (fun k hk hm => by have := HML.out k hm; omega)).slv
    have HD1 : Hid (SlV wc (.slice dA dl dc) (da.map bv)) := (HD0.out.only ho (fun k hk => HG.out k hk.1)).slv
    have HO1 : Hid (OwnV 5 wc (w.heap.size + 1) (.slice iA dl ic) (da.map bv)) := by
      have h1 := ho.own HOWN.out (fun k hk hm => by
        have h2 := (HOWN.out.lt k hk).1
        have := HML.out k hm
        simp at h2
        omega)
      exact h1.base (by simp)
    have hsz := ho.size
    have HSZ := Lib.hid hsz
    clear ho hsz q0 hdr
    go_wp2_with fail
    refine (tbytes_any iA dA dl dl ic dc da da wc HDL.out HDL.out HI1.out HD1.out true (by simp)).mono ?_
    rintro e wb ⟨rfl, rfl⟩
    go_wp2_with fail
    have HDM : Hid (dl ≤ 140737488351232) := by have := HO.out.data; rw [← HDL.out]; exact this
    have hdm := HDM.out
    go_loopw [17] (fun j wr => ∃ k : Nat, k ≤ dl ∧ j = .int .i64 k ∧ Only (fun g => (Value.slice iA dl ic).ownBlock = some g) wc wr ∧ ∃ vs : List Value, vs.length = dl ∧ (∀ u ∈ vs, ∃ n : Int, u = .int .u8 n) ∧ OwnV 5 wr (w.heap.size + 1) (.slice iA dl ic) vs) (fun j _ => dl - (intOf j).toNat)
    case atStart => exact ⟨0, Nat.zero_le _, rfl, Only.refl _ _, da.map bv, by rw [List.length_map, HDL.out], fun u hu => by
      obtain ⟨x, _, rfl⟩ := List.mem_map.1 hu
      exact ⟨_, rfl⟩, HO1.out⟩
    case round =>
      obtain ⟨k, hk, rfl, hon, vs, hvl, hvi, hov⟩ := hrel
      by_cases hlt : k < dl
      · have hkv : k < vs.length := by omega
        obtain ⟨g, rfl⟩ : ∃ g, iA = some ⟨g, 0, none⟩ := by
          rcases hov.blk with ⟨_, he⟩ | ⟨g, c9, cur, he, _⟩
          · rw [he] at hvl; simp at hvl; omega
          · injection he with e1; exact ⟨g, e1⟩
        obtain ⟨n, hn⟩ := hvi vs[k] (List.getElem_mem hkv)
        obtain ⟨x1, x2⟩ := hov.cellAt k vs[k] (List.getElem?_eq_getElem hkv)
        rw [hn] at x1
        have HON := Lib.hid hon
        have HVI := Lib.hid hvi
        have HOV := Lib.hid hov
        have HVL := Lib.hid hvl
        have p1 : (k : Int) < (dl : Int) := by omega
        clear hon hvi hov hvl hn
        go_wp2_with fail
        go_roundw
        case rel => exact ⟨k + 1, by omega, by go_num, HON.out.set_ (.inl rfl) _, vs.set k _, by rw [List.length_set]; exact HVL.out, fun u hu => by
          rcases List.mem_or_eq_of_mem_set hu with h9 | h9
          · exact HVI.out u h9
          · exact ⟨_, h9⟩, HOV.out.setAt k _⟩
        case measure => simp [intOf]; omega
      · obtain rfl : k = dl := by omega
        have HON := Lib.hid hon
        clear hon hov hvi
        go_wp2_with fail
        go_ret
        refine ⟨t, c', rfl, HDR.out, TwoPost.around H.out HB0.out HP.out HON.out (fun g hg => ?_)⟩
        have h2 := HOWN.out.lt g hg
        simp at h2
        omega
set_option maxRecDepth 100000 in
set_option maxHeartbeats 400000 in
theorem does_all (F M : Nat → Prop) (b d : Nat) (c : CSt) (s : FSM) (i : Nat) (o : LOp) (dv pv : Value) (G : Nat → Prop) (w : World) (h : TwoAt F w b c d s M) (hc : GoC c i) (hs : GoM s i) (hi : i ≤ 2000) (ho : OpOK o) (hdv : By G w dv o.data) (hG : ∀ k, G k → ¬ M k) (hpl : InL evK F w pv o.plan) (hpd : ∀ e ∈ o.plan, e.data.length ≤ 140737488351232) :
    Calls Tryz.prog 20 #[.pointer (some ⟨b, 0, none⟩), .pointer (some ⟨d, 0, none⟩), opV o dv pv] w fun e w' => ∃ t c', e = .returned (.bool t) ∧ DoesR c o c' ∧ TwoPost F M w b c' d (doesM s o) w' := by
  have hpv : pv.oneCell' = true := by
    obtain ⟨pA, pcap, rfl, _, _⟩ := evs_slice hpl.tmp
    rfl
  by_cases hk : 0 ≤ o.kind ∧ o.kind ≤ 11
  · refine (does_any F M b d c s i o dv pv hpv G w h hc hs hi ho hk hdv hG).mono ?_
    rintro e w' ⟨t, he, hp⟩
    exact ⟨t, _, he, ⟨fun _ => rfl, fun h12 => by omega⟩, hp⟩
  · exact does_more F M b d c s i o dv pv hpv G w h hc hs hi ho (by omega) hdv hG hpl hpd
end Go.Proofs.YtaccejlalomaaaaGreat.Tx
/- marlaw5.FewEvents, flag. -/
namespace Go.Proofs.YtaccejlalomaaaaGreat.Tx
open Go.RowKit Go.Maps Go.Proofs.YtaccejlalomaaaaGreat.Sh

set_option maxRecDepth 100000 in
set_option maxHeartbeats 1600000 in
theorem fewev_any (F : Nat → Prop) (v : Value) (l : List EvM) (w : World) (h : EvsF F w v l) : Calls Tryz.prog 57 #[v] w fun e w' => ∃ t, e = .returned (.bool t) ∧ (t = true → l.length ≤ 60 ∧ ∀ e ∈ l, e.path.length ≤ 400) ∧ Below w.heap.size w w' := by
  obtain ⟨A, c, rfl, hlc, hcm⟩ := evs_slice h
  obtain ⟨n, hn⟩ : ∃ n, l.length = n := ⟨_, rfl⟩
  have HL := Lib.hid h
  have HN := Lib.hid hn
  rw [hn] at hlc HL ⊢
  unfold maxLen at hcm
  clear h hn
  go_enter Tryz.func57, Tryz.ntmps57
  go_wp2
  go_loopw [3, 4] (fun s i wr => ∃ (k : Nat) (z : Int), k ≤ n ∧ k ≤ 60 ∧ i = .int .i64 k ∧ s = .int .i64 z ∧ 0 ≤ z ∧ z ≤ 160000 ∧ (∀ e ∈ l.take k, e.path.length ≤ 400) ∧ Below w.heap.size w wr) (fun _ i _ => n - (intOf i).toNat)
  case atStart => exact ⟨0, 0, Nat.zero_le _, Nat.zero_le _, rfl, rfl, by omega, by omega, fun e he => by simp at he, Below.refl _ _⟩
  case round =>
    obtain ⟨k, z, hk, hk6, rfl, rfl, hz0, hz1, hpk, hb⟩ := hrel
    have HB := Lib.hid hb
    have HPK := Lib.hid hpk
    clear hb hpk
    have p0 : (0 : Int) ≤ (k : Int) := by omega
    by_cases hlt : k < n
    · by_cases h60 : k < 60
      · have hkl : k < l.length := by rw [HN.out]; exact hlt
        obtain ⟨ad, dA, dc, rfl, _, _, _, _, _, _, x5, x6⟩ := ev_cells (TmpL.below HL.out HB.out) k l[k] (List.getElem?_eq_getElem hkl)
        have HX := Lib.hid (show l.take (k + 1) = l.take k ++ [l[k]] from List.take_succ_eq_append_getElem hkl)
        obtain ⟨pl, hpl⟩ : ∃ pl, l[k].path.length = pl := ⟨_, rfl⟩
        have hsp : (str l[k].path).toList.length = pl := by rw [str_toList]; exact hpl
        have HPL := Lib.hid hpl
        obtain ⟨dl, hdl⟩ : ∃ dl, l[k].data.length = dl := ⟨_, rfl⟩
        rw [hdl] at x6
        generalize l[k] = e at *
        clear hkl hdl hpl
        have p1 : (k : Int) < (n : Int) := by omega
        have p2 : (k : Int) < 60 := by omega
        have hm0 : (0 : Int) ≤ min (dl : Int) 40000 ∧ min (dl : Int) 40000 ≤ 40000 := by omega
        have hm1 : (0 : Int) ≤ min (pl : Int) 1000 ∧ min (pl : Int) 1000 ≤ 1000 := by omega
        have w1 : IntKind.i64.wrap (z + min (dl : Int) 40000) = z + min (dl : Int) 40000 := IntWalk.i64_in _ (by omega)
        have w2 : IntKind.i64.wrap (z + min (dl : Int) 40000 + min (pl : Int) 1000) = z + min (dl : Int) 40000 + min (pl : Int) 1000 := IntWalk.i64_in _ (by omega)
        have hsz : (str e.path).size = pl := by rw [str_size]; exact HPL.out
        rw [show str e.path = ⟨(str e.path).data⟩ from rfl] at x5 hsz hsp
        generalize (⟨(str e.path).data⟩ : ByteArray) = sp at *
        by_cases hl4 : (400 : Int) < (pl : Int)
        · go_wp2_with fail
          go_quiet (fail)
          go_wp2_with fail
          go_ret
          exact ⟨_, rfl, fun h => by simp at h, below_drewN HB.out _⟩
        · go_wp2_with fail
          go_quiet (fail)
          go_wp2_with fail
          go_roundw
          case rel => exact ⟨k + 1, min (z + min (dl : Int) 40000 + min (pl : Int) 1000) 160000, by omega, by omega, by go_num, by go_num, by omega, by omega, fun x hx => by
            rw [HX.out] at hx
            rcases List.mem_append.1 hx with h9 | h9
            · exact HPK.out x h9
            · rw [List.mem_singleton.1 h9, HPL.out]; omega, below_drewN HB.out _⟩
          case measure => simp [intOf]; omega
      · obtain rfl : k = 60 := by omega
        have e60 : ¬ (n ≤ 60) := by omega
        have e61 : decide ((n : Int) ≤ 60) = false := by simp; omega
        go_wp2_with fail
        go_ret
        exact ⟨_, rfl, fun h => by simp at h, HB.out⟩
    · obtain rfl : k = n := by omega
      have HF : Hid (k ≤ 60 ∧ ∀ e ∈ l, e.path.length ≤ 400) := ⟨hk6, fun e he => HPK.out e (by rw [List.take_of_length_le (by rw [HN.out]; exact Nat.le_refl _)]; exact he)⟩
      go_wp2_with fail
      all_goals
        go_ret
        exact ⟨_, rfl, fun _ => HF.out, HB.out⟩
end Go.Proofs.YtaccejlalomaaaaGreat.Tx
/- The laws' operations in memory; marlaw5.Few. -/
namespace Go.Proofs.YtaccejlalomaaaaGreat.Tx
open Go.RowKit Go.Maps Go.Proofs.YtaccejlalomaaaaGreat.Sh

/-- An operation's cells, from a on. -/
structure OpCells (G : Nat → Prop) (w : World) (a : Addr) (o : LOp) (dv pv : Value) : Prop where
  data : By G w dv o.data
  plan : InL evK G w pv o.plan
  kind : w.cell? a = some (.int .i64 o.kind)
  mode : w.cell? ⟨a.block, a.off + 1, none⟩ = some (.int .i64 o.mode)
  keep : w.cell? ⟨a.block, a.off + 2, none⟩ = some (.int .i64 o.keep)
  torn : w.cell? ⟨a.block, a.off + 3, none⟩ = some (.int .i64 o.torn)
  path : w.cell? ⟨a.block, a.off + 4, none⟩ = some (.string (str o.path))
  dest : w.cell? ⟨a.block, a.off + 5, none⟩ = some (.string (str o.dest))
  dcell : w.cell? ⟨a.block, a.off + 6, none⟩ = some dv
  pcell : w.cell? ⟨a.block, a.off + 7, none⟩ = some pv
def OpsF (G : Nat → Prop) (w : World) (v : Value) (l : List LOp) : Prop := ∃ A c, v = .slice A l.length c ∧ l.length ≤ c ∧ c ≤ maxLen ∧ ∀ k o, l[k]? = some o → ∃ ad dv pv, A = some ad ∧ G ad.block ∧ ad.block < w.heap.size ∧ OpCells G w (ad.add (k * 8)) o dv pv
theorem OpCells.only {G M : Nat → Prop} {w w' : World} {a : Addr} {o : LOp} {dv pv : Value} (h : OpCells G w a o dv pv) (ho : Only M w w') (hG : ∀ k, G k → ¬ M k) (ha : G a.block) (hl : a.block < w.heap.size) : OpCells G w' a o dv pv := by
  have hn := hG _ ha
  exact ⟨h.data.only ho hG, h.plan.only ho hG, (ho.cell hl hn).trans h.kind, (ho.cell (p := ⟨a.block, a.off + 1, none⟩) hl hn).trans h.mode, (ho.cell (p := ⟨a.block, a.off + 2, none⟩) hl hn).trans h.keep, (ho.cell (p := ⟨a.block, a.off + 3, none⟩) hl hn).trans h.torn, (ho.cell (p := ⟨a.block, a.off + 4, none⟩) hl hn).trans h.path, (ho.cell (p := ⟨a.block, a.off + 5, none⟩) hl hn).trans h.dest, (ho.cell (p := ⟨a.block, a.off + 6, none⟩) hl hn).trans h.dcell, (ho.cell (p := ⟨a.block, a.off + 7, none⟩) hl hn).trans h.pcell⟩
theorem addr_block (a : Addr) (n : Nat) : (a.add n).block = a.block := by unfold Addr.add; split <;> rfl
theorem OpsF.only {G M : Nat → Prop} {w w' : World} {v : Value} {l : List LOp} (h : OpsF G w v l) (ho : Only M w w') (hG : ∀ k, G k → ¬ M k) : OpsF G w' v l := by
  obtain ⟨A, c, h1, h2, h3, h4⟩ := h
  refine ⟨A, c, h1, h2, h3, fun k o hk => ?_⟩
  obtain ⟨ad, dv, pv, e, g1, g2, g3⟩ := h4 k o hk
  exact ⟨ad, dv, pv, e, g1, Nat.lt_of_lt_of_le g2 ho.size, g3.only ho hG (by rw [addr_block]; exact g1) (by rw [addr_block]; exact g2)⟩
theorem OpsF.below {G : Nat → Prop} {w w' : World} {v : Value} {l : List LOp} (h : OpsF G w v l) (hb : Below w.heap.size w w') : OpsF G w' v l := h.only (Only.of_below (M := fun _ => False) hb) (fun _ _ => id)
/-- What Few says of an operation. -/
structure OpFew (o : LOp) : Prop where
  path : o.path.length ≤ 400
  dest : o.dest.length ≤ 400
  plan : o.plan.length ≤ 60
  paths : ∀ e ∈ o.plan, e.path.length ≤ 400

set_option maxRecDepth 100000 in
set_option maxHeartbeats 3200000 in
theorem few_any (G : Nat → Prop) (v : Value) (l : List LOp) (w : World) (h : OpsF G w v l) : Calls Tryz.prog 14 #[v] w fun e w' => ∃ t, e = .returned (.bool t) ∧ (t = true → l.length ≤ 100 ∧ ∀ o ∈ l, OpFew o) ∧ Below w.heap.size w w' := by
  have HL := Lib.hid h
  obtain ⟨A, c, rfl, hlc, hcm, _⟩ := h
  obtain ⟨n, hn⟩ : ∃ n, l.length = n := ⟨_, rfl⟩
  have HN := Lib.hid hn
  rw [hn] at hlc HL ⊢
  unfold maxLen at hcm
  clear hn
  go_enter Tryz.func14, Tryz.ntmps14
  go_wp2
  go_loopw [3, 4] (fun s i wr => ∃ (k : Nat) (z : Int), k ≤ n ∧ k ≤ 100 ∧ i = .int .i64 k ∧ s = .int .i64 z ∧ 0 ≤ z ∧ z ≤ 160000 ∧ (∀ o ∈ l.take k, OpFew o) ∧ Below w.heap.size w wr) (fun _ i _ => n - (intOf i).toNat)
  case atStart => exact ⟨0, 0, Nat.zero_le _, Nat.zero_le _, rfl, rfl, by omega, by omega, fun e he => by simp at he, Below.refl _ _⟩
  case round =>
    obtain ⟨k, z, hk, hk6, rfl, rfl, hz0, hz1, hpk, hb⟩ := hrel
    have HB := Lib.hid hb
    have HPK := Lib.hid hpk
    clear hb hpk
    have p0 : (0 : Int) ≤ (k : Int) := by omega
    by_cases hlt : k < n
    · by_cases h60 : k < 100
      · have hkl : k < l.length := by rw [HN.out]; exact hlt
        obtain ⟨A', c', hv, _, _, hat⟩ := HL.out
        injection hv with e1 e2 e3
        subst e1
        clear e2 e3
        obtain ⟨ad, dv, pv, rfl, hGa, hal, hoc⟩ := hat k l[k] (List.getElem?_eq_getElem hkl)
        clear hat
        have HOC := Lib.hid hoc
        have HGA := Lib.hid hGa
        have HAL := Lib.hid hal
        have HX := Lib.hid (show l.take (k + 1) = l.take k ++ [l[k]] from List.take_succ_eq_append_getElem hkl)
        generalize l[k] = o at *
        clear hkl hoc hGa hal
        have HSC : Hid (∀ W, Below w.heap.size w W → OpCells G W (ad.add (k * 8)) o dv pv) := fun W hW => HOC.out.only (Only.of_below (M := fun _ => False) hW) (fun _ _ => id) (by rw [addr_block]; exact HGA.out) (by rw [addr_block]; exact HAL.out)
        have hc0 := HSC.out wr HB.out
        have x4 := hc0.path
        have x5 := hc0.dest
        have x6 := hc0.dcell
        have x7 := hc0.pcell
        clear hc0
        have p1 : (k : Int) < (n : Int) := by omega
        have p2 : (k : Int) < 100 := by omega
        have hs4 : (str o.path).size = o.path.length := str_size _
        have hs5 : (str o.dest).size = o.dest.length := str_size _
        go_wp2_with fail
        refine (fewev_any G pv o.plan wr (HSC.out wr HB.out).plan.tmp).mono ?_
        rintro e w1 ⟨t, rfl, ht, hb1⟩
        have HB1 := Lib.hid (HB.out.trans (hb1.mono HB.out.size))
        have HT := Lib.hid ht
        clear hb1 ht x4 x5 x6 x7
        have hc1 := HSC.out w1 HB1.out
        have y4 := hc1.path
        have y5 := hc1.dest
        obtain ⟨dA, dc, hdv, _, _⟩ := hc1.data.slice
        subst hdv
        have y6 := hc1.dcell
        clear hc1
        obtain ⟨dl, hdl⟩ : ∃ dl, o.data.length = dl := ⟨_, rfl⟩
        rw [hdl] at y6
        clear hdl
        have hm0 : (0 : Int) ≤ min (dl : Int) 40000 ∧ min (dl : Int) 40000 ≤ 40000 := by omega
        have w1' : IntKind.i64.wrap (z + min (dl : Int) 40000) = z + min (dl : Int) 40000 := IntWalk.i64_in _ (by omega)
        cases t
        · go_wp2_with fail
          go_ret
          exact ⟨_, rfl, fun h => by simp at h, HB1.out⟩
        · by_cases hl4 : (400 : Int) < (o.path.length : Int)
          · go_wp2_with fail
            go_ret
            exact ⟨_, rfl, fun h => by simp at h, HB1.out⟩
          · by_cases hl5 : (400 : Int) < (o.dest.length : Int)
            · go_wp2_with fail
              go_ret
              exact ⟨_, rfl, fun h => by simp at h, HB1.out⟩
            · have HOF : Hid (OpFew o) := ⟨by omega, by omega, (HT.out rfl).1, (HT.out rfl).2⟩
              go_wp2_with fail
              go_roundw
              case rel => exact ⟨k + 1, min (z + min (dl : Int) 40000) 160000, by omega, by omega, by go_num, by go_num, by omega, by omega, fun x hx => by
                rw [HX.out] at hx
                rcases List.mem_append.1 hx with h9 | h9
                · exact HPK.out x h9
                · rw [List.mem_singleton.1 h9]; exact HOF.out, HB1.out⟩
              case measure => simp [intOf]; omega
      · obtain rfl : k = 100 := by omega
        have e61 : decide ((n : Int) ≤ 100) = false := by simp; omega
        go_wp2_with fail
        go_ret
        exact ⟨_, rfl, fun h => by simp at h, HB.out⟩
    · obtain rfl : k = n := by omega
      have HF : Hid (k ≤ 100 ∧ ∀ o ∈ l, OpFew o) := ⟨hk6, fun e he => HPK.out e (by rw [List.take_of_length_le (by rw [HN.out]; exact Nat.le_refl _)]; exact he)⟩
      go_wp2_with fail
      all_goals
        go_ret
        exact ⟨_, rfl, fun _ => HF.out, HB.out⟩
end Go.Proofs.YtaccejlalomaaaaGreat.Tx
/- What users did, as plain data: their bytes are few. (No Go in it.) -/
set_option linter.unusedVariables false
set_option linter.unusedSimpArgs false
namespace Go.Proofs.YtaccejlalomaaaaGreat.Tx

def UsrC (c : CSt) : Prop := ∀ e ∈ c.users, e.data.length ≤ 20000
theorem wr_users (c : CSt) (p : List UInt8) (mode : Int) (data : List UInt8) (room : Int) (create : Bool) : (wrC c p mode data room create).users = c.users := by
  unfold wrC
  split <;> rfl
theorem rm_users (c : CSt) (p : List UInt8) : (rmC c p).users = c.users := by
  unfold rmC
  split <;> rfl
theorem mv_users (c : CSt) (fr tt : List UInt8) (create : Bool) : (mvC c fr tt create).users = c.users := by
  unfold mvC
  split <;> rfl
theorem cr_users (c : CSt) (keep torn : Int) : (crC c keep torn).users = c.users := by
  unfold crC
  split <;> rfl
theorem UsrC.of_eq {c c' : CSt} (h : UsrC c) (e : c'.users = c.users) : UsrC c' := by unfold UsrC; rw [e]; exact h
theorem UsrC.note {c : CSt} (h : UsrC c) {e : EvM} (he : e.data.length ≤ 20000) : UsrC (noteC c e) := by
  intro x hx
  have hx' : x ∈ c.users ++ [{ e with at_ := c.calls }] := hx
  rcases List.mem_append.1 hx' with h1 | h1
  · exact h x h1
  · rw [List.mem_singleton.1 h1]; exact he
theorem UsrC.uw {c : CSt} (h : UsrC c) (p : List UInt8) (mode : Int) (data : List UInt8) : UsrC (uwC c p mode data) := by
  unfold uwC
  split
  · rename_i he
    have hd : data.length ≤ 20000 := by
      unfold uwE at he
      split at he
      · cases he
      · exact (wrE_ok he).2.2.1
    exact UsrC.note (h.of_eq (wr_users _ _ _ _ _ _)) hd
  · exact h
theorem UsrC.ur {c : CSt} (h : UsrC c) (p : List UInt8) : UsrC (urC c p) := by
  unfold urC
  split
  · exact UsrC.note (h.of_eq (rm_users _ _)) (Nat.zero_le _)
  · exact h
theorem UsrC.ev {s : BgC} (h : UsrC s.c) (e : EvM) : UsrC (evC s e).c := by
  have h1 : UsrC { s.c with plan := s.c.plan.tail } := h
  unfold evC
  split
  · exact h1.of_eq (cr_users _ _ _)
  · split
    · exact h1
    · split
      · exact h1
      · split
        · exact h1.uw _ _ _
        · split
          · exact h1.ur _
          · exact h1
theorem UsrC.bgk {c : CSt} (h : UsrC c) : ∀ k, UsrC (bgK c k).c
  | 0 => h
  | k + 1 => by
    cases he : c.plan[k]? with
    | none => rw [bgK_more he]; exact UsrC.bgk h k
    | some e => rw [bgK_next he]; exact (UsrC.bgk h k).ev e
theorem UsrC.bg {c : CSt} (h : UsrC c) : UsrC (bgC c).c := h.bgk _
theorem UsrC.does {c : CSt} (h : UsrC c) (o : LOp) : UsrC (doesC c o) := by
  have hb := h.bg
  have hcrt : ∀ create, UsrC (crtC c o.path o.mode o.data create) := fun create => by
    unfold crtC
    split
    · exact hb.of_eq (wr_users _ _ _ _ _ _)
    · exact hb
  have hmov : ∀ create, UsrC (movC c o.path o.dest create) := fun create => by
    unfold movC
    split
    · exact hb.of_eq (mv_users _ _ _ _)
    · exact hb
  refine doesC_at (P := UsrC) c o (fun _ => hcrt _) (fun _ => hcrt _) (fun _ => hmov _) (fun _ => hmov _) (fun _ => ?_) (fun _ => ?_) (fun _ => hb) (fun _ => hb) (fun _ => h.uw _ _ _) (fun _ => h.ur _) (fun _ => h.of_eq (cr_users _ _ _)) (fun _ => h) (fun _ => h) (fun _ => h)
  · unfold remC
    split
    · exact hb.of_eq (rm_users _ _)
    · exact hb
  · unfold synC
    split
    · exact hb
    · exact hb
/-- The room is kept but for what users write, and what they wrote is small. -/
def KeptU (c : CSt) : Prop := KeptC c ∧ UsrC c
theorem KeptU.new_ (room : Int) : KeptU (newC room) := ⟨KeptC.new_ room, fun e he => by cases he⟩
theorem KeptU.doesR {c c' : CSt} (h : KeptU c) (hi : InvC c) {o : LOp} (hd : DoesR c o c') : KeptU c' := ⟨h.1.doesR hi hd, hd.keeps (P := UsrC) (h.2.does o) (fun _ _ => h.2)⟩
end Go.Proofs.YtaccejlalomaaaaGreat.Tx
