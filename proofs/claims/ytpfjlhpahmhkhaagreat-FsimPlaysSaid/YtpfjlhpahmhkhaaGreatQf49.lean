/- Texts put together: WHd1. -/
import Derived.Test.YtpfjlhpahmhkhaaGreatQf42
import Derived.Test.YtpfjlhpahmhkhaaGreatQf48
/- marlaw5.Does, exactly: at kind 12, at kinds that name no operation; at every kind. -/
namespace Go.Proofs.YtpfjlhpahmhkhaaGreat.Tx
open Go.RowKit Go.Maps Go.Proofs.YtpfjlhpahmhkhaaGreat.Sh

/-- A stable sort leaves what the weak one does. -/
theorem due_len {R S : List EvM} (h : ∀ k, dueL k R = dueL k S) : R.length = S.length := by
  have hp : List.Perm (R.map fun e => e.at_) (S.map fun e => e.at_) := by
    rw [List.perm_iff_count]
    intro a
    have h1 : ∀ l : List EvM, List.count a (l.map fun e => e.at_) = (dueL a l).length := by
      intro l
      induction l with
      | nil => rfl
      | cons e l ih =>
        unfold dueL at ih ⊢
        rw [List.map_cons, List.count_cons, List.filter_cons, ih]
        by_cases he : e.at_ = a
        · rw [if_pos (by simpa using he), if_pos (by simpa using he)]; rfl
        · rw [if_neg (by simpa using he), if_neg (by simpa using he)]; rfl
    rw [h1, h1, h a]
  have := hp.length_eq
  rwa [List.length_map, List.length_map] at this
theorem Sorts.planR {c : CSt} {l R : List EvM} (h : Sorts c.calls l R) : PlanR c l R := by
  refine ⟨due_len h.same, fun e he => ?_⟩
  have h1 : e ∈ dueL e.at_ R := List.mem_filter.2 ⟨he, decide_eq_true rfl⟩
  rw [h.same] at h1
  have h2 := List.mem_filter.1 (List.mem_filter.1 h1).1
  exact ⟨h2.1, of_decide_eq_true h2.2⟩
set_option maxRecDepth 100000 in
set_option maxHeartbeats 6400000 in
theorem does_x1 (F M : Nat → Prop) (b d : Nat) (c : CSt) (s : FSM) (i : Nat) (o : LOp) (dv pv : Value) (_hpv : pv.oneCell' = true) (G : Nat → Prop) (w : World) (h : TwoAt F w b c d s M) (htd : Tied c s) (hc : GoC c i) (hs : GoM s i) (hi : i ≤ 2000) (ho : OpOK o) (hk : o.kind < 0 ∨ 11 < o.kind) (hdv : By G w dv o.data) (hG : ∀ k, G k → ¬ M k) (hpl : InL evK F w pv o.plan) (hpd : ∀ e ∈ o.plan, e.data.length ≤ 140737488351232) :
    Calls Tryz.prog 17 #[.pointer (some ⟨b, 0, none⟩), .pointer (some ⟨d, 0, none⟩), opV o dv pv] w fun e w' => ∃ c', e = .returned (.bool true) ∧ DoesR c o c' ∧ Tied c' (doesM s o) ∧ TwoPost F M w b c' d (doesM s o) w' := by
  obtain ⟨kd, mo, ke, tn, pa, de, da, pl⟩ := o
  unfold opV
  dsimp only at hk hdv hpl hpd ⊢
  obtain ⟨pA, pcap, rfl, _, _⟩ := evs_slice hpl.tmp
  obtain ⟨pn, hpn⟩ : ∃ pn, pl.length = pn := ⟨_, rfl⟩
  rw [hpn] at hpl
  rw [hpn]
  obtain ⟨dA, dc, rfl, _, _⟩ := hdv.slice
  obtain ⟨dl, hdl⟩ : ∃ dl, da.length = dl := ⟨_, rfl⟩
  have hba := (Below.refl w.heap.size w).alloc (Nat.le_refl _) (.cells #[.int .i64 kd, .int .i64 mo, .int .i64 ke, .int .i64 tn, .string (str pa), .string (str de), .slice dA dl dc, .slice pA pn pcap] 35)
  have hbk : Blk (w.alloc (.cells #[.int .i64 kd, .int .i64 mo, .int .i64 ke, .int .i64 tn, .string (str pa), .string (str de), .slice dA dl dc, .slice pA pn pcap] 35)) w.heap.size 35 #[.int .i64 kd, .int .i64 mo, .int .i64 ke, .int .i64 tn, .string (str pa), .string (str de), .slice dA dl dc, .slice pA pn pcap] := Blk.new _ _ _
  rw [hdl] at hdv ⊢
  go_enter Tryz.func17, Tryz.ntmps17
  have c3 := hbk.cell 6
  have HDV := Lib.hid hdv.bound
  have hsl : SlV (w.alloc (.cells #[.int .i64 kd, .int .i64 mo, .int .i64 ke, .int .i64 tn, .string (str pa), .string (str de), .slice dA dl dc, .slice pA pn pcap] 35)) (.slice dA dl dc) (da.map bv) := (hdv.only (Only.of_below (M := fun _ => False) hba) (fun _ _ => id)).slv
  have HTD := Lib.hid htd
  have HG := Lib.hid hG
  have HC := Lib.hid (hc.ready (by omega))
  have HCF := Lib.hid hc.fits
  have HSM := Lib.hid hs
  have HS := Lib.hid (hs.ready (by omega))
  have HO := Lib.hid ho
  have HDL := Lib.hid hdl
  have H := Lib.hid h
  have HBA := Lib.hid hba
  have HBK := Lib.hid hbk
  have HSL := Lib.hid hsl
  have HI := Lib.hid hi
  have HPL := Lib.hid hpl
  have HPD := Lib.hid hpd
  have HPN := Lib.hid hpn
  clear htd hdv hG hc hs ho hdl h hba hbk hsl hi hpl hpd hpn
  go_wp2_with fail
  refine (rcopyb_big (.slice dA dl dc) da _ HSL.out (by have h9 : da.length ≤ 140737488351232 := HO.out.data; omega)).mono ?_
  rintro e w0 ⟨iv, rfl, hown, hb0⟩
  obtain ⟨iA, ic, rfl, _, _⟩ := hown.slv
  rw [List.length_map, HDL.out] at hown ⊢
  have HOWN := Lib.hid hown
  have HB0 := Lib.hid (HBA.out.trans (hb0.mono HBA.out.size))
  have HBK0 : Hid (Blk w0 w.heap.size 35 #[.int .i64 kd, .int .i64 mo, .int .i64 ke, .int .i64 tn, .string (str pa), .string (str de), .slice dA dl dc, .slice pA pn pcap]) := HBK.out.below hb0 (by simp)
  have hz0 : w.heap.size < w0.heap.size := by have := hb0.size; simp at this; omega
  have HZ0 := Lib.hid hz0
  have H0 : Hid (TwoAt F w0 b c d s M) := H.out.below HB0.out
  clear hown hb0 hz0 c3
  have HT0 : Hid (TwoPost F M w0 b c d s w0) := TwoPost.refl H0.out
  have HML : Hid (∀ k, M k → k < w.heap.size) := H.out.lt
  have HSC : Hid (∀ W, Only M w0 W → W.cell? ⟨w.heap.size, 0, none⟩ = some (.int .i64 kd) ∧ W.cell? ⟨w.heap.size, 1, none⟩ = some (.int .i64 mo) ∧ W.cell? ⟨w.heap.size, 2, none⟩ = some (.int .i64 ke) ∧ W.cell? ⟨w.heap.size, 3, none⟩ = some (.int .i64 tn) ∧ W.cell? ⟨w.heap.size, 4, none⟩ = some (.string (str pa)) ∧ W.cell? ⟨w.heap.size, 5, none⟩ = some (.string (str de)) ∧ W.cell? ⟨w.heap.size, 6, none⟩ = some (.slice dA dl dc) ∧ W.cell? ⟨w.heap.size, 7, none⟩ = some (.slice pA pn pcap)) := fun W hW => by
    have b1 := hW.blk HBK0.out (fun hm => by have := HML.out _ hm; omega)
    exact ⟨b1.cell 0, b1.cell 1, b1.cell 2, b1.cell 3, b1.cell 4, b1.cell 5, b1.cell 6, b1.cell 7⟩
  have HIN : Hid (By (fun k => w.heap.size < k ∧ k < w0.heap.size) w0 (.slice iA dl ic) da) := by
    have h1 := OwnV.by_ (F := fun _ => False) HOWN.out
    exact h1.mono (fun k _ hk => by
      rcases hk with hk | ⟨g1, g2⟩
      · exact hk.elim
      · simp at g1; exact ⟨by omega, g2⟩)
  have HD0 : Hid (By (fun k => G k ∧ k < w.heap.size) w0 (.slice dA dl dc) da) := HDV.out.only (Only.of_below (M := fun _ => False) HB0.out) (fun _ _ => id)
  have q0 := HSC.out w0 (Only.refl _ _)
  have HPA : Hid (pa.length ≤ 900000) := Nat.le_trans HO.out.path (by decide : 400 ≤ 900000)
  have HDE : Hid (de.length ≤ 900000) := Nat.le_trans HO.out.dest (by decide : 400 ≤ 900000)
  have HI7 : Hid (130 * i ≤ 700000) := by have := HI.out; show 130 * i ≤ 700000; omega
  go_upto_block 0 with (fail)
  go_cut [8] (fun v wx => ∃ c', v = .bool true ∧ (DoesR c ⟨kd, mo, ke, tn, pa, de, da, pl⟩ c' ∧ Tied c' (doesM s ⟨kd, mo, ke, tn, pa, de, da, pl⟩)) ∧ TwoPost F M w0 b c' d (doesM s ⟨kd, mo, ke, tn, pa, de, da, pl⟩) wx)
  case first =>
    by_cases e12 : kd = 12
    · subst e12
      obtain ⟨Mf, Mx, hX, hM⟩ := H0.out
      have HX := Lib.hid hX
      have HM := Lib.hid hM
      have HLT : Hid (∀ k, Mx k → k < w0.heap.size) := hX.x.mlt
      have HP0 : Hid (InL evK F w0 (.slice pA pn pcap) pl) := HPL.out.below HB0.out
      clear hX hM
      go_wp2_with fail
      refine (plan_x F Mf b c (.slice pA pn pcap) pl w0 HX.out.f HP0.out.tmp (Nat.le_trans HO.out.plan (by decide)) (fun e he => Nat.le_trans (HPD.out e he) (by decide))).mono ?_
      rintro e w1 ⟨rfl, R, hR, hp⟩
      have HR := Lib.hid hR
      have HP := Lib.hid hp
      have HX1 := Lib.hid (HX.out.later HP.out)
      have hon : Only Mf w0 w1 := by obtain ⟨_, _, h9, _⟩ := hp; exact h9
      have HP1 : Hid (InL evK F w1 (.slice pA pn pcap) pl) := HP0.out.only hon (fun k hk => HX.out.f.apart_ k hk)
      have HON := Lib.hid hon
      have q1 := HSC.out w1 (hon.more (fun k _ hk => (HM.out k).2 (.inl hk)))
      clear hR hp hon q0
      go_wp2_with fail
      refine (plainev_any F (.slice pA pn pcap) pl w1 HP1.out.tmp (Nat.le_trans HO.out.plan (by decide)) (fun k hk => Nat.lt_of_lt_of_le (HX.out.f.low k hk) HON.out.size)).mono ?_
      rintro e w2 ⟨v2, rfl, ho2, hb2⟩
      have hz1 := HON.out.size
      have HX2 : Hid (RefAt (fun k => F k ∨ (w1.heap.size ≤ k ∧ k < w2.heap.size)) w2 d s Mx) := (HX1.out.below hb2).mono_ (fun k hk => .inl hk) (fun k hk hm => by
        rcases hk with hk | hk
        · exact HX.out.x.apart_ k hk hm
        · have := HLT.out k hm; omega) (fun k hk => by
        rcases hk with hk | hk
        · have := HX.out.f.low k hk; have := hb2.size; omega
        · exact hk.2)
      have HI2 : Hid (InL evK (fun k => F k ∨ (w1.heap.size ≤ k ∧ k < w2.heap.size)) w2 v2 pl) := ho2.rin
      have HB2 := Lib.hid hb2
      clear ho2 hb2 q1 hz1
      go_wp2_with fail
      refine (rplan_any _ Mx d s v2 pl w2 HX2.out HI2.out (Nat.le_trans HO.out.plan (by decide))).mono ?_
      rintro e w3 ⟨rfl, hq⟩
      have HT := Lib.hid (two_both HX.out HM.out HP.out (FsPost.wide HB2.out (fun k hk => hk) (fun k hk => .inl hk) hq))
      clear hq
      go_wp2_with fail
      go_meet
      exact ⟨{ c with plan := R }, rfl, ⟨⟨fun h => absurd rfl h, fun _ => ⟨R, HR.out.planR, rfl⟩⟩, by simpa [doesM] using HTD.out.plan HR.out⟩, by simpa [doesM] using HT.out⟩
    · have HDR : Hid (DoesR c ⟨kd, mo, ke, tn, pa, de, da, pl⟩ c ∧ doesM s ⟨kd, mo, ke, tn, pa, de, da, pl⟩ = s) := by
        refine ⟨⟨fun _ => ?_, fun h => absurd h e12⟩, ?_⟩
        · unfold doesC
          dsimp only
          repeat rw [if_neg (by omega)]
        · unfold doesM
          dsimp only
          repeat rw [if_neg (by omega)]
      by_cases e13 : 12 < kd
      · go_wp2_with fail
        go_meet
        exact ⟨c, rfl, ⟨HDR.out.1, by rw [HDR.out.2]; exact HTD.out⟩, by rw [HDR.out.2]; exact HT0.out⟩
      · have e14 : kd < 0 := by omega
        go_wp2_with fail
        go_meet
        exact ⟨c, rfl, ⟨HDR.out.1, by rw [HDR.out.2]; exact HTD.out⟩, by rw [HDR.out.2]; exact HT0.out⟩
  case rest =>
    obtain ⟨c', rfl, hdr, hp⟩ := hcut
    have HP := Lib.hid hp
    have HDR := Lib.hid hdr
    obtain ⟨_, _, ho, _⟩ := hp
    have qc := HSC.out wc ho
    have HI1 : Hid (SlV wc (.slice iA dl ic) (da.map bv)) := (HIN.out.only ho (fun k hk hm => by have := HML.out k hm; omega)).slv
    have HD1 : Hid (SlV wc (.slice dA dl dc) (da.map bv)) := (HD0.out.only ho (fun k hk => HG.out k hk.1)).slv
    have HO1 : Hid (OwnV 5 wc (w.heap.size + 1) (.slice iA dl ic) (da.map bv)) := by
      have h1 := ho.own HOWN.out (fun k hk hm => by
        have h2 := (HOWN.out.lt k hk).1
        have := HML.out k hm
        simp at h2
        omega)
      exact h1.base (by simp)
    have hsz := ho.size
    have HSZ := Lib.hid hsz
    clear ho hsz q0 hdr
    go_wp2_with fail
    refine (tbytes_any iA dA dl dl ic dc da da wc HDL.out HDL.out HI1.out HD1.out true (by simp)).mono ?_
    rintro e wb ⟨rfl, rfl⟩
    go_wp2_with fail
    have HDM : Hid (dl ≤ 140737488351232) := by have := HO.out.data; rw [← HDL.out]; exact this
    have hdm := HDM.out
    go_loopw [17] (fun j wr => ∃ k : Nat, k ≤ dl ∧ j = .int .i64 k ∧ Only (fun g => (Value.slice iA dl ic).ownBlock = some g) wc wr ∧ ∃ vs : List Value, vs.length = dl ∧ (∀ u ∈ vs, ∃ n : Int, u = .int .u8 n) ∧ OwnV 5 wr (w.heap.size + 1) (.slice iA dl ic) vs) (fun j _ => dl - (intOf j).toNat)
    case atStart => exact ⟨0, Nat.zero_le _, rfl, Only.refl _ _, da.map bv, by rw [List.length_map, HDL.out], fun u hu => by
      obtain ⟨x, _, rfl⟩ := List.mem_map.1 hu
      exact ⟨_, rfl⟩, HO1.out⟩
    case round =>
      obtain ⟨k, hk, rfl, hon, vs, hvl, hvi, hov⟩ := hrel
      by_cases hlt : k < dl
      · have hkv : k < vs.length := by omega
        obtain ⟨g, rfl⟩ : ∃ g, iA = some ⟨g, 0, none⟩ := by
          rcases hov.blk with ⟨_, he⟩ | ⟨g, c9, cur, he, _⟩
          · rw [he] at hvl; simp at hvl; omega
          · injection he with e1; exact ⟨g, e1⟩
        obtain ⟨n, hn⟩ := hvi vs[k] (List.getElem_mem hkv)
        obtain ⟨x1, x2⟩ := hov.cellAt k vs[k] (List.getElem?_eq_getElem hkv)
        rw [hn] at x1
        have HON := Lib.hid hon
        have HVI := Lib.hid hvi
        have HOV := Lib.hid hov
        have HVL := Lib.hid hvl
        have p1 : (k : Int) < (dl : Int) := by omega
        clear hon hvi hov hvl hn
        go_wp2_with fail
        go_roundw
        case rel => exact ⟨k + 1, by omega, by go_num, HON.out.set_ (.inl rfl) _, vs.set k _, by rw [List.length_set]; exact HVL.out, fun u hu => by
          rcases List.mem_or_eq_of_mem_set hu with h9 | h9
          · exact HVI.out u h9
          · exact ⟨_, h9⟩, HOV.out.setAt k _⟩
        case measure => simp [intOf]; omega
      · obtain rfl : k = dl := by omega
        have HON := Lib.hid hon
        clear hon hov hvi
        go_wp2_with fail
        go_ret
        refine ⟨c', rfl, HDR.out.1, HDR.out.2, TwoPost.around H.out HB0.out HP.out HON.out (fun g hg => ?_)⟩
        have h2 := HOWN.out.lt g hg
        simp at h2
        omega
set_option maxRecDepth 100000 in
set_option maxHeartbeats 400000 in
theorem does_x (F M : Nat → Prop) (b d : Nat) (c : CSt) (s : FSM) (i : Nat) (o : LOp) (dv pv : Value) (G : Nat → Prop) (w : World) (h : TwoAt F w b c d s M) (htd : Tied c s) (hc : GoC c i) (hs : GoM s i) (hi : i ≤ 2000) (ho : OpOK o) (hdv : By G w dv o.data) (hG : ∀ k, G k → ¬ M k) (hpl : InL evK F w pv o.plan) (hpd : ∀ e ∈ o.plan, e.data.length ≤ 140737488351232) :
    Calls Tryz.prog 17 #[.pointer (some ⟨b, 0, none⟩), .pointer (some ⟨d, 0, none⟩), opV o dv pv] w fun e w' => ∃ c', e = .returned (.bool true) ∧ DoesR c o c' ∧ Tied c' (doesM s o) ∧ TwoPost F M w b c' d (doesM s o) w' := by
  have hpv : pv.oneCell' = true := by
    obtain ⟨pA, pcap, rfl, _, _⟩ := evs_slice hpl.tmp
    rfl
  by_cases hk : 0 ≤ o.kind ∧ o.kind ≤ 11
  · refine (does_x0 F M b d c s i o dv pv hpv G w h htd hc hs hi ho hk hdv hG).mono ?_
    rintro e w' ⟨he, hp⟩
    refine ⟨_, he, ⟨fun _ => rfl, fun h12 => by omega⟩, htd.does hc.fits (by have := hc.plan; omega) o, hp⟩
  · exact does_x1 F M b d c s i o dv pv hpv G w h htd hc hs hi ho (by omega) hdv hG hpl hpd
end Go.Proofs.YtpfjlhpahmhkhaaGreat.Tx
