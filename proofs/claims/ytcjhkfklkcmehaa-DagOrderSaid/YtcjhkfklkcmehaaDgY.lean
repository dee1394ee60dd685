/- DagOrder: the law's walk. -/
import Derived.Test.YtcjhkfklkcmehaaDgU
import Derived.Test.YtcjhkfklkcmehaaDgX
import Derived.Test.YtcjhkfklkcmehaaDgS
import Derived.Test.YtcjhkfklkcmehaaTs9
set_option linter.unusedVariables false
set_option linter.unusedSimpArgs false
namespace Go.Proofs.Ytcjhkfklkcmehaa.Tx
open Go.RowKit Go.Maps Go.Proofs.Ytcjhkfklkcmehaa.Sh

theorem slv_drop {W : World} {A : Option Addr} {n c : Nat} {xs : List ByteArray} (h : SlV W (.slice A n c) (xs.map sv)) (k : Nat) (hk : k ≤ n) (hk1 : k ≤ 1000000) : SlV W (.slice (if c = k then A else A.map (·.add (k * 1))) (n - k) (c - k)) ((xs.drop k).map sv) := by
  obtain ⟨A', c', hv, h1, h2, h3, h4⟩ := h
  injection hv with e1 e2 e3
  subst e1 e3
  rw [List.length_map] at e2 h1
  by_cases hc : c = k
  · have hn : n = k := by omega
    subst hn
    rw [if_pos hc]
    have he : (xs.drop n).map sv = [] := by rw [List.drop_eq_nil_of_le (by omega)]; rfl
    rw [he]
    refine ⟨A, c - n, by simp, by simp, by omega, ⟨rfl, fun hx => absurd hx (by simp)⟩, fun _ => rfl⟩
  · rw [if_neg hc]
    refine ⟨A.map (·.add (k * 1)), c - k, by rw [List.length_map, List.length_drop, e2], by rw [List.length_map, List.length_drop]; omega, by omega, ⟨by simp, fun hx => ?_⟩, fun e => ?_⟩
    · rw [List.length_map, List.length_drop] at hx
      obtain ⟨ad, hA, hl, hcc⟩ := h3.2 (by rw [List.length_map]; omega)
      refine ⟨ad.add (k * 1), by rw [hA]; rfl, by rw [block_of_add]; exact hl, fun j u hu => ?_⟩
      rw [Nat.mul_one, add_of_add]
      exact hcc (k + j) u (by rw [← hu, List.map_drop, List.getElem?_drop])
    · cases A with
      | none =>
        have := List.map_eq_nil_iff.1 (h4 rfl)
        rw [this]
        simp
      | some ad => cases e

set_option maxRecDepth 100000 in
set_option maxHeartbeats 12800000 in
theorem dagOrder_walk (a0 : Option Addr) (len0 cap0 : Nat) (a1 : Option Addr) (len1 cap1 : Nat) (z1 : List ByteArray) (w : World) (w0 : IsNodes w a0 len0 cap0) (w1 : IsTexts w a1 len1 cap1 z1) :
    Calls Try.prog 5 #[.slice a0 len0 cap0, .slice a1 len1 cap1] w (Yes w) := by
  obtain ⟨l, hln, hsn, hst⟩ := w0
  obtain ⟨xs, hxl, hxs, hxz⟩ := w1.slv
  have hmade := fun (W : World) (hW : Below w.heap.size w W) => gmade_any _ l W (hln.below hW) hsn hst
  have hfew := fun (W : World) (hW : Below w.heap.size w W) => gfew_any _ xs W (hxs.below hW) hxz
  obtain ⟨A, c, hv, hlc, hcm, hR⟩ := hxs.len
  injection hv with e1 e2 e3
  subst e1 e3
  rw [List.length_map] at hlc hR e2
  subst e2
  have HMADE := Lib.hid hmade
  have HFEW := Lib.hid hfew
  have HXS := Lib.hid hxs
  have HR := Lib.hid hR
  have HSTN := Lib.hid hst
  clear hln hsn hst hmade hfew hxs hR w1 hxz hxl
  unfold maxLen at hcm
  obtain ⟨n, hn⟩ : ∃ n, xs.length = n := ⟨_, rfl⟩
  rw [hn] at HFEW HXS hlc ⊢
  have HN := Lib.hid hn
  clear hn
  go_enter Try.func5, Try.ntmps5
  go_wp2_with fail
  refine (gfirst_any w).mono ?_
  rintro e v1 ⟨rfl, hb1⟩
  have HB1 := Lib.hid hb1
  have HC1 := Lib.hid (HMADE.out v1 hb1)
  clear hb1
  go_wp2_with fail
  refine (HC1.out).mono ?_
  rintro e v2 (⟨g, rfl, hgo, hfn⟩ | ⟨rfl, hb2⟩)
  case inr =>
    have HF := Lib.hid (first_then (HB1.out.trans (hb2.mono HB1.out.size)))
    clear hb2
    go_wp2_with fail
    refine (HF.out).mono ?_
    rintro e v3 ⟨rfl, hb3⟩
    have HB3 := Lib.hid hb3
    clear hb3
    go_wp2_with fail
    go_ret
    exact ⟨rfl, HB3.out⟩
  have hb2 : Below w.heap.size w v2 := HB1.out.trans (hgo.b.mono HB1.out.size)
  have HB2 := Lib.hid hb2
  have HC2 := Lib.hid (HFEW.out v2 hb2)
  have HGO := Lib.hid hgo
  have HFN := Lib.hid hfn
  clear hb2 hgo hfn
  go_wp2_with fail
  refine (HC2.out).mono ?_
  rintro e v3 ⟨t, rfl, ht, rfl⟩
  cases t with
  | false =>
    have HF := Lib.hid (first_then HB2.out)
    clear ht
    go_wp2_with fail
    refine (HF.out).mono ?_
    rintro e v3 ⟨rfl, hb3⟩
    have HB3 := Lib.hid hb3
    clear hb3
    go_wp2_with fail
    go_ret
    exact ⟨rfl, HB3.out⟩
  | true =>
  have hft := ht rfl
  have hgk := gk_whole HFN.out HSTN.out
  obtain ⟨⟨Z, hat, hz⟩, hgb⟩ := HGO.out
  have hgs := hgk.gs (by omega)
  have HG40 : Hid ((madeG l).length ≤ 40) := hgk.len
  have hw := hgk.w
  obtain ⟨G, hG⟩ : ∃ G, madeG l = G := ⟨_, rfl⟩
  rw [hG] at hat hgs hw HG40
  have HW := Lib.hid hw
  have HGS := Lib.hid hgs
  have HAT := Lib.hid hat
  have hxsz : ∀ s ∈ xs, s.size ≤ 1000000 := fun s hs => by have := hft.2 s hs; omega
  have hxn : xs.length ≤ 2000 := by have := hft.1; omega
  have hord := gorder_any Z g G _ xs v2 hat hw hgs (HXS.out.below HB2.out) hxsz hxn
  have hanc := fun (W : World) (hW : Below v2.heap.size v2 W) => gancs_any Z g G _ xs W (hat.below hW) hw hgs (HXS.out.below (HB2.out.trans (hW.mono HB2.out.size))) hxsz hxn
  have HORD := Lib.hid hord
  have HANC := Lib.hid hanc
  have his : Hid (∀ (W : World) (a b : ByteArray), Below v2.heap.size v2 W → a.size ≤ 1000000 → b.size ≤ 1000000 → Calls Try.prog 31 #[.pointer (some ⟨g, 0, none⟩), .string a, .string b] W fun e w' => e = .returned (.bool (isG G a b)) ∧ Below W.heap.size W w') := fun W a b hW ha hb => gis_any Z g G a b W (HAT.out.below hW) HW.out HGS.out ha hb
  have HST : Hid (∀ (W : World) (k : Nat), Below v2.heap.size v2 W → k < G.length → Calls Try.prog 19 #[.pointer (some ⟨g, 0, none⟩), .string (idAt G k)] W fun e w' => e = .returned (.int .i64 (stAt G k)) ∧ W = w') := fun W k hW hk => by
    have := gstamp_any Z g G (idAt G k) W (HAT.out.below hW) (HW.out.sz k)
    rwa [in_id HW.out hk, pl_id HW.out hk, if_pos rfl] at this
  have HPA : Hid (∀ (W : World) (k : Nat), Below v2.heap.size v2 W → k < G.length → Calls Try.prog 21 #[.pointer (some ⟨g, 0, none⟩), .string (idAt G k)] W (TextsPost W ((parAt G k).map (idAt G)))) := fun W k hW hk => by
    have := gparents_any Z g G (idAt G k) W (HAT.out.below hW) HW.out (HW.out.sz k) (by have := HGS.out.par (pl G (idAt G k)); omega)
    rwa [in_id HW.out hk, pl_id HW.out hk, if_pos rfl] at this
  clear ht hft hgk hat hz hgb hgs hw hG hord hanc hxsz hxn
  go_wp2_with fail
  refine (HORD.out).mono ?_
  rintro e v3 ⟨hb3, ⟨hall, vo, os, rfl, hor, hoo⟩ | ⟨hall, rfl⟩⟩
  case inr =>
    have HB3 := Lib.hid hb3
    have HB23 := Lib.hid (HB2.out.trans (hb3.mono HB2.out.size))
    have HC4 := Lib.hid (HANC.out v3 hb3)
    have HALL := Lib.hid hall
    clear hb3 hall
    go_wp2_with fail
    refine (HC4.out).mono ?_
    rintro e v4 ⟨hb4, ⟨hx, _⟩ | ⟨_, rfl⟩⟩
    · rw [HALL.out] at hx; cases hx
    have HF := Lib.hid (first_then (HB23.out.trans (hb4.mono HB23.out.size)))
    clear hb4
    go_wp2_with fail
    refine (HF.out).mono ?_
    rintro e v3 ⟨rfl, hb3⟩
    have HB3 := Lib.hid hb3
    clear hb3
    go_wp2_with fail
    go_ret
    exact ⟨rfl, HB3.out⟩
  have HB3 := Lib.hid hb3
  have HB03 := Lib.hid (HB2.out.trans (hb3.mono HB2.out.size))
  have HC4 := Lib.hid (HANC.out v3 hb3)
  have HALL := Lib.hid hall
  have HOR := Lib.hid hor
  have HOO := Lib.hid hoo.slv
  obtain ⟨Ao, co, hvo, hmo, hco, hRo⟩ := hoo.slv.len
  rw [List.length_map] at hvo hmo hRo
  obtain ⟨o, ho⟩ : ∃ o, os.map (idAt G) = o := ⟨_, rfl⟩
  rw [ho] at hvo hmo hRo HOO
  obtain ⟨m, hm⟩ : ∃ m, o.length = m := ⟨_, rfl⟩
  rw [hm] at hvo hmo
  subst hvo
  have HO := Lib.hid ho
  have HM := Lib.hid hm
  have HRO := Lib.hid hRo
  have hm40 : m ≤ 40 := by
    have h1 : (os.map (idAt G)).length = (ancT G xs).length := ord_len hor
    have h2 := ancT_len (G := G) (xs := xs)
    have h3 := HG40.out
    rw [← hm, ← ho]
    omega
  clear hb3 hall hor hoo ho hm hRo hco
  go_wp2_with fail
  refine (HC4.out).mono ?_
  rintro e v4 ⟨hb4, ⟨_, va, rfl, hoa⟩ | ⟨hx, _⟩⟩
  case inr => rw [HALL.out] at hx; cases hx
  obtain ⟨Aa, ca, hva, hma, hca, hRa⟩ := hoa.slv.len
  rw [List.length_map] at hva
  have hlm : (ancT G xs).length = m := by rw [← ord_len HOR.out, HO.out, HM.out]
  rw [hlm] at hva
  subst hva
  have HB4 := Lib.hid hb4
  have HB24 := Lib.hid (HB3.out.trans (hb4.mono HB3.out.size))
  have HOA := Lib.hid hoa.slv
  have HOO4 := Lib.hid (HOO.out.below hb4)
  have hu := runiq_any _ o v4 (HOO.out.below hb4) (by rw [HM.out]; omega)
  have HUE : Hid (uniqT o = ancT G xs) := by rw [← HO.out]; exact ord_uniq HW.out HOR.out
  rw [HUE.out] at hu
  have HU := Lib.hid hu
  clear hb4 hoa hma hca hRa hlm hu
  go_wp2_with fail
  refine (HU.out).mono ?_
  rintro e v5 ⟨vu, rfl, hou, hb5⟩
  have HB25 := Lib.hid (HB24.out.trans (hb5.mono HB24.out.size))
  have HOA5 := Lib.hid (HOA.out.below hb5)
  have HOO5 := Lib.hid (HOO4.out.below hb5)
  have hsame := texts_same vu _ (ancT G xs) v5 hou.slv HOA5.out
  have HSAME := Lib.hid hsame
  clear hb5 hou hsame
  go_wp2_with fail
  refine (HSAME.out).mono ?_
  rintro e v6 ⟨rfl, hb6⟩
  have HB26 := Lib.hid (HB25.out.trans (hb6.mono HB25.out.size))
  have HB06 := Lib.hid (HB2.out.trans (HB26.out.mono HB2.out.size))
  have HOA6 := Lib.hid (HOA5.out.below hb6)
  have HOO6 := Lib.hid (HOO5.out.below hb6)
  obtain ⟨Ao', co', hvo, hmo, hco, hRo⟩ := HOO6.out.len
  injection hvo with e1 e2 e3
  subst e1 e3
  rw [List.length_map] at hRo
  have HR6 := Lib.hid hRo
  clear hb6 hmo hco hRo e2
  go_wp2_with fail
  go_loopw [10, 11, 12] (fun i _ _ wr => ∃ k : Nat, k ≤ m ∧ i = .int .i64 k ∧ Below v6.heap.size v6 wr) (fun i _ _ _ => m - (intOf i).toNat)
  case atStart => exact ⟨0, Nat.zero_le _, rfl, Below.refl _ _⟩
  case round =>
    obtain ⟨i, hi, rfl, hbw⟩ := hrel
    have HBW := Lib.hid hbw
    have z0 : (0 : Int) ≤ (i : Int) := by omega
    by_cases hlt : i < m
    · have z1 : (i : Int) < (m : Int) := by omega
      have hil : i < o.length := by rw [HM.out]; exact hlt
      obtain ⟨ao, rfl, hcell⟩ := texts_at HR6.out i hil
      obtain ⟨q, hq, hqG, hx⟩ := ord_at HOR.out (i := i) (s := o[i]) (by rw [HO.out]; exact List.getElem?_eq_getElem hil)
      rw [hx] at hcell
      have hbk := World.block_lt_of_cell? v6 _ hcell
      have HPX : Hid (∀ W : World, Below v6.heap.size v6 W → Calls Try.prog 21 #[.pointer (some ⟨g, 0, none⟩), .string (idAt G q)] W (TextsPost W ((parAt G q).map (idAt G)))) := fun W hW => HPA.out W q (HB26.out.trans (hW.mono HB26.out.size)) hqG
      have HSX : Hid (∀ W : World, Below v6.heap.size v6 W → Calls Try.prog 19 #[.pointer (some ⟨g, 0, none⟩), .string (idAt G q)] W fun e w' => e = .returned (.int .i64 (stAt G q)) ∧ W = w') := fun W hW => HST.out W q (HB26.out.trans (hW.mono HB26.out.size)) hqG
      have HIX : Hid (∀ (W : World) (p : Nat), Below v6.heap.size v6 W → p ∈ parAt G q → Calls Try.prog 31 #[.pointer (some ⟨g, 0, none⟩), .string (idAt G p), .string (idAt G q)] W fun e w' => e = .returned (.bool true) ∧ Below W.heap.size W w') := fun W p hW hp => by
        have := his.out W (idAt G p) (idAt G q) (HB26.out.trans (hW.mono HB26.out.size)) (HW.out.sz p) (HW.out.sz q)
        rwa [(par_is HW.out hqG hp).1] at this
      have HIY : Hid (∀ (W : World) (p : Nat), Below v6.heap.size v6 W → p ∈ parAt G q → Calls Try.prog 31 #[.pointer (some ⟨g, 0, none⟩), .string (idAt G q), .string (idAt G p)] W fun e w' => e = .returned (.bool false) ∧ Below W.heap.size W w') := fun W p hW hp => by
        have := his.out W (idAt G q) (idAt G p) (HB26.out.trans (hW.mono HB26.out.size)) (HW.out.sz q) (HW.out.sz p)
        rwa [(par_is HW.out hqG hp).2.1] at this
      have HBE : Hid (∀ p ∈ parAt G q, idAt G p ∈ o.drop (i + 1)) := fun p hp => by
        have := ord_behind HW.out HALL.out HOR.out hq hp
        rwa [HO.out] at this
      have HLT : Hid (∀ p ∈ parAt G q, p < G.length ∧ stAt G p < stAt G q) := fun p hp => ⟨par_lt HW.out hp, (par_is HW.out hqG hp).2.2⟩
      have HLN : Hid ((parAt G q).length ≤ 200) := HGS.out.par q
      obtain ⟨sx, hsx⟩ : ∃ y, stAt G q = y := ⟨_, rfl⟩
      obtain ⟨x, hxe⟩ : ∃ y, idAt G q = y := ⟨_, rfl⟩
      rw [hsx] at HSX HLT
      rw [hxe] at hcell HPX HSX HIX HIY
      have HXC : Hid (∀ W : World, Below v6.heap.size v6 W → W.cell? (ao.add i) = some (.string x)) := fun W hW => (hW.cell hbk).trans hcell
      have q0 : wr.cell? (ao.add i) = some (.string x) := HXC.out wr hbw
      obtain ⟨wo, hwo⟩ : ∃ wo, wo = wr := ⟨_, rfl⟩
      subst hwo
      have HCP := Lib.hid (HPX.out wo hbw)
      clear hil hcell hbk hx hxe hsx hbw hqG hq
      go_wp2_with fail
      refine (HCP.out).mono ?_
      rintro e w6 ⟨vp, rfl, hop, hbp⟩
      obtain ⟨Ap, cp, hvp, hmp, hcp, hRp⟩ := hop.slv.len
      rw [List.length_map, List.length_map] at hvp
      rw [List.length_map] at hRp
      obtain ⟨np, hnp⟩ : ∃ np, (parAt G q).length = np := ⟨_, rfl⟩
      rw [hnp] at hvp
      subst hvp
      have HNP := Lib.hid hnp
      have HB66 := Lib.hid (HBW.out.trans (hbp.mono HBW.out.size))
      have HRP := Lib.hid hRp
      have hnp2 : np ≤ 200 := by rw [← hnp]; exact HLN.out
      clear hop hbp hmp hcp hRp hnp q0 HCP
      go_wp2_with fail
      go_loopw [12] (fun k wr => ∃ j : Nat, j ≤ np ∧ k = .int .i64 j ∧ Below w6.heap.size w6 wr) (fun k _ => np - (intOf k).toNat)
      case atStart => exact ⟨0, Nat.zero_le _, rfl, Below.refl _ _⟩
      case round =>
        obtain ⟨j, hj, rfl, hbw⟩ := hrel
        have HBI := Lib.hid hbw
        have hv6 : Below v6.heap.size v6 wr := HB66.out.trans (hbw.mono HB66.out.size)
        have HBV := Lib.hid hv6
        have y0 : (0 : Int) ≤ (j : Int) := by omega
        by_cases hjn : j < np
        · have y1 : (j : Int) < (np : Int) := by omega
          have hjl : j < ((parAt G q).map (idAt G)).length := by rw [List.length_map, HNP.out]; exact hjn
          obtain ⟨ap, rfl, hcy⟩ := texts_at ((HRP.out.below hbw).more hbw.size) j hjl
          have hjl2 : j < (parAt G q).length := by rw [HNP.out]; exact hjn
          rw [List.getElem_map] at hcy
          have hpm : (parAt G q)[j] ∈ parAt G q := List.getElem_mem hjl2
          generalize (parAt G q)[j] = p at *
          obtain ⟨hpG, hst⟩ := HLT.out p hpm
          have HI1 : Hid (∀ W : World, Below v6.heap.size v6 W → Calls Try.prog 31 #[.pointer (some ⟨g, 0, none⟩), .string (idAt G p), .string x] W fun e w' => e = .returned (.bool true) ∧ Below W.heap.size W w') := fun W hW => HIX.out W p hW hpm
          have HI2 : Hid (∀ W : World, Below v6.heap.size v6 W → Calls Try.prog 31 #[.pointer (some ⟨g, 0, none⟩), .string x, .string (idAt G p)] W fun e w' => e = .returned (.bool false) ∧ Below W.heap.size W w') := fun W hW => HIY.out W p hW hpm
          have HSY : Hid (∀ W : World, Below v6.heap.size v6 W → Calls Try.prog 19 #[.pointer (some ⟨g, 0, none⟩), .string (idAt G p)] W fun e w' => e = .returned (.int .i64 (stAt G p)) ∧ W = w') := fun W hW => HST.out W p (HB26.out.trans (hW.mono HB26.out.size)) hpG
          have hbk : ∀ W : World, (Instr.slice 23 (.slice (some ao) m co) (some (.int .i64 ((i + 1 : Nat) : Int))) none none).run Try.prog W = .ok (.slice (if co = i + 1 then some ao else (some ao).map (·.add ((i + 1) * 1))) (m - (i + 1)) (co - (i + 1))) W := fun W => texts_back (some ao) m co (i + 1) (by omega) W
          have HHAS : Hid (∀ W : World, Below v6.heap.size v6 W → Calls Try.prog 35 #[.slice (if co = i + 1 then some ao else (some ao).map (·.add ((i + 1) * 1))) (m - (i + 1)) (co - (i + 1)), .string (idAt G p)] W fun e w' => e = .returned (.bool true) ∧ W = w') := fun W hW => by
            have := rhas_any _ (o.drop (i + 1)) (idAt G p) W (slv_drop (HOO6.out.below hW) (i + 1) (by omega) (by omega))
            rwa [hasT_yes (HBE.out p hpm)] at this
          obtain ⟨Ab, hAb⟩ : ∃ A, (if co = i + 1 then some ao else (some ao).map (·.add ((i + 1) * 1))) = A := ⟨_, rfl⟩
          rw [hAb] at hbk HHAS
          obtain ⟨lb, hlb⟩ : ∃ k, m - (i + 1) = k := ⟨_, rfl⟩
          obtain ⟨cb, hcb⟩ : ∃ k, co - (i + 1) = k := ⟨_, rfl⟩
          rw [hlb, hcb] at hbk HHAS
          obtain ⟨i1, hi1⟩ : ∃ k, i + 1 = k := ⟨_, rfl⟩
          rw [hi1] at hbk
          have hii : (i : Int) + 1 = (i1 : Int) := by omega
          have hwr : IntKind.i64.wrap (i1 : Int) = (i1 : Int) := by rw [IntKind.wrap_i64]; omega
          obtain ⟨sy, hsy⟩ : ∃ s, stAt G p = s := ⟨_, rfl⟩
          obtain ⟨y, hye⟩ : ∃ y, idAt G p = y := ⟨_, rfl⟩
          rw [hsy] at HSY hst
          rw [hye] at hcy HI1 HI2 HSY HHAS
          have q0 : wr.cell? (ao.add i) = some (.string x) := HXC.out wr hv6
          have p0 : wr.cell? (ap.add j) = some (.string y) := hcy
          have HBK := Lib.hid (World.block_lt_of_cell? wr _ hcy)
          have hst2 : ¬ (sx ≤ sy) := by omega
          clear hAb hlb hcb hi1 hsy hye hcy hpm hpG hv6 hbw hjl hjl2
          refine withid fun hid => ?_
          let rec auxs : domOf hid := by
            clear auxs
            delta domOf
            clear hid
            go_wp2_with fail
            -- STEPS
            refine wp_region_held_drew (S := (fun W => W.cell? (ao.add i) = some (.string x) ∧ W.cell? (ap.add j) = some (.string y))) (by kernel_rfl) ?_ (fun hHeld => ?_)
            · try dsimp only
              exact ⟨q0, p0⟩
            refine take_at (i := 0) (d := 89) (oi := { dst := some 89, op := Op.move (Operand.tmp 6), type := 23, pos := "law.go:164", after := #[], guard := none }) (v := ?_) (by kernel_rfl) (by kernel_rfl) (by kernel_rfl) (by kernel_rfl) (by kernel_rfl) (fun _ _ _ h => h) (Or.inl ⟨by kernel_rfl, ?_⟩) (by assumption) ?_
            rotate_left
            · intro W hSw
              try dsimp only at hSw
              go_simp
              first | done | with_reducible rfl
            try simp only [Act.put, List.setIfInBounds_toArray, List.set_cons_zero, List.set_cons_succ]
            refine take_at (i := 1) (d := 90) (oi := { dst := some 90, op := Op.move (Operand.tmp 10), type := 3, pos := "law.go:164", after := #[], guard := none }) (v := ?_) (by kernel_rfl) (by kernel_rfl) (by kernel_rfl) (by kernel_rfl) (by kernel_rfl) (fun _ _ _ h => h) (Or.inl ⟨by kernel_rfl, ?_⟩) (by assumption) ?_
            rotate_left
            · intro W hSw
              try dsimp only at hSw
              go_simp
              first | done | with_reducible rfl
            try simp only [Act.put, List.setIfInBounds_toArray, List.set_cons_zero, List.set_cons_succ]
            refine take_at (i := 2) (d := 91) (oi := { dst := some 91, op := Op.binOp BinOp.add 3 (Operand.tmp 90) (Operand.const (Value.int IntKind.i64 1)) 3, type := 3, pos := "law.go:164", after := #[{ on := 1, ground := Ground.data }], guard := none }) (v := ?_) (by kernel_rfl) (by kernel_rfl) (by kernel_rfl) (by kernel_rfl) (by kernel_rfl) (fun _ _ _ h => h) (Or.inl ⟨by kernel_rfl, ?_⟩) (by assumption) ?_
            rotate_left
            · intro W hSw
              try dsimp only at hSw
              go_simp
              first | done | with_reducible rfl
            try simp only [Act.put, List.setIfInBounds_toArray, List.set_cons_zero, List.set_cons_succ]
            refine take_at (i := 3) (d := 92) (oi := { dst := some 92, op := Op.slice 23 (Operand.tmp 89) (some (Operand.tmp 91)) none none, type := 23, pos := "law.go:164", after := #[{ on := 0, ground := Ground.data }, { on := 2, ground := Ground.data }], guard := none }) (v := ?_) (by kernel_rfl) (by kernel_rfl) (by kernel_rfl) (by kernel_rfl) (by kernel_rfl) (fun _ _ _ h => h) (Or.inl ⟨by kernel_rfl, ?_⟩) (by assumption) ?_
            rotate_left
            · intro W hSw
              try dsimp only at hSw
              go_simp
              first | done | with_reducible rfl
            try simp only [Act.put, List.setIfInBounds_toArray, List.set_cons_zero, List.set_cons_succ]
            refine take_at (i := 4) (d := 93) (oi := { dst := some 93, op := Op.move (Operand.tmp 11), type := 23, pos := "law.go:164", after := #[], guard := none }) (v := ?_) (by kernel_rfl) (by kernel_rfl) (by kernel_rfl) (by kernel_rfl) (by kernel_rfl) (fun _ _ _ h => h) (Or.inl ⟨by kernel_rfl, ?_⟩) (by assumption) ?_
            rotate_left
            · intro W hSw
              try dsimp only at hSw
              go_simp
              first | done | with_reducible rfl
            try simp only [Act.put, List.setIfInBounds_toArray, List.set_cons_zero, List.set_cons_succ]
            refine take_at (i := 5) (d := 94) (oi := { dst := some 94, op := Op.move (Operand.tmp 12), type := 3, pos := "law.go:164", after := #[], guard := none }) (v := ?_) (by kernel_rfl) (by kernel_rfl) (by kernel_rfl) (by kernel_rfl) (by kernel_rfl) (fun _ _ _ h => h) (Or.inl ⟨by kernel_rfl, ?_⟩) (by assumption) ?_
            rotate_left
            · intro W hSw
              try dsimp only at hSw
              go_simp
              first | done | with_reducible rfl
            try simp only [Act.put, List.setIfInBounds_toArray, List.set_cons_zero, List.set_cons_succ]
            refine take_at (i := 6) (d := 95) (oi := { dst := some 95, op := Op.indexAddr 23 (Operand.tmp 93) (Operand.tmp 94), type := 0, pos := "law.go:164", after := #[{ on := 4, ground := Ground.data }, { on := 5, ground := Ground.data }], guard := none }) (v := ?_) (by kernel_rfl) (by kernel_rfl) (by kernel_rfl) (by kernel_rfl) (by kernel_rfl) (fun _ _ _ h => h) (Or.inl ⟨by kernel_rfl, ?_⟩) (by assumption) ?_
            rotate_left
            · intro W hSw
              try dsimp only at hSw
              go_simp
              first | done | with_reducible rfl
            try simp only [Act.put, List.setIfInBounds_toArray, List.set_cons_zero, List.set_cons_succ]
            refine take_at (i := 7) (d := 96) (oi := { dst := some 96, op := Op.load 9 (Operand.tmp 95), type := 9, pos := "law.go:164", after := #[{ on := 6, ground := Ground.data }], guard := none }) (v := ?_) (by kernel_rfl) (by kernel_rfl) (by kernel_rfl) (by kernel_rfl) (by kernel_rfl) (fun _ _ _ h => h) (Or.inl ⟨by kernel_rfl, ?_⟩) (by assumption) ?_
            rotate_left
            · intro W hSw
              try dsimp only at hSw
              obtain ⟨y0s, y1s⟩ := hSw
              go_simp
              first | done | with_reducible rfl
            try simp only [Act.put, List.setIfInBounds_toArray, List.set_cons_zero, List.set_cons_succ]
            refine wpAnyH_ready (rs := [8]) (by kernel_rfl) (by simp) (AllReadyH.cons (o := { dst := some 97, op := Op.call { callee := Callee.value (Operand.func 35), args := #[Operand.tmp 92, Operand.tmp 96], argTypes := #[23, 9] }, type := 4, pos := "law.go:164", after := #[{ on := 3, ground := Ground.data }, { on := 7, ground := Ground.data }], guard := none }) (by kernel_rfl) (fun K hK => ?_) AllReadyH.nil)
            go_simp
            refine (HHAS.out _ (by first | exact HBV.out.drew | exact HBV.out)).mono ?_
            rintro e w9 ⟨rfl, rfl⟩
            try go_wp2_with fail
            refine hK.out _ _ ?_ (fun hHeld => ?_)
            · try dsimp only
              exact ⟨q0, p0⟩
            clear hK K
            try simp only [Act.put, List.setIfInBounds_toArray, List.set_cons_zero, List.set_cons_succ]
            refine take_at (i := 9) (d := 98) (oi := { dst := some 98, op := Op.unOp UnOp.not 4 (Operand.tmp 97), type := 4, pos := "law.go:164", after := #[{ on := 8, ground := Ground.data }], guard := none }) (v := ?_) (by kernel_rfl) (by kernel_rfl) (by kernel_rfl) (by kernel_rfl) (by kernel_rfl) (fun _ _ _ h => h) (Or.inl ⟨by kernel_rfl, ?_⟩) (by assumption) ?_
            rotate_left
            · intro W hSw
              try dsimp only at hSw
              go_simp
              first | done | with_reducible rfl
            try simp only [Act.put, List.setIfInBounds_toArray, List.set_cons_zero, List.set_cons_succ]
            refine take_at (i := 10) (d := 99) (oi := { dst := some 99, op := Op.move (Operand.tmp 98), type := 4, pos := "law.go:164", after := #[{ on := 9, ground := Ground.data }, { on := 8, ground := Ground.chain }], guard := none }) (v := ?_) (by kernel_rfl) (by kernel_rfl) (by kernel_rfl) (by kernel_rfl) (by kernel_rfl) (fun _ _ _ h => h) (Or.inl ⟨by kernel_rfl, ?_⟩) (by assumption) ?_
            rotate_left
            · intro W hSw
              try dsimp only at hSw
              go_simp
              first | done | with_reducible rfl
            try simp only [Act.put, List.setIfInBounds_toArray, List.set_cons_zero, List.set_cons_succ]
            refine take_at (i := 11) (d := 100) (oi := { dst := some 100, op := Op.move (Operand.tmp 5), type := 25, pos := "law.go:164", after := #[{ on := 10, ground := Ground.guard }], guard := some (10, false) }) (v := ?_) (by kernel_rfl) (by kernel_rfl) (by kernel_rfl) (by kernel_rfl) (by kernel_rfl) (fun _ _ _ h => h) (Or.inl ⟨by kernel_rfl, ?_⟩) (by assumption) ?_
            rotate_left
            · intro W hSw
              try dsimp only at hSw
              go_simp
              first | done | with_reducible rfl
            try simp only [Act.put, List.setIfInBounds_toArray, List.set_cons_zero, List.set_cons_succ]
            refine take_at (i := 12) (d := 101) (oi := { dst := some 101, op := Op.move (Operand.tmp 11), type := 23, pos := "law.go:164", after := #[{ on := 10, ground := Ground.guard }], guard := some (10, false) }) (v := ?_) (by kernel_rfl) (by kernel_rfl) (by kernel_rfl) (by kernel_rfl) (by kernel_rfl) (fun _ _ _ h => h) (Or.inl ⟨by kernel_rfl, ?_⟩) (by assumption) ?_
            rotate_left
            · intro W hSw
              try dsimp only at hSw
              go_simp
              first | done | with_reducible rfl
            try simp only [Act.put, List.setIfInBounds_toArray, List.set_cons_zero, List.set_cons_succ]
            refine take_at (i := 13) (d := 102) (oi := { dst := some 102, op := Op.move (Operand.tmp 12), type := 3, pos := "law.go:164", after := #[{ on := 10, ground := Ground.guard }], guard := some (10, false) }) (v := ?_) (by kernel_rfl) (by kernel_rfl) (by kernel_rfl) (by kernel_rfl) (by kernel_rfl) (fun _ _ _ h => h) (Or.inl ⟨by kernel_rfl, ?_⟩) (by assumption) ?_
            rotate_left
            · intro W hSw
              try dsimp only at hSw
              go_simp
              first | done | with_reducible rfl
            try simp only [Act.put, List.setIfInBounds_toArray, List.set_cons_zero, List.set_cons_succ]
            refine take_at (i := 14) (d := 103) (oi := { dst := some 103, op := Op.indexAddr 23 (Operand.tmp 101) (Operand.tmp 102), type := 0, pos := "law.go:164", after := #[{ on := 12, ground := Ground.data }, { on := 13, ground := Ground.data }, { on := 10, ground := Ground.guard }], guard := some (10, false) }) (v := ?_) (by kernel_rfl) (by kernel_rfl) (by kernel_rfl) (by kernel_rfl) (by kernel_rfl) (fun _ _ _ h => h) (Or.inl ⟨by kernel_rfl, ?_⟩) (by assumption) ?_
            rotate_left
            · intro W hSw
              try dsimp only at hSw
              go_simp
              first | done | with_reducible rfl
            try simp only [Act.put, List.setIfInBounds_toArray, List.set_cons_zero, List.set_cons_succ]
            refine take_at (i := 15) (d := 104) (oi := { dst := some 104, op := Op.load 9 (Operand.tmp 103), type := 9, pos := "law.go:164", after := #[{ on := 14, ground := Ground.data }, { on := 10, ground := Ground.guard }], guard := some (10, false) }) (v := ?_) (by kernel_rfl) (by kernel_rfl) (by kernel_rfl) (by kernel_rfl) (by kernel_rfl) (fun _ _ _ h => h) (Or.inl ⟨by kernel_rfl, ?_⟩) (by assumption) ?_
            rotate_left
            · intro W hSw
              try dsimp only at hSw
              obtain ⟨y0s, y1s⟩ := hSw
              go_simp
              first | done | with_reducible rfl
            try simp only [Act.put, List.setIfInBounds_toArray, List.set_cons_zero, List.set_cons_succ]
            refine take_at (i := 16) (d := 105) (oi := { dst := some 105, op := Op.move (Operand.tmp 6), type := 23, pos := "law.go:164", after := #[{ on := 10, ground := Ground.guard }], guard := some (10, false) }) (v := ?_) (by kernel_rfl) (by kernel_rfl) (by kernel_rfl) (by kernel_rfl) (by kernel_rfl) (fun _ _ _ h => h) (Or.inl ⟨by kernel_rfl, ?_⟩) (by assumption) ?_
            rotate_left
            · intro W hSw
              try dsimp only at hSw
              go_simp
              first | done | with_reducible rfl
            try simp only [Act.put, List.setIfInBounds_toArray, List.set_cons_zero, List.set_cons_succ]
            refine take_at (i := 17) (d := 106) (oi := { dst := some 106, op := Op.move (Operand.tmp 10), type := 3, pos := "law.go:164", after := #[{ on := 10, ground := Ground.guard }], guard := some (10, false) }) (v := ?_) (by kernel_rfl) (by kernel_rfl) (by kernel_rfl) (by kernel_rfl) (by kernel_rfl) (fun _ _ _ h => h) (Or.inl ⟨by kernel_rfl, ?_⟩) (by assumption) ?_
            rotate_left
            · intro W hSw
              try dsimp only at hSw
              go_simp
              first | done | with_reducible rfl
            try simp only [Act.put, List.setIfInBounds_toArray, List.set_cons_zero, List.set_cons_succ]
            refine take_at (i := 18) (d := 107) (oi := { dst := some 107, op := Op.indexAddr 23 (Operand.tmp 105) (Operand.tmp 106), type := 0, pos := "law.go:164", after := #[{ on := 16, ground := Ground.data }, { on := 17, ground := Ground.data }, { on := 10, ground := Ground.guard }], guard := some (10, false) }) (v := ?_) (by kernel_rfl) (by kernel_rfl) (by kernel_rfl) (by kernel_rfl) (by kernel_rfl) (fun _ _ _ h => h) (Or.inl ⟨by kernel_rfl, ?_⟩) (by assumption) ?_
            rotate_left
            · intro W hSw
              try dsimp only at hSw
              go_simp
              first | done | with_reducible rfl
            try simp only [Act.put, List.setIfInBounds_toArray, List.set_cons_zero, List.set_cons_succ]
            refine take_at (i := 19) (d := 108) (oi := { dst := some 108, op := Op.load 9 (Operand.tmp 107), type := 9, pos := "law.go:164", after := #[{ on := 18, ground := Ground.data }, { on := 10, ground := Ground.guard }], guard := some (10, false) }) (v := ?_) (by kernel_rfl) (by kernel_rfl) (by kernel_rfl) (by kernel_rfl) (by kernel_rfl) (fun _ _ _ h => h) (Or.inl ⟨by kernel_rfl, ?_⟩) (by assumption) ?_
            rotate_left
            · intro W hSw
              try dsimp only at hSw
              obtain ⟨y0s, y1s⟩ := hSw
              go_simp
              first | done | with_reducible rfl
            try simp only [Act.put, List.setIfInBounds_toArray, List.set_cons_zero, List.set_cons_succ]
            refine wpAnyH_ready (rs := [20]) (by kernel_rfl) (by simp) (AllReadyH.cons (o := { dst := some 109, op := Op.call { callee := Callee.value (Operand.func 31), args := #[Operand.tmp 100, Operand.tmp 104, Operand.tmp 108], argTypes := #[25, 9, 9] }, type := 4, pos := "law.go:164", after := #[{ on := 11, ground := Ground.data }, { on := 15, ground := Ground.data }, { on := 19, ground := Ground.data }, { on := 10, ground := Ground.chain }, { on := 10, ground := Ground.guard }], guard := some (10, false) }) (by kernel_rfl) (fun K hK => ?_) AllReadyH.nil)
            go_simp
            refine (HI1.out _ (by first | exact HBV.out.drew | exact HBV.out)).mono ?_
            rintro e w7 ⟨rfl, hb7⟩
            have q1 : w7.cell? (ao.add i) = some (.string x) ∧ w7.cell? (ap.add j) = some (.string y) := ⟨HXC.out w7 (HBV.out.drew.trans (hb7.mono HBV.out.size)), (hb7.cell (p := ap.add j) HBK.out).trans p0⟩
            have HB7 := Lib.hid (HBI.out.drew.trans (hb7.mono HBI.out.size))
            have HBV7 := Lib.hid (HBV.out.drew.trans (hb7.mono HBV.out.size))
            clear hb7
            try go_wp2_with fail
            refine hK.out _ _ ?_ (fun hHeld => ?_)
            · try dsimp only
              exact q1
            clear hK K
            try simp only [Act.put, List.setIfInBounds_toArray, List.set_cons_zero, List.set_cons_succ]
            refine take_at (i := 21) (d := 110) (oi := { dst := some 110, op := Op.unOp UnOp.not 4 (Operand.tmp 109), type := 4, pos := "law.go:164", after := #[{ on := 20, ground := Ground.data }, { on := 10, ground := Ground.guard }], guard := some (10, false) }) (v := ?_) (by kernel_rfl) (by kernel_rfl) (by kernel_rfl) (by kernel_rfl) (by kernel_rfl) (fun _ _ _ h => h) (Or.inl ⟨by kernel_rfl, ?_⟩) (by assumption) ?_
            rotate_left
            · intro W hSw
              try dsimp only at hSw
              go_simp
              first | done | with_reducible rfl
            try simp only [Act.put, List.setIfInBounds_toArray, List.set_cons_zero, List.set_cons_succ]
            refine take_at (i := 22) (d := 111) (oi := { dst := some 111, op := Op.pick (Operand.tmp 99) (Operand.const (Value.bool true)) (Operand.tmp 110), type := 4, pos := "law.go:164", after := #[{ on := 10, ground := Ground.data }, { on := 21, ground := Ground.data }], guard := none }) (v := ?_) (by kernel_rfl) (by kernel_rfl) (by kernel_rfl) (by kernel_rfl) (by kernel_rfl) (fun _ _ _ h => h) (Or.inl ⟨by kernel_rfl, ?_⟩) (by assumption) ?_
            rotate_left
            · intro W hSw
              try dsimp only at hSw
              go_simp
              first | done | with_reducible rfl
            try simp only [Act.put, List.setIfInBounds_toArray, List.set_cons_zero, List.set_cons_succ]
            refine take_at (i := 23) (d := 112) (oi := { dst := some 112, op := Op.move (Operand.tmp 111), type := 4, pos := "law.go:164", after := #[{ on := 22, ground := Ground.data }, { on := 20, ground := Ground.chain }], guard := none }) (v := ?_) (by kernel_rfl) (by kernel_rfl) (by kernel_rfl) (by kernel_rfl) (by kernel_rfl) (fun _ _ _ h => h) (Or.inl ⟨by kernel_rfl, ?_⟩) (by assumption) ?_
            rotate_left
            · intro W hSw
              try dsimp only at hSw
              go_simp
              first | done | with_reducible rfl
            try simp only [Act.put, List.setIfInBounds_toArray, List.set_cons_zero, List.set_cons_succ]
            refine take_at (i := 24) (d := 113) (oi := { dst := some 113, op := Op.move (Operand.tmp 5), type := 25, pos := "law.go:164", after := #[{ on := 23, ground := Ground.guard }], guard := some (23, false) }) (v := ?_) (by kernel_rfl) (by kernel_rfl) (by kernel_rfl) (by kernel_rfl) (by kernel_rfl) (fun _ _ _ h => h) (Or.inl ⟨by kernel_rfl, ?_⟩) (by assumption) ?_
            rotate_left
            · intro W hSw
              try dsimp only at hSw
              go_simp
              first | done | with_reducible rfl
            try simp only [Act.put, List.setIfInBounds_toArray, List.set_cons_zero, List.set_cons_succ]
            refine take_at (i := 25) (d := 114) (oi := { dst := some 114, op := Op.move (Operand.tmp 6), type := 23, pos := "law.go:164", after := #[{ on := 23, ground := Ground.guard }], guard := some (23, false) }) (v := ?_) (by kernel_rfl) (by kernel_rfl) (by kernel_rfl) (by kernel_rfl) (by kernel_rfl) (fun _ _ _ h => h) (Or.inl ⟨by kernel_rfl, ?_⟩) (by assumption) ?_
            rotate_left
            · intro W hSw
              try dsimp only at hSw
              go_simp
              first | done | with_reducible rfl
            try simp only [Act.put, List.setIfInBounds_toArray, List.set_cons_zero, List.set_cons_succ]
            refine take_at (i := 26) (d := 115) (oi := { dst := some 115, op := Op.move (Operand.tmp 10), type := 3, pos := "law.go:164", after := #[{ on := 23, ground := Ground.guard }], guard := some (23, false) }) (v := ?_) (by kernel_rfl) (by kernel_rfl) (by kernel_rfl) (by kernel_rfl) (by kernel_rfl) (fun _ _ _ h => h) (Or.inl ⟨by kernel_rfl, ?_⟩) (by assumption) ?_
            rotate_left
            · intro W hSw
              try dsimp only at hSw
              go_simp
              first | done | with_reducible rfl
            try simp only [Act.put, List.setIfInBounds_toArray, List.set_cons_zero, List.set_cons_succ]
            refine take_at (i := 27) (d := 116) (oi := { dst := some 116, op := Op.indexAddr 23 (Operand.tmp 114) (Operand.tmp 115), type := 0, pos := "law.go:164", after := #[{ on := 25, ground := Ground.data }, { on := 26, ground := Ground.data }, { on := 23, ground := Ground.guard }], guard := some (23, false) }) (v := ?_) (by kernel_rfl) (by kernel_rfl) (by kernel_rfl) (by kernel_rfl) (by kernel_rfl) (fun _ _ _ h => h) (Or.inl ⟨by kernel_rfl, ?_⟩) (by assumption) ?_
            rotate_left
            · intro W hSw
              try dsimp only at hSw
              go_simp
              first | done | with_reducible rfl
            try simp only [Act.put, List.setIfInBounds_toArray, List.set_cons_zero, List.set_cons_succ]
            refine take_at (i := 28) (d := 117) (oi := { dst := some 117, op := Op.load 9 (Operand.tmp 116), type := 9, pos := "law.go:164", after := #[{ on := 27, ground := Ground.data }, { on := 23, ground := Ground.guard }], guard := some (23, false) }) (v := ?_) (by kernel_rfl) (by kernel_rfl) (by kernel_rfl) (by kernel_rfl) (by kernel_rfl) (fun _ _ _ h => h) (Or.inl ⟨by kernel_rfl, ?_⟩) (by assumption) ?_
            rotate_left
            · intro W hSw
              try dsimp only at hSw
              obtain ⟨y0s, y1s⟩ := hSw
              go_simp
              first | done | with_reducible rfl
            try simp only [Act.put, List.setIfInBounds_toArray, List.set_cons_zero, List.set_cons_succ]
            refine take_at (i := 29) (d := 118) (oi := { dst := some 118, op := Op.move (Operand.tmp 11), type := 23, pos := "law.go:164", after := #[{ on := 23, ground := Ground.guard }], guard := some (23, false) }) (v := ?_) (by kernel_rfl) (by kernel_rfl) (by kernel_rfl) (by kernel_rfl) (by kernel_rfl) (fun _ _ _ h => h) (Or.inl ⟨by kernel_rfl, ?_⟩) (by assumption) ?_
            rotate_left
            · intro W hSw
              try dsimp only at hSw
              go_simp
              first | done | with_reducible rfl
            try simp only [Act.put, List.setIfInBounds_toArray, List.set_cons_zero, List.set_cons_succ]
            refine take_at (i := 30) (d := 119) (oi := { dst := some 119, op := Op.move (Operand.tmp 12), type := 3, pos := "law.go:164", after := #[{ on := 23, ground := Ground.guard }], guard := some (23, false) }) (v := ?_) (by kernel_rfl) (by kernel_rfl) (by kernel_rfl) (by kernel_rfl) (by kernel_rfl) (fun _ _ _ h => h) (Or.inl ⟨by kernel_rfl, ?_⟩) (by assumption) ?_
            rotate_left
            · intro W hSw
              try dsimp only at hSw
              go_simp
              first | done | with_reducible rfl
            try simp only [Act.put, List.setIfInBounds_toArray, List.set_cons_zero, List.set_cons_succ]
            refine take_at (i := 31) (d := 120) (oi := { dst := some 120, op := Op.indexAddr 23 (Operand.tmp 118) (Operand.tmp 119), type := 0, pos := "law.go:164", after := #[{ on := 29, ground := Ground.data }, { on := 30, ground := Ground.data }, { on := 23, ground := Ground.guard }], guard := some (23, false) }) (v := ?_) (by kernel_rfl) (by kernel_rfl) (by kernel_rfl) (by kernel_rfl) (by kernel_rfl) (fun _ _ _ h => h) (Or.inl ⟨by kernel_rfl, ?_⟩) (by assumption) ?_
            rotate_left
            · intro W hSw
              try dsimp only at hSw
              go_simp
              first | done | with_reducible rfl
            try simp only [Act.put, List.setIfInBounds_toArray, List.set_cons_zero, List.set_cons_succ]
            refine take_at (i := 32) (d := 121) (oi := { dst := some 121, op := Op.load 9 (Operand.tmp 120), type := 9, pos := "law.go:164", after := #[{ on := 31, ground := Ground.data }, { on := 23, ground := Ground.guard }], guard := some (23, false) }) (v := ?_) (by kernel_rfl) (by kernel_rfl) (by kernel_rfl) (by kernel_rfl) (by kernel_rfl) (fun _ _ _ h => h) (Or.inl ⟨by kernel_rfl, ?_⟩) (by assumption) ?_
            rotate_left
            · intro W hSw
              try dsimp only at hSw
              obtain ⟨y0s, y1s⟩ := hSw
              go_simp
              first | done | with_reducible rfl
            try simp only [Act.put, List.setIfInBounds_toArray, List.set_cons_zero, List.set_cons_succ]
            refine wpAnyH_ready (rs := [33]) (by kernel_rfl) (by simp) (AllReadyH.cons (o := { dst := some 122, op := Op.call { callee := Callee.value (Operand.func 31), args := #[Operand.tmp 113, Operand.tmp 117, Operand.tmp 121], argTypes := #[25, 9, 9] }, type := 4, pos := "law.go:164", after := #[{ on := 24, ground := Ground.data }, { on := 28, ground := Ground.data }, { on := 32, ground := Ground.data }, { on := 23, ground := Ground.chain }, { on := 23, ground := Ground.guard }], guard := some (23, false) }) (by kernel_rfl) (fun K hK => ?_) AllReadyH.nil)
            go_simp
            refine (HI2.out _ HBV7.out).mono ?_
            rintro e w8 ⟨rfl, hb8⟩
            have q2 : w8.cell? (ao.add i) = some (.string x) ∧ w8.cell? (ap.add j) = some (.string y) := ⟨HXC.out w8 (HBV7.out.trans (hb8.mono HBV7.out.size)), (hb8.cell (p := ap.add j) (World.block_lt_of_cell? w7 _ q1.2)).trans q1.2⟩
            have HB8 := Lib.hid (HB7.out.trans (hb8.mono HB7.out.size))
            have HBV8 := Lib.hid (HBV7.out.trans (hb8.mono HBV7.out.size))
            clear hb8
            try go_wp2_with fail
            refine hK.out _ _ ?_ (fun hHeld => ?_)
            · try dsimp only
              exact q2
            clear hK K
            try simp only [Act.put, List.setIfInBounds_toArray, List.set_cons_zero, List.set_cons_succ]
            refine take_at (i := 34) (d := 123) (oi := { dst := some 123, op := Op.pick (Operand.tmp 112) (Operand.const (Value.bool true)) (Operand.tmp 122), type := 4, pos := "law.go:164", after := #[{ on := 23, ground := Ground.data }, { on := 33, ground := Ground.data }], guard := none }) (v := ?_) (by kernel_rfl) (by kernel_rfl) (by kernel_rfl) (by kernel_rfl) (by kernel_rfl) (fun _ _ _ h => h) (Or.inl ⟨by kernel_rfl, ?_⟩) (by assumption) ?_
            rotate_left
            · intro W hSw
              try dsimp only at hSw
              go_simp
              first | done | with_reducible rfl
            try simp only [Act.put, List.setIfInBounds_toArray, List.set_cons_zero, List.set_cons_succ]
            refine take_at (i := 35) (d := 124) (oi := { dst := some 124, op := Op.move (Operand.tmp 123), type := 4, pos := "law.go:164", after := #[{ on := 34, ground := Ground.data }, { on := 33, ground := Ground.chain }], guard := none }) (v := ?_) (by kernel_rfl) (by kernel_rfl) (by kernel_rfl) (by kernel_rfl) (by kernel_rfl) (fun _ _ _ h => h) (Or.inl ⟨by kernel_rfl, ?_⟩) (by assumption) ?_
            rotate_left
            · intro W hSw
              try dsimp only at hSw
              go_simp
              first | done | with_reducible rfl
            try simp only [Act.put, List.setIfInBounds_toArray, List.set_cons_zero, List.set_cons_succ]
            refine take_at (i := 36) (d := 125) (oi := { dst := some 125, op := Op.move (Operand.tmp 5), type := 25, pos := "law.go:164", after := #[{ on := 35, ground := Ground.guard }], guard := some (35, false) }) (v := ?_) (by kernel_rfl) (by kernel_rfl) (by kernel_rfl) (by kernel_rfl) (by kernel_rfl) (fun _ _ _ h => h) (Or.inl ⟨by kernel_rfl, ?_⟩) (by assumption) ?_
            rotate_left
            · intro W hSw
              try dsimp only at hSw
              go_simp
              first | done | with_reducible rfl
            try simp only [Act.put, List.setIfInBounds_toArray, List.set_cons_zero, List.set_cons_succ]
            refine take_at (i := 37) (d := 126) (oi := { dst := some 126, op := Op.move (Operand.tmp 11), type := 23, pos := "law.go:164", after := #[{ on := 35, ground := Ground.guard }], guard := some (35, false) }) (v := ?_) (by kernel_rfl) (by kernel_rfl) (by kernel_rfl) (by kernel_rfl) (by kernel_rfl) (fun _ _ _ h => h) (Or.inl ⟨by kernel_rfl, ?_⟩) (by assumption) ?_
            rotate_left
            · intro W hSw
              try dsimp only at hSw
              go_simp
              first | done | with_reducible rfl
            try simp only [Act.put, List.setIfInBounds_toArray, List.set_cons_zero, List.set_cons_succ]
            refine take_at (i := 38) (d := 127) (oi := { dst := some 127, op := Op.move (Operand.tmp 12), type := 3, pos := "law.go:164", after := #[{ on := 35, ground := Ground.guard }], guard := some (35, false) }) (v := ?_) (by kernel_rfl) (by kernel_rfl) (by kernel_rfl) (by kernel_rfl) (by kernel_rfl) (fun _ _ _ h => h) (Or.inl ⟨by kernel_rfl, ?_⟩) (by assumption) ?_
            rotate_left
            · intro W hSw
              try dsimp only at hSw
              go_simp
              first | done | with_reducible rfl
            try simp only [Act.put, List.setIfInBounds_toArray, List.set_cons_zero, List.set_cons_succ]
            refine take_at (i := 39) (d := 128) (oi := { dst := some 128, op := Op.indexAddr 23 (Operand.tmp 126) (Operand.tmp 127), type := 0, pos := "law.go:164", after := #[{ on := 37, ground := Ground.data }, { on := 38, ground := Ground.data }, { on := 35, ground := Ground.guard }], guard := some (35, false) }) (v := ?_) (by kernel_rfl) (by kernel_rfl) (by kernel_rfl) (by kernel_rfl) (by kernel_rfl) (fun _ _ _ h => h) (Or.inl ⟨by kernel_rfl, ?_⟩) (by assumption) ?_
            rotate_left
            · intro W hSw
              try dsimp only at hSw
              go_simp
              first | done | with_reducible rfl
            try simp only [Act.put, List.setIfInBounds_toArray, List.set_cons_zero, List.set_cons_succ]
            refine take_at (i := 40) (d := 129) (oi := { dst := some 129, op := Op.load 9 (Operand.tmp 128), type := 9, pos := "law.go:164", after := #[{ on := 39, ground := Ground.data }, { on := 35, ground := Ground.guard }], guard := some (35, false) }) (v := ?_) (by kernel_rfl) (by kernel_rfl) (by kernel_rfl) (by kernel_rfl) (by kernel_rfl) (fun _ _ _ h => h) (Or.inl ⟨by kernel_rfl, ?_⟩) (by assumption) ?_
            rotate_left
            · intro W hSw
              try dsimp only at hSw
              obtain ⟨y0s, y1s⟩ := hSw
              go_simp
              first | done | with_reducible rfl
            try simp only [Act.put, List.setIfInBounds_toArray, List.set_cons_zero, List.set_cons_succ]
            refine take_at (i := 42) (d := 131) (oi := { dst := some 131, op := Op.move (Operand.tmp 5), type := 25, pos := "law.go:164", after := #[{ on := 35, ground := Ground.guard }], guard := some (35, false) }) (v := ?_) (by kernel_rfl) (by kernel_rfl) (by kernel_rfl) (by kernel_rfl) (by kernel_rfl) (fun _ _ _ h => h) (Or.inl ⟨by kernel_rfl, ?_⟩) (by assumption) ?_
            rotate_left
            · intro W hSw
              try dsimp only at hSw
              go_simp
              first | done | with_reducible rfl
            try simp only [Act.put, List.setIfInBounds_toArray, List.set_cons_zero, List.set_cons_succ]
            refine take_at (i := 43) (d := 132) (oi := { dst := some 132, op := Op.move (Operand.tmp 6), type := 23, pos := "law.go:164", after := #[{ on := 35, ground := Ground.guard }], guard := some (35, false) }) (v := ?_) (by kernel_rfl) (by kernel_rfl) (by kernel_rfl) (by kernel_rfl) (by kernel_rfl) (fun _ _ _ h => h) (Or.inl ⟨by kernel_rfl, ?_⟩) (by assumption) ?_
            rotate_left
            · intro W hSw
              try dsimp only at hSw
              go_simp
              first | done | with_reducible rfl
            try simp only [Act.put, List.setIfInBounds_toArray, List.set_cons_zero, List.set_cons_succ]
            refine take_at (i := 44) (d := 133) (oi := { dst := some 133, op := Op.move (Operand.tmp 10), type := 3, pos := "law.go:164", after := #[{ on := 35, ground := Ground.guard }], guard := some (35, false) }) (v := ?_) (by kernel_rfl) (by kernel_rfl) (by kernel_rfl) (by kernel_rfl) (by kernel_rfl) (fun _ _ _ h => h) (Or.inl ⟨by kernel_rfl, ?_⟩) (by assumption) ?_
            rotate_left
            · intro W hSw
              try dsimp only at hSw
              go_simp
              first | done | with_reducible rfl
            try simp only [Act.put, List.setIfInBounds_toArray, List.set_cons_zero, List.set_cons_succ]
            refine take_at (i := 45) (d := 134) (oi := { dst := some 134, op := Op.indexAddr 23 (Operand.tmp 132) (Operand.tmp 133), type := 0, pos := "law.go:164", after := #[{ on := 43, ground := Ground.data }, { on := 44, ground := Ground.data }, { on := 35, ground := Ground.guard }], guard := some (35, false) }) (v := ?_) (by kernel_rfl) (by kernel_rfl) (by kernel_rfl) (by kernel_rfl) (by kernel_rfl) (fun _ _ _ h => h) (Or.inl ⟨by kernel_rfl, ?_⟩) (by assumption) ?_
            rotate_left
            · intro W hSw
              try dsimp only at hSw
              go_simp
              first | done | with_reducible rfl
            try simp only [Act.put, List.setIfInBounds_toArray, List.set_cons_zero, List.set_cons_succ]
            refine take_at (i := 46) (d := 135) (oi := { dst := some 135, op := Op.load 9 (Operand.tmp 134), type := 9, pos := "law.go:164", after := #[{ on := 45, ground := Ground.data }, { on := 35, ground := Ground.guard }], guard := some (35, false) }) (v := ?_) (by kernel_rfl) (by kernel_rfl) (by kernel_rfl) (by kernel_rfl) (by kernel_rfl) (fun _ _ _ h => h) (Or.inl ⟨by kernel_rfl, ?_⟩) (by assumption) ?_
            rotate_left
            · intro W hSw
              try dsimp only at hSw
              obtain ⟨y0s, y1s⟩ := hSw
              go_simp
              first | done | with_reducible rfl
            try simp only [Act.put, List.setIfInBounds_toArray, List.set_cons_zero, List.set_cons_succ]
            refine wpAnyH_ready (rs := [41]) (by kernel_rfl) (by simp) (AllReadyH.cons (o := { dst := some 130, op := Op.call { callee := Callee.value (Operand.func 19), args := #[Operand.tmp 125, Operand.tmp 129], argTypes := #[25, 9] }, type := 3, pos := "law.go:164", after := #[{ on := 36, ground := Ground.data }, { on := 40, ground := Ground.data }, { on := 35, ground := Ground.chain }, { on := 35, ground := Ground.guard }], guard := some (35, false) }) (by kernel_rfl) (fun K hK => ?_) AllReadyH.nil)
            go_simp
            refine (HSY.out _ HBV8.out).mono ?_
            rintro e w9 ⟨rfl, rfl⟩
            try go_wp2_with fail
            refine hK.out _ _ ?_ (fun hHeld => ?_)
            · try dsimp only
              exact q2
            clear hK K
            try simp only [Act.put, List.setIfInBounds_toArray, List.set_cons_zero, List.set_cons_succ]
            refine wpAnyH_ready (rs := [47]) (by kernel_rfl) (by simp) (AllReadyH.cons (o := { dst := some 136, op := Op.call { callee := Callee.value (Operand.func 19), args := #[Operand.tmp 131, Operand.tmp 135], argTypes := #[25, 9] }, type := 3, pos := "law.go:164", after := #[{ on := 42, ground := Ground.data }, { on := 46, ground := Ground.data }, { on := 41, ground := Ground.chain }, { on := 35, ground := Ground.guard }], guard := some (35, false) }) (by kernel_rfl) (fun K hK => ?_) AllReadyH.nil)
            go_simp
            refine (HSX.out _ HBV8.out).mono ?_
            rintro e w9 ⟨rfl, rfl⟩
            try go_wp2_with fail
            refine hK.out _ _ ?_ (fun hHeld => ?_)
            · try dsimp only
              exact q2
            clear hK K
            try simp only [Act.put, List.setIfInBounds_toArray, List.set_cons_zero, List.set_cons_succ]
            refine take_at (i := 48) (d := 137) (oi := { dst := some 137, op := Op.binOp BinOp.geq 3 (Operand.tmp 130) (Operand.tmp 136) 3, type := 4, pos := "law.go:164", after := #[{ on := 41, ground := Ground.data }, { on := 47, ground := Ground.data }, { on := 35, ground := Ground.guard }], guard := some (35, false) }) (v := ?_) (by kernel_rfl) (by kernel_rfl) (by kernel_rfl) (by kernel_rfl) (by kernel_rfl) (fun _ _ _ h => h) (Or.inl ⟨by kernel_rfl, ?_⟩) (by assumption) ?_
            rotate_left
            · intro W hSw
              try dsimp only at hSw
              go_simp
              first | done | with_reducible rfl
            try simp only [Act.put, List.setIfInBounds_toArray, List.set_cons_zero, List.set_cons_succ]
            refine take_at (i := 49) (d := 138) (oi := { dst := some 138, op := Op.pick (Operand.tmp 124) (Operand.const (Value.bool true)) (Operand.tmp 137), type := 4, pos := "law.go:164", after := #[{ on := 35, ground := Ground.data }, { on := 48, ground := Ground.data }], guard := none }) (v := ?_) (by kernel_rfl) (by kernel_rfl) (by kernel_rfl) (by kernel_rfl) (by kernel_rfl) (fun _ _ _ h => h) (Or.inl ⟨by kernel_rfl, ?_⟩) (by assumption) ?_
            rotate_left
            · intro W hSw
              try dsimp only at hSw
              go_simp
              first | done | with_reducible rfl
            try simp only [Act.put, List.setIfInBounds_toArray, List.set_cons_zero, List.set_cons_succ]
            refine wpAnyH_done (by kernel_rfl) ?_ _
            go_wp2_with fail
            go_roundw
            case rel => exact ⟨j + 1, by omega, by go_num, HB8.out⟩
            case measure => simp [intOf]; omega
            -- END STEPS
          exact auxs
        · have y1 : (np : Int) ≤ (j : Int) := by omega
          clear hbw hv6
          go_wp2_with fail
          go_roundw
          case rel => exact ⟨i + 1, by omega, by go_num, HBV.out⟩
          case measure => simp [intOf]; omega
    · have z1 : (m : Int) ≤ (i : Int) := by omega
      have HN40 : Hid (∀ (W : World) (s : ByteArray), Below v6.heap.size v6 W → s ∈ xs → Calls Try.prog 35 #[.slice Aa m ca, .string s] W fun e w' => e = .returned (.bool true) ∧ W = w') := fun W s hW hs => by
        have := rhas_any _ (ancT G xs) s W (HOA6.out.below hW)
        rwa [hasT_yes (anc_own HW.out HALL.out hs)] at this
      clear hbw
      obtain ⟨wo, hwo⟩ : ∃ wo, wo = wr := ⟨_, rfl⟩
      subst hwo
      go_wp2_with fail
      go_loopw [13] (fun k wr => ∃ t : Nat, t ≤ n ∧ k = .int .i64 t ∧ Below v6.heap.size v6 wr) (fun k _ => n - (intOf k).toNat)
      case atStart => exact ⟨0, Nat.zero_le _, rfl, HBW.out⟩
      case round =>
        obtain ⟨t, ht, rfl, hbw⟩ := hrel
        have HBI := Lib.hid hbw
        have y0 : (0 : Int) ≤ (t : Int) := by omega
        by_cases htn : t < n
        · have y1 : (t : Int) < (n : Int) := by omega
          have htl : t < xs.length := by rw [HN.out]; exact htn
          obtain ⟨ad, rfl, hcell⟩ := texts_at HR.out t htl
          have hxm : xs[t] ∈ xs := List.getElem_mem htl
          have hwW := HB06.out.trans (hbw.mono HB06.out.size)
          have q0 : wr.cell? (ad.add t) = some (.string xs[t]) := (hwW.cell (World.block_lt_of_cell? w _ hcell)).trans hcell
          have HCH := Lib.hid (HN40.out wr _ hbw hxm)
          generalize xs[t] = x at *
          clear hcell hxm htl hwW hbw
          go_wp2_with fail
          refine (HCH.out).mono ?_
          rintro e w7 ⟨rfl, rfl⟩
          go_wp2_with fail
          go_roundw
          case rel => exact ⟨t + 1, by omega, by go_num, HBI.out⟩
          case measure => simp [intOf]; omega
        · have y1 : (n : Int) ≤ (t : Int) := by omega
          have HF := Lib.hid (first_then (HB06.out.trans (hbw.mono HB06.out.size)))
          clear hbw
          go_wp2_with fail
          refine (HF.out).mono ?_
          rintro e v8 ⟨rfl, hb8⟩
          have HB8 := Lib.hid hb8
          clear hb8
          go_wp2_with fail
          go_ret
          exact ⟨rfl, HB8.out⟩
end Go.Proofs.Ytcjhkfklkcmehaa.Tx
