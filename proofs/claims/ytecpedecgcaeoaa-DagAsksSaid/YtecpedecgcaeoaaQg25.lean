/- Texts put together: Dg6. -/
import Derived.Test.YtecpedecgcaeoaaQg24
/- Package dag: ancestors, tops. -/
set_option linter.unusedVariables false
set_option linter.unusedSimpArgs false
namespace Go.Proofs.Ytecpedecgcaeoaa.Tx
open Go.RowKit Go.Maps Go.Proofs.Ytecpedecgcaeoaa.Sh
open Classical

theorem anc_succ (par : Nat → List Nat) (fr : List Nat) (k : Nat) (b : Bool) (hb : b = decide (RS par fr k)) : ancL par (k + 1) fr = ancL par k fr ++ if b then [k] else [] := by
  unfold ancL
  rw [List.range_succ, List.filter_append, hb]
  congr 1
  by_cases h : RS par fr k
  · simp [h]
  · simp [h]
theorem mark_dec {par : Nat → List Nat} {fr : List Nat} {n k : Nat} (hk : k < n) : (markL par n fr)[k]? = some (decide (RS par fr k)) := by
  unfold markL
  rw [List.getElem?_map, List.getElem?_range hk]
  rfl
set_option maxRecDepth 100000 in
set_option maxHeartbeats 1600000 in
theorem ganc_any (Z : Nat → Prop) (g : Nat) (G : GR) (v : Value) (fr : List Nat) (w : World) (h : GAt Z w g G) (hw : GW G) (hs : GS G) (hv : SlV w v (fr.map nv)) (hlt : ∀ k ∈ fr, k < G.length) (hn : fr.length ≤ 500000) :
    Calls Try.prog 36 #[.pointer (some ⟨g, 0, none⟩), v] w (NatsPost w (ancL (parAt G) G.length fr)) := by
  have hre := greached_any Z g G v fr w h hw hs hv hlt hn
  have hG := hs.len
  obtain ⟨n, hn'⟩ : ∃ n, G.length = n := ⟨_, rfl⟩
  rw [hn'] at hre hG ⊢
  have HRE := Lib.hid hre
  clear h hw hs hv hlt hn' hre
  go_enter Try.func36, Try.ntmps36
  go_wp2_with fail
  refine (HRE.out).mono ?_
  rintro e w1 ⟨gm, rfl, hgm, hm, hb⟩
  rw [mark_len]
  have HGM := Lib.hid hgm
  have HM := Lib.hid hm
  have HB := Lib.hid hb
  have hmz := Blk.lt hm
  have HMZ := Lib.hid hmz
  clear hgm hm hb hmz
  go_wp2_with fail
  go_loopw [5, 6, 7, 12] (fun v _ _ i wr => ∃ k : Nat, k ≤ n ∧ i = .int .i64 k ∧ OwnV 3 wr w1.heap.size v ((ancL (parAt G) k fr).map nv) ∧ Below w1.heap.size w1 wr) (fun _ _ _ i _ => n - (intOf i).toNat)
  case atStart => exact ⟨0, Nat.zero_le _, rfl, OwnV.nil_ _ _, Below.refl _ _⟩
  case round =>
    obtain ⟨k, hk, rfl, ho, hbw⟩ := hrel
    have hwz := hbw.size
    have HO := Lib.hid ho
    have HBW := Lib.hid hbw
    clear ho hbw
    have z0 : (0 : Int) ≤ (k : Int) := by omega
    by_cases hlt : k < n
    · have z1 : (k : Int) < (n : Int) := by omega
      obtain ⟨b, hb⟩ : ∃ b, b = decide (RS (parAt G) fr k) := ⟨_, rfl⟩
      have hcell := (HM.out.below HBW.out HMZ.out).cell k b (by rw [mark_dec hlt, hb])
      have HS := Lib.hid (anc_succ (parAt G) fr k b hb)
      have hsm : (ancL (parAt G) k fr).length + 1 ≤ 2000000 := by have := anc_len (par := parAt G) (n := k) (fr := fr); omega
      clear hb
      cases b with
      | true =>
        go_wp2_with (at_builtin; refine append_nat rfl (.tmp 18) (.tmp 20) rfl wr w1.heap.size u5 _ rfl HO.out k rfl hsm hwz ?_; intro v3 w3 ho3 hb3; have HO3 := Lib.hid ho3; have HB3 := Lib.hid hb3; clear ho3 hb3)
        go_roundw
        case rel => exact ⟨k + 1, by omega, by go_num, by rw [HS.out]; exact HO3.out, HBW.out.trans HB3.out⟩
        case measure => simp [intOf]; omega
      | false =>
        go_wp2_with fail
        go_roundw
        case rel => exact ⟨k + 1, by omega, by go_num, by rw [HS.out]; simpa using HO.out, HBW.out⟩
        case measure => simp [intOf]; omega
    · obtain rfl : k = n := by omega
      go_wp2_with fail
      go_ret
      exact ⟨u5, rfl, HO.out.base HB.out.size, HB.out.trans (HBW.out.mono HB.out.size)⟩

noncomputable def topK (par : Nat → List Nat) (ps : List Nat) (k : Nat) : List Nat := (ps.take k).filter (fun x => !decide (RS par (ps.flatMap par) x))
theorem topK_succ (par : Nat → List Nat) (ps : List Nat) (k : Nat) (hk : k < ps.length) (b : Bool) (hb : b = decide (RS par (ps.flatMap par) ps[k])) : topK par ps (k + 1) = topK par ps k ++ if b then [] else [ps[k]] := by
  unfold topK
  rw [List.take_succ_eq_append_getElem hk, List.filter_append, hb]
  congr 1
  by_cases h : RS par (ps.flatMap par) ps[k]
  · simp [h]
  · simp [h]
set_option maxRecDepth 100000 in
set_option maxHeartbeats 1600000 in
theorem gtops_any (Z : Nat → Prop) (g : Nat) (G : GR) (v : Value) (ps : List Nat) (w : World) (h : GAt Z w g G) (hw : GW G) (hs : GS G) (hv : SlV w v (ps.map nv)) (hlt : ∀ k ∈ ps, k < G.length) (hn : ps.length ≤ 2500) :
    Calls Try.prog 40 #[.pointer (some ⟨g, 0, none⟩), v] w (NatsPost w (topL (parAt G) ps)) := by
  have hre : ∀ (W : World) (u : Value), Below w.heap.size w W → SlV W u ((ps.flatMap (parAt G)).map nv) → Calls Try.prog 37 #[.pointer (some ⟨g, 0, none⟩), u] W (MarksPost W (markL (parAt G) G.length (ps.flatMap (parAt G)))) := fun W u hW hu =>
    greached_any Z g G u _ W (h.below hW) hw hs hu (fun k hk => by obtain ⟨p, _, hp⟩ := List.mem_flatMap.1 hk; exact par_lt hw hp) (by have := hs.flat ps; omega)
  have hpar := hs.par
  have hfl := hs.flat
  obtain ⟨F, bm, vr, hx⟩ := h
  obtain ⟨Ar, cr, rfl, hlr, hcr⟩ := hx.slice
  have hAT := fun (W : World) (hW : Below w.heap.size w W) k hk => (hx.below hW).at_ k hk
  have hC1 := fun (W : World) (hW : Below w.heap.size w W) => (hx.below hW).c1
  obtain ⟨A, c, rfl, hlc, hcm, hR⟩ := hv.len
  rw [List.length_map] at hlc hR ⊢
  obtain ⟨n, hn'⟩ : ∃ n, G.length = n := ⟨_, rfl⟩
  rw [hn'] at hlr hAT hC1 hlt hre
  obtain ⟨l, hl⟩ : ∃ l, ps.length = l := ⟨_, rfl⟩
  rw [hl] at hlc hn ⊢
  have HRE := Lib.hid hre
  have HAT := Lib.hid hAT
  have HC1 := Lib.hid hC1
  have HLT := Lib.hid hlt
  have HL := Lib.hid hl
  have HR := Lib.hid hR
  have HPAR := Lib.hid hpar
  have HFL := Lib.hid hfl
  clear hx hw hs hv hlt hn' hAT hC1 hl hR hre hcm hpar hfl
  go_enter Try.func40, Try.ntmps40
  go_wp2_with fail
  go_loopw [5, 7, 14] (fun v _ i wr => ∃ k : Nat, k ≤ l ∧ i = .int .i64 k ∧ OwnV 3 wr w.heap.size v (((ps.take k).flatMap (parAt G)).map nv) ∧ Below w.heap.size w wr) (fun _ _ i _ => l - (intOf i).toNat)
  case atStart => exact ⟨0, Nat.zero_le _, rfl, OwnV.nil_ _ _, Below.refl _ _⟩
  case round =>
    obtain ⟨k, hk, rfl, ho, hbw⟩ := hrel
    have hwz := hbw.size
    have HO := Lib.hid ho
    have HBW := Lib.hid hbw
    clear ho hbw
    have z0 : (0 : Int) ≤ (k : Int) := by omega
    by_cases hlt : k < l
    · have hkl : k < ps.length := by rw [HL.out]; exact hlt
      obtain ⟨ad, rfl, hcell⟩ := nats_at ((HR.out.below HBW.out).more HBW.out.size) k hkl
      have z1 : (k : Int) < (l : Int) := by omega
      have HS := Lib.hid (show (ps.take (k + 1)).flatMap (parAt G) = (ps.take k).flatMap (parAt G) ++ parAt G ps[k] by rw [List.take_succ_eq_append_getElem hkl, List.flatMap_append]; simp)
      have hpn := HLT.out ps[k] (List.getElem_mem hkl)
      have hsm1 := HFL.out (ps.take k)
      rw [List.length_take] at hsm1
      generalize ps[k] = p at *
      obtain ⟨adr, d, rfl, hd, _, _, k1, _⟩ := HAT.out wr HBW.out p hpn
      obtain ⟨Ad, cd, rfl, _, _, hRd⟩ := hd.len
      rw [List.length_map] at hRd k1
      have hq2 := HPAR.out p
      obtain ⟨q, hq⟩ : ∃ q, (parAt G p).length = q := ⟨_, rfl⟩
      rw [hq] at hRd k1 hq2
      have HRD := Lib.hid hRd
      have c1 := HC1.out wr HBW.out
      have p0 : (0 : Int) ≤ (p : Int) := by omega
      have p1 : (p : Int) < (n : Int) := by omega
      have hsm : ((ps.take k).flatMap (parAt G)).length + q ≤ 2000000 := by have : min k ps.length ≤ 2500 := by omega
                                                                            have := Nat.mul_le_mul_right 200 this; omega
      clear hkl hpn hq hRd hd hsm1
      go_wp2_with (at_builtin; refine append_nats rfl (.tmp 18) (.tmp 26) rfl wr w.heap.size u5 _ rfl HO.out _ Ad q cd (parAt G p) rfl HRD.out hsm hwz ?_; intro v3 w3 ho3 hb3; have HO3 := Lib.hid ho3; have HB3 := Lib.hid hb3; clear ho3 hb3)
      go_roundw
      case rel => exact ⟨k + 1, by omega, by go_num, by rw [HS.out]; exact HO3.out, HBW.out.trans HB3.out⟩
      case measure => simp [intOf]; omega
    · obtain rfl : k = l := by omega
      have HE := Lib.hid (show ps.take k = ps from List.take_of_length_le (by rw [HL.out]; omega))
      have ho' := HO.out
      rw [HE.out] at ho'
      have hcall := HRE.out wr u5 HBW.out ho'.slv
      have HCALL := Lib.hid hcall
      clear ho' hcall
      go_wp2_with fail
      refine (HCALL.out).mono ?_
      rintro e w1 ⟨gm, rfl, hgm, hm, hb⟩
      rw [mark_len]
      have hb1 : Below w.heap.size w w1 := HBW.out.trans (hb.mono hwz)
      have HGM := Lib.hid hgm
      have HM := Lib.hid hm
      have HB := Lib.hid hb1
      have HMZ := Lib.hid (Blk.lt hm)
      obtain ⟨wo, hwo⟩ : ∃ wo, wo = wr := ⟨_, rfl⟩
      subst hwo
      clear hgm hm hb hb1
      go_wp2_with fail
      go_loopw [9, 11, 34] (fun v _ i wr => ∃ j : Nat, j ≤ k ∧ i = .int .i64 j ∧ OwnV 3 wr w1.heap.size v ((topK (parAt G) ps j).map nv) ∧ Below w1.heap.size w1 wr) (fun _ _ i _ => k - (intOf i).toNat)
      case atStart => exact ⟨0, Nat.zero_le _, rfl, OwnV.nil_ _ _, Below.refl _ _⟩
      case round =>
        obtain ⟨j, hj, rfl, ho, hbw⟩ := hrel
        have hwz := hbw.size
        have HO9 := Lib.hid ho
        have HBW2 := Lib.hid hbw
        clear ho hbw
        have z0 : (0 : Int) ≤ (j : Int) := by omega
        by_cases hlt : j < k
        · have hkl : j < ps.length := by rw [HL.out]; exact hlt
          have hbb := HB.out.trans (HBW2.out.mono HB.out.size)
          obtain ⟨ad, rfl, hcell⟩ := nats_at ((HR.out.below hbb).more hbb.size) j hkl
          have z1 : (j : Int) < (k : Int) := by omega
          obtain ⟨b, hb⟩ : ∃ b, b = decide (RS (parAt G) (ps.flatMap (parAt G)) ps[j]) := ⟨_, rfl⟩
          have HS := Lib.hid (topK_succ (parAt G) ps j hkl b hb)
          have hpn := HLT.out ps[j] (List.getElem_mem hkl)
          have hcb := (HM.out.below HBW2.out HMZ.out).cell ps[j] b (by rw [mark_dec hpn, hb])
          generalize ps[j] = p at *
          have p0 : (0 : Int) ≤ (p : Int) := by omega
          have p1 : (p : Int) < (n : Int) := by omega
          have hsm : (topK (parAt G) ps j).length + 1 ≤ 2000000 := by
            have h1 : (topK (parAt G) ps j).length ≤ (ps.take j).length := List.length_filter_le _ _
            rw [List.length_take] at h1
            omega
          clear hb hkl hpn hbb
          cases b with
          | false =>
            go_wp2_with (at_builtin; refine append_nat rfl (.tmp 43) (.tmp 45) rfl wr w1.heap.size u9 _ rfl HO9.out p rfl hsm hwz ?_; intro v3 w3 ho3 hb3; have HO3 := Lib.hid ho3; have HB3 := Lib.hid hb3; clear ho3 hb3)
            go_roundw
            case rel => exact ⟨j + 1, by omega, by go_num, by rw [HS.out]; exact HO3.out, HBW2.out.trans HB3.out⟩
            case measure => simp [intOf]; omega
          | true =>
            go_wp2_with fail
            go_roundw
            case rel => exact ⟨j + 1, by omega, by go_num, by rw [HS.out]; simpa using HO9.out, HBW2.out⟩
            case measure => simp [intOf]; omega
        · obtain rfl : j = k := by omega
          have HE2 := Lib.hid (show topK (parAt G) ps j = topL (parAt G) ps by unfold topK topL; rw [HE.out])
          go_wp2_with fail
          go_ret
          refine ⟨u9, rfl, ?_, HB.out.trans (HBW2.out.mono HB.out.size)⟩
          have := HO9.out.base HB.out.size
          rwa [HE2.out] at this
end Go.Proofs.Ytecpedecgcaeoaa.Tx
