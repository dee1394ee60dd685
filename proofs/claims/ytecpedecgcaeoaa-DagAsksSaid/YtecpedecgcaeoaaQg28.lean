/- Texts put together: Ts9. -/
import Derived.Test.YtecpedecgcaeoaaQg24
/- The reference's Unique. -/
namespace Go.Proofs.Ytecpedecgcaeoaa.Tx
open Go.RowKit Go.Proofs.Ytecpedecgcaeoaa.Sh

theorem ins_strict {out : List ByteArray} {x : ByteArray} {k : Nat} (h : Strict out) (hk : k ≤ out.length) (h1 : ∀ j, j < k → ∀ (hj : j < out.length), bl out[j].toList x.toList = true) (h2 : ∀ j, k ≤ j → ∀ (hj : j < out.length), bl x.toList out[j].toList = true) : Strict (out.take k ++ ([x] ++ out.drop k)) := by
  refine List.pairwise_append.2 ⟨h.sublist (List.take_sublist _ _), List.pairwise_append.2 ⟨List.pairwise_singleton _ _, h.sublist (List.drop_sublist _ _), fun y hy z hz => ?_⟩, fun y hy z hz => ?_⟩
  · obtain rfl := List.mem_singleton.1 hy
    obtain ⟨i, hi, rfl⟩ := List.mem_iff_getElem.1 hz
    rw [List.length_drop] at hi
    rw [List.getElem_drop]
    exact h2 _ (by omega) _
  · obtain ⟨i, hi, rfl⟩ := List.mem_iff_getElem.1 hy
    rw [List.length_take] at hi
    rw [List.getElem_take]
    rcases List.mem_append.1 hz with hz | hz
    · obtain rfl := List.mem_singleton.1 hz
      exact h1 i (by omega) _
    · obtain ⟨j, hj, rfl⟩ := List.mem_iff_getElem.1 hz
      rw [List.length_drop] at hj
      rw [List.getElem_drop]
      exact List.pairwise_iff_getElem.1 h i (k + j) (by omega) (by omega) (by omega)
theorem uins_cases {out : List ByteArray} {x : ByteArray} {p : Nat} (hp : p ≤ out.length) (hso : Strict out) (hge : ∀ j, p ≤ j → ∀ (hj : j < out.length), bl out[j].toList x.toList = false) :
    p = 0 ∨ ∃ (r : Nat) (y : ByteArray), p = r + 1 ∧ out[r]? = some y ∧ ((Op.bytesLess y.toList x.toList = true ∧ ∀ j, j < p → ∀ (hj : j < out.length), bl out[j].toList x.toList = true) ∨ (Op.bytesLess y.toList x.toList = false ∧ ∀ j, r ≤ j → ∀ (hj : j < out.length), bl out[j].toList x.toList = false)) := by
  cases p with
  | zero => exact .inl rfl
  | succ r =>
    refine .inr ⟨r, out[r], rfl, List.getElem?_eq_getElem (by omega), ?_⟩
    cases h : Op.bytesLess out[r].toList x.toList with
    | true =>
      refine .inl ⟨rfl, fun j h1 hj => ?_⟩
      rcases Nat.lt_or_ge j r with h2 | h2
      · exact bl_trans _ _ _ (List.pairwise_iff_getElem.1 hso j r hj (by omega) h2) h
      · obtain rfl : j = r := by omega
        exact h
    | false =>
      refine .inr ⟨rfl, fun j h1 hj => ?_⟩
      rcases Nat.lt_or_ge r j with h2 | h2
      · exact hge j (by omega) hj
      · obtain rfl : j = r := by omega
        exact h

set_option maxRecDepth 100000 in
set_option maxHeartbeats 1600000 in
theorem runiq_any (v : Value) (xs : List ByteArray) (w : World) (h : SlV w v (xs.map sv)) (hn : xs.length ≤ 400000) : Calls Try.prog 33 #[v] w (TextsPost w (uniqT xs)) := by
  obtain ⟨A, c, rfl, hlc, hcm, hR⟩ := h.len
  rw [List.length_map] at hlc hR ⊢
  have HR := Lib.hid hR
  unfold maxLen at hcm
  obtain ⟨l, hl⟩ : ∃ l, xs.length = l := ⟨_, rfl⟩
  rw [hl] at hlc hn ⊢
  have HL := Lib.hid hl
  clear h hR hl
  go_enter Try.func33, Try.ntmps33
  go_wp2
  go_loopw [3, 4, 5] (fun v i _ wr => ∃ (k : Nat) (out : List ByteArray), k ≤ l ∧ i = .int .i64 k ∧ out.length ≤ k ∧ Strict out ∧ (∀ z, z ∈ out ↔ z ∈ xs.take k) ∧ OwnV 9 wr w.heap.size v (out.map sv) ∧ Below w.heap.size w wr) (fun _ i _ _ => l - (intOf i).toNat)
  case atStart => exact ⟨0, [], Nat.zero_le _, rfl, Nat.le_refl _, List.Pairwise.nil, by simp, OwnV.nil_ _ _, Below.refl _ _⟩
  case round =>
    obtain ⟨k, out, hk, rfl, hol, hso, hme, ho, hbw⟩ := hrel
    have hwz := hbw.size
    have HO := Lib.hid ho
    have HBW := Lib.hid hbw
    have HSO := Lib.hid hso
    have HME := Lib.hid hme
    obtain ⟨Ao, co, hv, hoc, hom, hRo⟩ := ho.slv.len
    rw [List.length_map] at hv hoc hRo
    obtain ⟨n, hN⟩ : ∃ n, out.length = n := ⟨_, rfl⟩
    rw [hN] at hol hv hoc
    have HN := Lib.hid hN
    have HRO := Lib.hid hRo
    subst hv
    unfold maxLen at hom
    clear ho hbw hso hme hRo hN
    by_cases hlt : k < l
    · have hkl : k < xs.length := by rw [HL.out]; exact hlt
      obtain ⟨ad, rfl, hcell⟩ := texts_at ((HR.out.below HBW.out).more HBW.out.size) k hkl
      have hct : ∀ W1, Below w.heap.size w W1 → W1.cell? (ad.add k) = some (.string xs[k]) := fun W1 hW1 => by
        obtain ⟨ad2, he, h2⟩ := texts_at ((HR.out.below hW1).more hW1.size) k hkl
        injection he with he
        subst he
        exact h2
      have HTK := Lib.hid (show xs.take (k + 1) = xs.take k ++ [xs[k]] from List.take_succ_eq_append_getElem hkl)
      generalize xs[k] = x at *
      have z0 : (0 : Int) ≤ (k : Int) := by omega
      have z1 : (k : Int) < (l : Int) := by omega
      have z2 : (n : Int) ≤ 400000 := by omega
      clear hkl
      go_wp2_with fail
      obtain ⟨wo, rfl⟩ : ∃ wo : World, wo = wr := ⟨_, rfl⟩
      go_loopw [5] (fun i wr => ∃ p q : Nat, p ≤ n ∧ i = .int .i64 p ∧ wr = wo.drewN q ∧ ∀ j, p ≤ j → ∀ (hj : j < out.length), bl out[j].toList x.toList = false) (fun i _ => (intOf i).toNat)
      case atStart => exact ⟨n, 0, Nat.le_refl _, rfl, rfl, fun j h1 h2 => by have := HN.out; omega⟩
      case round =>
        obtain ⟨p, q, hp, rfl, rfl, hge⟩ := hrel
        have HGE := Lib.hid hge
        clear hge
        have hca := uins_cases (by rw [HN.out]; exact hp) HSO.out HGE.out
        have hfin : (decide (0 < p) = false ∧ Hid (∀ j, j < p → ∀ (hj : j < out.length), bl out[j].toList x.toList = true)) ∨ ∃ (r : Nat) (y : ByteArray) (a : Addr), (p : Int) - 1 = (r : Int) ∧ 0 < (p : Int) ∧ r < n ∧ p = r + 1 ∧ Ao = some a ∧ wo.cell? (a.add r) = some (.string y) ∧
            ((Op.bytesLess y.toList x.toList = true ∧ Hid (∀ j, j < p → ∀ (hj : j < out.length), bl out[j].toList x.toList = true)) ∨ (Op.bytesLess y.toList x.toList = false ∧ Hid (∀ j, r ≤ j → ∀ (hj : j < out.length), bl out[j].toList x.toList = false))) := by
          rcases hca with h0 | ⟨r, y, h1, h2, h3⟩
          · exact .inl ⟨decide_eq_false (by omega), fun j hj => by omega⟩
          · obtain ⟨a, ha, hcl⟩ := reads_at HRO.out r (sv y) (by rw [List.getElem?_map, h2]; rfl)
            exact .inr ⟨r, y, a, by omega, by omega, by omega, h1, ha, hcl, h3⟩
        have HGE2 := HGE
        clear hca HGE
        have hz8 : w.heap.size ≤ wo.heap.size := hwz
        have hback := texts_back Ao n co p hp
        have hfront := texts_front Ao n co p (by omega)
        obtain ⟨A2, hA2⟩ : ∃ A2, (if co = p then Ao else Ao.map (·.add (p * 1))) = A2 := ⟨_, rfl⟩
        rw [hA2] at hback
        have hrd2 : Reads wo wo.heap.size 1 A2 (n - p) ((out.drop p).map sv) := by
          have hh : Reads wo wo.heap.size 1 Ao n (out.map sv) := by have := HRO.out; rwa [HN.out] at this
          have := Reads.cut (cap := co) hh hp hoc
          rw [hA2, Nat.mul_one] at this
          rwa [List.map_drop]
        have HRD2 := Lib.hid hrd2
        have HA2 := Lib.hid hA2
        clear hA2 hrd2
        obtain ⟨i0, hi, hz0, hz1, hz2⟩ := info_parts info_str
        have HFR : ∀ W1, Below wo.heap.size wo W1 → OwnV 9 W1 w.heap.size (.slice Ao p co) ((out.take p).map sv) := fun W1 hW1 => ins_own HO.out HN.out hp hW1
        rcases hfin with ⟨p0, hle⟩ | ⟨r, y, a, hpr, p0, hrn, hpr1, rfl, hcl, ⟨t1, hle⟩ | ⟨t1, hge⟩⟩
        · have HFR' := Lib.hid HFR
          clear HFR hback hfront
          go_wp2_with fail
          go_quiet (fail)
          have hW00 : Below wo.heap.size wo ((wo.drewN q).drewN nq) := below_drewN (below_drewN (Below.refl _ _) _) _
          clear p0
          generalize (wo.drewN q).drewN nq = W0 at *
          have HW0 := Lib.hid hW00
          have HLE := hle
          clear hW00
          have hsub : (decide (p < n) = false ∧ Hid (∀ j, p ≤ j → ∀ (hj : j < out.length), bl x.toList out[j].toList = true)) ∨ ∃ (y : ByteArray) (a' : Addr), p < n ∧ Ao = some a' ∧ wo.cell? (a'.add p) = some (.string y) ∧
              (((y.toList == x.toList) = true ∧ Hid (x ∈ out)) ∨ ((y.toList == x.toList) = false ∧ Hid (∀ j, p ≤ j → ∀ (hj : j < out.length), bl x.toList out[j].toList = true))) := by
            by_cases hpn : p < n
            · have hpo : p < out.length := by rw [HN.out]; exact hpn
              obtain ⟨a', ha, hcl⟩ := reads_at HRO.out p (sv out[p]) (by rw [List.getElem?_map, List.getElem?_eq_getElem hpo]; rfl)
              refine .inr ⟨out[p], a', hpn, ha, hcl, ?_⟩
              by_cases he : out[p] = x
              · exact .inl ⟨by rw [he, beq_self_eq_true], by rw [← he]; exact List.getElem_mem hpo⟩
              · refine .inr ⟨toList_ne he, fun j h1 hj => ?_⟩
                have hpx : bl x.toList out[p].toList = true := by
                  rcases bl_tri x.toList out[p].toList with h | h | h
                  · exact h
                  · exact absurd (ba_ext h).symm he
                  · have := HGE2.out p (Nat.le_refl _) hpo; rw [h] at this; cases this
                rcases Nat.lt_or_ge p j with h2 | h2
                · exact bl_trans _ _ _ hpx (List.pairwise_iff_getElem.1 HSO.out p j hpo hj h2)
                · obtain rfl : j = p := by omega
                  exact hpx
            · exact .inl ⟨decide_eq_false hpn, fun j h1 hj => by have := HN.out; omega⟩
          have HFR2 := HFR'
          have p00 : (0 : Int) ≤ (p : Int) := by omega
          rcases hsub with ⟨s0, hgt⟩ | ⟨y2, a2, s0, rfl, hcl2, ⟨s1, hmem⟩ | ⟨s1, hgt⟩⟩
          · have HGT := hgt
            go_wp2_with fail
            go_quiet (fail)
            have hW1 : Below wo.heap.size wo (W0.drewN nq) := below_drewN HW0.out _
            clear s0
            generalize W0.drewN nq = W at *
            have hW0 := hW1
            clear hW1
            have hback := texts_back Ao n co p hp
            have hfront := texts_front Ao n co p (by omega)
            rw [HA2.out] at hback
            have hWz := hW0.size
            have FB0 := Lib.hid hW0
            have FB1 := Lib.hid (hW0.alloc hWz (.cells #[.string x] 9))
            have FO1 := Lib.hid (row_one W x)
            have FR1 := Lib.hid (HRD2.out.below FB1.out)
            have HCX : Hid (∀ W1, Below wo.heap.size wo W1 → W1.cell? (ad.add k) = some (.string x)) := fun W1 hW1 => (hW1.cell (p := ad.add k) (by rw [block_of_add]; exact World.block_lt_of_cell? wo _ hcell |> fun h => by rwa [block_of_add] at h)).trans hcell
            have HCT := Lib.hid hct
            have hpt : (out.take p).length = p := by rw [List.length_take, HN.out]; omega
            have hpd : 1 + (out.drop p).length = 1 + (n - p) := by rw [List.length_drop, HN.out]
            have HPT := Lib.hid hpt
            have HPD := Lib.hid hpd
            have s1 : 1 + (n - p) ≤ maxLen := by unfold maxLen; omega
            have s2 : (1 + (n - p)) * 16 ≤ 140737488355328 := by omega
            have s3 : p + (1 + (n - p)) ≤ maxLen := by unfold maxLen; omega
            have s4 : (p + (1 + (n - p))) * 16 ≤ 140737488355328 := by omega
            clear hW0 hpt hpd
            go_wp2_with fail
            go_region_held3 (fun w' => w'.cell? (ad.add k) = some (.string x)) (first | exact HCX.out _ FB0.out | exact HCX.out _ FB0.out.drew | exact HCX.out _ FB1.out | exact HCX.out _ FB1.out.drew | exact HCX.out _ FB41.out | exact hcx42) (first
              | (refine step_append_any _ rfl (.tmp 47) (.tmp 56) 23 rfl w.heap.size 9 i0 (.string ⟨#[]⟩) 1 16 Try.underlying23 hi hz0 hz1 hz2 rfl (by decide) (.slice Ao p co) p ((out.take p).map sv) rfl (by exact F42.out) _ A41 (1 + (n - p)) c41 ([sv x] ++ (out.drop p).map sv) rfl (by exact FR41.out) (one_more x _) s3 s4 (by exact hz42) ?_; intro v42 w42 ho42 hg42 hk42; have hg42' : w41.grownBy w42 (Value.slice Ao p co).ownBlock := ⟨hg42.os, hg42.tape, hg42.output, hg42.size, hg42.block⟩; have FB42' := Lib.hid ((HBW.out.trans (FB41.out.mono hz8)).grown hg42' hz42 (fun q hq => (World.ownsRow.lt F42.out q hq).1)); have HJ := Lib.hid (row_done HPT.out HPD.out ho42); have hcx42 : w42.cell? (ad.add k) = some (.string x) := (HCT.out w42 FB42'.out); clear ho42 hg42 hg42' hk42)
              | (refine step_append_any _ rfl (.tmp 52) (.tmp 55) 23 rfl W.heap.size 9 i0 (.string ⟨#[]⟩) 1 16 Try.underlying23 hi hz0 hz1 hz2 rfl (by decide) (.slice (some ⟨W.heap.size, 0, none⟩) 1 1) 1 [sv x] rfl (by exact FO1.out) _ A2 (n - p) (co - p) ((out.drop p).map sv) rfl (by exact FR1.out) (sv_one _) s1 s2 (by simp) ?_; intro v41 w41 ho41 hg41 hk41; obtain ⟨A41, c41, hv41, hr41⟩ := row_slice ho41; subst hv41; have FR41 := Lib.hid hr41; have hg41' : (W.alloc (.cells #[.string x] 9)).grownBy w41 (some W.heap.size) := ⟨hg41.os, hg41.tape, hg41.output, hg41.size, hg41.block⟩; have FB41 := Lib.hid (FB1.out.grown hg41' FB1.out.size (fun q hq => by injection hq with hq; omega)); have F42 := Lib.hid (row_of (HFR'.out w41 FB41.out) p HPT.out); have hz42 : w.heap.size ≤ w41.heap.size := Nat.le_trans hz8 FB41.out.size; clear ho41 hg41 hg41' hk41 hr41))
            all_goals
              have hso2 := ins_strict (x := x) HSO.out (by rw [HN.out]; exact hp) HLE.out HGT.out
              have hme2 : ∀ z, z ∈ out.take p ++ ([x] ++ out.drop p) ↔ z ∈ xs.take (k + 1) := fun z => by
                rw [(ins_perm out x p).mem_iff, HTK.out, List.mem_append, List.mem_append, HME.out z]
              have HS2 := Lib.hid hso2
              have HM2 := Lib.hid hme2
              clear hso2 hme2
              go_wp2
              go_roundw
              case rel => exact ⟨k + 1, _, by omega, by go_num, by rw [List.length_append, List.length_append, List.length_singleton]; have := HPT.out; have := HPD.out; omega, HS2.out, HM2.out, HJ.out, FB42'.out⟩
              case measure => simp [intOf]; omega
          · have s2 : (p : Int) < (n : Int) := by omega
            have hclW : W0.cell? (a2.add p) = some (.string y2) := (HW0.out.cell (p := a2.add p) (World.block_lt_of_cell? wo _ hcl2)).trans hcl2
            have hcxW : W0.cell? (ad.add k) = some (.string x) := hct W0 (HBW.out.trans (HW0.out.mono hz8))
            go_wp2_with fail
            go_quiet (fail)
            have hWB := Lib.hid (HBW.out.trans ((below_drewN HW0.out nq).mono hz8))
            clear hclW hcxW hcl2 hct s0 s1
            go_wp2
            go_roundw
            case rel =>
              refine ⟨k + 1, out, by omega, by go_num, by have := HN.out; omega, HSO.out, fun z => ?_, ?_, hWB.out⟩
              · rw [HTK.out, List.mem_append, List.mem_singleton, HME.out z]
                constructor
                · exact .inl
                · rintro (h | h)
                  · exact h
                  · rw [h]; exact (HME.out x).1 hmem.out
              · exact (HO.out.below HW0.out).drewN _
            case measure => simp [intOf]; omega
          · have HGT := hgt
            have s2 : (p : Int) < (n : Int) := by omega
            have hclW : W0.cell? (a2.add p) = some (.string y2) := (HW0.out.cell (p := a2.add p) (World.block_lt_of_cell? wo _ hcl2)).trans hcl2
            have hcxW : W0.cell? (ad.add k) = some (.string x) := hct W0 (HBW.out.trans (HW0.out.mono hz8))
            go_wp2_with fail
            go_quiet (fail)
            have hW1 : Below wo.heap.size wo (W0.drewN nq) := below_drewN HW0.out _
            clear hclW hcxW hcl2 s0 s1 s2
            generalize (some a2 : Option Addr) = Ao at *
            generalize W0.drewN nq = W at *
            have hW0 := hW1
            clear hW1
            have hback := texts_back Ao n co p hp
            have hfront := texts_front Ao n co p (by omega)
            rw [HA2.out] at hback
            have hWz := hW0.size
            have FB0 := Lib.hid hW0
            have FB1 := Lib.hid (hW0.alloc hWz (.cells #[.string x] 9))
            have FO1 := Lib.hid (row_one W x)
            have FR1 := Lib.hid (HRD2.out.below FB1.out)
            have HCX : Hid (∀ W1, Below wo.heap.size wo W1 → W1.cell? (ad.add k) = some (.string x)) := fun W1 hW1 => (hW1.cell (p := ad.add k) (by rw [block_of_add]; exact World.block_lt_of_cell? wo _ hcell |> fun h => by rwa [block_of_add] at h)).trans hcell
            have HCT := Lib.hid hct
            have hpt : (out.take p).length = p := by rw [List.length_take, HN.out]; omega
            have hpd : 1 + (out.drop p).length = 1 + (n - p) := by rw [List.length_drop, HN.out]
            have HPT := Lib.hid hpt
            have HPD := Lib.hid hpd
            have s1 : 1 + (n - p) ≤ maxLen := by unfold maxLen; omega
            have s2 : (1 + (n - p)) * 16 ≤ 140737488355328 := by omega
            have s3 : p + (1 + (n - p)) ≤ maxLen := by unfold maxLen; omega
            have s4 : (p + (1 + (n - p))) * 16 ≤ 140737488355328 := by omega
            clear hW0 hpt hpd
            go_wp2_with fail
            go_region_held3 (fun w' => w'.cell? (ad.add k) = some (.string x)) (first | exact HCX.out _ FB0.out | exact HCX.out _ FB0.out.drew | exact HCX.out _ FB1.out | exact HCX.out _ FB1.out.drew | exact HCX.out _ FB41.out | exact hcx42) (first
              | (refine step_append_any _ rfl (.tmp 47) (.tmp 56) 23 rfl w.heap.size 9 i0 (.string ⟨#[]⟩) 1 16 Try.underlying23 hi hz0 hz1 hz2 rfl (by decide) (.slice Ao p co) p ((out.take p).map sv) rfl (by exact F42.out) _ A41 (1 + (n - p)) c41 ([sv x] ++ (out.drop p).map sv) rfl (by exact FR41.out) (one_more x _) s3 s4 (by exact hz42) ?_; intro v42 w42 ho42 hg42 hk42; have hg42' : w41.grownBy w42 (Value.slice Ao p co).ownBlock := ⟨hg42.os, hg42.tape, hg42.output, hg42.size, hg42.block⟩; have FB42' := Lib.hid ((HBW.out.trans (FB41.out.mono hz8)).grown hg42' hz42 (fun q hq => (World.ownsRow.lt F42.out q hq).1)); have HJ := Lib.hid (row_done HPT.out HPD.out ho42); have hcx42 : w42.cell? (ad.add k) = some (.string x) := (HCT.out w42 FB42'.out); clear ho42 hg42 hg42' hk42)
              | (refine step_append_any _ rfl (.tmp 52) (.tmp 55) 23 rfl W.heap.size 9 i0 (.string ⟨#[]⟩) 1 16 Try.underlying23 hi hz0 hz1 hz2 rfl (by decide) (.slice (some ⟨W.heap.size, 0, none⟩) 1 1) 1 [sv x] rfl (by exact FO1.out) _ A2 (n - p) (co - p) ((out.drop p).map sv) rfl (by exact FR1.out) (sv_one _) s1 s2 (by simp) ?_; intro v41 w41 ho41 hg41 hk41; obtain ⟨A41, c41, hv41, hr41⟩ := row_slice ho41; subst hv41; have FR41 := Lib.hid hr41; have hg41' : (W.alloc (.cells #[.string x] 9)).grownBy w41 (some W.heap.size) := ⟨hg41.os, hg41.tape, hg41.output, hg41.size, hg41.block⟩; have FB41 := Lib.hid (FB1.out.grown hg41' FB1.out.size (fun q hq => by injection hq with hq; omega)); have F42 := Lib.hid (row_of (HFR'.out w41 FB41.out) p HPT.out); have hz42 : w.heap.size ≤ w41.heap.size := Nat.le_trans hz8 FB41.out.size; clear ho41 hg41 hg41' hk41 hr41))
            all_goals
              have hso2 := ins_strict (x := x) HSO.out (by rw [HN.out]; exact hp) HLE.out HGT.out
              have hme2 : ∀ z, z ∈ out.take p ++ ([x] ++ out.drop p) ↔ z ∈ xs.take (k + 1) := fun z => by
                rw [(ins_perm out x p).mem_iff, HTK.out, List.mem_append, List.mem_append, HME.out z]
              have HS2 := Lib.hid hso2
              have HM2 := Lib.hid hme2
              clear hso2 hme2
              go_wp2
              go_roundw
              case rel => exact ⟨k + 1, _, by omega, by go_num, by rw [List.length_append, List.length_append, List.length_singleton]; have := HPT.out; have := HPD.out; omega, HS2.out, HM2.out, HJ.out, FB42'.out⟩
              case measure => simp [intOf]; omega
        · have HFR' := Lib.hid HFR
          clear HFR hback hfront
          have HPR1 := Lib.hid hpr1
          have p0n : 0 < p := by omega
          clear hpr1
          have r0 : (0 : Int) ≤ (r : Int) := by omega
          have r1 : (r : Int) < (n : Int) := by omega
          go_wp2_with fail
          go_quiet (fail)
          have hW00 : Below wo.heap.size wo ((wo.drewN q).drewN nq) := below_drewN (below_drewN (Below.refl _ _) _) _
          clear hpr p0 p0n hcl t1
          generalize (some a : Option Addr) = Ao at *
          generalize (wo.drewN q).drewN nq = W0 at *
          have HW0 := Lib.hid hW00
          have HLE := hle
          clear hW00
          have hsub : (decide (p < n) = false ∧ Hid (∀ j, p ≤ j → ∀ (hj : j < out.length), bl x.toList out[j].toList = true)) ∨ ∃ (y : ByteArray) (a' : Addr), p < n ∧ Ao = some a' ∧ wo.cell? (a'.add p) = some (.string y) ∧
              (((y.toList == x.toList) = true ∧ Hid (x ∈ out)) ∨ ((y.toList == x.toList) = false ∧ Hid (∀ j, p ≤ j → ∀ (hj : j < out.length), bl x.toList out[j].toList = true))) := by
            by_cases hpn : p < n
            · have hpo : p < out.length := by rw [HN.out]; exact hpn
              obtain ⟨a', ha, hcl⟩ := reads_at HRO.out p (sv out[p]) (by rw [List.getElem?_map, List.getElem?_eq_getElem hpo]; rfl)
              refine .inr ⟨out[p], a', hpn, ha, hcl, ?_⟩
              by_cases he : out[p] = x
              · exact .inl ⟨by rw [he, beq_self_eq_true], by rw [← he]; exact List.getElem_mem hpo⟩
              · refine .inr ⟨toList_ne he, fun j h1 hj => ?_⟩
                have hpx : bl x.toList out[p].toList = true := by
                  rcases bl_tri x.toList out[p].toList with h | h | h
                  · exact h
                  · exact absurd (ba_ext h).symm he
                  · have := HGE2.out p (Nat.le_refl _) hpo; rw [h] at this; cases this
                rcases Nat.lt_or_ge p j with h2 | h2
                · exact bl_trans _ _ _ hpx (List.pairwise_iff_getElem.1 HSO.out p j hpo hj h2)
                · obtain rfl : j = p := by omega
                  exact hpx
            · exact .inl ⟨decide_eq_false hpn, fun j h1 hj => by have := HN.out; omega⟩
          have HFR2 := HFR'
          have p00 : (0 : Int) ≤ (p : Int) := by omega
          rcases hsub with ⟨s0, hgt⟩ | ⟨y2, a2, s0, rfl, hcl2, ⟨s1, hmem⟩ | ⟨s1, hgt⟩⟩
          · have HGT := hgt
            go_wp2_with fail
            go_quiet (fail)
            have hW1 : Below wo.heap.size wo (W0.drewN nq) := below_drewN HW0.out _
            clear s0
            generalize W0.drewN nq = W at *
            have hW0 := hW1
            clear hW1
            have hback := texts_back Ao n co p hp
            have hfront := texts_front Ao n co p (by omega)
            rw [HA2.out] at hback
            have hWz := hW0.size
            have FB0 := Lib.hid hW0
            have FB1 := Lib.hid (hW0.alloc hWz (.cells #[.string x] 9))
            have FO1 := Lib.hid (row_one W x)
            have FR1 := Lib.hid (HRD2.out.below FB1.out)
            have HCX : Hid (∀ W1, Below wo.heap.size wo W1 → W1.cell? (ad.add k) = some (.string x)) := fun W1 hW1 => (hW1.cell (p := ad.add k) (by rw [block_of_add]; exact World.block_lt_of_cell? wo _ hcell |> fun h => by rwa [block_of_add] at h)).trans hcell
            have HCT := Lib.hid hct
            have hpt : (out.take p).length = p := by rw [List.length_take, HN.out]; omega
            have hpd : 1 + (out.drop p).length = 1 + (n - p) := by rw [List.length_drop, HN.out]
            have HPT := Lib.hid hpt
            have HPD := Lib.hid hpd
            have s1 : 1 + (n - p) ≤ maxLen := by unfold maxLen; omega
            have s2 : (1 + (n - p)) * 16 ≤ 140737488355328 := by omega
            have s3 : p + (1 + (n - p)) ≤ maxLen := by unfold maxLen; omega
            have s4 : (p + (1 + (n - p))) * 16 ≤ 140737488355328 := by omega
            clear hW0 hpt hpd
            go_wp2_with fail
            go_region_held3 (fun w' => w'.cell? (ad.add k) = some (.string x)) (first | exact HCX.out _ FB0.out | exact HCX.out _ FB0.out.drew | exact HCX.out _ FB1.out | exact HCX.out _ FB1.out.drew | exact HCX.out _ FB41.out | exact hcx42) (first
              | (refine step_append_any _ rfl (.tmp 47) (.tmp 56) 23 rfl w.heap.size 9 i0 (.string ⟨#[]⟩) 1 16 Try.underlying23 hi hz0 hz1 hz2 rfl (by decide) (.slice Ao p co) p ((out.take p).map sv) rfl (by exact F42.out) _ A41 (1 + (n - p)) c41 ([sv x] ++ (out.drop p).map sv) rfl (by exact FR41.out) (one_more x _) s3 s4 (by exact hz42) ?_; intro v42 w42 ho42 hg42 hk42; have hg42' : w41.grownBy w42 (Value.slice Ao p co).ownBlock := ⟨hg42.os, hg42.tape, hg42.output, hg42.size, hg42.block⟩; have FB42' := Lib.hid ((HBW.out.trans (FB41.out.mono hz8)).grown hg42' hz42 (fun q hq => (World.ownsRow.lt F42.out q hq).1)); have HJ := Lib.hid (row_done HPT.out HPD.out ho42); have hcx42 : w42.cell? (ad.add k) = some (.string x) := (HCT.out w42 FB42'.out); clear ho42 hg42 hg42' hk42)
              | (refine step_append_any _ rfl (.tmp 52) (.tmp 55) 23 rfl W.heap.size 9 i0 (.string ⟨#[]⟩) 1 16 Try.underlying23 hi hz0 hz1 hz2 rfl (by decide) (.slice (some ⟨W.heap.size, 0, none⟩) 1 1) 1 [sv x] rfl (by exact FO1.out) _ A2 (n - p) (co - p) ((out.drop p).map sv) rfl (by exact FR1.out) (sv_one _) s1 s2 (by simp) ?_; intro v41 w41 ho41 hg41 hk41; obtain ⟨A41, c41, hv41, hr41⟩ := row_slice ho41; subst hv41; have FR41 := Lib.hid hr41; have hg41' : (W.alloc (.cells #[.string x] 9)).grownBy w41 (some W.heap.size) := ⟨hg41.os, hg41.tape, hg41.output, hg41.size, hg41.block⟩; have FB41 := Lib.hid (FB1.out.grown hg41' FB1.out.size (fun q hq => by injection hq with hq; omega)); have F42 := Lib.hid (row_of (HFR'.out w41 FB41.out) p HPT.out); have hz42 : w.heap.size ≤ w41.heap.size := Nat.le_trans hz8 FB41.out.size; clear ho41 hg41 hg41' hk41 hr41))
            all_goals
              have hso2 := ins_strict (x := x) HSO.out (by rw [HN.out]; exact hp) HLE.out HGT.out
              have hme2 : ∀ z, z ∈ out.take p ++ ([x] ++ out.drop p) ↔ z ∈ xs.take (k + 1) := fun z => by
                rw [(ins_perm out x p).mem_iff, HTK.out, List.mem_append, List.mem_append, HME.out z]
              have HS2 := Lib.hid hso2
              have HM2 := Lib.hid hme2
              clear hso2 hme2
              go_wp2
              go_roundw
              case rel => exact ⟨k + 1, _, by omega, by go_num, by rw [List.length_append, List.length_append, List.length_singleton]; have := HPT.out; have := HPD.out; omega, HS2.out, HM2.out, HJ.out, FB42'.out⟩
              case measure => simp [intOf]; omega
          · have s2 : (p : Int) < (n : Int) := by omega
            have hclW : W0.cell? (a2.add p) = some (.string y2) := (HW0.out.cell (p := a2.add p) (World.block_lt_of_cell? wo _ hcl2)).trans hcl2
            have hcxW : W0.cell? (ad.add k) = some (.string x) := hct W0 (HBW.out.trans (HW0.out.mono hz8))
            go_wp2_with fail
            go_quiet (fail)
            have hWB := Lib.hid (HBW.out.trans ((below_drewN HW0.out nq).mono hz8))
            clear hclW hcxW hcl2 hct s0 s1
            go_wp2
            go_roundw
            case rel =>
              refine ⟨k + 1, out, by omega, by go_num, by have := HN.out; omega, HSO.out, fun z => ?_, ?_, hWB.out⟩
              · rw [HTK.out, List.mem_append, List.mem_singleton, HME.out z]
                constructor
                · exact .inl
                · rintro (h | h)
                  · exact h
                  · rw [h]; exact (HME.out x).1 hmem.out
              · exact (HO.out.below HW0.out).drewN _
            case measure => simp [intOf]; omega
          · have HGT := hgt
            have s2 : (p : Int) < (n : Int) := by omega
            have hclW : W0.cell? (a2.add p) = some (.string y2) := (HW0.out.cell (p := a2.add p) (World.block_lt_of_cell? wo _ hcl2)).trans hcl2
            have hcxW : W0.cell? (ad.add k) = some (.string x) := hct W0 (HBW.out.trans (HW0.out.mono hz8))
            go_wp2_with fail
            go_quiet (fail)
            have hW1 : Below wo.heap.size wo (W0.drewN nq) := below_drewN HW0.out _
            clear hclW hcxW hcl2 s0 s1 s2
            generalize (some a2 : Option Addr) = Ao at *
            generalize W0.drewN nq = W at *
            have hW0 := hW1
            clear hW1
            have hback := texts_back Ao n co p hp
            have hfront := texts_front Ao n co p (by omega)
            rw [HA2.out] at hback
            have hWz := hW0.size
            have FB0 := Lib.hid hW0
            have FB1 := Lib.hid (hW0.alloc hWz (.cells #[.string x] 9))
            have FO1 := Lib.hid (row_one W x)
            have FR1 := Lib.hid (HRD2.out.below FB1.out)
            have HCX : Hid (∀ W1, Below wo.heap.size wo W1 → W1.cell? (ad.add k) = some (.string x)) := fun W1 hW1 => (hW1.cell (p := ad.add k) (by rw [block_of_add]; exact World.block_lt_of_cell? wo _ hcell |> fun h => by rwa [block_of_add] at h)).trans hcell
            have HCT := Lib.hid hct
            have hpt : (out.take p).length = p := by rw [List.length_take, HN.out]; omega
            have hpd : 1 + (out.drop p).length = 1 + (n - p) := by rw [List.length_drop, HN.out]
            have HPT := Lib.hid hpt
            have HPD := Lib.hid hpd
            have s1 : 1 + (n - p) ≤ maxLen := by unfold maxLen; omega
            have s2 : (1 + (n - p)) * 16 ≤ 140737488355328 := by omega
            have s3 : p + (1 + (n - p)) ≤ maxLen := by unfold maxLen; omega
            have s4 : (p + (1 + (n - p))) * 16 ≤ 140737488355328 := by omega
            clear hW0 hpt hpd
            go_wp2_with fail
            go_region_held3 (fun w' => w'.cell? (ad.add k) = some (.string x)) (first | exact HCX.out _ FB0.out | exact HCX.out _ FB0.out.drew | exact HCX.out _ FB1.out | exact HCX.out _ FB1.out.drew | exact HCX.out _ FB41.out | exact hcx42) (first
              | (refine step_append_any _ rfl (.tmp 47) (.tmp 56) 23 rfl w.heap.size 9 i0 (.string ⟨#[]⟩) 1 16 Try.underlying23 hi hz0 hz1 hz2 rfl (by decide) (.slice Ao p co) p ((out.take p).map sv) rfl (by exact F42.out) _ A41 (1 + (n - p)) c41 ([sv x] ++ (out.drop p).map sv) rfl (by exact FR41.out) (one_more x _) s3 s4 (by exact hz42) ?_; intro v42 w42 ho42 hg42 hk42; have hg42' : w41.grownBy w42 (Value.slice Ao p co).ownBlock := ⟨hg42.os, hg42.tape, hg42.output, hg42.size, hg42.block⟩; have FB42' := Lib.hid ((HBW.out.trans (FB41.out.mono hz8)).grown hg42' hz42 (fun q hq => (World.ownsRow.lt F42.out q hq).1)); have HJ := Lib.hid (row_done HPT.out HPD.out ho42); have hcx42 : w42.cell? (ad.add k) = some (.string x) := (HCT.out w42 FB42'.out); clear ho42 hg42 hg42' hk42)
              | (refine step_append_any _ rfl (.tmp 52) (.tmp 55) 23 rfl W.heap.size 9 i0 (.string ⟨#[]⟩) 1 16 Try.underlying23 hi hz0 hz1 hz2 rfl (by decide) (.slice (some ⟨W.heap.size, 0, none⟩) 1 1) 1 [sv x] rfl (by exact FO1.out) _ A2 (n - p) (co - p) ((out.drop p).map sv) rfl (by exact FR1.out) (sv_one _) s1 s2 (by simp) ?_; intro v41 w41 ho41 hg41 hk41; obtain ⟨A41, c41, hv41, hr41⟩ := row_slice ho41; subst hv41; have FR41 := Lib.hid hr41; have hg41' : (W.alloc (.cells #[.string x] 9)).grownBy w41 (some W.heap.size) := ⟨hg41.os, hg41.tape, hg41.output, hg41.size, hg41.block⟩; have FB41 := Lib.hid (FB1.out.grown hg41' FB1.out.size (fun q hq => by injection hq with hq; omega)); have F42 := Lib.hid (row_of (HFR'.out w41 FB41.out) p HPT.out); have hz42 : w.heap.size ≤ w41.heap.size := Nat.le_trans hz8 FB41.out.size; clear ho41 hg41 hg41' hk41 hr41))
            all_goals
              have hso2 := ins_strict (x := x) HSO.out (by rw [HN.out]; exact hp) HLE.out HGT.out
              have hme2 : ∀ z, z ∈ out.take p ++ ([x] ++ out.drop p) ↔ z ∈ xs.take (k + 1) := fun z => by
                rw [(ins_perm out x p).mem_iff, HTK.out, List.mem_append, List.mem_append, HME.out z]
              have HS2 := Lib.hid hso2
              have HM2 := Lib.hid hme2
              clear hso2 hme2
              go_wp2
              go_roundw
              case rel => exact ⟨k + 1, _, by omega, by go_num, by rw [List.length_append, List.length_append, List.length_singleton]; have := HPT.out; have := HPD.out; omega, HS2.out, HM2.out, HJ.out, FB42'.out⟩
              case measure => simp [intOf]; omega
        · clear HFR hback hfront
          have HPR1 := Lib.hid hpr1
          have p0n : 0 < p := by omega
          clear hpr1
          have r0 : (0 : Int) ≤ (r : Int) := by omega
          have r1 : (r : Int) < (n : Int) := by omega
          go_wp2_with fail
          go_quiet (fail)
          go_wp2
          go_roundw
          case rel => exact ⟨r, _, by omega, rfl, rfl, hge⟩
          case measure => have := HPR1.out; simp [intOf]; omega
    · obtain rfl : k = l := by omega
      have hfin : out = uniqT xs := uniqT_eq HSO.out (fun z => by
        rw [HME.out z, List.take_of_length_le (by rw [HL.out]; omega)])
      have hres : OwnV 9 wr w.heap.size (.slice Ao n co) ((uniqT xs).map sv) := by rw [← hfin]; exact HO.out
      have HRES := Lib.hid hres
      clear hfin hres hol
      go_wp2
      go_ret
      exact ⟨_, rfl, HRES.out, HBW.out⟩
end Go.Proofs.Ytecpedecgcaeoaa.Tx
