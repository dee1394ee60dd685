/- Texts put together: Htr. -/
import Derived.Test.YtaccejlalomaaaaGreatQh62
/- marlaw5.FsimTree: the walk. -/
set_option linter.unusedVariables false
set_option linter.unusedSimpArgs false
namespace Go.Proofs.YtaccejlalomaaaaGreat.Tx
open Go.RowKit Go.Maps Go.Proofs.YtaccejlalomaaaaGreat.Sh

set_option linter.unusedSimpArgs false in
set_option maxRecDepth 100000 in
set_option maxHeartbeats 12800000 in
theorem tree_any (G : Nat → Prop) (room : Int) (v : Value) (l : List LOp) (w : World) (h : OpsF G w v l) (hG : ∀ k, G k → k < w.heap.size) (hdl : ∀ o ∈ l, o.data.length ≤ 140737488351232 ∧ ∀ e ∈ o.plan, e.data.length ≤ 140737488351232) : Calls Tryz.prog 4 #[.int .i64 room, v] w (Yes w) := by
  have HL := Lib.hid h
  have HG := Lib.hid hG
  have HDL := Lib.hid hdl
  clear h hG hdl
  go_enter Tryz.func4, Tryz.ntmps4
  go_wp2_with fail
  refine (first_any w).mono ?_
  rintro e w1 ⟨rfl, hb1⟩
  have HB1 := Lib.hid hb1
  clear hb1
  go_wp2_with fail
  refine (played_any G room v l w1 (HL.out.below HB1.out) (fun k hk => Nat.lt_of_lt_of_le (HG.out k hk) HB1.out.size) HDL.out).mono ?_
  rintro e w2 ⟨hb2, rfl | ⟨b0, F, M, c, rfl, hsub, hat, hlow, hinv, hkept, hroom, hgo⟩⟩
  · have HB2 := Lib.hid (HB1.out.trans (hb2.mono HB1.out.size))
    clear hb2
    go_wp2_with fail
    refine (first_any w2).mono ?_
    rintro e w3 ⟨rfl, hb3⟩
    have HB3 := Lib.hid (HB2.out.trans (hb3.mono HB2.out.size))
    clear hb3
    go_wp2_with fail
    go_ret
    exact ⟨rfl, HB3.out⟩
  have HB2 := Lib.hid (HB1.out.trans (hb2.mono HB1.out.size))
  have HAT := Lib.hid hat
  have HROWS := Lib.hid hinv.rows
  have HKEPT : Hid (c.users ≠ [] ∨ (usedM c.here : Int) ≤ max c.room 0) := hkept.1.now hinv
  have HUSR : Hid (∀ e ∈ c.users, e.data.length ≤ 20000) := hkept.2
  have HROOM := Lib.hid hroom
  have HGO := Lib.hid hgo
  have HSM : Hid (CSmall c) := hgo.small (by decide)
  obtain ⟨R, hR⟩ : ∃ R, c.here = R := ⟨_, rfl⟩
  rw [hR] at HROWS HKEPT
  have HR := Lib.hid hR
  obtain ⟨ps, hps⟩ : ∃ ps, (pathsM R).map str = ps := ⟨_, rfl⟩
  have HPS := Lib.hid hps
  have HRL : Hid (R.length = ps.length) := by rw [← hps]; show R.length = ((pathsM R).map str).length; unfold pathsM; simp
  have HRN : Hid (R.length ≤ 900000) := by rw [← hR]; exact HSM.out.here
  have HSHORT : Hid (∀ r ∈ R, r.path.length ≤ 1000) := fun r hr => (HSM.out.hrow r (by rw [hR]; exact hr)).1
  have HPA : Hid (∀ (k : Nat) (r : RowM), R[k]? = some r → ps[k]? = some (str r.path)) := fun k r hr => by
    rw [← hps, List.getElem?_map]
    unfold pathsM
    rw [List.getElem?_map, hr]
    rfl
  clear hb2 hat hlow hinv hkept hroom hgo hsub hR hps
  go_wp2_with fail
  refine (paths_any HAT.out HSM.out).mono ?_
  rw [HR.out, HPS.out]
  rintro e w3 ⟨v3, rfl, ho3, hb3⟩
  obtain ⟨A, k3, rfl, _, _, _⟩ := ho3.slv
  obtain ⟨n, hn⟩ : ∃ n, (ps.map sv).length = n := ⟨_, rfl⟩
  have hv3 := ho3.slv
  rw [hn] at hv3 ⊢
  have HN : Hid (ps.length = n) := by rw [← hn]; show ps.length = (ps.map sv).length; simp
  have hnb : n ≤ 900000 := by have h1 := HN.out; have h2 := HRL.out; have h3 := HRN.out; omega
  have HV3 := Lib.hid hv3
  have HAT3 := Lib.hid (HAT.out.below hb3)
  have HB3 := Lib.hid (HB2.out.trans (hb3.mono HB2.out.size))
  clear ho3 hb3 hn hv3
  have HUB : Hid (usedM R ≤ 400000000000) := by
    show usedM R ≤ _
    have h1 := HSM.out.hused
    rw [HR.out] at h1
    exact h1
  have HTB : Hid (∀ k, usedM (R.take k) ≤ 400000000000) := fun k => by
    have h1 : usedM (R.take k) + usedM (R.drop k) = usedM R := by rw [← used_app, List.take_append_drop]
    have := HUB.out
    omega
  go_wp2_with fail
  go_loopw [7, 8] (fun s i wr => ∃ k : Nat, k ≤ n ∧ i = .int .i64 k ∧ s = .int .i64 (usedM (R.take k)) ∧ Below w3.heap.size w3 wr) (fun _ i _ => n - (intOf i).toNat)
  case atStart => exact ⟨0, Nat.zero_le _, rfl, rfl, Below.refl _ _⟩
  case round =>
    obtain ⟨k, hk, rfl, rfl, hb⟩ := hrel
    have HB := Lib.hid hb
    clear hb
    have k0 : (0 : Int) ≤ (k : Int) := by omega
    by_cases hlt : k < n
    · have k1 : (k : Int) < (n : Int) := by omega
      obtain ⟨r, hr⟩ : ∃ r, R[k]? = some r := ⟨_, List.getElem?_eq_getElem (by rw [HRL.out, HN.out]; exact hlt)⟩
      have hpk := HPA.out k r hr
      have hrm := List.mem_of_getElem? hr
      obtain ⟨ad, rfl⟩ : ∃ ad, A = some ad := by
        obtain ⟨A', c', hv', _, _, hRd, _⟩ := HV3.out
        injection hv' with e1 _ _
        subst e1
        rw [List.length_map] at hRd
        obtain ⟨ad, e, _⟩ := texts_at hRd k (List.getElem?_eq_some_iff.1 hpk).1
        exact ⟨ad, e⟩
      have HCL : Hid (∀ (j : Nat) (s : RowM), R[j]? = some s → ∀ W : World, Below w3.heap.size w3 W → W.cell? (ad.add j) = some (.string (str s.path))) := fun j s hs W hW => by
        have hpj := HPA.out j s hs
        obtain ⟨A', c', hv', _, _, hRd, _⟩ := HV3.out.below hW
        injection hv' with e1 _ _
        subst e1
        rw [List.length_map] at hRd
        obtain ⟨hl, e2⟩ := List.getElem?_eq_some_iff.1 hpj
        obtain ⟨ad', e, hc⟩ := texts_at hRd j hl
        injection e with e
        subst e
        rw [hc, e2]
      have hcell := HCL.out k r hr wr HB.out
      have HRK := Lib.hid hr
      have HRM := Lib.hid hrm
      have HPL : Hid (r.path.length ≤ 1000) := HSHORT.out r hrm
      obtain ⟨hp1, hp2, hp3, hp4, hp5⟩ := HROWS.out.row r hrm
      obtain ⟨q1, q2⟩ := peek_row HROWS.out.ord hrm
      have HQ1 := Lib.hid q1
      have HQ2 := Lib.hid q2
      have HP1 := Lib.hid hp1
      clear hpk hr hrm q1 q2 hp1
      go_wp2_with fail
      refine (peek_any r.path (HAT3.out.below HB.out) HSM.out (Nat.le_trans HPL.out (by decide))).mono ?_
      rw [HR.out, HQ1.out, HQ2.out]
      rintro e w4 ⟨u4, rfl, ⟨v4, rfl, ho4⟩, hb4⟩
      obtain ⟨⟨mode, data, time⟩, hf⟩ : ∃ f, r.f = f := ⟨_, rfl⟩
      rw [hf] at ho4 hp2 hp3 hp4 hp5 ⊢
      dsimp only at ho4 hp2 hp3 hp4 hp5 ⊢
      have HF := Lib.hid hf
      obtain ⟨A4, c4, rfl, _, _⟩ := ho4.slv
      rw [List.length_map] at ho4 ⊢
      obtain ⟨fl, hfl⟩ : ∃ x, data.length = x := ⟨_, rfl⟩
      rw [hfl] at ho4 hp4 ⊢
      have HFL := Lib.hid hfl
      have hba := hb4.alloc hb4.size (.cells #[.int .i64 mode, .slice A4 fl c4, .int .i64 time] 46)
      have HBA := Lib.hid (HB.out.trans (hba.mono HB.out.size))
      have HX4 : Hid (Blk (w4.alloc (.cells #[.int .i64 mode, .slice A4 fl c4, .int .i64 time] 46)) w4.heap.size 46 #[.int .i64 mode, .slice A4 fl c4, .int .i64 time]) := Blk.new _ _ _
      have hcell4 := HCL.out k r HRK.out _ HBA.out
      clear ho4 hb4 hba hf hfl hcell
      go_wp2_with fail
      refine (nparents_any r.path _ (Nat.le_trans HPL.out (by decide))).mono ?_
      obtain ⟨us, hus⟩ : ∃ us, (parentsL r.path).map str = us := ⟨_, rfl⟩
      rw [hus]
      rintro e w5 ⟨v5, rfl, ho5, hb5⟩
      obtain ⟨A5, k5, rfl, _, _, _⟩ := ho5.slv
      obtain ⟨un, hun⟩ : ∃ x, (us.map sv).length = x := ⟨_, rfl⟩
      have hv5 := ho5.slv
      rw [hun] at hv5 ⊢
      have HUN : Hid (us.length = un) := by rw [← hun]; show us.length = (us.map sv).length; simp
      have hunb : un ≤ 7 := by
        have h1 := parents_few r.path
        have h2 := HUN.out
        rw [← hus, List.length_map] at h2
        omega
      have HNO : Hid (∀ j s, us[j]? = some s → hasT ps s = false) := fun j s hs => by
        rw [← hus, List.getElem?_map] at hs
        cases hq : (parentsL r.path)[j]? with
        | none => rw [hq] at hs; cases hs
        | some q =>
          rw [hq] at hs
          injection hs with hs
          rw [← hs, ← HPS.out]
          exact no_parent HROWS.out HRM.out (List.mem_of_getElem? hq)
      have HV5 := Lib.hid hv5
      have HB5 := Lib.hid (HBA.out.trans (hb5.mono HBA.out.size))
      have HX5 := Lib.hid (HX4.out.below hb5 HX4.out.lt)
      clear ho5 hb5 hun hv5 hus hcell4
      go_wp2_with fail
      go_loopw [12] (fun i wr => ∃ j : Nat, j ≤ un ∧ i = .int .i64 j ∧ Below w5.heap.size w5 wr) (fun i _ => un - (intOf i).toNat)
      case atStart => exact ⟨0, Nat.zero_le _, rfl, Below.refl _ _⟩
      case round =>
        obtain ⟨j, hj, rfl, hb6⟩ := hrel
        have HB6 := Lib.hid hb6
        clear hb6
        have j0 : (0 : Int) ≤ (j : Int) := by omega
        by_cases hlt2 : j < un
        · have j1 : (j : Int) < (un : Int) := by omega
          have hjl : j < us.length := by rw [HUN.out]; exact hlt2
          have HHAS := Lib.hid (HNO.out j us[j] (List.getElem?_eq_getElem hjl))
          obtain ⟨ad5, rfl, hcell5⟩ : ∃ ad5, A5 = some ad5 ∧ wr.cell? (ad5.add j) = some (.string us[j]) := by
            obtain ⟨A', c', hv', _, _, hRd, _⟩ := HV5.out.below HB6.out
            injection hv' with e1 _ _
            subst e1
            rw [List.length_map] at hRd
            exact texts_at hRd j hjl
          generalize us[j] = s at *
          clear hjl
          go_wp2_with fail
          refine (rhas_any _ ps s wr (HV3.out.below (HB5.out.trans (HB6.out.mono HB5.out.size)))).mono ?_
          rw [HHAS.out]
          rintro e w6 ⟨rfl, rfl⟩
          clear hcell5
          go_wp2_with fail
          go_roundw
          case rel => exact ⟨j + 1, by omega, by go_num, HB6.out⟩
          case measure => simp [intOf]; omega
        · obtain rfl : j = un := by omega
          have HB7 := Lib.hid (HB5.out.trans (HB6.out.mono HB5.out.size))
          have HX7 := Lib.hid (HX5.out.below HB6.out (by have h1 := HX4.out.lt; have h2 := HX5.out.lt; omega))
          have y0 : ∀ p : After wr, p.w'.cell? ⟨w4.heap.size, 0, none⟩ = some (.int .i64 mode) := fun p => (HX7.out.below p.h HX7.out.lt).cell 0
          have y1 : ∀ p : After wr, p.w'.cell? ⟨w4.heap.size, 1, none⟩ = some (.slice A4 fl c4) := fun p => (HX7.out.below p.h HX7.out.lt).cell 1
          have y2 : ∀ p : After wr, p.w'.cell? ⟨w4.heap.size, 2, none⟩ = some (.int .i64 time) := fun p => (HX7.out.below p.h HX7.out.lt).cell 2
          have yk : ∀ p : After wr, p.w'.cell? (ad.add k) = some (.string (str r.path)) := fun p => HCL.out k r HRK.out _ (HB7.out.trans (p.h.mono HB7.out.size))
          have HPATH : Hid (∀ p : After wr, Calls Tryz.prog 27 #[.string (str r.path)] p.w' fun e w' => e = .returned (.bool true) ∧ Below p.w'.heap.size p.w' w') := fun p => by
            have h1 := npath_any r.path p.w' (Nat.le_trans HPL.out (by decide))
            rw [HP1.out] at h1
            exact h1
          obtain ⟨tm, htm⟩ : ∃ x, c.time = x := ⟨_, rfl⟩
          have HNOW : Hid (∀ p : After wr, Calls Tryz.prog 28 #[.pointer (some ⟨b0, 0, none⟩)] p.w' fun e w' => e = .returned (.int .i64 tm) ∧ p.w' = w') := fun p => by
            rw [← htm]
            exact now_any (HAT3.out.below (HB7.out.trans (p.h.mono HB7.out.size)))
          rw [htm] at hp5
          clear htm
          have d1 : decide (mode < 1) = false := by simp; omega
          have d3 : decide (3 < mode) = false := by simp; omega
          have dl : decide ((20000 : Int) < (fl : Int)) = false := by simp; omega
          have dl' : decide (20000 < fl) = false := by simp; omega
          have dt : decide (tm < time) = false := by simp; omega
          by_cases hk0 : k = 0
          · have c0 : ¬ (0 : Int) < (k : Int) := by omega
            have c0d : decide ((0 : Int) < (k : Int)) = false := decide_eq_false c0
            have HC0 : Hid (¬ 0 < k) := Lib.hid (by omega)
            clear hk0
            go_wp2_with fail
            try simp only [List.append_eq, List.cons_append, List.nil_append]
            refine quiet_below (by kernel_rfl) (by kernel_rfl) ?_
            repeat (refine wpQuiet_step (fun K hK => ?_); go_simp; first | (refine hK _ ?_; clear hK K) | (rw [if_neg HC0.out]; first | (refine hK _ ?_; clear hK K) | (apply Exists.intro; refine ⟨fun _ => ?_, hK _ ?_⟩; (first | (refine Calls.after_of (HPATH.out _)) | (refine Calls.after_same (HNOW.out _))); clear hK K)) | (apply Exists.intro; refine ⟨fun _ => ?_, hK _ ?_⟩; (first | (refine Calls.after_of (HPATH.out _)) | (refine Calls.after_same (HNOW.out _))); clear hK K))
            refine wpQuiet_nil ?_
            intro _ hw'
            obtain ⟨p, hw''⟩ := hw'
            subst hw''
            have wsum : IntKind.i64.wrap ((usedM (R.take k) : Int) + (fl : Int)) = (usedM (R.take k) : Int) + (fl : Int) := IntWalk.i64_in _ (by have := HTB.out k; omega)
            have z1 := y1 p
            clear y0 y1 y2 yk
            go_wp2_with fail
            go_roundw
            case rel => exact ⟨k + 1, by omega, by go_num, by rw [used_take1 HRK.out, HF.out]; simp [HFL.out], HB7.out.trans (p.h.mono HB7.out.size)⟩
            case measure => simp [intOf]; omega
          · have c0 : (0 : Int) < (k : Int) := by omega
            have c0d : decide ((0 : Int) < (k : Int)) = true := decide_eq_true c0
            have HC0 : Hid (0 < k) := Lib.hid (by omega)
            obtain ⟨km, hkm⟩ : ∃ m, k - 1 = m := ⟨_, rfl⟩
            have hkmi : (k : Int) - 1 = (km : Int) := by omega
            have wkm : IntKind.i64.wrap (km : Int) = (km : Int) := by rw [IntKind.wrap_i64]; omega
            have km0 : (0 : Int) ≤ (km : Int) := by omega
            have km1 : (km : Int) < (n : Int) := by omega
            obtain ⟨r2, hr2⟩ : ∃ r, R[km]? = some r := ⟨_, List.getElem?_eq_getElem (by rw [HRL.out, HN.out]; omega)⟩
            have ym : ∀ p : After wr, p.w'.cell? (ad.add km) = some (.string (str r2.path)) := fun p => HCL.out km r2 hr2 _ (HB7.out.trans (p.h.mono HB7.out.size))
            have hbl : bl r2.path r.path = true := ord_at HROWS.out.ord hr2 HRK.out (by omega)
            have hb1 : Op.bytesLess (str r.path).toList (str r2.path).toList = false := by rw [str_toList, str_toList]; exact bl_asymm _ _ hbl
            have hb2 : ((str r.path).toList == (str r2.path).toList) = false := str_ne (fun e => by rw [e, bl_irr] at hbl; cases hbl)
            clear hr2 hk0 hkm hbl
            go_wp2_with fail
            try simp only [List.append_eq, List.cons_append, List.nil_append]
            refine quiet_below (by kernel_rfl) (by kernel_rfl) ?_
            repeat (refine wpQuiet_step (fun K hK => ?_); go_simp; first | (refine hK _ ?_; clear hK K) | (rw [if_pos HC0.out]; first | (refine hK _ ?_; clear hK K) | (apply Exists.intro; refine ⟨fun _ => ?_, hK _ ?_⟩; (first | (refine Calls.after_of (HPATH.out _)) | (refine Calls.after_same (HNOW.out _))); clear hK K)) | (apply Exists.intro; refine ⟨fun _ => ?_, hK _ ?_⟩; (first | (refine Calls.after_of (HPATH.out _)) | (refine Calls.after_same (HNOW.out _))); clear hK K))
            refine wpQuiet_nil ?_
            intro _ hw'
            obtain ⟨p, hw''⟩ := hw'
            subst hw''
            have wsum : IntKind.i64.wrap ((usedM (R.take k) : Int) + (fl : Int)) = (usedM (R.take k) : Int) + (fl : Int) := IntWalk.i64_in _ (by have := HTB.out k; omega)
            have z1 := y1 p
            clear y0 y1 y2 yk
            go_wp2_with fail
            go_roundw
            case rel => exact ⟨k + 1, by omega, by go_num, by rw [used_take1 HRK.out, HF.out]; simp [HFL.out], HB7.out.trans (p.h.mono HB7.out.size)⟩
            case measure => simp [intOf]; omega
    · obtain rfl : k = n := by omega
      have huse : usedM (R.take k) = usedM R := by rw [List.take_of_length_le (by rw [HRL.out, HN.out]; exact Nat.le_refl _)]
      rw [huse]
      have hus0 := HUB.out
      obtain ⟨us, hus⟩ : ∃ x, usedM R = x := ⟨_, rfl⟩
      rw [hus] at hus0 HKEPT ⊢
      have HUS := Lib.hid hus
      obtain ⟨ul, hul⟩ : ∃ x, c.users.length = x := ⟨_, rfl⟩
      have HUL := Lib.hid hul
      have hulb : ul ≤ 900000 := by rw [← hul]; exact HSM.out.users
      have HOR : Hid (0 < ul ∨ (us : Int) ≤ max room 0) := by
        rcases HKEPT.out with h1 | h1
        · exact .inl (by rw [← hul]; exact List.length_pos_iff.2 h1)
        · exact .inr (by rw [← HROOM.out]; exact h1)
      clear huse hus hul
      go_wp2_with fail
      refine (first_any wr).mono ?_
      rintro e w4 ⟨rfl, hb4⟩
      have HB4 := Lib.hid (HB.out.trans (hb4.mono HB.out.size))
      clear hb4
      go_wp2_with fail
      refine (fused_any (HAT3.out.below HB4.out)).mono ?_
      rw [HR.out, HUS.out]
      rintro e w5 ⟨rfl, rfl⟩
      go_wp2_with fail
      refine (user_any (HAT3.out.below HB4.out) (Nat.le_trans HSM.out.users (by decide)) (fun e he => Nat.le_trans (HUSR.out e he) (by decide))).mono ?_
      rintro e w6 ⟨v6, rfl, ho6, hb6⟩
      obtain ⟨A6, k6, rfl, _, _⟩ := evs_slice ho6.tmp
      have HB6 := Lib.hid (HB4.out.trans (hb6.mono HB4.out.size))
      rw [HUL.out]
      clear ho6 hb6
      by_cases h3 : 0 < ul
      · have h4 : (0 : Int) < (ul : Int) := by omega
        have h5 : decide ((0 : Int) < (ul : Int)) = true := decide_eq_true h4
        go_wp2_with fail
        go_ret
        exact ⟨rfl, HB3.out.trans (HB6.out.mono HB3.out.size)⟩
      · obtain rfl : ul = 0 := by omega
        have h1 : (us : Int) ≤ max room 0 := by
          rcases HOR.out with h | h
          · omega
          · exact h
        have H1 := Lib.hid (decide_eq_true h1)
        clear h3 h1
        go_wp2_with fail
        go_ret
        refine ⟨?_, HB3.out.trans (HB6.out.mono HB3.out.size)⟩
        show Ending.returned (Value.bool (decide ((us : Int) ≤ max room 0))) = _
        rw [H1.out]
end Go.Proofs.YtaccejlalomaaaaGreat.Tx
