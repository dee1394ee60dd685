/- Chapter 14: Patch, the document's. -/
import Derived.Test.YtchoklhadnoidaaLnG
set_option linter.unusedVariables false
set_option linter.unusedSimpArgs false
namespace Go.Proofs.Ytchoklhadnoidaa.Ln
open Go.RowKit Go.Proofs.Ytchoklhadnoidaa.Sh Go.Proofs.Ytchoklhadnoidaa.Tx

set_option maxRecDepth 100000 in
set_option maxHeartbeats 3200000 in
theorem rpatch_any (v1 v2 : Value) (a : List ByteArray) (l : List EdI) (w : World) (h1 : SlV w v1 (a.map sv)) (h2 : SlEd w v2 l) (hw : ∀ e ∈ l, WfE e) (ha : a.length + insN l ≤ 100000) :
    Calls Try.prog 27 #[v1, v2] w (PatP w a l) := by
  have H1 := Lib.hid h1
  have H2 := Lib.hid h2
  have HA := Lib.hid ha
  have HW := Lib.hid hw
  unfold PatP
  obtain ⟨A1, c1, rfl, hl1, hm1, _⟩ := h1.len
  obtain ⟨A2, c2, rfl, hl2, hm2⟩ := h2.slice
  rw [List.length_map] at H1 hl1 ⊢
  unfold maxLen at hm1 hm2
  obtain ⟨m, hm⟩ : ∃ m, a.length = m := ⟨_, rfl⟩
  obtain ⟨n, hn⟩ : ∃ n, l.length = n := ⟨_, rfl⟩
  have hm100 : m ≤ 100000 := by omega
  obtain ⟨pe, hpe⟩ : ∃ e, pErr a l = e := ⟨_, rfl⟩
  obtain ⟨pr, hpr⟩ : ∃ r, pRes a l = r := ⟨_, rfl⟩
  have HPE := Lib.hid hpe
  have HPR := Lib.hid hpr
  rw [hpe, hpr]
  unfold pErr at HPE
  unfold pRes at HPR
  rw [hm] at HPE HPR H1 hl1 HA ⊢
  rw [hn] at H2 hl2 ⊢
  have HM := Lib.hid hm
  have HN := Lib.hid hn
  clear h1 h2 hm hn ha hw hpe hpr
  go_enter Try.func27, Try.ntmps27
  go_wp2_with fail
  go_loopw [6, 7, 8] (fun v x y wr => ∃ (i k : Nat) (P : List ByteArray), k ≤ n ∧ i ≤ m ∧ x = .int .i64 (i : Int) ∧ y = .int .i64 (k : Int) ∧ okI m 0 l = okI m i (l.drop k) ∧ patI a 0 l = P ++ patI a i (l.drop k) ∧ P.length ≤ i + insN (l.take k) ∧ OwnV 9 wr w.heap.size v (P.map sv) ∧ Below w.heap.size w wr) (fun _ _ y _ => n - (intOf y).toNat)
  case atStart => exact ⟨0, 0, [], Nat.zero_le _, Nat.zero_le _, rfl, rfl, rfl, rfl, by simp, OwnV.nil_ _ _, Below.refl _ _⟩
  case round =>
    obtain ⟨i, k, P, hk, hi, rfl, rfl, hok, hp, hpl, ho, hb⟩ := hrel
    have HB := Lib.hid hb
    have HO := Lib.hid ho
    have HK := Lib.hid hok
    have HP := Lib.hid hp
    have HPL := Lib.hid hpl
    have HZ := Lib.hid hb.size
    clear hb ho hok hp hpl
    have z0 : (0 : Int) ≤ (k : Int) := by omega
    by_cases hlt : k < n
    · have z1 : (k : Int) < (n : Int) := by omega
      have hkl : k < l.length := by rw [HN.out]; exact hlt
      obtain ⟨e, he⟩ : ∃ e, l[k]? = some e := ⟨_, List.getElem?_eq_getElem hkl⟩
      obtain ⟨ad, d, rfl, hst⟩ := H2.out.stay k e he
      obtain ⟨x0, x1, x2, hsv⟩ := hst wr HB.out
      obtain ⟨Ad, cd, rfl, _⟩ := hsv.len
      have hok2 := HK.out
      rw [drop_at he, okI_cons] at hok2
      have hp2 := HP.out
      rw [drop_at he] at hp2
      have hin := insN_next he
      have hil := insN_le l (k + 1)
      obtain ⟨b1, b2, b3, b4⟩ := HW.out e (List.mem_of_getElem? he)
      obtain ⟨ea, ed, ei⟩ := e
      dsimp only at hok2 x0 x1 x2 hin hst b1 b2 b3 b4
      simp only [List.length_map] at x2 hst
      obtain ⟨el, hel⟩ : ∃ x, ei.length = x := ⟨_, rfl⟩
      rw [hel] at x2 hst hin
      have HEL := Lib.hid hel
      have hwrong : okI m 0 l = false → pe = 1 ∧ pr = [] := fun h => by
        have h1 := HPE.out
        have h2 := HPR.out
        rw [h] at h1 h2
        exact ⟨h1.symm, h2.symm⟩
      clear hel
      by_cases c3 : ea < (i : Int)
      · rw [if_neg (by omega)] at hok2
        obtain ⟨rfl, rfl⟩ := hwrong hok2
        clear hwrong hok2 hp2 hst hsv
        go_wp2_with fail
        go_ret2
        exact ⟨_, rfl, OwnV.nil_ _ _, HB.out.alloc HB.out.size _⟩
      · by_cases c4 : ea > (m : Int)
        · rw [if_neg (by omega)] at hok2
          obtain ⟨rfl, rfl⟩ := hwrong hok2
          clear hwrong hok2 hp2 hst hsv
          go_wp2_with fail
          go_ret2
          exact ⟨_, rfl, OwnV.nil_ _ _, HB.out.alloc HB.out.size _⟩
        · by_cases c5 : ed < 0
          · rw [if_neg (by omega)] at hok2
            obtain ⟨rfl, rfl⟩ := hwrong hok2
            clear hwrong hok2 hp2 hst hsv
            go_wp2_with fail
            go_ret2
            exact ⟨_, rfl, OwnV.nil_ _ _, HB.out.alloc HB.out.size _⟩
          · by_cases c6 : ed > (m : Int) - ea
            · rw [if_neg (by omega)] at hok2
              obtain ⟨rfl, rfl⟩ := hwrong hok2
              clear hwrong hok2 hp2 hst hsv
              go_wp2_with fail
              go_ret2
              exact ⟨_, rfl, OwnV.nil_ _ _, HB.out.alloc HB.out.size _⟩
            · rw [if_pos ⟨by omega, by omega, by omega⟩] at hok2
              obtain ⟨p, rfl⟩ := Int.eq_ofNat_of_zero_le (show (0 : Int) ≤ ea by omega)
              obtain ⟨q, rfl⟩ := Int.eq_ofNat_of_zero_le (show (0 : Int) ≤ ed by omega)
              have hsl : ∀ W, (Instr.slice 25 (.slice A1 m c1) (some (.int .i64 (i : Int))) (some (.int .i64 (p : Int))) none).run Try.prog W = .ok (.slice (if c1 = i then A1 else A1.map (·.add i)) (p - i) (c1 - i)) W := fun W => t_mid A1 m c1 i p _ _ rfl rfl (by omega) (by omega) W
              have hmid : ∀ W, Below w.heap.size w W → SlV W _ _ := fun W hW => slv_mid (H1.out.below hW) i p (by omega) (by rw [List.length_map, HM.out]; omega)
              obtain ⟨D, hD⟩ : ∃ D, (if c1 = i then A1 else A1.map (·.add i)) = D := ⟨_, rfl⟩
              obtain ⟨dl, hdl⟩ : ∃ x, p - i = x := ⟨_, rfl⟩
              obtain ⟨dc, hdc⟩ : ∃ x, c1 - i = x := ⟨_, rfl⟩
              simp only [hD, hdl, hdc, ← List.map_drop, ← List.map_take] at hmid hsl
              obtain ⟨I, hI⟩ : ∃ I, (a.drop i).take dl = I := ⟨_, rfl⟩
              simp only [hI] at hmid
              have hp3 : patI a 0 l = (P ++ I ++ ei) ++ patI a (p + q) (l.drop (k + 1)) := by
                rw [hp2]
                show P ++ ((a.drop i).take ((p : Int).toNat - i) ++ ei ++ patI a ((p : Int) + (q : Int)).toNat (l.drop (k + 1))) = _
                rw [show (p : Int).toNat = p by omega, show ((p : Int) + (q : Int)).toNat = p + q by omega, hdl, hI]
                simp only [List.append_assoc]
              have hIl : I.length = dl := by rw [← hI, List.length_take, List.length_drop, HM.out]; omega
              rw [show ((p : Int) + (q : Int)).toNat = p + q by omega] at hok2
              have HP3 := Lib.hid hp3
              have HK3 := Lib.hid hok2
              have HMID := Lib.hid hmid
              have HST := Lib.hid hst
              have HIL := Lib.hid hIl
              have hbig : P.length + dl + el ≤ 100000 ∧ (P ++ I ++ ei).length ≤ p + q + insN (l.take (k + 1)) := by
                have := HPL.out
                have := HA.out
                rw [List.length_append, List.length_append, hIl, HEL.out]
                omega
              have HBIG := Lib.hid hbig
              have g4 : i ≤ p := by omega
              have g5 : p + q ≤ m := by omega
              have HX := Lib.hid (Blk.new wr 50 #[.int .i64 (p : Int), .int .i64 (q : Int), .slice Ad el cd])
              have HSC : Hid (∀ W, Blk W wr.heap.size 50 #[.int .i64 (p : Int), .int .i64 (q : Int), .slice Ad el cd] → W.cell? ⟨wr.heap.size, 0, none⟩ = some (.int .i64 (p : Int)) ∧ W.cell? ⟨wr.heap.size, 1, none⟩ = some (.int .i64 (q : Int)) ∧ W.cell? ⟨wr.heap.size, 2, none⟩ = some (.slice Ad el cd)) := fun W h => ⟨h.cell 0, h.cell 1, h.cell 2⟩
              have HBA := Lib.hid (HB.out.alloc HB.out.size (.cells #[.int .i64 (p : Int), .int .i64 (q : Int), .slice Ad el cd] 50))
              have HOA := Lib.hid (HO.out.alloc (.cells #[.int .i64 (p : Int), .int .i64 (q : Int), .slice Ad el cd] 50))
              clear hkl he hsv hp2 hp3 hok2 hmid hst hIl hbig hin hil hD hdl hdc hI HPL HP HK hwrong
              go_wp2_with fail
              -- STEPS
              refine wp_region_held_drew (S := (fun W => W.cell? ⟨wr.heap.size, 0, none⟩ = some (.int .i64 (p : Int)) ∧ W.cell? ⟨wr.heap.size, 1, none⟩ = some (.int .i64 (q : Int)) ∧ W.cell? ⟨wr.heap.size, 2, none⟩ = some (.slice Ad el cd))) (by kernel_rfl) ?_ (fun hHeld => ?_)
              · try dsimp only
                exact HSC.out _ HX.out
              refine take_at (i := 0) (d := 46) (v := ?_) rfl (by kernel_rfl) (by kernel_rfl) (by kernel_rfl) (by kernel_rfl) (fun _ _ _ h => h) (Or.inl ⟨by kernel_rfl, ?_⟩) (by assumption) ?_
              rotate_left
              · intro W hSw
                try dsimp only at hSw
                go_simp
                first | done | with_reducible rfl
              try simp only [Act.put, List.setIfInBounds_toArray, List.set_cons_zero, List.set_cons_succ]
              refine take_at (i := 1) (d := 47) (v := ?_) rfl (by kernel_rfl) (by kernel_rfl) (by kernel_rfl) (by kernel_rfl) (fun _ _ _ h => h) (Or.inl ⟨by kernel_rfl, ?_⟩) (by assumption) ?_
              rotate_left
              · intro W hSw
                try dsimp only at hSw
                go_simp
                first | done | with_reducible rfl
              try simp only [Act.put, List.setIfInBounds_toArray, List.set_cons_zero, List.set_cons_succ]
              refine take_at (i := 2) (d := 48) (v := ?_) rfl (by kernel_rfl) (by kernel_rfl) (by kernel_rfl) (by kernel_rfl) (fun _ _ _ h => h) (Or.inl ⟨by kernel_rfl, ?_⟩) (by assumption) ?_
              rotate_left
              · intro W hSw
                try dsimp only at hSw
                go_simp
                first | done | with_reducible rfl
              try simp only [Act.put, List.setIfInBounds_toArray, List.set_cons_zero, List.set_cons_succ]
              refine take_at (i := 3) (d := 49) (v := ?_) rfl (by kernel_rfl) (by kernel_rfl) (by kernel_rfl) (by kernel_rfl) (fun _ _ _ h => h) (Or.inl ⟨by kernel_rfl, ?_⟩) (by assumption) ?_
              rotate_left
              · intro W hSw
                try dsimp only at hSw
                go_simp
                first | done | with_reducible rfl
              try simp only [Act.put, List.setIfInBounds_toArray, List.set_cons_zero, List.set_cons_succ]
              refine take_at (i := 4) (d := 50) (v := ?_) rfl (by kernel_rfl) (by kernel_rfl) (by kernel_rfl) (by kernel_rfl) (fun _ _ _ h => h) (Or.inl ⟨by kernel_rfl, ?_⟩) (by assumption) ?_
              rotate_left
              · intro W hSw
                try dsimp only at hSw
                obtain ⟨q0, q1, q2⟩ := hSw
                go_simp
                first | done | with_reducible rfl
              try simp only [Act.put, List.setIfInBounds_toArray, List.set_cons_zero, List.set_cons_succ]
              refine take_at (i := 5) (d := 51) (v := ?_) rfl (by kernel_rfl) (by kernel_rfl) (by kernel_rfl) (by kernel_rfl) (fun _ _ _ h => h) (Or.inl ⟨by kernel_rfl, ?_⟩) (by assumption) ?_
              rotate_left
              · intro W hSw
                try dsimp only at hSw
                go_simp
                first | done | with_reducible rfl
              try simp only [Act.put, List.setIfInBounds_toArray, List.set_cons_zero, List.set_cons_succ]
              refine take_at (i := 7) (d := 53) (v := ?_) rfl (by kernel_rfl) (by kernel_rfl) (by kernel_rfl) (by kernel_rfl) (fun _ _ _ h => h) (Or.inl ⟨by kernel_rfl, ?_⟩) (by assumption) ?_
              rotate_left
              · intro W hSw
                try dsimp only at hSw
                go_simp
                first | done | with_reducible rfl
              try simp only [Act.put, List.setIfInBounds_toArray, List.set_cons_zero, List.set_cons_succ]
              refine take_at (i := 8) (d := 54) (v := ?_) rfl (by kernel_rfl) (by kernel_rfl) (by kernel_rfl) (by kernel_rfl) (fun _ _ _ h => h) (Or.inl ⟨by kernel_rfl, ?_⟩) (by assumption) ?_
              rotate_left
              · intro W hSw
                try dsimp only at hSw
                obtain ⟨q0, q1, q2⟩ := hSw
                go_simp
                first | done | with_reducible rfl
              try simp only [Act.put, List.setIfInBounds_toArray, List.set_cons_zero, List.set_cons_succ]
              refine wpAnyH_ready (rs := [6]) (by kernel_rfl) (by simp) (AllReadyH.cons rfl (fun K hK => ?_) AllReadyH.nil)
              refine sapp_txt 52 rfl rfl (.tmp 46) (.tmp 51) rfl _ w.heap.size u6 P (by rfl) (by exact HOA.out.drew) _ D dl dc I (by rfl) (by exact (slv_reads (HMID.out _ HBA.out.drew)).1) (by have := HBIG.out.1; omega) (by exact HBA.out.drew.size) ?_
              intro v5 w5 ho5 hb5 hk5
              have HX5 := Lib.hid (hk5 _ _ _ (by decide) HX.out)
              have HB5 := Lib.hid (HBA.out.drew.trans hb5)
              have HO5 := Lib.hid ho5
              clear ho5 hb5 hk5
              try go_wp2_with fail
              refine hK.out _ _ ?_ (fun hHeld => ?_)
              · try dsimp only
                exact HSC.out _ HX5.out
              clear hK K
              try simp only [Act.put, List.setIfInBounds_toArray, List.set_cons_zero, List.set_cons_succ]
              refine wpAnyH_ready (rs := [9]) (by kernel_rfl) (by simp) (AllReadyH.cons rfl (fun K hK => ?_) AllReadyH.nil)
              refine sapp_txt 55 rfl rfl (.tmp 52) (.tmp 54) rfl _ w.heap.size v5 (P ++ I) (by rfl) (by exact HO5.out) _ Ad el cd ei (by rfl) (by exact (slv_reads ((HST.out _ HB5.out).2.2.2)).1) (by have := HBIG.out.1; have := HIL.out; rw [List.length_append]; omega) (by exact HB5.out.size) ?_
              intro v6 w6 ho6 hb6 hk6
              have HX6 := Lib.hid (hk6 _ _ _ (by decide) HX5.out)
              have HB6 := Lib.hid (HB5.out.trans hb6)
              have HO6 := Lib.hid ho6
              clear ho6 hb6 hk6
              try go_wp2_with fail
              refine hK.out _ _ ?_ (fun hHeld => ?_)
              · try dsimp only
                exact HSC.out _ HX6.out
              clear hK K
              try simp only [Act.put, List.setIfInBounds_toArray, List.set_cons_zero, List.set_cons_succ]
              refine take_at (i := 10) (d := 6) (v := ?_) rfl (by kernel_rfl) (by kernel_rfl) (by kernel_rfl) (by kernel_rfl) (fun _ _ _ h => h) (Or.inl ⟨by kernel_rfl, ?_⟩) (by assumption) ?_
              rotate_left
              · intro W hSw
                try dsimp only at hSw
                go_simp
                first | done | with_reducible rfl
              try simp only [Act.put, List.setIfInBounds_toArray, List.set_cons_zero, List.set_cons_succ]
              refine wpAnyH_done (by kernel_rfl) ?_ _
              obtain ⟨g6, g7, _⟩ := HSC.out _ HX6.out
              go_wp2_with fail
              go_roundw
              case rel => exact ⟨p + q, k + 1, P ++ I ++ ei, by omega, by omega, by go_num, by go_num, HK3.out, HP3.out, HBIG.out.2, HO6.out, HB6.out⟩
              case measure => simp [intOf]; omega
              -- END STEPS
    · obtain rfl : k = n := by omega
      have hbk : ∀ W, (Instr.slice 25 (.slice A1 m c1) (some (.int .i64 (i : Int))) none none).run Try.prog W = .ok (.slice (if c1 = i then A1 else A1.map (·.add i)) (m - i) (c1 - i)) W := fun W => t_back A1 m c1 i _ rfl hi W
      have hmid := slv_back (H1.out.below HB.out) i (by rw [List.length_map, HM.out]; exact hi)
      rw [List.length_map, HM.out] at hmid
      obtain ⟨D, hD⟩ : ∃ D, (if c1 = i then A1 else A1.map (·.add i)) = D := ⟨_, rfl⟩
      obtain ⟨dl, hdl⟩ : ∃ x, m - i = x := ⟨_, rfl⟩
      obtain ⟨dc, hdc⟩ : ∃ x, c1 - i = x := ⟨_, rfl⟩
      simp only [hD, hdl, hdc, ← List.map_drop] at hmid hbk
      have hfin := HP.out
      have hokk := HK.out
      rw [List.drop_of_length_le (by rw [HN.out]; exact Nat.le_refl _)] at hfin hokk
      have hokt : okI m 0 l = true := hokk
      have hfin2 : patI a 0 l = P ++ a.drop i := hfin
      have hpe := HPE.out
      have hpr := HPR.out
      rw [hokt, if_pos rfl] at hpe hpr
      subst hpe
      rw [hfin2] at hpr
      have HFIN := Lib.hid hpr
      have HMID := Lib.hid hmid
      have hbig : P.length + dl ≤ 100000 := by
        have h1 := HPL.out
        have h2 := HA.out
        have h3 := insN_le l k
        omega
      clear hmid hfin hfin2 hD hdl hdc hpr hokk hokt HPE HPR HK
      go_wp2_with (at_builtin; refine append_txt rfl (.tmp 61) (.tmp 64) rfl _ w.heap.size u6 P rfl HO.out _ D dl dc (a.drop i) rfl (slv_reads HMID.out).1 (by omega) (by exact HZ.out) ?_; intro v5 w5 ho5 hb5 hk5; have HB5 := Lib.hid (HB.out.trans hb5); have HO5 := Lib.hid ho5; clear ho5 hb5 hk5)
      go_ret2
      exact ⟨_, rfl, by rw [← HFIN.out]; exact HO5.out, HB5.out⟩
end Go.Proofs.Ytchoklhadnoidaa.Ln
