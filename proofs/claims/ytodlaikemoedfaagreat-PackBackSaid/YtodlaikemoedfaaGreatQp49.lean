/- Texts put together: YPkT. -/
import Derived.Test.YtodlaikemoedfaaGreatQp48
import Derived.Test.YtodlaikemoedfaaGreatQp35
/- The walk of PackBack. -/
set_option linter.unusedVariables false
set_option linter.unusedSimpArgs false
namespace Go.Proofs.YtodlaikemoedfaaGreat.Ob
open Go.RowKit Go.Proofs.YtodlaikemoedfaaGreat.Sh
open Go.Proofs.YtodlaikemoedfaaGreat.Tx (Shape InL TmpL OwnL Typed Only By Rd Datas list_appendL step_appendL)

theorem ents_all (l : List (List UInt8)) : (entsP l l.length).map (fun e => e.data) = l := by
  apply List.ext_getElem?
  intro k
  rw [List.getElem?_map]
  by_cases hk : k < l.length
  · rw [ents_at l l.length k hk, List.getElem?_eq_getElem hk]
    show some (l.getD k []) = _
    rw [List.getD_eq_getElem?_getD, List.getElem?_eq_getElem hk]; rfl
  · rw [List.getElem?_eq_none (by rw [ents_length]; omega), List.getElem?_eq_none (by omega)]; rfl
set_option maxRecDepth 100000 in
set_option maxHeartbeats 6400000 in
theorem back_any (v : Value) (l : List (List UInt8)) (w : World) (h : LsV w v l) : Calls Tryz.prog 5 #[v] w (YesP w) := by
  have HFW := Lib.hid (fun W (hW : Below w.heap.size w W) => pfew_any v l W (h.below hW))
  have HWR := Lib.hid (fun W (hW : Below w.heap.size w W) (hl : l.length ≤ 40) => write_any v l W (h.below hW) (by omega))
  have HL := Lib.hid h
  obtain ⟨A, c, rfl, hlc, hcm⟩ := h.slice
  unfold maxLen at hcm
  obtain ⟨n, hn⟩ : ∃ n, l.length = n := ⟨_, rfl⟩
  rw [hn] at HFW HWR HL hlc ⊢
  have HN := Lib.hid hn
  clear h hn
  go_enter Tryz.func5, Tryz.ntmps5
  go_wp2_with fail
  refine (first_any w).mono ?_
  rintro e w1 ⟨rfl, hb1⟩
  have HB1 := Lib.hid hb1
  clear hb1
  go_wp2_with fail
  refine (HFW.out w1 HB1.out).mono ?_
  rintro e w2 ⟨t, rfl, htf, hb2⟩
  have HB2 := Lib.hid (HB1.out.trans (hb2.mono HB1.out.size))
  have HTF := Lib.hid htf
  clear hb2 htf
  cases t with
  | false =>
    go_wp2_with fail
    refine (first_then HB2.out HB2.out.size).mono ?_
    rintro e w3 ⟨rfl, hb3⟩
    have HB3 := Lib.hid hb3
    clear hb3
    go_wp2_with fail
    go_ret
    exact ⟨rfl, HB3.out⟩
  | true =>
    obtain ⟨h40, h15⟩ := HTF.out rfl
    have H15 := Lib.hid h15
    rw [HN.out] at h40
    clear h15
    go_wp2_with fail
    refine (HWR.out w2 HB2.out h40).mono ?_
    rintro e w3 ⟨A3, m3, c3, rfl, hb3, ho3⟩
    have HB3 := Lib.hid (HB2.out.trans (hb3.mono HB2.out.size))
    obtain ⟨r, hr⟩ : ∃ r, (writeP l).1 = r := ⟨_, rfl⟩
    obtain ⟨W, hW⟩ : ∃ W, (writeP l).2 = W := ⟨_, rfl⟩
    rw [hr]
    rw [hW] at ho3
    have e9 : m3 = W.length := by
      obtain ⟨_, _, e, _⟩ := ho3.length
      injection e
    subst e9
    have HO3 := Lib.hid ho3
    clear hb3 ho3
    rcases write_cases l with ⟨_, e⟩ | ⟨_, _, e⟩ | ⟨_, _, _, e⟩ | ⟨g1, g2, g3, e⟩
    · rw [e] at hr hW
      subst hr hW
      go_wp2_with fail
      refine (first_then HB3.out HB3.out.size).mono ?_
      rintro e w4 ⟨rfl, hb4⟩
      have HB4 := Lib.hid hb4
      clear hb4
      go_wp2_with fail
      go_ret
      exact ⟨rfl, HB4.out⟩
    · rw [e] at hr hW
      subst hr hW
      go_wp2_with fail
      refine (first_then HB3.out HB3.out.size).mono ?_
      rintro e w4 ⟨rfl, hb4⟩
      have HB4 := Lib.hid hb4
      clear hb4
      go_wp2_with fail
      go_ret
      exact ⟨rfl, HB4.out⟩
    · rw [e] at hr hW
      subst hr hW
      go_wp2_with fail
      refine (first_then HB3.out HB3.out.size).mono ?_
      rintro e w4 ⟨rfl, hb4⟩
      have HB4 := Lib.hid hb4
      clear hb4
      go_wp2_with fail
      go_ret
      exact ⟨rfl, HB4.out⟩
    · rw [e] at hr hW
      have hrd := read_write l (fun _ => none) g2 g3 g1
      have hsz := small_one l H15.out (by rw [HN.out]; exact h40)
      have hsum : sumN l l.length ≤ 1500 * l.length := by
        have hs : ∀ i, i ≤ l.length → sumN l i ≤ 1500 * i := by
          intro i
          induction i with
          | zero => intro _; exact Nat.le_refl _
          | succ i ih =>
            intro hi
            have h1 := ih (by omega)
            have h2 : (l.getD i []).length ≤ 1500 := H15.out _ (by rw [List.getD_eq_getElem?_getD, List.getElem?_eq_getElem (by omega)]; exact List.getElem_mem _)
            show sumN l i + (l.getD i []).length ≤ _
            omega
        exact hs _ (Nat.le_refl _)
      have hW1 : W.length ≤ 1000000 := by rw [← hW]; show ((writesP l l.length).1 ++ sumOf (writesP l l.length).1).length ≤ _; omega
      have hrdW : readP W (fun _ => none) = (0, entsP l l.length) := by rw [← hW]; exact hrd
      rw [HN.out] at hrdW
      have hEL : (entsP l n).length = n := ents_length l n
      have HPA := Lib.hid (fun W2 (hs : Sl W2 (.slice A3 W.length c3) W) => parse_any (in_none hs hW1) ⟨_, _, _, rfl⟩ (by rw [hrdW]; show (entsP l n).length ≤ _; omega))
      have HIX := Lib.hid (fun W2 (hs : Sl W2 (.slice A3 W.length c3) W) => index_any (in_none hs hW1) ⟨_, _, _, rfl⟩ (by rw [hrdW]; show (entsP l n).length ≤ _; omega) (by
        rw [hrdW]
        intro e he
        obtain ⟨j, hj, e2⟩ := List.getElem_of_mem he
        have h9 := ents_at l n j (by rw [← hEL]; exact hj)
        rw [List.getElem?_eq_getElem hj] at h9
        injection h9 with h9
        rw [← e2, h9]
        show (l.getD j []).length ≤ _
        have := g2 (l.getD j []) (by rw [List.getD_eq_getElem?_getD, List.getElem?_eq_getElem (by rw [HN.out, ← hEL]; exact hj)]; exact List.getElem_mem _)
        omega))
      rw [hrdW] at HPA HIX
      have hea := ents_all l
      rw [HN.out] at hea
      unfold ParsePost at HPA
      unfold IndexPost at HIX
      simp only [if_true, hea, hEL, HN.out] at HPA HIX
      have hr0 : r = 0 := hr.symm
      have HSW := Lib.hid HO3.out.sl
      have HG2 := Lib.hid g2
      have HR0 := Lib.hid hr0
      clear hr hW hrd hsz hsum hrdW hea e hEL g1 g2 g3
      subst hr0
      obtain ⟨wl, hwl⟩ : ∃ x, W.length = x := ⟨_, rfl⟩
      rw [hwl] at HPA HIX HSW ⊢
      clear hwl hW1
      go_wp2_with fail
      refine (HPA.out w3 HSW.out).mono ?_
      rintro e w4 ⟨A4, c4, rfl, hb4, hx⟩
      have HB4 := Lib.hid (HB3.out.trans (hb4.mono HB3.out.size))
      have HX := Lib.hid hx
      have HSW4 := Lib.hid (HSW.out.below hb4)
      clear hb4 hx
      go_wp2_with fail
      refine (HIX.out w4 HSW4.out).mono ?_
      rintro e w5 ⟨A5, c5, rfl, hb5, hrw⟩
      have HB5 := Lib.hid (HB4.out.trans (hb5.mono HB4.out.size))
      have HX5 := Lib.hid (HX.out.below hb5)
      have HRW := Lib.hid hrw
      have HL5 := Lib.hid (HL.out.below HB5.out)
      clear hb5 hrw
      have zb : ((n : Int) != (n : Int)) = false := bne_self_eq_false _
      go_wp2_with fail
      refine (lists_any _ _ l w5 HX5.out HL5.out).mono ?_
      rintro e w6 ⟨rfl, hb6⟩
      have HB6 := Lib.hid (HB5.out.trans (hb6.mono HB5.out.size))
      have HRW6 := Lib.hid (HRW.out.below hb6)
      have HL6 := Lib.hid (HL5.out.below hb6)
      clear hb6
      go_wp2_with fail
      go_loopw [10] (fun x wr => ∃ (i : Nat), i ≤ n ∧ x = .int .i64 (i : Int) ∧ Below w6.heap.size w6 wr) (fun x _ => n - (intOf x).toNat)
      case atStart => exact ⟨0, Nat.zero_le _, rfl, Below.refl _ _⟩
      case round =>
        obtain ⟨i, hi, rfl, hb⟩ := hrel
        have HBR := Lib.hid hb
        clear hb
        have z0 : (0 : Int) ≤ (i : Int) := by omega
        by_cases hlt : i < n
        · have z1 : (i : Int) < (n : Int) := by omega
          have hen := ents_at l n i hlt
          obtain ⟨ad, rfl, x0, x1, x2⟩ := HRW6.out.at_ i _ hen
          have hgi : l[i]? = some (l.getD i []) := by rw [List.getD_eq_getElem?_getD, List.getElem?_eq_getElem (by rw [HN.out]; exact hlt)]; rfl
          obtain ⟨al, A7, c7, rfl, x3, _, _, hs7⟩ := HL6.out.at_ i _ hgi
          have hdep : (putP l (writesP l i).2 i).2 ≤ 8 := put_depth l _ i
          have hpl : 4 ≤ (writesP l i).1.length := place_four l i
          have hol : (l.getD i []).length ≤ 20000 := HG2.out _ (List.mem_of_getElem? hgi)
          obtain ⟨o, ho⟩ : ∃ o, l.getD i [] = o := ⟨_, rfl⟩
          obtain ⟨pl, hple⟩ : ∃ q, (writesP l i).1.length = q := ⟨_, rfl⟩
          obtain ⟨dp, hdpe⟩ : ∃ q, (putP l (writesP l i).2 i).2 = q := ⟨_, rfl⟩
          rw [ho] at x0 x3 hs7 hol
          rw [hple] at x1 hpl
          rw [hdpe] at x2 hdep
          obtain ⟨S, hS⟩ : ∃ S, str (hexL (sumOf o)) = S := ⟨_, rfl⟩
          have x0' : w6.cell? (ad.add (i * 3)) = some (.string S) := by rw [← hS]; exact x0
          have HID : Hid (∀ p : Aft wr, Calls Tryz.prog 20 #[.slice A7 o.length c7] p.w' fun e w' => e = .returned (.string S) ∧ Below p.w'.heap.size p.w' w') := fun p => (id_any _ o p.w' (hs7.below (HBR.out.trans (p.h.mono HBR.out.size))) (by omega)).mono (fun e w' ⟨he, hb⟩ => ⟨he.trans (by rw [hS]), hb⟩)
          have zS : (S.toList == S.toList) = true := beq_self_eq_true _
          obtain ⟨ol, hol2⟩ : ∃ q, o.length = q := ⟨_, rfl⟩
          rw [hol2] at x3 HID
          have y0 : ∀ p : Aft wr, p.w'.cell? (ad.add (i * 3)) = some (.string S) := fun p => ((HBR.out.trans (p.h.mono HBR.out.size)).cell (World.block_lt_of_cell? w6 _ x0')).trans x0'
          have y1 : ∀ p : Aft wr, p.w'.cell? ⟨(ad.add (i * 3)).block, (ad.add (i * 3)).off + 1, none⟩ = some (.int .i64 (pl : Int)) := fun p => ((HBR.out.trans (p.h.mono HBR.out.size)).cell (World.block_lt_of_cell? w6 _ x1)).trans x1
          have y2 : ∀ p : Aft wr, p.w'.cell? ⟨(ad.add (i * 3)).block, (ad.add (i * 3)).off + 2, none⟩ = some (.int .i64 (dp : Int)) := fun p => ((HBR.out.trans (p.h.mono HBR.out.size)).cell (World.block_lt_of_cell? w6 _ x2)).trans x2
          have y3 : ∀ p : Aft wr, p.w'.cell? (al.add i) = some (.slice A7 ol c7) := fun p => ((HBR.out.trans (p.h.mono HBR.out.size)).cell (World.block_lt_of_cell? w6 _ x3)).trans x3
          have z2 : (0 : Int) ≤ (dp : Int) := by omega
          have z3 : (dp : Int) ≤ 8 := by omega
          have z4 : (4 : Int) ≤ (pl : Int) := by omega
          have HPLE := Lib.hid hple
          clear hen hgi hs7 hdep hpl hol ho hple hdpe hS x0 x0' x1 x2 x3 hol2
          by_cases h0i : i = 0
          · have HC0 : Hid (¬ 0 < i) := by unfold Hid; omega
            have y4 : True := trivial
            clear h0i
            go_wp2_with fail
            refine aft_quiet (by kernel_rfl) (by kernel_rfl) ?_
            repeat (refine wpQuiet_step (fun K hK => ?_); go_simp; first | (refine hK _ ?_; clear hK K) | (rw [if_neg HC0.out]; refine hK _ ?_; clear hK K) | (apply Exists.intro; refine ⟨fun _ => ?_, hK _ ?_⟩; (first | (refine Calls.aft_of (HID.out _))); clear hK K))
            refine wpQuiet_nil ?_
            intro _ hw'
            obtain ⟨p, hw''⟩ := hw'
            subst hw''
            have HBP := Lib.hid (HBR.out.trans (p.h.mono HBR.out.size))
            clear y0 y1 y2 y3 y4
            generalize p.w' = wl at *
            go_wp2_with fail
            go_roundw
            case rel => exact ⟨i + 1, by omega, by go_num, HBP.out⟩
            case measure => simp [intOf]; omega
          · obtain ⟨j, hj2⟩ : ∃ j, i = j + 1 := ⟨i - 1, by omega⟩
            have zj : (i : Int) - 1 = (j : Int) := by omega
            have HC0 : Hid (0 < i) := by unfold Hid; omega
            have hwj : IntKind.i64.wrap (j : Int) = (j : Int) := by rw [IntKind.wrap_i64]; omega
            have hen := ents_at l n j (by omega)
            obtain ⟨ad', e9, _, x4, _⟩ := HRW6.out.at_ j _ hen
            injection e9 with e9
            subst e9
            have hrise := places_rise l j
            rw [← hj2, HPLE.out] at hrise
            obtain ⟨pj, hpj⟩ : ∃ q, (writesP l j).1.length = q := ⟨_, rfl⟩
            rw [hpj] at hrise
            have x4' : w6.cell? ⟨(ad.add (j * 3)).block, (ad.add (j * 3)).off + 1, none⟩ = some (.int .i64 (pj : Int)) := by rw [← hpj]; exact x4
            have y4 : ∀ p : Aft wr, p.w'.cell? ⟨(ad.add (j * 3)).block, (ad.add (j * 3)).off + 1, none⟩ = some (.int .i64 (pj : Int)) := fun p => ((HBR.out.trans (p.h.mono HBR.out.size)).cell (World.block_lt_of_cell? w6 _ x4')).trans x4'
            have z7 : (pj : Int) < (pl : Int) := by omega
            have z8 : (0 : Int) ≤ (j : Int) := by omega
            have z9 : (j : Int) < (n : Int) := by omega
            clear hen x4 x4' hrise hpj HPLE hj2 h0i
            go_wp2_with fail
            refine aft_quiet (by kernel_rfl) (by kernel_rfl) ?_
            repeat (refine wpQuiet_step (fun K hK => ?_); go_simp; first | (refine hK _ ?_; clear hK K) | (rw [if_pos HC0.out]; refine hK _ ?_; clear hK K) | (rw [if_pos HC0.out]; go_simp; refine hK _ ?_; clear hK K) | (apply Exists.intro; refine ⟨fun _ => ?_, hK _ ?_⟩; (first | (refine Calls.aft_of (HID.out _))); clear hK K))
            refine wpQuiet_nil ?_
            intro _ hw'
            obtain ⟨p, hw''⟩ := hw'
            subst hw''
            have HBP := Lib.hid (HBR.out.trans (p.h.mono HBR.out.size))
            clear y0 y1 y2 y3 y4
            generalize p.w' = wl at *
            go_wp2_with fail
            go_roundw
            case rel => exact ⟨i + 1, by omega, by go_num, HBP.out⟩
            case measure => simp [intOf]; omega
        · obtain rfl : i = n := by omega
          go_wp2_with fail
          refine (first_then (HB6.out.trans (HBR.out.mono HB6.out.size)) (HB6.out.trans (HBR.out.mono HB6.out.size)).size).mono ?_
          rintro e w7 ⟨rfl, hb7⟩
          have HB7 := Lib.hid hb7
          clear hb7
          go_wp2_with fail
          go_ret
          exact ⟨rfl, HB7.out⟩
end Go.Proofs.YtodlaikemoedfaaGreat.Ob
