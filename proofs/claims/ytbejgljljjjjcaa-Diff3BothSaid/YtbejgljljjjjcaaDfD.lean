/- marlaw15: Diff3Turns. -/
import Derived.Test.YtbejgljljjjjcaaDfC
set_option linter.unusedVariables false
set_option linter.unusedSimpArgs false
namespace Go.Proofs.Ytbejgljljjjjcaa.Ln
open Go.RowKit Go.Proofs.Ytbejgljljjjjcaa.Sh Go.Proofs.Ytbejgljljjjjcaa.Tx

theorem cErr_turn (o a b : List ByteArray) : cErr o b a = cErr o a b := by
  unfold cErr
  by_cases h : o.length ≤ 200 ∧ a.length ≤ 200 ∧ b.length ≤ 200
  · rw [if_pos h, if_pos ⟨h.1, h.2.2, h.2.1⟩]
  · rw [if_neg h, if_neg (fun h' => h ⟨h'.1, h'.2.2, h'.2.1⟩)]
theorem cLst_turn (o a b : List ByteArray) : Alike (cLst o a b) (cLst o b a) := by
  unfold cLst
  by_cases h : o.length ≤ 200 ∧ a.length ≤ 200 ∧ b.length ≤ 200
  · rw [if_pos h, if_pos ⟨h.1, h.2.2, h.2.1⟩]
    have h1 := chk_turned (o := o) (a := a) (b := b) (kepL o a b) (0, 0, 0) (0, 0, 0) (leT.refl _) (RunOk.self _ _ _ _) (kep_ok o a b)
    unfold chunksL
    rw [show kepL o b a = (kepL o a b).map swT from kept_swap _ (Nat.le_refl _)]
    exact h1
  · rw [if_neg h, if_neg (fun h' => h ⟨h'.1, h'.2.2, h'.2.1⟩)]
    exact Alike.nil_
theorem turned_m (o a b : List UInt8) : mOkM o b a = mOkM o a b ∧ mErrM o b a = mErrM o a b ∧ mBsM o b a = mBsM o a b := by
  have hT : allT o b a = allT o a b := by unfold allT; rw [Bool.and_comm (textB b)]
  have hE := cErr_turn (splT o) (splT a) (splT b)
  have hL := cLst_turn (splT o) (splT a) (splT b)
  have hO : mOkM o b a = mOkM o a b := by unfold mOkM; rw [hT, hE, hL.1]
  refine ⟨hO, by unfold mErrM; rw [hT, hE], ?_⟩
  unfold mBsM
  rw [hO]
  by_cases h : mOkM o a b = true
  · rw [if_pos h, if_pos h]
    unfold mOkM at h
    rw [Bool.and_eq_true, Bool.and_eq_true] at h
    have hc : hasC (cLst (splT o) (splT a) (splT b)) = false := by
      cases hh : hasC (cLst (splT o) (splT a) (splT b)) with
      | false => rfl
      | true => rw [hh] at h; exact absurd h.2.2 (by decide)
    rw [hL.2 hc]
  · rw [if_neg h, if_neg h]
theorem all_a {l : List CkM} (h : ∀ c ∈ l, c.kind ≠ 5 ∧ pickL c = c.a) : hasC l = false ∧ linesM l = allA l := by
  constructor
  · unfold hasC
    rw [List.any_eq_false]
    intro c hc
    have := (h c hc).1
    simpa using this
  · unfold linesM allA
    rw [List.map_congr_left (fun c hc => (h c hc).2)]
theorem one_side {o a : List ByteArray} (h : o.length ≤ 200 ∧ a.length ≤ 200) : (hasC (cLst o a o) = false ∧ linesM (cLst o a o) = a) ∧ (hasC (cLst o a a) = false ∧ linesM (cLst o a a) = a) := by
  have hall : ∀ b, b.length ≤ 200 → allA (cLst o a b) = a := fun b hb => by
    rw [(cErr_ok ⟨h.1, h.2, hb⟩).2]
    exact chk_cat (l := a) Ck.a (fun t => t.2.1) (fun _ _ _ => rfl) (fun _ _ h => h.2.1) rfl (kepL o a b) (0, 0, 0) (0, 0, 0) (leT.refl _) (kep_ok o a b)
  constructor
  · have h1 : ∀ c ∈ cLst o a o, c.kind ≠ 5 ∧ pickL c = c.a := by
      rw [(cErr_ok ⟨h.1, h.2, h.1⟩).2]
      refine chk_all (o := o) (a := a) (b := o) (fun t => t.1 = t.2.2) (fun c => c.kind ≠ 5 ∧ pickL c = c.a) ?_ rfl (fun t ht => by show t.1 + 1 = t.2.2 + 1; rw [ht]) (kepL o a o) (0, 0, 0) (0, 0, 0) ?_ rfl rfl
      · intro s t hs ht
        refine ⟨⟨by show (1 : Nat) ≠ 5; omega, rfl⟩, ?_⟩
        have e : kindL (cutL o s.1 t.1) (cutL a s.2.1 t.2.1) (cutL o s.2.2 t.2.2) = 2 := by unfold kindL; rw [if_pos (by rw [hs, ht])]
        rw [e]
        exact ⟨by show (2 : Nat) ≠ 5; omega, rfl⟩
      · intro x hx
        have h2 := kept_mem _ (Nat.le_refl _) x hx
        have h3 := h2.2
        rw [prs_diag] at h3
        obtain ⟨k, _, e⟩ := List.mem_map.1 h3
        injection e with e1 e2
        rw [← e1, ← e2]
    have h2 := all_a h1
    exact ⟨h2.1, h2.2.trans (hall o h.1)⟩
  · have h1 : ∀ c ∈ cLst o a a, c.kind ≠ 5 ∧ pickL c = c.a := by
      rw [(cErr_ok ⟨h.1, h.2, h.2⟩).2]
      refine chk_all (o := o) (a := a) (b := a) (fun t => t.2.1 = t.2.2) (fun c => c.kind ≠ 5 ∧ pickL c = c.a) ?_ rfl (fun t ht => by show t.2.1 + 1 = t.2.2 + 1; rw [ht]) (kepL o a a) (0, 0, 0) (0, 0, 0) ?_ rfl rfl
      · intro s t hs ht
        refine ⟨⟨by show (1 : Nat) ≠ 5; omega, rfl⟩, ?_⟩
        have e : cutL a s.2.1 t.2.1 = cutL a s.2.2 t.2.2 := by rw [hs, ht]
        refine ⟨?_, ?_⟩
        · show kindL (cutL o s.1 t.1) (cutL a s.2.1 t.2.1) (cutL a s.2.2 t.2.2) ≠ 5
          unfold kindL
          rw [e]
          by_cases h : cutL a s.2.2 t.2.2 = cutL o s.1 t.1
          · rw [if_pos h]; omega
          · rw [if_neg h, if_neg h, if_pos rfl]; omega
        · unfold pickL pieceL
          simp only
          rw [e]
          split <;> rfl
      · intro x hx
        have h2 := kept_mem _ (Nat.le_refl _) x hx
        exact prsOk_one (prsOk_all o a) h2.1 h2.2
    have h2 := all_a h1
    exact ⟨h2.1, h2.2.trans (hall a h.2)⟩
theorem one_m {o a : List UInt8} (t1 : textB o = true) (t2 : textB a = true) (h : (splT o).length ≤ 200 ∧ (splT a).length ≤ 200) : (mOkM o a o = true ∧ mErrM o a o = 0 ∧ mBsM o a o = a) ∧ (mOkM o a a = true ∧ mErrM o a a = 0 ∧ mBsM o a a = a) := by
  have hs := one_side h
  have e1 := (cErr_ok (o := splT o) (a := splT a) (b := splT o) ⟨h.1, h.2, h.1⟩).1
  have e2 := (cErr_ok (o := splT o) (a := splT a) (b := splT a) ⟨h.1, h.2, h.2⟩).1
  have hA : ∀ b, allT o a b = textB b := fun b => by unfold allT; rw [t1, t2]; rfl
  have o1 : mOkM o a o = true := by unfold mOkM; rw [hA, t1, e1, hs.1.1]; rfl
  have o2 : mOkM o a a = true := by unfold mOkM; rw [hA, t2, e2, hs.2.1]; rfl
  refine ⟨⟨o1, by unfold mErrM; rw [hA, t1, if_pos rfl, e1], ?_⟩, ⟨o2, by unfold mErrM; rw [hA, t2, if_pos rfl, e2], ?_⟩⟩
  · unfold mBsM; rw [if_pos o1, hs.1.2, join_spl3]
  · unfold mBsM; rw [if_pos o2, hs.2.2, join_spl3]
theorem none_m {o a b : List UInt8} (h : allT o a b = false) : mOkM o a b = false ∧ mErrM o a b = 0 := by
  refine ⟨by unfold mOkM; rw [h]; rfl, by unfold mErrM; rw [h]; rfl⟩
theorem over_m {o a b : List UInt8} (t : allT o a b = true) (h : ¬ ((splT o).length ≤ 200 ∧ (splT a).length ≤ 200 ∧ (splT b).length ≤ 200)) : mOkM o a b = false ∧ mErrM o a b = 14 := by
  have e := (cErr_no h).1
  exact ⟨by unfold mOkM; rw [t, e]; rfl, by unfold mErrM; rw [t, if_pos rfl, e]⟩
theorem mBs_none {o a b : List UInt8} (h : mOkM o a b = false) : mBsM o a b = [] := by unfold mBsM; rw [h]; rfl
theorem mErr_two (o a b : List UInt8) : mErrM o a b = 0 ∨ mErrM o a b = 14 := by
  unfold mErrM
  split
  · exact cErr_two _ _ _
  · exact .inl rfl
/-- What the four merges answer. -/
structure TurnM (o a : List UInt8) (ok u v : Bool) (er eg eh : Int) (ms mp mq : List UInt8) : Prop where
  ms0 : ok = false → ms = []
  er2 : er = 0 ∨ er = 14
  way : (((textB o && textB a) = false ∧ u = false ∧ v = false ∧ eg = 0 ∧ eh = 0) ∨ ((textB o && textB a) = true ∧ eg = 14 ∧ eh = 14) ∨ ((textB o && textB a) = true ∧ u = true ∧ v = true ∧ eg = 0 ∧ eh = 0 ∧ mp = a ∧ mq = a))
theorem turn_all (o a b : List UInt8) : TurnM o a (mOkM o a b) (mOkM o a o) (mOkM o a a) (mErrM o a b) (mErrM o a o) (mErrM o a a) (mBsM o a b) (mBsM o a o) (mBsM o a a) where
  ms0 := mBs_none
  er2 := mErr_two o a b
  way := by
    have h1 : allT o a o = (textB o && textB a) := by unfold allT; cases textB o <;> cases textB a <;> rfl
    have h2 : allT o a a = (textB o && textB a) := by unfold allT; cases textB o <;> cases textB a <;> rfl
    cases ht : (textB o && textB a) with
    | false =>
      rw [ht] at h1 h2
      exact .inl ⟨rfl, (none_m h1).1, (none_m h2).1, (none_m h1).2, (none_m h2).2⟩
    | true =>
      rw [ht] at h1 h2
      by_cases hl : (splT o).length ≤ 200 ∧ (splT a).length ≤ 200
      · rw [Bool.and_eq_true] at ht
        have h := one_m ht.1 ht.2 hl
        exact .inr (.inr ⟨rfl, h.1.1, h.2.1, h.1.2.1, h.2.2.1, h.1.2.2, h.2.2.2⟩)
      · exact .inr (.inl ⟨rfl, (over_m h1 (fun h => hl ⟨h.1, h.2.1⟩)).2, (over_m h2 (fun h => hl ⟨h.1, h.2.1⟩)).2⟩)
set_option maxRecDepth 100000 in
set_option maxHeartbeats 6400000 in
theorem turns_in (v1 v2 v3 : Value) (o a b : List UInt8) (w : World) (h1 : SlV w v1 (o.map bv)) (h2 : SlV w v2 (a.map bv)) (h3 : SlV w v3 (b.map bv)) : Calls Try.prog 6 #[v1, v2, v3] w (Yes w) := by
  have H1 := Lib.hid (fun W (hW : Below w.heap.size w W) => h1.below hW)
  have H2 := Lib.hid (fun W (hW : Below w.heap.size w W) => h2.below hW)
  have H3 := Lib.hid (fun W (hW : Below w.heap.size w W) => h3.below hW)
  obtain ⟨A1, c1, rfl, _, hm1, _⟩ := h1.len
  obtain ⟨A2, c2, rfl, _, hm2, _⟩ := h2.len
  obtain ⟨A3, c3, rfl, _, hm3, _⟩ := h3.len
  simp only [List.length_map] at H1 H2 H3 hm1 hm2 hm3 ⊢
  clear h1 h2 h3
  have HF := Lib.hid (fun W => dfirst_any W)
  unfold Yes at HF
  by_cases hs : o.length ≤ 4000 ∧ a.length ≤ 4000 ∧ b.length ≤ 4000
  · have y1 : ¬ 4000 < (o.length : Int) := by omega
    have y2 : ¬ 4000 < (a.length : Int) := by omega
    have y3 : ¬ 4000 < (b.length : Int) := by omega
    have HT1 := Lib.hid (fun W (hW : Below w.heap.size w W) => text_any _ o W (H1.out W hW))
    have HT2 := Lib.hid (fun W (hW : Below w.heap.size w W) => text_any _ a W (H2.out W hW))
    have HPA : Hid (∀ W, Below w.heap.size w W → Calls Try.prog 16 #[.slice A1 o.length c1, .slice A2 a.length c2, .slice A3 b.length c3] W (MrgP W o a b)) := fun W hW => merge_any _ _ _ o a b W (H1.out W hW) (H2.out W hW) (H3.out W hW) (by omega)
    have HPB : Hid (∀ W, Below w.heap.size w W → Calls Try.prog 16 #[.slice A1 o.length c1, .slice A3 b.length c3, .slice A2 a.length c2] W (MrgP W o b a)) := fun W hW => merge_any _ _ _ o b a W (H1.out W hW) (H3.out W hW) (H2.out W hW) (by omega)
    have HPC : Hid (∀ W, Below w.heap.size w W → Calls Try.prog 16 #[.slice A1 o.length c1, .slice A2 a.length c2, .slice A1 o.length c1] W (MrgP W o a o)) := fun W hW => merge_any _ _ _ o a o W (H1.out W hW) (H2.out W hW) (H1.out W hW) (by omega)
    have HPD : Hid (∀ W, Below w.heap.size w W → Calls Try.prog 16 #[.slice A1 o.length c1, .slice A2 a.length c2, .slice A2 a.length c2] W (MrgP W o a a)) := fun W hW => merge_any _ _ _ o a a W (H1.out W hW) (H2.out W hW) (H2.out W hW) (by omega)
    unfold MrgP at HPA HPB HPC HPD
    obtain ⟨tk, te, tb⟩ := turned_m o a b
    rw [tk, te, tb] at HPB
    have hall := turn_all o a b
    obtain ⟨ok, hok⟩ : ∃ x, mOkM o a b = x := ⟨_, rfl⟩
    obtain ⟨er, her⟩ : ∃ x, mErrM o a b = x := ⟨_, rfl⟩
    obtain ⟨ms, hms⟩ : ∃ x, mBsM o a b = x := ⟨_, rfl⟩
    obtain ⟨u, hu⟩ : ∃ x, mOkM o a o = x := ⟨_, rfl⟩
    obtain ⟨eg, heg⟩ : ∃ x, mErrM o a o = x := ⟨_, rfl⟩
    obtain ⟨mp, hmp⟩ : ∃ x, mBsM o a o = x := ⟨_, rfl⟩
    obtain ⟨v, hv⟩ : ∃ x, mOkM o a a = x := ⟨_, rfl⟩
    obtain ⟨eh, heh⟩ : ∃ x, mErrM o a a = x := ⟨_, rfl⟩
    obtain ⟨mq, hmq⟩ : ∃ x, mBsM o a a = x := ⟨_, rfl⟩
    rw [hok, her, hms] at HPA HPB
    rw [hu, heg, hmp] at HPC
    rw [hv, heh, hmq] at HPD
    rw [hok, her, hms, hu, heg, hmp, hv, heh, hmq] at hall
    clear hok her hms hu heg hmp hv heh hmq tk te tb
    obtain ⟨ms0, er2, way⟩ := hall
    have MS := Lib.hid ms0
    have WAY := Lib.hid way
    clear ms0 way H1 H3
    go_enter Try.func6, Try.ntmps6
    go_wp2_with fail
    refine (HF.out w).mono ?_
    rintro e w1 ⟨rfl, hb1⟩
    have HB1 := Lib.hid hb1
    clear hb1
    go_wp2_with fail
    refine (HPA.out w1 HB1.out).mono ?_
    rintro e w2 ⟨x, rfl, ho, hb⟩
    obtain ⟨Sx, tx, rfl, _, _, _⟩ := ho.slv.len
    have HOx_2 := Lib.hid ho.slv
    have HB2 := Lib.hid (HB1.out.trans (hb.mono HB1.out.size))
    clear ho hb
    simp only [List.length_map] at HOx_2 ⊢
    go_wp2_with fail
    refine (HPB.out w2 HB2.out).mono ?_
    rintro e w3 ⟨y, rfl, ho, hb⟩
    obtain ⟨Sy, ty, rfl, _, _, _⟩ := ho.slv.len
    have HOy_3 := Lib.hid ho.slv
    have HOx_3 := Lib.hid (HOx_2.out.below hb)
    have HB3 := Lib.hid (HB2.out.trans (hb.mono HB2.out.size))
    clear ho hb
    simp only [List.length_map] at HOy_3 ⊢
    have HYB : Hid (Calls Try.prog 18 #[.slice Sx ms.length tx, .slice Sy ms.length ty] w3 fun e w' => e = .returned (.bool (ms == ms)) ∧ w3 = w') := bytes_any _ _ ms ms w3 HOx_3.out HOy_3.out
    rw [beq_self_eq_true] at HYB
    go_upto_region 7 with (fail)
    go_cut [76] from 52 to 76 (fun cv wx => cv = .bool false ∧ w3 = wx)
    case first =>
      cases ok with
      | true =>
        rcases er2 with rfl | rfl <;>
        · go_wp2_with fail
          refine HYB.out.mono ?_
          rintro e w' ⟨rfl, rfl⟩
          go_wp2_with fail
          go_meet
          exact ⟨rfl, rfl⟩
      | false =>
        obtain rfl := MS.out rfl
        rcases er2 with rfl | rfl <;>
        · go_wp2_with fail
          refine HYB.out.mono ?_
          rintro e w' ⟨rfl, rfl⟩
          go_wp2_with fail
          go_meet
          exact ⟨rfl, rfl⟩
    case rest =>
      obtain ⟨rfl, rfl⟩ := hcut
      clear MS HYB er2
      rcases WAY.out with ⟨ht, rfl, rfl, rfl, rfl⟩ | ⟨ht, rfl, rfl⟩ | ⟨ht, rfl, rfl, rfl, rfl, hmp, hmq⟩
      · as_aux_lemma =>
          cases t1 : textB o with
          | false =>
            rw [t1] at HT1
            go_wp2_with fail
            refine (HT1.out w3 HB3.out).mono ?_
            rintro e w' ⟨rfl, rfl⟩
            go_wp2_with fail
            refine (HPC.out w3 HB3.out).mono ?_
            rintro e w4 ⟨p, rfl, ho, hb⟩
            obtain ⟨Sp, tp, rfl, _, _, _⟩ := ho.slv.len
            have HOp_4 := Lib.hid ho.slv
            have HB4 := Lib.hid (HB3.out.trans (hb.mono HB3.out.size))
            clear ho hb
            simp only [List.length_map] at HOp_4 ⊢
            go_wp2_with fail
            refine (HPD.out w4 HB4.out).mono ?_
            rintro e w5 ⟨q, rfl, ho, hb⟩
            obtain ⟨Sq, tq, rfl, _, _, _⟩ := ho.slv.len
            have HOq_5 := Lib.hid ho.slv
            have HOp_5 := Lib.hid (HOp_4.out.below hb)
            have HB5 := Lib.hid (HB4.out.trans (hb.mono HB4.out.size))
            clear ho hb
            simp only [List.length_map] at HOq_5 ⊢
            go_wp2_with fail
            refine (HF.out w5).mono ?_
            rintro e w6 ⟨rfl, hb⟩
            have HB6 := Lib.hid (HB5.out.trans (hb.mono HB5.out.size))
            have HOp_6 := Lib.hid (HOp_5.out.below hb)
            have HOq_6 := Lib.hid (HOq_5.out.below hb)
            clear hb
            go_wp2_with fail
            go_ret
            exact ⟨rfl, HB6.out⟩
          | true =>
            have t2 : textB a = false := by rw [t1] at ht; exact ht
            rw [t1] at HT1
            rw [t2] at HT2
            go_wp2_with fail
            refine (HT1.out w3 HB3.out).mono ?_
            rintro e w' ⟨rfl, rfl⟩
            go_wp2_with fail
            refine (HT2.out w3 HB3.out).mono ?_
            rintro e w' ⟨rfl, rfl⟩
            go_wp2_with fail
            refine (HPC.out w3 HB3.out).mono ?_
            rintro e w4 ⟨p, rfl, ho, hb⟩
            obtain ⟨Sp, tp, rfl, _, _, _⟩ := ho.slv.len
            have HOp_4 := Lib.hid ho.slv
            have HB4 := Lib.hid (HB3.out.trans (hb.mono HB3.out.size))
            clear ho hb
            simp only [List.length_map] at HOp_4 ⊢
            go_wp2_with fail
            refine (HPD.out w4 HB4.out).mono ?_
            rintro e w5 ⟨q, rfl, ho, hb⟩
            obtain ⟨Sq, tq, rfl, _, _, _⟩ := ho.slv.len
            have HOq_5 := Lib.hid ho.slv
            have HOp_5 := Lib.hid (HOp_4.out.below hb)
            have HB5 := Lib.hid (HB4.out.trans (hb.mono HB4.out.size))
            clear ho hb
            simp only [List.length_map] at HOq_5 ⊢
            go_wp2_with fail
            refine (HF.out w5).mono ?_
            rintro e w6 ⟨rfl, hb⟩
            have HB6 := Lib.hid (HB5.out.trans (hb.mono HB5.out.size))
            have HOp_6 := Lib.hid (HOp_5.out.below hb)
            have HOq_6 := Lib.hid (HOq_5.out.below hb)
            clear hb
            go_wp2_with fail
            go_ret
            exact ⟨rfl, HB6.out⟩
      · as_aux_lemma =>
          rw [Bool.and_eq_true] at ht
          rw [ht.1] at HT1
          rw [ht.2] at HT2
          clear ht
          go_wp2_with fail
          refine (HT1.out w3 HB3.out).mono ?_
          rintro e w' ⟨rfl, rfl⟩
          go_wp2_with fail
          refine (HT2.out w3 HB3.out).mono ?_
          rintro e w' ⟨rfl, rfl⟩
          go_wp2_with fail
          refine (HPC.out w3 HB3.out).mono ?_
          rintro e w4 ⟨p, rfl, ho, hb⟩
          obtain ⟨Sp, tp, rfl, _, _, _⟩ := ho.slv.len
          have HOp_4 := Lib.hid ho.slv
          have HB4 := Lib.hid (HB3.out.trans (hb.mono HB3.out.size))
          clear ho hb
          simp only [List.length_map] at HOp_4 ⊢
          go_wp2_with fail
          refine (HPD.out w4 HB4.out).mono ?_
          rintro e w5 ⟨q, rfl, ho, hb⟩
          obtain ⟨Sq, tq, rfl, _, _, _⟩ := ho.slv.len
          have HOq_5 := Lib.hid ho.slv
          have HOp_5 := Lib.hid (HOp_4.out.below hb)
          have HB5 := Lib.hid (HB4.out.trans (hb.mono HB4.out.size))
          clear ho hb
          simp only [List.length_map] at HOq_5 ⊢
          go_wp2_with fail
          refine (HF.out w5).mono ?_
          rintro e w6 ⟨rfl, hb⟩
          have HB6 := Lib.hid (HB5.out.trans (hb.mono HB5.out.size))
          have HOp_6 := Lib.hid (HOp_5.out.below hb)
          have HOq_6 := Lib.hid (HOq_5.out.below hb)
          clear hb
          go_wp2_with fail
          go_ret
          exact ⟨rfl, HB6.out⟩
      · as_aux_lemma =>
          replace hmp := hmp.symm
          replace hmq := hmq.symm
          subst hmp
          subst hmq
          rw [Bool.and_eq_true] at ht
          rw [ht.1] at HT1
          rw [ht.2] at HT2
          clear ht
          go_wp2_with fail
          refine (HT1.out w3 HB3.out).mono ?_
          rintro e w' ⟨rfl, rfl⟩
          go_wp2_with fail
          refine (HT2.out w3 HB3.out).mono ?_
          rintro e w' ⟨rfl, rfl⟩
          go_wp2_with fail
          refine (HPC.out w3 HB3.out).mono ?_
          rintro e w4 ⟨p, rfl, ho, hb⟩
          obtain ⟨Sp, tp, rfl, _, _, _⟩ := ho.slv.len
          have HOp_4 := Lib.hid ho.slv
          have HB4 := Lib.hid (HB3.out.trans (hb.mono HB3.out.size))
          clear ho hb
          simp only [List.length_map] at HOp_4 ⊢
          go_wp2_with fail
          refine (HPD.out w4 HB4.out).mono ?_
          rintro e w5 ⟨q, rfl, ho, hb⟩
          obtain ⟨Sq, tq, rfl, _, _, _⟩ := ho.slv.len
          have HOq_5 := Lib.hid ho.slv
          have HOp_5 := Lib.hid (HOp_4.out.below hb)
          have HB5 := Lib.hid (HB4.out.trans (hb.mono HB4.out.size))
          clear ho hb
          simp only [List.length_map] at HOq_5 ⊢
          go_wp2_with fail
          refine (HF.out w5).mono ?_
          rintro e w6 ⟨rfl, hb⟩
          have HB6 := Lib.hid (HB5.out.trans (hb.mono HB5.out.size))
          have HOp_6 := Lib.hid (HOp_5.out.below hb)
          have HOq_6 := Lib.hid (HOq_5.out.below hb)
          clear hb
          have HYp : Hid (Calls Try.prog 18 #[.slice Sp a.length tp, .slice A2 a.length c2] w6 fun e w' => e = .returned (.bool (a == a)) ∧ w6 = w') := bytes_any _ _ a a w6 HOp_6.out (H2.out w6 HB6.out)
          rw [beq_self_eq_true] at HYp
          have HYq : Hid (Calls Try.prog 18 #[.slice Sq a.length tq, .slice A2 a.length c2] w6 fun e w' => e = .returned (.bool (a == a)) ∧ w6 = w') := bytes_any _ _ a a w6 HOq_6.out (H2.out w6 HB6.out)
          rw [beq_self_eq_true] at HYq
          go_wp2_with fail
          refine HYp.out.mono ?_
          rintro e w' ⟨rfl, rfl⟩
          go_wp2_with fail
          refine HYq.out.mono ?_
          rintro e w' ⟨rfl, rfl⟩
          go_wp2_with fail
          go_ret
          exact ⟨rfl, HB6.out⟩
  · go_enter Try.func6, Try.ntmps6
    go_wp2_with fail
    refine (HF.out w).mono ?_
    rintro e w1 ⟨rfl, hb1⟩
    have HB1 := Lib.hid hb1
    clear hb1
    by_cases y1 : 4000 < (o.length : Int)
    · go_wp2_with fail
      refine (HF.out w1).mono ?_
      rintro e w2 ⟨rfl, hb2⟩
      have HB2 := Lib.hid (HB1.out.trans (hb2.mono HB1.out.size))
      go_wp2_with fail
      go_ret
      exact ⟨rfl, HB2.out⟩
    · by_cases y2 : 4000 < (a.length : Int)
      · go_wp2_with fail
        refine (HF.out w1).mono ?_
        rintro e w2 ⟨rfl, hb2⟩
        have HB2 := Lib.hid (HB1.out.trans (hb2.mono HB1.out.size))
        go_wp2_with fail
        go_ret
        exact ⟨rfl, HB2.out⟩
      · have y3 : 4000 < (b.length : Int) := by omega
        go_wp2_with fail
        refine (HF.out w1).mono ?_
        rintro e w2 ⟨rfl, hb2⟩
        have HB2 := Lib.hid (HB1.out.trans (hb2.mono HB1.out.size))
        go_wp2_with fail
        go_ret
        exact ⟨rfl, HB2.out⟩
theorem diff3Turns_walk (a0 : Option Addr) (len0 cap0 : Nat) (z0 : List Int) (a1 : Option Addr) (len1 cap1 : Nat) (z1 : List Int) (a2 : Option Addr) (len2 cap2 : Nat) (z2 : List Int) (w : World) (w0 : IsRow .u8 w a0 len0 cap0 z0) (w1 : IsRow .u8 w a1 len1 cap1 z1) (w2 : IsRow .u8 w a2 len2 cap2 z2) : Calls Try.prog 6 #[.slice a0 len0 cap0, .slice a1 len1 cap1, .slice a2 len2 cap2] w (Yes w) := by
  obtain ⟨o, _, h0⟩ := w0.bytes
  obtain ⟨a, _, h1⟩ := w1.bytes
  obtain ⟨b, _, h2⟩ := w2.bytes
  exact turns_in _ _ _ o a b w h0 h1 h2
end Go.Proofs.Ytbejgljljjjjcaa.Ln
