/- Chapter 15: Merge, of both sides. -/
import Derived.Test.YtbejgljljjjjcaaDf7
import Derived.Test.YtbejgljljjjjcaaDf8
import Derived.Test.YtbejgljljjjjcaaDf9
import Derived.OwnWalk
set_option linter.unusedVariables false
set_option linter.unusedSimpArgs false
namespace Go.Proofs.Ytbejgljljjjjcaa.Ln
open Go.RowKit Go.Proofs.Ytbejgljljjjjcaa.Sh Go.Proofs.Ytbejgljljjjjcaa.Tx

theorem joinB_app (x y : List ByteArray) : joinB (x ++ y) = joinB x ++ joinB y := by unfold joinB; rw [List.map_append, List.flatten_append]
theorem join_spl3 (bs : List UInt8) : joinB (splT bs) = bs := by
  unfold joinB splT
  rw [List.map_map]
  conv => rhs; rw [← spl_join bs]
  congr 1
  conv => rhs; rw [← List.map_id (splL bs)]
  refine List.map_congr_left fun x _ => ?_
  exact str_toList x
def allA (l : List CkM) : List ByteArray := (l.map Ck.a).flatten
def allB (l : List CkM) : List ByteArray := (l.map Ck.b).flatten
theorem allA_app (x y : List CkM) : allA (x ++ y) = allA x ++ allA y := by unfold allA; rw [List.map_append, List.flatten_append]
theorem allB_app (x y : List CkM) : allB (x ++ y) = allB x ++ allB y := by unfold allB; rw [List.map_append, List.flatten_append]
theorem linesM_le : ∀ l : List CkM, (linesM l).length ≤ (allA l).length + (allB l).length ∧ (joinB (linesM l)).length ≤ (joinB (allA l)).length + (joinB (allB l)).length
  | [] => ⟨Nat.zero_le _, Nat.zero_le _⟩
  | c :: l => by
    have h := linesM_le l
    have e1 : linesM (c :: l) = pickL c ++ linesM l := rfl
    have e2 : allA (c :: l) = c.a ++ allA l := rfl
    have e3 : allB (c :: l) = c.b ++ allB l := rfl
    rw [e1, e2, e3, joinB_app, joinB_app, joinB_app]
    simp only [List.length_append]
    unfold pickL
    split <;> omega
theorem cLst_all (o a b : List ByteArray) : (allA (cLst o a b) = a ∨ allA (cLst o a b) = []) ∧ (allB (cLst o a b) = b ∨ allB (cLst o a b) = []) := by
  by_cases h : o.length ≤ 200 ∧ a.length ≤ 200 ∧ b.length ≤ 200
  · rw [(cErr_ok h).2]
    exact ⟨.inl (chk_cat (l := a) Ck.a (fun t => t.2.1) (fun _ _ _ => rfl) (fun _ _ h => h.2.1) rfl (kepL o a b) (0, 0, 0) (0, 0, 0) (leT.refl _) (kep_ok o a b)), .inl (chk_cat (l := b) Ck.b (fun t => t.2.2) (fun _ _ _ => rfl) (fun _ _ h => h.2.2) rfl (kepL o a b) (0, 0, 0) (0, 0, 0) (leT.refl _) (kep_ok o a b))⟩
  · rw [(cErr_no h).2]
    exact ⟨.inr rfl, .inr rfl⟩
/-- What is merged so far is not much. -/
theorem cLst_le (o a b : List ByteArray) (i : Nat) : (linesM ((cLst o a b).take i)).length ≤ a.length + b.length ∧ (joinB (linesM ((cLst o a b).take i))).length ≤ (joinB a).length + (joinB b).length := by
  have h := linesM_le ((cLst o a b).take i)
  have ha : allA (cLst o a b) = allA ((cLst o a b).take i) ++ allA ((cLst o a b).drop i) := by rw [← allA_app, List.take_append_drop]
  have hb : allB (cLst o a b) = allB ((cLst o a b).take i) ++ allB ((cLst o a b).drop i) := by rw [← allB_app, List.take_append_drop]
  have h1 := congrArg List.length ha
  have h2 := congrArg List.length hb
  have h3 := congrArg (fun l => (joinB l).length) ha
  have h4 := congrArg (fun l => (joinB l).length) hb
  simp only [joinB_app, List.length_append] at h1 h2 h3 h4
  obtain ⟨ca, cb⟩ := cLst_all o a b
  have z0 : (joinB ([] : List ByteArray)).length = 0 := rfl
  have z1 : ([] : List ByteArray).length = 0 := rfl
  rcases ca with ca | ca <;> rcases cb with cb | cb <;> rw [ca] at h1 h3 <;> rw [cb] at h2 h4 <;> constructor <;> omega
theorem take_pick {l : List CkM} {i : Nat} {c : CkM} (h : l[i]? = some c) : linesM (l.take (i + 1)) = linesM (l.take i) ++ pickL c ∧ hasC (l.take (i + 1)) = (hasC (l.take i) || c.kind == 5) := by
  have e : l.take (i + 1) = l.take i ++ [c] := by rw [List.take_add_one, h]; rfl
  rw [e, linesM_app, hasC_app]
  refine ⟨?_, ?_⟩
  · show _ ++ ([pickL c]).flatten = _
    rw [List.flatten_singleton]
  · show (_ || ((c.kind == 5) || false)) = _
    rw [Bool.or_false]
theorem hasC_take {l : List CkM} {i : Nat} {c : CkM} (h : l[i]? = some c) (hc : c.kind = 5) : hasC l = true := by
  unfold hasC
  rw [List.any_eq_true]
  exact ⟨c, List.mem_of_getElem? h, by rw [hc]; rfl⟩
def allT (o a b : List UInt8) : Bool := textB o && (textB a && textB b)
def mErrM (o a b : List UInt8) : Int := if allT o a b = true then cErr (splT o) (splT a) (splT b) else 0
def mOkM (o a b : List UInt8) : Bool := allT o a b && (decide (cErr (splT o) (splT a) (splT b) = 0) && !hasC (cLst (splT o) (splT a) (splT b)))
def mBsM (o a b : List UInt8) : List UInt8 := if mOkM o a b = true then joinB (linesM (cLst (splT o) (splT a) (splT b))) else []
def MrgP (w : World) (o a b : List UInt8) (e : Ending) (w' : World) : Prop := ∃ v, e = .returned (.tuple #[v, .bool (mOkM o a b), .int .i64 (mErrM o a b)]) ∧ OwnV 5 w' w.heap.size v ((mBsM o a b).map bv) ∧ Below w.heap.size w w'
theorem cErr_two (o a b : List ByteArray) : cErr o a b = 0 ∨ cErr o a b = 14 := by
  unfold cErr
  split
  · exact .inl rfl
  · exact .inr rfl
set_option maxRecDepth 100000 in
set_option maxHeartbeats 3200000 in
theorem rjoin_any (v : Value) (ls : List ByteArray) (w : World) (h : SlV w v (ls.map sv)) (hn : (joinB ls).length ≤ 140737488355328) : Calls Try.prog 34 #[v] w (BytesP w (joinB ls)) := by
  obtain ⟨A, c, rfl, hlc, hcm, _⟩ := h.len
  rw [List.length_map] at hlc ⊢
  have HS := Lib.hid h
  obtain ⟨l, hl⟩ : ∃ l, ls.length = l := ⟨_, rfl⟩
  rw [List.length_map, hl] at HS
  rw [hl] at hlc ⊢
  have HL := Lib.hid hl
  have HN := Lib.hid hn
  unfold maxLen at hcm
  clear h hl hn
  go_enter Try.func34, Try.ntmps34
  go_wp2_with fail
  go_loopw [3, 4] (fun v3 x wr => ∃ i : Nat, i ≤ l ∧ x = .int .i64 (i : Int) ∧ OwnV 5 wr w.heap.size v3 ((joinB (ls.take i)).map bv) ∧ Below w.heap.size w wr) (fun _ x _ => l - (intOf x).toNat)
  case atStart => exact ⟨0, Nat.zero_le _, rfl, OwnV.nil_ _ _, Below.refl _ _⟩
  case round =>
    obtain ⟨i, hi, rfl, ho, hb⟩ := hrel
    have HO := Lib.hid ho
    have HB := Lib.hid hb
    have hwz := hb.size
    clear ho hb
    have z0 : (0 : Int) ≤ (i : Int) := by omega
    by_cases hlt : i < l
    · have z1 : (i : Int) < (l : Int) := by omega
      have hil : i < ls.length := by rw [HL.out]; exact hlt
      obtain ⟨A2, c2, he, _, _, hR⟩ := (HS.out.below HB.out).len
      injection he with he1 he2 he3
      subst he1
      clear he2 he3
      rw [List.length_map] at hR
      obtain ⟨ad, rfl, hcell⟩ := texts_at hR i hil
      obtain ⟨x, hx⟩ : ∃ x, ls[i] = x := ⟨_, rfl⟩
      rw [hx] at hcell
      have HX := Lib.hid (join_next (ls := ls) (i := i) (x := x) (by rw [List.getElem?_eq_getElem hil, hx]))
      have HSM : Hid ((joinB (ls.take i)).length + x.toList.length ≤ 140737488355328) := by
        have h1 := join_le ls (i + 1)
        rw [HX.out, List.length_append] at h1
        have := HN.out
        unfold Hid
        omega
      obtain ⟨xs, hxs⟩ : ∃ xs, x.toList = xs := ⟨_, rfl⟩
      have e := str_of x
      rw [hxs] at e HX HSM
      subst e
      clear hR hil hx hxs
      go_wp2_with (at_builtin; refine append_str rfl (.tmp 11) (.tmp 15) rfl wr w.heap.size u3 _ rfl HO.out xs rfl HSM.out hwz ?_; intro v4 w4 ho4 hb4; have HO4 := Lib.hid ho4; have HB4 := Lib.hid hb4; clear ho4 hb4)
      go_roundw
      case rel => exact ⟨i + 1, by omega, by go_num, by rw [HX.out]; exact HO4.out, HB.out.trans HB4.out⟩
      case measure => simp [intOf]; omega
    · obtain rfl : i = l := by omega
      have HT : Hid (ls.take i = ls) := List.take_of_length_le (by rw [HL.out]; exact Nat.le_refl _)
      go_wp2_with fail
      go_ret
      exact ⟨_, rfl, by have := HO.out; rwa [HT.out] at this, HB.out⟩
set_option maxRecDepth 100000 in
set_option maxHeartbeats 3200000 in
theorem merge_any (v1 v2 v3 : Value) (o a b : List UInt8) (w : World) (h1 : SlV w v1 (o.map bv)) (h2 : SlV w v2 (a.map bv)) (h3 : SlV w v3 (b.map bv)) (hs : o.length ≤ 1000000 ∧ a.length ≤ 1000000 ∧ b.length ≤ 1000000) :
    Calls Try.prog 16 #[v1, v2, v3] w (MrgP w o a b) := by
  have HT1 := Lib.hid (text_any v1 o w h1)
  have HT2 := Lib.hid (text_any v2 a w h2)
  have HT3 := Lib.hid (text_any v3 b w h3)
  unfold MrgP
  by_cases ht : allT o a b = true
  · have ht' := ht
    unfold allT at ht'
    rw [Bool.and_eq_true, Bool.and_eq_true] at ht'
    obtain ⟨t1, t2, t3⟩ := ht'
    have HS1 := Lib.hid (fun W (hW : Below w.heap.size w W) => split_any v1 o W (h1.below hW) hs.1)
    have HS2 := Lib.hid (fun W (hW : Below w.heap.size w W) => split_any v2 a W (h2.below hW) hs.2.1)
    have HS3 := Lib.hid (fun W (hW : Below w.heap.size w W) => split_any v3 b W (h3.below hW) hs.2.2)
    have HJA := Lib.hid (join_spl3 a)
    have HJB := Lib.hid (join_spl3 b)
    have HSZ := Lib.hid hs
    have HSA := Lib.hid (splT_len a)
    have HSB := Lib.hid (splT_len b)
    rw [t1] at HT1
    rw [t2] at HT2
    rw [t3] at HT3
    clear t1 t2 t3 h1 h2 h3 hs
    unfold mBsM mErrM mOkM
    rw [ht, if_pos rfl, Bool.true_and]
    clear ht
    obtain ⟨so, hso⟩ : ∃ x, splT o = x := ⟨_, rfl⟩
    obtain ⟨sa, hsa⟩ : ∃ x, splT a = x := ⟨_, rfl⟩
    obtain ⟨sb, hsb⟩ : ∃ x, splT b = x := ⟨_, rfl⟩
    rw [hso] at HS1 ⊢
    rw [hsa] at HS2 HJA HSA ⊢
    rw [hsb] at HS3 HJB HSB ⊢
    clear hso hsa hsb
    obtain ⟨ce, hce⟩ : ∃ x, cErr so sa sb = x := ⟨_, rfl⟩
    obtain ⟨cl, hcl⟩ : ∃ x, cLst so sa sb = x := ⟨_, rfl⟩
    have HLE : Hid (∀ i, (linesM (cl.take i)).length ≤ sa.length + sb.length ∧ (joinB (linesM (cl.take i))).length ≤ a.length + b.length) := fun i => by
      have h := cLst_le so sa sb i
      rw [hcl, HJA.out, HJB.out] at h
      exact h
    have h14 := cErr_two so sa sb
    rw [hce] at h14
    have HCK : Hid (∀ (W : World) (x y z : Value), SlV W x (so.map sv) → SlV W y (sa.map sv) → SlV W z (sb.map sv) → Calls Try.prog 12 #[x, y, z] W fun e w' => ∃ v, e = .returned (.tuple #[v, .int .i64 ce]) ∧ OwnCk 42 w' W.heap.size v cl ∧ Below W.heap.size W w') := fun W x y z hx hy hz => by
      have h := chunks_any x y z so sa sb W hx hy hz
      unfold ChkP at h
      rw [hce, hcl] at h
      exact h
    unfold TextsPost at HS1 HS2 HS3
    rw [hce, hcl]
    obtain ⟨ok, hok⟩ : ∃ x, (decide (ce = 0) && !hasC cl) = x := ⟨_, rfl⟩
    rw [hok]
    have HOK := Lib.hid hok
    clear hce hcl hok
    go_enter Try.func16, Try.ntmps16
    go_wp2_with fail
    refine HT1.out.mono ?_
    rintro e w' ⟨rfl, rfl⟩
    go_wp2_with fail
    refine HT2.out.mono ?_
    rintro e w' ⟨rfl, rfl⟩
    go_wp2_with fail
    refine HT3.out.mono ?_
    rintro e w' ⟨rfl, rfl⟩
    go_wp2_with fail
    refine (HS1.out w (Below.refl _ _)).mono ?_
    rintro e w1 ⟨x1, rfl, ho1, hb1⟩
    have HO1 := Lib.hid ho1.slv
    have HB1 := Lib.hid hb1
    clear ho1 hb1
    go_wp2_with fail
    refine (HS2.out w1 HB1.out).mono ?_
    rintro e w2 ⟨x2, rfl, ho2, hb2⟩
    have HO1' := Lib.hid (HO1.out.below hb2)
    have HO2 := Lib.hid ho2.slv
    have HB2 := Lib.hid (HB1.out.trans (hb2.mono HB1.out.size))
    clear ho2 hb2
    go_wp2_with fail
    refine (HS3.out w2 HB2.out).mono ?_
    rintro e w3 ⟨x3, rfl, ho3, hb3⟩
    have HO1'' := Lib.hid (HO1'.out.below hb3)
    have HO2' := Lib.hid (HO2.out.below hb3)
    have HO3 := Lib.hid ho3.slv
    have HB3 := Lib.hid (HB2.out.trans (hb3.mono HB2.out.size))
    clear ho3 hb3
    go_wp2_with fail
    refine (HCK.out w3 _ _ _ HO1''.out HO2'.out HO3.out).mono ?_
    rintro e w4 ⟨cv, rfl, hown, hb4⟩
    have HCL := Lib.hid (fun W (hW : Below w4.heap.size w4 W) => hown.sl.below hW)
    have HB4 := Lib.hid (HB3.out.trans (hb4.mono HB3.out.size))
    obtain ⟨Ac, cc, rfl, hlc, hmc⟩ := hown.slice
    unfold maxLen at hmc
    clear hown hb4
    rcases h14 with rfl | rfl
    · obtain ⟨l, hl⟩ : ∃ l, cl.length = l := ⟨_, rfl⟩
      have HL := Lib.hid hl
      rw [hl] at hlc HCL
      rw [hl]
      clear hl
      go_wp2_with fail
      go_loopw [11, 42] (fun v x wr => ∃ i : Nat, i ≤ l ∧ x = .int .i64 (i : Int) ∧ hasC (cl.take i) = false ∧ OwnV 9 wr w4.heap.size v ((linesM (cl.take i)).map sv) ∧ Below w4.heap.size w4 wr) (fun _ x _ => l - (intOf x).toNat)
      case atStart => exact ⟨0, Nat.zero_le _, rfl, rfl, OwnV.nil_ _ _, Below.refl _ _⟩
      case round =>
        obtain ⟨i, hi, rfl, hnc, ho, hb⟩ := hrel
        have HNC := Lib.hid hnc
        have HO := Lib.hid ho
        have HB := Lib.hid hb
        have hwz := hb.size
        clear hnc ho hb
        have z0 : (0 : Int) ≤ (i : Int) := by omega
        by_cases hlt : i < l
        · have z1 : (i : Int) < (l : Int) := by omega
          have hil : i < cl.length := by rw [HL.out]; exact hlt
          obtain ⟨c, hc⟩ : ∃ c, cl[i]? = some c := ⟨_, List.getElem?_eq_getElem hil⟩
          obtain ⟨ad, d1, d2, d3, rfl, k0, k1, k2, k3, s1, s2, s3⟩ := (HCL.out wr HB.out).at_ i c hc
          have HTP := Lib.hid (take_pick hc)
          have HHC := Lib.hid (hasC_take hc)
          have hle := HLE.out (i + 1)
          have HSZ2 := HSZ.out
          have HSA2 := HSA.out
          have HSB2 := HSB.out
          obtain ⟨kd, co, ca, cb⟩ := c
          simp only at k0 s1 s2 s3 HTP HHC
          obtain ⟨D1, e1, rfl, _, hm1, _⟩ := s1.len
          obtain ⟨D2, e2, rfl, _, hm2, _⟩ := s2.len
          obtain ⟨D3, e3, rfl, _, hm3, _⟩ := s3.len
          rw [List.length_map] at s1 s2 s3 k1 k2 k3
          clear hil hc
          by_cases h5 : kd = 5
          · subst h5
            have HH := Lib.hid (HHC.out rfl)
            obtain rfl : ok = false := by rw [← HOK.out, HH.out]; rfl
            go_wp2_with fail
            go_ret3
            exact ⟨_, rfl, OwnV.nil_ _ _, HB4.out.trans ((HB.out.alloc hwz _).mono HB4.out.size)⟩
          · have n5 : ((kd : Int) == 5) = false := beq_eq_false_iff_ne.2 (by omega)
            have m5 : ¬ (kd : Int) = 5 := by omega
            have HN2 : Hid (hasC (cl.take (i + 1)) = false) := by unfold Hid; rw [HTP.out.2, HNC.out, beq_eq_false_iff_ne.2 h5]; rfl
            rw [HTP.out.1] at hle
            by_cases h3 : kd = 3
            · subst h3
              have hpk : pickL (⟨3, co, ca, cb⟩ : CkM) = cb := rfl
              rw [hpk] at hle HTP
              have HLX := Lib.hid hle
              have HTQ := Lib.hid HTP.out.1
              rw [List.length_append] at hle
              clear hpk HTP HHC
              obtain ⟨A9, c9, he9, _, _, hR9⟩ := s3.len
              injection he9 with f1 f2 f3
              subst f1 f3
              clear f2
              rw [List.length_map] at hR9
              have HR9 := Lib.hid hR9
              have hsm : (linesM (cl.take i)).length + cb.length ≤ 2000000 := by omega
              clear hR9 s1 s2 s3
              have HOF : Hid (∀ o, OwnV 9 (wr.alloc o) w4.heap.size u11 ((linesM (cl.take i)).map sv)) := fun o => HO.out.below ((Below.refl _ _).alloc (Nat.le_refl _) o)
              have HRF := Lib.hid (fun (o : Obj) => HR9.out.below ((Below.refl wr.heap.size wr).alloc (Nat.le_refl _) o))
              have HBF : Hid (∀ o, Below w4.heap.size w4 (wr.alloc o)) := fun o => HB.out.alloc hwz o
              go_wp2_with (at_builtin; refine append_texts rfl (.tmp 56) (.tmp 58) rfl _ w4.heap.size u11 _ rfl (HOF.out _) _ _ _ _ cb rfl (HRF.out _) hsm (HBF.out _).size ?_; intro v9 w9 ho9 hb9; have HO9 := Lib.hid ho9; have HB9 := Lib.hid ((HBF.out _).trans hb9); clear ho9 hb9)
              go_roundw
              case rel => exact ⟨i + 1, by omega, by go_num, HN2.out, by rw [HTQ.out]; exact HO9.out, HB9.out⟩
              case measure => simp [intOf]; omega
            · have n3 : ((kd : Int) == 3) = false := beq_eq_false_iff_ne.2 (by omega)
              have m3 : ¬ (kd : Int) = 3 := by omega
              have hpk : pickL (⟨kd, co, ca, cb⟩ : CkM) = ca := if_neg h3
              rw [hpk] at hle HTP
              have HTQ := Lib.hid HTP.out.1
              rw [List.length_append] at hle
              clear hpk HTP HHC
              obtain ⟨A9, c9, he9, _, _, hR9⟩ := s2.len
              injection he9 with f1 f2 f3
              subst f1 f3
              clear f2
              rw [List.length_map] at hR9
              have HR9 := Lib.hid hR9
              have hsm : (linesM (cl.take i)).length + ca.length ≤ 2000000 := by omega
              clear hR9 s1 s2 s3
              have HOF : Hid (∀ o, OwnV 9 (wr.alloc o) w4.heap.size u11 ((linesM (cl.take i)).map sv)) := fun o => HO.out.below ((Below.refl _ _).alloc (Nat.le_refl _) o)
              have HRF := Lib.hid (fun (o : Obj) => HR9.out.below ((Below.refl wr.heap.size wr).alloc (Nat.le_refl _) o))
              have HBF : Hid (∀ o, Below w4.heap.size w4 (wr.alloc o)) := fun o => HB.out.alloc hwz o
              go_wp2_with (at_builtin; refine append_texts rfl (.tmp 48) (.tmp 50) rfl _ w4.heap.size u11 _ rfl (HOF.out _) _ _ _ _ ca rfl (HRF.out _) hsm (HBF.out _).size ?_; intro v9 w9 ho9 hb9; have HO9 := Lib.hid ho9; have HB9 := Lib.hid ((HBF.out _).trans hb9); clear ho9 hb9)
              go_roundw
              case rel => exact ⟨i + 1, by omega, by go_num, HN2.out, by rw [HTQ.out]; exact HO9.out, HB9.out⟩
              case measure => simp [intOf]; omega
        · obtain rfl : i = l := by omega
          have htk : cl.take i = cl := List.take_of_length_le (by rw [HL.out]; exact Nat.le_refl _)
          have hle := HLE.out i
          rw [htk] at HNC HO hle
          have z1 : ¬ (i : Int) < (i : Int) := by omega
          have HSZ2 := HSZ.out
          obtain rfl : ok = true := by rw [← HOK.out, HNC.out]; rfl
          have HJ : Hid (Calls Try.prog 31 #[u11] wr (BytesP wr (joinB (linesM cl)))) := join_any _ (linesM cl) wr HO.out.slv (by omega)
          unfold BytesP at HJ
          go_wp2_with fail
          refine HJ.out.mono ?_
          rintro e w7 ⟨v7, rfl, ho7, hb7⟩
          have HO7 := Lib.hid (ho7.base (Nat.le_trans HB4.out.size hwz))
          have HB7 := Lib.hid (HB4.out.trans ((HB.out.trans (hb7.mono HB.out.size)).mono HB4.out.size))
          clear ho7 hb7
          go_wp2_with fail
          go_ret3
          exact ⟨_, rfl, HO7.out, HB7.out⟩
    · obtain rfl : ok = false := by rw [← HOK.out]; rfl
      go_wp2_with fail
      go_ret3
      exact ⟨_, rfl, OwnV.nil_ _ _, HB4.out⟩
  · have hf : allT o a b = false := by cases h : allT o a b with | true => exact absurd h ht | false => rfl
    unfold mBsM mErrM mOkM
    rw [hf, Bool.false_and, if_neg (by decide), if_neg (by decide)]
    unfold allT at hf
    clear ht h1 h2 h3 hs
    cases t1 : textB o with
    | false =>
      rw [t1] at HT1
      go_enter Try.func16, Try.ntmps16
      go_wp2_with fail
      refine HT1.out.mono ?_
      rintro e w' ⟨rfl, rfl⟩
      go_wp2_with fail
      go_ret3
      exact ⟨_, rfl, OwnV.nil_ _ _, Below.refl _ _⟩
    | true =>
      cases t2 : textB a with
      | false =>
        rw [t1] at HT1
        rw [t2] at HT2
        go_enter Try.func16, Try.ntmps16
        go_wp2_with fail
        refine HT1.out.mono ?_
        rintro e w' ⟨rfl, rfl⟩
        go_wp2_with fail
        refine HT2.out.mono ?_
        rintro e w' ⟨rfl, rfl⟩
        go_wp2_with fail
        go_ret3
        exact ⟨_, rfl, OwnV.nil_ _ _, Below.refl _ _⟩
      | true =>
        have t3 : textB b = false := by rw [t1, t2] at hf; exact hf
        rw [t1] at HT1
        rw [t2] at HT2
        rw [t3] at HT3
        go_enter Try.func16, Try.ntmps16
        go_wp2_with fail
        refine HT1.out.mono ?_
        rintro e w' ⟨rfl, rfl⟩
        go_wp2_with fail
        refine HT2.out.mono ?_
        rintro e w' ⟨rfl, rfl⟩
        go_wp2_with fail
        refine HT3.out.mono ?_
        rintro e w' ⟨rfl, rfl⟩
        go_wp2_with fail
        go_ret3
        exact ⟨_, rfl, OwnV.nil_ _ _, Below.refl _ _⟩
set_option maxRecDepth 100000 in
set_option maxHeartbeats 3200000 in
theorem rmerge_any (v1 v2 v3 : Value) (o a b : List UInt8) (w : World) (h1 : SlV w v1 (o.map bv)) (h2 : SlV w v2 (a.map bv)) (h3 : SlV w v3 (b.map bv)) (hs : o.length ≤ 1000000 ∧ a.length ≤ 1000000 ∧ b.length ≤ 1000000) :
    Calls Try.prog 17 #[v1, v2, v3] w (MrgP w o a b) := by
  have HT1 := Lib.hid (rtext_any v1 o w h1)
  have HT2 := Lib.hid (rtext_any v2 a w h2)
  have HT3 := Lib.hid (rtext_any v3 b w h3)
  unfold MrgP
  by_cases ht : allT o a b = true
  · have ht' := ht
    unfold allT at ht'
    rw [Bool.and_eq_true, Bool.and_eq_true] at ht'
    obtain ⟨t1, t2, t3⟩ := ht'
    have HS1 := Lib.hid (fun W (hW : Below w.heap.size w W) => rsplit_any14 v1 o W (h1.below hW) hs.1)
    have HS2 := Lib.hid (fun W (hW : Below w.heap.size w W) => rsplit_any14 v2 a W (h2.below hW) hs.2.1)
    have HS3 := Lib.hid (fun W (hW : Below w.heap.size w W) => rsplit_any14 v3 b W (h3.below hW) hs.2.2)
    have HJA := Lib.hid (join_spl3 a)
    have HJB := Lib.hid (join_spl3 b)
    have HSZ := Lib.hid hs
    have HSA := Lib.hid (splT_len a)
    have HSB := Lib.hid (splT_len b)
    rw [t1] at HT1
    rw [t2] at HT2
    rw [t3] at HT3
    clear t1 t2 t3 h1 h2 h3 hs
    unfold mBsM mErrM mOkM
    rw [ht, if_pos rfl, Bool.true_and]
    clear ht
    obtain ⟨so, hso⟩ : ∃ x, splT o = x := ⟨_, rfl⟩
    obtain ⟨sa, hsa⟩ : ∃ x, splT a = x := ⟨_, rfl⟩
    obtain ⟨sb, hsb⟩ : ∃ x, splT b = x := ⟨_, rfl⟩
    rw [hso] at HS1 ⊢
    rw [hsa] at HS2 HJA HSA ⊢
    rw [hsb] at HS3 HJB HSB ⊢
    clear hso hsa hsb
    obtain ⟨ce, hce⟩ : ∃ x, cErr so sa sb = x := ⟨_, rfl⟩
    obtain ⟨cl, hcl⟩ : ∃ x, cLst so sa sb = x := ⟨_, rfl⟩
    have HLE : Hid (∀ i, (linesM (cl.take i)).length ≤ sa.length + sb.length ∧ (joinB (linesM (cl.take i))).length ≤ a.length + b.length) := fun i => by
      have h := cLst_le so sa sb i
      rw [hcl, HJA.out, HJB.out] at h
      exact h
    have h14 := cErr_two so sa sb
    rw [hce] at h14
    have HCK : Hid (∀ (W : World) (x y z : Value), SlV W x (so.map sv) → SlV W y (sa.map sv) → SlV W z (sb.map sv) → Calls Try.prog 13 #[x, y, z] W fun e w' => ∃ v, e = .returned (.tuple #[v, .int .i64 ce]) ∧ OwnCk 62 w' W.heap.size v cl ∧ Below W.heap.size W w') := fun W x y z hx hy hz => by
      have h := rchunks_any x y z so sa sb W hx hy hz
      unfold ChkP at h
      rw [hce, hcl] at h
      exact h
    unfold TextsPost at HS1 HS2 HS3
    rw [hce, hcl]
    obtain ⟨ok, hok⟩ : ∃ x, (decide (ce = 0) && !hasC cl) = x := ⟨_, rfl⟩
    rw [hok]
    have HOK := Lib.hid hok
    clear hce hcl hok
    go_enter Try.func17, Try.ntmps17
    go_wp2_with fail
    refine HT1.out.mono ?_
    rintro e w' ⟨rfl, rfl⟩
    go_wp2_with fail
    refine HT2.out.mono ?_
    rintro e w' ⟨rfl, rfl⟩
    go_wp2_with fail
    refine HT3.out.mono ?_
    rintro e w' ⟨rfl, rfl⟩
    go_wp2_with fail
    refine (HS1.out w (Below.refl _ _)).mono ?_
    rintro e w1 ⟨x1, rfl, ho1, hb1⟩
    have HO1 := Lib.hid ho1.slv
    have HB1 := Lib.hid hb1
    clear ho1 hb1
    go_wp2_with fail
    refine (HS2.out w1 HB1.out).mono ?_
    rintro e w2 ⟨x2, rfl, ho2, hb2⟩
    have HO1' := Lib.hid (HO1.out.below hb2)
    have HO2 := Lib.hid ho2.slv
    have HB2 := Lib.hid (HB1.out.trans (hb2.mono HB1.out.size))
    clear ho2 hb2
    go_wp2_with fail
    refine (HS3.out w2 HB2.out).mono ?_
    rintro e w3 ⟨x3, rfl, ho3, hb3⟩
    have HO1'' := Lib.hid (HO1'.out.below hb3)
    have HO2' := Lib.hid (HO2.out.below hb3)
    have HO3 := Lib.hid ho3.slv
    have HB3 := Lib.hid (HB2.out.trans (hb3.mono HB2.out.size))
    clear ho3 hb3
    go_wp2_with fail
    refine (HCK.out w3 _ _ _ HO1''.out HO2'.out HO3.out).mono ?_
    rintro e w4 ⟨cv, rfl, hown, hb4⟩
    have HCL := Lib.hid (fun W (hW : Below w4.heap.size w4 W) => hown.sl.below hW)
    have HB4 := Lib.hid (HB3.out.trans (hb4.mono HB3.out.size))
    obtain ⟨Ac, cc, rfl, hlc, hmc⟩ := hown.slice
    unfold maxLen at hmc
    clear hown hb4
    rcases h14 with rfl | rfl
    · obtain ⟨l, hl⟩ : ∃ l, cl.length = l := ⟨_, rfl⟩
      have HL := Lib.hid hl
      rw [hl] at hlc HCL
      rw [hl]
      clear hl
      go_wp2_with fail
      go_loopw [11, 12] (fun v x wr => ∃ i : Nat, i ≤ l ∧ x = .int .i64 (i : Int) ∧ hasC (cl.take i) = false ∧ OwnV 5 wr w4.heap.size v ((joinB (linesM (cl.take i))).map bv) ∧ Below w4.heap.size w4 wr) (fun _ x _ => l - (intOf x).toNat)
      case atStart => exact ⟨0, Nat.zero_le _, rfl, rfl, OwnV.nil_ _ _, Below.refl _ _⟩
      case round =>
        obtain ⟨i, hi, rfl, hnc, ho, hb⟩ := hrel
        have HNC := Lib.hid hnc
        have HO := Lib.hid ho
        have HB := Lib.hid hb
        have hwz := hb.size
        clear hnc ho hb
        have z0 : (0 : Int) ≤ (i : Int) := by omega
        by_cases hlt : i < l
        · have z1 : (i : Int) < (l : Int) := by omega
          have hil : i < cl.length := by rw [HL.out]; exact hlt
          obtain ⟨c, hc⟩ : ∃ c, cl[i]? = some c := ⟨_, List.getElem?_eq_getElem hil⟩
          obtain ⟨ad, d1, d2, d3, rfl, k0, k1, k2, k3, s1, s2, s3⟩ := (HCL.out wr HB.out).at_ i c hc
          have HTP := Lib.hid (take_pick hc)
          have HHC := Lib.hid (hasC_take hc)
          have hle := HLE.out (i + 1)
          have HSZ2 := HSZ.out
          have HSA2 := HSA.out
          have HSB2 := HSB.out
          obtain ⟨kd, co, ca, cb⟩ := c
          simp only at k0 s1 s2 s3 HTP HHC
          obtain ⟨D1, e1, rfl, _, hm1, _⟩ := s1.len
          obtain ⟨D2, e2, rfl, _, hm2, _⟩ := s2.len
          obtain ⟨D3, e3, rfl, _, hm3, _⟩ := s3.len
          rw [List.length_map] at s1 s2 s3 k1 k2 k3
          clear hil hc
          by_cases h5 : kd = 5
          · subst h5
            have HH := Lib.hid (HHC.out rfl)
            obtain rfl : ok = false := by rw [← HOK.out, HH.out]; rfl
            go_wp2_with fail
            go_ret3
            exact ⟨_, rfl, OwnV.nil_ _ _, HB4.out.trans (HB.out.mono HB4.out.size)⟩
          · have n5 : ((kd : Int) == 5) = false := beq_eq_false_iff_ne.2 (by omega)
            have m5 : ¬ (kd : Int) = 5 := by omega
            have HN2 : Hid (hasC (cl.take (i + 1)) = false) := by unfold Hid; rw [HTP.out.2, HNC.out, beq_eq_false_iff_ne.2 h5]; rfl
            rw [HTP.out.1] at hle
            by_cases h3 : kd = 3
            · subst h3
              have hpk : pickL (⟨3, co, ca, cb⟩ : CkM) = cb := rfl
              rw [hpk] at hle HTP
              have HLX := Lib.hid hle
              have HTQ := Lib.hid HTP.out.1
              rw [List.length_append] at hle
              clear hpk HTP HHC
              have hjn : (joinB cb).length ≤ 140737488355328 := by have h := hle.2; rw [joinB_app, List.length_append] at h; omega
              have hsm : (joinB (linesM (cl.take i))).length + (joinB cb).length ≤ 140737488355328 := by have h := hle.2; rw [joinB_app, List.length_append] at h; omega
              have HJ : Hid (Calls Try.prog 34 #[(.slice D3 cb.length e3)] wr (BytesP wr (joinB cb))) := rjoin_any _ cb wr s3 hjn
              unfold BytesP at HJ
              clear s1 s2 s3
              go_wp2_with fail
              refine HJ.out.mono ?_
              rintro e w7 ⟨v7, rfl, ho7, hb7⟩
              obtain ⟨A9, c9, rfl, _, _, hR9⟩ := ho7.slv.len
              rw [List.length_map] at hR9
              have HR9 := Lib.hid hR9
              have HO7 := Lib.hid (HO.out.below hb7)
              have HB7 := Lib.hid (HB.out.trans (hb7.mono HB.out.size))
              have hwz7 := HB7.out.size
              rw [List.length_map]
              clear ho7 hb7 hR9
              go_wp2_with (at_builtin; refine append_bytes rfl (.tmp 62) (.tmp 68) rfl w7 w4.heap.size u11 _ rfl HO7.out _ _ _ _ (joinB cb) rfl HR9.out hsm hwz7 ?_; intro v9 w9 ho9 hb9; have HO9 := Lib.hid ho9; have HB9 := Lib.hid (HB7.out.trans hb9); clear ho9 hb9)
              go_roundw
              case rel => exact ⟨i + 1, by omega, by go_num, HN2.out, by rw [HTQ.out, joinB_app]; exact HO9.out, HB9.out⟩
              case measure => simp [intOf]; omega
            · have n3 : ((kd : Int) == 3) = false := beq_eq_false_iff_ne.2 (by omega)
              have m3 : ¬ (kd : Int) = 3 := by omega
              have hpk : pickL (⟨kd, co, ca, cb⟩ : CkM) = ca := if_neg h3
              rw [hpk] at hle HTP
              have HTQ := Lib.hid HTP.out.1
              rw [List.length_append] at hle
              clear hpk HTP HHC
              have hjn : (joinB ca).length ≤ 140737488355328 := by have h := hle.2; rw [joinB_app, List.length_append] at h; omega
              have hsm : (joinB (linesM (cl.take i))).length + (joinB ca).length ≤ 140737488355328 := by have h := hle.2; rw [joinB_app, List.length_append] at h; omega
              have HJ : Hid (Calls Try.prog 34 #[(.slice D2 ca.length e2)] wr (BytesP wr (joinB ca))) := rjoin_any _ ca wr s2 hjn
              unfold BytesP at HJ
              clear s1 s2 s3
              go_wp2_with fail
              refine HJ.out.mono ?_
              rintro e w7 ⟨v7, rfl, ho7, hb7⟩
              obtain ⟨A9, c9, rfl, _, _, hR9⟩ := ho7.slv.len
              rw [List.length_map] at hR9
              have HR9 := Lib.hid hR9
              have HO7 := Lib.hid (HO.out.below hb7)
              have HB7 := Lib.hid (HB.out.trans (hb7.mono HB.out.size))
              have hwz7 := HB7.out.size
              rw [List.length_map]
              clear ho7 hb7 hR9
              go_wp2_with (at_builtin; refine append_bytes rfl (.tmp 50) (.tmp 56) rfl w7 w4.heap.size u11 _ rfl HO7.out _ _ _ _ (joinB ca) rfl HR9.out hsm hwz7 ?_; intro v9 w9 ho9 hb9; have HO9 := Lib.hid ho9; have HB9 := Lib.hid (HB7.out.trans hb9); clear ho9 hb9)
              go_roundw
              case rel => exact ⟨i + 1, by omega, by go_num, HN2.out, by rw [HTQ.out, joinB_app]; exact HO9.out, HB9.out⟩
              case measure => simp [intOf]; omega
        · obtain rfl : i = l := by omega
          have htk : cl.take i = cl := List.take_of_length_le (by rw [HL.out]; exact Nat.le_refl _)
          have hle := HLE.out i
          rw [htk] at HNC HO hle
          have z1 : ¬ (i : Int) < (i : Int) := by omega
          have HSZ2 := HSZ.out
          obtain rfl : ok = true := by rw [← HOK.out, HNC.out]; rfl
          go_wp2_with fail
          go_ret3
          exact ⟨_, rfl, HO.out.base HB4.out.size, HB4.out.trans (HB.out.mono HB4.out.size)⟩
    · obtain rfl : ok = false := by rw [← HOK.out]; rfl
      go_wp2_with fail
      go_ret3
      exact ⟨_, rfl, OwnV.nil_ _ _, HB4.out⟩
  · have hf : allT o a b = false := by cases h : allT o a b with | true => exact absurd h ht | false => rfl
    unfold mBsM mErrM mOkM
    rw [hf, Bool.false_and, if_neg (by decide), if_neg (by decide)]
    unfold allT at hf
    clear ht h1 h2 h3 hs
    cases t1 : textB o with
    | false =>
      rw [t1] at HT1
      go_enter Try.func17, Try.ntmps17
      go_wp2_with fail
      refine HT1.out.mono ?_
      rintro e w' ⟨rfl, rfl⟩
      go_wp2_with fail
      go_ret3
      exact ⟨_, rfl, OwnV.nil_ _ _, Below.refl _ _⟩
    | true =>
      cases t2 : textB a with
      | false =>
        rw [t1] at HT1
        rw [t2] at HT2
        go_enter Try.func17, Try.ntmps17
        go_wp2_with fail
        refine HT1.out.mono ?_
        rintro e w' ⟨rfl, rfl⟩
        go_wp2_with fail
        refine HT2.out.mono ?_
        rintro e w' ⟨rfl, rfl⟩
        go_wp2_with fail
        go_ret3
        exact ⟨_, rfl, OwnV.nil_ _ _, Below.refl _ _⟩
      | true =>
        have t3 : textB b = false := by rw [t1, t2] at hf; exact hf
        rw [t1] at HT1
        rw [t2] at HT2
        rw [t3] at HT3
        go_enter Try.func17, Try.ntmps17
        go_wp2_with fail
        refine HT1.out.mono ?_
        rintro e w' ⟨rfl, rfl⟩
        go_wp2_with fail
        refine HT2.out.mono ?_
        rintro e w' ⟨rfl, rfl⟩
        go_wp2_with fail
        refine HT3.out.mono ?_
        rintro e w' ⟨rfl, rfl⟩
        go_wp2_with fail
        go_ret3
        exact ⟨_, rfl, OwnV.nil_ _ _, Below.refl _ _⟩
end Go.Proofs.Ytbejgljljjjjcaa.Ln
