/- Chapter 14: Patch, the program's. -/
import Derived.Test.YtchoklhadnoidaaLnC
import Derived.Test.YtchoklhadnoidaaLnS
set_option linter.unusedVariables false
set_option linter.unusedSimpArgs false
namespace Go.Proofs.Ytchoklhadnoidaa.Ln
open Go.RowKit Go.Proofs.Ytchoklhadnoidaa.Sh Go.Proofs.Ytchoklhadnoidaa.Tx

/-- An edit's numbers are numbers. -/
def WfE (e : EdI) : Prop := -9223372036854775808 ≤ e.at_ ∧ e.at_ ≤ 9223372036854775807 ∧ -9223372036854775808 ≤ e.del ∧ e.del ≤ 9223372036854775807
/-- May the edits be done, from i on, on m lines? -/
def okI (m : Nat) : Nat → List EdI → Bool
  | _, [] => true
  | i, e :: l => if (i : Int) ≤ e.at_ ∧ 0 ≤ e.del ∧ e.del ≤ (m : Int) - e.at_ then okI m (e.at_ + e.del).toNat l else false
/-- All done. -/
def patI (a : List ByteArray) : Nat → List EdI → List ByteArray
  | i, [] => a.drop i
  | i, e :: l => (a.drop i).take (e.at_.toNat - i) ++ e.ins ++ patI a (e.at_ + e.del).toNat l
def insN (l : List EdI) : Nat := (l.map fun e => e.ins.length).sum
theorem insN_next {l : List EdI} {k : Nat} {e : EdI} (h : l[k]? = some e) : insN (l.take (k + 1)) = insN (l.take k) + e.ins.length := by
  unfold insN
  rw [List.take_add_one, h, List.map_append, List.sum_append]
  simp
theorem insN_le (l : List EdI) (k : Nat) : insN (l.take k) ≤ insN l := by
  have h : insN l = insN (l.take k) + insN (l.drop k) := by
    unfold insN
    rw [← List.sum_append, ← List.map_append, List.take_append_drop]
  omega
theorem drop_at {α : Type} {l : List α} {k : Nat} {e : α} (h : l[k]? = some e) : l.drop k = e :: l.drop (k + 1) := by
  have hk := (List.getElem?_eq_some_iff.1 h).1
  rw [List.drop_eq_getElem_cons hk]
  rw [List.getElem?_eq_getElem hk] at h
  injection h with h
  rw [h]
theorem okI_cons (m i : Nat) (e : EdI) (l : List EdI) : okI m i (e :: l) = if (i : Int) ≤ e.at_ ∧ 0 ≤ e.del ∧ e.del ≤ (m : Int) - e.at_ then okI m (e.at_ + e.del).toNat l else false := rfl
/-- append of texts: what lies elsewhere stays. -/
theorem append_txt {ops : Array Oper} {rest : List Oper} {o : Oper} {a : Act} {Q : Exit → Act → World → Prop} (hgd : o.guard = none) (s x : Operand)
    (ho : o.op = .call { callee := .builtin .append, args := #[s, x], argTypes := #[25, 25] }) (w : World) (B : Nat) (v : Value) (ts : List ByteArray) (hs : a.eval s = v) (hown : OwnV 9 w B v (ts.map sv))
    (B' : Nat) (A : Option Addr) (m c : Nat) (us : List ByteArray) (hx : a.eval x = .slice A m c) (hr : Reads w B' 1 A m (us.map sv)) (hsmall : ts.length + m ≤ 2000000) (hB : B ≤ w.heap.size)
    (h : ∀ v' w', OwnV 9 w' B v' ((ts ++ us).map sv) → Below B w w' → (∀ (g : Nat) (cs : Array Value) (E : TypeId), E ≠ 9 → Blk w g E cs → Blk w' g E cs) → wpList Try.prog ops Q rest (a.put o.dst v') w') : wpList Try.prog ops Q (o :: rest) a w := by
  obtain ⟨i0, hi, hz0, hz1, hz2⟩ := info_parts info_str
  have hm : us.length = m := by have := hr.1; simpa using this
  have hown' : w.ownsRow B 9 1 v ts.length (ts.map sv) := by have := hown; unfold OwnV at this; rwa [List.length_map] at this
  refine wpList_append_any w hgd s x 25 ho B 9 i0 (.string ⟨#[]⟩) 1 16 Try.underlying25 hi hz0 hz1 hz2 rfl (by decide) v ts.length _ hs hown' B' A m c _ hx hr (sv_one us) (by unfold maxLen; omega) (by omega) hB ?_
  intro v' w' h1 h2 _
  refine h v' w' ?_ ((Below.refl _ _).grown h2 hB (fun k hk => (hown'.lt k hk).1)) (fun g cs E hE hg => hg.grown h2 (fun e => ?_))
  · unfold OwnV
    rw [List.length_map, List.length_append, hm, List.map_append]
    exact h1
  · rcases hown.blk with ⟨rfl, _⟩ | ⟨g', c', cur', rfl, _, _, hg', _⟩
    · simp [Value.ownBlock] at e
    · have e' : g = g' := by simpa [Value.ownBlock] using e
      subst e'
      exact Blk.ne_ hg hg' hE rfl
theorem slv_reads {w : World} {A : Option Addr} {n c : Nat} {xs : List ByteArray} (h : SlV w (.slice A n c) (xs.map sv)) : Reads w w.heap.size 1 A n (xs.map sv) ∧ xs.length = n := by
  obtain ⟨A', c', he, _, _, hr⟩ := h.len
  injection he with e1 e2 e3
  subst e1
  rw [← e2] at hr
  rw [List.length_map] at e2
  exact ⟨hr, e2.symm⟩
set_option maxRecDepth 100000 in
set_option maxHeartbeats 3200000 in
theorem fit_any (v : Value) (l : List EdI) (m : Nat) (w : World) (h : SlEd w v l) (hw : ∀ e ∈ l, WfE e) (hm : m ≤ 100000) : Calls Try.prog 33 #[v, .int .i64 (m : Int)] w fun e w' => e = .returned (.bool (okI m 0 l)) ∧ Below w.heap.size w w' := by
  obtain ⟨A, c, rfl, hl1, hm1⟩ := h.slice
  unfold maxLen at hm1
  have H := Lib.hid h
  obtain ⟨t, ht⟩ : ∃ t, okI m 0 l = t := ⟨_, rfl⟩
  rw [ht]
  have HT := Lib.hid ht
  obtain ⟨n, hn⟩ : ∃ n, l.length = n := ⟨_, rfl⟩
  rw [hn] at H hl1 ⊢
  have HN := Lib.hid hn
  have HW := Lib.hid hw
  clear h ht hn hw
  go_enter Try.func33, Try.ntmps33
  go_wp2_with fail
  go_loopw [5, 10] (fun x y wr => ∃ i k : Nat, k ≤ n ∧ i ≤ m ∧ x = .int .i64 (i : Int) ∧ y = .int .i64 (k : Int) ∧ t = okI m i (l.drop k) ∧ Below w.heap.size w wr) (fun _ y _ => n - (intOf y).toNat)
  case atStart => exact ⟨0, 0, Nat.zero_le _, Nat.zero_le _, rfl, rfl, HT.out.symm, Below.refl _ _⟩
  case round =>
    obtain ⟨i, k, hk, hi, rfl, rfl, hok, hb⟩ := hrel
    have HB := Lib.hid hb
    have HOK := Lib.hid hok
    clear hb hok
    have z0 : (0 : Int) ≤ (k : Int) := by omega
    by_cases hlt : k < n
    · have z1 : (k : Int) < (n : Int) := by omega
      have hkl : k < l.length := by rw [HN.out]; exact hlt
      obtain ⟨e, he⟩ : ∃ e, l[k]? = some e := ⟨_, List.getElem?_eq_getElem hkl⟩
      obtain ⟨ad, d, rfl, x0, x1, x2, hsv⟩ := (H.out.below HB.out).at_ k e he
      obtain ⟨Ad, cd, rfl, _⟩ := hsv.len
      have hok2 := HOK.out
      rw [drop_at he, okI_cons] at hok2
      obtain ⟨b1, b2, b3, b4⟩ := HW.out e (List.mem_of_getElem? he)
      obtain ⟨ea, ed, ei⟩ := e
      dsimp only at hok2 x0 x1 x2 b1 b2 b3 b4
      clear hkl he hsv
      by_cases c1 : ea < (i : Int)
      · rw [if_neg (by omega)] at hok2
        subst hok2
        go_wp2_with fail
        go_ret
        exact ⟨rfl, by first | exact (HB.out.alloc HB.out.size _) | exact HB.out⟩
      · by_cases c2 : ed < 0
        · rw [if_neg (by omega)] at hok2
          subst hok2
          go_wp2_with fail
          go_ret
          exact ⟨rfl, by first | exact (HB.out.alloc HB.out.size _) | exact HB.out⟩
        · have c3 : (0 : Int) ≤ ea := by omega
          by_cases c4 : ed > (m : Int) - ea
          · rw [if_neg (by omega)] at hok2
            subst hok2
            go_wp2_with fail
            go_ret
            exact ⟨rfl, by first | exact (HB.out.alloc HB.out.size _) | exact HB.out⟩
          · rw [if_pos ⟨by omega, by omega, by omega⟩] at hok2
            have HK := Lib.hid hok2
            have c5 : ea ≤ (m : Int) := by omega
            have c6 : (0 : Int) ≤ ed := by omega
            have c7 : ed ≤ (m : Int) := by omega
            clear hok2
            go_wp2_with fail
            go_roundw
            case rel => exact ⟨(ea + ed).toNat, k + 1, by omega, by omega, by go_num, by go_num, HK.out, by first | exact (HB.out.alloc HB.out.size _) | exact HB.out⟩
            case measure => simp [intOf]; omega
    · obtain rfl : k = n := by omega
      have hok2 := HOK.out
      rw [List.drop_of_length_le (by rw [HN.out]; exact Nat.le_refl _)] at hok2
      have hok3 : t = true := hok2
      subst hok3
      go_wp2_with fail
      go_ret
      exact ⟨rfl, HB.out⟩
def pErr (a : List ByteArray) (l : List EdI) : Int := if okI a.length 0 l then 0 else 1
def pRes (a : List ByteArray) (l : List EdI) : List ByteArray := if okI a.length 0 l then patI a 0 l else []
def PatP (w : World) (a : List ByteArray) (l : List EdI) (e : Ending) (w' : World) : Prop := ∃ v, e = .returned (.tuple #[v, .int .i64 (pErr a l)]) ∧ OwnV 9 w' w.heap.size v ((pRes a l).map sv) ∧ Below w.heap.size w w'
set_option maxRecDepth 100000 in
set_option maxHeartbeats 3200000 in
theorem patch_any (v1 v2 : Value) (a : List ByteArray) (l : List EdI) (w : World) (h1 : SlV w v1 (a.map sv)) (h2 : SlEd w v2 l) (hw : ∀ e ∈ l, WfE e) (ha : a.length + insN l ≤ 100000) :
    Calls Try.prog 26 #[v1, v2] w (PatP w a l) := by
  have HF := Lib.hid (fit_any v2 l a.length w h2 hw (by omega))
  have H1 := Lib.hid h1
  have H2 := Lib.hid h2
  have HA := Lib.hid ha
  have HW := Lib.hid hw
  unfold PatP
  have ht : okI a.length 0 l = true ∨ okI a.length 0 l = false := by cases okI a.length 0 l <;> simp
  obtain ⟨A1, c1, rfl, hl1, hm1, _⟩ := h1.len
  obtain ⟨A2, c2, rfl, hl2, hm2⟩ := h2.slice
  rw [List.length_map] at H1 hl1 ⊢
  unfold maxLen at hm1 hm2
  obtain ⟨m, hm⟩ : ∃ m, a.length = m := ⟨_, rfl⟩
  obtain ⟨n, hn⟩ : ∃ n, l.length = n := ⟨_, rfl⟩
  have hm100 : m ≤ 100000 := by omega
  rcases ht with ht | ht
  · have eE : pErr a l = 0 := if_pos ht
    have eP : pRes a l = patI a 0 l := if_pos ht
    rw [ht] at HF
    rw [eE, eP]
    rw [hm] at HF H1 hl1 ht HA ⊢
    rw [hn] at HF H2 hl2 ⊢
    have HM := Lib.hid hm
    have HN := Lib.hid hn
    have HOK := Lib.hid ht
    clear h1 h2 hm hn ha hw eE eP ht
    go_enter Try.func26, Try.ntmps26
    go_wp2_with fail
    refine HF.out.mono ?_
    rintro e w1 ⟨rfl, hb1⟩
    have HB1 := Lib.hid hb1
    clear hb1 HF
    go_wp2_with fail
    go_loopw [6, 7, 17] (fun v x y wr => ∃ (i k : Nat) (P : List ByteArray), k ≤ n ∧ i ≤ m ∧ x = .int .i64 (i : Int) ∧ y = .int .i64 (k : Int) ∧ okI m i (l.drop k) = true ∧ patI a 0 l = P ++ patI a i (l.drop k) ∧ P.length ≤ i + insN (l.take k) ∧ OwnV 9 wr w1.heap.size v (P.map sv) ∧ Below w1.heap.size w1 wr) (fun _ _ y _ => n - (intOf y).toNat)
    case atStart => exact ⟨0, 0, [], Nat.zero_le _, Nat.zero_le _, rfl, rfl, HOK.out, rfl, by simp, OwnV.nil_ _ _, Below.refl _ _⟩
    case round =>
      obtain ⟨i, k, P, hk, hi, rfl, rfl, hok, hp, hpl, ho, hb⟩ := hrel
      have HB := Lib.hid hb
      have HO := Lib.hid ho
      have HK := Lib.hid hok
      have HP := Lib.hid hp
      have HPL := Lib.hid hpl
      have HBW := Lib.hid (HB1.out.trans (hb.mono HB1.out.size))
      have HZ := Lib.hid hb.size
      clear hb ho hok hp hpl
      have z0 : (0 : Int) ≤ (k : Int) := by omega
      by_cases hlt : k < n
      · have z1 : (k : Int) < (n : Int) := by omega
        have hkl : k < l.length := by rw [HN.out]; exact hlt
        obtain ⟨e, he⟩ : ∃ e, l[k]? = some e := ⟨_, List.getElem?_eq_getElem hkl⟩
        obtain ⟨ad, d, rfl, hst⟩ := (H2.out.below HB1.out).stay k e he
        obtain ⟨x0, x1, x2, hsv⟩ := hst wr HB.out
        obtain ⟨Ad, cd, rfl, _⟩ := hsv.len
        have hok2 := HK.out
        rw [drop_at he, okI_cons] at hok2
        have hp2 := HP.out
        rw [drop_at he] at hp2
        have hin := insN_next he
        have hil := insN_le l (k + 1)
        obtain ⟨ea, ed, ei⟩ := e
        dsimp only at hok2 x0 x1 x2 hin hst
        split at hok2
        · rename_i hc
          obtain ⟨g1, g2, g3⟩ := hc
          obtain ⟨p, rfl⟩ := Int.eq_ofNat_of_zero_le (show (0 : Int) ≤ ea by omega)
          obtain ⟨q, rfl⟩ := Int.eq_ofNat_of_zero_le g2
          have hsl : ∀ W, (Instr.slice 25 (.slice A1 m c1) (some (.int .i64 (i : Int))) (some (.int .i64 (p : Int))) none).run Try.prog W = .ok (.slice (if c1 = i then A1 else A1.map (·.add i)) (p - i) (c1 - i)) W := fun W => t_mid A1 m c1 i p _ _ rfl rfl (by omega) (by omega) W
          have hmid : ∀ W, Below wr.heap.size wr W → SlV W _ _ := fun W hW => slv_mid ((H1.out.below HBW.out).below hW) i p (by omega) (by rw [List.length_map, HM.out]; omega)
          obtain ⟨D, hD⟩ : ∃ D, (if c1 = i then A1 else A1.map (·.add i)) = D := ⟨_, rfl⟩
          obtain ⟨dl, hdl⟩ : ∃ x, p - i = x := ⟨_, rfl⟩
          obtain ⟨dc, hdc⟩ : ∃ x, c1 - i = x := ⟨_, rfl⟩
          simp only [hD, hdl, hdc, ← List.map_drop, ← List.map_take] at hmid hsl
          obtain ⟨I, hI⟩ : ∃ I, (a.drop i).take dl = I := ⟨_, rfl⟩
          simp only [hI] at hmid
          have hp3 : patI a 0 l = (P ++ I ++ ei) ++ patI a (p + q) (l.drop (k + 1)) := by
            rw [hp2]
            show P ++ ((a.drop i).take ((p : Int).toNat - i) ++ ei ++ patI a ((p : Int) + (q : Int)).toNat (l.drop (k + 1))) = _
            rw [show (p : Int).toNat = p by omega, show ((p : Int) + (q : Int)).toNat = p + q by omega, hdl, hI]
            simp only [List.append_assoc]
          have hIl : I.length = dl := by rw [← hI, List.length_take, List.length_drop, HM.out]; omega
          rw [show ((p : Int) + (q : Int)).toNat = p + q by omega] at hok2
          have HP3 := Lib.hid hp3
          have HK3 := Lib.hid hok2
          have HMID := Lib.hid hmid
          have HST := Lib.hid hst
          have HIL := Lib.hid hIl
          have hbig : P.length + dl + ei.length ≤ 100000 ∧ (P ++ I ++ ei).length ≤ p + q + insN (l.take (k + 1)) := by
            have := HPL.out
            have := HA.out
            rw [List.length_append, List.length_append, hIl]
            omega
          have HBIG := Lib.hid hbig
          have g4 : i ≤ p := by omega
          have g5 : p + q ≤ m := by omega
          clear hkl he hsv hp2 hp3 hok2 hmid hst hIl hbig hin hil hD hdl hdc hI g1 g2 g3 HPL HP HK
          simp only [List.length_map] at *
          obtain ⟨el, hel⟩ : ∃ x, ei.length = x := ⟨_, rfl⟩
          rw [hel] at x2 HBIG HST
          have HEL := Lib.hid hel
          clear hel
          go_wp2_with (first
            | (at_builtin; refine append_txt rfl (.tmp 21) (.tmp 26) rfl _ w1.heap.size u6 P rfl (HO.out.alloc _) _ D dl dc I rfl (slv_reads (HMID.out _ ((Below.refl _ _).alloc (Nat.le_refl _) _))).1 (by have := HBIG.out.1; omega) (by have := HZ.out; simp; omega) ?_; intro v5 w5 ho5 hb5 hk5; have hp5 := hk5 _ _ _ (by decide) (Blk.new wr 49 #[.int .i64 (p : Int), .int .i64 (q : Int), .slice Ad el cd]); have g6 : w5.cell? ⟨wr.heap.size, 0, none⟩ = some (.int .i64 (p : Int)) := hp5.cell 0; have g7 : w5.cell? ⟨wr.heap.size, 1, none⟩ = some (.int .i64 (q : Int)) := hp5.cell 1; have g8 : w5.cell? ⟨wr.heap.size, 2, none⟩ = some (.slice Ad el cd) := hp5.cell 2; have HP5 := Lib.hid hp5; have HB5 := Lib.hid ((HB.out.alloc HB.out.size _).trans hb5); have HO5 := Lib.hid ho5; clear ho5 hb5 hk5 hp5)
            | (at_builtin; refine append_txt rfl (.tmp 28) (.tmp 30) rfl _ w1.heap.size v5 (P ++ I) rfl HO5.out _ Ad el cd ei rfl (slv_reads ((HST.out _ HB5.out).2.2.2)).1 (by have := HBIG.out.1; have := HIL.out; rw [List.length_append]; omega) (by have := HB5.out.size; omega) ?_; intro v6 w6 ho6 hb6 hk6; have hp6 := hk6 _ _ _ (by decide) HP5.out; have g9 : w6.cell? ⟨wr.heap.size, 0, none⟩ = some (.int .i64 (p : Int)) := hp6.cell 0; have g10 : w6.cell? ⟨wr.heap.size, 1, none⟩ = some (.int .i64 (q : Int)) := hp6.cell 1; have HB6 := Lib.hid (HB5.out.trans hb6); have HO6 := Lib.hid ho6; clear ho6 hb6 hk6 hp6 g6 g7 g8 HP5))
          go_roundw
          case rel => exact ⟨p + q, k + 1, P ++ I ++ ei, by omega, by omega, by go_num, by go_num, HK3.out, HP3.out, HBIG.out.2, HO6.out, HB6.out⟩
          case measure => simp [intOf]; omega
        · exact absurd hok2 (by decide)
      · obtain rfl : k = n := by omega
        have hbk : ∀ W, (Instr.slice 25 (.slice A1 m c1) (some (.int .i64 (i : Int))) none none).run Try.prog W = .ok (.slice (if c1 = i then A1 else A1.map (·.add i)) (m - i) (c1 - i)) W := fun W => t_back A1 m c1 i _ rfl hi W
        have hmid := slv_back (H1.out.below HBW.out) i (by rw [List.length_map, HM.out]; exact hi)
        rw [List.length_map, HM.out] at hmid
        obtain ⟨D, hD⟩ : ∃ D, (if c1 = i then A1 else A1.map (·.add i)) = D := ⟨_, rfl⟩
        obtain ⟨dl, hdl⟩ : ∃ x, m - i = x := ⟨_, rfl⟩
        obtain ⟨dc, hdc⟩ : ∃ x, c1 - i = x := ⟨_, rfl⟩
        simp only [hD, hdl, hdc, ← List.map_drop] at hmid hbk
        have hfin := HP.out
        rw [List.drop_of_length_le (by rw [HN.out]; exact Nat.le_refl _)] at hfin
        have hfin2 : patI a 0 l = P ++ a.drop i := hfin
        have HFIN := Lib.hid hfin2
        have HMID := Lib.hid hmid
        have hbig : P.length + dl ≤ 100000 := by
          have h1 := HPL.out
          have h2 := HA.out
          have h3 := insN_le l k
          omega
        clear hmid hfin hfin2 hD hdl hdc
        go_wp2_with (at_builtin; refine append_txt rfl (.tmp 38) (.tmp 41) rfl _ w1.heap.size u6 P rfl HO.out _ D dl dc (a.drop i) rfl (slv_reads HMID.out).1 (by omega) (by exact HZ.out) ?_; intro v5 w5 ho5 hb5 hk5; have HB5 := Lib.hid (HB1.out.trans ((HB.out.trans hb5).mono HB1.out.size)); have HO5 := Lib.hid (ho5.base HB1.out.size); clear ho5 hb5 hk5)
        go_ret2
        exact ⟨_, rfl, by rw [HFIN.out]; exact HO5.out, HB5.out⟩
  · have eE : pErr a l = 1 := by unfold pErr; rw [ht]; rfl
    have eP : pRes a l = [] := by unfold pRes; rw [ht]; rfl
    rw [ht] at HF
    rw [eE, eP]
    rw [hm] at HF hl1 ⊢
    rw [hn] at HF hl2 ⊢
    clear h1 h2 hm hn ha hw eE eP ht H1 H2 HA HW
    go_enter Try.func26, Try.ntmps26
    go_wp2_with fail
    refine HF.out.mono ?_
    rintro e w1 ⟨rfl, hb1⟩
    have HB1 := Lib.hid hb1
    clear hb1 HF
    go_wp2_with fail
    go_ret2
    exact ⟨_, rfl, OwnV.nil_ _ _, HB1.out⟩
end Go.Proofs.Ytchoklhadnoidaa.Ln
