/- Texts put together: Gr2. -/
import Derived.Test.YtecpedecgcaeoaaQg29
/- The document's Graph: Is, Tops, Bases. -/
set_option linter.unusedVariables false
set_option linter.unusedSimpArgs false
namespace Go.Proofs.Ytecpedecgcaeoaa.Tx
open Go.RowKit Go.Proofs.Ytecpedecgcaeoaa.Sh

open Classical in
theorem is_doc {G : GR} (hw : GW G) (a b : ByteArray) : (inG G b && hasT (ancT G [b]) a) = isG G a b := by
  cases hb : inG G b with
  | false => unfold isG; rw [hb]; simp
  | true =>
    have h1 : plsL G [b] = [pl G b] := rfl
    rw [Bool.true_and]
    cases hi : isG G a b with
    | true =>
      obtain ⟨ha, _⟩ := isG_in hi
      rw [isG_at ha hb] at hi
      exact hasT_yes (anc_memT.2 ⟨pl G a, pl_lt ha, by rw [h1]; exact of_decide_eq_true hi, (id_pl ha).symm⟩)
    | false =>
      refine hasT_no fun hm => ?_
      obtain ⟨k, hk, hr, e⟩ := anc_memT.1 hm
      rw [h1] at hr
      have ha : inG G a = true := by rw [e]; exact in_id hw hk
      rw [isG_at ha hb, e, pl_id hw hk, decide_eq_true hr] at hi
      cases hi
theorem all_one {G : GR} {b : ByteArray} : allG G [b] = inG G b := by unfold allG; simp
theorem all_uq {G : GR} {xs : List ByteArray} : allG G (uniqT xs) = allG G xs := by
  cases h : allG G xs with
  | true => exact all_uniq (all_iff.1 h)
  | false =>
    cases h2 : allG G (uniqT xs) with
    | false => rfl
    | true => rw [all_iff.2 (all_uniq' h2)] at h; cases h
set_option maxRecDepth 100000 in
set_option maxHeartbeats 1600000 in
theorem rgis_any {w : World} {g : Nat} {G : GR} (a b : ByteArray) (h : RG w g G) (hw : GW G) (hl : G.length ≤ 400) :
    Calls Try.prog 28 #[.pointer (some ⟨g, 0, none⟩), .string a, .string b] w fun e w' => e = .returned (.bool (isG G a b)) ∧ Below w.heap.size w w' := by
  have hb1 : Below w.heap.size w (w.alloc (.cells #[.string b] 9)) := (Below.refl _ _).alloc (Nat.le_refl _) _
  have hanc := rganc_any _ [b] (h.below hb1) hw (by omega) (one_text w b) (by simp)
  rw [all_one] at hanc
  have HANC := Lib.hid hanc
  have HB1 := Lib.hid hb1
  rw [← is_doc hw a b]
  unfold AskPost at HANC
  obtain ⟨L, hL⟩ : ∃ L, ancT G [b] = L := ⟨_, rfl⟩
  rw [hL] at HANC ⊢
  cases hin : inG G b with
  | false =>
    rw [hin] at HANC
    clear h hw hanc hL hin hb1
    go_enter Try.func28, Try.ntmps28
    go_wp2_with fail
    refine HANC.out.mono ?_
    rintro e w2 ⟨hb2, ⟨hx, _⟩ | ⟨_, rfl⟩⟩
    · cases hx
    have HB2 := Lib.hid (HB1.out.trans (hb2.mono HB1.out.size))
    clear hb2
    go_wp2_with fail
    go_ret
    exact ⟨rfl, HB2.out⟩
  | true =>
    rw [hin] at HANC
    clear h hw hanc hL hin hb1
    go_enter Try.func28, Try.ntmps28
    go_wp2_with fail
    refine HANC.out.mono ?_
    rintro e w2 ⟨hb2, ⟨_, v, rfl, ho⟩ | ⟨hx, _⟩⟩
    · have HB2 := Lib.hid (HB1.out.trans (hb2.mono HB1.out.size))
      have HO := Lib.hid ho.slv
      clear hb2 ho
      go_wp2_with fail
      refine (rhas_any v L a w2 HO.out).mono ?_
      rintro e w3 ⟨rfl, rfl⟩
      go_wp2_with fail
      go_ret
      exact ⟨rfl, HB2.out⟩
    · cases hx
/-- append of texts: what lies elsewhere stays. -/
theorem append_many {ops : Array Oper} {rest : List Oper} {o : Oper} {a : Act} {Q : Exit → Act → World → Prop} (hgd : o.guard = none) (s x : Operand)
    (ho : o.op = .call { callee := .builtin .append, args := #[s, x], argTypes := #[23, 23] }) (w : World) (B : Nat) (v : Value) (ts : List ByteArray) (hs : a.eval s = v) (hown : OwnV 9 w B v (ts.map sv))
    (vx : Value) (us : List ByteArray) (hx : a.eval x = vx) (hr : SlV w vx (us.map sv)) (hsmall : ts.length + us.length ≤ 2000000) (hB : B ≤ w.heap.size)
    (h : ∀ v' w', OwnV 9 w' B v' ((ts ++ us).map sv) → Below B w w' → wpList Try.prog ops Q rest (a.put o.dst v') w') : wpList Try.prog ops Q (o :: rest) a w := by
  obtain ⟨A, c, rfl, _, _, hR⟩ := hr.len
  exact append_texts hgd s x ho w B v ts hs hown _ A _ c us hx (by simpa using hR) (by simpa using hsmall) hB h
theorem upOf_next {G : GR} {xs : List ByteArray} {i : Nat} {x : ByteArray} (h : xs[i]? = some x) {s : ByteArray} : UpOf G (xs.take (i + 1)) s ↔ UpOf G (xs.take i) s ∨ ∃ k, k < G.length ∧ RS (parAt G) (parAt G (pl G x)) k ∧ s = idAt G k := by
  unfold UpOf
  rw [List.take_add_one, h]
  constructor
  · rintro ⟨y, hy, hk⟩
    rcases List.mem_append.1 hy with hy | hy
    · exact .inl ⟨y, hy, hk⟩
    · simp at hy
      subst hy
      exact .inr hk
  · rintro (⟨y, hy, hk⟩ | hk)
    · exact ⟨y, List.mem_append.2 (.inl hy), hk⟩
    · exact ⟨x, List.mem_append.2 (.inr (by simp)), hk⟩
theorem filter_next {xs ups : List ByteArray} {i : Nat} {x : ByteArray} (h : xs[i]? = some x) : (xs.take (i + 1)).filter (fun s => !hasT ups s) = (xs.take i).filter (fun s => !hasT ups s) ++ if hasT ups x = true then [] else [x] := by
  rw [List.take_add_one, h, List.filter_append]
  congr 1
  show List.filter _ [x] = _
  cases hh : hasT ups x <;> simp [hh]
set_option maxRecDepth 100000 in
set_option maxHeartbeats 3200000 in
theorem rgtops_any {w : World} {g : Nat} {G : GR} (v : Value) (xs : List ByteArray) (h : RG w g G) (hw : GW G) (hs : GS G) (hl : G.length ≤ 400) (hv : SlV w v (xs.map sv)) (hn : xs.length ≤ 400) :
    Calls Try.prog 24 #[.pointer (some ⟨g, 0, none⟩), v] w (AskPost w (allG G xs) (topT G xs)) := by
  have HGW := Lib.hid hw
  have HGS := Lib.hid hs
  have HV := Lib.hid hv
  have HL := Lib.hid hl
  obtain ⟨A, c, rfl, hlc, hcm, _⟩ := hv.len
  rw [List.length_map] at HV hlc ⊢
  unfold maxLen at hcm
  unfold AskPost
  obtain ⟨ok, hok⟩ : ∃ ok, allG G xs = ok := ⟨_, rfl⟩
  rw [hok]
  have HOK := Lib.hid hok
  obtain ⟨m, hm⟩ : ∃ m, xs.length = m := ⟨_, rfl⟩
  rw [hm] at HV hlc hn ⊢
  have HM := Lib.hid hm
  have HHAS := Lib.hid (fun W (hW : Below w.heap.size w W) (s : ByteArray) => rghas_any s (h.below hW) (by omega))
  have HPARS := Lib.hid (fun W (hW : Below w.heap.size w W) (s : ByteArray) (hin : inG G s = true) => by
    have := Gd.rgparents_any s (h.below hW) (by omega) (fun k => by have := hs.par k; omega)
    rw [hin, if_pos rfl] at this
    exact this)
  have HANC := Lib.hid (fun W (hW : Below w.heap.size w W) (v : Value) (ys : List ByteArray) (hv : SlV W v (ys.map sv)) (hy : ys.length ≤ 2000) => rganc_any v ys (h.below hW) hw (by omega) hv hy)
  clear h hw hs hv hok hm
  go_enter Try.func24, Try.ntmps24
  go_wp2_with fail
  go_loopw [6, 7] (fun v6 x wr => ∃ (i : Nat) (up : List ByteArray), i ≤ m ∧ x = .int .i64 (i : Int) ∧ (∀ s ∈ xs.take i, inG G s = true) ∧ (∀ s, s ∈ up ↔ UpOf G (xs.take i) s) ∧ up.length ≤ i * 400 ∧ OwnV 9 wr w.heap.size v6 (up.map sv) ∧ Below w.heap.size w wr) (fun _ x _ => m - (intOf x).toNat)
  case atStart => exact ⟨0, [], Nat.zero_le _, rfl, (fun s hs => by cases hs), (fun s => ⟨(fun h => by cases h), fun ⟨y, hy, _⟩ => by cases hy⟩), Nat.zero_le _, OwnV.nil_ _ _, Below.refl _ _⟩
  case round =>
    obtain ⟨i, up, hi, rfl, hall, hup, hul, ho, hb⟩ := hrel
    have HALL := Lib.hid hall
    have HUP := Lib.hid hup
    have HO := Lib.hid ho
    have HB := Lib.hid hb
    clear hall hup ho hb
    have z0 : (0 : Int) ≤ (i : Int) := by omega
    by_cases hlt : i < m
    · have z1 : (i : Int) < (m : Int) := by omega
      have hil : i < xs.length := by rw [HM.out]; exact hlt
      obtain ⟨x, hx⟩ : ∃ x, xs[i]? = some x := ⟨_, List.getElem?_eq_getElem hil⟩
      obtain ⟨ad, rfl, x0⟩ := gtext_cell (HV.out.below HB.out) i x hx
      have HX := Lib.hid hx
      clear hil hx
      cases hin : inG G x with
      | false =>
        have hno : allG G xs = false := by
          cases ha : allG G xs with
          | false => rfl
          | true => rw [all_iff.1 ha x (List.mem_of_getElem? HX.out)] at hin; cases hin
        have HH := Lib.hid (HHAS.out wr HB.out x)
        rw [hin] at HH
        have hok2 : ok = false := by rw [← HOK.out]; exact hno
        subst hok2
        go_wp2_with fail
        refine HH.out.mono ?_
        rintro e w2 ⟨rfl, rfl⟩
        go_wp2_with fail
        go_ret2
        exact ⟨HB.out, rfl⟩
      | true =>
        have HH := Lib.hid (HHAS.out wr HB.out x)
        rw [hin] at HH
        have HP := Lib.hid (HPARS.out wr HB.out x hin)
        have HIN := Lib.hid hin
        obtain ⟨ys, hys⟩ : ∃ ys, (parAt G (pl G x)).map (idAt G) = ys := ⟨_, rfl⟩
        have hya : allG G ys = true := by rw [← hys]; exact all_map HGW.out (fun k hk => par_lt HGW.out hk)
        have hyl : ys.length ≤ 2000 := by rw [← hys, List.length_map]; have := HGS.out.par (pl G x); omega
        have hym : ∀ s, s ∈ ancT G ys ↔ ∃ k, k < G.length ∧ RS (parAt G) (parAt G (pl G x)) k ∧ s = idAt G k := fun s => by rw [← hys]; exact up_anc HGW.out
        have hyc : (ancT G ys).length ≤ 400 := Nat.le_trans ancT_len HL.out
        rw [hys] at HP
        have HYA := Lib.hid hya
        have HYM := Lib.hid hym
        obtain ⟨L, hL⟩ : ∃ L, ancT G ys = L := ⟨_, rfl⟩
        rw [hL] at HYM hyc
        have HLL := Lib.hid hL
        clear hin hys hya hym hL
        go_wp2_with fail
        refine HH.out.mono ?_
        rintro e w2 ⟨rfl, rfl⟩
        go_wp2_with fail
        refine HP.out.mono ?_
        rintro e w2 ⟨vp, rfl, hvp, hb2⟩
        have HB2 := Lib.hid (HB.out.trans (hb2.mono HB.out.size))
        have hac := HANC.out w2 HB2.out vp ys hvp.slv hyl
        rw [HYA.out, HLL.out] at hac
        have HAC := Lib.hid hac
        have HO2 := Lib.hid (HO.out.below hb2)
        clear hac hvp hb2
        go_wp2_with fail
        refine HAC.out.mono ?_
        rintro e w3 ⟨hb3, ⟨_, va, rfl, hva⟩ | ⟨hx, _⟩⟩
        rotate_left
        · cases hx
        have HB3 := Lib.hid (HB2.out.trans (hb3.mono HB2.out.size))
        have HO3 := Lib.hid (HO2.out.below hb3)
        have HVA := Lib.hid hva.slv
        clear hb3 hva
        go_wp2_with (at_builtin; refine append_many rfl (.tmp 36) (.tmp 37) rfl w3 w.heap.size u6 up rfl HO3.out va L rfl HVA.out (by omega) (by exact HB3.out.size) ?_; intro v4 w4 ho4 hb4; have HO4 := Lib.hid ho4; have HB4 := Lib.hid (HB3.out.trans hb4); clear ho4 hb4)
        go_roundw
        case rel =>
          refine ⟨i + 1, up ++ L, by omega, by go_num, fun s hs => ?_, fun s => ?_, by rw [List.length_append, Nat.succ_mul]; omega, HO4.out, HB4.out⟩
          · rw [List.take_add_one, HX.out] at hs
            rcases List.mem_append.1 hs with hs | hs
            · exact HALL.out s hs
            · simp at hs
              rw [hs]
              exact HIN.out
          · rw [upOf_next HX.out, List.mem_append, HUP.out s, HYM.out s]
        case measure => simp [intOf]; omega
    · have him : m = i := by omega
      subst him
      have hT : xs.take m = xs := List.take_of_length_le (by rw [HM.out]; exact Nat.le_refl _)
      have hyes : allG G xs = true := all_iff.2 (fun s hs => HALL.out s (by rw [hT]; exact hs))
      have hok2 : ok = true := by rw [← HOK.out]; exact hyes
      subst hok2
      have hup := HUP.out
      rw [hT] at hup
      have hu2 : ∀ s, s ∈ uniqT up ↔ UpOf G xs s := fun s => by rw [(uniqT_spec up).2 s]; exact hup s
      have htop := top_doc (xs := xs) HGW.out (by rw [all_uq]; exact hyes) hu2
      have HTOP := Lib.hid htop
      have HU := Lib.hid (runiq_any u6 up wr HO.out.slv (by omega))
      obtain ⟨U, hU⟩ : ∃ U, uniqT up = U := ⟨_, rfl⟩
      rw [hU] at HTOP HU
      clear hT hyes hup hu2 htop HALL HUP hU
      go_wp2_with fail
      refine HU.out.mono ?_
      rintro e w2 ⟨vu, rfl, hvu, hb2⟩
      have HVU := Lib.hid hvu.slv
      have HB2 := Lib.hid (HB.out.trans (hb2.mono HB.out.size))
      clear hvu hb2 HU HO HB
      go_wp2_with fail
      go_loopw [10, 11] (fun v10 x wr => ∃ i : Nat, i ≤ m ∧ x = .int .i64 (i : Int) ∧ OwnV 9 wr w2.heap.size v10 (((xs.take i).filter (fun s => !hasT U s)).map sv) ∧ Below w2.heap.size w2 wr) (fun _ x _ => m - (intOf x).toNat)
      case atStart => exact ⟨0, Nat.zero_le _, rfl, OwnV.nil_ _ _, Below.refl _ _⟩
      case round =>
        obtain ⟨i, hi, rfl, ho, hb⟩ := hrel
        have HO := Lib.hid ho
        have HB := Lib.hid hb
        have HBW := Lib.hid (HB2.out.trans (hb.mono HB2.out.size))
        have HZ := Lib.hid hb.size
        clear ho hb
        have z0 : (0 : Int) ≤ (i : Int) := by omega
        by_cases hlt : i < m
        · have z1 : (i : Int) < (m : Int) := by omega
          have hil : i < xs.length := by rw [HM.out]; exact hlt
          obtain ⟨x, hx⟩ : ∃ x, xs[i]? = some x := ⟨_, List.getElem?_eq_getElem hil⟩
          obtain ⟨ad, rfl, x0⟩ := gtext_cell (HV.out.below HBW.out) i x hx
          have HF := Lib.hid (filter_next (ups := U) hx)
          have hfl : ((xs.take i).filter (fun s => !hasT U s)).length + 1 ≤ 2000000 := by
            have := List.length_filter_le (fun s => !hasT U s) (xs.take i)
            rw [List.length_take] at this
            omega
          have HH := Lib.hid (rhas_any vu U x wr (HVU.out.below HB.out))
          clear hil hx
          cases hin : hasT U x with
          | true =>
            rw [hin] at HH HF
            go_wp2_with fail
            refine HH.out.mono ?_
            rintro e w3 ⟨rfl, rfl⟩
            go_wp2_with fail
            go_roundw
            case rel => exact ⟨i + 1, by omega, by go_num, by rw [HF.out, if_pos trivial, List.append_nil]; exact HO.out, HB.out⟩
            case measure => simp [intOf]; omega
          | false =>
            rw [hin] at HH HF
            go_wp2_with fail
            refine HH.out.mono ?_
            rintro e w3 ⟨rfl, rfl⟩
            go_wp2_with (at_builtin; refine append_one rfl (.tmp 54) (.tmp 59) rfl wr w2.heap.size u10 _ rfl HO.out x rfl hfl (by exact HZ.out) ?_; intro v4 w4 ho4 hb4 hk4; have HO4 := Lib.hid ho4; have HB4 := Lib.hid (HB.out.trans hb4); clear ho4 hb4 hk4)
            go_roundw
            case rel => exact ⟨i + 1, by omega, by go_num, by rw [HF.out, if_neg (by decide)]; exact HO4.out, HB4.out⟩
            case measure => simp [intOf]; omega
        · have him : m = i := by omega
          subst him
          have hT : xs.take m = xs := List.take_of_length_le (by rw [HM.out]; exact Nat.le_refl _)
          have ho := HO.out
          rw [hT] at ho
          have hfl : (xs.filter (fun s => !hasT U s)).length ≤ 400000 := by
            have := List.length_filter_le (fun s => !hasT U s) xs
            rw [HM.out] at this
            omega
          have HU2 := Lib.hid (runiq_any u10 _ wr ho.slv hfl)
          rw [HTOP.out] at HU2
          clear hT ho hfl
          go_wp2_with fail
          refine HU2.out.mono ?_
          rintro e w4 ⟨vz, rfl, hvz, hb4⟩
          have HVZ := Lib.hid (hvz.base HBW.out.size)
          have HB4 := Lib.hid (HBW.out.trans (hb4.mono HBW.out.size))
          clear hvz hb4
          go_wp2_with fail
          go_ret2
          exact ⟨HB4.out, _, rfl, HVZ.out⟩
theorem both_next {xs L : List ByteArray} {i : Nat} {x : ByteArray} (h : xs[i]? = some x) : (xs.take (i + 1)).filter (hasT L) = (xs.take i).filter (hasT L) ++ if hasT L x = true then [x] else [] := by
  rw [List.take_add_one, h, List.filter_append]
  congr 1
  show List.filter _ [x] = _
  cases hh : hasT L x <;> simp [hh]
set_option maxRecDepth 100000 in
set_option maxHeartbeats 3200000 in
theorem rgbases_any {w : World} {g : Nat} {G : GR} (v : Value) (xs : List ByteArray) (b : ByteArray) (h : RG w g G) (hw : GW G) (hs : GS G) (hl : G.length ≤ 400) (hv : SlV w v (xs.map sv)) (hn : xs.length ≤ 400) :
    Calls Try.prog 22 #[.pointer (some ⟨g, 0, none⟩), v, .string b] w (AskPost w (allG G xs && inG G b) (basT G xs b)) := by
  have hanc := rganc_any v xs h hw (by omega) hv (by omega)
  have HANC := Lib.hid hanc
  have hanb := fun W (hW : Below w.heap.size w W) => rganc_any _ [b] ((h.below hW).below ((Below.refl _ _).alloc (Nat.le_refl _) (.cells #[.string b] 9))) hw (by omega) (one_text W b) (by simp)
  have HANB : Hid (∀ W, Below w.heap.size w W → Calls Try.prog 20 #[.pointer (some ⟨g, 0, none⟩), .slice (some ⟨W.heap.size, 0, none⟩) 1 1] (W.alloc (.cells #[.string b] 9)) fun e w' => Below W.heap.size W w' ∧ ((inG G b = true ∧ ∃ v, e = .returned (.tuple #[v, .int .i64 0]) ∧ OwnV 9 w' W.heap.size v ((ancT G [b]).map sv)) ∨ (inG G b = false ∧ e = .returned (.tuple #[.slice none 0 0, .int .i64 7])))) := fun W hW => by
    have ha := hanb W hW
    rw [all_one] at ha
    refine ha.mono ?_
    rintro e w' ⟨hb, hh⟩
    have hb0 : Below W.heap.size W (W.alloc (.cells #[.string b] 9)) := (Below.refl _ _).alloc (Nat.le_refl _) _
    refine ⟨hb0.trans (hb.mono hb0.size), ?_⟩
    rcases hh with ⟨h1, v, h2, h3⟩ | h4
    · exact .inl ⟨h1, v, h2, h3.base hb0.size⟩
    · exact .inr h4
  have HTOPS := Lib.hid (fun W (hW : Below w.heap.size w W) (v : Value) (ys : List ByteArray) (hv : SlV W v (ys.map sv)) (hy : ys.length ≤ 400) => rgtops_any v ys (h.below hW) hw hs hl hv hy)
  unfold AskPost at HANC
  have HGW := Lib.hid hw
  have HXL : Hid ((ancT G xs).length ≤ 400) := Nat.le_trans ancT_len hl
  cases hx : allG G xs with
  | false =>
    rw [hx] at HANC
    cases hb : inG G b with
    | false =>
      rw [hb] at HANB
      clear h hw hs hv hanc hanb hx hb HTOPS
      go_enter Try.func22, Try.ntmps22
      go_wp2_with fail
      refine HANC.out.mono ?_
      rintro e w2 ⟨hb2, ⟨hx, _⟩ | ⟨_, rfl⟩⟩
      · cases hx
      have HB2 := Lib.hid hb2
      clear hb2
      go_wp2_with fail
      refine (HANB.out w2 HB2.out).mono ?_
      rintro e w3 ⟨hb3, ⟨hx, _⟩ | ⟨_, rfl⟩⟩
      · cases hx
      have HB3 := Lib.hid (HB2.out.trans (hb3.mono HB2.out.size))
      clear hb3
      go_wp2_with fail
      go_ret2
      exact ⟨HB3.out, .inr ⟨rfl, rfl⟩⟩
    | true =>
      rw [hb] at HANB
      clear h hw hs hv hanc hanb hx hb HTOPS
      go_enter Try.func22, Try.ntmps22
      go_wp2_with fail
      refine HANC.out.mono ?_
      rintro e w2 ⟨hb2, ⟨hx, _⟩ | ⟨_, rfl⟩⟩
      · cases hx
      have HB2 := Lib.hid hb2
      clear hb2
      go_wp2_with fail
      refine (HANB.out w2 HB2.out).mono ?_
      rintro e w3 ⟨hb3, ⟨_, vb, rfl, _⟩ | ⟨hx, _⟩⟩
      rotate_left
      · cases hx
      have HB3 := Lib.hid (HB2.out.trans (hb3.mono HB2.out.size))
      clear hb3
      go_wp2_with fail
      go_ret2
      exact ⟨HB3.out, .inr ⟨rfl, rfl⟩⟩
  | true =>
    rw [hx] at HANC
    cases hb : inG G b with
    | false =>
      rw [hb] at HANB
      clear h hw hs hv hanc hanb hx hb HTOPS
      go_enter Try.func22, Try.ntmps22
      go_wp2_with fail
      refine HANC.out.mono ?_
      rintro e w2 ⟨hb2, ⟨_, va, rfl, _⟩ | ⟨hx, _⟩⟩
      rotate_left
      · cases hx
      have HB2 := Lib.hid hb2
      clear hb2
      go_wp2_with fail
      refine (HANB.out w2 HB2.out).mono ?_
      rintro e w3 ⟨hb3, ⟨hx, _⟩ | ⟨_, rfl⟩⟩
      · cases hx
      have HB3 := Lib.hid (HB2.out.trans (hb3.mono HB2.out.size))
      clear hb3
      go_wp2_with fail
      go_ret2
      exact ⟨HB3.out, .inr ⟨rfl, rfl⟩⟩
    | true =>
      rw [hb] at HANB
      have HBD : Hid (topT G ((ancT G xs).filter (hasT (ancT G [b]))) = basT G xs b) := bas_doc hw hb
      have HBA : Hid (allG G ((ancT G xs).filter (hasT (ancT G [b]))) = true) := by unfold Hid; rw [← all_uq]; exact both_all hw hb
      obtain ⟨X, hX⟩ : ∃ X, ancT G xs = X := ⟨_, rfl⟩
      obtain ⟨Y, hY⟩ : ∃ Y, ancT G [b] = Y := ⟨_, rfl⟩
      rw [hX] at HANC HXL HBD HBA
      rw [hY] at HANB HBD HBA
      clear h hw hs hv hanc hanb hx hb hX hY
      go_enter Try.func22, Try.ntmps22
      go_wp2_with fail
      refine HANC.out.mono ?_
      rintro e w2 ⟨hb2, ⟨_, va, rfl, hva⟩ | ⟨hx, _⟩⟩
      rotate_left
      · cases hx
      have HB2 := Lib.hid hb2
      have HVA := Lib.hid hva.slv
      clear hva hb2
      go_wp2_with fail
      refine (HANB.out w2 HB2.out).mono ?_
      rintro e w3 ⟨hb3, ⟨_, vb, rfl, hvb⟩ | ⟨hx, _⟩⟩
      rotate_left
      · cases hx
      have HB3 := Lib.hid (HB2.out.trans (hb3.mono HB2.out.size))
      have HVA3 := Lib.hid (HVA.out.below hb3)
      have HVB := Lib.hid hvb.slv
      obtain ⟨Aa, ca, hva, hca1, hca2, _⟩ := HVA3.out.len
      rw [List.length_map] at hva hca1
      obtain ⟨m, hm⟩ : ∃ m, X.length = m := ⟨_, rfl⟩
      rw [hm] at hva hca1 HXL
      subst hva
      have HM := Lib.hid hm
      unfold maxLen at hca2
      clear hvb hb3 hm
      go_wp2_with fail
      go_loopw [12, 13] (fun v12 x wr => ∃ i : Nat, i ≤ m ∧ x = .int .i64 (i : Int) ∧ OwnV 9 wr w3.heap.size v12 (((X.take i).filter (hasT Y)).map sv) ∧ Below w3.heap.size w3 wr) (fun _ x _ => m - (intOf x).toNat)
      case atStart => exact ⟨0, Nat.zero_le _, rfl, OwnV.nil_ _ _, Below.refl _ _⟩
      case round =>
        obtain ⟨i, hi, rfl, ho, hb⟩ := hrel
        have HO := Lib.hid ho
        have HB := Lib.hid hb
        have HBW := Lib.hid (HB3.out.trans (hb.mono HB3.out.size))
        have HZ := Lib.hid hb.size
        clear ho hb
        have z0 : (0 : Int) ≤ (i : Int) := by omega
        by_cases hlt : i < m
        · have z1 : (i : Int) < (m : Int) := by omega
          have hil : i < X.length := by rw [HM.out]; exact hlt
          obtain ⟨x, hx⟩ : ∃ x, X[i]? = some x := ⟨_, List.getElem?_eq_getElem hil⟩
          obtain ⟨ad, rfl, x0⟩ := gtext_cell (HVA3.out.below HB.out) i x hx
          have HF := Lib.hid (both_next (L := Y) hx)
          have hfl : ((X.take i).filter (hasT Y)).length + 1 ≤ 2000000 := by
            have := List.length_filter_le (hasT Y) (X.take i)
            rw [List.length_take] at this
            have := HXL.out
            omega
          have HH := Lib.hid (rhas_any vb Y x wr (HVB.out.below HB.out))
          clear hil hx
          cases hin : hasT Y x with
          | true =>
            rw [hin] at HH HF
            go_wp2_with fail
            refine HH.out.mono ?_
            rintro e w4 ⟨rfl, rfl⟩
            go_wp2_with (at_builtin; refine append_one rfl (.tmp 45) (.tmp 50) rfl wr w3.heap.size u12 _ rfl HO.out x rfl hfl (by exact HZ.out) ?_; intro v5 w5 ho5 hb5 hk5; have HO5 := Lib.hid ho5; have HB5 := Lib.hid (HB.out.trans hb5); clear ho5 hb5 hk5)
            go_roundw
            case rel => exact ⟨i + 1, by omega, by go_num, by rw [HF.out, if_pos trivial]; exact HO5.out, HB5.out⟩
            case measure => simp [intOf]; omega
          | false =>
            rw [hin] at HH HF
            go_wp2_with fail
            refine HH.out.mono ?_
            rintro e w4 ⟨rfl, rfl⟩
            go_wp2_with fail
            go_roundw
            case rel => exact ⟨i + 1, by omega, by go_num, by rw [HF.out, if_neg (by decide), List.append_nil]; exact HO.out, HB.out⟩
            case measure => simp [intOf]; omega
        · have him : m = i := by omega
          subst him
          have hT : X.take m = X := List.take_of_length_le (by rw [HM.out]; exact Nat.le_refl _)
          have ho := HO.out
          rw [hT] at ho
          have hfl : (X.filter (hasT Y)).length ≤ 400 := by
            have := List.length_filter_le (hasT Y) X
            rw [HM.out] at this
            have := HXL.out
            omega
          have htp := HTOPS.out wr HBW.out u12 _ ho.slv hfl
          unfold AskPost at htp
          rw [HBA.out, HBD.out] at htp
          have HTP := Lib.hid htp
          clear hT ho hfl htp HTOPS
          go_wp2_with fail
          refine HTP.out.mono ?_
          rintro e w4 ⟨hb4, ⟨_, vz, rfl, hvz⟩ | ⟨hx, _⟩⟩
          rotate_left
          · cases hx
          have HVZ := Lib.hid (hvz.base HBW.out.size)
          have HB4 := Lib.hid (HBW.out.trans (hb4.mono HBW.out.size))
          clear hvz hb4
          go_wp2_with fail
          go_ret2
          exact ⟨HB4.out, .inl ⟨rfl, _, rfl, HVZ.out⟩⟩
end Go.Proofs.Ytecpedecgcaeoaa.Tx
