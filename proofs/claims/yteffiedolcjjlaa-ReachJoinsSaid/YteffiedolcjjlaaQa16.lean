/- Texts put together: YRc1, YRs0. -/
import Derived.Test.YteffiedolcjjlaaQa15
import Derived.Test.YteffiedolcjjlaaQa12
import Derived.Test.YteffiedolcjjlaaQa14
/- Package reach: the list of work: add. -/
set_option linter.unusedVariables false
set_option linter.unusedSimpArgs false
namespace Go.Proofs.Yteffiedolcjjlaa.Tx
open Go.RowKit Go.Maps Go.Proofs.Yteffiedolcjjlaa.Sh

/-- The set holds just the texts. -/
def MetOK (xs : List ByteArray) (D : DataW Unit) : Prop := ∀ s : ByteArray, Maps.has D (.string s.toList) = hasT xs s
theorem MetOK.nil_ : MetOK [] (.map []) := fun s => rfl
theorem hasT_snoc (xs : List ByteArray) (x s : ByteArray) : hasT (xs ++ [x]) s = (hasT xs s || (x.toList == s.toList)) := by
  unfold hasT
  rw [List.any_append]
  simp
theorem MetOK.put {xs : List ByteArray} {D : DataW Unit} (h : MetOK xs D) (hm : Maps.IsMap D) (x : ByteArray) (d : DataW Unit) : MetOK (xs ++ [x]) (D.put (.string x.toList) d) := fun s => by
  rw [hasT_snoc]
  by_cases e : s.toList = x.toList
  · rw [e, Maps.has_put_same hm (isK _), beq_self_eq_true, Bool.or_true]
  · rw [Maps.has_put_other (fun h => e (by injection h)), h s, show (x.toList == s.toList) = false from beq_eq_false_iff_ne.2 (fun h => e h.symm), Bool.or_false]
theorem MetOK.small {xs : List ByteArray} {w : World} {b n : Nat} {D : DataW Unit} (h : MetOK xs D) (hown : w.ownsMap Try.prog 9 unitElem b n D) : Maps.size D ≤ xs.length := by
  have := own_within hown (ds := xs.map ByteArray.toList) fun x hx => by
    have h1 := h (str x)
    rw [str_toList, hx] at h1
    have h2 := hasT_iff.1 h1.symm
    exact List.mem_map.2 ⟨_, h2, str_toList x⟩
  rwa [List.length_map] at this
theorem zeroU (w : World) : (zeroValue 156).run Try.prog w = .ok (.agg #[]) w := by kernel_rfl

/-- Block g is a list of work: its texts in a row of its own, and the set of them. -/
structure WX (g bm B : Nat) (w : World) (v : Value) (xs : List ByteArray) : Prop where
  blk : Blk w g 137 #[v, .map (some bm)]
  own : OwnV 9 w B v (xs.map sv)
  map : ∃ D, w.ownsMap Try.prog 9 unitElem bm (Maps.size D) D ∧ MetOK xs D
  gB : B ≤ g
  bB : B ≤ bm
def WS (g bm : Nat) (v : Value) : Nat → Prop := fun k => k = g ∨ k = bm ∨ v.ownBlock = some k
section
variable {g bm B : Nat} {w w' : World} {v : Value} {xs : List ByteArray} {M : Nat → Prop}
theorem WX.only (h : WX g bm B w v xs) (ho : Only M w w') (hM : ∀ k, WS g bm v k → ¬ M k) : WX g bm B w' v xs := by
  obtain ⟨D, h1, h2⟩ := h.map
  exact ⟨ho.blk h.blk (hM g (.inl rfl)), ho.own h.own (fun k hk => hM k (.inr (.inr hk))), ⟨D, own_only h1 ho (hM bm (.inr (.inl rfl))), h2⟩, h.gB, h.bB⟩
theorem WX.below (h : WX g bm B w v xs) (hb : Below w.heap.size w w') : WX g bm B w' v xs := h.only (Only.of_below (M := fun _ => False) hb) (fun _ _ => id)
theorem WX.lt (h : WX g bm B w v xs) (k : Nat) (hk : WS g bm v k) : B ≤ k ∧ k < w.heap.size := by
  obtain ⟨D, h1, _⟩ := h.map
  rcases hk with rfl | rfl | hk
  · exact ⟨h.gB, h.blk.lt⟩
  · exact ⟨h.bB, h1.lt⟩
  · exact h.own.lt k hk
theorem WX.g_bm (h : WX g bm B w v xs) : bm ≠ g := by
  obtain ⟨D, h1, _⟩ := h.map
  exact own_cells h1 h.blk
theorem WX.v_g (h : WX g bm B w v xs) : v.ownBlock ≠ some g := own_blk_ne h.own h.blk (by decide)
theorem WX.v_bm (h : WX g bm B w v xs) : v.ownBlock ≠ some bm := by
  obtain ⟨D, h1, _⟩ := h.map
  rcases h.own.blk with ⟨rfl, _⟩ | ⟨k, c, cur, rfl, _, _, hg, _⟩
  · simp [Value.ownBlock]
  · intro e
    have e' : k = bm := by simpa [Value.ownBlock] using e
    subst e'
    exact own_cells h1 hg rfl
theorem WX.c0 (h : WX g bm B w v xs) : w.cell? ⟨g, 0, none⟩ = some v := h.blk.cell 0
theorem WX.c1 (h : WX g bm B w v xs) : w.cell? ⟨g, 1, none⟩ = some (.map (some bm)) := h.blk.cell 1
/-- One text more: the set, the row and the struct's cell. -/
theorem WX.push {w1 w2 : World} {v' : Value} {x : ByteArray} {D' : DataW Unit} {n : Nat} (h : WX g bm B w v xs)
    (hm : w1.ownsMap Try.prog 9 unitElem bm n D') (hD : MetOK (xs ++ [x]) D') (h1 : w.grownBy w1 (some bm))
    (ho : OwnV 9 w2 B v' ((xs ++ [x]).map sv)) (h2 : (w1.alloc (.cells #[.string x] 9)).grownBy w2 v.ownBlock) :
    WX g bm B (w2.setCell ⟨g, 0, none⟩ v') v' (xs ++ [x]) ∧ Only (WS g bm v) w (w2.setCell ⟨g, 0, none⟩ v') := by
  have o1 : Only (WS g bm v) w w1 := (Only.refl _ w).grown h1 (fun k hk => .inl (.inr (.inl (by injection hk with hk; exact hk.symm))))
  have o2 : Only (WS g bm v) w w2 := (o1.alloc _).grown h2 (fun k hk => .inl (.inr (.inr hk)))
  have b1 : Blk w1 g 137 #[v, .map (some bm)] := Blk.grown h.blk h1 (fun e => h.g_bm (by injection e with e; exact e.symm))
  have b2 : Blk w2 g 137 #[v, .map (some bm)] := Blk.grown (b1.alloc _) h2 (fun e => h.v_g e.symm)
  have hne : v'.ownBlock ≠ some g := own_blk_ne ho b2 (by decide)
  refine ⟨⟨?_, ho.apart hne _, ⟨D', ?_, hD⟩, h.gB, h.bB⟩, o2.set_ (.inl (.inl rfl)) _⟩
  · exact b2.set_ 0 v'
  · have hl : bm < w1.heap.size := hm.lt
    have m2 : w2.ownsMap Try.prog 9 unitElem bm n D' := own_only hm (M := fun k => v.ownBlock = some k) (((Only.refl _ w1).alloc _).grown h2 (fun k hk => .inl hk)) (fun e => h.v_bm e)
    exact own_exact (m2.setCell (a := ⟨g, 0, none⟩) h.g_bm v')
end
theorem append_text_r {ops : Array Oper} {rest : List Oper} {o : Oper} {a : Act} {Q : Exit → Act → World → Prop} (hgd : o.guard = none) (s x : Operand)
    (ho : o.op = .call { callee := .builtin .append, args := #[s, x], argTypes := #[23, 23] }) (w : World) (B : Nat) (v : Value) (ts : List ByteArray) (hs : a.eval s = v) (hown : OwnV 9 w B v (ts.map sv))
    (u : ByteArray) (hx : a.eval x = .slice (some ⟨w.heap.size, 0, none⟩) 1 1) (hsmall : ts.length + 1 ≤ 2000000) (hB : B ≤ w.heap.size)
    (h : ∀ v' w', OwnV 9 w' B v' ((ts ++ [u]).map sv) → (w.alloc (.cells #[.string u] 9)).grownBy w' v.ownBlock → (v'.ownBlock = v.ownBlock ∨ v'.ownBlock = some (w.alloc (.cells #[.string u] 9)).heap.size) → wpList Try.prog ops Q rest (a.put o.dst v') w') : wpList Try.prog ops Q (o :: rest) a (w.alloc (.cells #[.string u] 9)) := by
  have hr : Reads (w.alloc (.cells #[.string u] 9)) (w.heap.size + 1) 1 (some ⟨w.heap.size, 0, none⟩) 1 ([u].map sv) := by
    refine ⟨rfl, fun _ => ⟨_, rfl, by simp, fun j v hv => ?_⟩⟩
    rw [Addr.add_mid, cell_of_row _ _ _ _ 9 (0, 0) (heap_alloc_new w _), Nat.zero_add, ← hv]
    simp [sv]
  obtain ⟨i0, hi, hz0, hz1, hz2⟩ := info_parts info_str
  have hown2 := hown.alloc (.cells #[.string u] 9)
  have hown' : (w.alloc (.cells #[.string u] 9)).ownsRow B 9 1 v ts.length (ts.map sv) := by have := hown2; unfold OwnV at this; rwa [List.length_map] at this
  refine wpList_append_any _ hgd s x 23 ho B 9 i0 (.string ⟨#[]⟩) 1 16 Try.underlying23 hi hz0 hz1 hz2 rfl (by decide) v ts.length _ hs hown' _ _ 1 1 _ hx hr (sv_one [u]) (by unfold maxLen; omega) (by omega) (by simp; omega) ?_
  intro v' w' h1 h2 h3
  refine h v' w' ?_ h2 h3
  unfold OwnV
  rw [List.length_map, List.length_append, List.map_append]
  exact h1
def AddP (g bm B : Nat) (w : World) (v : Value) (xs us : List ByteArray) (e : Ending) (w' : World) : Prop :=
  e = .returned (.tuple #[]) ∧ ∃ v', WX g bm B w' v' (addW xs us) ∧ Only (WS g bm v) w w' ∧ ∀ k, WS g bm v' k → WS g bm v k ∨ w.heap.size ≤ k
set_option maxRecDepth 100000 in
set_option maxHeartbeats 1600000 in
theorem wadd_any {g bm B : Nat} {F : Nat → Prop} {w : World} {v vi : Value} {xs us : List ByteArray} (h : WX g bm B w v xs) (hr : Rd F w 1 vi us.length (us.map sv)) (hF : ∀ k, F k → ¬ WS g bm v k) (hFl : ∀ k, F k → k < w.heap.size)
    (hsz : ∀ s ∈ us, s.size ≤ 1000000) (hl : xs.length + us.length ≤ 1000000) (hB : B ≤ w.heap.size) :
    Calls Try.prog 98 #[.pointer (some ⟨g, 0, none⟩), vi] w (AddP g bm B w v xs us) := by
  have HX := Lib.hid h
  obtain ⟨A, c, rfl, hlc, hcm⟩ : ∃ A c, vi = .slice A us.length c ∧ us.length ≤ c ∧ c ≤ maxLen := by
    obtain ⟨A, c, h1, h2, h3, _⟩ := hr
    exact ⟨A, c, h1, h2, h3⟩
  have HR := Lib.hid hr
  unfold maxLen at hcm
  obtain ⟨n, hn⟩ : ∃ n, us.length = n := ⟨_, rfl⟩
  rw [hn] at HR hlc hl ⊢
  have HN := Lib.hid hn
  have HF := Lib.hid hF
  have HFL := Lib.hid hFl
  have HSZ := Lib.hid hsz
  have HB0 := Lib.hid hB
  clear h hr hF hFl hsz hn
  go_enter Try.func98, Try.ntmps98
  go_wp2_with fail
  go_loopw [10] (fun x wr => ∃ (i : Nat) (v' : Value), i ≤ n ∧ x = .int .i64 (i : Int) ∧ WX g bm B wr v' (addW xs (us.take i)) ∧ Only (WS g bm v) w wr ∧ ∀ k, WS g bm v' k → WS g bm v k ∨ w.heap.size ≤ k) (fun x _ => n - (intOf x).toNat)
  case atStart => exact ⟨0, v, Nat.zero_le _, rfl, HX.out, Only.refl _ _, fun k hk => .inl hk⟩
  case round =>
    obtain ⟨i, v', hi, rfl, hx, ho, hws⟩ := hrel
    have HX' := Lib.hid hx
    have HO := Lib.hid ho
    have HWS := Lib.hid hws
    clear hx ho hws
    have z0 : (0 : Int) ≤ (i : Int) := by omega
    by_cases hlt : i < n
    · have z1 : (i : Int) < (n : Int) := by omega
      have hiu : i < us.length := by have := HN.out; omega
      obtain ⟨x, hxe⟩ : ∃ x, us[i] = x := ⟨_, rfl⟩
      have hgi : us[i]? = some x := by rw [← hxe]; exact List.getElem?_eq_getElem hiu
      obtain ⟨ad, rfl, x0⟩ : ∃ ad, A = some ad ∧ wr.cell? (ad.add i) = some (.string x) := by
        obtain ⟨A1, c1, e1, _, _, _, _, h5⟩ := HR.out.only HO.out (HF.out)
        injection e1 with e1 _ _
        obtain ⟨ad, e2, _, _, hcell⟩ := h5 (by omega)
        exact ⟨ad, e1.trans e2, hcell i (sv x) (by rw [List.getElem?_map, hgi]; rfl)⟩
      have HXS : Hid (x.size ≤ 1000000) := HSZ.out x (List.mem_of_getElem? hgi)
      have HKEY := Lib.hid (key_ba x HXS.out)
      have q1 := HX'.out.c1
      obtain ⟨D, hown, hmet⟩ := HX'.out.map
      have HOWN := Lib.hid hown
      have HMET := Lib.hid hmet
      have HTK : Hid (addW xs (us.take (i + 1)) = add1 (addW xs (us.take i)) x) := by unfold Hid; rw [addW_take hiu, hxe]
      obtain ⟨ys, hys⟩ : ∃ ys, addW xs (us.take i) = ys := ⟨_, rfl⟩
      rw [hys] at HX' HMET HTK
      have hyl : ys.length ≤ 1000000 - 1 := by
        rw [← hys]
        have h1 := addW_len (acc := xs) (xs := us.take i)
        rw [List.length_take] at h1
        omega
      have HYL := Lib.hid hyl
      have HSM : Hid (Maps.size D < maxLen) := by
        have h1 := hmet.small hown
        unfold Hid maxLen
        rw [hys] at h1
        omega
      clear hown hmet hys hyl hgi hiu hxe
      have HXA : Hid (WX g bm B (wr.alloc (.cells #[] 156)) v' ys) := HX'.out.only ((Only.refl (fun _ => False) wr).alloc _) (fun _ _ => id)
      have HOA : Hid (Only (WS g bm v) w (wr.alloc (.cells #[] 156))) := HO.out.alloc _
      have q2 : (wr.alloc (.cells #[] 156)).cell? ⟨g, 1, none⟩ = some (.map (some bm)) := HXA.out.c1
      cases ht : hasT ys x with
      | true =>
        have HT := Lib.hid ht
        clear ht
        go_wp2_with (at_lookup; refine wpList_lookup_own_unit _ rfl _ _ 135 rfl 9 156 lawS Try.underlying135 (zeroU _) bm _ D rfl (by exact HOWN.out) _ _ rfl (by exact HKEY.out) ?_; rw [HMET.out x, HT.out])
        go_roundw
        case rel => exact ⟨i + 1, v', by omega, by go_num, by rw [HTK.out, add1_old HT.out]; exact HXA.out, HOA.out, HWS.out⟩
        case measure => simp [intOf]; omega
      | false =>
        have HT := Lib.hid ht
        have HOWA : Hid ((wr.alloc (.cells #[] 156)).ownsMap Try.prog 9 unitElem bm (Maps.size D) D) := HOWN.out.alloc _
        have HMP : Hid (MetOK (ys ++ [x]) (D.put (.string x.toList) (.agg []))) := HMET.out.put (own_isMap HOWN.out) x _
        have hsm2 : ys.length + 1 ≤ 2000000 := by have := HYL.out; omega
        have HSM2 := Lib.hid hsm2
        obtain ⟨A2, m2, c2, hv2⟩ : ∃ A m c, v' = .slice A m c := by
          obtain ⟨A, c, e, _⟩ := HX'.out.own.length
          exact ⟨A, _, c, e⟩
        subst hv2
        clear hsm2
        have HBA : Hid (B ≤ wr.heap.size) := by unfold Hid; have := HB0.out; have := HO.out.size; omega
        clear ht
        go_wp2_with (first
          | (at_builtin; refine append_text_r rfl (.tmp 35) (.tmp 37) rfl w1 B (.slice A2 m2 c2) ys rfl HO1.out x rfl (by exact HSM2.out) (by exact HBB1.out) ?_; intro v3 w3 ho3 hg3 hk3; have HO3 := Lib.hid ho3; have HG3 := Lib.hid hg3; have HK3 := Lib.hid hk3; have HX3 : Hid (Blk w3 g 137 #[.slice A2 m2 c2, .map (some bm)]) := Blk.grown (HX1.out.alloc _) hg3 (fun e => HX'.out.v_g e.symm); have q4 : w3.cell? ⟨g, 0, none⟩ = some (.slice A2 m2 c2) := HX3.out.cell 0; have q5 := HX3.out.frozen 0; obtain ⟨A3, m3, c3, hv3⟩ : ∃ A m c, v3 = .slice A m c := (by obtain ⟨A, c, e, _⟩ := ho3.length; exact ⟨A, _, c, e⟩); subst hv3; clear ho3 hg3 hk3)
          | (at_lookup; refine wpList_lookup_own_unit _ rfl _ _ 135 rfl 9 156 lawS Try.underlying135 (zeroU _) bm _ D rfl (by exact HOWN.out) _ _ rfl (by exact HKEY.out) ?_; rw [HMET.out x, HT.out])
          | (at_mapUpdate; refine wpList_mapUpdate_own _ rfl _ _ _ 135 rfl 9 156 lawS Try.underlying135 unitElem bm _ D rfl (by exact HOWA.out) (by exact HSM.out) _ _ (.string x.toList) rfl rfl (by exact HKEY.out) (.agg []) [] unitElem_mk ?_; intro w1 hown1 hgr1; have HM1 := Lib.hid hown1; have HG1 := Lib.hid hgr1; have HX1 : Hid (Blk w1 g 137 #[.slice A2 m2 c2, .map (some bm)]) := Blk.grown HXA.out.blk hgr1 (fun e => HXA.out.g_bm (by injection e with e; exact e.symm)); have q3 : w1.cell? ⟨g, 0, none⟩ = some (.slice A2 m2 c2) := HX1.out.cell 0; have HO1 : Hid (OwnV 9 w1 B (.slice A2 m2 c2) (ys.map sv)) := OwnV.kept HXA.out.own hgr1 (.inr HXA.out.v_bm); have HBB1 : Hid (B ≤ w1.heap.size) := Nat.le_trans HBA.out (Nat.le_trans (Nat.le_of_lt (by simp)) hgr1.size); clear hown1 hgr1))
        have HP := Lib.hid (HXA.out.push HM1.out HMP.out HG1.out HO3.out HG3.out)
        obtain ⟨wz, hwz⟩ : ∃ W, W = w3.setCell ⟨g, 0, none⟩ (.slice A3 m3 c3) := ⟨_, rfl⟩
        rw [← hwz] at HP ⊢
        clear hwz
        go_wp2_with fail
        go_roundw
        case rel =>
          refine ⟨i + 1, .slice A3 m3 c3, by omega, by go_num, by rw [HTK.out, add1_new HT.out]; exact HP.out.1, HOA.out.trans HP.out.2 (fun k hk => HWS.out k hk), fun k hk => ?_⟩
          rcases hk with h1 | h1 | h1
          · exact .inl (.inl h1)
          · exact .inl (.inr (.inl h1))
          · rcases HK3.out with h2 | h2
            · exact HWS.out k (.inr (.inr (by rw [← h2]; exact h1)))
            · rw [h2] at h1
              injection h1 with h1
              right
              rw [← h1]
              have e1 := HG1.out.size
              have e2 := HO.out.size
              simp at e1 ⊢
              omega
        case measure => simp [intOf]; omega
    · obtain rfl : i = n := by omega
      have HTA : Hid (us.take i = us) := List.take_of_length_le (by rw [HN.out]; exact Nat.le_refl _)
      go_wp2_with fail
      go_end0
      have HF2 := HX'.out
      rw [HTA.out] at HF2
      exact ⟨rfl, v', HF2, HO.out, HWS.out⟩
end Go.Proofs.Yteffiedolcjjlaa.Tx
/- marlaw10's Source: objects by their hashes, or by the next one's. -/
set_option linter.unusedVariables false
set_option linter.unusedSimpArgs false
namespace Go.Proofs.Yteffiedolcjjlaa.Ob
open Go.RowKit Go.Proofs.Yteffiedolcjjlaa.Sh
open Go.Proofs.Yteffiedolcjjlaa.Tx (OwnV SlV sv Only Rd reads_at)

def hashL (b : List UInt8) : List UInt8 := hexL (sumOf b)
/-- Which one's hash stands before the i-th of n. -/
def kAt (lie : Bool) (n i : Nat) : Nat := if lie then (i + 1) % n else i
def tIds (l : List (List UInt8)) (lie : Bool) : List (List UInt8) := (List.range l.length).map fun i => hashL (l.getD (kAt lie l.length i) [])
def srcK : List (List UInt8) → List (List UInt8) → List UInt8 → Option (List UInt8)
  | i :: is, x :: xs, id => if i = id then some x else srcK is xs id
  | _, _, _ => none
def srcP (l : List (List UInt8)) (lie : Bool) (id : List UInt8) : Option (List UInt8) := srcK (tIds l lie) l id
theorem srcK_none {is xs : List (List UInt8)} {id : List UInt8} (h : ∀ (j : Nat) (i : List UInt8), j < xs.length → is[j]? = some i → i ≠ id) : srcK is xs id = none := by
  induction is generalizing xs with
  | nil => cases xs <;> rfl
  | cons i is ih =>
    cases xs with
    | nil => rfl
    | cons x xs =>
      rw [srcK, if_neg (h 0 i (by simp) rfl)]
      exact ih fun j u hj hu => h (j + 1) u (by simp; omega) (by simpa using hu)
theorem srcK_at {is xs : List (List UInt8)} {id x : List UInt8} (m : Nat) (h : ∀ (j : Nat) (i : List UInt8), j < m → is[j]? = some i → i ≠ id) (hm : is[m]? = some id) (hx : xs[m]? = some x) : srcK is xs id = some x := by
  induction m generalizing is xs with
  | zero =>
    cases is with
    | nil => cases hm
    | cons i is =>
      cases xs with
      | nil => cases hx
      | cons y xs =>
        simp at hm hx
        rw [srcK, if_pos hm, hx]
  | succ m ih =>
    cases is with
    | nil => cases hm
    | cons i is =>
      cases xs with
      | nil => cases hx
      | cons y xs =>
        rw [srcK, if_neg (h 0 i (by omega) rfl)]
        exact ih (fun j u hj hu => h (j + 1) u (by omega) (by simpa using hu)) (by simpa using hm) (by simpa using hx)
theorem srcK_mem {is xs : List (List UInt8)} {id x : List UInt8} (h : srcK is xs id = some x) : x ∈ xs := by
  induction is generalizing xs with
  | nil => cases xs <;> cases h
  | cons i is ih =>
    cases xs with
    | nil => cases h
    | cons y xs =>
      rw [srcK] at h
      split at h
      · injection h with h
        rw [h]; exact List.mem_cons_self
      · exact List.mem_cons_of_mem _ (ih h)
theorem srcP_mem {l : List (List UInt8)} {lie : Bool} {id x : List UInt8} (h : srcP l lie id = some x) : x ∈ l := srcK_mem h
theorem kAt_lt {lie : Bool} {n i : Nat} (h : i < n) : kAt lie n i < n := by
  unfold kAt
  split
  · exact Nat.mod_lt _ (by omega)
  · exact h
theorem tIds_at {l : List (List UInt8)} {lie : Bool} {i : Nat} (h : i < l.length) : (tIds l lie)[i]? = some (hashL (l.getD (kAt lie l.length i) [])) := by
  unfold tIds
  rw [List.getElem?_map, List.getElem?_range h]
  rfl
/-- What a base answers. -/
def AskR (base : List UInt8 → Option (List UInt8)) (id : ByteArray) (W : World) (e : Ending) (w' : World) : Prop :=
  ∃ (A : Option Addr) (n c : Nat) (t : Bool), e = .returned (.tuple #[.slice A n c, .bool t]) ∧ Below W.heap.size W w' ∧
    ((base id.toList = none ∧ t = false ∧ A = none ∧ n = 0 ∧ c = 0) ∨ ∃ x, base id.toList = some x ∧ t = true ∧ x.length = n ∧ Own w' W.heap.size (.slice A n c) x)
/-- What a source has in memory: its texts, whether it lies, their hashes. -/
structure SrcX (w : World) (p1 p2 p3 : Nat) (l : List (List UInt8)) (lie : Bool) : Prop where
  c1 : ∃ v, w.cell? ⟨p1, 0, none⟩ = some v ∧ LsV w v l
  c2 : w.cell? ⟨p2, 0, none⟩ = some (.bool lie)
  c3 : ∃ v, w.cell? ⟨p3, 0, none⟩ = some v ∧ SlV w v (((l.map hashL).map str).map sv)
theorem SrcX.below {w w' : World} {p1 p2 p3 : Nat} {l : List (List UInt8)} {lie : Bool} (h : SrcX w p1 p2 p3 l lie) (hb : Below w.heap.size w w') : SrcX w' p1 p2 p3 l lie := by
  obtain ⟨v1, h1, g1⟩ := h.c1
  obtain ⟨v3, h3, g3⟩ := h.c3
  exact ⟨⟨v1, (hb.cell (World.block_lt_of_cell? w _ h1)).trans h1, g1.below hb⟩, (hb.cell (World.block_lt_of_cell? w _ h.c2)).trans h.c2, ⟨v3, (hb.cell (World.block_lt_of_cell? w _ h3)).trans h3, g3.below hb⟩⟩
set_option maxRecDepth 100000 in
set_option maxHeartbeats 1600000 in
theorem src1_any {p1 p2 p3 : Nat} {l : List (List UInt8)} {lie : Bool} {w : World} (id : ByteArray) (h : SrcX w p1 p2 p3 l lie) (hl : l.length ≤ 1000000) (hs : ∀ x ∈ l, x.length ≤ 1000000) :
    Calls Try.prog 46 #[.string id, .pointer (some ⟨p1, 0, none⟩), .pointer (some ⟨p2, 0, none⟩), .pointer (some ⟨p3, 0, none⟩)] w (AskR (srcP l lie) id w) := by
  obtain ⟨v1, q1, g1⟩ := h.c1
  have q2 := h.c2
  obtain ⟨v3, q3, g3⟩ := h.c3
  obtain ⟨A, c, rfl, hlc, hcm⟩ := g1.slice
  obtain ⟨A3, c3, hv3, hlc3, hcm3, _⟩ := g3
  rw [List.length_map, List.length_map, List.length_map] at hv3 hlc3
  subst hv3
  unfold maxLen at hcm hcm3
  have H := Lib.hid h
  have H1 := Lib.hid g1
  have HSL := Lib.hid hs
  obtain ⟨n, hn⟩ : ∃ n, l.length = n := ⟨_, rfl⟩
  rw [hn] at q1 q3 H1 hlc hlc3 hl
  have HN := Lib.hid hn
  clear h g1 hs hn
  go_enter Try.func46, Try.ntmps46
  go_wp2_with fail
  go_loopw [7] (fun x wr => ∃ i : Nat, i ≤ n ∧ x = .int .i64 (i : Int) ∧ wr = w ∧ ∀ (j : Nat) (u : List UInt8), j < i → (tIds l lie)[j]? = some u → u ≠ id.toList) (fun x _ => n - (intOf x).toNat)
  case atStart => exact ⟨0, Nat.zero_le _, rfl, rfl, fun j u hj => absurd hj (Nat.not_lt_zero _)⟩
  case round =>
    obtain ⟨i, hi, rfl, rfl, hno⟩ := hrel
    have HNO := Lib.hid hno
    clear hno
    have z0 : (0 : Int) ≤ (i : Int) := by omega
    by_cases hlt : i < n
    · have z1 : (i : Int) < (n : Int) := by omega
      have hil : i < l.length := by have := HN.out; omega
      obtain ⟨k, hk⟩ : ∃ k, kAt lie n i = k := ⟨_, rfl⟩
      have hkn : k < n := by rw [← hk]; exact kAt_lt hlt
      have hTI : (tIds l lie)[i]? = some (hashL (l.getD k [])) := by rw [tIds_at hil, HN.out, hk]
      have HTI := Lib.hid hTI
      obtain ⟨b, hb⟩ : ∃ b, l[k]? = some b := ⟨_, List.getElem?_eq_getElem (by have := HN.out; omega)⟩
      have hgd : l.getD k [] = b := by rw [List.getD_eq_getElem?_getD, hb]; rfl
      rw [hgd] at HTI
      obtain ⟨x, hx⟩ : ∃ x, l[i]? = some x := ⟨_, List.getElem?_eq_getElem hil⟩
      have HX := Lib.hid hx
      have HXL : Hid (x.length ≤ 1000000) := HSL.out x (List.mem_of_getElem? hx)
      obtain ⟨ad1, A4, c4, e1, x1, _, _, hsx⟩ := H1.out.at_ i x hx
      have HSX := Lib.hid hsx
      obtain ⟨ad3, e3, x3⟩ : ∃ ad, A3 = some ad ∧ wr.cell? (ad.add k) = some (.string (str (hashL b))) := by
        obtain ⟨v3, y3, g3⟩ := H.out.c3
        rw [q3] at y3
        injection y3 with y3
        obtain ⟨A', c', e', _, _, hrd, _⟩ := g3
        rw [← y3] at e'
        injection e' with e' _ _
        subst e'
        exact reads_at hrd k (sv (str (hashL b))) (by rw [List.getElem?_map, List.getElem?_map, List.getElem?_map, hb]; rfl)
      subst e1 e3
      have HK : Hid ((lie = true → ((i : Int) + 1) % (n : Int) = (k : Int)) ∧ (lie = false → i = k)) := by
        refine ⟨fun e => ?_, fun e => ?_⟩
        · rw [← hk]; unfold kAt; rw [if_pos e]; exact (Int.natCast_emod (i + 1) n).symm
        · rw [← hk]; unfold kAt; rw [if_neg (by rw [e]; decide)]
      have z2 : (0 : Int) ≤ (k : Int) := by omega
      have z3 : (k : Int) < (n : Int) := by omega
      have st := str_toList (hashL b)
      obtain ⟨xl, hxl⟩ : ∃ y, x.length = y := ⟨_, rfl⟩
      rw [hxl] at x1 HSX
      have HXN := Lib.hid hxl
      clear hil hk hTI hb hgd hx hsx hxl
      cases lie with
      | true =>
        have e1 := HK.out.1 rfl
        by_cases he : hashL b = id.toList
        · have t1 : (hashL b == id.toList) = true := beq_iff_eq.2 he
          have HE := Lib.hid he
          clear he
          go_wp2_with fail
          refine (copyb_any _ x wr HSX.out (by rw [HXN.out]; have := HXL.out; rw [HXN.out] at this; omega)).mono ?_
          rintro e w2 ⟨v2, rfl, ho2, hb2⟩
          obtain ⟨A5, c5, rfl, _, _⟩ := ho2.length
          have HO2 := Lib.hid ho2
          have HB2 := Lib.hid hb2
          clear ho2 hb2
          rw [HXN.out] at HO2 ⊢
          go_wp2_with fail
          go_ret2
          exact ⟨A5, xl, c5, true, rfl, HB2.out, .inr ⟨x, srcK_at i HNO.out (by rw [HTI.out, HE.out]) HX.out, rfl, HXN.out, HO2.out⟩⟩
        · have t1 : (hashL b == id.toList) = false := beq_eq_false_iff_ne.2 he
          have HE := Lib.hid he
          clear he
          go_wp2_with fail
          go_roundw
          case rel => exact ⟨i + 1, by omega, by go_num, trivial, fun j u hj hu => by
            rcases Nat.lt_or_ge j i with h1 | h1
            · exact HNO.out j u h1 hu
            · have : j = i := by omega
              subst this
              rw [HTI.out] at hu
              injection hu with hu
              rw [← hu]
              exact HE.out⟩
          case measure => simp [intOf]; omega
      | false =>
        obtain rfl := HK.out.2 rfl
        by_cases he : hashL b = id.toList
        · have t1 : (hashL b == id.toList) = true := beq_iff_eq.2 he
          have HE := Lib.hid he
          clear he
          go_wp2_with fail
          refine (copyb_any _ x wr HSX.out (by rw [HXN.out]; have := HXL.out; rw [HXN.out] at this; omega)).mono ?_
          rintro e w2 ⟨v2, rfl, ho2, hb2⟩
          obtain ⟨A5, c5, rfl, _, _⟩ := ho2.length
          have HO2 := Lib.hid ho2
          have HB2 := Lib.hid hb2
          clear ho2 hb2
          rw [HXN.out] at HO2 ⊢
          go_wp2_with fail
          go_ret2
          exact ⟨A5, xl, c5, true, rfl, HB2.out, .inr ⟨x, srcK_at i HNO.out (by rw [HTI.out, HE.out]) HX.out, rfl, HXN.out, HO2.out⟩⟩
        · have t1 : (hashL b == id.toList) = false := beq_eq_false_iff_ne.2 he
          have HE := Lib.hid he
          clear he
          go_wp2_with fail
          go_roundw
          case rel => exact ⟨i + 1, by omega, by go_num, trivial, fun j u hj hu => by
            rcases Nat.lt_or_ge j i with h1 | h1
            · exact HNO.out j u h1 hu
            · have : j = i := by omega
              subst this
              rw [HTI.out] at hu
              injection hu with hu
              rw [← hu]
              exact HE.out⟩
          case measure => simp [intOf]; omega
    · obtain rfl : i = n := by omega
      go_wp2_with fail
      go_ret2
      refine ⟨none, 0, 0, false, rfl, Below.refl _ _, .inl ⟨?_, rfl, rfl, rfl, rfl⟩⟩
      exact srcK_none fun j u hj hu => HNO.out j u (by have := HN.out; omega) hu
end Go.Proofs.Yteffiedolcjjlaa.Ob
