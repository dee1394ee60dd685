/- Texts put together: Gr3. -/
import Derived.Test.YtecpedecgcaeoaaQg30
import Derived.Test.YtecpedecgcaeoaaQg36
/- The document's Graph: Order. -/
set_option linter.unusedVariables false
set_option linter.unusedSimpArgs false
namespace Go.Proofs.Ytecpedecgcaeoaa.Tx
open Go.RowKit Go.Proofs.Ytecpedecgcaeoaa.Sh

theorem ord_same {G : GR} {xs : List ByteArray} {os os' : List Nat} (hw : GW G) (h : OrdG G xs os) (h' : OrdG G xs os') : os = os' := by
  refine List.Perm.eq_of_pairwise (le := befG G) (fun a b _ _ hab hba => ?_) h.2 h'.2 (h.1.trans h'.1.symm)
  exact absurd (bef_trans hab hba) bef_irr
theorem pls_anc {G : GR} (hw : GW G) {xs : List ByteArray} : (plsL G (ancT G xs)).Perm (ancL (parAt G) G.length (plsL G xs)) := by
  have h1 : (ancT G xs).Perm ((ancL (parAt G) G.length (plsL G xs)).map (idAt G)) := sortT_perm _
  have h2 := h1.map (pl G)
  have h3 : ((ancL (parAt G) G.length (plsL G xs)).map (idAt G)).map (pl G) = ancL (parAt G) G.length (plsL G xs) := pls_map hw (fun k hk => (mem_anc.1 hk).1)
  rw [h3] at h2
  exact h2
theorem own_new (w : World) (x : ByteArray) : OwnV 9 (w.alloc (.cells #[.string x] 9)) w.heap.size (.slice (some ⟨w.heap.size, 0, none⟩) 1 1) ([x].map sv) := by
  have hg := Blk.new w 9 #[.string x]
  exact OwnV.mk (vs := [x].map sv) (Nat.le_refl _) hg (Nat.le_refl _) (by unfold maxLen; omega) rfl rfl
theorem own_front {E : TypeId} {w : World} {B : Nat} {A : Option Addr} {n c : Nat} {vs : List Value} (h : OwnV E w B (.slice A n c) vs) (k : Nat) (hk : k ≤ vs.length) : OwnV E w B (.slice A k c) (vs.take k) := by
  rcases h.blk with ⟨he, rfl⟩ | ⟨g, c', cur, he, hb, hlt, hg, hc, hm, hs, ht⟩
  · injection he with e1 e2 e3
    subst e1 e3
    have : k = 0 := by simpa using hk
    subst this
    exact OwnV.nil_ _ _
  · injection he with e1 e2 e3
    subst e1 e3
    have hl : (vs.take k).length = k := by rw [List.length_take]; omega
    have := OwnV.mk (E := E) (w := w) (B := B) (g := g) (c := c) (cur := cur) (vs := vs.take k) hb hg (by rw [hl]; omega) hm hs (by rw [hl, ← ht, List.take_take, Nat.min_eq_left hk])
    rwa [hl] at this
/-- append of texts, as a step. -/
theorem sapp_many {ops : Array Oper} {o : Oper} {a : Act} {K : Act → World → Prop} {Q : Exit → Act → World → Prop} {E : Prop} (d : Nat) (hd : o.dst = some d) (hgd : o.guard = none) (s x : Operand)
    (ho : o.op = .call { callee := .builtin .append, args := #[s, x], argTypes := #[23, 23] }) (w : World) (B : Nat) (v : Value) (ts : List ByteArray) (hs : a.eval s = v) (hown : OwnV 9 w B v (ts.map sv))
    (vx : Value) (us : List ByteArray) (hx : a.eval x = vx) (hr : SlV w vx (us.map sv)) (hsmall : ts.length + us.length ≤ 2000000) (hB : B ≤ w.heap.size)
    (h : ∀ v' w', OwnV 9 w' B v' ((ts ++ us).map sv) → Below B w w' → K (a.put (some d) v') w') : if Region.wanted o (yielded ops a.tmps) = true then Oper.wp Try.prog o a w K Q else E := by
  obtain ⟨A, c, rfl, _, _, hR⟩ := hr.len
  obtain ⟨i0, hi, hz0, hz1, hz2⟩ := info_parts info_str
  have hown' : w.ownsRow B 9 1 v ts.length (ts.map sv) := by have := hown; unfold OwnV at this; rwa [List.length_map] at this
  simp only [List.length_map] at hR hx
  refine step_append_any w hgd s x 23 ho B 9 i0 (.string ⟨#[]⟩) 1 16 Try.underlying23 hi hz0 hz1 hz2 rfl (by decide) v ts.length _ hs hown' _ A us.length c _ hx hR (sv_one us) (by unfold maxLen; omega) (by omega) hB ?_
  intro v' w' h1 h2 h3
  rw [hd]
  refine h v' w' ?_ ((Below.refl _ _).grown h2 hB (fun k hk => (hown'.lt k hk).1))
  unfold OwnV
  rw [List.length_map, List.length_append, List.map_append]
  exact h1
theorem gsize_txt (w : World) : (sizeOf (Try.prog.elem 23)).run Try.prog w = .ok 1 w := by kernel_rfl
theorem gt_front (A : Option Addr) (l c k : Nat) (hkc : k ≤ c) (w : World) : (Instr.slice 23 (.slice A l c) none (some (.int .i64 (k : Int))) none).run Try.prog w = .ok (.slice A k c) w := by
  rw [run_slice_h w 23 A l c Try.underlying23 .i64 k (by omega) (by omega), gsize_txt]
  simp only [Result.andThen_ok, sliced, Int.toNat_natCast]
  by_cases h : c = 0
  · subst h; simp
  · have e : A.map (fun a => a.add 0) = A := by cases A <;> simp [Addr.add]
    simp [h, e]
theorem gt_back (A : Option Addr) (l c k : Nat) (hkl : k ≤ l) (w : World) : (Instr.slice 23 (.slice A l c) (some (.int .i64 (k : Int))) none none).run Try.prog w = .ok (.slice (if c = k then A else A.map (·.add (k * 1))) (l - k) (c - k)) w := by
  rw [run_slice_l w 23 A l c Try.underlying23 .i64 k (by omega) (by omega), gsize_txt]
  rfl
theorem gslv_back {W : World} {A : Option Addr} {n c : Nat} {xs : List ByteArray} (h : SlV W (.slice A n c) (xs.map sv)) (k : Nat) (hk : k ≤ n) : SlV W (.slice (if c = k then A else A.map (·.add (k * 1))) (n - k) (c - k)) ((xs.drop k).map sv) := by
  obtain ⟨A', c', hv, h1, h2, h3, h4⟩ := h
  injection hv with e1 e2 e3
  subst e1 e3
  rw [List.length_map] at e2 h1
  have hcut := h3.cut (k := k) (cap := c) (by rw [List.length_map]; omega) (by rw [List.length_map]; exact h1)
  rw [List.length_map] at hcut
  refine ⟨_, c - k, by rw [List.length_map, List.length_drop, e2], by rw [List.length_map, List.length_drop]; omega, by omega, ?_, fun e => ?_⟩
  · rw [List.length_map, List.length_drop, List.map_drop]
    have : xs.length - k = xs.length - k := rfl
    rw [Nat.mul_one] at hcut
    rw [Nat.mul_one]
    exact hcut
  · by_cases hc : c = k
    · rw [List.drop_eq_nil_of_le (by omega)]; rfl
    · rw [if_neg hc] at e
      cases A with
      | none =>
        have := List.map_eq_nil_iff.1 (h4 rfl)
        rw [this]
        simp
      | some ad => cases e
/-- What the outer loop has made of the first i. -/
structure OI (G : GR) (l : List ByteArray) (i : Nat) (os : List Nat) : Prop where
  perm : os.Perm (plsL G (l.take i))
  pw : os.Pairwise (befG G)
theorem OI.len {G : GR} {l : List ByteArray} {i : Nat} {os : List Nat} (h : OI G l i os) (hi : i ≤ l.length) : os.length = i := by
  rw [h.perm.length_eq, pls_len, List.length_take]
  omega
theorem OI.mem {G : GR} {l : List ByteArray} {i : Nat} {os : List Nat} (h : OI G l i os) (hall : allG G l = true) {y : Nat} (hy : y ∈ os) : y < G.length ∧ idAt G y ∈ l.take i := by
  have h1 := h.perm.mem_iff.1 hy
  obtain ⟨s, hs, rfl⟩ := List.mem_map.1 h1
  have hin := all_iff.1 hall s (List.mem_of_mem_take hs)
  exact ⟨pl_lt hin, by rw [id_pl hin]; exact hs⟩
theorem OI.next {G : GR} {l : List ByteArray} {i k : Nat} {os : List Nat} {x : ByteArray} (h : OI G l i os) (hall : allG G l = true) (hst : Strict l) (hx : l[i]? = some x) (hk : k ≤ os.length)
    (h1 : ∀ j, k ≤ j → ∀ hj : j < os.length, stAt G os[j] < stAt G (pl G x)) (h2 : ∀ j, j < k → ∀ hj : j < os.length, stAt G (pl G x) ≤ stAt G os[j]) : OI G l (i + 1) (os.take k ++ ([pl G x] ++ os.drop k)) := by
  have hin := all_iff.1 hall x (List.mem_of_getElem? hx)
  refine ⟨?_, ins_ord h.pw (fun y hy => ?_) hk h1 h2⟩
  · rw [pls_next hx]
    exact (inso_perm (pl G x) k).trans (h.perm.append_right _)
  · obtain ⟨_, hm⟩ := h.mem hall hy
    rw [id_pl hin]
    have hil := (List.getElem?_eq_some_iff.1 hx).1
    have hcat : l = l.take i ++ x :: l.drop (i + 1) := by
      have hxe : l[i] = x := by rw [List.getElem?_eq_getElem hil] at hx; injection hx
      rw [← hxe, ← List.drop_eq_getElem_cons hil, List.take_append_drop]
    have hs := hst
    unfold Strict at hs
    rw [hcat, List.pairwise_append] at hs
    exact hs.2.2 _ hm _ List.mem_cons_self
set_option maxRecDepth 100000 in
set_option maxHeartbeats 6400000 in
theorem rgorder_any {w : World} {g : Nat} {G : GR} (v : Value) (xs : List ByteArray) (h : RG w g G) (hw : GW G) (hl : G.length ≤ 400) (hv : SlV w v (xs.map sv)) (hn : xs.length ≤ 400) :
    Calls Try.prog 26 #[.pointer (some ⟨g, 0, none⟩), v] w (OrdPost w G xs) := by
  have HANC := Lib.hid (rganc_any v xs h hw (by omega) hv (by omega))
  unfold AskPost at HANC
  unfold OrdPost
  have HGW := Lib.hid hw
  have HST := Lib.hid (fun W (hW : Below w.heap.size w W) (y : Nat) (hy : y < G.length) => by
    have := Gd.rgstamp_any (idAt G y) (h.below hW) (by omega)
    rw [in_id hw hy, pl_id hw hy, if_pos rfl] at this
    exact this)
  have HXL : Hid ((ancT G xs).length ≤ 400) := Nat.le_trans ancT_len hl
  have HSTR : Hid (Strict (ancT G xs)) := ancT_strict hw
  have HALL : Hid (allG G (ancT G xs) = true) := all_iff.2 fun s hs => by obtain ⟨k, hk, _, rfl⟩ := anc_memT.1 hs; exact in_id hw hk
  have HPA := Lib.hid (pls_anc (xs := xs) hw)
  obtain ⟨ok, hok⟩ : ∃ ok, allG G xs = ok := ⟨_, rfl⟩
  rw [hok] at HANC ⊢
  obtain ⟨X, hX⟩ : ∃ X, ancT G xs = X := ⟨_, rfl⟩
  rw [hX] at HANC HXL HSTR HALL HPA
  clear h hw hv hok hX
  cases ok with
  | false =>
    go_enter Try.func26, Try.ntmps26
    go_wp2_with fail
    refine HANC.out.mono ?_
    rintro e w2 ⟨hb2, ⟨hx, _⟩ | ⟨_, rfl⟩⟩
    · cases hx
    have HB2 := Lib.hid hb2
    clear hb2
    go_wp2_with fail
    go_ret2
    exact ⟨HB2.out, .inr ⟨trivial, rfl⟩⟩
  | true =>
  go_enter Try.func26, Try.ntmps26
  go_wp2_with fail
  refine HANC.out.mono ?_
  rintro e w2 ⟨hb2, ⟨_, va, rfl, hva⟩ | ⟨hx, _⟩⟩
  rotate_left
  · cases hx
  have HB2 := Lib.hid hb2
  have HVA := Lib.hid hva.slv
  obtain ⟨Aa, ca, hva2, hca1, hca2, _⟩ := hva.slv.len
  rw [List.length_map] at hva2 hca1
  obtain ⟨m, hm⟩ : ∃ m, X.length = m := ⟨_, rfl⟩
  rw [hm] at hva2 hca1 HXL
  subst hva2
  have HM := Lib.hid hm
  have hm400 := HXL.out
  unfold maxLen at hca2
  clear hva hb2 hm
  go_wp2_with fail
  go_loopw [8, 9] (fun v8 x wr => ∃ (i : Nat) (os : List Nat), i ≤ m ∧ x = .int .i64 (i : Int) ∧ OI G X i os ∧ OwnV 9 wr w2.heap.size v8 ((os.map (idAt G)).map sv) ∧ Below w2.heap.size w2 wr) (fun _ x _ => m - (intOf x).toNat)
  case atStart => exact ⟨0, [], Nat.zero_le _, rfl, ⟨List.Perm.refl _, List.Pairwise.nil⟩, OwnV.nil_ _ _, Below.refl _ _⟩
  case round =>
    obtain ⟨i, os, hi, rfl, hoi, ho, hb⟩ := hrel
    have HOI := Lib.hid hoi
    have HB := Lib.hid hb
    have hol := hoi.len (by rw [HM.out]; exact hi)
    obtain ⟨Ao, co, hvo, hco1, hco2⟩ := ho.length
    rw [List.length_map, List.length_map, hol] at hvo hco1
    subst hvo
    have HO := Lib.hid ho
    have HOL := Lib.hid hol
    unfold maxLen at hco2
    clear hoi ho hb hol
    have z0 : (0 : Int) ≤ (i : Int) := by omega
    by_cases hlt : i < m
    · have z1 : (i : Int) < (m : Int) := by omega
      have hil : i < X.length := by rw [HM.out]; exact hlt
      obtain ⟨x, hx⟩ : ∃ x, X[i]? = some x := ⟨_, List.getElem?_eq_getElem hil⟩
      have hin := all_iff.1 HALL.out x (List.mem_of_getElem? hx)
      obtain ⟨p, hp⟩ : ∃ p, pl G x = p := ⟨_, rfl⟩
      have hpn : p < G.length := by rw [← hp]; exact pl_lt hin
      have hxi : idAt G p = x := by rw [← hp]; exact id_pl hin
      have HX := Lib.hid hx
      have HPP := Lib.hid hp
      have HXI := Lib.hid hxi
      obtain ⟨ada, rfl, _⟩ := gtext_cell (HVA.out.below HB.out) i x hx
      have HCX : Hid (∀ W, Below w2.heap.size w2 W → W.cell? (ada.add i) = some (.string x)) := fun W hW => by
        obtain ⟨_, ea, hc⟩ := gtext_cell (HVA.out.below hW) i x HX.out
        injection ea with ea
        subst ea
        exact hc
      obtain ⟨sx, hsx⟩ : ∃ s, stAt G p = s := ⟨_, rfl⟩
      have HSX := Lib.hid (fun W (hW : Below w.heap.size w W) => by
        have := HST.out W hW p hpn
        rw [HXI.out, hsx] at this
        exact this)
      have HSXE := Lib.hid hsx
      clear hil hx hin hp hxi hsx
      go_wp2_with fail
      go_loopw [10] (fun v10 wx => ∃ k : Nat, k ≤ i ∧ v10 = .int .i64 (k : Int) ∧ (∀ j, k ≤ j → ∀ hj : j < os.length, stAt G os[j] < sx) ∧ Below wr.heap.size wr wx) (fun v10 _ => (intOf v10).toNat)
      case atStart => exact ⟨i, Nat.le_refl _, rfl, (fun j h1 h2 => by have := HOL.out; omega), Below.refl _ _⟩
      case round =>
        obtain ⟨k, hk, rfl, hlow, hbx⟩ := hrel
        have HLOW := Lib.hid hlow
        have HB2x := Lib.hid (HB.out.trans (hbx.mono HB.out.size))
        have HBx := Lib.hid hbx
        have HOx := Lib.hid (HO.out.below hbx)
        have HB0x := Lib.hid (HB2.out.trans (HB2x.out.mono HB2.out.size))
        clear hlow hbx
        have y0 : (0 : Int) ≤ (k : Int) := by omega
        have hsf := own_front HOx.out k (by rw [List.length_map, List.length_map, HOL.out]; exact hk)
        rw [← List.map_take] at hsf
        have hfr : ∀ W, (Instr.slice 23 (.slice Ao i co) none (some (.int .i64 (k : Int))) none).run Try.prog W = .ok (.slice Ao k co) W := fun W => gt_front Ao i co k (by omega) W
        have hbk : ∀ W, (Instr.slice 23 (.slice Ao i co) (some (.int .i64 (k : Int))) none none).run Try.prog W = .ok (.slice (if co = k then Ao else Ao.map (·.add (k * 1))) (i - k) (co - k)) W := fun W => gt_back Ao i co k hk W
        have hsb := gslv_back HOx.out.slv k hk
        obtain ⟨D, hD⟩ : ∃ y, (if co = k then Ao else Ao.map (·.add (k * 1))) = y := ⟨_, rfl⟩
        obtain ⟨dl, hdl⟩ : ∃ y, i - k = y := ⟨_, rfl⟩
        obtain ⟨dc, hdc⟩ : ∃ y, co - k = y := ⟨_, rfl⟩
        simp only [hD, hdl, hdc] at hbk hsb
        have HSF := Lib.hid hsf
        have HSB := Lib.hid hsb
        clear hsf hsb hD hdl hdc
        by_cases hk0 : k = 0
        · subst hk0
          have y1 : ¬ (0 : Int) < ((0 : Nat) : Int) := by omega
          have e1 : decide ((0 : Int) < ((0 : Nat) : Int)) = false := decide_eq_false y1
          have hfr0 : ∀ W, (Instr.slice 23 (.slice Ao i co) none (some (.int .i64 0)) none).run Try.prog W = .ok (.slice Ao 0 co) W := hfr
          have hbk0 : ∀ W, (Instr.slice 23 (.slice Ao i co) (some (.int .i64 0)) none none).run Try.prog W = .ok (.slice D dl dc) W := hbk
          clear hfr hbk
          have HNEXT : Hid (OI G X (i + 1) (os.take 0 ++ ([p] ++ os.drop 0))) := by
            have := HOI.out.next HALL.out HSTR.out HX.out (Nat.zero_le _) (by rw [HPP.out, HSXE.out]; exact HLOW.out) (fun j h1 => by omega)
            rw [HPP.out] at this
            exact this
          go_wp2_with fail
          go_quiet (fail)
          go_wp2_with fail
          have HBZ : Hid (Below wr.heap.size wr (wr.drewN nq)) := below_drewN (Below.refl _ _) nq
          generalize wr.drewN nq = wz at HBZ ⊢
          have HZ := Lib.hid HBZ.out.size
          have HB2z := Lib.hid (HB2x.out.trans (HBZ.out.mono HB2x.out.size))
          have HSFz := Lib.hid (HSF.out.below HBZ.out)
          have HSBz := Lib.hid (HSB.out.below HBZ.out)
          -- STEPS 11
          refine wp_region_held_drew (S := (fun W => W.cell? (ada.add i) = some (.string x))) (by kernel_rfl) ?_ (fun hHeld => ?_)
          · try dsimp only
            exact HCX.out _ HB2z.out.drew
          refine take_at (i := 0) (d := 48) (v := ?_) rfl (by kernel_rfl) (by kernel_rfl) (by kernel_rfl) (by kernel_rfl) (fun _ _ _ h => h) (Or.inl ⟨by kernel_rfl, ?_⟩) (by assumption) ?_
          rotate_left
          · intro W hSw
            try dsimp only at hSw
            go_simp
            first | done | with_reducible rfl
          try simp only [Act.put, List.setIfInBounds_toArray, List.set_cons_zero, List.set_cons_succ]
          refine take_at (i := 1) (d := 49) (v := ?_) rfl (by kernel_rfl) (by kernel_rfl) (by kernel_rfl) (by kernel_rfl) (fun _ _ _ h => h) (Or.inl ⟨by kernel_rfl, ?_⟩) (by assumption) ?_
          rotate_left
          · intro W hSw
            try dsimp only at hSw
            go_simp
            first | done | with_reducible rfl
          try simp only [Act.put, List.setIfInBounds_toArray, List.set_cons_zero, List.set_cons_succ]
          refine take_at (i := 2) (d := 50) (v := ?_) rfl (by kernel_rfl) (by kernel_rfl) (by kernel_rfl) (by kernel_rfl) (fun _ _ _ h => h) (Or.inl ⟨by kernel_rfl, ?_⟩) (by assumption) ?_
          rotate_left
          · intro W hSw
            try dsimp only at hSw
            go_simp
            first | done | with_reducible rfl
          try simp only [Act.put, List.setIfInBounds_toArray, List.set_cons_zero, List.set_cons_succ]
          refine take_at (i := 3) (d := 51) (v := ?_) rfl (by kernel_rfl) (by kernel_rfl) (by kernel_rfl) (by kernel_rfl) (fun _ _ _ h => h) (Or.inl ⟨by kernel_rfl, ?_⟩) (by assumption) ?_
          rotate_left
          · intro W hSw
            try dsimp only at hSw
            go_simp
            first | done | with_reducible rfl
          try simp only [Act.put, List.setIfInBounds_toArray, List.set_cons_zero, List.set_cons_succ]
          refine take_at (i := 4) (d := 52) (v := ?_) rfl (by kernel_rfl) (by kernel_rfl) (by kernel_rfl) (by kernel_rfl) (fun _ _ _ h => h) (Or.inl ⟨by kernel_rfl, ?_⟩) (by assumption) ?_
          rotate_left
          · intro W hSw
            try dsimp only at hSw
            go_simp
            first | done | with_reducible rfl
          try simp only [Act.put, List.setIfInBounds_toArray, List.set_cons_zero, List.set_cons_succ]
          refine take_at (i := 5) (d := 53) (v := ?_) rfl (by kernel_rfl) (by kernel_rfl) (by kernel_rfl) (by kernel_rfl) (fun _ _ _ h => h) (Or.inl ⟨by kernel_rfl, ?_⟩) (by assumption) ?_
          rotate_left
          · intro W hSw
            try dsimp only at hSw
            go_simp
            first | done | with_reducible rfl
          try simp only [Act.put, List.setIfInBounds_toArray, List.set_cons_zero, List.set_cons_succ]
          refine take_at (i := 6) (d := 54) (v := ?_) rfl (by kernel_rfl) (by kernel_rfl) (by kernel_rfl) (by kernel_rfl) (fun _ _ _ h => h) (Or.inl ⟨by kernel_rfl, ?_⟩) (by assumption) ?_
          rotate_left
          · intro W hSw
            try dsimp only at hSw
            go_simp
            first | done | with_reducible rfl
          try simp only [Act.put, List.setIfInBounds_toArray, List.set_cons_zero, List.set_cons_succ]
          refine take_at (i := 8) (d := 56) (v := ?_) rfl (by kernel_rfl) (by kernel_rfl) (by kernel_rfl) (by kernel_rfl) (fun _ _ _ h => h) (Or.inl ⟨by kernel_rfl, ?_⟩) (by assumption) ?_
          rotate_left
          · intro W hSw
            try dsimp only at hSw
            go_simp
            first | done | with_reducible rfl
          try simp only [Act.put, List.setIfInBounds_toArray, List.set_cons_zero, List.set_cons_succ]
          refine take_at (i := 9) (d := 57) (v := ?_) rfl (by kernel_rfl) (by kernel_rfl) (by kernel_rfl) (by kernel_rfl) (fun _ _ _ h => h) (Or.inl ⟨by kernel_rfl, ?_⟩) (by assumption) ?_
          rotate_left
          · intro W hSw
            try dsimp only at hSw
            go_simp
            first | done | with_reducible rfl
          try simp only [Act.put, List.setIfInBounds_toArray, List.set_cons_zero, List.set_cons_succ]
          refine take_at (i := 10) (d := 58) (v := ?_) rfl (by kernel_rfl) (by kernel_rfl) (by kernel_rfl) (by kernel_rfl) (fun _ _ _ h => h) (Or.inl ⟨by kernel_rfl, ?_⟩) (by assumption) ?_
          rotate_left
          · intro W hSw
            try dsimp only at hSw
            go_simp
            first | done | with_reducible rfl
          try simp only [Act.put, List.setIfInBounds_toArray, List.set_cons_zero, List.set_cons_succ]
          refine wpAnyH_ready (rs := [7]) (by kernel_rfl) (by simp) (AllReadyH.cons rfl (fun K hK => ?_) AllReadyH.nil)
          go_simp
          try go_wp2_with fail
          refine hK.out _ _ ?_ (fun hHeld => ?_)
          · try dsimp only
            exact HCX.out _ (HB2z.out.drew.alloc HB2z.out.drew.size _)
          clear hK K
          try simp only [Act.put, List.setIfInBounds_toArray, List.set_cons_zero, List.set_cons_succ]
          refine wpAnyH_ready (rs := [11]) (by kernel_rfl) (by simp) (AllReadyH.cons rfl (fun K hK => ?_) AllReadyH.nil)
          rw [show (wz.alloc (.cells #[.string x] 9)).drew = wz.drew.alloc (.cells #[.string x] 9) from rfl]
          have HBA : Hid (Below wz.heap.size wz (wz.drew.alloc (.cells #[.string x] 9))) := (Below.refl _ _).drew.alloc (Nat.le_refl _) _
          refine sapp_many 59 rfl rfl (.tmp 55) (.tmp 58) rfl _ wz.heap.size (.slice (some ⟨wz.heap.size, 0, none⟩) 1 1) [x] (by rfl) (by exact own_new wz.drew x) (.slice D dl dc) ((os.map (idAt G)).drop 0) (by rfl) (by exact HSBz.out.below HBA.out) (by rw [List.length_drop, List.length_map, HOL.out]; simp; omega) (by exact HBA.out.size) ?_
          intro v5 w5 ho5 hb5
          have HO5 := Lib.hid ho5.slv
          have HB5 := Lib.hid (HBA.out.trans hb5)
          have HB25 := Lib.hid (HB2z.out.trans (HB5.out.mono HB2z.out.size))
          clear ho5 hb5
          try go_wp2_with fail
          refine hK.out _ _ ?_ (fun hHeld => ?_)
          · try dsimp only
            exact HCX.out _ HB25.out
          clear hK K
          try simp only [Act.put, List.setIfInBounds_toArray, List.set_cons_zero, List.set_cons_succ]
          refine wpAnyH_ready (rs := [12]) (by kernel_rfl) (by simp) (AllReadyH.cons rfl (fun K hK => ?_) AllReadyH.nil)
          refine sapp_many 60 rfl rfl (.tmp 50) (.tmp 59) rfl _ w2.heap.size (.slice Ao 0 co) ((os.map (idAt G)).take (0)) (by rfl) (by exact HSFz.out.below HB5.out) v5 ([x] ++ (os.map (idAt G)).drop (0)) (by rfl) (by exact HO5.out) (by rw [List.length_append, List.length_drop, List.length_take, List.length_map, HOL.out]; simp; omega) (by exact HB25.out.size) ?_
          intro v6 w6 ho6 hb6
          have HO6 := Lib.hid ho6
          have HB26 := Lib.hid (HB25.out.trans hb6)
          clear ho6 hb6
          try go_wp2_with fail
          refine hK.out _ _ ?_ (fun hHeld => ?_)
          · try dsimp only
            exact HCX.out _ HB26.out
          clear hK K
          try simp only [Act.put, List.setIfInBounds_toArray, List.set_cons_zero, List.set_cons_succ]
          refine take_at (i := 13) (d := 8) (v := ?_) rfl (by kernel_rfl) (by kernel_rfl) (by kernel_rfl) (by kernel_rfl) (fun _ _ _ h => h) (Or.inl ⟨by kernel_rfl, ?_⟩) (by assumption) ?_
          rotate_left
          · intro W hSw
            try dsimp only at hSw
            go_simp
            first | done | with_reducible rfl
          try simp only [Act.put, List.setIfInBounds_toArray, List.set_cons_zero, List.set_cons_succ]
          refine wpAnyH_done (by kernel_rfl) ?_ _
          go_wp2_with fail
          go_roundw
          case rel =>
            refine ⟨i + 1, os.take 0 ++ ([p] ++ os.drop 0), by omega, by go_num, HNEXT.out, ?_, HB26.out⟩
            have e : (os.take 0 ++ ([p] ++ os.drop 0)).map (idAt G) = (os.map (idAt G)).take 0 ++ ([x] ++ (os.map (idAt G)).drop 0) := by rw [List.map_append, List.map_append, List.map_take, List.map_drop, List.map_cons, List.map_nil, HXI.out]
            rw [e]
            exact HO6.out
          case measure => simp [intOf]; omega
          -- END STEPS
        · obtain ⟨q, rfl⟩ : ∃ q, k = q + 1 := ⟨k - 1, by omega⟩
          have hql : q < os.length := by rw [HOL.out]; omega
          obtain ⟨y, hy⟩ : ∃ y, os[q] = y := ⟨_, rfl⟩
          have hym := HOI.out.mem HALL.out (y := y) (by rw [← hy]; exact List.getElem_mem hql)
          obtain ⟨sy, hsy⟩ : ∃ s, stAt G y = s := ⟨_, rfl⟩
          obtain ⟨iy, hiy⟩ : ∃ t, idAt G y = t := ⟨_, rfl⟩
          obtain ⟨ado, hAo, _⟩ := gtext_cell HOx.out.slv q iy (by rw [List.getElem?_map, List.getElem?_eq_getElem hql, hy]; exact congrArg some hiy)
          subst hAo
          have HSS : Hid (∀ W, Below wr.heap.size wr W → W.cell? (ado.add q) = some (.string iy) ∧ W.cell? (ada.add i) = some (.string x)) := fun W hW => by
            obtain ⟨_, ea, hc⟩ := gtext_cell (HOx.out.slv.below hW) q iy (by rw [List.getElem?_map, List.getElem?_eq_getElem hql, hy]; exact congrArg some hiy)
            injection ea with ea
            subst ea
            exact ⟨hc, HCX.out W (HB2x.out.trans (hW.mono HB2x.out.size))⟩
          have HSY := Lib.hid (fun W (hW : Below w.heap.size w W) => by
            have := HST.out W hW y hym.1
            rw [hiy, hsy] at this
            exact this)
          rw [show (((q + 1 : Nat) : Int)) = (q : Int) + 1 by omega] at y0 hfr hbk ⊢
          have y1 : (0 : Int) < (q : Int) + 1 := by omega
          have e1 : decide ((0 : Int) < (q : Int) + 1) = true := decide_eq_true y1
          have y2 : (0 : Int) ≤ (q : Int) := by omega
          have y3 : (q : Int) < (i : Int) := by omega
          have wk : IntKind.i64.wrap (q : Int) = (q : Int) := by rw [IntKind.wrap_i64]; omega
          have HQS : Hid (stAt G os[q] = sy) := by unfold Hid; rw [hy, hsy]
          by_cases hlt2 : sy < sx
          · have e2 : decide (sy < sx) = true := decide_eq_true hlt2
            clear hy hym hiy hsy
            go_wp2_with fail
            -- STEPS 9 t
            refine wp_region_held_drew (S := (fun W => W.cell? (ado.add q) = some (.string iy) ∧ W.cell? (ada.add i) = some (.string x))) (by kernel_rfl) ?_ (fun hHeld => ?_)
            · try dsimp only
              exact HSS.out _ ((Below.refl _ _).drew)
            refine take_at (i := 0) (d := 28) (v := ?_) rfl (by kernel_rfl) (by kernel_rfl) (by kernel_rfl) (by kernel_rfl) (fun _ _ _ h => h) (Or.inl ⟨by kernel_rfl, ?_⟩) (by assumption) ?_
            rotate_left
            · intro W hSw
              try dsimp only at hSw
              go_simp
              first | done | with_reducible rfl
            try simp only [Act.put, List.setIfInBounds_toArray, List.set_cons_zero, List.set_cons_succ]
            refine take_at (i := 1) (d := 29) (v := ?_) rfl (by kernel_rfl) (by kernel_rfl) (by kernel_rfl) (by kernel_rfl) (fun _ _ _ h => h) (Or.inl ⟨by kernel_rfl, ?_⟩) (by assumption) ?_
            rotate_left
            · intro W hSw
              try dsimp only at hSw
              go_simp
              first | done | with_reducible rfl
            try simp only [Act.put, List.setIfInBounds_toArray, List.set_cons_zero, List.set_cons_succ]
            refine take_at (i := 2) (d := 30) (v := ?_) rfl (by kernel_rfl) (by kernel_rfl) (by kernel_rfl) (by kernel_rfl) (fun _ _ _ h => h) (Or.inl ⟨by kernel_rfl, ?_⟩) (by assumption) ?_
            rotate_left
            · intro W hSw
              try dsimp only at hSw
              go_simp
              first | done | with_reducible rfl
            try simp only [Act.put, List.setIfInBounds_toArray, List.set_cons_zero, List.set_cons_succ]
            refine take_at (i := 3) (d := 31) (v := ?_) rfl (by kernel_rfl) (by kernel_rfl) (by kernel_rfl) (by kernel_rfl) (fun _ _ _ h => h) (Or.inl ⟨by kernel_rfl, ?_⟩) (by assumption) ?_
            rotate_left
            · intro W hSw
              try dsimp only at hSw
              go_simp
              first | done | with_reducible rfl
            try simp only [Act.put, List.setIfInBounds_toArray, List.set_cons_zero, List.set_cons_succ]
            refine take_at (i := 4) (d := 32) (v := ?_) rfl (by kernel_rfl) (by kernel_rfl) (by kernel_rfl) (by kernel_rfl) (fun _ _ _ h => h) (Or.inl ⟨by kernel_rfl, ?_⟩) (by assumption) ?_
            rotate_left
            · intro W hSw
              try dsimp only at hSw
              go_simp
              first | done | with_reducible rfl
            try simp only [Act.put, List.setIfInBounds_toArray, List.set_cons_zero, List.set_cons_succ]
            refine take_at (i := 5) (d := 33) (v := ?_) rfl (by kernel_rfl) (by kernel_rfl) (by kernel_rfl) (by kernel_rfl) (fun _ _ _ h => h) (Or.inl ⟨by kernel_rfl, ?_⟩) (by assumption) ?_
            rotate_left
            · intro W hSw
              try dsimp only at hSw
              go_simp
              first | done | with_reducible rfl
            try simp only [Act.put, List.setIfInBounds_toArray, List.set_cons_zero, List.set_cons_succ]
            refine take_at (i := 6) (d := 34) (v := ?_) rfl (by kernel_rfl) (by kernel_rfl) (by kernel_rfl) (by kernel_rfl) (fun _ _ _ h => h) (Or.inl ⟨by kernel_rfl, ?_⟩) (by assumption) ?_
            rotate_left
            · intro W hSw
              try dsimp only at hSw
              go_simp
              first | done | with_reducible rfl
            try simp only [Act.put, List.setIfInBounds_toArray, List.set_cons_zero, List.set_cons_succ]
            refine take_at (i := 7) (d := 35) (v := ?_) rfl (by kernel_rfl) (by kernel_rfl) (by kernel_rfl) (by kernel_rfl) (fun _ _ _ h => h) (Or.inl ⟨by kernel_rfl, ?_⟩) (by assumption) ?_
            rotate_left
            · intro W hSw
              try dsimp only at hSw
              go_simp
              first | done | with_reducible rfl
            try simp only [Act.put, List.setIfInBounds_toArray, List.set_cons_zero, List.set_cons_succ]
            refine take_at (i := 8) (d := 36) (v := ?_) rfl (by kernel_rfl) (by kernel_rfl) (by kernel_rfl) (by kernel_rfl) (fun _ _ _ h => h) (Or.inl ⟨by kernel_rfl, ?_⟩) (by assumption) ?_
            rotate_left
            · intro W hSw
              try dsimp only at hSw
              have q8 := hSw.1
              go_simp
              first | done | with_reducible rfl
            try simp only [Act.put, List.setIfInBounds_toArray, List.set_cons_zero, List.set_cons_succ]
            refine take_at (i := 10) (d := 38) (v := ?_) rfl (by kernel_rfl) (by kernel_rfl) (by kernel_rfl) (by kernel_rfl) (fun _ _ _ h => h) (Or.inl ⟨by kernel_rfl, ?_⟩) (by assumption) ?_
            rotate_left
            · intro W hSw
              try dsimp only at hSw
              go_simp
              first | done | with_reducible rfl
            try simp only [Act.put, List.setIfInBounds_toArray, List.set_cons_zero, List.set_cons_succ]
            refine take_at (i := 11) (d := 39) (v := ?_) rfl (by kernel_rfl) (by kernel_rfl) (by kernel_rfl) (by kernel_rfl) (fun _ _ _ h => h) (Or.inl ⟨by kernel_rfl, ?_⟩) (by assumption) ?_
            rotate_left
            · intro W hSw
              try dsimp only at hSw
              go_simp
              first | done | with_reducible rfl
            try simp only [Act.put, List.setIfInBounds_toArray, List.set_cons_zero, List.set_cons_succ]
            refine take_at (i := 12) (d := 40) (v := ?_) rfl (by kernel_rfl) (by kernel_rfl) (by kernel_rfl) (by kernel_rfl) (fun _ _ _ h => h) (Or.inl ⟨by kernel_rfl, ?_⟩) (by assumption) ?_
            rotate_left
            · intro W hSw
              try dsimp only at hSw
              go_simp
              first | done | with_reducible rfl
            try simp only [Act.put, List.setIfInBounds_toArray, List.set_cons_zero, List.set_cons_succ]
            refine take_at (i := 13) (d := 41) (v := ?_) rfl (by kernel_rfl) (by kernel_rfl) (by kernel_rfl) (by kernel_rfl) (fun _ _ _ h => h) (Or.inl ⟨by kernel_rfl, ?_⟩) (by assumption) ?_
            rotate_left
            · intro W hSw
              try dsimp only at hSw
              go_simp
              first | done | with_reducible rfl
            try simp only [Act.put, List.setIfInBounds_toArray, List.set_cons_zero, List.set_cons_succ]
            refine take_at (i := 14) (d := 42) (v := ?_) rfl (by kernel_rfl) (by kernel_rfl) (by kernel_rfl) (by kernel_rfl) (fun _ _ _ h => h) (Or.inl ⟨by kernel_rfl, ?_⟩) (by assumption) ?_
            rotate_left
            · intro W hSw
              try dsimp only at hSw
              have q14 := hSw.2
              go_simp
              first | done | with_reducible rfl
            try simp only [Act.put, List.setIfInBounds_toArray, List.set_cons_zero, List.set_cons_succ]
            refine wpAnyH_ready (rs := [9]) (by kernel_rfl) (by simp) (AllReadyH.cons rfl (fun K hK => ?_) AllReadyH.nil)
            go_simp
            refine (HSY.out _ (HB0x.out.drew)).mono ?_
            rintro e wc ⟨rfl, hbc⟩
            have HBC : Hid (Below wr.heap.size wr wc) := (Below.refl _ _).drew.trans hbc
            have HBC0 := Lib.hid (HB0x.out.trans (HBC.out.mono HB0x.out.size))
            clear hbc
            try go_wp2_with fail
            refine hK.out _ _ ?_ (fun hHeld => ?_)
            · try dsimp only
              exact HSS.out _ HBC.out
            clear hK K
            try simp only [Act.put, List.setIfInBounds_toArray, List.set_cons_zero, List.set_cons_succ]
            refine wpAnyH_ready (rs := [15]) (by kernel_rfl) (by simp) (AllReadyH.cons rfl (fun K hK => ?_) AllReadyH.nil)
            go_simp
            refine (HSX.out _ HBC0.out).mono ?_
            rintro e wz ⟨rfl, hbz⟩
            have HBZ := Lib.hid (HBC.out.trans (hbz.mono HBC.out.size))
            clear hbz
            try go_wp2_with fail
            refine hK.out _ _ ?_ (fun hHeld => ?_)
            · try dsimp only
              exact HSS.out _ HBZ.out
            clear hK K
            try simp only [Act.put, List.setIfInBounds_toArray, List.set_cons_zero, List.set_cons_succ]
            refine take_at (i := 16) (d := 44) (v := ?_) rfl (by kernel_rfl) (by kernel_rfl) (by kernel_rfl) (by kernel_rfl) (fun _ _ _ h => h) (Or.inl ⟨by kernel_rfl, ?_⟩) (by assumption) ?_
            rotate_left
            · intro W hSw
              try dsimp only at hSw
              go_simp
              first | done | with_reducible rfl
            try simp only [Act.put, List.setIfInBounds_toArray, List.set_cons_zero, List.set_cons_succ]
            refine take_at (i := 17) (d := 45) (v := ?_) rfl (by kernel_rfl) (by kernel_rfl) (by kernel_rfl) (by kernel_rfl) (fun _ _ _ h => h) (Or.inl ⟨by kernel_rfl, ?_⟩) (by assumption) ?_
            rotate_left
            · intro W hSw
              try dsimp only at hSw
              go_simp
              first | done | with_reducible rfl
            try simp only [Act.put, List.setIfInBounds_toArray, List.set_cons_zero, List.set_cons_succ]
            refine wpAnyH_done (by kernel_rfl) ?_ _
            go_wp2_with fail
            go_roundw
            case rel =>
              refine ⟨q, by omega, by go_num, fun j h1 hj => ?_, HBx.out.trans (HBZ.out.mono HBx.out.size)⟩
              by_cases hjq : j = q
              · subst hjq
                rw [HQS.out]
                exact hlt2
              · exact HLOW.out j (by omega) hj
            case measure => simp [intOf]
            -- END STEPS
          · have e2 : decide (sy < sx) = false := decide_eq_false hlt2
            have HNEXT : Hid (OI G X (i + 1) (os.take (q + 1) ++ ([p] ++ os.drop (q + 1)))) := by
              have := HOI.out.next HALL.out HSTR.out HX.out (k := q + 1) (by omega) (by rw [HPP.out, HSXE.out]; exact HLOW.out) (fun j h1 hj => by
                rw [HPP.out, HSXE.out]
                have h2 := ord_le HOI.out.pw (i := j) (j := q) (by omega) hql
                rw [HQS.out] at h2
                omega)
              rw [HPP.out] at this
              exact this
            clear hy hym hiy hsy
            go_wp2_with fail
            -- STEPS 9 f
            refine wp_region_held_drew (S := (fun W => W.cell? (ado.add q) = some (.string iy) ∧ W.cell? (ada.add i) = some (.string x))) (by kernel_rfl) ?_ (fun hHeld => ?_)
            · try dsimp only
              exact HSS.out _ ((Below.refl _ _).drew)
            refine take_at (i := 0) (d := 28) (v := ?_) rfl (by kernel_rfl) (by kernel_rfl) (by kernel_rfl) (by kernel_rfl) (fun _ _ _ h => h) (Or.inl ⟨by kernel_rfl, ?_⟩) (by assumption) ?_
            rotate_left
            · intro W hSw
              try dsimp only at hSw
              go_simp
              first | done | with_reducible rfl
            try simp only [Act.put, List.setIfInBounds_toArray, List.set_cons_zero, List.set_cons_succ]
            refine take_at (i := 1) (d := 29) (v := ?_) rfl (by kernel_rfl) (by kernel_rfl) (by kernel_rfl) (by kernel_rfl) (fun _ _ _ h => h) (Or.inl ⟨by kernel_rfl, ?_⟩) (by assumption) ?_
            rotate_left
            · intro W hSw
              try dsimp only at hSw
              go_simp
              first | done | with_reducible rfl
            try simp only [Act.put, List.setIfInBounds_toArray, List.set_cons_zero, List.set_cons_succ]
            refine take_at (i := 2) (d := 30) (v := ?_) rfl (by kernel_rfl) (by kernel_rfl) (by kernel_rfl) (by kernel_rfl) (fun _ _ _ h => h) (Or.inl ⟨by kernel_rfl, ?_⟩) (by assumption) ?_
            rotate_left
            · intro W hSw
              try dsimp only at hSw
              go_simp
              first | done | with_reducible rfl
            try simp only [Act.put, List.setIfInBounds_toArray, List.set_cons_zero, List.set_cons_succ]
            refine take_at (i := 3) (d := 31) (v := ?_) rfl (by kernel_rfl) (by kernel_rfl) (by kernel_rfl) (by kernel_rfl) (fun _ _ _ h => h) (Or.inl ⟨by kernel_rfl, ?_⟩) (by assumption) ?_
            rotate_left
            · intro W hSw
              try dsimp only at hSw
              go_simp
              first | done | with_reducible rfl
            try simp only [Act.put, List.setIfInBounds_toArray, List.set_cons_zero, List.set_cons_succ]
            refine take_at (i := 4) (d := 32) (v := ?_) rfl (by kernel_rfl) (by kernel_rfl) (by kernel_rfl) (by kernel_rfl) (fun _ _ _ h => h) (Or.inl ⟨by kernel_rfl, ?_⟩) (by assumption) ?_
            rotate_left
            · intro W hSw
              try dsimp only at hSw
              go_simp
              first | done | with_reducible rfl
            try simp only [Act.put, List.setIfInBounds_toArray, List.set_cons_zero, List.set_cons_succ]
            refine take_at (i := 5) (d := 33) (v := ?_) rfl (by kernel_rfl) (by kernel_rfl) (by kernel_rfl) (by kernel_rfl) (fun _ _ _ h => h) (Or.inl ⟨by kernel_rfl, ?_⟩) (by assumption) ?_
            rotate_left
            · intro W hSw
              try dsimp only at hSw
              go_simp
              first | done | with_reducible rfl
            try simp only [Act.put, List.setIfInBounds_toArray, List.set_cons_zero, List.set_cons_succ]
            refine take_at (i := 6) (d := 34) (v := ?_) rfl (by kernel_rfl) (by kernel_rfl) (by kernel_rfl) (by kernel_rfl) (fun _ _ _ h => h) (Or.inl ⟨by kernel_rfl, ?_⟩) (by assumption) ?_
            rotate_left
            · intro W hSw
              try dsimp only at hSw
              go_simp
              first | done | with_reducible rfl
            try simp only [Act.put, List.setIfInBounds_toArray, List.set_cons_zero, List.set_cons_succ]
            refine take_at (i := 7) (d := 35) (v := ?_) rfl (by kernel_rfl) (by kernel_rfl) (by kernel_rfl) (by kernel_rfl) (fun _ _ _ h => h) (Or.inl ⟨by kernel_rfl, ?_⟩) (by assumption) ?_
            rotate_left
            · intro W hSw
              try dsimp only at hSw
              go_simp
              first | done | with_reducible rfl
            try simp only [Act.put, List.setIfInBounds_toArray, List.set_cons_zero, List.set_cons_succ]
            refine take_at (i := 8) (d := 36) (v := ?_) rfl (by kernel_rfl) (by kernel_rfl) (by kernel_rfl) (by kernel_rfl) (fun _ _ _ h => h) (Or.inl ⟨by kernel_rfl, ?_⟩) (by assumption) ?_
            rotate_left
            · intro W hSw
              try dsimp only at hSw
              have q8 := hSw.1
              go_simp
              first | done | with_reducible rfl
            try simp only [Act.put, List.setIfInBounds_toArray, List.set_cons_zero, List.set_cons_succ]
            refine take_at (i := 10) (d := 38) (v := ?_) rfl (by kernel_rfl) (by kernel_rfl) (by kernel_rfl) (by kernel_rfl) (fun _ _ _ h => h) (Or.inl ⟨by kernel_rfl, ?_⟩) (by assumption) ?_
            rotate_left
            · intro W hSw
              try dsimp only at hSw
              go_simp
              first | done | with_reducible rfl
            try simp only [Act.put, List.setIfInBounds_toArray, List.set_cons_zero, List.set_cons_succ]
            refine take_at (i := 11) (d := 39) (v := ?_) rfl (by kernel_rfl) (by kernel_rfl) (by kernel_rfl) (by kernel_rfl) (fun _ _ _ h => h) (Or.inl ⟨by kernel_rfl, ?_⟩) (by assumption) ?_
            rotate_left
            · intro W hSw
              try dsimp only at hSw
              go_simp
              first | done | with_reducible rfl
            try simp only [Act.put, List.setIfInBounds_toArray, List.set_cons_zero, List.set_cons_succ]
            refine take_at (i := 12) (d := 40) (v := ?_) rfl (by kernel_rfl) (by kernel_rfl) (by kernel_rfl) (by kernel_rfl) (fun _ _ _ h => h) (Or.inl ⟨by kernel_rfl, ?_⟩) (by assumption) ?_
            rotate_left
            · intro W hSw
              try dsimp only at hSw
              go_simp
              first | done | with_reducible rfl
            try simp only [Act.put, List.setIfInBounds_toArray, List.set_cons_zero, List.set_cons_succ]
            refine take_at (i := 13) (d := 41) (v := ?_) rfl (by kernel_rfl) (by kernel_rfl) (by kernel_rfl) (by kernel_rfl) (fun _ _ _ h => h) (Or.inl ⟨by kernel_rfl, ?_⟩) (by assumption) ?_
            rotate_left
            · intro W hSw
              try dsimp only at hSw
              go_simp
              first | done | with_reducible rfl
            try simp only [Act.put, List.setIfInBounds_toArray, List.set_cons_zero, List.set_cons_succ]
            refine take_at (i := 14) (d := 42) (v := ?_) rfl (by kernel_rfl) (by kernel_rfl) (by kernel_rfl) (by kernel_rfl) (fun _ _ _ h => h) (Or.inl ⟨by kernel_rfl, ?_⟩) (by assumption) ?_
            rotate_left
            · intro W hSw
              try dsimp only at hSw
              have q14 := hSw.2
              go_simp
              first | done | with_reducible rfl
            try simp only [Act.put, List.setIfInBounds_toArray, List.set_cons_zero, List.set_cons_succ]
            refine wpAnyH_ready (rs := [9]) (by kernel_rfl) (by simp) (AllReadyH.cons rfl (fun K hK => ?_) AllReadyH.nil)
            go_simp
            refine (HSY.out _ (HB0x.out.drew)).mono ?_
            rintro e wc ⟨rfl, hbc⟩
            have HBC : Hid (Below wr.heap.size wr wc) := (Below.refl _ _).drew.trans hbc
            have HBC0 := Lib.hid (HB0x.out.trans (HBC.out.mono HB0x.out.size))
            clear hbc
            try go_wp2_with fail
            refine hK.out _ _ ?_ (fun hHeld => ?_)
            · try dsimp only
              exact HSS.out _ HBC.out
            clear hK K
            try simp only [Act.put, List.setIfInBounds_toArray, List.set_cons_zero, List.set_cons_succ]
            refine wpAnyH_ready (rs := [15]) (by kernel_rfl) (by simp) (AllReadyH.cons rfl (fun K hK => ?_) AllReadyH.nil)
            go_simp
            refine (HSX.out _ HBC0.out).mono ?_
            rintro e wz ⟨rfl, hbz⟩
            have HBZ := Lib.hid (HBC.out.trans (hbz.mono HBC.out.size))
            clear hbz
            try go_wp2_with fail
            refine hK.out _ _ ?_ (fun hHeld => ?_)
            · try dsimp only
              exact HSS.out _ HBZ.out
            clear hK K
            try simp only [Act.put, List.setIfInBounds_toArray, List.set_cons_zero, List.set_cons_succ]
            refine take_at (i := 16) (d := 44) (v := ?_) rfl (by kernel_rfl) (by kernel_rfl) (by kernel_rfl) (by kernel_rfl) (fun _ _ _ h => h) (Or.inl ⟨by kernel_rfl, ?_⟩) (by assumption) ?_
            rotate_left
            · intro W hSw
              try dsimp only at hSw
              go_simp
              first | done | with_reducible rfl
            try simp only [Act.put, List.setIfInBounds_toArray, List.set_cons_zero, List.set_cons_succ]
            refine take_at (i := 17) (d := 45) (v := ?_) rfl (by kernel_rfl) (by kernel_rfl) (by kernel_rfl) (by kernel_rfl) (fun _ _ _ h => h) (Or.inl ⟨by kernel_rfl, ?_⟩) (by assumption) ?_
            rotate_left
            · intro W hSw
              try dsimp only at hSw
              go_simp
              first | done | with_reducible rfl
            try simp only [Act.put, List.setIfInBounds_toArray, List.set_cons_zero, List.set_cons_succ]
            refine wpAnyH_done (by kernel_rfl) ?_ _
            go_wp2_with fail
            have HZ := Lib.hid HBZ.out.size
            have HB2z := Lib.hid (HB2x.out.trans (HBZ.out.mono HB2x.out.size))
            have HSFz := Lib.hid (HSF.out.below HBZ.out)
            have HSBz := Lib.hid (HSB.out.below HBZ.out)
            refine wp_region_held_drew (S := (fun W => W.cell? (ada.add i) = some (.string x))) (by kernel_rfl) ?_ (fun hHeld => ?_)
            · try dsimp only
              exact HCX.out _ HB2z.out.drew
            refine take_at (i := 0) (d := 48) (v := ?_) rfl (by kernel_rfl) (by kernel_rfl) (by kernel_rfl) (by kernel_rfl) (fun _ _ _ h => h) (Or.inl ⟨by kernel_rfl, ?_⟩) (by assumption) ?_
            rotate_left
            · intro W hSw
              try dsimp only at hSw
              go_simp
              first | done | with_reducible rfl
            try simp only [Act.put, List.setIfInBounds_toArray, List.set_cons_zero, List.set_cons_succ]
            refine take_at (i := 1) (d := 49) (v := ?_) rfl (by kernel_rfl) (by kernel_rfl) (by kernel_rfl) (by kernel_rfl) (fun _ _ _ h => h) (Or.inl ⟨by kernel_rfl, ?_⟩) (by assumption) ?_
            rotate_left
            · intro W hSw
              try dsimp only at hSw
              go_simp
              first | done | with_reducible rfl
            try simp only [Act.put, List.setIfInBounds_toArray, List.set_cons_zero, List.set_cons_succ]
            refine take_at (i := 2) (d := 50) (v := ?_) rfl (by kernel_rfl) (by kernel_rfl) (by kernel_rfl) (by kernel_rfl) (fun _ _ _ h => h) (Or.inl ⟨by kernel_rfl, ?_⟩) (by assumption) ?_
            rotate_left
            · intro W hSw
              try dsimp only at hSw
              go_simp
              first | done | with_reducible rfl
            try simp only [Act.put, List.setIfInBounds_toArray, List.set_cons_zero, List.set_cons_succ]
            refine take_at (i := 3) (d := 51) (v := ?_) rfl (by kernel_rfl) (by kernel_rfl) (by kernel_rfl) (by kernel_rfl) (fun _ _ _ h => h) (Or.inl ⟨by kernel_rfl, ?_⟩) (by assumption) ?_
            rotate_left
            · intro W hSw
              try dsimp only at hSw
              go_simp
              first | done | with_reducible rfl
            try simp only [Act.put, List.setIfInBounds_toArray, List.set_cons_zero, List.set_cons_succ]
            refine take_at (i := 4) (d := 52) (v := ?_) rfl (by kernel_rfl) (by kernel_rfl) (by kernel_rfl) (by kernel_rfl) (fun _ _ _ h => h) (Or.inl ⟨by kernel_rfl, ?_⟩) (by assumption) ?_
            rotate_left
            · intro W hSw
              try dsimp only at hSw
              go_simp
              first | done | with_reducible rfl
            try simp only [Act.put, List.setIfInBounds_toArray, List.set_cons_zero, List.set_cons_succ]
            refine take_at (i := 5) (d := 53) (v := ?_) rfl (by kernel_rfl) (by kernel_rfl) (by kernel_rfl) (by kernel_rfl) (fun _ _ _ h => h) (Or.inl ⟨by kernel_rfl, ?_⟩) (by assumption) ?_
            rotate_left
            · intro W hSw
              try dsimp only at hSw
              go_simp
              first | done | with_reducible rfl
            try simp only [Act.put, List.setIfInBounds_toArray, List.set_cons_zero, List.set_cons_succ]
            refine take_at (i := 6) (d := 54) (v := ?_) rfl (by kernel_rfl) (by kernel_rfl) (by kernel_rfl) (by kernel_rfl) (fun _ _ _ h => h) (Or.inl ⟨by kernel_rfl, ?_⟩) (by assumption) ?_
            rotate_left
            · intro W hSw
              try dsimp only at hSw
              go_simp
              first | done | with_reducible rfl
            try simp only [Act.put, List.setIfInBounds_toArray, List.set_cons_zero, List.set_cons_succ]
            refine take_at (i := 8) (d := 56) (v := ?_) rfl (by kernel_rfl) (by kernel_rfl) (by kernel_rfl) (by kernel_rfl) (fun _ _ _ h => h) (Or.inl ⟨by kernel_rfl, ?_⟩) (by assumption) ?_
            rotate_left
            · intro W hSw
              try dsimp only at hSw
              go_simp
              first | done | with_reducible rfl
            try simp only [Act.put, List.setIfInBounds_toArray, List.set_cons_zero, List.set_cons_succ]
            refine take_at (i := 9) (d := 57) (v := ?_) rfl (by kernel_rfl) (by kernel_rfl) (by kernel_rfl) (by kernel_rfl) (fun _ _ _ h => h) (Or.inl ⟨by kernel_rfl, ?_⟩) (by assumption) ?_
            rotate_left
            · intro W hSw
              try dsimp only at hSw
              go_simp
              first | done | with_reducible rfl
            try simp only [Act.put, List.setIfInBounds_toArray, List.set_cons_zero, List.set_cons_succ]
            refine take_at (i := 10) (d := 58) (v := ?_) rfl (by kernel_rfl) (by kernel_rfl) (by kernel_rfl) (by kernel_rfl) (fun _ _ _ h => h) (Or.inl ⟨by kernel_rfl, ?_⟩) (by assumption) ?_
            rotate_left
            · intro W hSw
              try dsimp only at hSw
              go_simp
              first | done | with_reducible rfl
            try simp only [Act.put, List.setIfInBounds_toArray, List.set_cons_zero, List.set_cons_succ]
            refine wpAnyH_ready (rs := [7]) (by kernel_rfl) (by simp) (AllReadyH.cons rfl (fun K hK => ?_) AllReadyH.nil)
            go_simp
            try go_wp2_with fail
            refine hK.out _ _ ?_ (fun hHeld => ?_)
            · try dsimp only
              exact HCX.out _ (HB2z.out.drew.alloc HB2z.out.drew.size _)
            clear hK K
            try simp only [Act.put, List.setIfInBounds_toArray, List.set_cons_zero, List.set_cons_succ]
            refine wpAnyH_ready (rs := [11]) (by kernel_rfl) (by simp) (AllReadyH.cons rfl (fun K hK => ?_) AllReadyH.nil)
            rw [show (wz.alloc (.cells #[.string x] 9)).drew = wz.drew.alloc (.cells #[.string x] 9) from rfl]
            have HBA : Hid (Below wz.heap.size wz (wz.drew.alloc (.cells #[.string x] 9))) := (Below.refl _ _).drew.alloc (Nat.le_refl _) _
            refine sapp_many 59 rfl rfl (.tmp 55) (.tmp 58) rfl _ wz.heap.size (.slice (some ⟨wz.heap.size, 0, none⟩) 1 1) [x] (by rfl) (by exact own_new wz.drew x) (.slice D dl dc) ((os.map (idAt G)).drop (q + 1)) (by rfl) (by exact HSBz.out.below HBA.out) (by rw [List.length_drop, List.length_map, HOL.out]; simp; omega) (by exact HBA.out.size) ?_
            intro v5 w5 ho5 hb5
            have HO5 := Lib.hid ho5.slv
            have HB5 := Lib.hid (HBA.out.trans hb5)
            have HB25 := Lib.hid (HB2z.out.trans (HB5.out.mono HB2z.out.size))
            clear ho5 hb5
            try go_wp2_with fail
            refine hK.out _ _ ?_ (fun hHeld => ?_)
            · try dsimp only
              exact HCX.out _ HB25.out
            clear hK K
            try simp only [Act.put, List.setIfInBounds_toArray, List.set_cons_zero, List.set_cons_succ]
            refine wpAnyH_ready (rs := [12]) (by kernel_rfl) (by simp) (AllReadyH.cons rfl (fun K hK => ?_) AllReadyH.nil)
            refine sapp_many 60 rfl rfl (.tmp 50) (.tmp 59) rfl _ w2.heap.size (.slice (some ado) (q + 1) co) ((os.map (idAt G)).take ((q + 1))) (by rfl) (by exact HSFz.out.below HB5.out) v5 ([x] ++ (os.map (idAt G)).drop ((q + 1))) (by rfl) (by exact HO5.out) (by rw [List.length_append, List.length_drop, List.length_take, List.length_map, HOL.out]; simp; omega) (by exact HB25.out.size) ?_
            intro v6 w6 ho6 hb6
            have HO6 := Lib.hid ho6
            have HB26 := Lib.hid (HB25.out.trans hb6)
            clear ho6 hb6
            try go_wp2_with fail
            refine hK.out _ _ ?_ (fun hHeld => ?_)
            · try dsimp only
              exact HCX.out _ HB26.out
            clear hK K
            try simp only [Act.put, List.setIfInBounds_toArray, List.set_cons_zero, List.set_cons_succ]
            refine take_at (i := 13) (d := 8) (v := ?_) rfl (by kernel_rfl) (by kernel_rfl) (by kernel_rfl) (by kernel_rfl) (fun _ _ _ h => h) (Or.inl ⟨by kernel_rfl, ?_⟩) (by assumption) ?_
            rotate_left
            · intro W hSw
              try dsimp only at hSw
              go_simp
              first | done | with_reducible rfl
            try simp only [Act.put, List.setIfInBounds_toArray, List.set_cons_zero, List.set_cons_succ]
            refine wpAnyH_done (by kernel_rfl) ?_ _
            go_wp2_with fail
            go_roundw
            case rel =>
              refine ⟨i + 1, os.take (q + 1) ++ ([p] ++ os.drop (q + 1)), by omega, by go_num, HNEXT.out, ?_, HB26.out⟩
              have e : (os.take (q + 1) ++ ([p] ++ os.drop (q + 1))).map (idAt G) = (os.map (idAt G)).take (q + 1) ++ ([x] ++ (os.map (idAt G)).drop (q + 1)) := by rw [List.map_append, List.map_append, List.map_take, List.map_drop, List.map_cons, List.map_nil, HXI.out]
              rw [e]
              exact HO6.out
            case measure => simp [intOf]; omega
            -- END STEPS
    · have him : m = i := by omega
      subst him
      have hT : X.take m = X := List.take_of_length_le (by rw [HM.out]; exact Nat.le_refl _)
      have hoi := HOI.out
      have hpm := hoi.perm
      rw [hT] at hpm
      have HOG : Hid (OrdG G xs os) := ⟨hpm.trans HPA.out, hoi.pw⟩
      clear hT hoi hpm
      go_wp2_with fail
      go_ret2
      exact ⟨HB2.out.trans (HB.out.mono HB2.out.size), .inl ⟨trivial, _, os, rfl, HOG.out, HO.out.base HB2.out.size⟩⟩
end Go.Proofs.Ytecpedecgcaeoaa.Tx
