/- Texts put together: Dg8. -/
import Derived.Test.YtecpedecgcaeoaaQg26
/- Package dag: Ancestors, Tops, Is. -/
set_option linter.unusedVariables false
set_option linter.unusedSimpArgs false
namespace Go.Proofs.Ytecpedecgcaeoaa.Tx
open Go.RowKit Go.Maps Go.Proofs.Ytecpedecgcaeoaa.Sh
open Classical

/-- What is handed back with an error: the texts, or none and ErrNone. -/
def AskPost (w : World) (ok : Bool) (ts : List ByteArray) (e : Ending) (w' : World) : Prop :=
  Below w.heap.size w w' ∧ ((ok = true ∧ ∃ v, e = .returned (.tuple #[v, .int .i64 0]) ∧ OwnV 9 w' w.heap.size v (ts.map sv)) ∨ (ok = false ∧ e = .returned (.tuple #[.slice none 0 0, .int .i64 7])))
theorem pls_short {G : GR} {xs : List ByteArray} {n : Nat} (h : xs.length ≤ n) : (plsL G xs).length ≤ n := by rw [pls_len]; exact h
theorem anc_all {G : GR} {fr : List Nat} : ∀ k ∈ ancL (parAt G) G.length fr, k < G.length := fun k hk => (mem_anc.1 hk).1

set_option maxRecDepth 100000 in
set_option maxHeartbeats 1600000 in
theorem gancs_any (Z : Nat → Prop) (g : Nat) (G : GR) (v : Value) (xs : List ByteArray) (w : World) (h : GAt Z w g G) (hw : GW G) (hs : GS G) (hv : SlV w v (xs.map sv)) (hsz : ∀ s ∈ xs, s.size ≤ 1000000) (hn : xs.length ≤ 2000) :
    Calls Try.prog 19 #[.pointer (some ⟨g, 0, none⟩), v] w (AskPost w (allG G xs) (ancT G xs)) := by
  have hpl := gplaces_any Z g G v xs w h hv hsz (by omega)
  have hanc := fun (W : World) (u : Value) (hW : Below w.heap.size w W) (hu : SlV W u ((plsL G xs).map nv)) (hall : allG G xs = true) => ganc_any Z g G u (plsL G xs) W (h.below hW) hw hs hu (pls_lt hall) (by rw [pls_len]; omega)
  have hids := fun (W : World) (u : Value) (hW : Below w.heap.size w W) (hu : SlV W u ((ancL (parAt G) G.length (plsL G xs)).map nv)) => gids_any Z g G u _ W (h.below hW) hu anc_all (by have := anc_len (par := parAt G) (n := G.length) (fr := plsL G xs); have := hs.len; omega)
  have hsort := fun (W : World) (u : Value) (hu : SlV W u (((ancL (parAt G) G.length (plsL G xs)).map (idAt G)).map sv)) => sort_any u _ W hu (by rw [List.length_map]; have := anc_len (par := parAt G) (n := G.length) (fr := plsL G xs); have := hs.len; omega)
  have HPL := Lib.hid hpl
  have HANC := Lib.hid hanc
  have HIDS := Lib.hid hids
  have HSORT := Lib.hid hsort
  clear h hw hs hv hsz hn hpl hanc hids hsort
  go_enter Try.func19, Try.ntmps19
  go_wp2_with fail
  refine (HPL.out).mono ?_
  rintro e w1 ⟨hb1, ⟨hall, vp, rfl, ho1⟩ | ⟨hall, rfl⟩⟩
  case inr =>
    have HB1 := Lib.hid hb1
    have HALL := Lib.hid hall
    clear hb1 hall
    go_wp2_with fail
    go_ret2
    exact ⟨HB1.out, .inr ⟨HALL.out, rfl⟩⟩
  have HB1 := Lib.hid hb1
  have HALL := Lib.hid hall
  have hc := HANC.out w1 vp hb1 ho1.slv hall
  have HC := Lib.hid hc
  clear hb1 hall ho1 hc
  go_wp2_with fail
  refine (HC.out).mono ?_
  rintro e w2 ⟨v2, rfl, ho2, hb2⟩
  have hb := HB1.out.trans (hb2.mono HB1.out.size)
  have HB2 := Lib.hid hb
  have hc2 := HIDS.out w2 v2 hb ho2.slv
  have HC2 := Lib.hid hc2
  clear hb hb2 ho2 hc2
  go_wp2_with fail
  refine (HC2.out).mono ?_
  rintro e w3 ⟨v3, rfl, ho3, hb3⟩
  have hb := HB2.out.trans (hb3.mono HB2.out.size)
  have HB3 := Lib.hid hb
  have hc3 := HSORT.out w3 v3 ho3.slv
  have HC3 := Lib.hid hc3
  clear hb hb3 ho3 hc3
  go_wp2_with fail
  refine (HC3.out).mono ?_
  rintro e w4 ⟨v4, rfl, ho4, hb4⟩
  have HB4 := Lib.hid (HB3.out.trans (hb4.mono HB3.out.size))
  have HO4 := Lib.hid (ho4.base HB3.out.size)
  clear hb4 ho4
  go_wp2_with fail
  go_ret2
  exact ⟨HB4.out, .inl ⟨HALL.out, v4, rfl, HO4.out⟩⟩

set_option maxRecDepth 100000 in
set_option maxHeartbeats 1600000 in
theorem gtopsx_any (Z : Nat → Prop) (g : Nat) (G : GR) (v : Value) (xs : List ByteArray) (w : World) (h : GAt Z w g G) (hw : GW G) (hs : GS G) (hv : SlV w v (xs.map sv)) (hsz : ∀ s ∈ xs, s.size ≤ 1000000) (hn : xs.length ≤ 2000) :
    Calls Try.prog 23 #[.pointer (some ⟨g, 0, none⟩), v] w (AskPost w (allG G (uniqT xs)) (topT G xs)) := by
  have hun := uniq_any v xs w hv (by omega)
  have hul := uniqT_len xs
  have hpl := fun (W : World) (u : Value) (hW : Below w.heap.size w W) (hu : SlV W u ((uniqT xs).map sv)) => gplaces_any Z g G u (uniqT xs) W (h.below hW) hu (fun s hs' => hsz s (((uniqT_spec xs).2 s).1 hs')) (by omega)
  have htop := fun (W : World) (u : Value) (hW : Below w.heap.size w W) (hu : SlV W u ((plsL G (uniqT xs)).map nv)) (hall : allG G (uniqT xs) = true) => gtops_any Z g G u (plsL G (uniqT xs)) W (h.below hW) hw hs hu (pls_lt hall) (by rw [pls_len]; omega)
  have hids := fun (W : World) (u : Value) (hW : Below w.heap.size w W) (hu : SlV W u ((topL (parAt G) (plsL G (uniqT xs))).map nv)) (hall : allG G (uniqT xs) = true) => gids_any Z g G u _ W (h.below hW) hu (fun k hk => pls_lt hall k (mem_top.1 hk).1) (by have := (top_sub (par := parAt G) (ps := plsL G (uniqT xs))).length_le; rw [pls_len] at this; omega)
  have HUN := Lib.hid hun
  have HPL := Lib.hid hpl
  have HTOP := Lib.hid htop
  have HIDS := Lib.hid hids
  clear h hw hs hv hsz hn hpl htop hids hun hul
  go_enter Try.func23, Try.ntmps23
  go_wp2_with fail
  refine (HUN.out).mono ?_
  rintro e w0 ⟨v0, rfl, ho0, hb0⟩
  have HB0 := Lib.hid hb0
  have hc0 := HPL.out w0 v0 hb0 ho0.slv
  have HC0 := Lib.hid hc0
  clear hb0 ho0 hc0
  go_wp2_with fail
  refine (HC0.out).mono ?_
  rintro e w1 ⟨hb1, ⟨hall, vp, rfl, ho1⟩ | ⟨hall, rfl⟩⟩
  case inr =>
    have HB1 := Lib.hid (HB0.out.trans (hb1.mono HB0.out.size))
    have HALL := Lib.hid hall
    clear hb1 hall
    go_wp2_with fail
    go_ret2
    exact ⟨HB1.out, .inr ⟨HALL.out, rfl⟩⟩
  have hb := HB0.out.trans (hb1.mono HB0.out.size)
  have HB1 := Lib.hid hb
  have HALL := Lib.hid hall
  have hc := HTOP.out w1 vp hb ho1.slv hall
  have HC := Lib.hid hc
  clear hb hb1 hall ho1 hc
  go_wp2_with fail
  refine (HC.out).mono ?_
  rintro e w2 ⟨v2, rfl, ho2, hb2⟩
  have hb := HB1.out.trans (hb2.mono HB1.out.size)
  have HB2 := Lib.hid hb
  have hc2 := HIDS.out w2 v2 hb ho2.slv HALL.out
  have HC2 := Lib.hid hc2
  clear hb hb2 ho2 hc2
  go_wp2_with fail
  refine (HC2.out).mono ?_
  rintro e w3 ⟨v3, rfl, ho3, hb3⟩
  have HB3 := Lib.hid (HB2.out.trans (hb3.mono HB2.out.size))
  have HO3 := Lib.hid (ho3.base HB2.out.size)
  clear hb3 ho3
  go_wp2_with fail
  go_ret2
  exact ⟨HB3.out, .inl ⟨HALL.out, v3, rfl, HO3.out⟩⟩

theorem two_texts (w : World) (a b : ByteArray) : SlV (w.alloc (.cells #[.string a, .string b] 9)) (.slice (some ⟨w.heap.size, 0, none⟩) 2 2) ([a, b].map sv) := by
  refine ⟨some ⟨w.heap.size, 0, none⟩, 2, rfl, Nat.le_refl _, by unfold maxLen; omega, ⟨rfl, fun _ => ⟨_, rfl, by simp, fun j u hu => ?_⟩⟩, fun e => by cases e⟩
  rw [Addr.add_mid, cell_of_row _ _ _ _ 9 (0, 0) (heap_alloc_new w _), Nat.zero_add, ← hu]
  match j with
  | 0 => rfl
  | 1 => rfl
  | j + 2 => rfl
theorem one_text (w : World) (a : ByteArray) : SlV (w.alloc (.cells #[.string a] 9)) (.slice (some ⟨w.heap.size, 0, none⟩) 1 1) ([a].map sv) := by
  refine ⟨some ⟨w.heap.size, 0, none⟩, 1, rfl, Nat.le_refl _, by unfold maxLen; omega, ⟨rfl, fun _ => ⟨_, rfl, by simp, fun j u hu => ?_⟩⟩, fun e => by cases e⟩
  rw [Addr.add_mid, cell_of_row _ _ _ _ 9 (0, 0) (heap_alloc_new w _), Nat.zero_add, ← hu]
  match j with
  | 0 => rfl
  | j + 1 => rfl
theorem ints_back (A : Option Addr) (l c k : Nat) (hkl : k ≤ l) (w : World) : (Instr.slice 31 (.slice A l c) (some (.int .i64 (k : Int))) none none).run Try.prog w = .ok (.slice (if c = k then A else A.map (·.add (k * 1))) (l - k) (c - k)) w := by
  have size_int : (sizeOf (Try.prog.elem 31)).run Try.prog w = .ok 1 w := by kernel_rfl
  rw [run_slice_l w 31 A l c Try.underlying31 .i64 k (by omega) (by omega), size_int]
  rfl
/-- The second of two places, as a slice. -/
theorem second_nat {W : World} {A : Option Addr} {c p q : Nat} (h : SlV W (.slice A 2 c) ([p, q].map nv)) : SlV W (.slice (if c = 1 then A else A.map (·.add (1 * 1))) (2 - 1) (c - 1)) ([q].map nv) := by
  obtain ⟨A', c', hv, h1, h2, h3, h4⟩ := h
  injection hv with e1 e2 e3
  subst e1 e3
  have hc : 2 ≤ c := h1
  rw [if_neg (by omega)]
  obtain ⟨ad, hA, hl, hcc⟩ := h3.2 (by simp)
  subst hA
  refine ⟨some (ad.add 1), c - 1, rfl, by show 1 ≤ c - 1; omega, by omega, ⟨rfl, fun _ => ⟨ad.add 1, rfl, by rw [block_of_add]; exact hl, fun j u hu => ?_⟩⟩, fun e => by cases e⟩
  have hj : j = 0 := by have := (List.getElem?_eq_some_iff.1 hu).1; simpa using this
  subst hj
  rw [add_of_add]
  exact hcc 1 u hu
/-- A call of a Go function that a guard lets by, as one step. -/
theorem step_enterG {P : Program} {ops : Array Oper} {o : Oper} {a : Act} {w : World} {Kk : Act → World → Prop} {Q : Exit → Act → World → Prop} {E : Prop} (hw : Region.wanted o (yielded ops a.tmps) = true) (f : FuncId) (vs : Array Value) {R : Ending → World → Prop} (hrun : (execOp a.eval o).run P w = .ok (.enter f vs) w)
    (hc : Calls P f vs w R) (hR : ∀ e w', R e w' → ∃ v, e = .returned v ∧ Kk (a.put o.dst v) w') : if Region.wanted o (yielded ops a.tmps) = true then Oper.wp P o a w Kk Q else E := by
  rw [if_pos hw]
  unfold Oper.wp
  rw [hrun, Oper.upon_enter]
  refine hc.mono ?_
  intro e w' h
  obtain ⟨v, rfl, hk⟩ := hR e w' h
  exact hk
/-- 'wpAnyH_take' with the op's target told as a number, so that the frame behind it is a plain one. -/
theorem take_at {P : Program} {md : Region.Mode} {ops : Array Oper} {Q : Exit → Act → World → Prop} {S : World → Prop} {i d : Nat} {oi : Oper} {v : Value} {fuel : Nat} {listed : Array Bool} {a : Act} {w : World} (hi : ops[i]? = some oi) (hd : oi.dst = some d)
    (hs : Region.noSelect ops = true) (hf : Region.free md ops listed i = true) (hr : (Region.ready md ops listed).contains i = true)
    (hQ : ∀ c a w, Q (.panic c) (a.put (some d) v) w → Q (.panic c) a w) (hy : YieldsIf P ops S oi v a) (hS : S w)
    (h : wpAnyH P md ops Q S fuel (listed.setIfInBounds i true) (a.put (some d) v) w) : wpAnyH P md ops Q S (fuel + 1) listed a w :=
  wpAnyH_take hi hs hf hr (by rw [hd]; exact hQ) hy hS (by rw [hd]; exact h)
def MarkN (w : World) (n : Nat) (ms : List Bool) (e : Ending) (w' : World) : Prop := ∃ gm, e = .returned (.slice (some ⟨gm, 0, none⟩) n n) ∧ w.heap.size ≤ gm ∧ BlkB w' gm ms ∧ Below w.heap.size w w'
theorem MarksPost.n {w w' : World} {ms : List Bool} {e : Ending} {n : Nat} (h : MarksPost w ms e w') (hn : ms.length = n) : MarkN w n ms e w' := by
  subst hn
  exact h
set_option maxRecDepth 100000 in
set_option maxHeartbeats 1600000 in
theorem gis_any (Z : Nat → Prop) (g : Nat) (G : GR) (a b : ByteArray) (w : World) (h : GAt Z w g G) (hw : GW G) (hs : GS G) (ha : a.size ≤ 1000000) (hb : b.size ≤ 1000000) :
    Calls Try.prog 27 #[.pointer (some ⟨g, 0, none⟩), .string a, .string b] w fun e w' => e = .returned (.bool (isG G a b)) ∧ Below w.heap.size w w' := by
  obtain ⟨w0, hw0⟩ : ∃ w0, w0 = w.alloc (.cells #[.string a, .string b] 9) := ⟨_, rfl⟩
  have hb0 : Below w.heap.size w w0 := by rw [hw0]; exact (Below.refl _ _).alloc (Nat.le_refl _) _
  have h2 : SlV w0 (.slice (some ⟨w.heap.size, 0, none⟩) 2 2) ([a, b].map sv) := by rw [hw0]; exact two_texts w a b
  have hpl := gplaces_any Z g G _ [a, b] w0 (h.below hb0) h2 (fun s hs' => by simp only [List.mem_cons, List.not_mem_nil, or_false] at hs'; rcases hs' with rfl | rfl <;> assumption) (by simp)
  have hre := fun (W : World) (u : Value) (hW : Below w.heap.size w W) (hu : SlV W u ([pl G b].map nv)) (hin : inG G b = true) => (greached_any Z g G u [pl G b] W (h.below hW) hw hs hu (fun k hk => by rw [List.mem_singleton.1 hk]; exact pl_lt hin) (by simp)).mono (fun _ _ hp => hp.n mark_len)
  have hall : allG G [a, b] = (inG G a && inG G b) := by unfold allG; simp
  have HPL := Lib.hid hpl
  have HRE := Lib.hid hre
  have HW0 := Lib.hid hw0
  have HB0 := Lib.hid hb0
  have HALL := Lib.hid hall
  have hback := fun (A : Option Addr) (l c : Nat) (hkl : 1 ≤ l) (w : World) => ints_back A l c 1 hkl w
  clear h hw hs ha hb hw0 hb0 h2 hpl hre hall
  go_enter Try.func27, Try.ntmps27
  go_wp2_with fail
  rw [← HW0.out]
  refine (HPL.out).mono ?_
  rintro e w1 ⟨hb1, ⟨hall, vp, rfl, ho1⟩ | ⟨hall, rfl⟩⟩
  case inr =>
    have HB1 := Lib.hid (HB0.out.trans (hb1.mono HB0.out.size))
    have hg : isG G a b = false := by rw [HALL.out] at hall; unfold isG; rw [hall]; rfl
    have HG := Lib.hid hg
    clear hb1 hall hg
    go_wp2_with fail
    go_quiet (fail)
    go_wp2_with fail
    go_ret
    exact ⟨by rw [HG.out]; rfl, below_drewN HB1.out _⟩
  have hb := HB0.out.trans (hb1.mono HB0.out.size)
  have hAB : inG G a = true ∧ inG G b = true := by rw [HALL.out] at hall; simpa using hall
  have hpa := pl_lt hAB.1
  have hpb := pl_lt hAB.2
  have hg : isG G a b = decide (RS (parAt G) [pl G b] (pl G a)) := by unfold isG; rw [hAB.1, hAB.2]; simp
  have hmk := mark_dec (par := parAt G) (fr := [pl G b]) hpa
  rw [← hg] at hmk
  have e2 : plsL G [a, b] = [pl G a, pl G b] := rfl
  rw [e2] at ho1
  have hsl := ho1.slv
  rcases ho1.blk with ⟨_, h0⟩ | ⟨gk, c, cur, rfl, hgk1, hgk2, hgk3, hc1, hc2, hc3, hc4⟩
  · exact absurd h0 (by simp)
  have hlen : ([pl G a, pl G b].map nv).length = 2 := rfl
  rw [hlen] at hsl hc1 ⊢
  have hbk : ∀ w, (Instr.slice 31 (.slice (some ⟨gk, 0, none⟩) 2 c) (some (.int .i64 1)) none none).run Try.prog w = .ok (.slice (some ⟨gk, 1, none⟩) 1 (c - 1)) w := fun w => by
    have := ints_back (some ⟨gk, 0, none⟩) 2 c 1 (by omega) w
    rw [if_neg (by omega)] at this
    simpa [Addr.add] using this
  have hs2 : SlV w1 (.slice (some ⟨gk, 1, none⟩) 1 (c - 1)) ([pl G b].map nv) := by
    have := second_nat hsl
    rw [if_neg (by omega)] at this
    simpa [Addr.add] using this
  have HC := Lib.hid (HRE.out w1.drew _ hb.drew hs2.drew hAB.2)
  have q0 : w1.cell? ⟨gk, 0, none⟩ = some (.int .i64 ((pl G a : Nat) : Int)) := (ho1.cellAt 0 _ rfl).1
  obtain ⟨p, hp⟩ : ∃ p, pl G a = p := ⟨_, rfl⟩
  rw [hp] at hpa hmk q0 hsl
  obtain ⟨n, hn⟩ : ∃ n, List.length G = n := ⟨_, rfl⟩
  rw [hn] at hpa hmk HC
  have HMK := Lib.hid hmk
  have HB := Lib.hid hb
  have p0 : (0 : Int) ≤ (p : Int) := by omega
  have p1 : (p : Int) < (n : Int) := by omega
  have HGK := Lib.hid hgk2
  clear hall hg hmk hn hp ho1 hlen e2 hpb hAB hs2 hb hsl hgk1 hgk2 hgk3 hc2 hc3 hc4 hback hpa hb1 HRE HPL
  go_wp2_with fail
  -- STEPS
  refine wp_region_held_drew (S := (fun w' => w'.cell? ⟨gk, 0, none⟩ = some (.int .i64 (p : Int)))) (by kernel_rfl) ?_ (fun hHeld => ?_)
  · try dsimp only
    exact q0
  refine take_at (i := 0) (d := 17) (v := ?_) rfl (by kernel_rfl) (by kernel_rfl) (by kernel_rfl) (by kernel_rfl) (fun _ _ _ h => h) (Or.inl ⟨by kernel_rfl, ?_⟩) (by assumption) ?_
  rotate_left
  · intro W hSw
    try dsimp only at hSw
    go_simp
    first | done | with_reducible rfl
  try simp only [Act.put, List.setIfInBounds_toArray, List.set_cons_zero, List.set_cons_succ]
  refine take_at (i := 1) (d := 18) (v := ?_) rfl (by kernel_rfl) (by kernel_rfl) (by kernel_rfl) (by kernel_rfl) (fun _ _ _ h => h) (Or.inl ⟨by kernel_rfl, ?_⟩) (by assumption) ?_
  rotate_left
  · intro W hSw
    try dsimp only at hSw
    go_simp
    first | done | with_reducible rfl
  try simp only [Act.put, List.setIfInBounds_toArray, List.set_cons_zero, List.set_cons_succ]
  refine take_at (i := 2) (d := 19) (v := ?_) rfl (by kernel_rfl) (by kernel_rfl) (by kernel_rfl) (by kernel_rfl) (fun _ _ _ h => h) (Or.inl ⟨by kernel_rfl, ?_⟩) (by assumption) ?_
  rotate_left
  · intro W hSw
    try dsimp only at hSw
    go_simp
    first | done | with_reducible rfl
  try simp only [Act.put, List.setIfInBounds_toArray, List.set_cons_zero, List.set_cons_succ]
  refine take_at (i := 3) (d := 20) (v := ?_) rfl (by kernel_rfl) (by kernel_rfl) (by kernel_rfl) (by kernel_rfl) (fun _ _ _ h => h) (Or.inl ⟨by kernel_rfl, ?_⟩) (by assumption) ?_
  rotate_left
  · intro W hSw
    try dsimp only at hSw
    go_simp
    first | done | with_reducible rfl
  try simp only [Act.put, List.setIfInBounds_toArray, List.set_cons_zero, List.set_cons_succ]
  refine take_at (i := 4) (d := 21) (v := ?_) rfl (by kernel_rfl) (by kernel_rfl) (by kernel_rfl) (by kernel_rfl) (fun _ _ _ h => h) (Or.inl ⟨by kernel_rfl, ?_⟩) (by assumption) ?_
  rotate_left
  · intro W hSw
    try dsimp only at hSw
    go_simp
    first | done | with_reducible rfl
  try simp only [Act.put, List.setIfInBounds_toArray, List.set_cons_zero, List.set_cons_succ]
  refine take_at (i := 5) (d := 22) (v := ?_) rfl (by kernel_rfl) (by kernel_rfl) (by kernel_rfl) (by kernel_rfl) (fun _ _ _ h => h) (Or.inl ⟨by kernel_rfl, ?_⟩) (by assumption) ?_
  rotate_left
  · intro W hSw
    try dsimp only at hSw
    go_simp
    first | done | with_reducible rfl
  try simp only [Act.put, List.setIfInBounds_toArray, List.set_cons_zero, List.set_cons_succ]
  refine take_at (i := 7) (d := 24) (v := ?_) rfl (by kernel_rfl) (by kernel_rfl) (by kernel_rfl) (by kernel_rfl) (fun _ _ _ h => h) (Or.inl ⟨by kernel_rfl, ?_⟩) (by assumption) ?_
  rotate_left
  · intro W hSw
    try dsimp only at hSw
    go_simp
    first | done | with_reducible rfl
  try simp only [Act.put, List.setIfInBounds_toArray, List.set_cons_zero, List.set_cons_succ]
  refine take_at (i := 8) (d := 25) (v := ?_) rfl (by kernel_rfl) (by kernel_rfl) (by kernel_rfl) (by kernel_rfl) (fun _ _ _ h => h) (Or.inl ⟨by kernel_rfl, ?_⟩) (by assumption) ?_
  rotate_left
  · intro W hSw
    try dsimp only at hSw
    go_simp
    first | done | with_reducible rfl
  try simp only [Act.put, List.setIfInBounds_toArray, List.set_cons_zero, List.set_cons_succ]
  refine take_at (i := 9) (d := 26) (v := ?_) rfl (by kernel_rfl) (by kernel_rfl) (by kernel_rfl) (by kernel_rfl) (fun _ _ _ h => h) (Or.inl ⟨by kernel_rfl, ?_⟩) (by assumption) ?_
  rotate_left
  · intro W hSw
    try dsimp only at hSw
    go_simp
    first | done | with_reducible rfl
  try simp only [Act.put, List.setIfInBounds_toArray, List.set_cons_zero, List.set_cons_succ]
  refine wpAnyH_ready (rs := [6]) (by kernel_rfl) (by simp) (AllReadyH.cons rfl (fun K hK => ?_) AllReadyH.nil)
  go_simp
  refine (HC.out).mono ?_
  rintro e w2 ⟨gm, rfl, hgm, hm, hb2⟩
  have q1 : w2.cell? ⟨gk, 0, none⟩ = some (.int .i64 (p : Int)) := (hb2.cell (p := ⟨gk, 0, none⟩) HGK.out).trans q0
  have cm := hm.cell p _ HMK.out
  have HB2 := Lib.hid (HB.out.drew.trans (hb2.mono HB.out.size))
  clear hgm hm hb2
  try go_wp2_with fail
  refine hK.out _ _ ?_ (fun hHeld => ?_)
  · try dsimp only
    exact q1
  clear hK K
  try simp only [Act.put, List.setIfInBounds_toArray, List.set_cons_zero, List.set_cons_succ]
  refine take_at (i := 10) (d := 27) (v := ?_) rfl (by kernel_rfl) (by kernel_rfl) (by kernel_rfl) (by kernel_rfl) (fun _ _ _ h => h) (Or.inl ⟨by kernel_rfl, ?_⟩) (by assumption) ?_
  rotate_left
  · intro W hSw
    try dsimp only at hSw
    go_simp
    first | done | with_reducible rfl
  try simp only [Act.put, List.setIfInBounds_toArray, List.set_cons_zero, List.set_cons_succ]
  refine wpAnyH_ready (rs := [11]) (by kernel_rfl) (by simp) (AllReadyH.cons rfl (fun K hK => ?_) AllReadyH.nil)
  go_simp
  try go_wp2_with fail
  refine hK.out _ _ ?_ (fun hHeld => ?_)
  · try dsimp only
    exact q1
  clear hK K
  try simp only [Act.put, List.setIfInBounds_toArray, List.set_cons_zero, List.set_cons_succ]
  refine take_at (i := 12) (d := 29) (v := ?_) rfl (by kernel_rfl) (by kernel_rfl) (by kernel_rfl) (by kernel_rfl) (fun _ _ _ h => h) (Or.inl ⟨by kernel_rfl, ?_⟩) (by assumption) ?_
  rotate_left
  · intro W hSw
    try dsimp only at hSw
    go_simp
    first | done | with_reducible rfl
  try simp only [Act.put, List.setIfInBounds_toArray, List.set_cons_zero, List.set_cons_succ]
  refine take_at (i := 13) (d := 6) (v := ?_) rfl (by kernel_rfl) (by kernel_rfl) (by kernel_rfl) (by kernel_rfl) (fun _ _ _ h => h) (Or.inl ⟨by kernel_rfl, ?_⟩) (by assumption) ?_
  rotate_left
  · intro W hSw
    try dsimp only at hSw
    go_simp
    first | done | with_reducible rfl
  try simp only [Act.put, List.setIfInBounds_toArray, List.set_cons_zero, List.set_cons_succ]
  refine wpAnyH_done (by kernel_rfl) ?_ _
  go_wp2_with fail
  go_ret
  exact ⟨rfl, HB2.out⟩
  -- END STEPS
end Go.Proofs.Ytecpedecgcaeoaa.Tx
