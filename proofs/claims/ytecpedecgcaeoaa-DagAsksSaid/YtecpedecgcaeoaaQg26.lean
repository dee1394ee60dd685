/- Texts put together: Dg7. -/
import Derived.Test.YtecpedecgcaeoaaQg25
/- Package dag: Add. -/
set_option linter.unusedVariables false
set_option linter.unusedSimpArgs false
namespace Go.Proofs.Ytecpedecgcaeoaa.Tx
open Go.RowKit Go.Maps Go.Proofs.Ytecpedecgcaeoaa.Sh

set_option maxRecDepth 4000 in
theorem ba_nil {s : ByteArray} (h : s.size = 0) : s.toList = [] ∧ s.toList.isEmpty = true := by
  have : s.toList = [] := by rw [ByteArray.toList_eq]; exact List.eq_nil_of_length_eq_zero (by rw [Array.length_toList]; exact h)
  rw [this]
  exact ⟨rfl, rfl⟩
theorem ba_some {s : ByteArray} (h : s.size ≠ 0) : ¬ (s.toList = []) ∧ s.toList.isEmpty = false := by
  have : s.toList ≠ [] := fun e => h (by
    rw [ByteArray.toList_eq] at e
    have := congrArg List.length e
    rw [Array.length_toList] at this
    exact this)
  refine ⟨this, ?_⟩
  cases hb : s.toList with
  | nil => exact absurd hb this
  | cons _ _ => rfl

theorem OwnS.slice_ {K : ShapeV} {T : TypeId} {F : Nat → Prop} {w : World} {B : Nat} {v : Value} {l : List K.α} (h : OwnS K T F w B v l) : ∃ A m c, v = .slice A m c := by
  obtain ⟨A, c, e, _⟩ := h.tmp.slice
  exact ⟨A, _, c, e⟩
/-- What Add leaves. -/
def AddPost (Z : Nat → Prop) (w : World) (g : Nat) (G : GR) (id : ByteArray) (ps : List ByteArray) (stamp : Int) (e : Ending) (w' : World) : Prop :=
  ∃ Z', e = .returned (.int .i64 (addE G id ps stamp)) ∧ GAt Z' w' g (addR G id ps stamp) ∧ Only Z w w' ∧ (∀ k, Z k → Z' k) ∧ (∀ k, Z' k → Z k ∨ w.heap.size ≤ k)
theorem AddPost.none_ {Z : Nat → Prop} {w w' : World} {g : Nat} {G : GR} {id : ByteArray} {ps : List ByteArray} {stamp x : Int} (h : GAt Z w g G) (hb : Below w.heap.size w w') (hE : addE G id ps stamp = x) (hx : x ≠ 0) : AddPost Z w g G id ps stamp (.returned (.int .i64 x)) w' := by
  refine ⟨Z, by rw [hE], ?_, Only.of_below hb, fun _ h => h, fun _ h => .inl h⟩
  unfold addR
  rw [if_neg (by rw [hE]; exact hx)]
  exact h.below hb

/-- The graph behind Add. -/
theorem GX.add {Z F : Nat → Prop} {w wb w1 w3 : World} {g bm n : Nat} {v v3 vp : Value} {G : GR} {nd : ND} {D : DataW Unit} {o : Obj} (h : GX Z F wb g bm v G) (hz : ∀ k, Z k → k < w.heap.size) (hww : Below w.heap.size w wb)
    (hD : PlOK G D) (hm : Maps.IsMap D) (hin : inG G nd.id = false) (hown1 : w1.ownsMap Try.prog 9 (plainElem Try.prog 3) bm n (D.put (.string nd.id.toList) (.lit (.int .i64 (G.length : Int))))) (hg1 : wb.drew.grownBy w1 (some bm))
    (hvp : ∀ k, vp.ownBlock = some k → w.heap.size ≤ k ∧ k < wb.heap.size) (o3 : OwnS nodeK 57 (fun k => F k ∨ vp.ownBlock = some k) w3 0 v3 (G ++ [nd])) (hg3 : (w1.alloc o).grownBy w3 v.ownBlock) (hb3 : v3.ownBlock = v.ownBlock ∨ v3.ownBlock = some (w1.alloc o).heap.size) :
    GX (fun k => Z k ∨ (w.heap.size ≤ k ∧ k < w3.heap.size)) (fun k => F k ∨ vp.ownBlock = some k) (w3.setCell ⟨g, 1, none⟩ v3) g bm v3 (G ++ [nd]) ∧ Only Z w (w3.setCell ⟨g, 1, none⟩ v3) := by
  have s0 := hww.size
  have s1 : wb.heap.size ≤ w1.heap.size := hg1.size
  have s2 : (w1.alloc o).heap.size = w1.heap.size + 1 := by simp
  have s3 := hg3.size
  have s4 : (w3.setCell ⟨g, 1, none⟩ v3).heap.size = w3.heap.size := by simp [World.setCell]
  have hgl := hz _ h.gz
  have hbl := hz _ h.bz
  have hv3 : ∀ k, v3.ownBlock = some k → (Z k ∨ (w.heap.size ≤ k ∧ k < w3.heap.size)) ∧ k ≠ g ∧ k ≠ bm := fun k hk => by
    rcases hb3 with e | e
    · rw [e] at hk
      have := h.vz k hk
      exact ⟨.inl this.1, this.2⟩
    · have h3 := (o3.lt k hk).2
      rw [e] at hk
      injection hk with hk
      exact ⟨.inr ⟨by omega, h3⟩, by omega, by omega⟩
  have hbk : Blk w3 g 52 #[.map (some bm), v] := ((h.blk.drew.grown hg1 (fun e => h.g_bm (by injection e with e; exact e.symm))).alloc o).grown hg3 (fun e => (h.vz g e.symm).2.1 rfl)
  have ho : Only (fun k => v.ownBlock = some k ∨ k = g) w1 (w3.setCell ⟨g, 1, none⟩ v3) := (((Only.refl (fun k => v.ownBlock = some k ∨ k = g) w1).alloc o).grown hg3 (fun k e => .inl (.inl e))).set_ (.inl (.inr rfl)) v3
  refine ⟨⟨?_, ?_, ⟨_, own_exact (own_only hown1 ho ?_), hD.put hm nd hin⟩, fun k hk => ?_, .inl h.gz, .inl h.bz, hv3, fun k hk => ?_⟩, ?_⟩
  · simpa using hbk.set_ 1 v3
  · refine o3.only ((Only.refl (fun k => k = g) w3).set_ (.inl rfl) v3) (fun k hk e => ?_) (fun k hk e => (hv3 k hk).2.1 e)
    subst e
    rcases hk with hk | hk
    · exact (h.fz _ hk).2.1 rfl
    · have := (hvp _ hk).1; omega
  · rintro (e | e)
    · exact (h.vz _ e).2.2 rfl
    · exact h.g_bm e
  · rcases hk with hk | hk
    · have := h.fz k hk
      exact ⟨.inl this.1, this.2⟩
    · have := hvp k hk
      exact ⟨.inr ⟨this.1, by omega⟩, by omega, by omega⟩
  · rw [s4]
    rcases hk with hk | hk
    · have := hz k hk; omega
    · exact hk.2
  · refine (Only.of_below (M := Z) hww).trans (M' := Z) ?_ (fun k hk => .inl hk)
    exact ((((Only.refl Z wb).drew.grown hg1 (fun k e => by injection e with e; subst e; exact .inl h.bz)).alloc o).grown hg3 (fun k e => .inl (h.vz k e).1)).set_ (.inl h.gz) v3
set_option maxRecDepth 100000 in
set_option maxHeartbeats 6400000 in
theorem gadd_any (Z : Nat → Prop) (g : Nat) (G : GR) (id : ByteArray) (v : Value) (ps : List ByteArray) (stamp : Int) (w : World) (h : GAt Z w g G) (hw : GW G) (hs : GS G) (hid : id.size ≤ 1000000) (hv : SlV w v (ps.map sv)) (hsz : ∀ s ∈ ps, s.size ≤ 1000000) (hn : ps.length ≤ 200) :
    Calls Try.prog 9 #[.pointer (some ⟨g, 0, none⟩), .string id, v, .int .i64 stamp] w (AddPost Z w g G id ps stamp) := by
  have HG := Lib.hid h
  by_cases h0 : id.size = 0
  · obtain ⟨z2, z3⟩ := ba_nil h0
    have HE : Hid (addE G id ps stamp = 6) := by unfold Hid addE; rw [if_pos h0]
    clear h hw hs hid hv hsz hn h0
    go_enter Try.func9, Try.ntmps9
    go_wp2_with fail
    go_ret
    exact AddPost.none_ HG.out (Below.refl _ _) HE.out (by decide)
  obtain ⟨z2, z3⟩ := ba_some h0
  have hhas := ghas_any Z g G id w h hid
  have HHAS := Lib.hid hhas
  cases hin : inG G id with
  | true =>
    rw [hin] at HHAS
    have HE : Hid (addE G id ps stamp = 8) := by unfold Hid addE; rw [if_neg h0, if_pos hin]
    clear h hw hs hid hv hsz hn h0 hhas hin
    go_enter Try.func9, Try.ntmps9
    go_wp2_with fail
    refine (HHAS.out).mono ?_
    rintro e w' ⟨rfl, rfl⟩
    go_wp2_with fail
    go_ret
    exact AddPost.none_ HG.out (Below.refl _ _) HE.out (by decide)
  | false =>
  rw [hin] at HHAS
  have hu := uniq_any v ps w hv (by omega)
  have HU := Lib.hid hu
  have hul := uniqT_len ps
  have husz : ∀ s ∈ uniqT ps, s.size ≤ 1000000 := fun s hs' => hsz s (((uniqT_spec ps).2 s).1 hs')
  have hpl : ∀ (W : World) (u : Value), Below w.heap.size w W → SlV W u ((uniqT ps).map sv) → Calls Try.prog 29 #[.pointer (some ⟨g, 0, none⟩), u] W (PlacesPost W G (uniqT ps)) := fun W u hW hu' => gplaces_any Z g G u (uniqT ps) W (h.below hW) hu' husz (by omega)
  have HPL := Lib.hid hpl
  obtain ⟨us, hus⟩ : ∃ us, uniqT ps = us := ⟨_, rfl⟩
  rw [hus] at hul HU HPL
  have HUS := Lib.hid hus
  have HW := Lib.hid hw
  have HS := Lib.hid hs
  have HIN := Lib.hid hin
  have HID := Lib.hid hid
  clear hw hid hv hsz hhas hin hu husz hpl hus h
  go_enter Try.func9, Try.ntmps9
  go_wp2_with fail
  refine (HHAS.out).mono ?_
  rintro e w' ⟨rfl, rfl⟩
  go_wp2_with fail
  refine (HU.out).mono ?_
  rintro e wa ⟨va, rfl, hoa, hba⟩
  have hca := HPL.out wa va hba hoa.slv
  have HCA := Lib.hid hca
  have HBA := Lib.hid hba
  clear hoa hba hca
  go_wp2_with fail
  refine (HCA.out).mono ?_
  rintro e wb ⟨hbb, hcase⟩
  have hbw : Below w.heap.size w wb := HBA.out.trans (hbb.mono HBA.out.size)
  have HBW := Lib.hid hbw
  have HBB := Lib.hid hbb
  clear hbb
  rcases hcase with ⟨hall, vp, rfl, hop⟩ | ⟨hall, rfl⟩
  case inr =>
    have HE : Hid (addE G id ps stamp = 7) := by unfold Hid addE; rw [if_neg h0, if_neg (by rw [HIN.out]; decide), HUS.out, if_pos hall]
    clear hs hn h0 hbw hall hul
    go_wp2_with fail
    go_ret
    exact AddPost.none_ HG.out HBW.out HE.out (by decide)
  obtain ⟨Ap, cp, hvp, _, _⟩ := hop.length
  obtain ⟨mp, hmp⟩ : ∃ m, ((plsL G us).map nv).length = m := ⟨_, rfl⟩
  rw [hmp] at hvp
  subst hvp
  clear hmp
  have HOP := Lib.hid (hop.base HBA.out.size)
  have HALL := Lib.hid hall
  have hplt := pls_lt hall
  have hgb := HG.out.below hbw
  have habv := gabove_any Z g G stamp (.slice Ap mp cp) (plsL G us) wb hgb hop.slv hplt
  have HAB := Lib.hid habv
  have hpl2 : (plsL G us).length ≤ 200 := by rw [pls_len]; omega
  obtain ⟨ks, hks⟩ : ∃ ks, plsL G us = ks := ⟨_, rfl⟩
  rw [hks] at HOP HAB hpl2
  have HKS := Lib.hid hks
  have HH0 := Lib.hid h0
  have HPL2 := Lib.hid hpl2
  by_cases hst : stamp < 0
  · have HE : Hid (addE G id ps stamp = 1) := by unfold Hid addE; rw [if_neg h0, if_neg (by rw [HIN.out]; decide), HUS.out, if_neg (by rw [hall]; decide), if_pos (.inl hst)]
    have e1 : decide (stamp < 0) = true := decide_eq_true hst
    clear hs hn h0 hbw hall hul hplt hgb habv hop hks hpl2
    go_wp2_with fail
    go_ret
    exact AddPost.none_ HG.out HBW.out HE.out (by decide)
  have e1 : decide (stamp < 0) = false := decide_eq_false hst
  cases hab : aboveB G stamp ks with
  | false =>
    rw [hab] at HAB
    have HE : Hid (addE G id ps stamp = 1) := by unfold Hid addE; rw [if_neg h0, if_neg (by rw [HIN.out]; decide), HUS.out, if_neg (by rw [hall]; decide), if_pos (.inr (by rw [HKS.out]; exact hab))]
    clear hs hn h0 hbw hall hul hplt hgb habv hop hks hab hpl2
    go_wp2_with fail
    refine (HAB.out).mono ?_
    rintro e wc ⟨rfl, rfl⟩
    go_wp2_with fail
    go_ret
    exact AddPost.none_ HG.out HBW.out HE.out (by decide)
  | true =>
  rw [hab] at HAB
  obtain ⟨F, bm, vr, hx⟩ := hgb
  obtain ⟨Ar, cr, rfl, hlr, hcr⟩ := hx.slice
  have c1 := hx.c1
  have c0 := hx.c0
  have hz0 : ∀ k, Z k → k < w.heap.size := HG.out.zl
  have HZ0 := Lib.hid hz0
  by_cases hmax : 2000 ≤ G.length
  · have HE : Hid (addE G id ps stamp = 14) := by
      unfold Hid addE
      rw [if_neg h0, if_neg (by rw [HIN.out]; decide), HUS.out, if_neg (by rw [hall]; decide), if_neg (by rw [HKS.out, hab]; rintro (h | h); exact hst h; cases h), if_pos hmax]
    obtain ⟨n, hn'⟩ : ∃ n, G.length = n := ⟨_, rfl⟩
    rw [hn'] at hmax c1 hlr
    have m1 : (2000 : Int) ≤ (n : Int) := by omega
    clear hs hn h0 hbw hall hul hplt habv hop hks hab hx hn' hpl2
    go_wp2_with fail
    refine (HAB.out).mono ?_
    rintro e wc ⟨rfl, rfl⟩
    go_wp2_with fail
    go_ret
    exact AddPost.none_ HG.out HBW.out HE.out (by decide)
  have HE : Hid (addE G id ps stamp = 0) := by
    unfold Hid addE
    rw [if_neg h0, if_neg (by rw [HIN.out]; decide), HUS.out, if_neg (by rw [hall]; decide), if_neg (by rw [HKS.out, hab]; rintro (h | h); exact hst h; cases h), if_neg hmax]
  obtain ⟨D, hown, hplk⟩ := hx.map
  have hms : Maps.size D ≤ G.length := by
    have := own_within hown (ds := G.map fun n => n.id.toList) (fun x hx' => by
      rw [(hplk x).1] at hx'
      obtain ⟨k, hk⟩ := Option.isSome_iff_exists.1 hx'
      have h1 := pos_lt hk
      have h2 := pos_id hk
      rw [idAt_of (List.getElem?_eq_getElem h1)] at h2
      exact List.mem_map.2 ⟨_, List.getElem_mem h1, h2⟩)
    rwa [List.length_map] at this
  have HMS : Hid (Maps.size D < maxLen) := by unfold Hid; unfold maxLen; omega
  have HOWN := Lib.hid hown
  have HPLK := Lib.hid hplk
  have HX := Lib.hid hx
  have HIM : Hid (Maps.IsMap D) := own_isMap hown
  have HKEY := Lib.hid (key_ba id HID.out)
  obtain ⟨n, hn'⟩ : ∃ n, G.length = n := ⟨_, rfl⟩
  rw [hn'] at hmax c1 hlr
  have HN := Lib.hid hn'
  have m1 : (n : Int) < 2000 := by omega
  have m2 : (0 : Int) ≤ (n : Int) := by omega
  clear hs hn h0 hbw hall hul hplt habv hop hks hab hx hn' hown hplk hms hpl2
  go_wp2_with fail
  refine (HAB.out).mono ?_
  rintro e wc ⟨rfl, rfl⟩
  have c0d : wb.drew.cell? ⟨g, 0, none⟩ = some (.map (some bm)) := c0
  go_wp2_with fail
  go_still_tail 10, (by kernel_rfl)
  change wpList _ _ _ _ _ wb.drew
  have hne1 : (some g : Option Nat) ≠ some bm := fun e => HX.out.g_bm (by injection e with e; exact e.symm)
  have hvpb : ∀ k, (Value.slice Ap mp cp).ownBlock = some k → w.heap.size ≤ k ∧ k < wb.heap.size := fun k hk => HOP.out.lt k hk
  have HVPB := Lib.hid hvpb
  obtain ⟨nd, hnd⟩ : ∃ nd : ND, nd = ⟨id, ks, stamp⟩ := ⟨_, rfl⟩
  have HND := Lib.hid hnd
  have hprep : ∀ w1 : World, wb.drew.grownBy w1 (some bm) → OwnS nodeK 57 (fun k => F k ∨ (Value.slice Ap mp cp).ownBlock = some k) (w1.alloc (.cells #[.string id, .slice Ap mp cp, .int .i64 stamp] 57)) 0 (.slice Ar (List.length G) cr) G ∧ TmpV nodeK (fun k => F k ∨ (Value.slice Ap mp cp).ownBlock = some k) (w1.alloc (.cells #[.string id, .slice Ap mp cp, .int .i64 stamp] 57)) (.slice (some ⟨w1.heap.size, 0, none⟩) 1 1) [nd] ∧ (∀ k, F k ∨ (Value.slice Ap mp cp).ownBlock = some k → k < (w1.alloc (.cells #[.string id, .slice Ap mp cp, .int .i64 stamp] 57)).heap.size) ∧ w1.cell? ⟨g, 1, none⟩ = some (.slice Ar (List.length G) cr) ∧
      (∀ w3, (w1.alloc (.cells #[.string id, .slice Ap mp cp, .int .i64 stamp] 57)).grownBy w3 (Value.slice Ar (List.length G) cr).ownBlock → Blk w3 g 52 #[.map (some bm), .slice Ar (List.length G) cr]) := by
    intro w1 hg1
    have hww := HBW.out.size
    have s1 : wb.heap.size ≤ w1.heap.size := hg1.size
    have o1 : Only (fun k => k = bm) wb w1 := (Only.refl _ wb).drew.grown hg1 (fun k e => .inl (by injection e with e; exact e.symm))
    have hn1 := HX.out.nodes.only o1 (fun k hk e => (HX.out.fz k hk).2.2 e) (fun k hk e => (HX.out.vz k hk).2.2 e)
    have hlt : ∀ k, F k ∨ (Value.slice Ap mp cp).ownBlock = some k → k < w1.heap.size := fun k hk => by
      rcases hk with hk | hk
      · have := HZ0.out k (HX.out.fz k hk).1; omega
      · have := (hvpb k hk).2; omega
    have hn2 : OwnS nodeK 57 (fun k => F k ∨ (Value.slice Ap mp cp).ownBlock = some k) w1 0 (.slice Ar (List.length G) cr) G := hn1.mono (fun k _ hk => .inl hk) (fun k hk => by
      rintro (hf | hf)
      · exact HX.out.nodes.2 k hk hf
      · have h1 := HZ0.out k (HX.out.vz k hk).1
        have := (hvpb k hf).1
        omega)
    have hp1 : OwnV 3 w1 w.heap.size (.slice Ap mp cp) (ks.map nv) := HOP.out.drew.kept hg1 (.inr (fun e => by have := (hvpb bm e).1; have := HZ0.out bm HX.out.bz; omega))
    refine ⟨hn2.alloc _, TmpV.one (K := nodeK) (Blk.new w1 57 #[.string id, .slice Ap mp cp, .int .i64 stamp]) (by rw [HND.out]; rfl) ?_, fun k hk => Nat.lt_of_lt_of_le (hlt k hk) (by simp), ?_, fun w3 hg3 => ((HX.out.blk.drew.grown hg1 hne1).alloc _).grown hg3 (fun e => (HX.out.vz g e.symm).2.1 rfl)⟩
    · rw [HND.out]
      exact Rd.of_own (hp1.alloc _) (fun k hk => .inr hk)
    · exact (HX.out.blk.drew.grown hg1 hne1).cell 1
  have HPREP := Lib.hid hprep
  rw [HN.out] at HPREP
  have hsm : G.length + ([nd] : List ND).length ≤ 2000000 := by rw [HN.out, List.length_singleton]; omega
  clear hne1 hvpb hnd hprep
  go_wp2_with (first
    | (at_mapUpdate; refine wpList_mapUpdate_own _ rfl _ _ _ 49 rfl 9 3 lawS Try.underlying49 _ bm _ D rfl (by exact HOWN.out) (by exact HMS.out) _ _ (.string id.toList) rfl rfl (by exact HKEY.out) (.lit (.int .i64 (n : Int))) [] (plainElem_int Try.underlying3 (WalkArith.wf_i64 (by omega))) ?_; intro w1 hown1 hgrow1; have HOWN1 := Lib.hid hown1; have HG1 := Lib.hid hgrow1; have c1w := (HPREP.out w1 hgrow1).2.2.2.1; clear hown1 hgrow1)
    | (at_builtin; refine list_appendV typed_node rfl (.tmp 55) (.tmp 60) rfl (HPREP.out w1 HG1.out).1 (HPREP.out w1 HG1.out).2.1 rfl rfl hsm (Nat.zero_le _) (HPREP.out w1 HG1.out).2.2.1 ?_; intro v3 w3 ho3 hg3 hb3; obtain ⟨A3, m3, c3, rfl⟩ := OwnS.slice_ ho3; have HO3 := Lib.hid ho3; have HG3 := Lib.hid hg3; have HB3 := Lib.hid hb3; have hbk := (HPREP.out w1 HG1.out).2.2.2.2 w3 hg3; have c1z := hbk.cell 1; have c1f := hbk.frozen 1; clear ho3 hg3 hb3 hbk))
  go_ret
  have hadd := GX.add (nd := nd) (w := w) (n := Maps.size D + 1) HX.out HZ0.out HBW.out HPLK.out HIM.out (by rw [HND.out]; exact HIN.out) (by rw [HND.out, HN.out]; exact HOWN1.out) HG1.out HVPB.out HO3.out (by rw [HN.out]; exact HG3.out) (by rw [HN.out]; exact HB3.out)
  refine ⟨fun k => Z k ∨ (w.heap.size ≤ k ∧ k < w3.heap.size), by rw [HE.out]; rfl, ?_, hadd.2, fun k hk => Or.inl hk, fun k hk => Or.imp (fun x => x) (fun x => x.1) hk⟩
  unfold addR
  rw [if_pos HE.out]
  unfold addG
  rw [HUS.out, HKS.out, ← HND.out]
  exact ⟨_, _, _, hadd.1⟩
end Go.Proofs.Ytecpedecgcaeoaa.Tx
