/- Texts put together: Gr7. -/
import Derived.Test.YtecpedecgcaeoaaQg40
import Derived.Great.BuildSlice
/- The document's Graph: Add. -/
set_option linter.unusedVariables false
set_option linter.unusedSimpArgs false
namespace Go.Proofs.Ytecpedecgcaeoaa.Tx
open Go.RowKit Go.Proofs.Ytecpedecgcaeoaa.Sh

section
variable {G : GR} {id : ByteArray} {ps : List ByteArray} {stamp : Int}
theorem adde_name (h : id.size = 0) : addE G id ps stamp = 6 := by unfold addE; rw [if_pos h]
theorem adde_there (h : id.size ≠ 0) (h1 : inG G id = true) : addE G id ps stamp = 8 := by unfold addE; rw [if_neg h, if_pos h1]
theorem adde_none (h : id.size ≠ 0) (h1 : inG G id = false) {x : ByteArray} (hx : x ∈ ps) (h2 : inG G x = false) : addE G id ps stamp = 7 := by
  have : allG G (uniqT ps) = false := by
    rw [all_uq]
    cases ha : allG G ps with
    | false => rfl
    | true => rw [all_iff.1 ha x hx] at h2; cases h2
  unfold addE
  rw [if_neg h, if_neg (by rw [h1]; decide), if_pos this]
theorem all_of {ps : List ByteArray} (h : ∀ s ∈ ps, inG G s = true) : allG G (uniqT ps) = true := by rw [all_uq]; exact all_iff.2 h
theorem adde_low (h : id.size ≠ 0) (h1 : inG G id = false) (h2 : ∀ s ∈ ps, inG G s = true) {x : ByteArray} (hx : x ∈ ps) (h3 : stamp ≤ stAt G (pl G x)) : addE G id ps stamp = 1 := by
  have h4 : aboveB G stamp (plsL G (uniqT ps)) = false := by
    cases ha : aboveB G stamp (plsL G (uniqT ps)) with
    | false => rfl
    | true =>
      unfold aboveB at ha
      have := List.all_eq_true.1 ha (pl G x) (List.mem_map.2 ⟨x, (uniqT_spec ps).2 x |>.2 hx, rfl⟩)
      have := of_decide_eq_true this
      omega
  unfold addE
  rw [if_neg h, if_neg (by rw [h1]; decide), if_neg (by rw [all_of h2]; decide), if_pos (.inr h4)]
theorem adde_neg (h : id.size ≠ 0) (h1 : inG G id = false) (h2 : ∀ s ∈ ps, inG G s = true) (h3 : stamp < 0) : addE G id ps stamp = 1 := by
  unfold addE
  rw [if_neg h, if_neg (by rw [h1]; decide), if_neg (by rw [all_of h2]; decide), if_pos (.inl h3)]
theorem above_of (h2 : ∀ s ∈ ps, stAt G (pl G s) < stamp) : aboveB G stamp (plsL G (uniqT ps)) = true := by
  unfold aboveB
  refine List.all_eq_true.2 fun k hk => ?_
  obtain ⟨s, hs, rfl⟩ := List.mem_map.1 hk
  exact decide_eq_true (h2 s ((uniqT_spec ps).2 s |>.1 hs))
theorem adde_full (h : id.size ≠ 0) (h1 : inG G id = false) (h2 : ∀ s ∈ ps, inG G s = true) (h3 : 0 ≤ stamp) (h4 : ∀ s ∈ ps, stAt G (pl G s) < stamp) (h5 : 2000 ≤ G.length) : addE G id ps stamp = 14 := by
  unfold addE
  rw [if_neg h, if_neg (by rw [h1]; decide), if_neg (by rw [all_of h2]; decide), if_neg (by rw [above_of h4]; simp; omega), if_pos h5]
theorem adde_done (h : id.size ≠ 0) (h1 : inG G id = false) (h2 : ∀ s ∈ ps, inG G s = true) (h3 : 0 ≤ stamp) (h4 : ∀ s ∈ ps, stAt G (pl G s) < stamp) (h5 : G.length < 2000) : addE G id ps stamp = 0 := by
  unfold addE
  rw [if_neg h, if_neg (by rw [h1]; decide), if_neg (by rw [all_of h2]; decide), if_neg (by rw [above_of h4]; simp; omega), if_neg (by omega)]
end
/-- What the document's Add leaves. -/
def DAdd (Z : Nat → Prop) (w : World) (g : Nat) (G : GR) (id : ByteArray) (ps : List ByteArray) (stamp : Int) (e : Ending) (w' : World) : Prop :=
  ∃ Z', e = .returned (.int .i64 (addE G id ps stamp)) ∧ DGo Z' w' g (addR G id ps stamp) ∧ Only Z w w' ∧ (∀ k, Z k → Z' k) ∧ (∀ k, Z' k → Z k ∨ w.heap.size ≤ k)
theorem DAdd.none_ {Z : Nat → Prop} {w w' : World} {g : Nat} {G : GR} {id : ByteArray} {ps : List ByteArray} {stamp x : Int} (h : DGo Z w g G) (hb : Below w.heap.size w w') (hE : addE G id ps stamp = x) (hx : x ≠ 0) : DAdd Z w g G id ps stamp (.returned (.int .i64 x)) w' := by
  refine ⟨Z, by rw [hE], ?_, Only.of_below hb, fun _ h => h, fun _ h => .inl h⟩
  unfold addR
  rw [if_neg (by rw [hE]; exact hx)]
  exact h.below hb
section
variable {ops : Array Oper} {o : Oper} {a : Act} {w : World} {K : Act → World → Prop} {Q : Exit → Act → World → Prop} {Ep : Prop}
theorem sbuild {t e : TypeId} {i0 : TypeInfo} {z val : Value} (d : Nat) (hd : o.dst = some d) (hgd : o.guard = none) (x : Operand) (ho : o.op = .buildSlice t 1 #[(0, x)]) (hu : Try.prog.underlying t = some (.slice e)) (hi : Try.prog.info? e = some i0) (hz : i0.zero = some z) (hsz : i0.size = 1) (hx : a.eval x = val) (hc : val.cells = #[val]) (hzc : z.cells = #[z])
    (h : K (a.put (some d) (.slice (some ⟨w.heap.size, 0, none⟩) 1 1)) (w.alloc (.cells #[val] e))) : if Region.wanted o (yielded ops a.tmps) = true then Oper.wp Try.prog o a w K Q else Ep := by
  have hw : Region.wanted o (yielded ops a.tmps) = true := by simp [Region.wanted, hgd]
  rw [if_pos hw]
  refine wp_buildSlice t e 1 _ ho #[val] i0 z hu hi hz (by rw [hsz]; decide) (by rw [hsz]; decide) ?_ (by rw [hd]; exact h)
  rw [hsz]
  have hr1 : Array.range (1 * 1) = #[0] := by decide
  rw [hr1]
  simp [Instr.fill, hx, hc, hzc]
theorem sbuild0 (d : Nat) (hd : o.dst = some d) (hgd : o.guard = none) (x : Operand) (ho : o.op = .buildSlice 23 1 #[(0, x)]) (u : ByteArray) (hx : a.eval x = .string u)
    (h : K (a.put (some d) (.slice (some ⟨w.heap.size, 0, none⟩) 1 1)) (w.alloc (.cells #[.string u] 9))) : if Region.wanted o (yielded ops a.tmps) = true then Oper.wp Try.prog o a w K Q else Ep := by
  obtain ⟨i0, hi, hz0, hz1, hz2⟩ := info_parts info_str
  exact sbuild d hd hgd x ho Try.underlying23 hi hz0 hz1 hx rfl rfl h
theorem sbuild1 (d : Nat) (hd : o.dst = some d) (hgd : o.guard = none) (x : Operand) (ho : o.op = .buildSlice 30 1 #[(0, x)]) (u : Value) (hu : u.cells = #[u]) (hx : a.eval x = u)
    (h : K (a.put (some d) (.slice (some ⟨w.heap.size, 0, none⟩) 1 1)) (w.alloc (.cells #[u] 23))) : if Region.wanted o (yielded ops a.tmps) = true then Oper.wp Try.prog o a w K Q else Ep := by
  obtain ⟨i0, hi, hz0, hz1, hz2⟩ := info_parts info_txs
  exact sbuild d hd hgd x ho Try.underlying30 hi hz0 hz1 hx hu rfl h
theorem sbuild2 (d : Nat) (hd : o.dst = some d) (hgd : o.guard = none) (x : Operand) (ho : o.op = .buildSlice 31 1 #[(0, x)]) (u : Int) (hx : a.eval x = .int .i64 u)
    (h : K (a.put (some d) (.slice (some ⟨w.heap.size, 0, none⟩) 1 1)) (w.alloc (.cells #[.int .i64 u] 3))) : if Region.wanted o (yielded ops a.tmps) = true then Oper.wp Try.prog o a w K Q else Ep := by
  obtain ⟨i0, hi, hz0, hz1, hz2⟩ := info_parts info_int
  exact sbuild d hd hgd x ho Try.underlying31 hi hz0 hz1 hx rfl rfl h
end
set_option maxRecDepth 100000 in
set_option maxHeartbeats 6400000 in
theorem rgadd_any {Z : Nat → Prop} {w : World} {g : Nat} {G : GR} (id : ByteArray) (v : Value) (ps : List ByteArray) (stamp : Int) (h : DGo Z w g G) (hw : GW G) (hl : G.length ≤ 2000) (hva : ∀ W, Only Z w W → SlV W v (ps.map sv)) (hn : ps.length ≤ 2000) :
    Calls Try.prog 10 #[.pointer (some ⟨g, 0, none⟩), .string id, v, .int .i64 stamp] w (DAdd Z w g G id ps stamp) := by
  have hv := hva w (Only.refl _ _)
  have HVA := Lib.hid hva
  clear hva
  have HD := Lib.hid h
  have HNO := Lib.hid (fun (W : World) (hb : Below w.heap.size w W) (x : Int) (hE : addE G id ps stamp = x) (hx : x ≠ 0) => DAdd.none_ (w' := W) h hb hE hx)
  have HAT := Lib.hid (fun W (hW : Below w.heap.size w W) (s : ByteArray) => rat_any s (h.rg.below hW) (by omega))
  by_cases hid : id.size = 0
  · obtain ⟨e1, e2⟩ := ba_nil hid
    have HR := Lib.hid (HNO.out w (Below.refl _ _) 6 (adde_name hid) (by decide))
    clear h hw hv
    go_enter Try.func10, Try.ntmps10
    go_wp2_with fail
    go_ret
    exact HR.out
  obtain ⟨e1, e2⟩ := ba_some hid
  have HA0 := Lib.hid (HAT.out w (Below.refl _ _) id)
  have HID := Lib.hid hid
  cases hin : inG G id with
  | true =>
    rw [atP_in hin] at HA0
    have HR := Lib.hid (HNO.out w (Below.refl _ _) 8 (adde_there hid hin) (by decide))
    have z : (0 : Int) ≤ (pl G id : Int) := by omega
    clear h hw hv hid
    go_enter Try.func10, Try.ntmps10
    go_wp2_with fail
    refine HA0.out.mono ?_
    rintro e w2 ⟨rfl, rfl⟩
    go_wp2_with fail
    go_ret
    exact HR.out
  | false =>
  rw [atP_out hin] at HA0
  have HIN := Lib.hid hin
  have HGW := Lib.hid hw
  have HV := Lib.hid hv
  obtain ⟨A, c, rfl, hlc, hcm, _⟩ := hv.len
  rw [List.length_map] at HV HVA hlc ⊢
  unfold maxLen at hcm
  obtain ⟨n, hnn⟩ : ∃ n, G.length = n := ⟨_, rfl⟩
  obtain ⟨m, hm⟩ : ∃ m, ps.length = m := ⟨_, rfl⟩
  rw [hnn] at hl
  rw [hm] at HV HVA hlc hn ⊢
  have HN := Lib.hid hnn
  have HM := Lib.hid hm
  clear h hw hv hid hin hnn hm
  go_enter Try.func10, Try.ntmps10
  go_wp2_with fail
  refine HA0.out.mono ?_
  rintro e w2 ⟨rfl, rfl⟩
  go_wp2_with fail
  go_loopw [9] (fun x wr => ∃ i : Nat, i ≤ m ∧ x = .int .i64 (i : Int) ∧ wr = w ∧ ∀ s ∈ ps.take i, inG G s = true) (fun x _ => m - (intOf x).toNat)
  case atStart => exact ⟨0, Nat.zero_le _, rfl, rfl, fun s hs => by cases hs⟩
  case round =>
    obtain ⟨i, hi, rfl, rfl, hall⟩ := hrel
    have HALL := Lib.hid hall
    clear hall
    have z0 : (0 : Int) ≤ (i : Int) := by omega
    by_cases hlt : i < m
    · have z1 : (i : Int) < (m : Int) := by omega
      have hil : i < ps.length := by rw [HM.out]; exact hlt
      obtain ⟨x, hx⟩ : ∃ x, ps[i]? = some x := ⟨_, List.getElem?_eq_getElem hil⟩
      obtain ⟨ad, rfl, x0⟩ := gtext_cell HV.out i x hx
      have HX := Lib.hid hx
      clear hil hx
      have HA := Lib.hid (HAT.out wr (Below.refl _ _) x)
      cases hin : inG G x with
      | false =>
        rw [atP_out hin] at HA
        have HR := Lib.hid (HNO.out wr (Below.refl _ _) 7 (adde_none HID.out HIN.out (List.mem_of_getElem? HX.out) hin) (by decide))
        clear hin
        go_wp2_with fail
        refine HA.out.mono ?_
        rintro e w2 ⟨rfl, rfl⟩
        go_wp2_with fail
        go_ret
        exact HR.out
      | true =>
        rw [atP_in hin] at HA
        have q0 : (0 : Int) ≤ (pl G x : Int) := by omega
        have HI := Lib.hid hin
        clear hin
        go_wp2_with fail
        refine HA.out.mono ?_
        rintro e w2 ⟨rfl, rfl⟩
        go_wp2_with fail
        go_roundw
        case rel => exact ⟨i + 1, by omega, by go_num, trivial, fun s hs => by
          rw [List.take_add_one, HX.out] at hs
          rcases List.mem_append.1 hs with h | h
          · exact HALL.out s h
          · have : s = x := by simpa using h
            rw [this]; exact HI.out⟩
        case measure => simp [intOf]; omega
    · obtain rfl : i = m := by omega
      have HALL2 : Hid (∀ s ∈ ps, inG G s = true) := by
        unfold Hid
        have := HALL.out
        rwa [List.take_of_length_le (by rw [HM.out]; exact Nat.le_refl _)] at this
      clear HALL
      obtain ⟨v2, y2, hs2⟩ := HD.out.rg.c2
      obtain ⟨As, cs2, rfl, hls, hcs, hrs, _⟩ := hs2
      rw [List.length_map, HN.out] at y2 hls
      rw [List.length_map] at hrs
      unfold maxLen at hcs
      have HRS : Hid (∀ k, k < n → ∃ ad, As = some ad ∧ ∀ W, Below wr.heap.size wr W → W.cell? (ad.add k) = some (.int .i64 (stAt G k))) := fun k hk => by
        have hk' : k < G.length := by rw [HN.out]; exact hk
        obtain ⟨ad, e, x⟩ := reads_at hrs k (.int .i64 (stAt G k)) (by rw [List.getElem?_map, List.getElem?_eq_getElem hk', stAt_of (List.getElem?_eq_getElem hk')]; rfl)
        exact ⟨ad, e, fun W hW => (hW.cell (World.block_lt_of_cell? wr _ x)).trans x⟩
      have HC2 : Hid (∀ W, Below wr.heap.size wr W → W.cell? ⟨g, 2, none⟩ = some (.slice As n cs2)) := fun W hW => (hW.cell (World.block_lt_of_cell? wr _ y2)).trans y2
      clear hrs y2
      go_wp2_with fail
      go_loopw [10] (fun x wq => ∃ j : Nat, j ≤ i ∧ x = .int .i64 (j : Int) ∧ Below wr.heap.size wr wq ∧ ∀ s ∈ ps.take j, stAt G (pl G s) < stamp) (fun x _ => i - (intOf x).toNat)
      case atStart => exact ⟨0, Nat.zero_le _, rfl, Below.refl _ _, fun s hs => by cases hs⟩
      case round =>
        rename_i wq _ hrel
        obtain ⟨j, hj, rfl, hbq, hab⟩ := hrel
        have HAB := Lib.hid hab
        have HB := Lib.hid hbq
        clear hab hbq
        have z3 : (0 : Int) ≤ (j : Int) := by omega
        by_cases hlt : j < i
        · have z1 : (j : Int) < (i : Int) := by omega
          have hil : j < ps.length := by rw [HM.out]; exact hlt
          obtain ⟨x, hx⟩ : ∃ x, ps[j]? = some x := ⟨_, List.getElem?_eq_getElem hil⟩
          obtain ⟨ad, rfl, x0⟩ := gtext_cell (HV.out.below HB.out) j x hx
          have HX := Lib.hid hx
          have hin := HALL2.out x (List.mem_of_getElem? hx)
          clear hil hx
          have HA := Lib.hid (HAT.out _ HB.out.drew x)
          rw [atP_in hin] at HA
          have hp := pl_lt hin
          rw [HN.out] at hp
          obtain ⟨p, hpp⟩ : ∃ p, pl G x = p := ⟨_, rfl⟩
          rw [hpp] at HA hp
          obtain ⟨ads, rfl, hst⟩ := HRS.out p hp
          have s1 := hst _ HB.out
          obtain ⟨st, hs⟩ : ∃ st, stAt G p = st := ⟨_, rfl⟩
          rw [hs] at s1
          have s0 := HC2.out _ HB.out
          have HST : Hid (stAt G (pl G x) = st) := by unfold Hid; rw [hpp]; exact hs
          have q0 : (0 : Int) ≤ (p : Int) := by omega
          have q1 : (p : Int) < (n : Int) := by omega
          clear hin hpp hst hs
          by_cases hlow : stamp ≤ st
          · have HR := Lib.hid (fun W hW => HNO.out W hW 1 (adde_low HID.out HIN.out HALL2.out (List.mem_of_getElem? HX.out) (by rw [HST.out]; exact hlow)) (by decide))
            go_wp2_with fail
            refine wp_region_held_drew (S := (fun W => W.cell? ⟨g, 2, none⟩ = some (.slice (some ads) n cs2) ∧ W.cell? (ads.add p) = some (.int .i64 st) ∧ W.cell? (ad.add j) = some (.string x))) (by kernel_rfl) ?_ (fun hHeld => ?_)
            · try dsimp only
              exact ⟨s0, s1, x0⟩
            refine take_at (i := 0) (d := 36) (v := ?_) rfl (by kernel_rfl) (by kernel_rfl) (by kernel_rfl) (by kernel_rfl) (fun _ _ _ h => h) (Or.inl ⟨by kernel_rfl, ?_⟩) (by assumption) ?_
            rotate_left
            · intro W hSw
              try dsimp only at hSw
              go_simp
              first | done | with_reducible rfl
            try simp only [Act.put, List.setIfInBounds_toArray, List.set_cons_zero, List.set_cons_succ]
            refine take_at (i := 1) (d := 37) (v := ?_) rfl (by kernel_rfl) (by kernel_rfl) (by kernel_rfl) (by kernel_rfl) (fun _ _ _ h => h) (Or.inl ⟨by kernel_rfl, ?_⟩) (by assumption) ?_
            rotate_left
            · intro W hSw
              try dsimp only at hSw
              go_simp
              first | done | with_reducible rfl
            try simp only [Act.put, List.setIfInBounds_toArray, List.set_cons_zero, List.set_cons_succ]
            refine take_at (i := 2) (d := 38) (v := ?_) rfl (by kernel_rfl) (by kernel_rfl) (by kernel_rfl) (by kernel_rfl) (fun _ _ _ h => h) (Or.inl ⟨by kernel_rfl, ?_⟩) (by assumption) ?_
            rotate_left
            · intro W hSw
              try dsimp only at hSw
              go_simp
              first | done | with_reducible rfl
            try simp only [Act.put, List.setIfInBounds_toArray, List.set_cons_zero, List.set_cons_succ]
            refine take_at (i := 3) (d := 39) (v := ?_) rfl (by kernel_rfl) (by kernel_rfl) (by kernel_rfl) (by kernel_rfl) (fun _ _ _ h => h) (Or.inl ⟨by kernel_rfl, ?_⟩) (by assumption) ?_
            rotate_left
            · intro W hSw
              try dsimp only at hSw
              go_simp
              first | done | with_reducible rfl
            try simp only [Act.put, List.setIfInBounds_toArray, List.set_cons_zero, List.set_cons_succ]
            refine take_at (i := 4) (d := 40) (v := ?_) rfl (by kernel_rfl) (by kernel_rfl) (by kernel_rfl) (by kernel_rfl) (fun _ _ _ h => h) (Or.inl ⟨by kernel_rfl, ?_⟩) (by assumption) ?_
            rotate_left
            · intro W hSw
              try dsimp only at hSw
              obtain ⟨q1, q2, q3⟩ := hSw
              go_simp
              first | done | with_reducible rfl
            try simp only [Act.put, List.setIfInBounds_toArray, List.set_cons_zero, List.set_cons_succ]
            refine take_at (i := 5) (d := 41) (v := ?_) rfl (by kernel_rfl) (by kernel_rfl) (by kernel_rfl) (by kernel_rfl) (fun _ _ _ h => h) (Or.inl ⟨by kernel_rfl, ?_⟩) (by assumption) ?_
            rotate_left
            · intro W hSw
              try dsimp only at hSw
              go_simp
              first | done | with_reducible rfl
            try simp only [Act.put, List.setIfInBounds_toArray, List.set_cons_zero, List.set_cons_succ]
            refine take_at (i := 6) (d := 42) (v := ?_) rfl (by kernel_rfl) (by kernel_rfl) (by kernel_rfl) (by kernel_rfl) (fun _ _ _ h => h) (Or.inl ⟨by kernel_rfl, ?_⟩) (by assumption) ?_
            rotate_left
            · intro W hSw
              try dsimp only at hSw
              go_simp
              first | done | with_reducible rfl
            try simp only [Act.put, List.setIfInBounds_toArray, List.set_cons_zero, List.set_cons_succ]
            refine take_at (i := 7) (d := 43) (v := ?_) rfl (by kernel_rfl) (by kernel_rfl) (by kernel_rfl) (by kernel_rfl) (fun _ _ _ h => h) (Or.inl ⟨by kernel_rfl, ?_⟩) (by assumption) ?_
            rotate_left
            · intro W hSw
              try dsimp only at hSw
              go_simp
              first | done | with_reducible rfl
            try simp only [Act.put, List.setIfInBounds_toArray, List.set_cons_zero, List.set_cons_succ]
            refine take_at (i := 8) (d := 44) (v := ?_) rfl (by kernel_rfl) (by kernel_rfl) (by kernel_rfl) (by kernel_rfl) (fun _ _ _ h => h) (Or.inl ⟨by kernel_rfl, ?_⟩) (by assumption) ?_
            rotate_left
            · intro W hSw
              try dsimp only at hSw
              go_simp
              first | done | with_reducible rfl
            try simp only [Act.put, List.setIfInBounds_toArray, List.set_cons_zero, List.set_cons_succ]
            refine take_at (i := 9) (d := 45) (v := ?_) rfl (by kernel_rfl) (by kernel_rfl) (by kernel_rfl) (by kernel_rfl) (fun _ _ _ h => h) (Or.inl ⟨by kernel_rfl, ?_⟩) (by assumption) ?_
            rotate_left
            · intro W hSw
              try dsimp only at hSw
              obtain ⟨q1, q2, q3⟩ := hSw
              go_simp
              first | done | with_reducible rfl
            try simp only [Act.put, List.setIfInBounds_toArray, List.set_cons_zero, List.set_cons_succ]
            refine wpAnyH_ready (rs := [10]) (by kernel_rfl) (by simp) (AllReadyH.cons rfl (fun K hK => ?_) AllReadyH.nil)
            go_simp
            refine HA.out.mono ?_
            rintro e w2 ⟨rfl, rfl⟩
            try go_wp2_with fail
            refine hK.out _ _ ?_ (fun hHeld => ?_)
            · try dsimp only
              exact ⟨s0, s1, x0⟩
            clear hK K
            try simp only [Act.put, List.setIfInBounds_toArray, List.set_cons_zero, List.set_cons_succ]
            refine take_at (i := 11) (d := 47) (v := ?_) rfl (by kernel_rfl) (by kernel_rfl) (by kernel_rfl) (by kernel_rfl) (fun _ _ _ h => h) (Or.inl ⟨by kernel_rfl, ?_⟩) (by assumption) ?_
            rotate_left
            · intro W hSw
              try dsimp only at hSw
              go_simp
              first | done | with_reducible rfl
            try simp only [Act.put, List.setIfInBounds_toArray, List.set_cons_zero, List.set_cons_succ]
            refine take_at (i := 12) (d := 48) (v := ?_) rfl (by kernel_rfl) (by kernel_rfl) (by kernel_rfl) (by kernel_rfl) (fun _ _ _ h => h) (Or.inl ⟨by kernel_rfl, ?_⟩) (by assumption) ?_
            rotate_left
            · intro W hSw
              try dsimp only at hSw
              obtain ⟨q1, q2, q3⟩ := hSw
              go_simp
              first | done | with_reducible rfl
            try simp only [Act.put, List.setIfInBounds_toArray, List.set_cons_zero, List.set_cons_succ]
            refine take_at (i := 13) (d := 49) (v := ?_) rfl (by kernel_rfl) (by kernel_rfl) (by kernel_rfl) (by kernel_rfl) (fun _ _ _ h => h) (Or.inl ⟨by kernel_rfl, ?_⟩) (by assumption) ?_
            rotate_left
            · intro W hSw
              try dsimp only at hSw
              go_simp
              first | done | with_reducible rfl
            try simp only [Act.put, List.setIfInBounds_toArray, List.set_cons_zero, List.set_cons_succ]
            refine wpAnyH_done (by kernel_rfl) ?_ _
            go_wp2_with fail
            go_ret
            exact HR.out _ HB.out.drew
          · have hup : st < stamp := by omega
            go_wp2_with fail
            refine wp_region_held_drew (S := (fun W => W.cell? ⟨g, 2, none⟩ = some (.slice (some ads) n cs2) ∧ W.cell? (ads.add p) = some (.int .i64 st) ∧ W.cell? (ad.add j) = some (.string x))) (by kernel_rfl) ?_ (fun hHeld => ?_)
            · try dsimp only
              exact ⟨s0, s1, x0⟩
            refine take_at (i := 0) (d := 36) (v := ?_) rfl (by kernel_rfl) (by kernel_rfl) (by kernel_rfl) (by kernel_rfl) (fun _ _ _ h => h) (Or.inl ⟨by kernel_rfl, ?_⟩) (by assumption) ?_
            rotate_left
            · intro W hSw
              try dsimp only at hSw
              go_simp
              first | done | with_reducible rfl
            try simp only [Act.put, List.setIfInBounds_toArray, List.set_cons_zero, List.set_cons_succ]
            refine take_at (i := 1) (d := 37) (v := ?_) rfl (by kernel_rfl) (by kernel_rfl) (by kernel_rfl) (by kernel_rfl) (fun _ _ _ h => h) (Or.inl ⟨by kernel_rfl, ?_⟩) (by assumption) ?_
            rotate_left
            · intro W hSw
              try dsimp only at hSw
              go_simp
              first | done | with_reducible rfl
            try simp only [Act.put, List.setIfInBounds_toArray, List.set_cons_zero, List.set_cons_succ]
            refine take_at (i := 2) (d := 38) (v := ?_) rfl (by kernel_rfl) (by kernel_rfl) (by kernel_rfl) (by kernel_rfl) (fun _ _ _ h => h) (Or.inl ⟨by kernel_rfl, ?_⟩) (by assumption) ?_
            rotate_left
            · intro W hSw
              try dsimp only at hSw
              go_simp
              first | done | with_reducible rfl
            try simp only [Act.put, List.setIfInBounds_toArray, List.set_cons_zero, List.set_cons_succ]
            refine take_at (i := 3) (d := 39) (v := ?_) rfl (by kernel_rfl) (by kernel_rfl) (by kernel_rfl) (by kernel_rfl) (fun _ _ _ h => h) (Or.inl ⟨by kernel_rfl, ?_⟩) (by assumption) ?_
            rotate_left
            · intro W hSw
              try dsimp only at hSw
              go_simp
              first | done | with_reducible rfl
            try simp only [Act.put, List.setIfInBounds_toArray, List.set_cons_zero, List.set_cons_succ]
            refine take_at (i := 4) (d := 40) (v := ?_) rfl (by kernel_rfl) (by kernel_rfl) (by kernel_rfl) (by kernel_rfl) (fun _ _ _ h => h) (Or.inl ⟨by kernel_rfl, ?_⟩) (by assumption) ?_
            rotate_left
            · intro W hSw
              try dsimp only at hSw
              obtain ⟨q1, q2, q3⟩ := hSw
              go_simp
              first | done | with_reducible rfl
            try simp only [Act.put, List.setIfInBounds_toArray, List.set_cons_zero, List.set_cons_succ]
            refine take_at (i := 5) (d := 41) (v := ?_) rfl (by kernel_rfl) (by kernel_rfl) (by kernel_rfl) (by kernel_rfl) (fun _ _ _ h => h) (Or.inl ⟨by kernel_rfl, ?_⟩) (by assumption) ?_
            rotate_left
            · intro W hSw
              try dsimp only at hSw
              go_simp
              first | done | with_reducible rfl
            try simp only [Act.put, List.setIfInBounds_toArray, List.set_cons_zero, List.set_cons_succ]
            refine take_at (i := 6) (d := 42) (v := ?_) rfl (by kernel_rfl) (by kernel_rfl) (by kernel_rfl) (by kernel_rfl) (fun _ _ _ h => h) (Or.inl ⟨by kernel_rfl, ?_⟩) (by assumption) ?_
            rotate_left
            · intro W hSw
              try dsimp only at hSw
              go_simp
              first | done | with_reducible rfl
            try simp only [Act.put, List.setIfInBounds_toArray, List.set_cons_zero, List.set_cons_succ]
            refine take_at (i := 7) (d := 43) (v := ?_) rfl (by kernel_rfl) (by kernel_rfl) (by kernel_rfl) (by kernel_rfl) (fun _ _ _ h => h) (Or.inl ⟨by kernel_rfl, ?_⟩) (by assumption) ?_
            rotate_left
            · intro W hSw
              try dsimp only at hSw
              go_simp
              first | done | with_reducible rfl
            try simp only [Act.put, List.setIfInBounds_toArray, List.set_cons_zero, List.set_cons_succ]
            refine take_at (i := 8) (d := 44) (v := ?_) rfl (by kernel_rfl) (by kernel_rfl) (by kernel_rfl) (by kernel_rfl) (fun _ _ _ h => h) (Or.inl ⟨by kernel_rfl, ?_⟩) (by assumption) ?_
            rotate_left
            · intro W hSw
              try dsimp only at hSw
              go_simp
              first | done | with_reducible rfl
            try simp only [Act.put, List.setIfInBounds_toArray, List.set_cons_zero, List.set_cons_succ]
            refine take_at (i := 9) (d := 45) (v := ?_) rfl (by kernel_rfl) (by kernel_rfl) (by kernel_rfl) (by kernel_rfl) (fun _ _ _ h => h) (Or.inl ⟨by kernel_rfl, ?_⟩) (by assumption) ?_
            rotate_left
            · intro W hSw
              try dsimp only at hSw
              obtain ⟨q1, q2, q3⟩ := hSw
              go_simp
              first | done | with_reducible rfl
            try simp only [Act.put, List.setIfInBounds_toArray, List.set_cons_zero, List.set_cons_succ]
            refine wpAnyH_ready (rs := [10]) (by kernel_rfl) (by simp) (AllReadyH.cons rfl (fun K hK => ?_) AllReadyH.nil)
            go_simp
            refine HA.out.mono ?_
            rintro e w2 ⟨rfl, rfl⟩
            try go_wp2_with fail
            refine hK.out _ _ ?_ (fun hHeld => ?_)
            · try dsimp only
              exact ⟨s0, s1, x0⟩
            clear hK K
            try simp only [Act.put, List.setIfInBounds_toArray, List.set_cons_zero, List.set_cons_succ]
            refine take_at (i := 11) (d := 47) (v := ?_) rfl (by kernel_rfl) (by kernel_rfl) (by kernel_rfl) (by kernel_rfl) (fun _ _ _ h => h) (Or.inl ⟨by kernel_rfl, ?_⟩) (by assumption) ?_
            rotate_left
            · intro W hSw
              try dsimp only at hSw
              go_simp
              first | done | with_reducible rfl
            try simp only [Act.put, List.setIfInBounds_toArray, List.set_cons_zero, List.set_cons_succ]
            refine take_at (i := 12) (d := 48) (v := ?_) rfl (by kernel_rfl) (by kernel_rfl) (by kernel_rfl) (by kernel_rfl) (fun _ _ _ h => h) (Or.inl ⟨by kernel_rfl, ?_⟩) (by assumption) ?_
            rotate_left
            · intro W hSw
              try dsimp only at hSw
              obtain ⟨q1, q2, q3⟩ := hSw
              go_simp
              first | done | with_reducible rfl
            try simp only [Act.put, List.setIfInBounds_toArray, List.set_cons_zero, List.set_cons_succ]
            refine take_at (i := 13) (d := 49) (v := ?_) rfl (by kernel_rfl) (by kernel_rfl) (by kernel_rfl) (by kernel_rfl) (fun _ _ _ h => h) (Or.inl ⟨by kernel_rfl, ?_⟩) (by assumption) ?_
            rotate_left
            · intro W hSw
              try dsimp only at hSw
              go_simp
              first | done | with_reducible rfl
            try simp only [Act.put, List.setIfInBounds_toArray, List.set_cons_zero, List.set_cons_succ]
            refine wpAnyH_done (by kernel_rfl) ?_ _
            go_wp2_with fail
            go_roundw
            case rel => exact ⟨j + 1, by omega, by go_num, HB.out.drew, fun s hs => by
              rw [List.take_add_one, HX.out] at hs
              rcases List.mem_append.1 hs with h | h
              · exact HAB.out s h
              · have : s = x := by simpa using h
                rw [this, HST.out]; exact hup⟩
            case measure => simp [intOf]; omega
        · obtain rfl : j = i := by omega
          have HAB2 : Hid (∀ s ∈ ps, stAt G (pl G s) < stamp) := by
            unfold Hid
            have := HAB.out
            rwa [List.take_of_length_le (by rw [HM.out]; exact Nat.le_refl _)] at this
          clear HAB
          by_cases hneg : stamp < 0
          · have HR := Lib.hid (HNO.out _ HB.out 1 (adde_neg HID.out HIN.out HALL2.out hneg) (by decide))
            go_wp2_with fail
            go_ret
            exact HR.out
          have hpos : 0 ≤ stamp := by omega
          obtain ⟨x0, x1, x2, R, hm, hR⟩ := (HD.out.below HB.out).ex
          have HZL := Lib.hid (HD.out.below HB.out).lt
          have HPS := Lib.hid (fun W (h : Only Z wr W) => HVA.out W ((Only.of_below HB.out).trans h (fun k hk => .inl hk)))
          obtain ⟨A0, c0, rfl, hl0, hm0, _⟩ := hm.o0.slv.len
          rw [List.length_map, List.length_map, HN.out] at hl0 hm
          unfold maxLen at hm0
          have HRL : Hid (R.length = n) := (rows_get hR).1.trans HN.out
          have HRR := Lib.hid hR
          have y0 : wr.cell? ⟨g, 0, none⟩ = some (.slice A0 n c0) := by rw [hm.blk.cell]; rfl
          have HM0 := Lib.hid hm.drew
          clear hm hR
          by_cases hfull : 2000 ≤ n
          · have HR := Lib.hid (HNO.out _ HB.out 14 (adde_full HID.out HIN.out HALL2.out hpos HAB2.out (by rw [HN.out]; exact hfull)) (by decide))
            have z9 : (2000 : Int) ≤ (n : Int) := by omega
            go_wp2_with fail
            go_ret
            exact HR.out
          have z9 : (n : Int) < 2000 := by omega
          have HE := Lib.hid (adde_done HID.out HIN.out HALL2.out hpos HAB2.out (by rw [HN.out]; omega))
          have HS0 : Hid (wr.drew.cell? ⟨g, 0, none⟩ = some (.slice A0 n c0) ∧ wr.drew.cell? ⟨g, 1, none⟩ = some x1 ∧ wr.drew.cell? ⟨g, 2, none⟩ = some x2) := ⟨by rw [HM0.out.blk.cell]; rfl, by rw [HM0.out.blk.cell]; rfl, by rw [HM0.out.blk.cell]; rfl⟩
          go_wp2_with fail
          refine Till.region (s := 27) (C := (fun W => W.cell? ⟨g, 0, none⟩ = some (.slice A0 n c0) ∧ W.cell? ⟨g, 1, none⟩ = some x1 ∧ W.cell? ⟨g, 2, none⟩ = some x2)) (by kernel_rfl) ?_ (fun hHeld => ?_)
          · try dsimp only
            exact HS0.out
          refine Till.pure_ (s := 27) (i := 0) (d := 58) (oi := { dst := some 58, op := Op.move (Operand.tmp 0), type := 29, pos := "ref.go:339", after := #[], guard := none }) (v := ?_) (by kernel_rfl) (by kernel_rfl) (by decide) (by kernel_rfl) (by kernel_rfl) (by kernel_rfl) (fun _ _ _ h => h) (Or.inl ⟨by kernel_rfl, ?_⟩) (fun _ => by assumption) ?_
          rotate_left
          · intro W hSw
            try dsimp only at hSw
            go_simp
            first | done | with_reducible rfl
          try simp only [Act.put, List.setIfInBounds_toArray, List.set_cons_zero, List.set_cons_succ]
          refine Till.pure_ (s := 27) (i := 1) (d := 59) (oi := { dst := some 59, op := Op.move (Operand.tmp 0), type := 29, pos := "ref.go:339", after := #[{ on := 27, ground := Ground.gcOnly Departure.lateStores }], guard := none }) (v := ?_) (by kernel_rfl) (by kernel_rfl) (by decide) (by kernel_rfl) (by kernel_rfl) (by kernel_rfl) (fun _ _ _ h => h) (Or.inl ⟨by kernel_rfl, ?_⟩) (fun _ => by assumption) ?_
          rotate_left
          · intro W hSw
            try dsimp only at hSw
            go_simp
            first | done | with_reducible rfl
          try simp only [Act.put, List.setIfInBounds_toArray, List.set_cons_zero, List.set_cons_succ]
          refine Till.pure_ (s := 27) (i := 2) (d := 60) (oi := { dst := some 60, op := Op.move (Operand.tmp 0), type := 29, pos := "ref.go:339", after := #[{ on := 30, ground := Ground.gcOnly Departure.lateStores }], guard := none }) (v := ?_) (by kernel_rfl) (by kernel_rfl) (by decide) (by kernel_rfl) (by kernel_rfl) (by kernel_rfl) (fun _ _ _ h => h) (Or.inl ⟨by kernel_rfl, ?_⟩) (fun _ => by assumption) ?_
          rotate_left
          · intro W hSw
            try dsimp only at hSw
            go_simp
            first | done | with_reducible rfl
          try simp only [Act.put, List.setIfInBounds_toArray, List.set_cons_zero, List.set_cons_succ]
          refine Till.pure_ (s := 27) (i := 3) (d := 61) (oi := { dst := some 61, op := Op.move (Operand.tmp 0), type := 29, pos := "ref.go:339", after := #[], guard := none }) (v := ?_) (by kernel_rfl) (by kernel_rfl) (by decide) (by kernel_rfl) (by kernel_rfl) (by kernel_rfl) (fun _ _ _ h => h) (Or.inl ⟨by kernel_rfl, ?_⟩) (fun _ => by assumption) ?_
          rotate_left
          · intro W hSw
            try dsimp only at hSw
            go_simp
            first | done | with_reducible rfl
          try simp only [Act.put, List.setIfInBounds_toArray, List.set_cons_zero, List.set_cons_succ]
          refine Till.pure_ (s := 27) (i := 4) (d := 62) (oi := { dst := some 62, op := Op.nilCheck (Operand.tmp 61), type := 0, pos := "ref.go:339", after := #[{ on := 3, ground := Ground.data }], guard := none }) (v := ?_) (by kernel_rfl) (by kernel_rfl) (by decide) (by kernel_rfl) (by kernel_rfl) (by kernel_rfl) (fun _ _ _ h => h) (Or.inl ⟨by kernel_rfl, ?_⟩) (fun _ => by assumption) ?_
          rotate_left
          · intro W hSw
            try dsimp only at hSw
            go_simp
            first | done | with_reducible rfl
          try simp only [Act.put, List.setIfInBounds_toArray, List.set_cons_zero, List.set_cons_succ]
          refine Till.pure_ (s := 27) (i := 5) (d := 63) (oi := { dst := some 63, op := Op.fieldAddr 33 (Operand.tmp 62) 0, type := 0, pos := "ref.go:339", after := #[{ on := 4, ground := Ground.data }], guard := none }) (v := ?_) (by kernel_rfl) (by kernel_rfl) (by decide) (by kernel_rfl) (by kernel_rfl) (by kernel_rfl) (fun _ _ _ h => h) (Or.inl ⟨by kernel_rfl, ?_⟩) (fun _ => by assumption) ?_
          rotate_left
          · intro W hSw
            try dsimp only at hSw
            go_simp
            first | done | with_reducible rfl
          try simp only [Act.put, List.setIfInBounds_toArray, List.set_cons_zero, List.set_cons_succ]
          refine Till.load_ (s := 27) (i := 6) (d := 64) (oi := { dst := some 64, op := Op.load 23 (Operand.tmp 63), type := 23, pos := "ref.go:339", after := #[{ on := 5, ground := Ground.data }], guard := none }) (os := { dst := none, op := Op.store 23 (Operand.tmp 84) (Operand.tmp 67), type := 0, pos := "ref.go:339", after := #[{ on := 26, ground := Ground.data }, { on := 9, ground := Ground.data }, { on := 24, ground := Ground.chain }, { on := 0, ground := Ground.phase }, { on := 1, ground := Ground.textOnly Departure.lateStores }, { on := 2, ground := Ground.textOnly Departure.lateStores }, { on := 3, ground := Ground.phase }, { on := 4, ground := Ground.phase }, { on := 5, ground := Ground.phase }, { on := 6, ground := Ground.phase }, { on := 7, ground := Ground.phase }, { on := 8, ground := Ground.phase }, { on := 9, ground := Ground.phase }, { on := 10, ground := Ground.textOnly Departure.lateStores }, { on := 11, ground := Ground.textOnly Departure.lateStoresUnsure }, { on := 12, ground := Ground.textOnly Departure.lateStoresUnsure }, { on := 13, ground := Ground.phase }, { on := 14, ground := Ground.textOnly Departure.lateStores }, { on := 15, ground := Ground.phase }, { on := 16, ground := Ground.textOnly Departure.lateStoresUnsure }, { on := 17, ground := Ground.phase }, { on := 18, ground := Ground.textOnly Departure.lateStores }, { on := 19, ground := Ground.textOnly Departure.lateStoresUnsure }, { on := 20, ground := Ground.textOnly Departure.lateStoresUnsure }, { on := 21, ground := Ground.phase }, { on := 22, ground := Ground.textOnly Departure.lateStores }, { on := 23, ground := Ground.textOnly Departure.lateStoresUnsure }, { on := 24, ground := Ground.phase }], guard := none }) (v := ?_) (by kernel_rfl) (by kernel_rfl) (by decide) (by kernel_rfl) (by kernel_rfl) (by kernel_rfl) (by kernel_rfl) (by kernel_rfl) (by kernel_rfl) (fun _ _ _ h => h) (Or.inl ⟨by kernel_rfl, ?_⟩) (by assumption) ?_
          rotate_left
          · intro W hSw
            try dsimp only at hSw
            obtain ⟨q1, q2, q3⟩ := hSw
            go_simp
            first | done | with_reducible rfl
          try simp only [Act.put, List.setIfInBounds_toArray, List.set_cons_zero, List.set_cons_succ]
          refine Till.pure_ (s := 27) (i := 7) (d := 65) (oi := { dst := some 65, op := Op.move (Operand.tmp 1), type := 9, pos := "ref.go:339", after := #[], guard := none }) (v := ?_) (by kernel_rfl) (by kernel_rfl) (by decide) (by kernel_rfl) (by kernel_rfl) (by kernel_rfl) (fun _ _ _ h => h) (Or.inl ⟨by kernel_rfl, ?_⟩) (fun _ => by assumption) ?_
          rotate_left
          · intro W hSw
            try dsimp only at hSw
            go_simp
            first | done | with_reducible rfl
          try simp only [Act.put, List.setIfInBounds_toArray, List.set_cons_zero, List.set_cons_succ]
          refine Till.pure_ (s := 27) (i := 10) (d := 68) (oi := { dst := some 68, op := Op.move (Operand.tmp 0), type := 29, pos := "ref.go:339", after := #[], guard := none }) (v := ?_) (by kernel_rfl) (by kernel_rfl) (by decide) (by kernel_rfl) (by kernel_rfl) (by kernel_rfl) (fun _ _ _ h => h) (Or.inl ⟨by kernel_rfl, ?_⟩) (fun _ => by assumption) ?_
          rotate_left
          · intro W hSw
            try dsimp only at hSw
            go_simp
            first | done | with_reducible rfl
          try simp only [Act.put, List.setIfInBounds_toArray, List.set_cons_zero, List.set_cons_succ]
          refine Till.pure_ (s := 27) (i := 11) (d := 69) (oi := { dst := some 69, op := Op.nilCheck (Operand.tmp 68), type := 0, pos := "ref.go:339", after := #[{ on := 10, ground := Ground.data }], guard := none }) (v := ?_) (by kernel_rfl) (by kernel_rfl) (by decide) (by kernel_rfl) (by kernel_rfl) (by kernel_rfl) (fun _ _ _ h => h) (Or.inl ⟨by kernel_rfl, ?_⟩) (fun _ => by assumption) ?_
          rotate_left
          · intro W hSw
            try dsimp only at hSw
            go_simp
            first | done | with_reducible rfl
          try simp only [Act.put, List.setIfInBounds_toArray, List.set_cons_zero, List.set_cons_succ]
          refine Till.pure_ (s := 27) (i := 12) (d := 70) (oi := { dst := some 70, op := Op.fieldAddr 33 (Operand.tmp 69) 1, type := 0, pos := "ref.go:339", after := #[{ on := 11, ground := Ground.data }], guard := none }) (v := ?_) (by kernel_rfl) (by kernel_rfl) (by decide) (by kernel_rfl) (by kernel_rfl) (by kernel_rfl) (fun _ _ _ h => h) (Or.inl ⟨by kernel_rfl, ?_⟩) (fun _ => by assumption) ?_
          rotate_left
          · intro W hSw
            try dsimp only at hSw
            go_simp
            first | done | with_reducible rfl
          try simp only [Act.put, List.setIfInBounds_toArray, List.set_cons_zero, List.set_cons_succ]
          refine Till.load_ (s := 27) (i := 13) (d := 71) (oi := { dst := some 71, op := Op.load 30 (Operand.tmp 70), type := 30, pos := "ref.go:339", after := #[{ on := 12, ground := Ground.data }], guard := none }) (os := { dst := none, op := Op.store 23 (Operand.tmp 84) (Operand.tmp 67), type := 0, pos := "ref.go:339", after := #[{ on := 26, ground := Ground.data }, { on := 9, ground := Ground.data }, { on := 24, ground := Ground.chain }, { on := 0, ground := Ground.phase }, { on := 1, ground := Ground.textOnly Departure.lateStores }, { on := 2, ground := Ground.textOnly Departure.lateStores }, { on := 3, ground := Ground.phase }, { on := 4, ground := Ground.phase }, { on := 5, ground := Ground.phase }, { on := 6, ground := Ground.phase }, { on := 7, ground := Ground.phase }, { on := 8, ground := Ground.phase }, { on := 9, ground := Ground.phase }, { on := 10, ground := Ground.textOnly Departure.lateStores }, { on := 11, ground := Ground.textOnly Departure.lateStoresUnsure }, { on := 12, ground := Ground.textOnly Departure.lateStoresUnsure }, { on := 13, ground := Ground.phase }, { on := 14, ground := Ground.textOnly Departure.lateStores }, { on := 15, ground := Ground.phase }, { on := 16, ground := Ground.textOnly Departure.lateStoresUnsure }, { on := 17, ground := Ground.phase }, { on := 18, ground := Ground.textOnly Departure.lateStores }, { on := 19, ground := Ground.textOnly Departure.lateStoresUnsure }, { on := 20, ground := Ground.textOnly Departure.lateStoresUnsure }, { on := 21, ground := Ground.phase }, { on := 22, ground := Ground.textOnly Departure.lateStores }, { on := 23, ground := Ground.textOnly Departure.lateStoresUnsure }, { on := 24, ground := Ground.phase }], guard := none }) (v := ?_) (by kernel_rfl) (by kernel_rfl) (by decide) (by kernel_rfl) (by kernel_rfl) (by kernel_rfl) (by kernel_rfl) (by kernel_rfl) (by kernel_rfl) (fun _ _ _ h => h) (Or.inl ⟨by kernel_rfl, ?_⟩) (by assumption) ?_
          rotate_left
          · intro W hSw
            try dsimp only at hSw
            obtain ⟨q1, q2, q3⟩ := hSw
            go_simp
            first | done | with_reducible rfl
          try simp only [Act.put, List.setIfInBounds_toArray, List.set_cons_zero, List.set_cons_succ]
          refine Till.pure_ (s := 27) (i := 14) (d := 72) (oi := { dst := some 72, op := Op.move (Operand.tmp 2), type := 23, pos := "ref.go:339", after := #[], guard := none }) (v := ?_) (by kernel_rfl) (by kernel_rfl) (by decide) (by kernel_rfl) (by kernel_rfl) (by kernel_rfl) (fun _ _ _ h => h) (Or.inl ⟨by kernel_rfl, ?_⟩) (fun _ => by assumption) ?_
          rotate_left
          · intro W hSw
            try dsimp only at hSw
            go_simp
            first | done | with_reducible rfl
          try simp only [Act.put, List.setIfInBounds_toArray, List.set_cons_zero, List.set_cons_succ]
          refine Till.pure_ (s := 27) (i := 18) (d := 76) (oi := { dst := some 76, op := Op.move (Operand.tmp 0), type := 29, pos := "ref.go:339", after := #[], guard := none }) (v := ?_) (by kernel_rfl) (by kernel_rfl) (by decide) (by kernel_rfl) (by kernel_rfl) (by kernel_rfl) (fun _ _ _ h => h) (Or.inl ⟨by kernel_rfl, ?_⟩) (fun _ => by assumption) ?_
          rotate_left
          · intro W hSw
            try dsimp only at hSw
            go_simp
            first | done | with_reducible rfl
          try simp only [Act.put, List.setIfInBounds_toArray, List.set_cons_zero, List.set_cons_succ]
          refine Till.pure_ (s := 27) (i := 19) (d := 77) (oi := { dst := some 77, op := Op.nilCheck (Operand.tmp 76), type := 0, pos := "ref.go:339", after := #[{ on := 18, ground := Ground.data }], guard := none }) (v := ?_) (by kernel_rfl) (by kernel_rfl) (by decide) (by kernel_rfl) (by kernel_rfl) (by kernel_rfl) (fun _ _ _ h => h) (Or.inl ⟨by kernel_rfl, ?_⟩) (fun _ => by assumption) ?_
          rotate_left
          · intro W hSw
            try dsimp only at hSw
            go_simp
            first | done | with_reducible rfl
          try simp only [Act.put, List.setIfInBounds_toArray, List.set_cons_zero, List.set_cons_succ]
          refine Till.pure_ (s := 27) (i := 20) (d := 78) (oi := { dst := some 78, op := Op.fieldAddr 33 (Operand.tmp 77) 2, type := 0, pos := "ref.go:339", after := #[{ on := 19, ground := Ground.data }], guard := none }) (v := ?_) (by kernel_rfl) (by kernel_rfl) (by decide) (by kernel_rfl) (by kernel_rfl) (by kernel_rfl) (fun _ _ _ h => h) (Or.inl ⟨by kernel_rfl, ?_⟩) (fun _ => by assumption) ?_
          rotate_left
          · intro W hSw
            try dsimp only at hSw
            go_simp
            first | done | with_reducible rfl
          try simp only [Act.put, List.setIfInBounds_toArray, List.set_cons_zero, List.set_cons_succ]
          refine Till.load_ (s := 27) (i := 21) (d := 79) (oi := { dst := some 79, op := Op.load 31 (Operand.tmp 78), type := 31, pos := "ref.go:339", after := #[{ on := 20, ground := Ground.data }], guard := none }) (os := { dst := none, op := Op.store 23 (Operand.tmp 84) (Operand.tmp 67), type := 0, pos := "ref.go:339", after := #[{ on := 26, ground := Ground.data }, { on := 9, ground := Ground.data }, { on := 24, ground := Ground.chain }, { on := 0, ground := Ground.phase }, { on := 1, ground := Ground.textOnly Departure.lateStores }, { on := 2, ground := Ground.textOnly Departure.lateStores }, { on := 3, ground := Ground.phase }, { on := 4, ground := Ground.phase }, { on := 5, ground := Ground.phase }, { on := 6, ground := Ground.phase }, { on := 7, ground := Ground.phase }, { on := 8, ground := Ground.phase }, { on := 9, ground := Ground.phase }, { on := 10, ground := Ground.textOnly Departure.lateStores }, { on := 11, ground := Ground.textOnly Departure.lateStoresUnsure }, { on := 12, ground := Ground.textOnly Departure.lateStoresUnsure }, { on := 13, ground := Ground.phase }, { on := 14, ground := Ground.textOnly Departure.lateStores }, { on := 15, ground := Ground.phase }, { on := 16, ground := Ground.textOnly Departure.lateStoresUnsure }, { on := 17, ground := Ground.phase }, { on := 18, ground := Ground.textOnly Departure.lateStores }, { on := 19, ground := Ground.textOnly Departure.lateStoresUnsure }, { on := 20, ground := Ground.textOnly Departure.lateStoresUnsure }, { on := 21, ground := Ground.phase }, { on := 22, ground := Ground.textOnly Departure.lateStores }, { on := 23, ground := Ground.textOnly Departure.lateStoresUnsure }, { on := 24, ground := Ground.phase }], guard := none }) (v := ?_) (by kernel_rfl) (by kernel_rfl) (by decide) (by kernel_rfl) (by kernel_rfl) (by kernel_rfl) (by kernel_rfl) (by kernel_rfl) (by kernel_rfl) (fun _ _ _ h => h) (Or.inl ⟨by kernel_rfl, ?_⟩) (by assumption) ?_
          rotate_left
          · intro W hSw
            try dsimp only at hSw
            obtain ⟨q1, q2, q3⟩ := hSw
            go_simp
            first | done | with_reducible rfl
          try simp only [Act.put, List.setIfInBounds_toArray, List.set_cons_zero, List.set_cons_succ]
          refine Till.pure_ (s := 27) (i := 22) (d := 80) (oi := { dst := some 80, op := Op.move (Operand.tmp 3), type := 3, pos := "ref.go:339", after := #[], guard := none }) (v := ?_) (by kernel_rfl) (by kernel_rfl) (by decide) (by kernel_rfl) (by kernel_rfl) (by kernel_rfl) (fun _ _ _ h => h) (Or.inl ⟨by kernel_rfl, ?_⟩) (fun _ => by assumption) ?_
          rotate_left
          · intro W hSw
            try dsimp only at hSw
            go_simp
            first | done | with_reducible rfl
          try simp only [Act.put, List.setIfInBounds_toArray, List.set_cons_zero, List.set_cons_succ]
          refine Till.ready (rs := [8, 23]) (by kernel_rfl) (by simp) (Comes.cons (o := { dst := some 66, op := Op.buildSlice 23 1 #[(0, Operand.tmp 65)], type := 23, pos := "ref.go:339", after := #[{ on := 7, ground := Ground.data }], guard := none }) (by kernel_rfl) (fun K hK => ?_) (Comes.cons (o := { dst := some 81, op := Op.buildSlice 31 1 #[(0, Operand.tmp 80)], type := 31, pos := "ref.go:339", after := #[{ on := 22, ground := Ground.data }], guard := none }) (by kernel_rfl) (fun K hK => ?_) Comes.nil))
          · refine sbuild0 66 (by kernel_rfl) (by kernel_rfl) (.tmp 65) (by kernel_rfl) id (by rfl) ?_
            obtain ⟨wv1, hw1⟩ : ∃ W, W = (wr.drew).alloc (.cells #[.string id] 9) := ⟨_, rfl⟩
            rw [← hw1]
            have HM1 := Lib.hid (HM0.out.alloc (.cells #[.string id] 9))
            rw [← hw1] at HM1
            have HT0_1 := Lib.hid (own_one 9 (wr.drew) (.string id))
            rw [← hw1] at HT0_1
            obtain ⟨t0, ht0⟩ : ∃ t, t = Value.slice (some ⟨(wr.drew).heap.size, 0, none⟩) 1 1 := ⟨_, rfl⟩
            rw [← ht0] at HT0_1 ⊢
            clear hw1 ht0
            have HS1 : Hid (wv1.cell? ⟨g, 0, none⟩ = some (.slice A0 n c0) ∧ wv1.cell? ⟨g, 1, none⟩ = some x1 ∧ wv1.cell? ⟨g, 2, none⟩ = some x2) := ⟨by rw [HM1.out.blk.cell]; rfl, by rw [HM1.out.blk.cell]; rfl, by rw [HM1.out.blk.cell]; rfl⟩
            try go_wp2_with fail
            refine hK.out _ _ ?_ (fun hHeld => ?_)
            · try dsimp only
              exact HS1.out
            clear hK K
            try simp only [Act.put, List.setIfInBounds_toArray, List.set_cons_zero, List.set_cons_succ]
            refine Till.ready (rs := [9, 23]) (by kernel_rfl) (by simp) (Comes.cons (o := { dst := some 67, op := Op.call { callee := Callee.builtin Builtin.append, args := #[Operand.tmp 64, Operand.tmp 66], argTypes := #[23, 23] }, type := 23, pos := "ref.go:339", after := #[{ on := 6, ground := Ground.data }, { on := 8, ground := Ground.data }], guard := none }) (by kernel_rfl) (fun K hK => ?_) (Comes.cons (o := { dst := some 81, op := Op.buildSlice 31 1 #[(0, Operand.tmp 80)], type := 31, pos := "ref.go:339", after := #[{ on := 22, ground := Ground.data }], guard := none }) (by kernel_rfl) (fun K hK => ?_) Comes.nil))
            · refine sapp0 67 (by kernel_rfl) (by kernel_rfl) (.tmp 64) (.tmp 66) (by kernel_rfl) HM1.out (by rfl) t0 id (by rfl) (by exact HT0_1.out) (by rw [List.length_map, HN.out]; omega) ?_
              intro y0 wv2 hm hkp
              obtain ⟨Y0, ny0, cy0, hy⟩ : ∃ A n c, y0 = .slice A n c := by obtain ⟨A, c, e, _⟩ := hm.o0.slv; exact ⟨A, _, c, e⟩
              subst hy
              have HM2 := Lib.hid hm
              clear hm hkp
              have HS2 : Hid (wv2.cell? ⟨g, 0, none⟩ = some (.slice A0 n c0) ∧ wv2.cell? ⟨g, 1, none⟩ = some x1 ∧ wv2.cell? ⟨g, 2, none⟩ = some x2) := ⟨by rw [HM2.out.blk.cell]; rfl, by rw [HM2.out.blk.cell]; rfl, by rw [HM2.out.blk.cell]; rfl⟩
              try go_wp2_with fail
              refine hK.out _ _ ?_ (fun hHeld => ?_)
              · try dsimp only
                exact HS2.out
              clear hK K
              try simp only [Act.put, List.setIfInBounds_toArray, List.set_cons_zero, List.set_cons_succ]
              refine Till.ready (rs := [15, 23]) (by kernel_rfl) (by simp) (Comes.cons (o := { dst := some 73, op := Op.call { callee := Callee.value (Operand.func 33), args := #[Operand.tmp 72], argTypes := #[23] }, type := 23, pos := "ref.go:339", after := #[{ on := 14, ground := Ground.data }, { on := 9, ground := Ground.chain }], guard := none }) (by kernel_rfl) (fun K hK => ?_) (Comes.cons (o := { dst := some 81, op := Op.buildSlice 31 1 #[(0, Operand.tmp 80)], type := 31, pos := "ref.go:339", after := #[{ on := 22, ground := Ground.data }], guard := none }) (by kernel_rfl) (fun K hK => ?_) Comes.nil))
              · go_simp
                refine (runiq_any _ ps (wv2) (HPS.out _ HM2.out.only) (by rw [HM.out]; omega)).mono ?_
                rintro e wv3 ⟨u, rfl, hu, hb⟩
                have HM3 := Lib.hid (HM2.out.more hb hu)
                have HU1 : Hid (u.oneCell' = true) := by
                  obtain ⟨_, _, rfl, _⟩ := hu.slv
                  rfl
                have HUC : Hid (u.cells = #[u]) := by
                  obtain ⟨_, _, rfl, _⟩ := hu.slv
                  rfl
                clear hu hb
                have HS3 : Hid (wv3.cell? ⟨g, 0, none⟩ = some (.slice A0 n c0) ∧ wv3.cell? ⟨g, 1, none⟩ = some x1 ∧ wv3.cell? ⟨g, 2, none⟩ = some x2) := ⟨by rw [HM3.out.blk.cell]; rfl, by rw [HM3.out.blk.cell]; rfl, by rw [HM3.out.blk.cell]; rfl⟩
                try go_wp2_with fail
                refine hK.out _ _ ?_ (fun hHeld => ?_)
                · try dsimp only
                  exact HS3.out
                clear hK K
                try simp only [Act.put, List.setIfInBounds_toArray, List.set_cons_zero, List.set_cons_succ]
                refine Till.ready (rs := [16, 23]) (by kernel_rfl) (by simp) (Comes.cons (o := { dst := some 74, op := Op.buildSlice 30 1 #[(0, Operand.tmp 73)], type := 30, pos := "ref.go:339", after := #[{ on := 15, ground := Ground.data }], guard := none }) (by kernel_rfl) (fun K hK => ?_) (Comes.cons (o := { dst := some 81, op := Op.buildSlice 31 1 #[(0, Operand.tmp 80)], type := 31, pos := "ref.go:339", after := #[{ on := 22, ground := Ground.data }], guard := none }) (by kernel_rfl) (fun K hK => ?_) Comes.nil))
                · refine sbuild1 74 (by kernel_rfl) (by kernel_rfl) (.tmp 73) (by kernel_rfl) u (by exact HUC.out) (by rfl) ?_
                  obtain ⟨wv4, hw4⟩ : ∃ W, W = (wv3).alloc (.cells #[u] 23) := ⟨_, rfl⟩
                  rw [← hw4]
                  have HM4 := Lib.hid (HM3.out.alloc (.cells #[u] 23))
                  rw [← hw4] at HM4
                  have HT1_4 := Lib.hid (own_one 23 (wv3) (u))
                  rw [← hw4] at HT1_4
                  obtain ⟨t1, ht1⟩ : ∃ t, t = Value.slice (some ⟨(wv3).heap.size, 0, none⟩) 1 1 := ⟨_, rfl⟩
                  rw [← ht1] at HT1_4 ⊢
                  clear hw4 ht1
                  have HS4 : Hid (wv4.cell? ⟨g, 0, none⟩ = some (.slice A0 n c0) ∧ wv4.cell? ⟨g, 1, none⟩ = some x1 ∧ wv4.cell? ⟨g, 2, none⟩ = some x2) := ⟨by rw [HM4.out.blk.cell]; rfl, by rw [HM4.out.blk.cell]; rfl, by rw [HM4.out.blk.cell]; rfl⟩
                  try go_wp2_with fail
                  refine hK.out _ _ ?_ (fun hHeld => ?_)
                  · try dsimp only
                    exact HS4.out
                  clear hK K
                  try simp only [Act.put, List.setIfInBounds_toArray, List.set_cons_zero, List.set_cons_succ]
                  refine Till.ready (rs := [17, 23]) (by kernel_rfl) (by simp) (Comes.cons (o := { dst := some 75, op := Op.call { callee := Callee.builtin Builtin.append, args := #[Operand.tmp 71, Operand.tmp 74], argTypes := #[30, 30] }, type := 30, pos := "ref.go:339", after := #[{ on := 13, ground := Ground.data }, { on := 16, ground := Ground.data }, { on := 15, ground := Ground.chain }], guard := none }) (by kernel_rfl) (fun K hK => ?_) (Comes.cons (o := { dst := some 81, op := Op.buildSlice 31 1 #[(0, Operand.tmp 80)], type := 31, pos := "ref.go:339", after := #[{ on := 22, ground := Ground.data }], guard := none }) (by kernel_rfl) (fun K hK => ?_) Comes.nil))
                  · refine sapp1 75 (by kernel_rfl) (by kernel_rfl) (.tmp 71) (.tmp 74) (by kernel_rfl) HM4.out (by rfl) t1 u (by exact HU1.out) (by rfl) (by exact HT1_4.out) (by rw [List.length_map, HRL.out]; omega) ?_
                    intro y1 wv5 hm hkp
                    obtain ⟨Y1, ny1, cy1, hy⟩ : ∃ A n c, y1 = .slice A n c := by obtain ⟨A, c, e, _⟩ := hm.o1.slv; exact ⟨A, _, c, e⟩
                    subst hy
                    have HM5 := Lib.hid hm
                    clear hm hkp
                    have HS5 : Hid (wv5.cell? ⟨g, 0, none⟩ = some (.slice A0 n c0) ∧ wv5.cell? ⟨g, 1, none⟩ = some x1 ∧ wv5.cell? ⟨g, 2, none⟩ = some x2) := ⟨by rw [HM5.out.blk.cell]; rfl, by rw [HM5.out.blk.cell]; rfl, by rw [HM5.out.blk.cell]; rfl⟩
                    try go_wp2_with fail
                    refine hK.out _ _ ?_ (fun hHeld => ?_)
                    · try dsimp only
                      exact HS5.out
                    clear hK K
                    try simp only [Act.put, List.setIfInBounds_toArray, List.set_cons_zero, List.set_cons_succ]
                    refine Till.ready (rs := [23]) (by kernel_rfl) (by simp) (Comes.cons (o := { dst := some 81, op := Op.buildSlice 31 1 #[(0, Operand.tmp 80)], type := 31, pos := "ref.go:339", after := #[{ on := 22, ground := Ground.data }], guard := none }) (by kernel_rfl) (fun K hK => ?_) Comes.nil)
                    refine sbuild2 81 (by kernel_rfl) (by kernel_rfl) (.tmp 80) (by kernel_rfl) stamp (by rfl) ?_
                    obtain ⟨wv6, hw6⟩ : ∃ W, W = (wv5).alloc (.cells #[.int .i64 stamp] 3) := ⟨_, rfl⟩
                    rw [← hw6]
                    have HM6 := Lib.hid (HM5.out.alloc (.cells #[.int .i64 stamp] 3))
                    rw [← hw6] at HM6
                    have HT2_6 := Lib.hid (own_one 3 (wv5) (.int .i64 stamp))
                    rw [← hw6] at HT2_6
                    obtain ⟨t2, ht2⟩ : ∃ t, t = Value.slice (some ⟨(wv5).heap.size, 0, none⟩) 1 1 := ⟨_, rfl⟩
                    rw [← ht2] at HT2_6 ⊢
                    clear hw6 ht2
                    have HS6 : Hid (wv6.cell? ⟨g, 0, none⟩ = some (.slice A0 n c0) ∧ wv6.cell? ⟨g, 1, none⟩ = some x1 ∧ wv6.cell? ⟨g, 2, none⟩ = some x2) := ⟨by rw [HM6.out.blk.cell]; rfl, by rw [HM6.out.blk.cell]; rfl, by rw [HM6.out.blk.cell]; rfl⟩
                    try go_wp2_with fail
                    refine hK.out _ _ ?_ (fun hHeld => ?_)
                    · try dsimp only
                      exact HS6.out
                    clear hK K
                    try simp only [Act.put, List.setIfInBounds_toArray, List.set_cons_zero, List.set_cons_succ]
                    refine Till.ready (rs := [24]) (by kernel_rfl) (by simp) (Comes.cons (o := { dst := some 82, op := Op.call { callee := Callee.builtin Builtin.append, args := #[Operand.tmp 79, Operand.tmp 81], argTypes := #[31, 31] }, type := 31, pos := "ref.go:339", after := #[{ on := 21, ground := Ground.data }, { on := 23, ground := Ground.data }, { on := 17, ground := Ground.chain }], guard := none }) (by kernel_rfl) (fun K hK => ?_) Comes.nil)
                    refine sapp2 82 (by kernel_rfl) (by kernel_rfl) (.tmp 79) (.tmp 81) (by kernel_rfl) HM6.out (by rfl) t2 stamp (by rfl) (by exact HT2_6.out) (by rw [List.length_map, HN.out]; omega) ?_
                    intro y2 wv7 hm hkp
                    obtain ⟨Y2, ny2, cy2, hy⟩ : ∃ A n c, y2 = .slice A n c := by obtain ⟨A, c, e, _⟩ := hm.o2.slv; exact ⟨A, _, c, e⟩
                    subst hy
                    have HM7 := Lib.hid hm
                    clear hm hkp
                    have HS7 : Hid (wv7.cell? ⟨g, 0, none⟩ = some (.slice A0 n c0) ∧ wv7.cell? ⟨g, 1, none⟩ = some x1 ∧ wv7.cell? ⟨g, 2, none⟩ = some x2) := ⟨by rw [HM7.out.blk.cell]; rfl, by rw [HM7.out.blk.cell]; rfl, by rw [HM7.out.blk.cell]; rfl⟩
                    try go_wp2_with fail
                    refine hK.out _ _ ?_ (fun hHeld => ?_)
                    · try dsimp only
                      exact HS7.out
                    clear hK K
                    try simp only [Act.put, List.setIfInBounds_toArray, List.set_cons_zero, List.set_cons_succ]
                    refine Till.pure_ (s := 27) (i := 25) (d := 83) (oi := { dst := some 83, op := Op.nilCheck (Operand.tmp 58), type := 0, pos := "ref.go:339", after := #[{ on := 0, ground := Ground.data }, { on := 0, ground := Ground.phase }, { on := 1, ground := Ground.textOnly Departure.lateStores }, { on := 2, ground := Ground.textOnly Departure.lateStores }, { on := 3, ground := Ground.phase }, { on := 4, ground := Ground.phase }, { on := 5, ground := Ground.phase }, { on := 6, ground := Ground.phase }, { on := 7, ground := Ground.phase }, { on := 8, ground := Ground.phase }, { on := 9, ground := Ground.phase }, { on := 10, ground := Ground.textOnly Departure.lateStores }, { on := 11, ground := Ground.textOnly Departure.lateStoresUnsure }, { on := 12, ground := Ground.textOnly Departure.lateStoresUnsure }, { on := 13, ground := Ground.phase }, { on := 14, ground := Ground.textOnly Departure.lateStores }, { on := 15, ground := Ground.phase }, { on := 16, ground := Ground.textOnly Departure.lateStoresUnsure }, { on := 17, ground := Ground.phase }, { on := 18, ground := Ground.textOnly Departure.lateStores }, { on := 19, ground := Ground.textOnly Departure.lateStoresUnsure }, { on := 20, ground := Ground.textOnly Departure.lateStoresUnsure }, { on := 21, ground := Ground.phase }, { on := 22, ground := Ground.textOnly Departure.lateStores }, { on := 23, ground := Ground.textOnly Departure.lateStoresUnsure }, { on := 24, ground := Ground.phase }], guard := none }) (v := ?_) (by kernel_rfl) (by kernel_rfl) (by decide) (by kernel_rfl) (by kernel_rfl) (by kernel_rfl) (fun _ _ _ h => h) (Or.inl ⟨by kernel_rfl, ?_⟩) (fun _ => by assumption) ?_
                    rotate_left
                    · intro W hSw
                      try dsimp only at hSw
                      go_simp
                      first | done | with_reducible rfl
                    try simp only [Act.put, List.setIfInBounds_toArray, List.set_cons_zero, List.set_cons_succ]
                    refine Till.pure_ (s := 27) (i := 26) (d := 84) (oi := { dst := some 84, op := Op.fieldAddr 33 (Operand.tmp 83) 0, type := 0, pos := "ref.go:339", after := #[{ on := 25, ground := Ground.data }, { on := 0, ground := Ground.phase }, { on := 1, ground := Ground.textOnly Departure.lateStores }, { on := 2, ground := Ground.textOnly Departure.lateStores }, { on := 3, ground := Ground.phase }, { on := 4, ground := Ground.phase }, { on := 5, ground := Ground.phase }, { on := 6, ground := Ground.phase }, { on := 7, ground := Ground.phase }, { on := 8, ground := Ground.phase }, { on := 9, ground := Ground.phase }, { on := 10, ground := Ground.textOnly Departure.lateStores }, { on := 11, ground := Ground.textOnly Departure.lateStoresUnsure }, { on := 12, ground := Ground.textOnly Departure.lateStoresUnsure }, { on := 13, ground := Ground.phase }, { on := 14, ground := Ground.textOnly Departure.lateStores }, { on := 15, ground := Ground.phase }, { on := 16, ground := Ground.textOnly Departure.lateStoresUnsure }, { on := 17, ground := Ground.phase }, { on := 18, ground := Ground.textOnly Departure.lateStores }, { on := 19, ground := Ground.textOnly Departure.lateStoresUnsure }, { on := 20, ground := Ground.textOnly Departure.lateStoresUnsure }, { on := 21, ground := Ground.phase }, { on := 22, ground := Ground.textOnly Departure.lateStores }, { on := 23, ground := Ground.textOnly Departure.lateStoresUnsure }, { on := 24, ground := Ground.phase }], guard := none }) (v := ?_) (by kernel_rfl) (by kernel_rfl) (by decide) (by kernel_rfl) (by kernel_rfl) (by kernel_rfl) (fun _ _ _ h => h) (Or.inl ⟨by kernel_rfl, ?_⟩) (fun _ => by assumption) ?_
                    rotate_left
                    · intro W hSw
                      try dsimp only at hSw
                      go_simp
                      first | done | with_reducible rfl
                    try simp only [Act.put, List.setIfInBounds_toArray, List.set_cons_zero, List.set_cons_succ]
                    refine Till.ready (rs := [27]) (by kernel_rfl) (by simp) (Comes.late (o := { dst := none, op := Op.store 23 (Operand.tmp 84) (Operand.tmp 67), type := 0, pos := "ref.go:339", after := #[{ on := 26, ground := Ground.data }, { on := 9, ground := Ground.data }, { on := 24, ground := Ground.chain }, { on := 0, ground := Ground.phase }, { on := 1, ground := Ground.textOnly Departure.lateStores }, { on := 2, ground := Ground.textOnly Departure.lateStores }, { on := 3, ground := Ground.phase }, { on := 4, ground := Ground.phase }, { on := 5, ground := Ground.phase }, { on := 6, ground := Ground.phase }, { on := 7, ground := Ground.phase }, { on := 8, ground := Ground.phase }, { on := 9, ground := Ground.phase }, { on := 10, ground := Ground.textOnly Departure.lateStores }, { on := 11, ground := Ground.textOnly Departure.lateStoresUnsure }, { on := 12, ground := Ground.textOnly Departure.lateStoresUnsure }, { on := 13, ground := Ground.phase }, { on := 14, ground := Ground.textOnly Departure.lateStores }, { on := 15, ground := Ground.phase }, { on := 16, ground := Ground.textOnly Departure.lateStoresUnsure }, { on := 17, ground := Ground.phase }, { on := 18, ground := Ground.textOnly Departure.lateStores }, { on := 19, ground := Ground.textOnly Departure.lateStoresUnsure }, { on := 20, ground := Ground.textOnly Departure.lateStoresUnsure }, { on := 21, ground := Ground.phase }, { on := 22, ground := Ground.textOnly Departure.lateStores }, { on := 23, ground := Ground.textOnly Departure.lateStoresUnsure }, { on := 24, ground := Ground.phase }], guard := none }) (by kernel_rfl) (by kernel_rfl) (fun K hK => ?_) Comes.nil)
                    have f0 : wv7.cell? ⟨g, 0, none⟩ = some (.slice A0 n c0) := by rw [HM7.out.blk.cell]; rfl
                    have f1 : wv7.frozen? ⟨g, 0, none⟩ = false := HM7.out.blk.frozen 0
                    go_simp
                    try go_wp2_with fail
                    refine hK.out _ _ ?_ (fun hHeld => ?_)
                    · try dsimp only
                      all_goals trivial
                    clear hK K
                    refine Till.late_ (s := 27) (i := 28) (d := 85) (oi := { dst := some 85, op := Op.nilCheck (Operand.tmp 59), type := 0, pos := "ref.go:339", after := #[{ on := 1, ground := Ground.data }, { on := 0, ground := Ground.phase }, { on := 1, ground := Ground.phase }, { on := 2, ground := Ground.textOnly Departure.lateStores }, { on := 3, ground := Ground.phase }, { on := 4, ground := Ground.phase }, { on := 5, ground := Ground.phase }, { on := 6, ground := Ground.phase }, { on := 7, ground := Ground.phase }, { on := 8, ground := Ground.phase }, { on := 9, ground := Ground.phase }, { on := 10, ground := Ground.phase }, { on := 11, ground := Ground.phase }, { on := 12, ground := Ground.phase }, { on := 13, ground := Ground.phase }, { on := 14, ground := Ground.phase }, { on := 15, ground := Ground.phase }, { on := 16, ground := Ground.phase }, { on := 17, ground := Ground.phase }, { on := 18, ground := Ground.textOnly Departure.lateStores }, { on := 19, ground := Ground.textOnly Departure.lateStoresUnsure }, { on := 20, ground := Ground.textOnly Departure.lateStoresUnsure }, { on := 21, ground := Ground.phase }, { on := 22, ground := Ground.textOnly Departure.lateStores }, { on := 23, ground := Ground.textOnly Departure.lateStoresUnsure }, { on := 24, ground := Ground.phase }, { on := 25, ground := Ground.phase }, { on := 26, ground := Ground.phase }, { on := 27, ground := Ground.phase }], guard := none }) (v := ?_) (by kernel_rfl) (by kernel_rfl) (by decide) (by kernel_rfl) (by kernel_rfl) (by kernel_rfl) (fun _ _ _ h => h) (Or.inl ⟨by kernel_rfl, ?_⟩) (by kernel_rfl) ?_
                    rotate_left
                    · intro W hSw
                      try dsimp only at hSw
                      go_simp
                      first | done | with_reducible rfl
                    try simp only [Act.put, List.setIfInBounds_toArray, List.set_cons_zero, List.set_cons_succ]
                    refine Till.late_ (s := 27) (i := 29) (d := 86) (oi := { dst := some 86, op := Op.fieldAddr 33 (Operand.tmp 85) 1, type := 0, pos := "ref.go:339", after := #[{ on := 28, ground := Ground.data }, { on := 0, ground := Ground.phase }, { on := 1, ground := Ground.phase }, { on := 2, ground := Ground.textOnly Departure.lateStores }, { on := 3, ground := Ground.phase }, { on := 4, ground := Ground.phase }, { on := 5, ground := Ground.phase }, { on := 6, ground := Ground.phase }, { on := 7, ground := Ground.phase }, { on := 8, ground := Ground.phase }, { on := 9, ground := Ground.phase }, { on := 10, ground := Ground.phase }, { on := 11, ground := Ground.phase }, { on := 12, ground := Ground.phase }, { on := 13, ground := Ground.phase }, { on := 14, ground := Ground.phase }, { on := 15, ground := Ground.phase }, { on := 16, ground := Ground.phase }, { on := 17, ground := Ground.phase }, { on := 18, ground := Ground.textOnly Departure.lateStores }, { on := 19, ground := Ground.textOnly Departure.lateStoresUnsure }, { on := 20, ground := Ground.textOnly Departure.lateStoresUnsure }, { on := 21, ground := Ground.phase }, { on := 22, ground := Ground.textOnly Departure.lateStores }, { on := 23, ground := Ground.textOnly Departure.lateStoresUnsure }, { on := 24, ground := Ground.phase }, { on := 25, ground := Ground.phase }, { on := 26, ground := Ground.phase }, { on := 27, ground := Ground.phase }], guard := none }) (v := ?_) (by kernel_rfl) (by kernel_rfl) (by decide) (by kernel_rfl) (by kernel_rfl) (by kernel_rfl) (fun _ _ _ h => h) (Or.inl ⟨by kernel_rfl, ?_⟩) (by kernel_rfl) ?_
                    rotate_left
                    · intro W hSw
                      try dsimp only at hSw
                      go_simp
                      first | done | with_reducible rfl
                    try simp only [Act.put, List.setIfInBounds_toArray, List.set_cons_zero, List.set_cons_succ]
                    refine Till.ready (rs := [30]) (by kernel_rfl) (by simp) (Comes.late (o := { dst := none, op := Op.store 30 (Operand.tmp 86) (Operand.tmp 75), type := 0, pos := "ref.go:339", after := #[{ on := 29, ground := Ground.data }, { on := 17, ground := Ground.data }, { on := 27, ground := Ground.chain }, { on := 0, ground := Ground.phase }, { on := 1, ground := Ground.phase }, { on := 2, ground := Ground.textOnly Departure.lateStores }, { on := 3, ground := Ground.phase }, { on := 4, ground := Ground.phase }, { on := 5, ground := Ground.phase }, { on := 6, ground := Ground.phase }, { on := 7, ground := Ground.phase }, { on := 8, ground := Ground.phase }, { on := 9, ground := Ground.phase }, { on := 10, ground := Ground.phase }, { on := 11, ground := Ground.phase }, { on := 12, ground := Ground.phase }, { on := 13, ground := Ground.phase }, { on := 14, ground := Ground.phase }, { on := 15, ground := Ground.phase }, { on := 16, ground := Ground.phase }, { on := 17, ground := Ground.phase }, { on := 18, ground := Ground.textOnly Departure.lateStores }, { on := 19, ground := Ground.textOnly Departure.lateStoresUnsure }, { on := 20, ground := Ground.textOnly Departure.lateStoresUnsure }, { on := 21, ground := Ground.phase }, { on := 22, ground := Ground.textOnly Departure.lateStores }, { on := 23, ground := Ground.textOnly Departure.lateStoresUnsure }, { on := 24, ground := Ground.phase }, { on := 25, ground := Ground.phase }, { on := 26, ground := Ground.phase }, { on := 27, ground := Ground.phase }], guard := none }) (by kernel_rfl) (by kernel_rfl) (fun K hK => ?_) Comes.nil)
                    obtain ⟨wv8, hw8⟩ : ∃ W, W = wv7.setCell ⟨g, 0, none⟩ (.slice Y0 ny0 cy0) := ⟨_, rfl⟩
                    rw [← hw8]
                    have HM8 := Lib.hid (HM7.out.set_ 0 (.slice Y0 ny0 cy0))
                    rw [← hw8] at HM8
                    clear hw8 f0 f1
                    have f0 : wv8.cell? ⟨g, 1, none⟩ = some x1 := by rw [HM8.out.blk.cell]; rfl
                    have f1 : wv8.frozen? ⟨g, 1, none⟩ = false := HM8.out.blk.frozen 1
                    go_simp
                    try go_wp2_with fail
                    refine hK.out _ _ ?_ (fun hHeld => ?_)
                    · try dsimp only
                      all_goals trivial
                    clear hK K
                    refine Till.late_ (s := 27) (i := 31) (d := 87) (oi := { dst := some 87, op := Op.nilCheck (Operand.tmp 60), type := 0, pos := "ref.go:339", after := #[{ on := 2, ground := Ground.data }, { on := 0, ground := Ground.phase }, { on := 1, ground := Ground.phase }, { on := 2, ground := Ground.phase }, { on := 3, ground := Ground.phase }, { on := 4, ground := Ground.phase }, { on := 5, ground := Ground.phase }, { on := 6, ground := Ground.phase }, { on := 7, ground := Ground.phase }, { on := 8, ground := Ground.phase }, { on := 9, ground := Ground.phase }, { on := 10, ground := Ground.phase }, { on := 11, ground := Ground.phase }, { on := 12, ground := Ground.phase }, { on := 13, ground := Ground.phase }, { on := 14, ground := Ground.phase }, { on := 15, ground := Ground.phase }, { on := 16, ground := Ground.phase }, { on := 17, ground := Ground.phase }, { on := 18, ground := Ground.phase }, { on := 19, ground := Ground.phase }, { on := 20, ground := Ground.phase }, { on := 21, ground := Ground.phase }, { on := 22, ground := Ground.phase }, { on := 23, ground := Ground.phase }, { on := 24, ground := Ground.phase }, { on := 25, ground := Ground.phase }, { on := 26, ground := Ground.phase }, { on := 27, ground := Ground.phase }, { on := 28, ground := Ground.phase }, { on := 29, ground := Ground.phase }, { on := 30, ground := Ground.phase }], guard := none }) (v := ?_) (by kernel_rfl) (by kernel_rfl) (by decide) (by kernel_rfl) (by kernel_rfl) (by kernel_rfl) (fun _ _ _ h => h) (Or.inl ⟨by kernel_rfl, ?_⟩) (by kernel_rfl) ?_
                    rotate_left
                    · intro W hSw
                      try dsimp only at hSw
                      go_simp
                      first | done | with_reducible rfl
                    try simp only [Act.put, List.setIfInBounds_toArray, List.set_cons_zero, List.set_cons_succ]
                    refine Till.late_ (s := 27) (i := 32) (d := 88) (oi := { dst := some 88, op := Op.fieldAddr 33 (Operand.tmp 87) 2, type := 0, pos := "ref.go:339", after := #[{ on := 31, ground := Ground.data }, { on := 0, ground := Ground.phase }, { on := 1, ground := Ground.phase }, { on := 2, ground := Ground.phase }, { on := 3, ground := Ground.phase }, { on := 4, ground := Ground.phase }, { on := 5, ground := Ground.phase }, { on := 6, ground := Ground.phase }, { on := 7, ground := Ground.phase }, { on := 8, ground := Ground.phase }, { on := 9, ground := Ground.phase }, { on := 10, ground := Ground.phase }, { on := 11, ground := Ground.phase }, { on := 12, ground := Ground.phase }, { on := 13, ground := Ground.phase }, { on := 14, ground := Ground.phase }, { on := 15, ground := Ground.phase }, { on := 16, ground := Ground.phase }, { on := 17, ground := Ground.phase }, { on := 18, ground := Ground.phase }, { on := 19, ground := Ground.phase }, { on := 20, ground := Ground.phase }, { on := 21, ground := Ground.phase }, { on := 22, ground := Ground.phase }, { on := 23, ground := Ground.phase }, { on := 24, ground := Ground.phase }, { on := 25, ground := Ground.phase }, { on := 26, ground := Ground.phase }, { on := 27, ground := Ground.phase }, { on := 28, ground := Ground.phase }, { on := 29, ground := Ground.phase }, { on := 30, ground := Ground.phase }], guard := none }) (v := ?_) (by kernel_rfl) (by kernel_rfl) (by decide) (by kernel_rfl) (by kernel_rfl) (by kernel_rfl) (fun _ _ _ h => h) (Or.inl ⟨by kernel_rfl, ?_⟩) (by kernel_rfl) ?_
                    rotate_left
                    · intro W hSw
                      try dsimp only at hSw
                      go_simp
                      first | done | with_reducible rfl
                    try simp only [Act.put, List.setIfInBounds_toArray, List.set_cons_zero, List.set_cons_succ]
                    refine Till.ready (rs := [33]) (by kernel_rfl) (by simp) (Comes.late (o := { dst := none, op := Op.store 31 (Operand.tmp 88) (Operand.tmp 82), type := 0, pos := "ref.go:339", after := #[{ on := 32, ground := Ground.data }, { on := 24, ground := Ground.data }, { on := 30, ground := Ground.chain }, { on := 0, ground := Ground.phase }, { on := 1, ground := Ground.phase }, { on := 2, ground := Ground.phase }, { on := 3, ground := Ground.phase }, { on := 4, ground := Ground.phase }, { on := 5, ground := Ground.phase }, { on := 6, ground := Ground.phase }, { on := 7, ground := Ground.phase }, { on := 8, ground := Ground.phase }, { on := 9, ground := Ground.phase }, { on := 10, ground := Ground.phase }, { on := 11, ground := Ground.phase }, { on := 12, ground := Ground.phase }, { on := 13, ground := Ground.phase }, { on := 14, ground := Ground.phase }, { on := 15, ground := Ground.phase }, { on := 16, ground := Ground.phase }, { on := 17, ground := Ground.phase }, { on := 18, ground := Ground.phase }, { on := 19, ground := Ground.phase }, { on := 20, ground := Ground.phase }, { on := 21, ground := Ground.phase }, { on := 22, ground := Ground.phase }, { on := 23, ground := Ground.phase }, { on := 24, ground := Ground.phase }, { on := 25, ground := Ground.phase }, { on := 26, ground := Ground.phase }, { on := 27, ground := Ground.phase }, { on := 28, ground := Ground.phase }, { on := 29, ground := Ground.phase }, { on := 30, ground := Ground.phase }], guard := none }) (by kernel_rfl) (by kernel_rfl) (fun K hK => ?_) Comes.nil)
                    obtain ⟨wv9, hw9⟩ : ∃ W, W = wv8.setCell ⟨g, 1, none⟩ (.slice Y1 ny1 cy1) := ⟨_, rfl⟩
                    rw [← hw9]
                    have HM9 := Lib.hid (HM8.out.set_ 1 (.slice Y1 ny1 cy1))
                    rw [← hw9] at HM9
                    clear hw9 f0 f1
                    have f0 : wv9.cell? ⟨g, 2, none⟩ = some x2 := by rw [HM9.out.blk.cell]; rfl
                    have f1 : wv9.frozen? ⟨g, 2, none⟩ = false := HM9.out.blk.frozen 2
                    go_simp
                    try go_wp2_with fail
                    refine hK.out _ _ ?_ (fun hHeld => ?_)
                    · try dsimp only
                      all_goals trivial
                    clear hK K
                    refine Till.done (by kernel_rfl) ?_ _
                    obtain ⟨wv10, hw10⟩ : ∃ W, W = wv9.setCell ⟨g, 2, none⟩ (.slice Y2 ny2 cy2) := ⟨_, rfl⟩
                    rw [← hw10]
                    have HM10 := Lib.hid (HM9.out.set_ 2 (.slice Y2 ny2 cy2))
                    rw [← hw10] at HM10
                    clear hw10 f0 f1
                    go_wp2_with fail
                    go_ret
                    obtain ⟨Z', h1, h2, h3, h4⟩ := DGo.grown HGW.out HZL.out HE.out HRR.out HM10.out
                    exact ⟨Z', by rw [HE.out]; rfl, by unfold addR; rw [if_pos HE.out]; exact h1, (Only.of_below HB.out).trans h2 (fun k hk => .inl hk), h3, fun k hk => (h4 k hk).imp_right (fun x => Nat.le_trans HB.out.size x)⟩
                  · refine sbuild2 81 (by kernel_rfl) (by kernel_rfl) (.tmp 80) (by kernel_rfl) stamp (by rfl) ?_
                    obtain ⟨wv5, hw5⟩ : ∃ W, W = (wv4).alloc (.cells #[.int .i64 stamp] 3) := ⟨_, rfl⟩
                    rw [← hw5]
                    have HM5 := Lib.hid (HM4.out.alloc (.cells #[.int .i64 stamp] 3))
                    rw [← hw5] at HM5
                    have HT1_5 := Lib.hid (HT1_4.out.alloc (.cells #[.int .i64 stamp] 3))
                    rw [← hw5] at HT1_5
                    have HT2_5 := Lib.hid (own_one 3 (wv4) (.int .i64 stamp))
                    rw [← hw5] at HT2_5
                    obtain ⟨t2, ht2⟩ : ∃ t, t = Value.slice (some ⟨(wv4).heap.size, 0, none⟩) 1 1 := ⟨_, rfl⟩
                    rw [← ht2] at HT2_5 ⊢
                    clear hw5 ht2
                    have HS5 : Hid (wv5.cell? ⟨g, 0, none⟩ = some (.slice A0 n c0) ∧ wv5.cell? ⟨g, 1, none⟩ = some x1 ∧ wv5.cell? ⟨g, 2, none⟩ = some x2) := ⟨by rw [HM5.out.blk.cell]; rfl, by rw [HM5.out.blk.cell]; rfl, by rw [HM5.out.blk.cell]; rfl⟩
                    try go_wp2_with fail
                    refine hK.out _ _ ?_ (fun hHeld => ?_)
                    · try dsimp only
                      exact HS5.out
                    clear hK K
                    try simp only [Act.put, List.setIfInBounds_toArray, List.set_cons_zero, List.set_cons_succ]
                    refine Till.ready (rs := [17]) (by kernel_rfl) (by simp) (Comes.cons (o := { dst := some 75, op := Op.call { callee := Callee.builtin Builtin.append, args := #[Operand.tmp 71, Operand.tmp 74], argTypes := #[30, 30] }, type := 30, pos := "ref.go:339", after := #[{ on := 13, ground := Ground.data }, { on := 16, ground := Ground.data }, { on := 15, ground := Ground.chain }], guard := none }) (by kernel_rfl) (fun K hK => ?_) Comes.nil)
                    refine sapp1 75 (by kernel_rfl) (by kernel_rfl) (.tmp 71) (.tmp 74) (by kernel_rfl) HM5.out (by rfl) t1 u (by exact HU1.out) (by rfl) (by exact HT1_5.out) (by rw [List.length_map, HRL.out]; omega) ?_
                    intro y1 wv6 hm hkp
                    obtain ⟨Y1, ny1, cy1, hy⟩ : ∃ A n c, y1 = .slice A n c := by obtain ⟨A, c, e, _⟩ := hm.o1.slv; exact ⟨A, _, c, e⟩
                    subst hy
                    have HM6 := Lib.hid hm
                    have HT2_6 := Lib.hid (hkp _ _ _ (by decide) HT2_5.out)
                    clear hm hkp
                    have HS6 : Hid (wv6.cell? ⟨g, 0, none⟩ = some (.slice A0 n c0) ∧ wv6.cell? ⟨g, 1, none⟩ = some x1 ∧ wv6.cell? ⟨g, 2, none⟩ = some x2) := ⟨by rw [HM6.out.blk.cell]; rfl, by rw [HM6.out.blk.cell]; rfl, by rw [HM6.out.blk.cell]; rfl⟩
                    try go_wp2_with fail
                    refine hK.out _ _ ?_ (fun hHeld => ?_)
                    · try dsimp only
                      exact HS6.out
                    clear hK K
                    try simp only [Act.put, List.setIfInBounds_toArray, List.set_cons_zero, List.set_cons_succ]
                    refine Till.ready (rs := [24]) (by kernel_rfl) (by simp) (Comes.cons (o := { dst := some 82, op := Op.call { callee := Callee.builtin Builtin.append, args := #[Operand.tmp 79, Operand.tmp 81], argTypes := #[31, 31] }, type := 31, pos := "ref.go:339", after := #[{ on := 21, ground := Ground.data }, { on := 23, ground := Ground.data }, { on := 17, ground := Ground.chain }], guard := none }) (by kernel_rfl) (fun K hK => ?_) Comes.nil)
                    refine sapp2 82 (by kernel_rfl) (by kernel_rfl) (.tmp 79) (.tmp 81) (by kernel_rfl) HM6.out (by rfl) t2 stamp (by rfl) (by exact HT2_6.out) (by rw [List.length_map, HN.out]; omega) ?_
                    intro y2 wv7 hm hkp
                    obtain ⟨Y2, ny2, cy2, hy⟩ : ∃ A n c, y2 = .slice A n c := by obtain ⟨A, c, e, _⟩ := hm.o2.slv; exact ⟨A, _, c, e⟩
                    subst hy
                    have HM7 := Lib.hid hm
                    clear hm hkp
                    have HS7 : Hid (wv7.cell? ⟨g, 0, none⟩ = some (.slice A0 n c0) ∧ wv7.cell? ⟨g, 1, none⟩ = some x1 ∧ wv7.cell? ⟨g, 2, none⟩ = some x2) := ⟨by rw [HM7.out.blk.cell]; rfl, by rw [HM7.out.blk.cell]; rfl, by rw [HM7.out.blk.cell]; rfl⟩
                    try go_wp2_with fail
                    refine hK.out _ _ ?_ (fun hHeld => ?_)
                    · try dsimp only
                      exact HS7.out
                    clear hK K
                    try simp only [Act.put, List.setIfInBounds_toArray, List.set_cons_zero, List.set_cons_succ]
                    refine Till.pure_ (s := 27) (i := 25) (d := 83) (oi := { dst := some 83, op := Op.nilCheck (Operand.tmp 58), type := 0, pos := "ref.go:339", after := #[{ on := 0, ground := Ground.data }, { on := 0, ground := Ground.phase }, { on := 1, ground := Ground.textOnly Departure.lateStores }, { on := 2, ground := Ground.textOnly Departure.lateStores }, { on := 3, ground := Ground.phase }, { on := 4, ground := Ground.phase }, { on := 5, ground := Ground.phase }, { on := 6, ground := Ground.phase }, { on := 7, ground := Ground.phase }, { on := 8, ground := Ground.phase }, { on := 9, ground := Ground.phase }, { on := 10, ground := Ground.textOnly Departure.lateStores }, { on := 11, ground := Ground.textOnly Departure.lateStoresUnsure }, { on := 12, ground := Ground.textOnly Departure.lateStoresUnsure }, { on := 13, ground := Ground.phase }, { on := 14, ground := Ground.textOnly Departure.lateStores }, { on := 15, ground := Ground.phase }, { on := 16, ground := Ground.textOnly Departure.lateStoresUnsure }, { on := 17, ground := Ground.phase }, { on := 18, ground := Ground.textOnly Departure.lateStores }, { on := 19, ground := Ground.textOnly Departure.lateStoresUnsure }, { on := 20, ground := Ground.textOnly Departure.lateStoresUnsure }, { on := 21, ground := Ground.phase }, { on := 22, ground := Ground.textOnly Departure.lateStores }, { on := 23, ground := Ground.textOnly Departure.lateStoresUnsure }, { on := 24, ground := Ground.phase }], guard := none }) (v := ?_) (by kernel_rfl) (by kernel_rfl) (by decide) (by kernel_rfl) (by kernel_rfl) (by kernel_rfl) (fun _ _ _ h => h) (Or.inl ⟨by kernel_rfl, ?_⟩) (fun _ => by assumption) ?_
                    rotate_left
                    · intro W hSw
                      try dsimp only at hSw
                      go_simp
                      first | done | with_reducible rfl
                    try simp only [Act.put, List.setIfInBounds_toArray, List.set_cons_zero, List.set_cons_succ]
                    refine Till.pure_ (s := 27) (i := 26) (d := 84) (oi := { dst := some 84, op := Op.fieldAddr 33 (Operand.tmp 83) 0, type := 0, pos := "ref.go:339", after := #[{ on := 25, ground := Ground.data }, { on := 0, ground := Ground.phase }, { on := 1, ground := Ground.textOnly Departure.lateStores }, { on := 2, ground := Ground.textOnly Departure.lateStores }, { on := 3, ground := Ground.phase }, { on := 4, ground := Ground.phase }, { on := 5, ground := Ground.phase }, { on := 6, ground := Ground.phase }, { on := 7, ground := Ground.phase }, { on := 8, ground := Ground.phase }, { on := 9, ground := Ground.phase }, { on := 10, ground := Ground.textOnly Departure.lateStores }, { on := 11, ground := Ground.textOnly Departure.lateStoresUnsure }, { on := 12, ground := Ground.textOnly Departure.lateStoresUnsure }, { on := 13, ground := Ground.phase }, { on := 14, ground := Ground.textOnly Departure.lateStores }, { on := 15, ground := Ground.phase }, { on := 16, ground := Ground.textOnly Departure.lateStoresUnsure }, { on := 17, ground := Ground.phase }, { on := 18, ground := Ground.textOnly Departure.lateStores }, { on := 19, ground := Ground.textOnly Departure.lateStoresUnsure }, { on := 20, ground := Ground.textOnly Departure.lateStoresUnsure }, { on := 21, ground := Ground.phase }, { on := 22, ground := Ground.textOnly Departure.lateStores }, { on := 23, ground := Ground.textOnly Departure.lateStoresUnsure }, { on := 24, ground := Ground.phase }], guard := none }) (v := ?_) (by kernel_rfl) (by kernel_rfl) (by decide) (by kernel_rfl) (by kernel_rfl) (by kernel_rfl) (fun _ _ _ h => h) (Or.inl ⟨by kernel_rfl, ?_⟩) (fun _ => by assumption) ?_
                    rotate_left
                    · intro W hSw
                      try dsimp only at hSw
                      go_simp
                      first | done | with_reducible rfl
                    try simp only [Act.put, List.setIfInBounds_toArray, List.set_cons_zero, List.set_cons_succ]
                    refine Till.ready (rs := [27]) (by kernel_rfl) (by simp) (Comes.late (o := { dst := none, op := Op.store 23 (Operand.tmp 84) (Operand.tmp 67), type := 0, pos := "ref.go:339", after := #[{ on := 26, ground := Ground.data }, { on := 9, ground := Ground.data }, { on := 24, ground := Ground.chain }, { on := 0, ground := Ground.phase }, { on := 1, ground := Ground.textOnly Departure.lateStores }, { on := 2, ground := Ground.textOnly Departure.lateStores }, { on := 3, ground := Ground.phase }, { on := 4, ground := Ground.phase }, { on := 5, ground := Ground.phase }, { on := 6, ground := Ground.phase }, { on := 7, ground := Ground.phase }, { on := 8, ground := Ground.phase }, { on := 9, ground := Ground.phase }, { on := 10, ground := Ground.textOnly Departure.lateStores }, { on := 11, ground := Ground.textOnly Departure.lateStoresUnsure }, { on := 12, ground := Ground.textOnly Departure.lateStoresUnsure }, { on := 13, ground := Ground.phase }, { on := 14, ground := Ground.textOnly Departure.lateStores }, { on := 15, ground := Ground.phase }, { on := 16, ground := Ground.textOnly Departure.lateStoresUnsure }, { on := 17, ground := Ground.phase }, { on := 18, ground := Ground.textOnly Departure.lateStores }, { on := 19, ground := Ground.textOnly Departure.lateStoresUnsure }, { on := 20, ground := Ground.textOnly Departure.lateStoresUnsure }, { on := 21, ground := Ground.phase }, { on := 22, ground := Ground.textOnly Departure.lateStores }, { on := 23, ground := Ground.textOnly Departure.lateStoresUnsure }, { on := 24, ground := Ground.phase }], guard := none }) (by kernel_rfl) (by kernel_rfl) (fun K hK => ?_) Comes.nil)
                    have f0 : wv7.cell? ⟨g, 0, none⟩ = some (.slice A0 n c0) := by rw [HM7.out.blk.cell]; rfl
                    have f1 : wv7.frozen? ⟨g, 0, none⟩ = false := HM7.out.blk.frozen 0
                    go_simp
                    try go_wp2_with fail
                    refine hK.out _ _ ?_ (fun hHeld => ?_)
                    · try dsimp only
                      all_goals trivial
                    clear hK K
                    refine Till.late_ (s := 27) (i := 28) (d := 85) (oi := { dst := some 85, op := Op.nilCheck (Operand.tmp 59), type := 0, pos := "ref.go:339", after := #[{ on := 1, ground := Ground.data }, { on := 0, ground := Ground.phase }, { on := 1, ground := Ground.phase }, { on := 2, ground := Ground.textOnly Departure.lateStores }, { on := 3, ground := Ground.phase }, { on := 4, ground := Ground.phase }, { on := 5, ground := Ground.phase }, { on := 6, ground := Ground.phase }, { on := 7, ground := Ground.phase }, { on := 8, ground := Ground.phase }, { on := 9, ground := Ground.phase }, { on := 10, ground := Ground.phase }, { on := 11, ground := Ground.phase }, { on := 12, ground := Ground.phase }, { on := 13, ground := Ground.phase }, { on := 14, ground := Ground.phase }, { on := 15, ground := Ground.phase }, { on := 16, ground := Ground.phase }, { on := 17, ground := Ground.phase }, { on := 18, ground := Ground.textOnly Departure.lateStores }, { on := 19, ground := Ground.textOnly Departure.lateStoresUnsure }, { on := 20, ground := Ground.textOnly Departure.lateStoresUnsure }, { on := 21, ground := Ground.phase }, { on := 22, ground := Ground.textOnly Departure.lateStores }, { on := 23, ground := Ground.textOnly Departure.lateStoresUnsure }, { on := 24, ground := Ground.phase }, { on := 25, ground := Ground.phase }, { on := 26, ground := Ground.phase }, { on := 27, ground := Ground.phase }], guard := none }) (v := ?_) (by kernel_rfl) (by kernel_rfl) (by decide) (by kernel_rfl) (by kernel_rfl) (by kernel_rfl) (fun _ _ _ h => h) (Or.inl ⟨by kernel_rfl, ?_⟩) (by kernel_rfl) ?_
                    rotate_left
                    · intro W hSw
                      try dsimp only at hSw
                      go_simp
                      first | done | with_reducible rfl
                    try simp only [Act.put, List.setIfInBounds_toArray, List.set_cons_zero, List.set_cons_succ]
                    refine Till.late_ (s := 27) (i := 29) (d := 86) (oi := { dst := some 86, op := Op.fieldAddr 33 (Operand.tmp 85) 1, type := 0, pos := "ref.go:339", after := #[{ on := 28, ground := Ground.data }, { on := 0, ground := Ground.phase }, { on := 1, ground := Ground.phase }, { on := 2, ground := Ground.textOnly Departure.lateStores }, { on := 3, ground := Ground.phase }, { on := 4, ground := Ground.phase }, { on := 5, ground := Ground.phase }, { on := 6, ground := Ground.phase }, { on := 7, ground := Ground.phase }, { on := 8, ground := Ground.phase }, { on := 9, ground := Ground.phase }, { on := 10, ground := Ground.phase }, { on := 11, ground := Ground.phase }, { on := 12, ground := Ground.phase }, { on := 13, ground := Ground.phase }, { on := 14, ground := Ground.phase }, { on := 15, ground := Ground.phase }, { on := 16, ground := Ground.phase }, { on := 17, ground := Ground.phase }, { on := 18, ground := Ground.textOnly Departure.lateStores }, { on := 19, ground := Ground.textOnly Departure.lateStoresUnsure }, { on := 20, ground := Ground.textOnly Departure.lateStoresUnsure }, { on := 21, ground := Ground.phase }, { on := 22, ground := Ground.textOnly Departure.lateStores }, { on := 23, ground := Ground.textOnly Departure.lateStoresUnsure }, { on := 24, ground := Ground.phase }, { on := 25, ground := Ground.phase }, { on := 26, ground := Ground.phase }, { on := 27, ground := Ground.phase }], guard := none }) (v := ?_) (by kernel_rfl) (by kernel_rfl) (by decide) (by kernel_rfl) (by kernel_rfl) (by kernel_rfl) (fun _ _ _ h => h) (Or.inl ⟨by kernel_rfl, ?_⟩) (by kernel_rfl) ?_
                    rotate_left
                    · intro W hSw
                      try dsimp only at hSw
                      go_simp
                      first | done | with_reducible rfl
                    try simp only [Act.put, List.setIfInBounds_toArray, List.set_cons_zero, List.set_cons_succ]
                    refine Till.ready (rs := [30]) (by kernel_rfl) (by simp) (Comes.late (o := { dst := none, op := Op.store 30 (Operand.tmp 86) (Operand.tmp 75), type := 0, pos := "ref.go:339", after := #[{ on := 29, ground := Ground.data }, { on := 17, ground := Ground.data }, { on := 27, ground := Ground.chain }, { on := 0, ground := Ground.phase }, { on := 1, ground := Ground.phase }, { on := 2, ground := Ground.textOnly Departure.lateStores }, { on := 3, ground := Ground.phase }, { on := 4, ground := Ground.phase }, { on := 5, ground := Ground.phase }, { on := 6, ground := Ground.phase }, { on := 7, ground := Ground.phase }, { on := 8, ground := Ground.phase }, { on := 9, ground := Ground.phase }, { on := 10, ground := Ground.phase }, { on := 11, ground := Ground.phase }, { on := 12, ground := Ground.phase }, { on := 13, ground := Ground.phase }, { on := 14, ground := Ground.phase }, { on := 15, ground := Ground.phase }, { on := 16, ground := Ground.phase }, { on := 17, ground := Ground.phase }, { on := 18, ground := Ground.textOnly Departure.lateStores }, { on := 19, ground := Ground.textOnly Departure.lateStoresUnsure }, { on := 20, ground := Ground.textOnly Departure.lateStoresUnsure }, { on := 21, ground := Ground.phase }, { on := 22, ground := Ground.textOnly Departure.lateStores }, { on := 23, ground := Ground.textOnly Departure.lateStoresUnsure }, { on := 24, ground := Ground.phase }, { on := 25, ground := Ground.phase }, { on := 26, ground := Ground.phase }, { on := 27, ground := Ground.phase }], guard := none }) (by kernel_rfl) (by kernel_rfl) (fun K hK => ?_) Comes.nil)
                    obtain ⟨wv8, hw8⟩ : ∃ W, W = wv7.setCell ⟨g, 0, none⟩ (.slice Y0 ny0 cy0) := ⟨_, rfl⟩
                    rw [← hw8]
                    have HM8 := Lib.hid (HM7.out.set_ 0 (.slice Y0 ny0 cy0))
                    rw [← hw8] at HM8
                    clear hw8 f0 f1
                    have f0 : wv8.cell? ⟨g, 1, none⟩ = some x1 := by rw [HM8.out.blk.cell]; rfl
                    have f1 : wv8.frozen? ⟨g, 1, none⟩ = false := HM8.out.blk.frozen 1
                    go_simp
                    try go_wp2_with fail
                    refine hK.out _ _ ?_ (fun hHeld => ?_)
                    · try dsimp only
                      all_goals trivial
                    clear hK K
                    refine Till.late_ (s := 27) (i := 31) (d := 87) (oi := { dst := some 87, op := Op.nilCheck (Operand.tmp 60), type := 0, pos := "ref.go:339", after := #[{ on := 2, ground := Ground.data }, { on := 0, ground := Ground.phase }, { on := 1, ground := Ground.phase }, { on := 2, ground := Ground.phase }, { on := 3, ground := Ground.phase }, { on := 4, ground := Ground.phase }, { on := 5, ground := Ground.phase }, { on := 6, ground := Ground.phase }, { on := 7, ground := Ground.phase }, { on := 8, ground := Ground.phase }, { on := 9, ground := Ground.phase }, { on := 10, ground := Ground.phase }, { on := 11, ground := Ground.phase }, { on := 12, ground := Ground.phase }, { on := 13, ground := Ground.phase }, { on := 14, ground := Ground.phase }, { on := 15, ground := Ground.phase }, { on := 16, ground := Ground.phase }, { on := 17, ground := Ground.phase }, { on := 18, ground := Ground.phase }, { on := 19, ground := Ground.phase }, { on := 20, ground := Ground.phase }, { on := 21, ground := Ground.phase }, { on := 22, ground := Ground.phase }, { on := 23, ground := Ground.phase }, { on := 24, ground := Ground.phase }, { on := 25, ground := Ground.phase }, { on := 26, ground := Ground.phase }, { on := 27, ground := Ground.phase }, { on := 28, ground := Ground.phase }, { on := 29, ground := Ground.phase }, { on := 30, ground := Ground.phase }], guard := none }) (v := ?_) (by kernel_rfl) (by kernel_rfl) (by decide) (by kernel_rfl) (by kernel_rfl) (by kernel_rfl) (fun _ _ _ h => h) (Or.inl ⟨by kernel_rfl, ?_⟩) (by kernel_rfl) ?_
                    rotate_left
                    · intro W hSw
                      try dsimp only at hSw
                      go_simp
                      first | done | with_reducible rfl
                    try simp only [Act.put, List.setIfInBounds_toArray, List.set_cons_zero, List.set_cons_succ]
                    refine Till.late_ (s := 27) (i := 32) (d := 88) (oi := { dst := some 88, op := Op.fieldAddr 33 (Operand.tmp 87) 2, type := 0, pos := "ref.go:339", after := #[{ on := 31, ground := Ground.data }, { on := 0, ground := Ground.phase }, { on := 1, ground := Ground.phase }, { on := 2, ground := Ground.phase }, { on := 3, ground := Ground.phase }, { on := 4, ground := Ground.phase }, { on := 5, ground := Ground.phase }, { on := 6, ground := Ground.phase }, { on := 7, ground := Ground.phase }, { on := 8, ground := Ground.phase }, { on := 9, ground := Ground.phase }, { on := 10, ground := Ground.phase }, { on := 11, ground := Ground.phase }, { on := 12, ground := Ground.phase }, { on := 13, ground := Ground.phase }, { on := 14, ground := Ground.phase }, { on := 15, ground := Ground.phase }, { on := 16, ground := Ground.phase }, { on := 17, ground := Ground.phase }, { on := 18, ground := Ground.phase }, { on := 19, ground := Ground.phase }, { on := 20, ground := Ground.phase }, { on := 21, ground := Ground.phase }, { on := 22, ground := Ground.phase }, { on := 23, ground := Ground.phase }, { on := 24, ground := Ground.phase }, { on := 25, ground := Ground.phase }, { on := 26, ground := Ground.phase }, { on := 27, ground := Ground.phase }, { on := 28, ground := Ground.phase }, { on := 29, ground := Ground.phase }, { on := 30, ground := Ground.phase }], guard := none }) (v := ?_) (by kernel_rfl) (by kernel_rfl) (by decide) (by kernel_rfl) (by kernel_rfl) (by kernel_rfl) (fun _ _ _ h => h) (Or.inl ⟨by kernel_rfl, ?_⟩) (by kernel_rfl) ?_
                    rotate_left
                    · intro W hSw
                      try dsimp only at hSw
                      go_simp
                      first | done | with_reducible rfl
                    try simp only [Act.put, List.setIfInBounds_toArray, List.set_cons_zero, List.set_cons_succ]
                    refine Till.ready (rs := [33]) (by kernel_rfl) (by simp) (Comes.late (o := { dst := none, op := Op.store 31 (Operand.tmp 88) (Operand.tmp 82), type := 0, pos := "ref.go:339", after := #[{ on := 32, ground := Ground.data }, { on := 24, ground := Ground.data }, { on := 30, ground := Ground.chain }, { on := 0, ground := Ground.phase }, { on := 1, ground := Ground.phase }, { on := 2, ground := Ground.phase }, { on := 3, ground := Ground.phase }, { on := 4, ground := Ground.phase }, { on := 5, ground := Ground.phase }, { on := 6, ground := Ground.phase }, { on := 7, ground := Ground.phase }, { on := 8, ground := Ground.phase }, { on := 9, ground := Ground.phase }, { on := 10, ground := Ground.phase }, { on := 11, ground := Ground.phase }, { on := 12, ground := Ground.phase }, { on := 13, ground := Ground.phase }, { on := 14, ground := Ground.phase }, { on := 15, ground := Ground.phase }, { on := 16, ground := Ground.phase }, { on := 17, ground := Ground.phase }, { on := 18, ground := Ground.phase }, { on := 19, ground := Ground.phase }, { on := 20, ground := Ground.phase }, { on := 21, ground := Ground.phase }, { on := 22, ground := Ground.phase }, { on := 23, ground := Ground.phase }, { on := 24, ground := Ground.phase }, { on := 25, ground := Ground.phase }, { on := 26, ground := Ground.phase }, { on := 27, ground := Ground.phase }, { on := 28, ground := Ground.phase }, { on := 29, ground := Ground.phase }, { on := 30, ground := Ground.phase }], guard := none }) (by kernel_rfl) (by kernel_rfl) (fun K hK => ?_) Comes.nil)
                    obtain ⟨wv9, hw9⟩ : ∃ W, W = wv8.setCell ⟨g, 1, none⟩ (.slice Y1 ny1 cy1) := ⟨_, rfl⟩
                    rw [← hw9]
                    have HM9 := Lib.hid (HM8.out.set_ 1 (.slice Y1 ny1 cy1))
                    rw [← hw9] at HM9
                    clear hw9 f0 f1
                    have f0 : wv9.cell? ⟨g, 2, none⟩ = some x2 := by rw [HM9.out.blk.cell]; rfl
                    have f1 : wv9.frozen? ⟨g, 2, none⟩ = false := HM9.out.blk.frozen 2
                    go_simp
                    try go_wp2_with fail
                    refine hK.out _ _ ?_ (fun hHeld => ?_)
                    · try dsimp only
                      all_goals trivial
                    clear hK K
                    refine Till.done (by kernel_rfl) ?_ _
                    obtain ⟨wv10, hw10⟩ : ∃ W, W = wv9.setCell ⟨g, 2, none⟩ (.slice Y2 ny2 cy2) := ⟨_, rfl⟩
                    rw [← hw10]
                    have HM10 := Lib.hid (HM9.out.set_ 2 (.slice Y2 ny2 cy2))
                    rw [← hw10] at HM10
                    clear hw10 f0 f1
                    go_wp2_with fail
                    go_ret
                    obtain ⟨Z', h1, h2, h3, h4⟩ := DGo.grown HGW.out HZL.out HE.out HRR.out HM10.out
                    exact ⟨Z', by rw [HE.out]; rfl, by unfold addR; rw [if_pos HE.out]; exact h1, (Only.of_below HB.out).trans h2 (fun k hk => .inl hk), h3, fun k hk => (h4 k hk).imp_right (fun x => Nat.le_trans HB.out.size x)⟩
                · refine sbuild2 81 (by kernel_rfl) (by kernel_rfl) (.tmp 80) (by kernel_rfl) stamp (by rfl) ?_
                  obtain ⟨wv4, hw4⟩ : ∃ W, W = (wv3).alloc (.cells #[.int .i64 stamp] 3) := ⟨_, rfl⟩
                  rw [← hw4]
                  have HM4 := Lib.hid (HM3.out.alloc (.cells #[.int .i64 stamp] 3))
                  rw [← hw4] at HM4
                  have HT2_4 := Lib.hid (own_one 3 (wv3) (.int .i64 stamp))
                  rw [← hw4] at HT2_4
                  obtain ⟨t2, ht2⟩ : ∃ t, t = Value.slice (some ⟨(wv3).heap.size, 0, none⟩) 1 1 := ⟨_, rfl⟩
                  rw [← ht2] at HT2_4 ⊢
                  clear hw4 ht2
                  have HS4 : Hid (wv4.cell? ⟨g, 0, none⟩ = some (.slice A0 n c0) ∧ wv4.cell? ⟨g, 1, none⟩ = some x1 ∧ wv4.cell? ⟨g, 2, none⟩ = some x2) := ⟨by rw [HM4.out.blk.cell]; rfl, by rw [HM4.out.blk.cell]; rfl, by rw [HM4.out.blk.cell]; rfl⟩
                  try go_wp2_with fail
                  refine hK.out _ _ ?_ (fun hHeld => ?_)
                  · try dsimp only
                    exact HS4.out
                  clear hK K
                  try simp only [Act.put, List.setIfInBounds_toArray, List.set_cons_zero, List.set_cons_succ]
                  refine Till.ready (rs := [16]) (by kernel_rfl) (by simp) (Comes.cons (o := { dst := some 74, op := Op.buildSlice 30 1 #[(0, Operand.tmp 73)], type := 30, pos := "ref.go:339", after := #[{ on := 15, ground := Ground.data }], guard := none }) (by kernel_rfl) (fun K hK => ?_) Comes.nil)
                  refine sbuild1 74 (by kernel_rfl) (by kernel_rfl) (.tmp 73) (by kernel_rfl) u (by exact HUC.out) (by rfl) ?_
                  obtain ⟨wv5, hw5⟩ : ∃ W, W = (wv4).alloc (.cells #[u] 23) := ⟨_, rfl⟩
                  rw [← hw5]
                  have HM5 := Lib.hid (HM4.out.alloc (.cells #[u] 23))
                  rw [← hw5] at HM5
                  have HT2_5 := Lib.hid (HT2_4.out.alloc (.cells #[u] 23))
                  rw [← hw5] at HT2_5
                  have HT1_5 := Lib.hid (own_one 23 (wv4) (u))
                  rw [← hw5] at HT1_5
                  obtain ⟨t1, ht1⟩ : ∃ t, t = Value.slice (some ⟨(wv4).heap.size, 0, none⟩) 1 1 := ⟨_, rfl⟩
                  rw [← ht1] at HT1_5 ⊢
                  clear hw5 ht1
                  have HS5 : Hid (wv5.cell? ⟨g, 0, none⟩ = some (.slice A0 n c0) ∧ wv5.cell? ⟨g, 1, none⟩ = some x1 ∧ wv5.cell? ⟨g, 2, none⟩ = some x2) := ⟨by rw [HM5.out.blk.cell]; rfl, by rw [HM5.out.blk.cell]; rfl, by rw [HM5.out.blk.cell]; rfl⟩
                  try go_wp2_with fail
                  refine hK.out _ _ ?_ (fun hHeld => ?_)
                  · try dsimp only
                    exact HS5.out
                  clear hK K
                  try simp only [Act.put, List.setIfInBounds_toArray, List.set_cons_zero, List.set_cons_succ]
                  refine Till.ready (rs := [17]) (by kernel_rfl) (by simp) (Comes.cons (o := { dst := some 75, op := Op.call { callee := Callee.builtin Builtin.append, args := #[Operand.tmp 71, Operand.tmp 74], argTypes := #[30, 30] }, type := 30, pos := "ref.go:339", after := #[{ on := 13, ground := Ground.data }, { on := 16, ground := Ground.data }, { on := 15, ground := Ground.chain }], guard := none }) (by kernel_rfl) (fun K hK => ?_) Comes.nil)
                  refine sapp1 75 (by kernel_rfl) (by kernel_rfl) (.tmp 71) (.tmp 74) (by kernel_rfl) HM5.out (by rfl) t1 u (by exact HU1.out) (by rfl) (by exact HT1_5.out) (by rw [List.length_map, HRL.out]; omega) ?_
                  intro y1 wv6 hm hkp
                  obtain ⟨Y1, ny1, cy1, hy⟩ : ∃ A n c, y1 = .slice A n c := by obtain ⟨A, c, e, _⟩ := hm.o1.slv; exact ⟨A, _, c, e⟩
                  subst hy
                  have HM6 := Lib.hid hm
                  have HT2_6 := Lib.hid (hkp _ _ _ (by decide) HT2_5.out)
                  clear hm hkp
                  have HS6 : Hid (wv6.cell? ⟨g, 0, none⟩ = some (.slice A0 n c0) ∧ wv6.cell? ⟨g, 1, none⟩ = some x1 ∧ wv6.cell? ⟨g, 2, none⟩ = some x2) := ⟨by rw [HM6.out.blk.cell]; rfl, by rw [HM6.out.blk.cell]; rfl, by rw [HM6.out.blk.cell]; rfl⟩
                  try go_wp2_with fail
                  refine hK.out _ _ ?_ (fun hHeld => ?_)
                  · try dsimp only
                    exact HS6.out
                  clear hK K
                  try simp only [Act.put, List.setIfInBounds_toArray, List.set_cons_zero, List.set_cons_succ]
                  refine Till.ready (rs := [24]) (by kernel_rfl) (by simp) (Comes.cons (o := { dst := some 82, op := Op.call { callee := Callee.builtin Builtin.append, args := #[Operand.tmp 79, Operand.tmp 81], argTypes := #[31, 31] }, type := 31, pos := "ref.go:339", after := #[{ on := 21, ground := Ground.data }, { on := 23, ground := Ground.data }, { on := 17, ground := Ground.chain }], guard := none }) (by kernel_rfl) (fun K hK => ?_) Comes.nil)
                  refine sapp2 82 (by kernel_rfl) (by kernel_rfl) (.tmp 79) (.tmp 81) (by kernel_rfl) HM6.out (by rfl) t2 stamp (by rfl) (by exact HT2_6.out) (by rw [List.length_map, HN.out]; omega) ?_
                  intro y2 wv7 hm hkp
                  obtain ⟨Y2, ny2, cy2, hy⟩ : ∃ A n c, y2 = .slice A n c := by obtain ⟨A, c, e, _⟩ := hm.o2.slv; exact ⟨A, _, c, e⟩
                  subst hy
                  have HM7 := Lib.hid hm
                  clear hm hkp
                  have HS7 : Hid (wv7.cell? ⟨g, 0, none⟩ = some (.slice A0 n c0) ∧ wv7.cell? ⟨g, 1, none⟩ = some x1 ∧ wv7.cell? ⟨g, 2, none⟩ = some x2) := ⟨by rw [HM7.out.blk.cell]; rfl, by rw [HM7.out.blk.cell]; rfl, by rw [HM7.out.blk.cell]; rfl⟩
                  try go_wp2_with fail
                  refine hK.out _ _ ?_ (fun hHeld => ?_)
                  · try dsimp only
                    exact HS7.out
                  clear hK K
                  try simp only [Act.put, List.setIfInBounds_toArray, List.set_cons_zero, List.set_cons_succ]
                  refine Till.pure_ (s := 27) (i := 25) (d := 83) (oi := { dst := some 83, op := Op.nilCheck (Operand.tmp 58), type := 0, pos := "ref.go:339", after := #[{ on := 0, ground := Ground.data }, { on := 0, ground := Ground.phase }, { on := 1, ground := Ground.textOnly Departure.lateStores }, { on := 2, ground := Ground.textOnly Departure.lateStores }, { on := 3, ground := Ground.phase }, { on := 4, ground := Ground.phase }, { on := 5, ground := Ground.phase }, { on := 6, ground := Ground.phase }, { on := 7, ground := Ground.phase }, { on := 8, ground := Ground.phase }, { on := 9, ground := Ground.phase }, { on := 10, ground := Ground.textOnly Departure.lateStores }, { on := 11, ground := Ground.textOnly Departure.lateStoresUnsure }, { on := 12, ground := Ground.textOnly Departure.lateStoresUnsure }, { on := 13, ground := Ground.phase }, { on := 14, ground := Ground.textOnly Departure.lateStores }, { on := 15, ground := Ground.phase }, { on := 16, ground := Ground.textOnly Departure.lateStoresUnsure }, { on := 17, ground := Ground.phase }, { on := 18, ground := Ground.textOnly Departure.lateStores }, { on := 19, ground := Ground.textOnly Departure.lateStoresUnsure }, { on := 20, ground := Ground.textOnly Departure.lateStoresUnsure }, { on := 21, ground := Ground.phase }, { on := 22, ground := Ground.textOnly Departure.lateStores }, { on := 23, ground := Ground.textOnly Departure.lateStoresUnsure }, { on := 24, ground := Ground.phase }], guard := none }) (v := ?_) (by kernel_rfl) (by kernel_rfl) (by decide) (by kernel_rfl) (by kernel_rfl) (by kernel_rfl) (fun _ _ _ h => h) (Or.inl ⟨by kernel_rfl, ?_⟩) (fun _ => by assumption) ?_
                  rotate_left
                  · intro W hSw
                    try dsimp only at hSw
                    go_simp
                    first | done | with_reducible rfl
                  try simp only [Act.put, List.setIfInBounds_toArray, List.set_cons_zero, List.set_cons_succ]
                  refine Till.pure_ (s := 27) (i := 26) (d := 84) (oi := { dst := some 84, op := Op.fieldAddr 33 (Operand.tmp 83) 0, type := 0, pos := "ref.go:339", after := #[{ on := 25, ground := Ground.data }, { on := 0, ground := Ground.phase }, { on := 1, ground := Ground.textOnly Departure.lateStores }, { on := 2, ground := Ground.textOnly Departure.lateStores }, { on := 3, ground := Ground.phase }, { on := 4, ground := Ground.phase }, { on := 5, ground := Ground.phase }, { on := 6, ground := Ground.phase }, { on := 7, ground := Ground.phase }, { on := 8, ground := Ground.phase }, { on := 9, ground := Ground.phase }, { on := 10, ground := Ground.textOnly Departure.lateStores }, { on := 11, ground := Ground.textOnly Departure.lateStoresUnsure }, { on := 12, ground := Ground.textOnly Departure.lateStoresUnsure }, { on := 13, ground := Ground.phase }, { on := 14, ground := Ground.textOnly Departure.lateStores }, { on := 15, ground := Ground.phase }, { on := 16, ground := Ground.textOnly Departure.lateStoresUnsure }, { on := 17, ground := Ground.phase }, { on := 18, ground := Ground.textOnly Departure.lateStores }, { on := 19, ground := Ground.textOnly Departure.lateStoresUnsure }, { on := 20, ground := Ground.textOnly Departure.lateStoresUnsure }, { on := 21, ground := Ground.phase }, { on := 22, ground := Ground.textOnly Departure.lateStores }, { on := 23, ground := Ground.textOnly Departure.lateStoresUnsure }, { on := 24, ground := Ground.phase }], guard := none }) (v := ?_) (by kernel_rfl) (by kernel_rfl) (by decide) (by kernel_rfl) (by kernel_rfl) (by kernel_rfl) (fun _ _ _ h => h) (Or.inl ⟨by kernel_rfl, ?_⟩) (fun _ => by assumption) ?_
                  rotate_left
                  · intro W hSw
                    try dsimp only at hSw
                    go_simp
                    first | done | with_reducible rfl
                  try simp only [Act.put, List.setIfInBounds_toArray, List.set_cons_zero, List.set_cons_succ]
                  refine Till.ready (rs := [27]) (by kernel_rfl) (by simp) (Comes.late (o := { dst := none, op := Op.store 23 (Operand.tmp 84) (Operand.tmp 67), type := 0, pos := "ref.go:339", after := #[{ on := 26, ground := Ground.data }, { on := 9, ground := Ground.data }, { on := 24, ground := Ground.chain }, { on := 0, ground := Ground.phase }, { on := 1, ground := Ground.textOnly Departure.lateStores }, { on := 2, ground := Ground.textOnly Departure.lateStores }, { on := 3, ground := Ground.phase }, { on := 4, ground := Ground.phase }, { on := 5, ground := Ground.phase }, { on := 6, ground := Ground.phase }, { on := 7, ground := Ground.phase }, { on := 8, ground := Ground.phase }, { on := 9, ground := Ground.phase }, { on := 10, ground := Ground.textOnly Departure.lateStores }, { on := 11, ground := Ground.textOnly Departure.lateStoresUnsure }, { on := 12, ground := Ground.textOnly Departure.lateStoresUnsure }, { on := 13, ground := Ground.phase }, { on := 14, ground := Ground.textOnly Departure.lateStores }, { on := 15, ground := Ground.phase }, { on := 16, ground := Ground.textOnly Departure.lateStoresUnsure }, { on := 17, ground := Ground.phase }, { on := 18, ground := Ground.textOnly Departure.lateStores }, { on := 19, ground := Ground.textOnly Departure.lateStoresUnsure }, { on := 20, ground := Ground.textOnly Departure.lateStoresUnsure }, { on := 21, ground := Ground.phase }, { on := 22, ground := Ground.textOnly Departure.lateStores }, { on := 23, ground := Ground.textOnly Departure.lateStoresUnsure }, { on := 24, ground := Ground.phase }], guard := none }) (by kernel_rfl) (by kernel_rfl) (fun K hK => ?_) Comes.nil)
                  have f0 : wv7.cell? ⟨g, 0, none⟩ = some (.slice A0 n c0) := by rw [HM7.out.blk.cell]; rfl
                  have f1 : wv7.frozen? ⟨g, 0, none⟩ = false := HM7.out.blk.frozen 0
                  go_simp
                  try go_wp2_with fail
                  refine hK.out _ _ ?_ (fun hHeld => ?_)
                  · try dsimp only
                    all_goals trivial
                  clear hK K
                  refine Till.late_ (s := 27) (i := 28) (d := 85) (oi := { dst := some 85, op := Op.nilCheck (Operand.tmp 59), type := 0, pos := "ref.go:339", after := #[{ on := 1, ground := Ground.data }, { on := 0, ground := Ground.phase }, { on := 1, ground := Ground.phase }, { on := 2, ground := Ground.textOnly Departure.lateStores }, { on := 3, ground := Ground.phase }, { on := 4, ground := Ground.phase }, { on := 5, ground := Ground.phase }, { on := 6, ground := Ground.phase }, { on := 7, ground := Ground.phase }, { on := 8, ground := Ground.phase }, { on := 9, ground := Ground.phase }, { on := 10, ground := Ground.phase }, { on := 11, ground := Ground.phase }, { on := 12, ground := Ground.phase }, { on := 13, ground := Ground.phase }, { on := 14, ground := Ground.phase }, { on := 15, ground := Ground.phase }, { on := 16, ground := Ground.phase }, { on := 17, ground := Ground.phase }, { on := 18, ground := Ground.textOnly Departure.lateStores }, { on := 19, ground := Ground.textOnly Departure.lateStoresUnsure }, { on := 20, ground := Ground.textOnly Departure.lateStoresUnsure }, { on := 21, ground := Ground.phase }, { on := 22, ground := Ground.textOnly Departure.lateStores }, { on := 23, ground := Ground.textOnly Departure.lateStoresUnsure }, { on := 24, ground := Ground.phase }, { on := 25, ground := Ground.phase }, { on := 26, ground := Ground.phase }, { on := 27, ground := Ground.phase }], guard := none }) (v := ?_) (by kernel_rfl) (by kernel_rfl) (by decide) (by kernel_rfl) (by kernel_rfl) (by kernel_rfl) (fun _ _ _ h => h) (Or.inl ⟨by kernel_rfl, ?_⟩) (by kernel_rfl) ?_
                  rotate_left
                  · intro W hSw
                    try dsimp only at hSw
                    go_simp
                    first | done | with_reducible rfl
                  try simp only [Act.put, List.setIfInBounds_toArray, List.set_cons_zero, List.set_cons_succ]
                  refine Till.late_ (s := 27) (i := 29) (d := 86) (oi := { dst := some 86, op := Op.fieldAddr 33 (Operand.tmp 85) 1, type := 0, pos := "ref.go:339", after := #[{ on := 28, ground := Ground.data }, { on := 0, ground := Ground.phase }, { on := 1, ground := Ground.phase }, { on := 2, ground := Ground.textOnly Departure.lateStores }, { on := 3, ground := Ground.phase }, { on := 4, ground := Ground.phase }, { on := 5, ground := Ground.phase }, { on := 6, ground := Ground.phase }, { on := 7, ground := Ground.phase }, { on := 8, ground := Ground.phase }, { on := 9, ground := Ground.phase }, { on := 10, ground := Ground.phase }, { on := 11, ground := Ground.phase }, { on := 12, ground := Ground.phase }, { on := 13, ground := Ground.phase }, { on := 14, ground := Ground.phase }, { on := 15, ground := Ground.phase }, { on := 16, ground := Ground.phase }, { on := 17, ground := Ground.phase }, { on := 18, ground := Ground.textOnly Departure.lateStores }, { on := 19, ground := Ground.textOnly Departure.lateStoresUnsure }, { on := 20, ground := Ground.textOnly Departure.lateStoresUnsure }, { on := 21, ground := Ground.phase }, { on := 22, ground := Ground.textOnly Departure.lateStores }, { on := 23, ground := Ground.textOnly Departure.lateStoresUnsure }, { on := 24, ground := Ground.phase }, { on := 25, ground := Ground.phase }, { on := 26, ground := Ground.phase }, { on := 27, ground := Ground.phase }], guard := none }) (v := ?_) (by kernel_rfl) (by kernel_rfl) (by decide) (by kernel_rfl) (by kernel_rfl) (by kernel_rfl) (fun _ _ _ h => h) (Or.inl ⟨by kernel_rfl, ?_⟩) (by kernel_rfl) ?_
                  rotate_left
                  · intro W hSw
                    try dsimp only at hSw
                    go_simp
                    first | done | with_reducible rfl
                  try simp only [Act.put, List.setIfInBounds_toArray, List.set_cons_zero, List.set_cons_succ]
                  refine Till.ready (rs := [30]) (by kernel_rfl) (by simp) (Comes.late (o := { dst := none, op := Op.store 30 (Operand.tmp 86) (Operand.tmp 75), type := 0, pos := "ref.go:339", after := #[{ on := 29, ground := Ground.data }, { on := 17, ground := Ground.data }, { on := 27, ground := Ground.chain }, { on := 0, ground := Ground.phase }, { on := 1, ground := Ground.phase }, { on := 2, ground := Ground.textOnly Departure.lateStores }, { on := 3, ground := Ground.phase }, { on := 4, ground := Ground.phase }, { on := 5, ground := Ground.phase }, { on := 6, ground := Ground.phase }, { on := 7, ground := Ground.phase }, { on := 8, ground := Ground.phase }, { on := 9, ground := Ground.phase }, { on := 10, ground := Ground.phase }, { on := 11, ground := Ground.phase }, { on := 12, ground := Ground.phase }, { on := 13, ground := Ground.phase }, { on := 14, ground := Ground.phase }, { on := 15, ground := Ground.phase }, { on := 16, ground := Ground.phase }, { on := 17, ground := Ground.phase }, { on := 18, ground := Ground.textOnly Departure.lateStores }, { on := 19, ground := Ground.textOnly Departure.lateStoresUnsure }, { on := 20, ground := Ground.textOnly Departure.lateStoresUnsure }, { on := 21, ground := Ground.phase }, { on := 22, ground := Ground.textOnly Departure.lateStores }, { on := 23, ground := Ground.textOnly Departure.lateStoresUnsure }, { on := 24, ground := Ground.phase }, { on := 25, ground := Ground.phase }, { on := 26, ground := Ground.phase }, { on := 27, ground := Ground.phase }], guard := none }) (by kernel_rfl) (by kernel_rfl) (fun K hK => ?_) Comes.nil)
                  obtain ⟨wv8, hw8⟩ : ∃ W, W = wv7.setCell ⟨g, 0, none⟩ (.slice Y0 ny0 cy0) := ⟨_, rfl⟩
                  rw [← hw8]
                  have HM8 := Lib.hid (HM7.out.set_ 0 (.slice Y0 ny0 cy0))
                  rw [← hw8] at HM8
                  clear hw8 f0 f1
                  have f0 : wv8.cell? ⟨g, 1, none⟩ = some x1 := by rw [HM8.out.blk.cell]; rfl
                  have f1 : wv8.frozen? ⟨g, 1, none⟩ = false := HM8.out.blk.frozen 1
                  go_simp
                  try go_wp2_with fail
                  refine hK.out _ _ ?_ (fun hHeld => ?_)
                  · try dsimp only
                    all_goals trivial
                  clear hK K
                  refine Till.late_ (s := 27) (i := 31) (d := 87) (oi := { dst := some 87, op := Op.nilCheck (Operand.tmp 60), type := 0, pos := "ref.go:339", after := #[{ on := 2, ground := Ground.data }, { on := 0, ground := Ground.phase }, { on := 1, ground := Ground.phase }, { on := 2, ground := Ground.phase }, { on := 3, ground := Ground.phase }, { on := 4, ground := Ground.phase }, { on := 5, ground := Ground.phase }, { on := 6, ground := Ground.phase }, { on := 7, ground := Ground.phase }, { on := 8, ground := Ground.phase }, { on := 9, ground := Ground.phase }, { on := 10, ground := Ground.phase }, { on := 11, ground := Ground.phase }, { on := 12, ground := Ground.phase }, { on := 13, ground := Ground.phase }, { on := 14, ground := Ground.phase }, { on := 15, ground := Ground.phase }, { on := 16, ground := Ground.phase }, { on := 17, ground := Ground.phase }, { on := 18, ground := Ground.phase }, { on := 19, ground := Ground.phase }, { on := 20, ground := Ground.phase }, { on := 21, ground := Ground.phase }, { on := 22, ground := Ground.phase }, { on := 23, ground := Ground.phase }, { on := 24, ground := Ground.phase }, { on := 25, ground := Ground.phase }, { on := 26, ground := Ground.phase }, { on := 27, ground := Ground.phase }, { on := 28, ground := Ground.phase }, { on := 29, ground := Ground.phase }, { on := 30, ground := Ground.phase }], guard := none }) (v := ?_) (by kernel_rfl) (by kernel_rfl) (by decide) (by kernel_rfl) (by kernel_rfl) (by kernel_rfl) (fun _ _ _ h => h) (Or.inl ⟨by kernel_rfl, ?_⟩) (by kernel_rfl) ?_
                  rotate_left
                  · intro W hSw
                    try dsimp only at hSw
                    go_simp
                    first | done | with_reducible rfl
                  try simp only [Act.put, List.setIfInBounds_toArray, List.set_cons_zero, List.set_cons_succ]
                  refine Till.late_ (s := 27) (i := 32) (d := 88) (oi := { dst := some 88, op := Op.fieldAddr 33 (Operand.tmp 87) 2, type := 0, pos := "ref.go:339", after := #[{ on := 31, ground := Ground.data }, { on := 0, ground := Ground.phase }, { on := 1, ground := Ground.phase }, { on := 2, ground := Ground.phase }, { on := 3, ground := Ground.phase }, { on := 4, ground := Ground.phase }, { on := 5, ground := Ground.phase }, { on := 6, ground := Ground.phase }, { on := 7, ground := Ground.phase }, { on := 8, ground := Ground.phase }, { on := 9, ground := Ground.phase }, { on := 10, ground := Ground.phase }, { on := 11, ground := Ground.phase }, { on := 12, ground := Ground.phase }, { on := 13, ground := Ground.phase }, { on := 14, ground := Ground.phase }, { on := 15, ground := Ground.phase }, { on := 16, ground := Ground.phase }, { on := 17, ground := Ground.phase }, { on := 18, ground := Ground.phase }, { on := 19, ground := Ground.phase }, { on := 20, ground := Ground.phase }, { on := 21, ground := Ground.phase }, { on := 22, ground := Ground.phase }, { on := 23, ground := Ground.phase }, { on := 24, ground := Ground.phase }, { on := 25, ground := Ground.phase }, { on := 26, ground := Ground.phase }, { on := 27, ground := Ground.phase }, { on := 28, ground := Ground.phase }, { on := 29, ground := Ground.phase }, { on := 30, ground := Ground.phase }], guard := none }) (v := ?_) (by kernel_rfl) (by kernel_rfl) (by decide) (by kernel_rfl) (by kernel_rfl) (by kernel_rfl) (fun _ _ _ h => h) (Or.inl ⟨by kernel_rfl, ?_⟩) (by kernel_rfl) ?_
                  rotate_left
                  · intro W hSw
                    try dsimp only at hSw
                    go_simp
                    first | done | with_reducible rfl
                  try simp only [Act.put, List.setIfInBounds_toArray, List.set_cons_zero, List.set_cons_succ]
                  refine Till.ready (rs := [33]) (by kernel_rfl) (by simp) (Comes.late (o := { dst := none, op := Op.store 31 (Operand.tmp 88) (Operand.tmp 82), type := 0, pos := "ref.go:339", after := #[{ on := 32, ground := Ground.data }, { on := 24, ground := Ground.data }, { on := 30, ground := Ground.chain }, { on := 0, ground := Ground.phase }, { on := 1, ground := Ground.phase }, { on := 2, ground := Ground.phase }, { on := 3, ground := Ground.phase }, { on := 4, ground := Ground.phase }, { on := 5, ground := Ground.phase }, { on := 6, ground := Ground.phase }, { on := 7, ground := Ground.phase }, { on := 8, ground := Ground.phase }, { on := 9, ground := Ground.phase }, { on := 10, ground := Ground.phase }, { on := 11, ground := Ground.phase }, { on := 12, ground := Ground.phase }, { on := 13, ground := Ground.phase }, { on := 14, ground := Ground.phase }, { on := 15, ground := Ground.phase }, { on := 16, ground := Ground.phase }, { on := 17, ground := Ground.phase }, { on := 18, ground := Ground.phase }, { on := 19, ground := Ground.phase }, { on := 20, ground := Ground.phase }, { on := 21, ground := Ground.phase }, { on := 22, ground := Ground.phase }, { on := 23, ground := Ground.phase }, { on := 24, ground := Ground.phase }, { on := 25, ground := Ground.phase }, { on := 26, ground := Ground.phase }, { on := 27, ground := Ground.phase }, { on := 28, ground := Ground.phase }, { on := 29, ground := Ground.phase }, { on := 30, ground := Ground.phase }], guard := none }) (by kernel_rfl) (by kernel_rfl) (fun K hK => ?_) Comes.nil)
                  obtain ⟨wv9, hw9⟩ : ∃ W, W = wv8.setCell ⟨g, 1, none⟩ (.slice Y1 ny1 cy1) := ⟨_, rfl⟩
                  rw [← hw9]
                  have HM9 := Lib.hid (HM8.out.set_ 1 (.slice Y1 ny1 cy1))
                  rw [← hw9] at HM9
                  clear hw9 f0 f1
                  have f0 : wv9.cell? ⟨g, 2, none⟩ = some x2 := by rw [HM9.out.blk.cell]; rfl
                  have f1 : wv9.frozen? ⟨g, 2, none⟩ = false := HM9.out.blk.frozen 2
                  go_simp
                  try go_wp2_with fail
                  refine hK.out _ _ ?_ (fun hHeld => ?_)
                  · try dsimp only
                    all_goals trivial
                  clear hK K
                  refine Till.done (by kernel_rfl) ?_ _
                  obtain ⟨wv10, hw10⟩ : ∃ W, W = wv9.setCell ⟨g, 2, none⟩ (.slice Y2 ny2 cy2) := ⟨_, rfl⟩
                  rw [← hw10]
                  have HM10 := Lib.hid (HM9.out.set_ 2 (.slice Y2 ny2 cy2))
                  rw [← hw10] at HM10
                  clear hw10 f0 f1
                  go_wp2_with fail
                  go_ret
                  obtain ⟨Z', h1, h2, h3, h4⟩ := DGo.grown HGW.out HZL.out HE.out HRR.out HM10.out
                  exact ⟨Z', by rw [HE.out]; rfl, by unfold addR; rw [if_pos HE.out]; exact h1, (Only.of_below HB.out).trans h2 (fun k hk => .inl hk), h3, fun k hk => (h4 k hk).imp_right (fun x => Nat.le_trans HB.out.size x)⟩
              · refine sbuild2 81 (by kernel_rfl) (by kernel_rfl) (.tmp 80) (by kernel_rfl) stamp (by rfl) ?_
                obtain ⟨wv3, hw3⟩ : ∃ W, W = (wv2).alloc (.cells #[.int .i64 stamp] 3) := ⟨_, rfl⟩
                rw [← hw3]
                have HM3 := Lib.hid (HM2.out.alloc (.cells #[.int .i64 stamp] 3))
                rw [← hw3] at HM3
                have HT2_3 := Lib.hid (own_one 3 (wv2) (.int .i64 stamp))
                rw [← hw3] at HT2_3
                obtain ⟨t2, ht2⟩ : ∃ t, t = Value.slice (some ⟨(wv2).heap.size, 0, none⟩) 1 1 := ⟨_, rfl⟩
                rw [← ht2] at HT2_3 ⊢
                clear hw3 ht2
                have HS3 : Hid (wv3.cell? ⟨g, 0, none⟩ = some (.slice A0 n c0) ∧ wv3.cell? ⟨g, 1, none⟩ = some x1 ∧ wv3.cell? ⟨g, 2, none⟩ = some x2) := ⟨by rw [HM3.out.blk.cell]; rfl, by rw [HM3.out.blk.cell]; rfl, by rw [HM3.out.blk.cell]; rfl⟩
                try go_wp2_with fail
                refine hK.out _ _ ?_ (fun hHeld => ?_)
                · try dsimp only
                  exact HS3.out
                clear hK K
                try simp only [Act.put, List.setIfInBounds_toArray, List.set_cons_zero, List.set_cons_succ]
                refine Till.ready (rs := [15]) (by kernel_rfl) (by simp) (Comes.cons (o := { dst := some 73, op := Op.call { callee := Callee.value (Operand.func 33), args := #[Operand.tmp 72], argTypes := #[23] }, type := 23, pos := "ref.go:339", after := #[{ on := 14, ground := Ground.data }, { on := 9, ground := Ground.chain }], guard := none }) (by kernel_rfl) (fun K hK => ?_) Comes.nil)
                go_simp
                refine (runiq_any _ ps (wv3) (HPS.out _ HM3.out.only) (by rw [HM.out]; omega)).mono ?_
                rintro e wv4 ⟨u, rfl, hu, hb⟩
                have HM4 := Lib.hid (HM3.out.more hb hu)
                have HT2_4 := Lib.hid (HT2_3.out.below hb)
                have HU1 : Hid (u.oneCell' = true) := by
                  obtain ⟨_, _, rfl, _⟩ := hu.slv
                  rfl
                have HUC : Hid (u.cells = #[u]) := by
                  obtain ⟨_, _, rfl, _⟩ := hu.slv
                  rfl
                clear hu hb
                have HS4 : Hid (wv4.cell? ⟨g, 0, none⟩ = some (.slice A0 n c0) ∧ wv4.cell? ⟨g, 1, none⟩ = some x1 ∧ wv4.cell? ⟨g, 2, none⟩ = some x2) := ⟨by rw [HM4.out.blk.cell]; rfl, by rw [HM4.out.blk.cell]; rfl, by rw [HM4.out.blk.cell]; rfl⟩
                try go_wp2_with fail
                refine hK.out _ _ ?_ (fun hHeld => ?_)
                · try dsimp only
                  exact HS4.out
                clear hK K
                try simp only [Act.put, List.setIfInBounds_toArray, List.set_cons_zero, List.set_cons_succ]
                refine Till.ready (rs := [16]) (by kernel_rfl) (by simp) (Comes.cons (o := { dst := some 74, op := Op.buildSlice 30 1 #[(0, Operand.tmp 73)], type := 30, pos := "ref.go:339", after := #[{ on := 15, ground := Ground.data }], guard := none }) (by kernel_rfl) (fun K hK => ?_) Comes.nil)
                refine sbuild1 74 (by kernel_rfl) (by kernel_rfl) (.tmp 73) (by kernel_rfl) u (by exact HUC.out) (by rfl) ?_
                obtain ⟨wv5, hw5⟩ : ∃ W, W = (wv4).alloc (.cells #[u] 23) := ⟨_, rfl⟩
                rw [← hw5]
                have HM5 := Lib.hid (HM4.out.alloc (.cells #[u] 23))
                rw [← hw5] at HM5
                have HT2_5 := Lib.hid (HT2_4.out.alloc (.cells #[u] 23))
                rw [← hw5] at HT2_5
                have HT1_5 := Lib.hid (own_one 23 (wv4) (u))
                rw [← hw5] at HT1_5
                obtain ⟨t1, ht1⟩ : ∃ t, t = Value.slice (some ⟨(wv4).heap.size, 0, none⟩) 1 1 := ⟨_, rfl⟩
                rw [← ht1] at HT1_5 ⊢
                clear hw5 ht1
                have HS5 : Hid (wv5.cell? ⟨g, 0, none⟩ = some (.slice A0 n c0) ∧ wv5.cell? ⟨g, 1, none⟩ = some x1 ∧ wv5.cell? ⟨g, 2, none⟩ = some x2) := ⟨by rw [HM5.out.blk.cell]; rfl, by rw [HM5.out.blk.cell]; rfl, by rw [HM5.out.blk.cell]; rfl⟩
                try go_wp2_with fail
                refine hK.out _ _ ?_ (fun hHeld => ?_)
                · try dsimp only
                  exact HS5.out
                clear hK K
                try simp only [Act.put, List.setIfInBounds_toArray, List.set_cons_zero, List.set_cons_succ]
                refine Till.ready (rs := [17]) (by kernel_rfl) (by simp) (Comes.cons (o := { dst := some 75, op := Op.call { callee := Callee.builtin Builtin.append, args := #[Operand.tmp 71, Operand.tmp 74], argTypes := #[30, 30] }, type := 30, pos := "ref.go:339", after := #[{ on := 13, ground := Ground.data }, { on := 16, ground := Ground.data }, { on := 15, ground := Ground.chain }], guard := none }) (by kernel_rfl) (fun K hK => ?_) Comes.nil)
                refine sapp1 75 (by kernel_rfl) (by kernel_rfl) (.tmp 71) (.tmp 74) (by kernel_rfl) HM5.out (by rfl) t1 u (by exact HU1.out) (by rfl) (by exact HT1_5.out) (by rw [List.length_map, HRL.out]; omega) ?_
                intro y1 wv6 hm hkp
                obtain ⟨Y1, ny1, cy1, hy⟩ : ∃ A n c, y1 = .slice A n c := by obtain ⟨A, c, e, _⟩ := hm.o1.slv; exact ⟨A, _, c, e⟩
                subst hy
                have HM6 := Lib.hid hm
                have HT2_6 := Lib.hid (hkp _ _ _ (by decide) HT2_5.out)
                clear hm hkp
                have HS6 : Hid (wv6.cell? ⟨g, 0, none⟩ = some (.slice A0 n c0) ∧ wv6.cell? ⟨g, 1, none⟩ = some x1 ∧ wv6.cell? ⟨g, 2, none⟩ = some x2) := ⟨by rw [HM6.out.blk.cell]; rfl, by rw [HM6.out.blk.cell]; rfl, by rw [HM6.out.blk.cell]; rfl⟩
                try go_wp2_with fail
                refine hK.out _ _ ?_ (fun hHeld => ?_)
                · try dsimp only
                  exact HS6.out
                clear hK K
                try simp only [Act.put, List.setIfInBounds_toArray, List.set_cons_zero, List.set_cons_succ]
                refine Till.ready (rs := [24]) (by kernel_rfl) (by simp) (Comes.cons (o := { dst := some 82, op := Op.call { callee := Callee.builtin Builtin.append, args := #[Operand.tmp 79, Operand.tmp 81], argTypes := #[31, 31] }, type := 31, pos := "ref.go:339", after := #[{ on := 21, ground := Ground.data }, { on := 23, ground := Ground.data }, { on := 17, ground := Ground.chain }], guard := none }) (by kernel_rfl) (fun K hK => ?_) Comes.nil)
                refine sapp2 82 (by kernel_rfl) (by kernel_rfl) (.tmp 79) (.tmp 81) (by kernel_rfl) HM6.out (by rfl) t2 stamp (by rfl) (by exact HT2_6.out) (by rw [List.length_map, HN.out]; omega) ?_
                intro y2 wv7 hm hkp
                obtain ⟨Y2, ny2, cy2, hy⟩ : ∃ A n c, y2 = .slice A n c := by obtain ⟨A, c, e, _⟩ := hm.o2.slv; exact ⟨A, _, c, e⟩
                subst hy
                have HM7 := Lib.hid hm
                clear hm hkp
                have HS7 : Hid (wv7.cell? ⟨g, 0, none⟩ = some (.slice A0 n c0) ∧ wv7.cell? ⟨g, 1, none⟩ = some x1 ∧ wv7.cell? ⟨g, 2, none⟩ = some x2) := ⟨by rw [HM7.out.blk.cell]; rfl, by rw [HM7.out.blk.cell]; rfl, by rw [HM7.out.blk.cell]; rfl⟩
                try go_wp2_with fail
                refine hK.out _ _ ?_ (fun hHeld => ?_)
                · try dsimp only
                  exact HS7.out
                clear hK K
                try simp only [Act.put, List.setIfInBounds_toArray, List.set_cons_zero, List.set_cons_succ]
                refine Till.pure_ (s := 27) (i := 25) (d := 83) (oi := { dst := some 83, op := Op.nilCheck (Operand.tmp 58), type := 0, pos := "ref.go:339", after := #[{ on := 0, ground := Ground.data }, { on := 0, ground := Ground.phase }, { on := 1, ground := Ground.textOnly Departure.lateStores }, { on := 2, ground := Ground.textOnly Departure.lateStores }, { on := 3, ground := Ground.phase }, { on := 4, ground := Ground.phase }, { on := 5, ground := Ground.phase }, { on := 6, ground := Ground.phase }, { on := 7, ground := Ground.phase }, { on := 8, ground := Ground.phase }, { on := 9, ground := Ground.phase }, { on := 10, ground := Ground.textOnly Departure.lateStores }, { on := 11, ground := Ground.textOnly Departure.lateStoresUnsure }, { on := 12, ground := Ground.textOnly Departure.lateStoresUnsure }, { on := 13, ground := Ground.phase }, { on := 14, ground := Ground.textOnly Departure.lateStores }, { on := 15, ground := Ground.phase }, { on := 16, ground := Ground.textOnly Departure.lateStoresUnsure }, { on := 17, ground := Ground.phase }, { on := 18, ground := Ground.textOnly Departure.lateStores }, { on := 19, ground := Ground.textOnly Departure.lateStoresUnsure }, { on := 20, ground := Ground.textOnly Departure.lateStoresUnsure }, { on := 21, ground := Ground.phase }, { on := 22, ground := Ground.textOnly Departure.lateStores }, { on := 23, ground := Ground.textOnly Departure.lateStoresUnsure }, { on := 24, ground := Ground.phase }], guard := none }) (v := ?_) (by kernel_rfl) (by kernel_rfl) (by decide) (by kernel_rfl) (by kernel_rfl) (by kernel_rfl) (fun _ _ _ h => h) (Or.inl ⟨by kernel_rfl, ?_⟩) (fun _ => by assumption) ?_
                rotate_left
                · intro W hSw
                  try dsimp only at hSw
                  go_simp
                  first | done | with_reducible rfl
                try simp only [Act.put, List.setIfInBounds_toArray, List.set_cons_zero, List.set_cons_succ]
                refine Till.pure_ (s := 27) (i := 26) (d := 84) (oi := { dst := some 84, op := Op.fieldAddr 33 (Operand.tmp 83) 0, type := 0, pos := "ref.go:339", after := #[{ on := 25, ground := Ground.data }, { on := 0, ground := Ground.phase }, { on := 1, ground := Ground.textOnly Departure.lateStores }, { on := 2, ground := Ground.textOnly Departure.lateStores }, { on := 3, ground := Ground.phase }, { on := 4, ground := Ground.phase }, { on := 5, ground := Ground.phase }, { on := 6, ground := Ground.phase }, { on := 7, ground := Ground.phase }, { on := 8, ground := Ground.phase }, { on := 9, ground := Ground.phase }, { on := 10, ground := Ground.textOnly Departure.lateStores }, { on := 11, ground := Ground.textOnly Departure.lateStoresUnsure }, { on := 12, ground := Ground.textOnly Departure.lateStoresUnsure }, { on := 13, ground := Ground.phase }, { on := 14, ground := Ground.textOnly Departure.lateStores }, { on := 15, ground := Ground.phase }, { on := 16, ground := Ground.textOnly Departure.lateStoresUnsure }, { on := 17, ground := Ground.phase }, { on := 18, ground := Ground.textOnly Departure.lateStores }, { on := 19, ground := Ground.textOnly Departure.lateStoresUnsure }, { on := 20, ground := Ground.textOnly Departure.lateStoresUnsure }, { on := 21, ground := Ground.phase }, { on := 22, ground := Ground.textOnly Departure.lateStores }, { on := 23, ground := Ground.textOnly Departure.lateStoresUnsure }, { on := 24, ground := Ground.phase }], guard := none }) (v := ?_) (by kernel_rfl) (by kernel_rfl) (by decide) (by kernel_rfl) (by kernel_rfl) (by kernel_rfl) (fun _ _ _ h => h) (Or.inl ⟨by kernel_rfl, ?_⟩) (fun _ => by assumption) ?_
                rotate_left
                · intro W hSw
                  try dsimp only at hSw
                  go_simp
                  first | done | with_reducible rfl
                try simp only [Act.put, List.setIfInBounds_toArray, List.set_cons_zero, List.set_cons_succ]
                refine Till.ready (rs := [27]) (by kernel_rfl) (by simp) (Comes.late (o := { dst := none, op := Op.store 23 (Operand.tmp 84) (Operand.tmp 67), type := 0, pos := "ref.go:339", after := #[{ on := 26, ground := Ground.data }, { on := 9, ground := Ground.data }, { on := 24, ground := Ground.chain }, { on := 0, ground := Ground.phase }, { on := 1, ground := Ground.textOnly Departure.lateStores }, { on := 2, ground := Ground.textOnly Departure.lateStores }, { on := 3, ground := Ground.phase }, { on := 4, ground := Ground.phase }, { on := 5, ground := Ground.phase }, { on := 6, ground := Ground.phase }, { on := 7, ground := Ground.phase }, { on := 8, ground := Ground.phase }, { on := 9, ground := Ground.phase }, { on := 10, ground := Ground.textOnly Departure.lateStores }, { on := 11, ground := Ground.textOnly Departure.lateStoresUnsure }, { on := 12, ground := Ground.textOnly Departure.lateStoresUnsure }, { on := 13, ground := Ground.phase }, { on := 14, ground := Ground.textOnly Departure.lateStores }, { on := 15, ground := Ground.phase }, { on := 16, ground := Ground.textOnly Departure.lateStoresUnsure }, { on := 17, ground := Ground.phase }, { on := 18, ground := Ground.textOnly Departure.lateStores }, { on := 19, ground := Ground.textOnly Departure.lateStoresUnsure }, { on := 20, ground := Ground.textOnly Departure.lateStoresUnsure }, { on := 21, ground := Ground.phase }, { on := 22, ground := Ground.textOnly Departure.lateStores }, { on := 23, ground := Ground.textOnly Departure.lateStoresUnsure }, { on := 24, ground := Ground.phase }], guard := none }) (by kernel_rfl) (by kernel_rfl) (fun K hK => ?_) Comes.nil)
                have f0 : wv7.cell? ⟨g, 0, none⟩ = some (.slice A0 n c0) := by rw [HM7.out.blk.cell]; rfl
                have f1 : wv7.frozen? ⟨g, 0, none⟩ = false := HM7.out.blk.frozen 0
                go_simp
                try go_wp2_with fail
                refine hK.out _ _ ?_ (fun hHeld => ?_)
                · try dsimp only
                  all_goals trivial
                clear hK K
                refine Till.late_ (s := 27) (i := 28) (d := 85) (oi := { dst := some 85, op := Op.nilCheck (Operand.tmp 59), type := 0, pos := "ref.go:339", after := #[{ on := 1, ground := Ground.data }, { on := 0, ground := Ground.phase }, { on := 1, ground := Ground.phase }, { on := 2, ground := Ground.textOnly Departure.lateStores }, { on := 3, ground := Ground.phase }, { on := 4, ground := Ground.phase }, { on := 5, ground := Ground.phase }, { on := 6, ground := Ground.phase }, { on := 7, ground := Ground.phase }, { on := 8, ground := Ground.phase }, { on := 9, ground := Ground.phase }, { on := 10, ground := Ground.phase }, { on := 11, ground := Ground.phase }, { on := 12, ground := Ground.phase }, { on := 13, ground := Ground.phase }, { on := 14, ground := Ground.phase }, { on := 15, ground := Ground.phase }, { on := 16, ground := Ground.phase }, { on := 17, ground := Ground.phase }, { on := 18, ground := Ground.textOnly Departure.lateStores }, { on := 19, ground := Ground.textOnly Departure.lateStoresUnsure }, { on := 20, ground := Ground.textOnly Departure.lateStoresUnsure }, { on := 21, ground := Ground.phase }, { on := 22, ground := Ground.textOnly Departure.lateStores }, { on := 23, ground := Ground.textOnly Departure.lateStoresUnsure }, { on := 24, ground := Ground.phase }, { on := 25, ground := Ground.phase }, { on := 26, ground := Ground.phase }, { on := 27, ground := Ground.phase }], guard := none }) (v := ?_) (by kernel_rfl) (by kernel_rfl) (by decide) (by kernel_rfl) (by kernel_rfl) (by kernel_rfl) (fun _ _ _ h => h) (Or.inl ⟨by kernel_rfl, ?_⟩) (by kernel_rfl) ?_
                rotate_left
                · intro W hSw
                  try dsimp only at hSw
                  go_simp
                  first | done | with_reducible rfl
                try simp only [Act.put, List.setIfInBounds_toArray, List.set_cons_zero, List.set_cons_succ]
                refine Till.late_ (s := 27) (i := 29) (d := 86) (oi := { dst := some 86, op := Op.fieldAddr 33 (Operand.tmp 85) 1, type := 0, pos := "ref.go:339", after := #[{ on := 28, ground := Ground.data }, { on := 0, ground := Ground.phase }, { on := 1, ground := Ground.phase }, { on := 2, ground := Ground.textOnly Departure.lateStores }, { on := 3, ground := Ground.phase }, { on := 4, ground := Ground.phase }, { on := 5, ground := Ground.phase }, { on := 6, ground := Ground.phase }, { on := 7, ground := Ground.phase }, { on := 8, ground := Ground.phase }, { on := 9, ground := Ground.phase }, { on := 10, ground := Ground.phase }, { on := 11, ground := Ground.phase }, { on := 12, ground := Ground.phase }, { on := 13, ground := Ground.phase }, { on := 14, ground := Ground.phase }, { on := 15, ground := Ground.phase }, { on := 16, ground := Ground.phase }, { on := 17, ground := Ground.phase }, { on := 18, ground := Ground.textOnly Departure.lateStores }, { on := 19, ground := Ground.textOnly Departure.lateStoresUnsure }, { on := 20, ground := Ground.textOnly Departure.lateStoresUnsure }, { on := 21, ground := Ground.phase }, { on := 22, ground := Ground.textOnly Departure.lateStores }, { on := 23, ground := Ground.textOnly Departure.lateStoresUnsure }, { on := 24, ground := Ground.phase }, { on := 25, ground := Ground.phase }, { on := 26, ground := Ground.phase }, { on := 27, ground := Ground.phase }], guard := none }) (v := ?_) (by kernel_rfl) (by kernel_rfl) (by decide) (by kernel_rfl) (by kernel_rfl) (by kernel_rfl) (fun _ _ _ h => h) (Or.inl ⟨by kernel_rfl, ?_⟩) (by kernel_rfl) ?_
                rotate_left
                · intro W hSw
                  try dsimp only at hSw
                  go_simp
                  first | done | with_reducible rfl
                try simp only [Act.put, List.setIfInBounds_toArray, List.set_cons_zero, List.set_cons_succ]
                refine Till.ready (rs := [30]) (by kernel_rfl) (by simp) (Comes.late (o := { dst := none, op := Op.store 30 (Operand.tmp 86) (Operand.tmp 75), type := 0, pos := "ref.go:339", after := #[{ on := 29, ground := Ground.data }, { on := 17, ground := Ground.data }, { on := 27, ground := Ground.chain }, { on := 0, ground := Ground.phase }, { on := 1, ground := Ground.phase }, { on := 2, ground := Ground.textOnly Departure.lateStores }, { on := 3, ground := Ground.phase }, { on := 4, ground := Ground.phase }, { on := 5, ground := Ground.phase }, { on := 6, ground := Ground.phase }, { on := 7, ground := Ground.phase }, { on := 8, ground := Ground.phase }, { on := 9, ground := Ground.phase }, { on := 10, ground := Ground.phase }, { on := 11, ground := Ground.phase }, { on := 12, ground := Ground.phase }, { on := 13, ground := Ground.phase }, { on := 14, ground := Ground.phase }, { on := 15, ground := Ground.phase }, { on := 16, ground := Ground.phase }, { on := 17, ground := Ground.phase }, { on := 18, ground := Ground.textOnly Departure.lateStores }, { on := 19, ground := Ground.textOnly Departure.lateStoresUnsure }, { on := 20, ground := Ground.textOnly Departure.lateStoresUnsure }, { on := 21, ground := Ground.phase }, { on := 22, ground := Ground.textOnly Departure.lateStores }, { on := 23, ground := Ground.textOnly Departure.lateStoresUnsure }, { on := 24, ground := Ground.phase }, { on := 25, ground := Ground.phase }, { on := 26, ground := Ground.phase }, { on := 27, ground := Ground.phase }], guard := none }) (by kernel_rfl) (by kernel_rfl) (fun K hK => ?_) Comes.nil)
                obtain ⟨wv8, hw8⟩ : ∃ W, W = wv7.setCell ⟨g, 0, none⟩ (.slice Y0 ny0 cy0) := ⟨_, rfl⟩
                rw [← hw8]
                have HM8 := Lib.hid (HM7.out.set_ 0 (.slice Y0 ny0 cy0))
                rw [← hw8] at HM8
                clear hw8 f0 f1
                have f0 : wv8.cell? ⟨g, 1, none⟩ = some x1 := by rw [HM8.out.blk.cell]; rfl
                have f1 : wv8.frozen? ⟨g, 1, none⟩ = false := HM8.out.blk.frozen 1
                go_simp
                try go_wp2_with fail
                refine hK.out _ _ ?_ (fun hHeld => ?_)
                · try dsimp only
                  all_goals trivial
                clear hK K
                refine Till.late_ (s := 27) (i := 31) (d := 87) (oi := { dst := some 87, op := Op.nilCheck (Operand.tmp 60), type := 0, pos := "ref.go:339", after := #[{ on := 2, ground := Ground.data }, { on := 0, ground := Ground.phase }, { on := 1, ground := Ground.phase }, { on := 2, ground := Ground.phase }, { on := 3, ground := Ground.phase }, { on := 4, ground := Ground.phase }, { on := 5, ground := Ground.phase }, { on := 6, ground := Ground.phase }, { on := 7, ground := Ground.phase }, { on := 8, ground := Ground.phase }, { on := 9, ground := Ground.phase }, { on := 10, ground := Ground.phase }, { on := 11, ground := Ground.phase }, { on := 12, ground := Ground.phase }, { on := 13, ground := Ground.phase }, { on := 14, ground := Ground.phase }, { on := 15, ground := Ground.phase }, { on := 16, ground := Ground.phase }, { on := 17, ground := Ground.phase }, { on := 18, ground := Ground.phase }, { on := 19, ground := Ground.phase }, { on := 20, ground := Ground.phase }, { on := 21, ground := Ground.phase }, { on := 22, ground := Ground.phase }, { on := 23, ground := Ground.phase }, { on := 24, ground := Ground.phase }, { on := 25, ground := Ground.phase }, { on := 26, ground := Ground.phase }, { on := 27, ground := Ground.phase }, { on := 28, ground := Ground.phase }, { on := 29, ground := Ground.phase }, { on := 30, ground := Ground.phase }], guard := none }) (v := ?_) (by kernel_rfl) (by kernel_rfl) (by decide) (by kernel_rfl) (by kernel_rfl) (by kernel_rfl) (fun _ _ _ h => h) (Or.inl ⟨by kernel_rfl, ?_⟩) (by kernel_rfl) ?_
                rotate_left
                · intro W hSw
                  try dsimp only at hSw
                  go_simp
                  first | done | with_reducible rfl
                try simp only [Act.put, List.setIfInBounds_toArray, List.set_cons_zero, List.set_cons_succ]
                refine Till.late_ (s := 27) (i := 32) (d := 88) (oi := { dst := some 88, op := Op.fieldAddr 33 (Operand.tmp 87) 2, type := 0, pos := "ref.go:339", after := #[{ on := 31, ground := Ground.data }, { on := 0, ground := Ground.phase }, { on := 1, ground := Ground.phase }, { on := 2, ground := Ground.phase }, { on := 3, ground := Ground.phase }, { on := 4, ground := Ground.phase }, { on := 5, ground := Ground.phase }, { on := 6, ground := Ground.phase }, { on := 7, ground := Ground.phase }, { on := 8, ground := Ground.phase }, { on := 9, ground := Ground.phase }, { on := 10, ground := Ground.phase }, { on := 11, ground := Ground.phase }, { on := 12, ground := Ground.phase }, { on := 13, ground := Ground.phase }, { on := 14, ground := Ground.phase }, { on := 15, ground := Ground.phase }, { on := 16, ground := Ground.phase }, { on := 17, ground := Ground.phase }, { on := 18, ground := Ground.phase }, { on := 19, ground := Ground.phase }, { on := 20, ground := Ground.phase }, { on := 21, ground := Ground.phase }, { on := 22, ground := Ground.phase }, { on := 23, ground := Ground.phase }, { on := 24, ground := Ground.phase }, { on := 25, ground := Ground.phase }, { on := 26, ground := Ground.phase }, { on := 27, ground := Ground.phase }, { on := 28, ground := Ground.phase }, { on := 29, ground := Ground.phase }, { on := 30, ground := Ground.phase }], guard := none }) (v := ?_) (by kernel_rfl) (by kernel_rfl) (by decide) (by kernel_rfl) (by kernel_rfl) (by kernel_rfl) (fun _ _ _ h => h) (Or.inl ⟨by kernel_rfl, ?_⟩) (by kernel_rfl) ?_
                rotate_left
                · intro W hSw
                  try dsimp only at hSw
                  go_simp
                  first | done | with_reducible rfl
                try simp only [Act.put, List.setIfInBounds_toArray, List.set_cons_zero, List.set_cons_succ]
                refine Till.ready (rs := [33]) (by kernel_rfl) (by simp) (Comes.late (o := { dst := none, op := Op.store 31 (Operand.tmp 88) (Operand.tmp 82), type := 0, pos := "ref.go:339", after := #[{ on := 32, ground := Ground.data }, { on := 24, ground := Ground.data }, { on := 30, ground := Ground.chain }, { on := 0, ground := Ground.phase }, { on := 1, ground := Ground.phase }, { on := 2, ground := Ground.phase }, { on := 3, ground := Ground.phase }, { on := 4, ground := Ground.phase }, { on := 5, ground := Ground.phase }, { on := 6, ground := Ground.phase }, { on := 7, ground := Ground.phase }, { on := 8, ground := Ground.phase }, { on := 9, ground := Ground.phase }, { on := 10, ground := Ground.phase }, { on := 11, ground := Ground.phase }, { on := 12, ground := Ground.phase }, { on := 13, ground := Ground.phase }, { on := 14, ground := Ground.phase }, { on := 15, ground := Ground.phase }, { on := 16, ground := Ground.phase }, { on := 17, ground := Ground.phase }, { on := 18, ground := Ground.phase }, { on := 19, ground := Ground.phase }, { on := 20, ground := Ground.phase }, { on := 21, ground := Ground.phase }, { on := 22, ground := Ground.phase }, { on := 23, ground := Ground.phase }, { on := 24, ground := Ground.phase }, { on := 25, ground := Ground.phase }, { on := 26, ground := Ground.phase }, { on := 27, ground := Ground.phase }, { on := 28, ground := Ground.phase }, { on := 29, ground := Ground.phase }, { on := 30, ground := Ground.phase }], guard := none }) (by kernel_rfl) (by kernel_rfl) (fun K hK => ?_) Comes.nil)
                obtain ⟨wv9, hw9⟩ : ∃ W, W = wv8.setCell ⟨g, 1, none⟩ (.slice Y1 ny1 cy1) := ⟨_, rfl⟩
                rw [← hw9]
                have HM9 := Lib.hid (HM8.out.set_ 1 (.slice Y1 ny1 cy1))
                rw [← hw9] at HM9
                clear hw9 f0 f1
                have f0 : wv9.cell? ⟨g, 2, none⟩ = some x2 := by rw [HM9.out.blk.cell]; rfl
                have f1 : wv9.frozen? ⟨g, 2, none⟩ = false := HM9.out.blk.frozen 2
                go_simp
                try go_wp2_with fail
                refine hK.out _ _ ?_ (fun hHeld => ?_)
                · try dsimp only
                  all_goals trivial
                clear hK K
                refine Till.done (by kernel_rfl) ?_ _
                obtain ⟨wv10, hw10⟩ : ∃ W, W = wv9.setCell ⟨g, 2, none⟩ (.slice Y2 ny2 cy2) := ⟨_, rfl⟩
                rw [← hw10]
                have HM10 := Lib.hid (HM9.out.set_ 2 (.slice Y2 ny2 cy2))
                rw [← hw10] at HM10
                clear hw10 f0 f1
                go_wp2_with fail
                go_ret
                obtain ⟨Z', h1, h2, h3, h4⟩ := DGo.grown HGW.out HZL.out HE.out HRR.out HM10.out
                exact ⟨Z', by rw [HE.out]; rfl, by unfold addR; rw [if_pos HE.out]; exact h1, (Only.of_below HB.out).trans h2 (fun k hk => .inl hk), h3, fun k hk => (h4 k hk).imp_right (fun x => Nat.le_trans HB.out.size x)⟩
            · refine sbuild2 81 (by kernel_rfl) (by kernel_rfl) (.tmp 80) (by kernel_rfl) stamp (by rfl) ?_
              obtain ⟨wv2, hw2⟩ : ∃ W, W = (wv1).alloc (.cells #[.int .i64 stamp] 3) := ⟨_, rfl⟩
              rw [← hw2]
              have HM2 := Lib.hid (HM1.out.alloc (.cells #[.int .i64 stamp] 3))
              rw [← hw2] at HM2
              have HT0_2 := Lib.hid (HT0_1.out.alloc (.cells #[.int .i64 stamp] 3))
              rw [← hw2] at HT0_2
              have HT2_2 := Lib.hid (own_one 3 (wv1) (.int .i64 stamp))
              rw [← hw2] at HT2_2
              obtain ⟨t2, ht2⟩ : ∃ t, t = Value.slice (some ⟨(wv1).heap.size, 0, none⟩) 1 1 := ⟨_, rfl⟩
              rw [← ht2] at HT2_2 ⊢
              clear hw2 ht2
              have HS2 : Hid (wv2.cell? ⟨g, 0, none⟩ = some (.slice A0 n c0) ∧ wv2.cell? ⟨g, 1, none⟩ = some x1 ∧ wv2.cell? ⟨g, 2, none⟩ = some x2) := ⟨by rw [HM2.out.blk.cell]; rfl, by rw [HM2.out.blk.cell]; rfl, by rw [HM2.out.blk.cell]; rfl⟩
              try go_wp2_with fail
              refine hK.out _ _ ?_ (fun hHeld => ?_)
              · try dsimp only
                exact HS2.out
              clear hK K
              try simp only [Act.put, List.setIfInBounds_toArray, List.set_cons_zero, List.set_cons_succ]
              refine Till.ready (rs := [9]) (by kernel_rfl) (by simp) (Comes.cons (o := { dst := some 67, op := Op.call { callee := Callee.builtin Builtin.append, args := #[Operand.tmp 64, Operand.tmp 66], argTypes := #[23, 23] }, type := 23, pos := "ref.go:339", after := #[{ on := 6, ground := Ground.data }, { on := 8, ground := Ground.data }], guard := none }) (by kernel_rfl) (fun K hK => ?_) Comes.nil)
              refine sapp0 67 (by kernel_rfl) (by kernel_rfl) (.tmp 64) (.tmp 66) (by kernel_rfl) HM2.out (by rfl) t0 id (by rfl) (by exact HT0_2.out) (by rw [List.length_map, HN.out]; omega) ?_
              intro y0 wv3 hm hkp
              obtain ⟨Y0, ny0, cy0, hy⟩ : ∃ A n c, y0 = .slice A n c := by obtain ⟨A, c, e, _⟩ := hm.o0.slv; exact ⟨A, _, c, e⟩
              subst hy
              have HM3 := Lib.hid hm
              have HT2_3 := Lib.hid (hkp _ _ _ (by decide) HT2_2.out)
              clear hm hkp
              have HS3 : Hid (wv3.cell? ⟨g, 0, none⟩ = some (.slice A0 n c0) ∧ wv3.cell? ⟨g, 1, none⟩ = some x1 ∧ wv3.cell? ⟨g, 2, none⟩ = some x2) := ⟨by rw [HM3.out.blk.cell]; rfl, by rw [HM3.out.blk.cell]; rfl, by rw [HM3.out.blk.cell]; rfl⟩
              try go_wp2_with fail
              refine hK.out _ _ ?_ (fun hHeld => ?_)
              · try dsimp only
                exact HS3.out
              clear hK K
              try simp only [Act.put, List.setIfInBounds_toArray, List.set_cons_zero, List.set_cons_succ]
              refine Till.ready (rs := [15]) (by kernel_rfl) (by simp) (Comes.cons (o := { dst := some 73, op := Op.call { callee := Callee.value (Operand.func 33), args := #[Operand.tmp 72], argTypes := #[23] }, type := 23, pos := "ref.go:339", after := #[{ on := 14, ground := Ground.data }, { on := 9, ground := Ground.chain }], guard := none }) (by kernel_rfl) (fun K hK => ?_) Comes.nil)
              go_simp
              refine (runiq_any _ ps (wv3) (HPS.out _ HM3.out.only) (by rw [HM.out]; omega)).mono ?_
              rintro e wv4 ⟨u, rfl, hu, hb⟩
              have HM4 := Lib.hid (HM3.out.more hb hu)
              have HT2_4 := Lib.hid (HT2_3.out.below hb)
              have HU1 : Hid (u.oneCell' = true) := by
                obtain ⟨_, _, rfl, _⟩ := hu.slv
                rfl
              have HUC : Hid (u.cells = #[u]) := by
                obtain ⟨_, _, rfl, _⟩ := hu.slv
                rfl
              clear hu hb
              have HS4 : Hid (wv4.cell? ⟨g, 0, none⟩ = some (.slice A0 n c0) ∧ wv4.cell? ⟨g, 1, none⟩ = some x1 ∧ wv4.cell? ⟨g, 2, none⟩ = some x2) := ⟨by rw [HM4.out.blk.cell]; rfl, by rw [HM4.out.blk.cell]; rfl, by rw [HM4.out.blk.cell]; rfl⟩
              try go_wp2_with fail
              refine hK.out _ _ ?_ (fun hHeld => ?_)
              · try dsimp only
                exact HS4.out
              clear hK K
              try simp only [Act.put, List.setIfInBounds_toArray, List.set_cons_zero, List.set_cons_succ]
              refine Till.ready (rs := [16]) (by kernel_rfl) (by simp) (Comes.cons (o := { dst := some 74, op := Op.buildSlice 30 1 #[(0, Operand.tmp 73)], type := 30, pos := "ref.go:339", after := #[{ on := 15, ground := Ground.data }], guard := none }) (by kernel_rfl) (fun K hK => ?_) Comes.nil)
              refine sbuild1 74 (by kernel_rfl) (by kernel_rfl) (.tmp 73) (by kernel_rfl) u (by exact HUC.out) (by rfl) ?_
              obtain ⟨wv5, hw5⟩ : ∃ W, W = (wv4).alloc (.cells #[u] 23) := ⟨_, rfl⟩
              rw [← hw5]
              have HM5 := Lib.hid (HM4.out.alloc (.cells #[u] 23))
              rw [← hw5] at HM5
              have HT2_5 := Lib.hid (HT2_4.out.alloc (.cells #[u] 23))
              rw [← hw5] at HT2_5
              have HT1_5 := Lib.hid (own_one 23 (wv4) (u))
              rw [← hw5] at HT1_5
              obtain ⟨t1, ht1⟩ : ∃ t, t = Value.slice (some ⟨(wv4).heap.size, 0, none⟩) 1 1 := ⟨_, rfl⟩
              rw [← ht1] at HT1_5 ⊢
              clear hw5 ht1
              have HS5 : Hid (wv5.cell? ⟨g, 0, none⟩ = some (.slice A0 n c0) ∧ wv5.cell? ⟨g, 1, none⟩ = some x1 ∧ wv5.cell? ⟨g, 2, none⟩ = some x2) := ⟨by rw [HM5.out.blk.cell]; rfl, by rw [HM5.out.blk.cell]; rfl, by rw [HM5.out.blk.cell]; rfl⟩
              try go_wp2_with fail
              refine hK.out _ _ ?_ (fun hHeld => ?_)
              · try dsimp only
                exact HS5.out
              clear hK K
              try simp only [Act.put, List.setIfInBounds_toArray, List.set_cons_zero, List.set_cons_succ]
              refine Till.ready (rs := [17]) (by kernel_rfl) (by simp) (Comes.cons (o := { dst := some 75, op := Op.call { callee := Callee.builtin Builtin.append, args := #[Operand.tmp 71, Operand.tmp 74], argTypes := #[30, 30] }, type := 30, pos := "ref.go:339", after := #[{ on := 13, ground := Ground.data }, { on := 16, ground := Ground.data }, { on := 15, ground := Ground.chain }], guard := none }) (by kernel_rfl) (fun K hK => ?_) Comes.nil)
              refine sapp1 75 (by kernel_rfl) (by kernel_rfl) (.tmp 71) (.tmp 74) (by kernel_rfl) HM5.out (by rfl) t1 u (by exact HU1.out) (by rfl) (by exact HT1_5.out) (by rw [List.length_map, HRL.out]; omega) ?_
              intro y1 wv6 hm hkp
              obtain ⟨Y1, ny1, cy1, hy⟩ : ∃ A n c, y1 = .slice A n c := by obtain ⟨A, c, e, _⟩ := hm.o1.slv; exact ⟨A, _, c, e⟩
              subst hy
              have HM6 := Lib.hid hm
              have HT2_6 := Lib.hid (hkp _ _ _ (by decide) HT2_5.out)
              clear hm hkp
              have HS6 : Hid (wv6.cell? ⟨g, 0, none⟩ = some (.slice A0 n c0) ∧ wv6.cell? ⟨g, 1, none⟩ = some x1 ∧ wv6.cell? ⟨g, 2, none⟩ = some x2) := ⟨by rw [HM6.out.blk.cell]; rfl, by rw [HM6.out.blk.cell]; rfl, by rw [HM6.out.blk.cell]; rfl⟩
              try go_wp2_with fail
              refine hK.out _ _ ?_ (fun hHeld => ?_)
              · try dsimp only
                exact HS6.out
              clear hK K
              try simp only [Act.put, List.setIfInBounds_toArray, List.set_cons_zero, List.set_cons_succ]
              refine Till.ready (rs := [24]) (by kernel_rfl) (by simp) (Comes.cons (o := { dst := some 82, op := Op.call { callee := Callee.builtin Builtin.append, args := #[Operand.tmp 79, Operand.tmp 81], argTypes := #[31, 31] }, type := 31, pos := "ref.go:339", after := #[{ on := 21, ground := Ground.data }, { on := 23, ground := Ground.data }, { on := 17, ground := Ground.chain }], guard := none }) (by kernel_rfl) (fun K hK => ?_) Comes.nil)
              refine sapp2 82 (by kernel_rfl) (by kernel_rfl) (.tmp 79) (.tmp 81) (by kernel_rfl) HM6.out (by rfl) t2 stamp (by rfl) (by exact HT2_6.out) (by rw [List.length_map, HN.out]; omega) ?_
              intro y2 wv7 hm hkp
              obtain ⟨Y2, ny2, cy2, hy⟩ : ∃ A n c, y2 = .slice A n c := by obtain ⟨A, c, e, _⟩ := hm.o2.slv; exact ⟨A, _, c, e⟩
              subst hy
              have HM7 := Lib.hid hm
              clear hm hkp
              have HS7 : Hid (wv7.cell? ⟨g, 0, none⟩ = some (.slice A0 n c0) ∧ wv7.cell? ⟨g, 1, none⟩ = some x1 ∧ wv7.cell? ⟨g, 2, none⟩ = some x2) := ⟨by rw [HM7.out.blk.cell]; rfl, by rw [HM7.out.blk.cell]; rfl, by rw [HM7.out.blk.cell]; rfl⟩
              try go_wp2_with fail
              refine hK.out _ _ ?_ (fun hHeld => ?_)
              · try dsimp only
                exact HS7.out
              clear hK K
              try simp only [Act.put, List.setIfInBounds_toArray, List.set_cons_zero, List.set_cons_succ]
              refine Till.pure_ (s := 27) (i := 25) (d := 83) (oi := { dst := some 83, op := Op.nilCheck (Operand.tmp 58), type := 0, pos := "ref.go:339", after := #[{ on := 0, ground := Ground.data }, { on := 0, ground := Ground.phase }, { on := 1, ground := Ground.textOnly Departure.lateStores }, { on := 2, ground := Ground.textOnly Departure.lateStores }, { on := 3, ground := Ground.phase }, { on := 4, ground := Ground.phase }, { on := 5, ground := Ground.phase }, { on := 6, ground := Ground.phase }, { on := 7, ground := Ground.phase }, { on := 8, ground := Ground.phase }, { on := 9, ground := Ground.phase }, { on := 10, ground := Ground.textOnly Departure.lateStores }, { on := 11, ground := Ground.textOnly Departure.lateStoresUnsure }, { on := 12, ground := Ground.textOnly Departure.lateStoresUnsure }, { on := 13, ground := Ground.phase }, { on := 14, ground := Ground.textOnly Departure.lateStores }, { on := 15, ground := Ground.phase }, { on := 16, ground := Ground.textOnly Departure.lateStoresUnsure }, { on := 17, ground := Ground.phase }, { on := 18, ground := Ground.textOnly Departure.lateStores }, { on := 19, ground := Ground.textOnly Departure.lateStoresUnsure }, { on := 20, ground := Ground.textOnly Departure.lateStoresUnsure }, { on := 21, ground := Ground.phase }, { on := 22, ground := Ground.textOnly Departure.lateStores }, { on := 23, ground := Ground.textOnly Departure.lateStoresUnsure }, { on := 24, ground := Ground.phase }], guard := none }) (v := ?_) (by kernel_rfl) (by kernel_rfl) (by decide) (by kernel_rfl) (by kernel_rfl) (by kernel_rfl) (fun _ _ _ h => h) (Or.inl ⟨by kernel_rfl, ?_⟩) (fun _ => by assumption) ?_
              rotate_left
              · intro W hSw
                try dsimp only at hSw
                go_simp
                first | done | with_reducible rfl
              try simp only [Act.put, List.setIfInBounds_toArray, List.set_cons_zero, List.set_cons_succ]
              refine Till.pure_ (s := 27) (i := 26) (d := 84) (oi := { dst := some 84, op := Op.fieldAddr 33 (Operand.tmp 83) 0, type := 0, pos := "ref.go:339", after := #[{ on := 25, ground := Ground.data }, { on := 0, ground := Ground.phase }, { on := 1, ground := Ground.textOnly Departure.lateStores }, { on := 2, ground := Ground.textOnly Departure.lateStores }, { on := 3, ground := Ground.phase }, { on := 4, ground := Ground.phase }, { on := 5, ground := Ground.phase }, { on := 6, ground := Ground.phase }, { on := 7, ground := Ground.phase }, { on := 8, ground := Ground.phase }, { on := 9, ground := Ground.phase }, { on := 10, ground := Ground.textOnly Departure.lateStores }, { on := 11, ground := Ground.textOnly Departure.lateStoresUnsure }, { on := 12, ground := Ground.textOnly Departure.lateStoresUnsure }, { on := 13, ground := Ground.phase }, { on := 14, ground := Ground.textOnly Departure.lateStores }, { on := 15, ground := Ground.phase }, { on := 16, ground := Ground.textOnly Departure.lateStoresUnsure }, { on := 17, ground := Ground.phase }, { on := 18, ground := Ground.textOnly Departure.lateStores }, { on := 19, ground := Ground.textOnly Departure.lateStoresUnsure }, { on := 20, ground := Ground.textOnly Departure.lateStoresUnsure }, { on := 21, ground := Ground.phase }, { on := 22, ground := Ground.textOnly Departure.lateStores }, { on := 23, ground := Ground.textOnly Departure.lateStoresUnsure }, { on := 24, ground := Ground.phase }], guard := none }) (v := ?_) (by kernel_rfl) (by kernel_rfl) (by decide) (by kernel_rfl) (by kernel_rfl) (by kernel_rfl) (fun _ _ _ h => h) (Or.inl ⟨by kernel_rfl, ?_⟩) (fun _ => by assumption) ?_
              rotate_left
              · intro W hSw
                try dsimp only at hSw
                go_simp
                first | done | with_reducible rfl
              try simp only [Act.put, List.setIfInBounds_toArray, List.set_cons_zero, List.set_cons_succ]
              refine Till.ready (rs := [27]) (by kernel_rfl) (by simp) (Comes.late (o := { dst := none, op := Op.store 23 (Operand.tmp 84) (Operand.tmp 67), type := 0, pos := "ref.go:339", after := #[{ on := 26, ground := Ground.data }, { on := 9, ground := Ground.data }, { on := 24, ground := Ground.chain }, { on := 0, ground := Ground.phase }, { on := 1, ground := Ground.textOnly Departure.lateStores }, { on := 2, ground := Ground.textOnly Departure.lateStores }, { on := 3, ground := Ground.phase }, { on := 4, ground := Ground.phase }, { on := 5, ground := Ground.phase }, { on := 6, ground := Ground.phase }, { on := 7, ground := Ground.phase }, { on := 8, ground := Ground.phase }, { on := 9, ground := Ground.phase }, { on := 10, ground := Ground.textOnly Departure.lateStores }, { on := 11, ground := Ground.textOnly Departure.lateStoresUnsure }, { on := 12, ground := Ground.textOnly Departure.lateStoresUnsure }, { on := 13, ground := Ground.phase }, { on := 14, ground := Ground.textOnly Departure.lateStores }, { on := 15, ground := Ground.phase }, { on := 16, ground := Ground.textOnly Departure.lateStoresUnsure }, { on := 17, ground := Ground.phase }, { on := 18, ground := Ground.textOnly Departure.lateStores }, { on := 19, ground := Ground.textOnly Departure.lateStoresUnsure }, { on := 20, ground := Ground.textOnly Departure.lateStoresUnsure }, { on := 21, ground := Ground.phase }, { on := 22, ground := Ground.textOnly Departure.lateStores }, { on := 23, ground := Ground.textOnly Departure.lateStoresUnsure }, { on := 24, ground := Ground.phase }], guard := none }) (by kernel_rfl) (by kernel_rfl) (fun K hK => ?_) Comes.nil)
              have f0 : wv7.cell? ⟨g, 0, none⟩ = some (.slice A0 n c0) := by rw [HM7.out.blk.cell]; rfl
              have f1 : wv7.frozen? ⟨g, 0, none⟩ = false := HM7.out.blk.frozen 0
              go_simp
              try go_wp2_with fail
              refine hK.out _ _ ?_ (fun hHeld => ?_)
              · try dsimp only
                all_goals trivial
              clear hK K
              refine Till.late_ (s := 27) (i := 28) (d := 85) (oi := { dst := some 85, op := Op.nilCheck (Operand.tmp 59), type := 0, pos := "ref.go:339", after := #[{ on := 1, ground := Ground.data }, { on := 0, ground := Ground.phase }, { on := 1, ground := Ground.phase }, { on := 2, ground := Ground.textOnly Departure.lateStores }, { on := 3, ground := Ground.phase }, { on := 4, ground := Ground.phase }, { on := 5, ground := Ground.phase }, { on := 6, ground := Ground.phase }, { on := 7, ground := Ground.phase }, { on := 8, ground := Ground.phase }, { on := 9, ground := Ground.phase }, { on := 10, ground := Ground.phase }, { on := 11, ground := Ground.phase }, { on := 12, ground := Ground.phase }, { on := 13, ground := Ground.phase }, { on := 14, ground := Ground.phase }, { on := 15, ground := Ground.phase }, { on := 16, ground := Ground.phase }, { on := 17, ground := Ground.phase }, { on := 18, ground := Ground.textOnly Departure.lateStores }, { on := 19, ground := Ground.textOnly Departure.lateStoresUnsure }, { on := 20, ground := Ground.textOnly Departure.lateStoresUnsure }, { on := 21, ground := Ground.phase }, { on := 22, ground := Ground.textOnly Departure.lateStores }, { on := 23, ground := Ground.textOnly Departure.lateStoresUnsure }, { on := 24, ground := Ground.phase }, { on := 25, ground := Ground.phase }, { on := 26, ground := Ground.phase }, { on := 27, ground := Ground.phase }], guard := none }) (v := ?_) (by kernel_rfl) (by kernel_rfl) (by decide) (by kernel_rfl) (by kernel_rfl) (by kernel_rfl) (fun _ _ _ h => h) (Or.inl ⟨by kernel_rfl, ?_⟩) (by kernel_rfl) ?_
              rotate_left
              · intro W hSw
                try dsimp only at hSw
                go_simp
                first | done | with_reducible rfl
              try simp only [Act.put, List.setIfInBounds_toArray, List.set_cons_zero, List.set_cons_succ]
              refine Till.late_ (s := 27) (i := 29) (d := 86) (oi := { dst := some 86, op := Op.fieldAddr 33 (Operand.tmp 85) 1, type := 0, pos := "ref.go:339", after := #[{ on := 28, ground := Ground.data }, { on := 0, ground := Ground.phase }, { on := 1, ground := Ground.phase }, { on := 2, ground := Ground.textOnly Departure.lateStores }, { on := 3, ground := Ground.phase }, { on := 4, ground := Ground.phase }, { on := 5, ground := Ground.phase }, { on := 6, ground := Ground.phase }, { on := 7, ground := Ground.phase }, { on := 8, ground := Ground.phase }, { on := 9, ground := Ground.phase }, { on := 10, ground := Ground.phase }, { on := 11, ground := Ground.phase }, { on := 12, ground := Ground.phase }, { on := 13, ground := Ground.phase }, { on := 14, ground := Ground.phase }, { on := 15, ground := Ground.phase }, { on := 16, ground := Ground.phase }, { on := 17, ground := Ground.phase }, { on := 18, ground := Ground.textOnly Departure.lateStores }, { on := 19, ground := Ground.textOnly Departure.lateStoresUnsure }, { on := 20, ground := Ground.textOnly Departure.lateStoresUnsure }, { on := 21, ground := Ground.phase }, { on := 22, ground := Ground.textOnly Departure.lateStores }, { on := 23, ground := Ground.textOnly Departure.lateStoresUnsure }, { on := 24, ground := Ground.phase }, { on := 25, ground := Ground.phase }, { on := 26, ground := Ground.phase }, { on := 27, ground := Ground.phase }], guard := none }) (v := ?_) (by kernel_rfl) (by kernel_rfl) (by decide) (by kernel_rfl) (by kernel_rfl) (by kernel_rfl) (fun _ _ _ h => h) (Or.inl ⟨by kernel_rfl, ?_⟩) (by kernel_rfl) ?_
              rotate_left
              · intro W hSw
                try dsimp only at hSw
                go_simp
                first | done | with_reducible rfl
              try simp only [Act.put, List.setIfInBounds_toArray, List.set_cons_zero, List.set_cons_succ]
              refine Till.ready (rs := [30]) (by kernel_rfl) (by simp) (Comes.late (o := { dst := none, op := Op.store 30 (Operand.tmp 86) (Operand.tmp 75), type := 0, pos := "ref.go:339", after := #[{ on := 29, ground := Ground.data }, { on := 17, ground := Ground.data }, { on := 27, ground := Ground.chain }, { on := 0, ground := Ground.phase }, { on := 1, ground := Ground.phase }, { on := 2, ground := Ground.textOnly Departure.lateStores }, { on := 3, ground := Ground.phase }, { on := 4, ground := Ground.phase }, { on := 5, ground := Ground.phase }, { on := 6, ground := Ground.phase }, { on := 7, ground := Ground.phase }, { on := 8, ground := Ground.phase }, { on := 9, ground := Ground.phase }, { on := 10, ground := Ground.phase }, { on := 11, ground := Ground.phase }, { on := 12, ground := Ground.phase }, { on := 13, ground := Ground.phase }, { on := 14, ground := Ground.phase }, { on := 15, ground := Ground.phase }, { on := 16, ground := Ground.phase }, { on := 17, ground := Ground.phase }, { on := 18, ground := Ground.textOnly Departure.lateStores }, { on := 19, ground := Ground.textOnly Departure.lateStoresUnsure }, { on := 20, ground := Ground.textOnly Departure.lateStoresUnsure }, { on := 21, ground := Ground.phase }, { on := 22, ground := Ground.textOnly Departure.lateStores }, { on := 23, ground := Ground.textOnly Departure.lateStoresUnsure }, { on := 24, ground := Ground.phase }, { on := 25, ground := Ground.phase }, { on := 26, ground := Ground.phase }, { on := 27, ground := Ground.phase }], guard := none }) (by kernel_rfl) (by kernel_rfl) (fun K hK => ?_) Comes.nil)
              obtain ⟨wv8, hw8⟩ : ∃ W, W = wv7.setCell ⟨g, 0, none⟩ (.slice Y0 ny0 cy0) := ⟨_, rfl⟩
              rw [← hw8]
              have HM8 := Lib.hid (HM7.out.set_ 0 (.slice Y0 ny0 cy0))
              rw [← hw8] at HM8
              clear hw8 f0 f1
              have f0 : wv8.cell? ⟨g, 1, none⟩ = some x1 := by rw [HM8.out.blk.cell]; rfl
              have f1 : wv8.frozen? ⟨g, 1, none⟩ = false := HM8.out.blk.frozen 1
              go_simp
              try go_wp2_with fail
              refine hK.out _ _ ?_ (fun hHeld => ?_)
              · try dsimp only
                all_goals trivial
              clear hK K
              refine Till.late_ (s := 27) (i := 31) (d := 87) (oi := { dst := some 87, op := Op.nilCheck (Operand.tmp 60), type := 0, pos := "ref.go:339", after := #[{ on := 2, ground := Ground.data }, { on := 0, ground := Ground.phase }, { on := 1, ground := Ground.phase }, { on := 2, ground := Ground.phase }, { on := 3, ground := Ground.phase }, { on := 4, ground := Ground.phase }, { on := 5, ground := Ground.phase }, { on := 6, ground := Ground.phase }, { on := 7, ground := Ground.phase }, { on := 8, ground := Ground.phase }, { on := 9, ground := Ground.phase }, { on := 10, ground := Ground.phase }, { on := 11, ground := Ground.phase }, { on := 12, ground := Ground.phase }, { on := 13, ground := Ground.phase }, { on := 14, ground := Ground.phase }, { on := 15, ground := Ground.phase }, { on := 16, ground := Ground.phase }, { on := 17, ground := Ground.phase }, { on := 18, ground := Ground.phase }, { on := 19, ground := Ground.phase }, { on := 20, ground := Ground.phase }, { on := 21, ground := Ground.phase }, { on := 22, ground := Ground.phase }, { on := 23, ground := Ground.phase }, { on := 24, ground := Ground.phase }, { on := 25, ground := Ground.phase }, { on := 26, ground := Ground.phase }, { on := 27, ground := Ground.phase }, { on := 28, ground := Ground.phase }, { on := 29, ground := Ground.phase }, { on := 30, ground := Ground.phase }], guard := none }) (v := ?_) (by kernel_rfl) (by kernel_rfl) (by decide) (by kernel_rfl) (by kernel_rfl) (by kernel_rfl) (fun _ _ _ h => h) (Or.inl ⟨by kernel_rfl, ?_⟩) (by kernel_rfl) ?_
              rotate_left
              · intro W hSw
                try dsimp only at hSw
                go_simp
                first | done | with_reducible rfl
              try simp only [Act.put, List.setIfInBounds_toArray, List.set_cons_zero, List.set_cons_succ]
              refine Till.late_ (s := 27) (i := 32) (d := 88) (oi := { dst := some 88, op := Op.fieldAddr 33 (Operand.tmp 87) 2, type := 0, pos := "ref.go:339", after := #[{ on := 31, ground := Ground.data }, { on := 0, ground := Ground.phase }, { on := 1, ground := Ground.phase }, { on := 2, ground := Ground.phase }, { on := 3, ground := Ground.phase }, { on := 4, ground := Ground.phase }, { on := 5, ground := Ground.phase }, { on := 6, ground := Ground.phase }, { on := 7, ground := Ground.phase }, { on := 8, ground := Ground.phase }, { on := 9, ground := Ground.phase }, { on := 10, ground := Ground.phase }, { on := 11, ground := Ground.phase }, { on := 12, ground := Ground.phase }, { on := 13, ground := Ground.phase }, { on := 14, ground := Ground.phase }, { on := 15, ground := Ground.phase }, { on := 16, ground := Ground.phase }, { on := 17, ground := Ground.phase }, { on := 18, ground := Ground.phase }, { on := 19, ground := Ground.phase }, { on := 20, ground := Ground.phase }, { on := 21, ground := Ground.phase }, { on := 22, ground := Ground.phase }, { on := 23, ground := Ground.phase }, { on := 24, ground := Ground.phase }, { on := 25, ground := Ground.phase }, { on := 26, ground := Ground.phase }, { on := 27, ground := Ground.phase }, { on := 28, ground := Ground.phase }, { on := 29, ground := Ground.phase }, { on := 30, ground := Ground.phase }], guard := none }) (v := ?_) (by kernel_rfl) (by kernel_rfl) (by decide) (by kernel_rfl) (by kernel_rfl) (by kernel_rfl) (fun _ _ _ h => h) (Or.inl ⟨by kernel_rfl, ?_⟩) (by kernel_rfl) ?_
              rotate_left
              · intro W hSw
                try dsimp only at hSw
                go_simp
                first | done | with_reducible rfl
              try simp only [Act.put, List.setIfInBounds_toArray, List.set_cons_zero, List.set_cons_succ]
              refine Till.ready (rs := [33]) (by kernel_rfl) (by simp) (Comes.late (o := { dst := none, op := Op.store 31 (Operand.tmp 88) (Operand.tmp 82), type := 0, pos := "ref.go:339", after := #[{ on := 32, ground := Ground.data }, { on := 24, ground := Ground.data }, { on := 30, ground := Ground.chain }, { on := 0, ground := Ground.phase }, { on := 1, ground := Ground.phase }, { on := 2, ground := Ground.phase }, { on := 3, ground := Ground.phase }, { on := 4, ground := Ground.phase }, { on := 5, ground := Ground.phase }, { on := 6, ground := Ground.phase }, { on := 7, ground := Ground.phase }, { on := 8, ground := Ground.phase }, { on := 9, ground := Ground.phase }, { on := 10, ground := Ground.phase }, { on := 11, ground := Ground.phase }, { on := 12, ground := Ground.phase }, { on := 13, ground := Ground.phase }, { on := 14, ground := Ground.phase }, { on := 15, ground := Ground.phase }, { on := 16, ground := Ground.phase }, { on := 17, ground := Ground.phase }, { on := 18, ground := Ground.phase }, { on := 19, ground := Ground.phase }, { on := 20, ground := Ground.phase }, { on := 21, ground := Ground.phase }, { on := 22, ground := Ground.phase }, { on := 23, ground := Ground.phase }, { on := 24, ground := Ground.phase }, { on := 25, ground := Ground.phase }, { on := 26, ground := Ground.phase }, { on := 27, ground := Ground.phase }, { on := 28, ground := Ground.phase }, { on := 29, ground := Ground.phase }, { on := 30, ground := Ground.phase }], guard := none }) (by kernel_rfl) (by kernel_rfl) (fun K hK => ?_) Comes.nil)
              obtain ⟨wv9, hw9⟩ : ∃ W, W = wv8.setCell ⟨g, 1, none⟩ (.slice Y1 ny1 cy1) := ⟨_, rfl⟩
              rw [← hw9]
              have HM9 := Lib.hid (HM8.out.set_ 1 (.slice Y1 ny1 cy1))
              rw [← hw9] at HM9
              clear hw9 f0 f1
              have f0 : wv9.cell? ⟨g, 2, none⟩ = some x2 := by rw [HM9.out.blk.cell]; rfl
              have f1 : wv9.frozen? ⟨g, 2, none⟩ = false := HM9.out.blk.frozen 2
              go_simp
              try go_wp2_with fail
              refine hK.out _ _ ?_ (fun hHeld => ?_)
              · try dsimp only
                all_goals trivial
              clear hK K
              refine Till.done (by kernel_rfl) ?_ _
              obtain ⟨wv10, hw10⟩ : ∃ W, W = wv9.setCell ⟨g, 2, none⟩ (.slice Y2 ny2 cy2) := ⟨_, rfl⟩
              rw [← hw10]
              have HM10 := Lib.hid (HM9.out.set_ 2 (.slice Y2 ny2 cy2))
              rw [← hw10] at HM10
              clear hw10 f0 f1
              go_wp2_with fail
              go_ret
              obtain ⟨Z', h1, h2, h3, h4⟩ := DGo.grown HGW.out HZL.out HE.out HRR.out HM10.out
              exact ⟨Z', by rw [HE.out]; rfl, by unfold addR; rw [if_pos HE.out]; exact h1, (Only.of_below HB.out).trans h2 (fun k hk => .inl hk), h3, fun k hk => (h4 k hk).imp_right (fun x => Nat.le_trans HB.out.size x)⟩
          · refine sbuild2 81 (by kernel_rfl) (by kernel_rfl) (.tmp 80) (by kernel_rfl) stamp (by rfl) ?_
            obtain ⟨wv1, hw1⟩ : ∃ W, W = (wr.drew).alloc (.cells #[.int .i64 stamp] 3) := ⟨_, rfl⟩
            rw [← hw1]
            have HM1 := Lib.hid (HM0.out.alloc (.cells #[.int .i64 stamp] 3))
            rw [← hw1] at HM1
            have HT2_1 := Lib.hid (own_one 3 (wr.drew) (.int .i64 stamp))
            rw [← hw1] at HT2_1
            obtain ⟨t2, ht2⟩ : ∃ t, t = Value.slice (some ⟨(wr.drew).heap.size, 0, none⟩) 1 1 := ⟨_, rfl⟩
            rw [← ht2] at HT2_1 ⊢
            clear hw1 ht2
            have HS1 : Hid (wv1.cell? ⟨g, 0, none⟩ = some (.slice A0 n c0) ∧ wv1.cell? ⟨g, 1, none⟩ = some x1 ∧ wv1.cell? ⟨g, 2, none⟩ = some x2) := ⟨by rw [HM1.out.blk.cell]; rfl, by rw [HM1.out.blk.cell]; rfl, by rw [HM1.out.blk.cell]; rfl⟩
            try go_wp2_with fail
            refine hK.out _ _ ?_ (fun hHeld => ?_)
            · try dsimp only
              exact HS1.out
            clear hK K
            try simp only [Act.put, List.setIfInBounds_toArray, List.set_cons_zero, List.set_cons_succ]
            refine Till.ready (rs := [8]) (by kernel_rfl) (by simp) (Comes.cons (o := { dst := some 66, op := Op.buildSlice 23 1 #[(0, Operand.tmp 65)], type := 23, pos := "ref.go:339", after := #[{ on := 7, ground := Ground.data }], guard := none }) (by kernel_rfl) (fun K hK => ?_) Comes.nil)
            refine sbuild0 66 (by kernel_rfl) (by kernel_rfl) (.tmp 65) (by kernel_rfl) id (by rfl) ?_
            obtain ⟨wv2, hw2⟩ : ∃ W, W = (wv1).alloc (.cells #[.string id] 9) := ⟨_, rfl⟩
            rw [← hw2]
            have HM2 := Lib.hid (HM1.out.alloc (.cells #[.string id] 9))
            rw [← hw2] at HM2
            have HT2_2 := Lib.hid (HT2_1.out.alloc (.cells #[.string id] 9))
            rw [← hw2] at HT2_2
            have HT0_2 := Lib.hid (own_one 9 (wv1) (.string id))
            rw [← hw2] at HT0_2
            obtain ⟨t0, ht0⟩ : ∃ t, t = Value.slice (some ⟨(wv1).heap.size, 0, none⟩) 1 1 := ⟨_, rfl⟩
            rw [← ht0] at HT0_2 ⊢
            clear hw2 ht0
            have HS2 : Hid (wv2.cell? ⟨g, 0, none⟩ = some (.slice A0 n c0) ∧ wv2.cell? ⟨g, 1, none⟩ = some x1 ∧ wv2.cell? ⟨g, 2, none⟩ = some x2) := ⟨by rw [HM2.out.blk.cell]; rfl, by rw [HM2.out.blk.cell]; rfl, by rw [HM2.out.blk.cell]; rfl⟩
            try go_wp2_with fail
            refine hK.out _ _ ?_ (fun hHeld => ?_)
            · try dsimp only
              exact HS2.out
            clear hK K
            try simp only [Act.put, List.setIfInBounds_toArray, List.set_cons_zero, List.set_cons_succ]
            refine Till.ready (rs := [9]) (by kernel_rfl) (by simp) (Comes.cons (o := { dst := some 67, op := Op.call { callee := Callee.builtin Builtin.append, args := #[Operand.tmp 64, Operand.tmp 66], argTypes := #[23, 23] }, type := 23, pos := "ref.go:339", after := #[{ on := 6, ground := Ground.data }, { on := 8, ground := Ground.data }], guard := none }) (by kernel_rfl) (fun K hK => ?_) Comes.nil)
            refine sapp0 67 (by kernel_rfl) (by kernel_rfl) (.tmp 64) (.tmp 66) (by kernel_rfl) HM2.out (by rfl) t0 id (by rfl) (by exact HT0_2.out) (by rw [List.length_map, HN.out]; omega) ?_
            intro y0 wv3 hm hkp
            obtain ⟨Y0, ny0, cy0, hy⟩ : ∃ A n c, y0 = .slice A n c := by obtain ⟨A, c, e, _⟩ := hm.o0.slv; exact ⟨A, _, c, e⟩
            subst hy
            have HM3 := Lib.hid hm
            have HT2_3 := Lib.hid (hkp _ _ _ (by decide) HT2_2.out)
            clear hm hkp
            have HS3 : Hid (wv3.cell? ⟨g, 0, none⟩ = some (.slice A0 n c0) ∧ wv3.cell? ⟨g, 1, none⟩ = some x1 ∧ wv3.cell? ⟨g, 2, none⟩ = some x2) := ⟨by rw [HM3.out.blk.cell]; rfl, by rw [HM3.out.blk.cell]; rfl, by rw [HM3.out.blk.cell]; rfl⟩
            try go_wp2_with fail
            refine hK.out _ _ ?_ (fun hHeld => ?_)
            · try dsimp only
              exact HS3.out
            clear hK K
            try simp only [Act.put, List.setIfInBounds_toArray, List.set_cons_zero, List.set_cons_succ]
            refine Till.ready (rs := [15]) (by kernel_rfl) (by simp) (Comes.cons (o := { dst := some 73, op := Op.call { callee := Callee.value (Operand.func 33), args := #[Operand.tmp 72], argTypes := #[23] }, type := 23, pos := "ref.go:339", after := #[{ on := 14, ground := Ground.data }, { on := 9, ground := Ground.chain }], guard := none }) (by kernel_rfl) (fun K hK => ?_) Comes.nil)
            go_simp
            refine (runiq_any _ ps (wv3) (HPS.out _ HM3.out.only) (by rw [HM.out]; omega)).mono ?_
            rintro e wv4 ⟨u, rfl, hu, hb⟩
            have HM4 := Lib.hid (HM3.out.more hb hu)
            have HT2_4 := Lib.hid (HT2_3.out.below hb)
            have HU1 : Hid (u.oneCell' = true) := by
              obtain ⟨_, _, rfl, _⟩ := hu.slv
              rfl
            have HUC : Hid (u.cells = #[u]) := by
              obtain ⟨_, _, rfl, _⟩ := hu.slv
              rfl
            clear hu hb
            have HS4 : Hid (wv4.cell? ⟨g, 0, none⟩ = some (.slice A0 n c0) ∧ wv4.cell? ⟨g, 1, none⟩ = some x1 ∧ wv4.cell? ⟨g, 2, none⟩ = some x2) := ⟨by rw [HM4.out.blk.cell]; rfl, by rw [HM4.out.blk.cell]; rfl, by rw [HM4.out.blk.cell]; rfl⟩
            try go_wp2_with fail
            refine hK.out _ _ ?_ (fun hHeld => ?_)
            · try dsimp only
              exact HS4.out
            clear hK K
            try simp only [Act.put, List.setIfInBounds_toArray, List.set_cons_zero, List.set_cons_succ]
            refine Till.ready (rs := [16]) (by kernel_rfl) (by simp) (Comes.cons (o := { dst := some 74, op := Op.buildSlice 30 1 #[(0, Operand.tmp 73)], type := 30, pos := "ref.go:339", after := #[{ on := 15, ground := Ground.data }], guard := none }) (by kernel_rfl) (fun K hK => ?_) Comes.nil)
            refine sbuild1 74 (by kernel_rfl) (by kernel_rfl) (.tmp 73) (by kernel_rfl) u (by exact HUC.out) (by rfl) ?_
            obtain ⟨wv5, hw5⟩ : ∃ W, W = (wv4).alloc (.cells #[u] 23) := ⟨_, rfl⟩
            rw [← hw5]
            have HM5 := Lib.hid (HM4.out.alloc (.cells #[u] 23))
            rw [← hw5] at HM5
            have HT2_5 := Lib.hid (HT2_4.out.alloc (.cells #[u] 23))
            rw [← hw5] at HT2_5
            have HT1_5 := Lib.hid (own_one 23 (wv4) (u))
            rw [← hw5] at HT1_5
            obtain ⟨t1, ht1⟩ : ∃ t, t = Value.slice (some ⟨(wv4).heap.size, 0, none⟩) 1 1 := ⟨_, rfl⟩
            rw [← ht1] at HT1_5 ⊢
            clear hw5 ht1
            have HS5 : Hid (wv5.cell? ⟨g, 0, none⟩ = some (.slice A0 n c0) ∧ wv5.cell? ⟨g, 1, none⟩ = some x1 ∧ wv5.cell? ⟨g, 2, none⟩ = some x2) := ⟨by rw [HM5.out.blk.cell]; rfl, by rw [HM5.out.blk.cell]; rfl, by rw [HM5.out.blk.cell]; rfl⟩
            try go_wp2_with fail
            refine hK.out _ _ ?_ (fun hHeld => ?_)
            · try dsimp only
              exact HS5.out
            clear hK K
            try simp only [Act.put, List.setIfInBounds_toArray, List.set_cons_zero, List.set_cons_succ]
            refine Till.ready (rs := [17]) (by kernel_rfl) (by simp) (Comes.cons (o := { dst := some 75, op := Op.call { callee := Callee.builtin Builtin.append, args := #[Operand.tmp 71, Operand.tmp 74], argTypes := #[30, 30] }, type := 30, pos := "ref.go:339", after := #[{ on := 13, ground := Ground.data }, { on := 16, ground := Ground.data }, { on := 15, ground := Ground.chain }], guard := none }) (by kernel_rfl) (fun K hK => ?_) Comes.nil)
            refine sapp1 75 (by kernel_rfl) (by kernel_rfl) (.tmp 71) (.tmp 74) (by kernel_rfl) HM5.out (by rfl) t1 u (by exact HU1.out) (by rfl) (by exact HT1_5.out) (by rw [List.length_map, HRL.out]; omega) ?_
            intro y1 wv6 hm hkp
            obtain ⟨Y1, ny1, cy1, hy⟩ : ∃ A n c, y1 = .slice A n c := by obtain ⟨A, c, e, _⟩ := hm.o1.slv; exact ⟨A, _, c, e⟩
            subst hy
            have HM6 := Lib.hid hm
            have HT2_6 := Lib.hid (hkp _ _ _ (by decide) HT2_5.out)
            clear hm hkp
            have HS6 : Hid (wv6.cell? ⟨g, 0, none⟩ = some (.slice A0 n c0) ∧ wv6.cell? ⟨g, 1, none⟩ = some x1 ∧ wv6.cell? ⟨g, 2, none⟩ = some x2) := ⟨by rw [HM6.out.blk.cell]; rfl, by rw [HM6.out.blk.cell]; rfl, by rw [HM6.out.blk.cell]; rfl⟩
            try go_wp2_with fail
            refine hK.out _ _ ?_ (fun hHeld => ?_)
            · try dsimp only
              exact HS6.out
            clear hK K
            try simp only [Act.put, List.setIfInBounds_toArray, List.set_cons_zero, List.set_cons_succ]
            refine Till.ready (rs := [24]) (by kernel_rfl) (by simp) (Comes.cons (o := { dst := some 82, op := Op.call { callee := Callee.builtin Builtin.append, args := #[Operand.tmp 79, Operand.tmp 81], argTypes := #[31, 31] }, type := 31, pos := "ref.go:339", after := #[{ on := 21, ground := Ground.data }, { on := 23, ground := Ground.data }, { on := 17, ground := Ground.chain }], guard := none }) (by kernel_rfl) (fun K hK => ?_) Comes.nil)
            refine sapp2 82 (by kernel_rfl) (by kernel_rfl) (.tmp 79) (.tmp 81) (by kernel_rfl) HM6.out (by rfl) t2 stamp (by rfl) (by exact HT2_6.out) (by rw [List.length_map, HN.out]; omega) ?_
            intro y2 wv7 hm hkp
            obtain ⟨Y2, ny2, cy2, hy⟩ : ∃ A n c, y2 = .slice A n c := by obtain ⟨A, c, e, _⟩ := hm.o2.slv; exact ⟨A, _, c, e⟩
            subst hy
            have HM7 := Lib.hid hm
            clear hm hkp
            have HS7 : Hid (wv7.cell? ⟨g, 0, none⟩ = some (.slice A0 n c0) ∧ wv7.cell? ⟨g, 1, none⟩ = some x1 ∧ wv7.cell? ⟨g, 2, none⟩ = some x2) := ⟨by rw [HM7.out.blk.cell]; rfl, by rw [HM7.out.blk.cell]; rfl, by rw [HM7.out.blk.cell]; rfl⟩
            try go_wp2_with fail
            refine hK.out _ _ ?_ (fun hHeld => ?_)
            · try dsimp only
              exact HS7.out
            clear hK K
            try simp only [Act.put, List.setIfInBounds_toArray, List.set_cons_zero, List.set_cons_succ]
            refine Till.pure_ (s := 27) (i := 25) (d := 83) (oi := { dst := some 83, op := Op.nilCheck (Operand.tmp 58), type := 0, pos := "ref.go:339", after := #[{ on := 0, ground := Ground.data }, { on := 0, ground := Ground.phase }, { on := 1, ground := Ground.textOnly Departure.lateStores }, { on := 2, ground := Ground.textOnly Departure.lateStores }, { on := 3, ground := Ground.phase }, { on := 4, ground := Ground.phase }, { on := 5, ground := Ground.phase }, { on := 6, ground := Ground.phase }, { on := 7, ground := Ground.phase }, { on := 8, ground := Ground.phase }, { on := 9, ground := Ground.phase }, { on := 10, ground := Ground.textOnly Departure.lateStores }, { on := 11, ground := Ground.textOnly Departure.lateStoresUnsure }, { on := 12, ground := Ground.textOnly Departure.lateStoresUnsure }, { on := 13, ground := Ground.phase }, { on := 14, ground := Ground.textOnly Departure.lateStores }, { on := 15, ground := Ground.phase }, { on := 16, ground := Ground.textOnly Departure.lateStoresUnsure }, { on := 17, ground := Ground.phase }, { on := 18, ground := Ground.textOnly Departure.lateStores }, { on := 19, ground := Ground.textOnly Departure.lateStoresUnsure }, { on := 20, ground := Ground.textOnly Departure.lateStoresUnsure }, { on := 21, ground := Ground.phase }, { on := 22, ground := Ground.textOnly Departure.lateStores }, { on := 23, ground := Ground.textOnly Departure.lateStoresUnsure }, { on := 24, ground := Ground.phase }], guard := none }) (v := ?_) (by kernel_rfl) (by kernel_rfl) (by decide) (by kernel_rfl) (by kernel_rfl) (by kernel_rfl) (fun _ _ _ h => h) (Or.inl ⟨by kernel_rfl, ?_⟩) (fun _ => by assumption) ?_
            rotate_left
            · intro W hSw
              try dsimp only at hSw
              go_simp
              first | done | with_reducible rfl
            try simp only [Act.put, List.setIfInBounds_toArray, List.set_cons_zero, List.set_cons_succ]
            refine Till.pure_ (s := 27) (i := 26) (d := 84) (oi := { dst := some 84, op := Op.fieldAddr 33 (Operand.tmp 83) 0, type := 0, pos := "ref.go:339", after := #[{ on := 25, ground := Ground.data }, { on := 0, ground := Ground.phase }, { on := 1, ground := Ground.textOnly Departure.lateStores }, { on := 2, ground := Ground.textOnly Departure.lateStores }, { on := 3, ground := Ground.phase }, { on := 4, ground := Ground.phase }, { on := 5, ground := Ground.phase }, { on := 6, ground := Ground.phase }, { on := 7, ground := Ground.phase }, { on := 8, ground := Ground.phase }, { on := 9, ground := Ground.phase }, { on := 10, ground := Ground.textOnly Departure.lateStores }, { on := 11, ground := Ground.textOnly Departure.lateStoresUnsure }, { on := 12, ground := Ground.textOnly Departure.lateStoresUnsure }, { on := 13, ground := Ground.phase }, { on := 14, ground := Ground.textOnly Departure.lateStores }, { on := 15, ground := Ground.phase }, { on := 16, ground := Ground.textOnly Departure.lateStoresUnsure }, { on := 17, ground := Ground.phase }, { on := 18, ground := Ground.textOnly Departure.lateStores }, { on := 19, ground := Ground.textOnly Departure.lateStoresUnsure }, { on := 20, ground := Ground.textOnly Departure.lateStoresUnsure }, { on := 21, ground := Ground.phase }, { on := 22, ground := Ground.textOnly Departure.lateStores }, { on := 23, ground := Ground.textOnly Departure.lateStoresUnsure }, { on := 24, ground := Ground.phase }], guard := none }) (v := ?_) (by kernel_rfl) (by kernel_rfl) (by decide) (by kernel_rfl) (by kernel_rfl) (by kernel_rfl) (fun _ _ _ h => h) (Or.inl ⟨by kernel_rfl, ?_⟩) (fun _ => by assumption) ?_
            rotate_left
            · intro W hSw
              try dsimp only at hSw
              go_simp
              first | done | with_reducible rfl
            try simp only [Act.put, List.setIfInBounds_toArray, List.set_cons_zero, List.set_cons_succ]
            refine Till.ready (rs := [27]) (by kernel_rfl) (by simp) (Comes.late (o := { dst := none, op := Op.store 23 (Operand.tmp 84) (Operand.tmp 67), type := 0, pos := "ref.go:339", after := #[{ on := 26, ground := Ground.data }, { on := 9, ground := Ground.data }, { on := 24, ground := Ground.chain }, { on := 0, ground := Ground.phase }, { on := 1, ground := Ground.textOnly Departure.lateStores }, { on := 2, ground := Ground.textOnly Departure.lateStores }, { on := 3, ground := Ground.phase }, { on := 4, ground := Ground.phase }, { on := 5, ground := Ground.phase }, { on := 6, ground := Ground.phase }, { on := 7, ground := Ground.phase }, { on := 8, ground := Ground.phase }, { on := 9, ground := Ground.phase }, { on := 10, ground := Ground.textOnly Departure.lateStores }, { on := 11, ground := Ground.textOnly Departure.lateStoresUnsure }, { on := 12, ground := Ground.textOnly Departure.lateStoresUnsure }, { on := 13, ground := Ground.phase }, { on := 14, ground := Ground.textOnly Departure.lateStores }, { on := 15, ground := Ground.phase }, { on := 16, ground := Ground.textOnly Departure.lateStoresUnsure }, { on := 17, ground := Ground.phase }, { on := 18, ground := Ground.textOnly Departure.lateStores }, { on := 19, ground := Ground.textOnly Departure.lateStoresUnsure }, { on := 20, ground := Ground.textOnly Departure.lateStoresUnsure }, { on := 21, ground := Ground.phase }, { on := 22, ground := Ground.textOnly Departure.lateStores }, { on := 23, ground := Ground.textOnly Departure.lateStoresUnsure }, { on := 24, ground := Ground.phase }], guard := none }) (by kernel_rfl) (by kernel_rfl) (fun K hK => ?_) Comes.nil)
            have f0 : wv7.cell? ⟨g, 0, none⟩ = some (.slice A0 n c0) := by rw [HM7.out.blk.cell]; rfl
            have f1 : wv7.frozen? ⟨g, 0, none⟩ = false := HM7.out.blk.frozen 0
            go_simp
            try go_wp2_with fail
            refine hK.out _ _ ?_ (fun hHeld => ?_)
            · try dsimp only
              all_goals trivial
            clear hK K
            refine Till.late_ (s := 27) (i := 28) (d := 85) (oi := { dst := some 85, op := Op.nilCheck (Operand.tmp 59), type := 0, pos := "ref.go:339", after := #[{ on := 1, ground := Ground.data }, { on := 0, ground := Ground.phase }, { on := 1, ground := Ground.phase }, { on := 2, ground := Ground.textOnly Departure.lateStores }, { on := 3, ground := Ground.phase }, { on := 4, ground := Ground.phase }, { on := 5, ground := Ground.phase }, { on := 6, ground := Ground.phase }, { on := 7, ground := Ground.phase }, { on := 8, ground := Ground.phase }, { on := 9, ground := Ground.phase }, { on := 10, ground := Ground.phase }, { on := 11, ground := Ground.phase }, { on := 12, ground := Ground.phase }, { on := 13, ground := Ground.phase }, { on := 14, ground := Ground.phase }, { on := 15, ground := Ground.phase }, { on := 16, ground := Ground.phase }, { on := 17, ground := Ground.phase }, { on := 18, ground := Ground.textOnly Departure.lateStores }, { on := 19, ground := Ground.textOnly Departure.lateStoresUnsure }, { on := 20, ground := Ground.textOnly Departure.lateStoresUnsure }, { on := 21, ground := Ground.phase }, { on := 22, ground := Ground.textOnly Departure.lateStores }, { on := 23, ground := Ground.textOnly Departure.lateStoresUnsure }, { on := 24, ground := Ground.phase }, { on := 25, ground := Ground.phase }, { on := 26, ground := Ground.phase }, { on := 27, ground := Ground.phase }], guard := none }) (v := ?_) (by kernel_rfl) (by kernel_rfl) (by decide) (by kernel_rfl) (by kernel_rfl) (by kernel_rfl) (fun _ _ _ h => h) (Or.inl ⟨by kernel_rfl, ?_⟩) (by kernel_rfl) ?_
            rotate_left
            · intro W hSw
              try dsimp only at hSw
              go_simp
              first | done | with_reducible rfl
            try simp only [Act.put, List.setIfInBounds_toArray, List.set_cons_zero, List.set_cons_succ]
            refine Till.late_ (s := 27) (i := 29) (d := 86) (oi := { dst := some 86, op := Op.fieldAddr 33 (Operand.tmp 85) 1, type := 0, pos := "ref.go:339", after := #[{ on := 28, ground := Ground.data }, { on := 0, ground := Ground.phase }, { on := 1, ground := Ground.phase }, { on := 2, ground := Ground.textOnly Departure.lateStores }, { on := 3, ground := Ground.phase }, { on := 4, ground := Ground.phase }, { on := 5, ground := Ground.phase }, { on := 6, ground := Ground.phase }, { on := 7, ground := Ground.phase }, { on := 8, ground := Ground.phase }, { on := 9, ground := Ground.phase }, { on := 10, ground := Ground.phase }, { on := 11, ground := Ground.phase }, { on := 12, ground := Ground.phase }, { on := 13, ground := Ground.phase }, { on := 14, ground := Ground.phase }, { on := 15, ground := Ground.phase }, { on := 16, ground := Ground.phase }, { on := 17, ground := Ground.phase }, { on := 18, ground := Ground.textOnly Departure.lateStores }, { on := 19, ground := Ground.textOnly Departure.lateStoresUnsure }, { on := 20, ground := Ground.textOnly Departure.lateStoresUnsure }, { on := 21, ground := Ground.phase }, { on := 22, ground := Ground.textOnly Departure.lateStores }, { on := 23, ground := Ground.textOnly Departure.lateStoresUnsure }, { on := 24, ground := Ground.phase }, { on := 25, ground := Ground.phase }, { on := 26, ground := Ground.phase }, { on := 27, ground := Ground.phase }], guard := none }) (v := ?_) (by kernel_rfl) (by kernel_rfl) (by decide) (by kernel_rfl) (by kernel_rfl) (by kernel_rfl) (fun _ _ _ h => h) (Or.inl ⟨by kernel_rfl, ?_⟩) (by kernel_rfl) ?_
            rotate_left
            · intro W hSw
              try dsimp only at hSw
              go_simp
              first | done | with_reducible rfl
            try simp only [Act.put, List.setIfInBounds_toArray, List.set_cons_zero, List.set_cons_succ]
            refine Till.ready (rs := [30]) (by kernel_rfl) (by simp) (Comes.late (o := { dst := none, op := Op.store 30 (Operand.tmp 86) (Operand.tmp 75), type := 0, pos := "ref.go:339", after := #[{ on := 29, ground := Ground.data }, { on := 17, ground := Ground.data }, { on := 27, ground := Ground.chain }, { on := 0, ground := Ground.phase }, { on := 1, ground := Ground.phase }, { on := 2, ground := Ground.textOnly Departure.lateStores }, { on := 3, ground := Ground.phase }, { on := 4, ground := Ground.phase }, { on := 5, ground := Ground.phase }, { on := 6, ground := Ground.phase }, { on := 7, ground := Ground.phase }, { on := 8, ground := Ground.phase }, { on := 9, ground := Ground.phase }, { on := 10, ground := Ground.phase }, { on := 11, ground := Ground.phase }, { on := 12, ground := Ground.phase }, { on := 13, ground := Ground.phase }, { on := 14, ground := Ground.phase }, { on := 15, ground := Ground.phase }, { on := 16, ground := Ground.phase }, { on := 17, ground := Ground.phase }, { on := 18, ground := Ground.textOnly Departure.lateStores }, { on := 19, ground := Ground.textOnly Departure.lateStoresUnsure }, { on := 20, ground := Ground.textOnly Departure.lateStoresUnsure }, { on := 21, ground := Ground.phase }, { on := 22, ground := Ground.textOnly Departure.lateStores }, { on := 23, ground := Ground.textOnly Departure.lateStoresUnsure }, { on := 24, ground := Ground.phase }, { on := 25, ground := Ground.phase }, { on := 26, ground := Ground.phase }, { on := 27, ground := Ground.phase }], guard := none }) (by kernel_rfl) (by kernel_rfl) (fun K hK => ?_) Comes.nil)
            obtain ⟨wv8, hw8⟩ : ∃ W, W = wv7.setCell ⟨g, 0, none⟩ (.slice Y0 ny0 cy0) := ⟨_, rfl⟩
            rw [← hw8]
            have HM8 := Lib.hid (HM7.out.set_ 0 (.slice Y0 ny0 cy0))
            rw [← hw8] at HM8
            clear hw8 f0 f1
            have f0 : wv8.cell? ⟨g, 1, none⟩ = some x1 := by rw [HM8.out.blk.cell]; rfl
            have f1 : wv8.frozen? ⟨g, 1, none⟩ = false := HM8.out.blk.frozen 1
            go_simp
            try go_wp2_with fail
            refine hK.out _ _ ?_ (fun hHeld => ?_)
            · try dsimp only
              all_goals trivial
            clear hK K
            refine Till.late_ (s := 27) (i := 31) (d := 87) (oi := { dst := some 87, op := Op.nilCheck (Operand.tmp 60), type := 0, pos := "ref.go:339", after := #[{ on := 2, ground := Ground.data }, { on := 0, ground := Ground.phase }, { on := 1, ground := Ground.phase }, { on := 2, ground := Ground.phase }, { on := 3, ground := Ground.phase }, { on := 4, ground := Ground.phase }, { on := 5, ground := Ground.phase }, { on := 6, ground := Ground.phase }, { on := 7, ground := Ground.phase }, { on := 8, ground := Ground.phase }, { on := 9, ground := Ground.phase }, { on := 10, ground := Ground.phase }, { on := 11, ground := Ground.phase }, { on := 12, ground := Ground.phase }, { on := 13, ground := Ground.phase }, { on := 14, ground := Ground.phase }, { on := 15, ground := Ground.phase }, { on := 16, ground := Ground.phase }, { on := 17, ground := Ground.phase }, { on := 18, ground := Ground.phase }, { on := 19, ground := Ground.phase }, { on := 20, ground := Ground.phase }, { on := 21, ground := Ground.phase }, { on := 22, ground := Ground.phase }, { on := 23, ground := Ground.phase }, { on := 24, ground := Ground.phase }, { on := 25, ground := Ground.phase }, { on := 26, ground := Ground.phase }, { on := 27, ground := Ground.phase }, { on := 28, ground := Ground.phase }, { on := 29, ground := Ground.phase }, { on := 30, ground := Ground.phase }], guard := none }) (v := ?_) (by kernel_rfl) (by kernel_rfl) (by decide) (by kernel_rfl) (by kernel_rfl) (by kernel_rfl) (fun _ _ _ h => h) (Or.inl ⟨by kernel_rfl, ?_⟩) (by kernel_rfl) ?_
            rotate_left
            · intro W hSw
              try dsimp only at hSw
              go_simp
              first | done | with_reducible rfl
            try simp only [Act.put, List.setIfInBounds_toArray, List.set_cons_zero, List.set_cons_succ]
            refine Till.late_ (s := 27) (i := 32) (d := 88) (oi := { dst := some 88, op := Op.fieldAddr 33 (Operand.tmp 87) 2, type := 0, pos := "ref.go:339", after := #[{ on := 31, ground := Ground.data }, { on := 0, ground := Ground.phase }, { on := 1, ground := Ground.phase }, { on := 2, ground := Ground.phase }, { on := 3, ground := Ground.phase }, { on := 4, ground := Ground.phase }, { on := 5, ground := Ground.phase }, { on := 6, ground := Ground.phase }, { on := 7, ground := Ground.phase }, { on := 8, ground := Ground.phase }, { on := 9, ground := Ground.phase }, { on := 10, ground := Ground.phase }, { on := 11, ground := Ground.phase }, { on := 12, ground := Ground.phase }, { on := 13, ground := Ground.phase }, { on := 14, ground := Ground.phase }, { on := 15, ground := Ground.phase }, { on := 16, ground := Ground.phase }, { on := 17, ground := Ground.phase }, { on := 18, ground := Ground.phase }, { on := 19, ground := Ground.phase }, { on := 20, ground := Ground.phase }, { on := 21, ground := Ground.phase }, { on := 22, ground := Ground.phase }, { on := 23, ground := Ground.phase }, { on := 24, ground := Ground.phase }, { on := 25, ground := Ground.phase }, { on := 26, ground := Ground.phase }, { on := 27, ground := Ground.phase }, { on := 28, ground := Ground.phase }, { on := 29, ground := Ground.phase }, { on := 30, ground := Ground.phase }], guard := none }) (v := ?_) (by kernel_rfl) (by kernel_rfl) (by decide) (by kernel_rfl) (by kernel_rfl) (by kernel_rfl) (fun _ _ _ h => h) (Or.inl ⟨by kernel_rfl, ?_⟩) (by kernel_rfl) ?_
            rotate_left
            · intro W hSw
              try dsimp only at hSw
              go_simp
              first | done | with_reducible rfl
            try simp only [Act.put, List.setIfInBounds_toArray, List.set_cons_zero, List.set_cons_succ]
            refine Till.ready (rs := [33]) (by kernel_rfl) (by simp) (Comes.late (o := { dst := none, op := Op.store 31 (Operand.tmp 88) (Operand.tmp 82), type := 0, pos := "ref.go:339", after := #[{ on := 32, ground := Ground.data }, { on := 24, ground := Ground.data }, { on := 30, ground := Ground.chain }, { on := 0, ground := Ground.phase }, { on := 1, ground := Ground.phase }, { on := 2, ground := Ground.phase }, { on := 3, ground := Ground.phase }, { on := 4, ground := Ground.phase }, { on := 5, ground := Ground.phase }, { on := 6, ground := Ground.phase }, { on := 7, ground := Ground.phase }, { on := 8, ground := Ground.phase }, { on := 9, ground := Ground.phase }, { on := 10, ground := Ground.phase }, { on := 11, ground := Ground.phase }, { on := 12, ground := Ground.phase }, { on := 13, ground := Ground.phase }, { on := 14, ground := Ground.phase }, { on := 15, ground := Ground.phase }, { on := 16, ground := Ground.phase }, { on := 17, ground := Ground.phase }, { on := 18, ground := Ground.phase }, { on := 19, ground := Ground.phase }, { on := 20, ground := Ground.phase }, { on := 21, ground := Ground.phase }, { on := 22, ground := Ground.phase }, { on := 23, ground := Ground.phase }, { on := 24, ground := Ground.phase }, { on := 25, ground := Ground.phase }, { on := 26, ground := Ground.phase }, { on := 27, ground := Ground.phase }, { on := 28, ground := Ground.phase }, { on := 29, ground := Ground.phase }, { on := 30, ground := Ground.phase }], guard := none }) (by kernel_rfl) (by kernel_rfl) (fun K hK => ?_) Comes.nil)
            obtain ⟨wv9, hw9⟩ : ∃ W, W = wv8.setCell ⟨g, 1, none⟩ (.slice Y1 ny1 cy1) := ⟨_, rfl⟩
            rw [← hw9]
            have HM9 := Lib.hid (HM8.out.set_ 1 (.slice Y1 ny1 cy1))
            rw [← hw9] at HM9
            clear hw9 f0 f1
            have f0 : wv9.cell? ⟨g, 2, none⟩ = some x2 := by rw [HM9.out.blk.cell]; rfl
            have f1 : wv9.frozen? ⟨g, 2, none⟩ = false := HM9.out.blk.frozen 2
            go_simp
            try go_wp2_with fail
            refine hK.out _ _ ?_ (fun hHeld => ?_)
            · try dsimp only
              all_goals trivial
            clear hK K
            refine Till.done (by kernel_rfl) ?_ _
            obtain ⟨wv10, hw10⟩ : ∃ W, W = wv9.setCell ⟨g, 2, none⟩ (.slice Y2 ny2 cy2) := ⟨_, rfl⟩
            rw [← hw10]
            have HM10 := Lib.hid (HM9.out.set_ 2 (.slice Y2 ny2 cy2))
            rw [← hw10] at HM10
            clear hw10 f0 f1
            go_wp2_with fail
            go_ret
            obtain ⟨Z', h1, h2, h3, h4⟩ := DGo.grown HGW.out HZL.out HE.out HRR.out HM10.out
            exact ⟨Z', by rw [HE.out]; rfl, by unfold addR; rw [if_pos HE.out]; exact h1, (Only.of_below HB.out).trans h2 (fun k hk => .inl hk), h3, fun k hk => (h4 k hk).imp_right (fun x => Nat.le_trans HB.out.size x)⟩
