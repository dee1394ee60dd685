/- Texts put together: Ts8, Dg5. -/
import Derived.Test.YtecpedecgcaeoaaQg20
import Derived.Test.YtecpedecgcaeoaaQg23
/- The reference's Sort and Unique: texts put where they belong. -/
namespace Go.Proofs.Ytecpedecgcaeoaa.Tx
open Go.RowKit Go.Proofs.Ytecpedecgcaeoaa.Sh

/-- A front of a slice of one's own is one's own. -/
theorem OwnV.front {E : TypeId} {w : World} {B n c : Nat} {A : Option Addr} {vs : List Value} (h : OwnV E w B (.slice A n c) vs) (k : Nat) (hk : k ≤ vs.length) (hA : A ≠ none) : OwnV E w B (.slice A k c) (vs.take k) := by
  rcases h.blk with ⟨he, _⟩ | ⟨g, c', cur, he, hb, _, hg, hc, hm, hs, ht⟩
  · injection he with e1 _ _; exact absurd e1 hA
  · injection he with e1 e2 e3
    subst e1 e3
    have el : k = (vs.take k).length := by rw [List.length_take]; omega
    conv => arg 4; rw [el]
    refine OwnV.mk hb hg (by rw [List.length_take]; omega) hm hs ?_
    rw [List.length_take, Nat.min_eq_left hk, ← ht, List.take_take, Nat.min_eq_left hk]
theorem ins_sorted {out : List ByteArray} {x : ByteArray} {k : Nat} (h : Sorted out) (hk : k ≤ out.length) (h1 : ∀ j, j < k → ∀ (hj : j < out.length), tle out[j] x = true) (h2 : ∀ j, k ≤ j → ∀ (hj : j < out.length), tle x out[j] = true) : Sorted (out.take k ++ ([x] ++ out.drop k)) := by
  refine List.pairwise_append.2 ⟨h.sublist (List.take_sublist _ _), List.pairwise_append.2 ⟨List.pairwise_singleton _ _, h.sublist (List.drop_sublist _ _), fun y hy z hz => ?_⟩, fun y hy z hz => ?_⟩
  · obtain rfl := List.mem_singleton.1 hy
    obtain ⟨i, hi, rfl⟩ := List.mem_iff_getElem.1 hz
    rw [List.length_drop] at hi
    rw [List.getElem_drop]
    exact h2 _ (by omega) _
  · obtain ⟨i, hi, rfl⟩ := List.mem_iff_getElem.1 hy
    rw [List.length_take] at hi
    rw [List.getElem_take]
    rcases List.mem_append.1 hz with hz | hz
    · obtain rfl := List.mem_singleton.1 hz
      exact h1 i (by omega) _
    · obtain ⟨j, hj, rfl⟩ := List.mem_iff_getElem.1 hz
      rw [List.length_drop] at hj
      rw [List.getElem_drop]
      exact List.pairwise_iff_getElem.1 h i (k + j) (by omega) (by omega) (by omega)
theorem ins_perm (out : List ByteArray) (x : ByteArray) (k : Nat) : (out.take k ++ ([x] ++ out.drop k)).Perm (out ++ [x]) := by
  have h1 : (out.take k ++ ([x] ++ out.drop k)).Perm ([x] ++ (out.take k ++ out.drop k)) := by
    rw [← List.append_assoc, ← List.append_assoc]
    exact (List.perm_append_comm (l₁ := out.take k) (l₂ := [x])).append_right _
  rw [List.take_append_drop] at h1
  exact h1.trans List.perm_append_comm

set_option maxRecDepth 100000 in
theorem texts_front (A : Option Addr) (l c k : Nat) (hkc : k ≤ c) (w : World) : (Instr.slice 23 (.slice A l c) none (some (.int .i64 (k : Int))) none).run Try.prog w = .ok (.slice A k c) w := by
  rw [run_slice_h w 23 A l c Try.underlying23 .i64 k (by omega) (by omega), size_str]
  simp only [Result.andThen_ok, sliced, Int.toNat_natCast]
  by_cases h : c = 0
  · subst h; simp
  · have e : A.map (fun a => a.add 0) = A := by cases A <;> simp [Addr.add]
    simp [h, e]
set_option maxRecDepth 100000 in
theorem texts_back (A : Option Addr) (l c k : Nat) (hkl : k ≤ l) (w : World) : (Instr.slice 23 (.slice A l c) (some (.int .i64 (k : Int))) none none).run Try.prog w = .ok (.slice (if c = k then A else A.map (·.add (k * 1))) (l - k) (c - k)) w := by
  rw [run_slice_l w 23 A l c Try.underlying23 .i64 k (by omega) (by omega), size_str]
  rfl
theorem ins_cases {out : List ByteArray} {x : ByteArray} {p : Nat} (hp : p ≤ out.length) (hso : Sorted out) (hge : ∀ j, p ≤ j → ∀ (hj : j < out.length), tle x out[j] = true) :
    p = 0 ∨ ∃ (r : Nat) (y : ByteArray), p = r + 1 ∧ out[r]? = some y ∧ ((tle y x = true ∧ ∀ j, j < p → ∀ (hj : j < out.length), tle out[j] x = true) ∨ (tle y x = false ∧ ∀ j, r ≤ j → ∀ (hj : j < out.length), tle x out[j] = true)) := by
  cases p with
  | zero => exact .inl rfl
  | succ r =>
    refine .inr ⟨r, out[r], rfl, List.getElem?_eq_getElem (by omega), ?_⟩
    cases h : tle out[r] x with
    | true =>
      refine .inl ⟨rfl, fun j h1 hj => ?_⟩
      rcases Nat.lt_or_ge j r with h2 | h2
      · exact tle_trans (List.pairwise_iff_getElem.1 hso j r hj (by omega) h2) h
      · obtain rfl : j = r := by omega
        exact h
    | false =>
      refine .inr ⟨rfl, fun j h1 hj => ?_⟩
      rcases Nat.lt_or_ge r j with h2 | h2
      · exact hge j (by omega) hj
      · obtain rfl : j = r := by omega
        exact (tle_not h).2
/-- What stands when a text has been put where it belongs. -/
theorem ins_own {W W1 : World} {B p co n : Nat} {Ao : Option Addr} {out : List ByteArray} (ho : OwnV 9 W B (.slice Ao n co) (out.map sv)) (hn : out.length = n) (hp : p ≤ n) (hW1 : Below W.heap.size W W1) :
    OwnV 9 W1 B (.slice Ao p co) ((out.take p).map sv) := by
  have h1 := ho.below hW1
  cases Ao with
  | none =>
    have hn0 : n = 0 ∧ co = 0 := by
      rcases ho.blk with ⟨he, _⟩ | ⟨_, _, _, he, _⟩
      · injection he with _ e2 e3; exact ⟨e2, e3⟩
      · injection he with e1 _ _; cases e1
    obtain ⟨rfl, rfl⟩ := hn0
    obtain rfl : p = 0 := by omega
    rw [List.take_zero]
    exact OwnV.nil_ _ _
  | some a =>
    have := h1.front p (by rw [List.length_map]; omega) (by intro e; cases e)
    rwa [List.map_take]

theorem one_more (x : ByteArray) (l : List ByteArray) : ∀ u ∈ [sv x] ++ l.map sv, u.oneCell' = true := fun u hu => sv_one (x :: l) u (by rw [List.map_cons]; exact hu)
theorem row_one (W : World) (x : ByteArray) : (W.alloc (.cells #[.string x] 9)).ownsRow W.heap.size 9 1 (.slice (some ⟨W.heap.size, 0, none⟩) 1 1) 1 [sv x] :=
  ⟨rfl, Or.inr ⟨W.heap.size, 1, #[.string x], rfl, Nat.le_refl _, heap_alloc_new W _, Nat.le_refl _, by unfold maxLen; omega, by simp, by simp [sv]⟩⟩
theorem row_of {w : World} {B : Nat} {v : Value} {ts : List ByteArray} (h : OwnV 9 w B v (ts.map sv)) (n : Nat) (hn : ts.length = n) : w.ownsRow B 9 1 v n (ts.map sv) := by unfold OwnV at h; rwa [List.length_map, hn] at h
theorem row_slice {w : World} {B n : Nat} {v : Value} {vs : List Value} (h : w.ownsRow B 9 1 v n vs) : ∃ A c, v = .slice A n c ∧ Reads w w.heap.size 1 A n vs := by
  have hl : vs.length = n := by have := h.1; omega
  subst hl
  have h' : OwnV 9 w B v vs := h
  obtain ⟨A, c, hv, _, _, hr⟩ := h'.slv.len
  exact ⟨A, c, hv, hr⟩
theorem row_done {w : World} {B p m : Nat} {v : Value} {out : List ByteArray} {x : ByteArray} (hp : (out.take p).length = p) (hm : 1 + (out.drop p).length = m) (h : w.ownsRow B 9 1 v (p + m) ((out.take p).map sv ++ ([sv x] ++ (out.drop p).map sv))) : OwnV 9 w B v ((out.take p ++ ([x] ++ out.drop p)).map sv) := by
  unfold OwnV
  rw [List.length_map, List.length_append, hp, List.length_append, List.length_singleton, hm, List.map_append, List.map_append]
  exact h

end Go.Proofs.Ytecpedecgcaeoaa.Tx
/- Package dag: reached, ancestors, tops. -/
set_option linter.unusedVariables false
set_option linter.unusedSimpArgs false
namespace Go.Proofs.Ytecpedecgcaeoaa.Tx
open Go.RowKit Go.Maps Go.Proofs.Ytecpedecgcaeoaa.Sh

/-- How great a graph may be. -/
structure GS (G : GR) : Prop where
  len : G.length ≤ 2000
  par : ∀ k, (parAt G k).length ≤ 200
theorem GS.cost {G : GR} (h : GS G) (ms : List Bool) (hm : ms.length = G.length) : costL (parAt G) 0 ms ≤ 400000 := by
  have := cost_small (parAt G) 200 h.par ms 0
  have h2 := h.len
  rw [hm] at this
  exact Nat.le_trans this (Nat.mul_le_mul_right 200 h2)
theorem GS.flat {G : GR} (h : GS G) : ∀ ps : List Nat, (ps.flatMap (parAt G)).length ≤ ps.length * 200
  | [] => by simp
  | p :: r => by
    have h1 := h.par p
    have h2 := GS.flat h r
    rw [List.flatMap_cons, List.length_append, List.length_cons, Nat.add_mul]
    omega
set_option maxRecDepth 100000 in
theorem ints_front (A : Option Addr) (l c k : Nat) (hkc : k ≤ c) (w : World) : (Instr.slice 31 (.slice A l c) none (some (.int .i64 (k : Int))) none).run Try.prog w = .ok (.slice A k c) w := by
  have size_int : (sizeOf (Try.prog.elem 31)).run Try.prog w = .ok 1 w := by kernel_rfl
  rw [run_slice_h w 31 A l c Try.underlying31 .i64 k (by omega) (by omega), size_int]
  simp only [Result.andThen_ok, sliced, Int.toNat_natCast]
  by_cases h : c = 0
  · subst h; simp
  · have e : A.map (fun a => a.add 0) = A := by cases A <;> simp [Addr.add]
    simp [h, e]
theorem OwnV.lenOf {E : TypeId} {w : World} {B : Nat} {v : Value} {vs : List Value} (h : OwnV E w B v vs) : Tx.lenOf v = vs.length := by
  obtain ⟨A, c, rfl, _, _⟩ := h.length
  rfl
theorem nats_len {E : TypeId} {w : World} {B : Nat} {v : Value} {ks : List Nat} (h : OwnV E w B v (ks.map nv)) : Tx.lenOf v = ks.length := by rw [h.lenOf, List.length_map]

/-- What reached hands back: its marks. -/
def MarksPost (w : World) (ms : List Bool) (e : Ending) (w' : World) : Prop := ∃ gm, e = .returned (.slice (some ⟨gm, 0, none⟩) ms.length ms.length) ∧ w.heap.size ≤ gm ∧ BlkB w' gm ms ∧ Below w.heap.size w w'
set_option maxRecDepth 100000 in
set_option maxHeartbeats 3200000 in
theorem greached_any (Z : Nat → Prop) (g : Nat) (G : GR) (v : Value) (fr : List Nat) (w : World) (h : GAt Z w g G) (hw : GW G) (hs : GS G) (hv : SlV w v (fr.map nv)) (hlt : ∀ k ∈ fr, k < G.length) (hn : fr.length ≤ 500000) :
    Calls Try.prog 37 #[.pointer (some ⟨g, 0, none⟩), v] w (MarksPost w (markL (parAt G) G.length fr)) := by
  obtain ⟨F, bm, vr, hx⟩ := h
  obtain ⟨Ar, cr, rfl, hlr, hcr⟩ := hx.slice
  have c1 := hx.c1
  have hAT := fun (W : World) (hW : Below w.heap.size w W) k hk => (hx.below hW).at_ k hk
  have hC1 := fun (W : World) (hW : Below w.heap.size w W) => (hx.below hW).c1
  have hdown := hw.down
  have hcost := hs.cost
  have hG := hs.len
  obtain ⟨n, hn'⟩ : ∃ n, G.length = n := ⟨_, rfl⟩
  rw [hn'] at hlr hAT hC1 hlt hcost hG c1 ⊢
  have hrl : ∀ k, RS (parAt G) fr k → k < n := fun k hk => hk.lt hdown hlt
  have HRL := Lib.hid hrl
  have HAT := Lib.hid hAT
  have HC1 := Lib.hid hC1
  have HCOST := Lib.hid hcost
  have hmk : ∀ w : World, (Instr.makeSlice 61 (.int .i64 (n : Int)) (.int .i64 (n : Int))).run Try.prog w = .ok (.slice (some ⟨w.heap.size, 0, none⟩) n n) (w.alloc (.cells (madeCells #[.bool false] n) 4)) := fun w => make_bools n (by omega) w
  obtain ⟨w1, hw1⟩ : ∃ w1, w1 = w.alloc (.cells (madeCells #[.bool false] n) 4) := ⟨_, rfl⟩
  have hb0 : Below w.heap.size w w1 := by rw [hw1]; exact (Below.refl _ _).alloc (Nat.le_refl _) _
  have hz1 : w1.heap.size = w.heap.size + 1 := by rw [hw1]; simp
  have hm0 : BlkB w1 w.heap.size (List.replicate n false) := by rw [hw1]; exact BlkB.made w n
  have hcl := nclone_any v fr w1 (hv.below hb0) (by omega)
  have HCL := Lib.hid hcl
  have HB0 := Lib.hid hb0
  have HM0 := Lib.hid hm0
  have HZ1 := Lib.hid hz1
  have HW1 := Lib.hid hw1
  clear hx hw hs hv hlt hn' hdown hcost hAT hC1 hrl hb0 hm0 hcl hz1 hw1
  go_enter Try.func37, Try.ntmps37
  go_wp2_with fail
  rw [← HW1.out]
  refine (HCL.out).mono ?_
  rintro e w2 ⟨v2, rfl, ho2, hb2⟩
  have HO2 := Lib.hid (ho2.base (B' := w.heap.size + 1) (by rw [HZ1.out]; exact Nat.le_refl _))
  have HB2 := Lib.hid hb2
  have hb02 : Below w.heap.size w w2 := HB0.out.trans (hb2.mono (by rw [HZ1.out]; omega))
  have HB02 := Lib.hid hb02
  have HM2 := Lib.hid (HM0.out.below hb2 (by rw [HZ1.out]; omega))
  clear ho2 hb2 hb02
  go_wp2_with fail
  go_loopw [6, 7, 8] (fun v _ _ wr => ∃ (ms : List Bool) (wl : List Nat), OwnV 3 wr (w.heap.size + 1) v (wl.map nv) ∧ BlkB wr w.heap.size ms ∧ ms.length = n ∧ WL (parAt G) fr ms wl ∧ wl.length + costL (parAt G) 0 ms ≤ 900000 ∧ Below w.heap.size w wr) (fun v _ _ wr => lenOf v + costL (parAt G) 0 (bsOf wr w.heap.size))
  case atStart =>
    refine ⟨List.replicate n false, fr, HO2.out, HM2.out, by simp, WL.start _ _ _, ?_, HB02.out⟩
    have := HCOST.out (List.replicate n false) (by simp)
    omega
  case round =>
    obtain ⟨ms, wl, ho, hm, hml, hwl, hsm, hbw⟩ := hrel
    have hwz := hbw.size
    have HO := Lib.hid ho
    have HM := Lib.hid hm
    have HML := Lib.hid hml
    have HBW := Lib.hid hbw
    have hmz := Blk.lt hm
    rcases List.eq_nil_or_concat wl with rfl | ⟨r, p, rfl⟩
    · have HWL := Lib.hid hwl
      obtain ⟨A, c, rfl, _, _⟩ := ho.length
      clear ho hm hml hwl hsm hbw
      go_wp2_with fail
      go_ret
      have e := HWL.out.done HML.out
      refine ⟨w.heap.size, ?_, Nat.le_refl _, by rw [← e]; exact HM.out, HBW.out⟩
      rw [mark_len]
      rfl
    · rw [List.concat_eq_append] at *
      have hpr : RS (parAt G) fr p := hwl.b p (List.mem_append_right _ (List.mem_singleton.2 rfl))
      have hpn := HRL.out p hpr
      obtain ⟨A, c, rfl, hlc, hcm⟩ := ho.length
      rw [List.length_map, List.length_append, List.length_singleton] at hlc
      have hslv := ho.slv
      obtain ⟨A', c', he, _, _, hR⟩ := hslv.len
      injection he with e1 e2 e3
      subst e1 e3
      rw [List.length_map] at hR
      obtain ⟨ad, rfl, hcell⟩ := nats_at hR r.length (by simp)
      rw [List.getElem_append_right (Nat.le_refl _)] at hcell
      simp only [Nat.sub_self, List.getElem_cons_zero] at hcell
      have hown' := ho.front r.length (by simp) (by simp)
      have etk : ((r ++ [p]).map nv).take r.length = r.map nv := by rw [List.map_append, List.take_left' (by rw [List.length_map])]
      rw [etk] at hown'
      have HO' := Lib.hid hown'
      have hlr2 : (List.map nv (r ++ [p])).length = r.length + 1 := by simp
      rw [hlr2]
      obtain ⟨m, hmr⟩ : ∃ m, r.length = m := ⟨_, rfl⟩
      obtain ⟨l, hl⟩ : ∃ l, m + 1 = l := ⟨_, rfl⟩
      rw [hmr] at hcell HO' hlc ⊢
      rw [hl] at hlc ⊢
      rw [List.length_append, List.length_singleton, hmr, hl] at hsm
      have HMR := Lib.hid hmr
      have HLL := Lib.hid hl
      have x0 : (0 : Int) < (l : Int) := by omega
      have x1 : (l : Int) - 1 = (m : Int) := by omega
      have x2 : (m : Int) < (l : Int) := by omega
      have x3 : (0 : Int) ≤ (m : Int) := by omega
      have x4 : (l : Int) ≤ 900000 := by omega
      have p0 : (0 : Int) ≤ (p : Int) := by omega
      have p1 : (p : Int) < (n : Int) := by omega
      have hfront := fun w => ints_front (some ad) l c m (by omega) w
      have hpm : p < ms.length := by rw [hml]; exact hpn
      have HSM := Lib.hid hsm
      cases hmp : ms[p]'hpm with
      | true =>
        have hmp' : ms[p]? = some true := by rw [List.getElem?_eq_getElem hpm, hmp]
        have cm := hm.cell p true hmp'
        have HWL := Lib.hid (hwl.old hmp')
        clear ho hm hml hwl hsm hbw hslv hR hown' etk hlr2 hmr hl hpm hmp hmp' hpr e2
        go_wp2_with fail
        go_roundw
        case rel => exact ⟨ms, r, HO'.out, HM.out, HML.out, HWL.out, by have := HSM.out; have := HMR.out; omega, HBW.out⟩
        case measure =>
          show m + _ < l + _
          have := HLL.out
          omega
      | false =>
        have hmp' : ms[p]? = some false := by rw [List.getElem?_eq_getElem hpm, hmp]
        have cm := hm.cell p false hmp'
        have cf : wr.frozen? ⟨w.heap.size, p, none⟩ = false := Blk.frozen hm p
        have HWL := Lib.hid (hwl.new_ hmp')
        have hbs : Below w.heap.size w (wr.setCell ⟨w.heap.size, p, none⟩ (.bool true)) := hbw.setCell (p := ⟨w.heap.size, p, none⟩) (Nat.le_refl _) _
        have HBS := Lib.hid hbs
        have HMS := Lib.hid (hm.set p true)
        have hapart : OwnV 3 (wr.setCell ⟨w.heap.size, p, none⟩ (.bool true)) (w.heap.size + 1) (.slice (some ad) m c) (r.map nv) := HO'.out.apart (p := ⟨w.heap.size, p, none⟩) (fun e => by have := (HO'.out.lt _ e).1; simp at this; omega) _
        have HOA := Lib.hid hapart
        have c1' := HC1.out _ hbs
        obtain ⟨adr, d, rfl, hd, _, _, k1, _⟩ := HAT.out _ hbs p hpn
        obtain ⟨Ad, cd, rfl, _, _, hRd⟩ := hd.len
        rw [List.length_map] at hRd k1
        have hcs := cost_set (parAt G) ms 0 p hmp'
        rw [Nat.zero_add] at hcs
        have HCS := Lib.hid hcs
        obtain ⟨q, hq⟩ : ∃ q, (parAt G p).length = q := ⟨_, rfl⟩
        rw [hq] at hRd k1 hcs HCS
        have HQ := Lib.hid hq
        have HRD := Lib.hid hRd
        have hsm2 : r.length + q ≤ 2000000 := by rw [hmr]; omega
        have hz2 : w.heap.size + 1 ≤ (wr.setCell ⟨w.heap.size, p, none⟩ (.bool true)).heap.size := by simp only [World.setCell, Array.size_modify]; omega
        clear ho hm hml hwl hsm hbw hslv hR hown' etk hlr2 hmr hl hpm hmp hmp' hpr e2 hbs hapart hd hRd hcs hq
        go_wp2_with (at_builtin; refine append_nats rfl (.tmp 38) (.tmp 46) rfl _ (w.heap.size + 1) (.slice (some ad) m c) r rfl HOA.out _ Ad q cd (parAt G p) rfl HRD.out hsm2 hz2 ?_; intro v3 w3 ho3 hb3; have HO3 := Lib.hid ho3; have HB3 := Lib.hid hb3; clear ho3 hb3)
        have hb4 : Below w.heap.size w w3 := HBS.out.trans (HB3.out.mono (by omega))
        have hm4 := HMS.out.below HB3.out (by omega)
        go_roundw
        case rel => exact ⟨ms.set p true, r ++ parAt G p, HO3.out, hm4, by rw [List.length_set]; exact HML.out, HWL.out, by rw [List.length_append, HMR.out, HQ.out]; have := HSM.out; have := HCS.out; have := HLL.out; omega, hb4⟩
        case measure =>
          show lenOf v3 + _ < l + _
          rw [HM.out.bs, nats_len HO3.out, hm4.bs, List.length_append, HMR.out, HQ.out]
          have := HCS.out
          have := HLL.out
          omega
end Go.Proofs.Ytecpedecgcaeoaa.Tx
