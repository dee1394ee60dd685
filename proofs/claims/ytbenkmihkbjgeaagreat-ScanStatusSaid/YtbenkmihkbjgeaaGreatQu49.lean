/- Texts put together: USc19. -/
import Derived.Test.YtbenkmihkbjgeaaGreatQu45
import Derived.Test.YtbenkmihkbjgeaaGreatQu48
import Derived.StillTailTactics
import Derived.Deep.DeepCutAuto
/- Package scan's document: Status. (mk_sc19.py wrote it.) -/
set_option linter.unusedVariables false
set_option linter.unusedSimpArgs false
namespace Go.Proofs.YtbenkmihkbjgeaaGreat.Tx
open Go.RowKit Go.Maps Go.Proofs.YtbenkmihkbjgeaaGreat.Sh S7
theorem below_only {M : Nat → Prop} {w w' : World} {B : Nat} (h : Only M w w') (hM : ∀ k, M k → B ≤ k) (hB : B ≤ w.heap.size) : Below B w w' :=
 ⟨h.os, h.tape, h.output, h.size, fun k hk => h.block k (by omega) (fun hm => by have := hM k hm; omega)⟩
set_option maxRecDepth 100000 in
theorem scg_row {T TS : TypeId} (hT : Tryz.prog.underlying TS = some (.slice T)) (hin : (Tryz.prog.info? T).map (fun i => (i.zero, i.size, i.bytes)) = some (some (.agg #[.string ⟨#[]⟩, .int .i64 0, .string ⟨#[]⟩, .int .i64 0, .string ⟨#[]⟩]), 5, 64))
  {ops : Array Oper} {o : Oper} {a : Act} {K : Act → World → Prop} {Q : Exit → Act → World → Prop} {E : Prop} (d : Nat) (hd : o.dst = some d) (hgd : o.guard = none) (s x : Operand)
  (ho : o.op = .call { callee := .builtin .append, args := #[s, x], argTypes := #[TS, TS] }) (w : World) (B : Nat) (v : Value) (l : List CgM) (hs : a.eval s = v) (hown : OwnCg T w B v l)
  (u : CgM) (g : Nat) (hg : Blk w g T #[.string (Tx.str u.path), .int .i64 u.old.1, .string (Tx.str u.old.2), .int .i64 u.new.1, .string (Tx.str u.new.2)]) (hx : a.eval x = .slice (some ⟨g, 0, none⟩) 1 1) (hsmall : l.length + 1 ≤ 2000000) (hB : B ≤ w.heap.size)
  (h : ∀ v' w', OwnCg T w' B v' (l ++ [u]) → w.grownBy w' v.ownBlock → K (a.put (some d) v') w') : if Region.wanted o (yielded ops a.tmps) = true then Oper.wp Tryz.prog o a w K Q else E := by
 obtain ⟨i0, hi, hz0, hz1, hz2⟩ := info_parts hin
 have hr : Reads w w.heap.size 5 (some ⟨g, 0, none⟩) 1 ([u].flatMap cgC) := by
  refine ⟨rfl, fun _ => ⟨_, rfl, hg.lt, fun j v hv => ?_⟩⟩
  rw [Addr.add_mid, Nat.zero_add]
  have hj : j < 5 := by have := (List.getElem?_eq_some_iff.1 hv).1; simpa [cgC] using this
  have h1 := hg.cell j
  rw [← hv]
  rw [h1]
  match j, hj with
  | 0, _ => rfl
  | 1, _ => rfl
  | 2, _ => rfl
  | 3, _ => rfl
  | 4, _ => rfl
 refine step_append_any w hgd s x TS ho B T i0 (.agg #[.string ⟨#[]⟩, .int .i64 0, .string ⟨#[]⟩, .int .i64 0, .string ⟨#[]⟩]) 5 64 hT hi hz0 hz1 hz2 rfl (by decide) v l.length _ hs hown w.heap.size (some ⟨g, 0, none⟩) 1 1 _ hx hr (cgC_one [u]) (by unfold maxLen; omega) (by omega) hB ?_
 intro v' w' h1 h2 h3
 rw [hd]
 refine h v' w' ?_ h2
 unfold OwnCg
 rw [List.length_append, List.flatMap_append]
 exact h1
theorem OwnCg.ne_blk {T T' : TypeId} {w : World} {B k : Nat} {v : Value} {l : List CgM} {cs : Array Value} (h : OwnCg T w B v l) (hb : Blk w k T' cs) (hT : T ≠ T') : v.ownBlock ≠ some k := fun hk => by
 rcases h.2 with ⟨e0, _⟩ | ⟨g', cap, cur, hv, _, hg', _⟩
 ·rw [e0] at hk; cases hk
 ·rw [hv] at hk
  injection hk with hk
  subst hk
  unfold Blk at hb
  rw [hg'] at hb
  injection hb with hb
  injection hb with _ t1 _
  exact hT t1
set_option maxRecDepth 100000 in
set_option maxHeartbeats 6400000 in
theorem dstat_any (v1 v2 : Value) (a b : List RwM) (w : World) (h1 : SlR w v1 a) (h2 : SlR w v2 b) (ha : a.length ≤ 100) (hb : b.length ≤ 100) (hfa : ∀ r ∈ a, RwFew r) (hfb : ∀ r ∈ b, RwFew r) : Calls Tryz.prog 27 #[v1, v2] w (StsP 73 a b w) := by
 have H1 := Lib.hid h1
 have H2 := Lib.hid h2
 have HUF := Lib.hid (uniq_few hfa hfb)
 have HLA := Lib.hid ha
 have HLB := Lib.hid hb
 obtain ⟨A1, c1, rfl, _⟩ := h1
 obtain ⟨A2, c2, rfl, _⟩ := h2
 clear ha hb hfa hfb
 have hpr : pathsT (preR (fun i => if i = 0 then a else b) 2) = pathsT a ++ pathsT b := by
  rw [preR_next, preR_next, pathsT_app, pathsT_app]
  rfl
 have HPR := Lib.hid hpr
 clear hpr
 obtain ⟨n1, hn1⟩ : ∃ n, a.length = n := ⟨_, rfl⟩
 obtain ⟨n2, hn2⟩ : ∃ n, b.length = n := ⟨_, rfl⟩
 have HN1 := Lib.hid hn1
 have HN2 := Lib.hid hn2
 rw [hn1] at H1 ⊢
 rw [hn2] at H2 ⊢
 clear hn1 hn2
 go_enter Tryz.func27, Tryz.ntmps27
 go_wp2_with fail
 obtain ⟨w1, hw1⟩ : ∃ W, W = w.alloc (.cells #[.slice A1 n1 c1, .slice A2 n2 c2] 51) := ⟨_, rfl⟩
 obtain ⟨ad, had⟩ : ∃ x : Addr, x = ⟨w.heap.size, 0, none⟩ := ⟨_, rfl⟩
 rw [← hw1]
 try rw [← had]
 have HB1 : Hid (Below w.heap.size w w1) := by unfold Hid; rw [hw1]; exact (Below.refl _ _).alloc (Nat.le_refl _) _
 have HC : Hid (∀ i, i < 2 → ∃ A c, w1.cell? (ad.add i) = some (.slice A ((fun i => if i = 0 then a else b) i).length c) ∧ SlR w1 (.slice A ((fun i => if i = 0 then a else b) i).length c) ((fun i => if i = 0 then a else b) i)) := by
  intro i hi
  have hk : Blk w1 w.heap.size 51 #[.slice A1 n1 c1, .slice A2 n2 c2] := by rw [hw1]; exact heap_alloc_new w _
  rw [had]
  have h2 : i = 0 ∨ i = 1 := by omega
  rcases h2 with rfl | rfl
  ·refine ⟨A1, c1, ?_, ?_⟩
   ·have h := hk.cell 0
    show _ = some (Value.slice A1 a.length c1)
    rw [HN1.out]
    exact h
   ·show SlR w1 (.slice A1 a.length c1) a
    rw [HN1.out]
    exact H1.out.below HB1.out
  ·refine ⟨A2, c2, ?_, ?_⟩
   ·have h := hk.cell 1
    show _ = some (Value.slice A2 b.length c2)
    rw [HN2.out]
    exact h
   ·show SlR w1 (.slice A2 b.length c2) b
    rw [HN2.out]
    exact H2.out.below HB1.out
 clear hw1 had
 refine (bpaths_any ad (fun i => if i = 0 then a else b) w1 HC.out (fun i => by
  have h3 := HLA.out
  have h4 := HLB.out
  show (if i = 0 then a else b).length ≤ 1000
  split <;> omega)).mono ?_
 rw [HPR.out]
 rintro e w5 ⟨vl, rfl, ho5, hb5⟩
 obtain ⟨L, hL⟩ : ∃ L, uniqT (pathsT a ++ pathsT b) = L := ⟨_, rfl⟩
 have HEL := Lib.hid hL
 rw [hL] at HUF ho5
 have HB05 := Lib.hid (HB1.out.trans (hb5.mono HB1.out.size))
 obtain ⟨vA, vc, rfl, hv1, hv2⟩ := ho5.length
 have HOL := Lib.hid ho5.slv
 have HLL : Hid (L.length ≤ 200000) := by
  have h := uniqT_len (pathsT a ++ pathsT b)
  unfold Hid
  rw [hL] at h
  have e : (pathsT a ++ pathsT b).length = a.length + b.length := by unfold pathsT; rw [List.length_append, List.length_map, List.length_map]
  have := HLA.out
  have := HLB.out
  omega
 simp only [List.length_map] at hv1 HOL ⊢
 obtain ⟨M, hM⟩ : ∃ k, L.length = k := ⟨_, rfl⟩
 have HM := Lib.hid hM
 rw [hM] at hv1 HOL HLL ⊢
 unfold maxLen at hv2
 have hmx : M ≤ 200000 := HLL.out
 clear hM ho5 hb5 hL HB1 HC
 go_wp2_with fail
 go_loopw [6, 7] (fun v6 x wr => ∃ (i : Nat) (acc : Value), i ≤ M ∧ v6 = acc ∧ x = .int .i64 (i : Int) ∧ OwnCg 73 wr w5.heap.size acc (stsM a b (L.take i)) ∧ Below w5.heap.size w5 wr) (fun _ x _ => M - (intOf x).toNat)
 case atStart => exact ⟨0, _, Nat.zero_le _, rfl, rfl, OwnCg.nil_ _ _ _, Below.refl _ _⟩
 case round =>
  obtain ⟨i, acc, hi, rfl, rfl, hov, hb⟩ := hrel
  have HB := Lib.hid hb
  have HOV := Lib.hid hov
  clear hb hov
  have z0 : (0 : Int) ≤ (i : Int) := by omega
  by_cases hlt : i < M
  ·have z1 : (i : Int) < (M : Int) := by omega
   have hil : i < L.length := by have := HM.out; omega
   have hov := HOL.out
   obtain ⟨A7, c7, he, _, _, hrd⟩ := hov.len
   injection he with he1 he2 he3
   subst he1
   clear he2 he3
   simp only [List.length_map] at hrd
   obtain ⟨ad, rfl, hcell⟩ := texts_at hrd i hil
   obtain ⟨x, hx⟩ : ∃ x, L[i] = x := ⟨_, rfl⟩
   rw [hx] at hcell
   have HGX : Hid (L[i]? = some x) := by unfold Hid; rw [List.getElem?_eq_getElem hil, hx]
   obtain ⟨xl, rfl, hxl⟩ := HUF.out x (List.mem_of_getElem? HGX.out)
   have HNX := Lib.hid (stsM_next (a := a) (b := b) HGX.out)
   rw [Tx.str_toList] at HNX
   obtain ⟨ea, hea⟩ : ∃ y, getM a xl = y := ⟨_, rfl⟩
   obtain ⟨eb, heb⟩ : ∃ y, getM b xl = y := ⟨_, rfl⟩
   rw [hea, heb] at HNX
   obtain ⟨om, oi⟩ := ea
   obtain ⟨nm, ni⟩ := eb
   have HEA := Lib.hid hea
   have HEB := Lib.hid heb
   have HCG : Hid (cgM a b (Tx.str xl) = ⟨xl, (om, oi), (nm, ni)⟩) := by unfold Hid cgM; rw [Tx.str_toList, hea, heb]
   have HTC : Hid (∀ W, Below w5.heap.size w5 W → W.cell? (ad.add i) = some (.string (Tx.str xl))) := fun W hW => (hW.cell (World.block_lt_of_cell? w5 _ hcell)).trans hcell
   have HALL : Hid (∀ W, Below wr.heap.size wr W → Below w.heap.size w W) := fun W hW => (HB05.out.trans (HB.out.mono HB05.out.size)).trans (hW.mono (Nat.le_trans HB05.out.size HB.out.size))
   have HZ : Hid (Below wr.heap.size wr wr.drew) := (Below.refl _ _).drew
   clear hil hx hov hrd hea heb hcell
   go_upto_region 6 with (fail)
   go_cut [8, 9] (fun p q wx => ∃ g8 g9, p = .pointer (some ⟨g8, 0, none⟩) ∧ q = .pointer (some ⟨g9, 0, none⟩) ∧ Blk wx g8 70 #[.int .i64 om, .string (Tx.str oi)] ∧ Blk wx g9 70 #[.int .i64 nm, .string (Tx.str ni)] ∧ Below wr.heap.size wr wx)
   case first =>
    refine wp_region_held_drew (S := (fun W : World => Below wr.heap.size wr W)) (by kernel_rfl) ?_ (fun hHeld => ?_)
    ·(try dsimp only); exact HZ.out
    refine take_at (i := 0) (d := 20) (v := ?_) rfl (by kernel_rfl) (hy := .inl ⟨by kernel_rfl, ?_⟩) (h := ?_)
    rotate_left
    ·intro W hSw; (try dsimp only at hSw); go_simp; first | done | with_reducible rfl
    try simp only [Act.put, List.setIfInBounds_toArray, List.set_cons_zero, List.set_cons_succ]
    refine take_at (i := 1) (d := 21) (v := ?_) rfl (by kernel_rfl) (hy := .inl ⟨by kernel_rfl, ?_⟩) (h := ?_)
    rotate_left
    ·intro W hSw; (try dsimp only at hSw); go_simp; first | done | with_reducible rfl
    try simp only [Act.put, List.setIfInBounds_toArray, List.set_cons_zero, List.set_cons_succ]
    refine take_at (i := 2) (d := 22) (v := ?_) rfl (by kernel_rfl) (hy := .inl ⟨by kernel_rfl, ?_⟩) (h := ?_)
    rotate_left
    ·intro W hSw; (try dsimp only at hSw); go_simp; first | done | with_reducible rfl
    try simp only [Act.put, List.setIfInBounds_toArray, List.set_cons_zero, List.set_cons_succ]
    refine take_at (i := 3) (d := 23) (v := ?_) rfl (by kernel_rfl) (hy := .inl ⟨by kernel_rfl, ?_⟩) (h := ?_)
    rotate_left
    ·intro W hSw; (try dsimp only at hSw); go_simp; first | done | with_reducible rfl
    try simp only [Act.put, List.setIfInBounds_toArray, List.set_cons_zero, List.set_cons_succ]
    refine take_at (i := 4) (d := 24) (v := ?_) rfl (by kernel_rfl) (hy := .inl ⟨by kernel_rfl, ?_⟩) (h := ?_)
    rotate_left
    ·intro W hSw
     try dsimp only at hSw
     have hc9 := HTC.out _ (HB.out.trans (hSw.mono HB.out.size))
     go_simp
     first | done | with_reducible rfl
    try simp only [Act.put, List.setIfInBounds_toArray, List.set_cons_zero, List.set_cons_succ]
    refine take_at (i := 6) (d := 26) (v := ?_) rfl (by kernel_rfl) (hy := .inl ⟨by kernel_rfl, ?_⟩) (h := ?_)
    rotate_left
    ·intro W hSw; (try dsimp only at hSw); go_simp; first | done | with_reducible rfl
    try simp only [Act.put, List.setIfInBounds_toArray, List.set_cons_zero, List.set_cons_succ]
    refine take_at (i := 7) (d := 27) (v := ?_) rfl (by kernel_rfl) (hy := .inl ⟨by kernel_rfl, ?_⟩) (h := ?_)
    rotate_left
    ·intro W hSw; (try dsimp only at hSw); go_simp; first | done | with_reducible rfl
    try simp only [Act.put, List.setIfInBounds_toArray, List.set_cons_zero, List.set_cons_succ]
    refine take_at (i := 8) (d := 28) (v := ?_) rfl (by kernel_rfl) (hy := .inl ⟨by kernel_rfl, ?_⟩) (h := ?_)
    rotate_left
    ·intro W hSw; (try dsimp only at hSw); go_simp; first | done | with_reducible rfl
    try simp only [Act.put, List.setIfInBounds_toArray, List.set_cons_zero, List.set_cons_succ]
    refine take_at (i := 9) (d := 29) (v := ?_) rfl (by kernel_rfl) (hy := .inl ⟨by kernel_rfl, ?_⟩) (h := ?_)
    rotate_left
    ·intro W hSw; (try dsimp only at hSw); go_simp; first | done | with_reducible rfl
    try simp only [Act.put, List.setIfInBounds_toArray, List.set_cons_zero, List.set_cons_succ]
    refine take_at (i := 10) (d := 30) (v := ?_) rfl (by kernel_rfl) (hy := .inl ⟨by kernel_rfl, ?_⟩) (h := ?_)
    rotate_left
    ·intro W hSw
     try dsimp only at hSw
     have hc9 := HTC.out _ (HB.out.trans (hSw.mono HB.out.size))
     go_simp
     first | done | with_reducible rfl
    try simp only [Act.put, List.setIfInBounds_toArray, List.set_cons_zero, List.set_cons_succ]
    refine wpAnyH_ready (rs := [5, 12, 13]) (by kernel_rfl) (by simp) (AllReadyH.cons rfl (fun K hK => ?_) (AllReadyH.cons rfl (fun K hK => ?_) (AllReadyH.cons rfl (fun K hK => ?_) AllReadyH.nil)))
    ·go_simp
     refine (rget_any _ a xl _ (H1.out.below (HALL.out _ HZ.out))).mono ?_
     rw [show GetP a xl wr.drew = fun e w' => e = .returned (entV (getM a xl)) ∧ Below (wr.drew).heap.size (wr.drew) w' from rfl, HEA.out]
     unfold entV
     dsimp only
     rintro e wa ⟨rfl, hb⟩
     replace HZ := Lib.hid (HZ.out.trans (hb.mono HZ.out.size))
     clear hb
     try go_wp2_with fail
     refine hK.out _ _ ?_ (fun hHeld => ?_)
     ·(try dsimp only); exact HZ.out
     clear hK K
     try simp only [Act.put, List.setIfInBounds_toArray, List.set_cons_zero, List.set_cons_succ]
     refine wpAnyH_ready (rs := [11, 12, 13]) (by kernel_rfl) (by simp) (AllReadyH.cons rfl (fun K hK => ?_) (AllReadyH.cons rfl (fun K hK => ?_) (AllReadyH.cons rfl (fun K hK => ?_) AllReadyH.nil)))
     ·go_simp
      refine (rget_any _ b xl _ (H2.out.below (HALL.out _ HZ.out))).mono ?_
      rw [show GetP b xl wa = fun e w' => e = .returned (entV (getM b xl)) ∧ Below (wa).heap.size (wa) w' from rfl, HEB.out]
      unfold entV
      dsimp only
      rintro e wb ⟨rfl, hb⟩
      replace HZ := Lib.hid (HZ.out.trans (hb.mono HZ.out.size))
      clear hb
      try go_wp2_with fail
      refine hK.out _ _ ?_ (fun hHeld => ?_)
      ·(try dsimp only); exact HZ.out
      clear hK K
      try simp only [Act.put, List.setIfInBounds_toArray, List.set_cons_zero, List.set_cons_succ]
      refine wpAnyH_ready (rs := [12, 13]) (by kernel_rfl) (by simp) (AllReadyH.cons rfl (fun K hK => ?_) (AllReadyH.cons rfl (fun K hK => ?_) AllReadyH.nil))
      ·go_simp
       obtain ⟨W8, hW⟩ : ∃ X, X = World.alloc wb (.cells #[.int .i64 0, .string ⟨#[]⟩] 70) := ⟨_, rfl⟩
       obtain ⟨g8, hg⟩ : ∃ k, k = (wb).heap.size := ⟨_, rfl⟩
       try rw [← hW]
       try rw [← hg]
       have HK8 : Hid (Blk W8 g8 70 #[.int .i64 0, .string ⟨#[]⟩]) := by unfold Hid; rw [hW, hg]; exact heap_alloc_new (wb) _
       have HGg8 : Hid (wr.heap.size ≤ g8) := by unfold Hid; rw [hg]; exact HZ.out.size
       replace HZ : Hid (Below wr.heap.size wr W8) := by unfold Hid; rw [hW]; exact (show Below wr.heap.size wr (World.alloc (wb) _) from HZ.out.alloc HZ.out.size _)
       clear hW hg
       try go_wp2_with fail
       refine hK.out _ _ ?_ (fun hHeld => ?_)
       ·(try dsimp only); exact HZ.out
       clear hK K
       try simp only [Act.put, List.setIfInBounds_toArray, List.set_cons_zero, List.set_cons_succ]
       refine wpAnyH_ready (rs := [13]) (by kernel_rfl) (by simp) (AllReadyH.cons rfl (fun K hK => ?_) AllReadyH.nil)
       go_simp
       obtain ⟨W9, hW⟩ : ∃ X, X = World.alloc W8 (.cells #[.int .i64 0, .string ⟨#[]⟩] 70) := ⟨_, rfl⟩
       obtain ⟨g9, hg⟩ : ∃ k, k = (W8).heap.size := ⟨_, rfl⟩
       try rw [← hW]
       try rw [← hg]
       have HK9 : Hid (Blk W9 g9 70 #[.int .i64 0, .string ⟨#[]⟩]) := by unfold Hid; rw [hW, hg]; exact heap_alloc_new (W8) _
       have HNE : Hid (g8 ≠ g9) := fun e => by have := HK8.out.lt; omega
       replace HK8 : Hid (Blk W9 g8 70 #[.int .i64 0, .string ⟨#[]⟩]) := by unfold Hid; rw [hW]; exact HK8.out.alloc _
       have HGg9 : Hid (wr.heap.size ≤ g9) := by unfold Hid; rw [hg]; exact HZ.out.size
       replace HZ : Hid (Below wr.heap.size wr W9) := by unfold Hid; rw [hW]; exact (show Below wr.heap.size wr (World.alloc (W8) _) from HZ.out.alloc HZ.out.size _)
       clear hW hg
       try go_wp2_with fail
       refine hK.out _ _ ?_ (fun hHeld => ?_)
       ·(try dsimp only); exact HZ.out
       clear hK K
       try simp only [Act.put, List.setIfInBounds_toArray, List.set_cons_zero, List.set_cons_succ]
       refine wpAnyH_ready (rs := [14]) (by kernel_rfl) (by simp) (AllReadyH.cons rfl (fun K hK => ?_) AllReadyH.nil)
       have x0 := HK8.out.cell 0
       have x1 := HK8.out.cell 1
       have f0 : (W9).frozen? ⟨g8, 0, none⟩ = false := HK8.out.frozen 0
       have f1 : (W9).frozen? ⟨g8, 1, none⟩ = false := HK8.out.frozen 1
       go_simp
       obtain ⟨WS, hW⟩ : ∃ X, X = ((W9).setCell ⟨g8, 0, none⟩ (.int .i64 om)).setCell ⟨g8, 1, none⟩ (.string (Tx.str oi)) := ⟨_, rfl⟩
       try rw [← hW]
       have ho : Only (fun k => k = g8) (W9) WS := by rw [hW]; exact ((Only.refl (fun k => k = g8) _).set_ (.inl rfl) _).set_ (.inl rfl) _
       have hz : Below wr.heap.size wr WS := by rw [hW]; exact ((((Only.of_below (M := fun _ => False) HZ.out).set_ (.inr HGg8.out) _).set_ (.inr HGg8.out) _)).below
       replace HK9 := Lib.hid (ho.blk HK9.out (fun e => HNE.out e.symm))
       replace HK8 : Hid (Blk WS g8 70 #[.int .i64 om, .string (Tx.str oi)]) := by unfold Hid; rw [hW]; have h := (HK8.out.set_ 0 (.int .i64 om)).set_ 1 (.string (Tx.str oi)); simp at h; exact h
       replace HZ := Lib.hid hz
       clear hW ho hz x0 x1 f0 f1
       try go_wp2_with fail
       refine hK.out _ _ ?_ (fun hHeld => ?_)
       ·(try dsimp only); exact HZ.out
       clear hK K
       refine wpAnyH_ready (rs := [15]) (by kernel_rfl) (by simp) (AllReadyH.cons rfl (fun K hK => ?_) AllReadyH.nil)
       have x0 := HK9.out.cell 0
       have x1 := HK9.out.cell 1
       have f0 : (WS).frozen? ⟨g9, 0, none⟩ = false := HK9.out.frozen 0
       have f1 : (WS).frozen? ⟨g9, 1, none⟩ = false := HK9.out.frozen 1
       go_simp
       obtain ⟨WT, hW⟩ : ∃ X, X = ((WS).setCell ⟨g9, 0, none⟩ (.int .i64 nm)).setCell ⟨g9, 1, none⟩ (.string (Tx.str ni)) := ⟨_, rfl⟩
       try rw [← hW]
       have ho : Only (fun k => k = g9) (WS) WT := by rw [hW]; exact ((Only.refl (fun k => k = g9) _).set_ (.inl rfl) _).set_ (.inl rfl) _
       have hz : Below wr.heap.size wr WT := by rw [hW]; exact ((((Only.of_below (M := fun _ => False) HZ.out).set_ (.inr HGg9.out) _).set_ (.inr HGg9.out) _)).below
       replace HK8 := Lib.hid (ho.blk HK8.out (fun e => HNE.out e))
       replace HK9 : Hid (Blk WT g9 70 #[.int .i64 nm, .string (Tx.str ni)]) := by unfold Hid; rw [hW]; have h := (HK9.out.set_ 0 (.int .i64 nm)).set_ 1 (.string (Tx.str ni)); simp at h; exact h
       replace HZ := Lib.hid hz
       clear hW ho hz x0 x1 f0 f1
       try go_wp2_with fail
       refine hK.out _ _ ?_ (fun hHeld => ?_)
       ·(try dsimp only); exact HZ.out
       clear hK K
       refine wpAnyH_done (by kernel_rfl) ?_ _
       try go_wp2_with fail
       go_meet
       exact ⟨g8, g9, rfl, rfl, HK8.out, HK9.out, HZ.out⟩
      ·go_simp
       obtain ⟨W9, hW⟩ : ∃ X, X = World.alloc wb (.cells #[.int .i64 0, .string ⟨#[]⟩] 70) := ⟨_, rfl⟩
       obtain ⟨g9, hg⟩ : ∃ k, k = (wb).heap.size := ⟨_, rfl⟩
       try rw [← hW]
       try rw [← hg]
       have HK9 : Hid (Blk W9 g9 70 #[.int .i64 0, .string ⟨#[]⟩]) := by unfold Hid; rw [hW, hg]; exact heap_alloc_new (wb) _
       have HGg9 : Hid (wr.heap.size ≤ g9) := by unfold Hid; rw [hg]; exact HZ.out.size
       replace HZ : Hid (Below wr.heap.size wr W9) := by unfold Hid; rw [hW]; exact (show Below wr.heap.size wr (World.alloc (wb) _) from HZ.out.alloc HZ.out.size _)
       clear hW hg
       try go_wp2_with fail
       refine hK.out _ _ ?_ (fun hHeld => ?_)
       ·(try dsimp only); exact HZ.out
       clear hK K
       try simp only [Act.put, List.setIfInBounds_toArray, List.set_cons_zero, List.set_cons_succ]
       refine wpAnyH_ready (rs := [12]) (by kernel_rfl) (by simp) (AllReadyH.cons rfl (fun K hK => ?_) AllReadyH.nil)
       go_simp
       obtain ⟨W8, hW⟩ : ∃ X, X = World.alloc W9 (.cells #[.int .i64 0, .string ⟨#[]⟩] 70) := ⟨_, rfl⟩
       obtain ⟨g8, hg⟩ : ∃ k, k = (W9).heap.size := ⟨_, rfl⟩
       try rw [← hW]
       try rw [← hg]
       have HK8 : Hid (Blk W8 g8 70 #[.int .i64 0, .string ⟨#[]⟩]) := by unfold Hid; rw [hW, hg]; exact heap_alloc_new (W9) _
       have HNE : Hid (g8 ≠ g9) := fun e => by have := HK9.out.lt; omega
       replace HK9 : Hid (Blk W8 g9 70 #[.int .i64 0, .string ⟨#[]⟩]) := by unfold Hid; rw [hW]; exact HK9.out.alloc _
       have HGg8 : Hid (wr.heap.size ≤ g8) := by unfold Hid; rw [hg]; exact HZ.out.size
       replace HZ : Hid (Below wr.heap.size wr W8) := by unfold Hid; rw [hW]; exact (show Below wr.heap.size wr (World.alloc (W9) _) from HZ.out.alloc HZ.out.size _)
       clear hW hg
       try go_wp2_with fail
       refine hK.out _ _ ?_ (fun hHeld => ?_)
       ·(try dsimp only); exact HZ.out
       clear hK K
       try simp only [Act.put, List.setIfInBounds_toArray, List.set_cons_zero, List.set_cons_succ]
       refine wpAnyH_ready (rs := [14]) (by kernel_rfl) (by simp) (AllReadyH.cons rfl (fun K hK => ?_) AllReadyH.nil)
       have x0 := HK8.out.cell 0
       have x1 := HK8.out.cell 1
       have f0 : (W8).frozen? ⟨g8, 0, none⟩ = false := HK8.out.frozen 0
       have f1 : (W8).frozen? ⟨g8, 1, none⟩ = false := HK8.out.frozen 1
       go_simp
       obtain ⟨WS, hW⟩ : ∃ X, X = ((W8).setCell ⟨g8, 0, none⟩ (.int .i64 om)).setCell ⟨g8, 1, none⟩ (.string (Tx.str oi)) := ⟨_, rfl⟩
       try rw [← hW]
       have ho : Only (fun k => k = g8) (W8) WS := by rw [hW]; exact ((Only.refl (fun k => k = g8) _).set_ (.inl rfl) _).set_ (.inl rfl) _
       have hz : Below wr.heap.size wr WS := by rw [hW]; exact ((((Only.of_below (M := fun _ => False) HZ.out).set_ (.inr HGg8.out) _).set_ (.inr HGg8.out) _)).below
       replace HK9 := Lib.hid (ho.blk HK9.out (fun e => HNE.out e.symm))
       replace HK8 : Hid (Blk WS g8 70 #[.int .i64 om, .string (Tx.str oi)]) := by unfold Hid; rw [hW]; have h := (HK8.out.set_ 0 (.int .i64 om)).set_ 1 (.string (Tx.str oi)); simp at h; exact h
       replace HZ := Lib.hid hz
       clear hW ho hz x0 x1 f0 f1
       try go_wp2_with fail
       refine hK.out _ _ ?_ (fun hHeld => ?_)
       ·(try dsimp only); exact HZ.out
       clear hK K
       refine wpAnyH_ready (rs := [15]) (by kernel_rfl) (by simp) (AllReadyH.cons rfl (fun K hK => ?_) AllReadyH.nil)
       have x0 := HK9.out.cell 0
       have x1 := HK9.out.cell 1
       have f0 : (WS).frozen? ⟨g9, 0, none⟩ = false := HK9.out.frozen 0
       have f1 : (WS).frozen? ⟨g9, 1, none⟩ = false := HK9.out.frozen 1
       go_simp
       obtain ⟨WT, hW⟩ : ∃ X, X = ((WS).setCell ⟨g9, 0, none⟩ (.int .i64 nm)).setCell ⟨g9, 1, none⟩ (.string (Tx.str ni)) := ⟨_, rfl⟩
       try rw [← hW]
       have ho : Only (fun k => k = g9) (WS) WT := by rw [hW]; exact ((Only.refl (fun k => k = g9) _).set_ (.inl rfl) _).set_ (.inl rfl) _
       have hz : Below wr.heap.size wr WT := by rw [hW]; exact ((((Only.of_below (M := fun _ => False) HZ.out).set_ (.inr HGg9.out) _).set_ (.inr HGg9.out) _)).below
       replace HK8 := Lib.hid (ho.blk HK8.out (fun e => HNE.out e))
       replace HK9 : Hid (Blk WT g9 70 #[.int .i64 nm, .string (Tx.str ni)]) := by unfold Hid; rw [hW]; have h := (HK9.out.set_ 0 (.int .i64 nm)).set_ 1 (.string (Tx.str ni)); simp at h; exact h
       replace HZ := Lib.hid hz
       clear hW ho hz x0 x1 f0 f1
       try go_wp2_with fail
       refine hK.out _ _ ?_ (fun hHeld => ?_)
       ·(try dsimp only); exact HZ.out
       clear hK K
       refine wpAnyH_done (by kernel_rfl) ?_ _
       try go_wp2_with fail
       go_meet
       exact ⟨g8, g9, rfl, rfl, HK8.out, HK9.out, HZ.out⟩
     ·go_simp
      obtain ⟨W8, hW⟩ : ∃ X, X = World.alloc wa (.cells #[.int .i64 0, .string ⟨#[]⟩] 70) := ⟨_, rfl⟩
      obtain ⟨g8, hg⟩ : ∃ k, k = (wa).heap.size := ⟨_, rfl⟩
      try rw [← hW]
      try rw [← hg]
      have HK8 : Hid (Blk W8 g8 70 #[.int .i64 0, .string ⟨#[]⟩]) := by unfold Hid; rw [hW, hg]; exact heap_alloc_new (wa) _
      have HGg8 : Hid (wr.heap.size ≤ g8) := by unfold Hid; rw [hg]; exact HZ.out.size
      replace HZ : Hid (Below wr.heap.size wr W8) := by unfold Hid; rw [hW]; exact (show Below wr.heap.size wr (World.alloc (wa) _) from HZ.out.alloc HZ.out.size _)
      clear hW hg
      try go_wp2_with fail
      refine hK.out _ _ ?_ (fun hHeld => ?_)
      ·(try dsimp only); exact HZ.out
      clear hK K
      try simp only [Act.put, List.setIfInBounds_toArray, List.set_cons_zero, List.set_cons_succ]
      refine wpAnyH_ready (rs := [11, 13]) (by kernel_rfl) (by simp) (AllReadyH.cons rfl (fun K hK => ?_) (AllReadyH.cons rfl (fun K hK => ?_) AllReadyH.nil))
      ·go_simp
       refine (rget_any _ b xl _ (H2.out.below (HALL.out _ HZ.out))).mono ?_
       rw [show GetP b xl W8 = fun e w' => e = .returned (entV (getM b xl)) ∧ Below (W8).heap.size (W8) w' from rfl, HEB.out]
       unfold entV
       dsimp only
       rintro e wb ⟨rfl, hb⟩
       replace HK8 := Lib.hid (HK8.out.below hb HK8.out.lt)
       replace HZ := Lib.hid (HZ.out.trans (hb.mono HZ.out.size))
       clear hb
       try go_wp2_with fail
       refine hK.out _ _ ?_ (fun hHeld => ?_)
       ·(try dsimp only); exact HZ.out
       clear hK K
       try simp only [Act.put, List.setIfInBounds_toArray, List.set_cons_zero, List.set_cons_succ]
       refine wpAnyH_ready (rs := [13]) (by kernel_rfl) (by simp) (AllReadyH.cons rfl (fun K hK => ?_) AllReadyH.nil)
       go_simp
       obtain ⟨W9, hW⟩ : ∃ X, X = World.alloc wb (.cells #[.int .i64 0, .string ⟨#[]⟩] 70) := ⟨_, rfl⟩
       obtain ⟨g9, hg⟩ : ∃ k, k = (wb).heap.size := ⟨_, rfl⟩
       try rw [← hW]
       try rw [← hg]
       have HK9 : Hid (Blk W9 g9 70 #[.int .i64 0, .string ⟨#[]⟩]) := by unfold Hid; rw [hW, hg]; exact heap_alloc_new (wb) _
       have HNE : Hid (g8 ≠ g9) := fun e => by have := HK8.out.lt; omega
       replace HK8 : Hid (Blk W9 g8 70 #[.int .i64 0, .string ⟨#[]⟩]) := by unfold Hid; rw [hW]; exact HK8.out.alloc _
       have HGg9 : Hid (wr.heap.size ≤ g9) := by unfold Hid; rw [hg]; exact HZ.out.size
       replace HZ : Hid (Below wr.heap.size wr W9) := by unfold Hid; rw [hW]; exact (show Below wr.heap.size wr (World.alloc (wb) _) from HZ.out.alloc HZ.out.size _)
       clear hW hg
       try go_wp2_with fail
       refine hK.out _ _ ?_ (fun hHeld => ?_)
       ·(try dsimp only); exact HZ.out
       clear hK K
       try simp only [Act.put, List.setIfInBounds_toArray, List.set_cons_zero, List.set_cons_succ]
       refine wpAnyH_ready (rs := [14]) (by kernel_rfl) (by simp) (AllReadyH.cons rfl (fun K hK => ?_) AllReadyH.nil)
       have x0 := HK8.out.cell 0
       have x1 := HK8.out.cell 1
       have f0 : (W9).frozen? ⟨g8, 0, none⟩ = false := HK8.out.frozen 0
       have f1 : (W9).frozen? ⟨g8, 1, none⟩ = false := HK8.out.frozen 1
       go_simp
       obtain ⟨WS, hW⟩ : ∃ X, X = ((W9).setCell ⟨g8, 0, none⟩ (.int .i64 om)).setCell ⟨g8, 1, none⟩ (.string (Tx.str oi)) := ⟨_, rfl⟩
       try rw [← hW]
       have ho : Only (fun k => k = g8) (W9) WS := by rw [hW]; exact ((Only.refl (fun k => k = g8) _).set_ (.inl rfl) _).set_ (.inl rfl) _
       have hz : Below wr.heap.size wr WS := by rw [hW]; exact ((((Only.of_below (M := fun _ => False) HZ.out).set_ (.inr HGg8.out) _).set_ (.inr HGg8.out) _)).below
       replace HK9 := Lib.hid (ho.blk HK9.out (fun e => HNE.out e.symm))
       replace HK8 : Hid (Blk WS g8 70 #[.int .i64 om, .string (Tx.str oi)]) := by unfold Hid; rw [hW]; have h := (HK8.out.set_ 0 (.int .i64 om)).set_ 1 (.string (Tx.str oi)); simp at h; exact h
       replace HZ := Lib.hid hz
       clear hW ho hz x0 x1 f0 f1
       try go_wp2_with fail
       refine hK.out _ _ ?_ (fun hHeld => ?_)
       ·(try dsimp only); exact HZ.out
       clear hK K
       refine wpAnyH_ready (rs := [15]) (by kernel_rfl) (by simp) (AllReadyH.cons rfl (fun K hK => ?_) AllReadyH.nil)
       have x0 := HK9.out.cell 0
       have x1 := HK9.out.cell 1
       have f0 : (WS).frozen? ⟨g9, 0, none⟩ = false := HK9.out.frozen 0
       have f1 : (WS).frozen? ⟨g9, 1, none⟩ = false := HK9.out.frozen 1
       go_simp
       obtain ⟨WT, hW⟩ : ∃ X, X = ((WS).setCell ⟨g9, 0, none⟩ (.int .i64 nm)).setCell ⟨g9, 1, none⟩ (.string (Tx.str ni)) := ⟨_, rfl⟩
       try rw [← hW]
       have ho : Only (fun k => k = g9) (WS) WT := by rw [hW]; exact ((Only.refl (fun k => k = g9) _).set_ (.inl rfl) _).set_ (.inl rfl) _
       have hz : Below wr.heap.size wr WT := by rw [hW]; exact ((((Only.of_below (M := fun _ => False) HZ.out).set_ (.inr HGg9.out) _).set_ (.inr HGg9.out) _)).below
       replace HK8 := Lib.hid (ho.blk HK8.out (fun e => HNE.out e))
       replace HK9 : Hid (Blk WT g9 70 #[.int .i64 nm, .string (Tx.str ni)]) := by unfold Hid; rw [hW]; have h := (HK9.out.set_ 0 (.int .i64 nm)).set_ 1 (.string (Tx.str ni)); simp at h; exact h
       replace HZ := Lib.hid hz
       clear hW ho hz x0 x1 f0 f1
       try go_wp2_with fail
       refine hK.out _ _ ?_ (fun hHeld => ?_)
       ·(try dsimp only); exact HZ.out
       clear hK K
       refine wpAnyH_done (by kernel_rfl) ?_ _
       try go_wp2_with fail
       go_meet
       exact ⟨g8, g9, rfl, rfl, HK8.out, HK9.out, HZ.out⟩
      ·go_simp
       obtain ⟨W9, hW⟩ : ∃ X, X = World.alloc W8 (.cells #[.int .i64 0, .string ⟨#[]⟩] 70) := ⟨_, rfl⟩
       obtain ⟨g9, hg⟩ : ∃ k, k = (W8).heap.size := ⟨_, rfl⟩
       try rw [← hW]
       try rw [← hg]
       have HK9 : Hid (Blk W9 g9 70 #[.int .i64 0, .string ⟨#[]⟩]) := by unfold Hid; rw [hW, hg]; exact heap_alloc_new (W8) _
       have HNE : Hid (g8 ≠ g9) := fun e => by have := HK8.out.lt; omega
       replace HK8 : Hid (Blk W9 g8 70 #[.int .i64 0, .string ⟨#[]⟩]) := by unfold Hid; rw [hW]; exact HK8.out.alloc _
       have HGg9 : Hid (wr.heap.size ≤ g9) := by unfold Hid; rw [hg]; exact HZ.out.size
       replace HZ : Hid (Below wr.heap.size wr W9) := by unfold Hid; rw [hW]; exact (show Below wr.heap.size wr (World.alloc (W8) _) from HZ.out.alloc HZ.out.size _)
       clear hW hg
       try go_wp2_with fail
       refine hK.out _ _ ?_ (fun hHeld => ?_)
       ·(try dsimp only); exact HZ.out
       clear hK K
       try simp only [Act.put, List.setIfInBounds_toArray, List.set_cons_zero, List.set_cons_succ]
       refine wpAnyH_ready (rs := [11]) (by kernel_rfl) (by simp) (AllReadyH.cons rfl (fun K hK => ?_) AllReadyH.nil)
       go_simp
       refine (rget_any _ b xl _ (H2.out.below (HALL.out _ HZ.out))).mono ?_
       rw [show GetP b xl W9 = fun e w' => e = .returned (entV (getM b xl)) ∧ Below (W9).heap.size (W9) w' from rfl, HEB.out]
       unfold entV
       dsimp only
       rintro e wb ⟨rfl, hb⟩
       replace HK8 := Lib.hid (HK8.out.below hb HK8.out.lt)
       replace HK9 := Lib.hid (HK9.out.below hb HK9.out.lt)
       replace HZ := Lib.hid (HZ.out.trans (hb.mono HZ.out.size))
       clear hb
       try go_wp2_with fail
       refine hK.out _ _ ?_ (fun hHeld => ?_)
       ·(try dsimp only); exact HZ.out
       clear hK K
       try simp only [Act.put, List.setIfInBounds_toArray, List.set_cons_zero, List.set_cons_succ]
       refine wpAnyH_ready (rs := [14]) (by kernel_rfl) (by simp) (AllReadyH.cons rfl (fun K hK => ?_) AllReadyH.nil)
       have x0 := HK8.out.cell 0
       have x1 := HK8.out.cell 1
       have f0 : (wb).frozen? ⟨g8, 0, none⟩ = false := HK8.out.frozen 0
       have f1 : (wb).frozen? ⟨g8, 1, none⟩ = false := HK8.out.frozen 1
       go_simp
       obtain ⟨WS, hW⟩ : ∃ X, X = ((wb).setCell ⟨g8, 0, none⟩ (.int .i64 om)).setCell ⟨g8, 1, none⟩ (.string (Tx.str oi)) := ⟨_, rfl⟩
       try rw [← hW]
       have ho : Only (fun k => k = g8) (wb) WS := by rw [hW]; exact ((Only.refl (fun k => k = g8) _).set_ (.inl rfl) _).set_ (.inl rfl) _
       have hz : Below wr.heap.size wr WS := by rw [hW]; exact ((((Only.of_below (M := fun _ => False) HZ.out).set_ (.inr HGg8.out) _).set_ (.inr HGg8.out) _)).below
       replace HK9 := Lib.hid (ho.blk HK9.out (fun e => HNE.out e.symm))
       replace HK8 : Hid (Blk WS g8 70 #[.int .i64 om, .string (Tx.str oi)]) := by unfold Hid; rw [hW]; have h := (HK8.out.set_ 0 (.int .i64 om)).set_ 1 (.string (Tx.str oi)); simp at h; exact h
       replace HZ := Lib.hid hz
       clear hW ho hz x0 x1 f0 f1
       try go_wp2_with fail
       refine hK.out _ _ ?_ (fun hHeld => ?_)
       ·(try dsimp only); exact HZ.out
       clear hK K
       refine wpAnyH_ready (rs := [15]) (by kernel_rfl) (by simp) (AllReadyH.cons rfl (fun K hK => ?_) AllReadyH.nil)
       have x0 := HK9.out.cell 0
       have x1 := HK9.out.cell 1
       have f0 : (WS).frozen? ⟨g9, 0, none⟩ = false := HK9.out.frozen 0
       have f1 : (WS).frozen? ⟨g9, 1, none⟩ = false := HK9.out.frozen 1
       go_simp
       obtain ⟨WT, hW⟩ : ∃ X, X = ((WS).setCell ⟨g9, 0, none⟩ (.int .i64 nm)).setCell ⟨g9, 1, none⟩ (.string (Tx.str ni)) := ⟨_, rfl⟩
       try rw [← hW]
       have ho : Only (fun k => k = g9) (WS) WT := by rw [hW]; exact ((Only.refl (fun k => k = g9) _).set_ (.inl rfl) _).set_ (.inl rfl) _
       have hz : Below wr.heap.size wr WT := by rw [hW]; exact ((((Only.of_below (M := fun _ => False) HZ.out).set_ (.inr HGg9.out) _).set_ (.inr HGg9.out) _)).below
       replace HK8 := Lib.hid (ho.blk HK8.out (fun e => HNE.out e))
       replace HK9 : Hid (Blk WT g9 70 #[.int .i64 nm, .string (Tx.str ni)]) := by unfold Hid; rw [hW]; have h := (HK9.out.set_ 0 (.int .i64 nm)).set_ 1 (.string (Tx.str ni)); simp at h; exact h
       replace HZ := Lib.hid hz
       clear hW ho hz x0 x1 f0 f1
       try go_wp2_with fail
       refine hK.out _ _ ?_ (fun hHeld => ?_)
       ·(try dsimp only); exact HZ.out
       clear hK K
       refine wpAnyH_done (by kernel_rfl) ?_ _
       try go_wp2_with fail
       go_meet
       exact ⟨g8, g9, rfl, rfl, HK8.out, HK9.out, HZ.out⟩
     ·go_simp
      obtain ⟨W9, hW⟩ : ∃ X, X = World.alloc wa (.cells #[.int .i64 0, .string ⟨#[]⟩] 70) := ⟨_, rfl⟩
      obtain ⟨g9, hg⟩ : ∃ k, k = (wa).heap.size := ⟨_, rfl⟩
      try rw [← hW]
      try rw [← hg]
      have HK9 : Hid (Blk W9 g9 70 #[.int .i64 0, .string ⟨#[]⟩]) := by unfold Hid; rw [hW, hg]; exact heap_alloc_new (wa) _
      have HGg9 : Hid (wr.heap.size ≤ g9) := by unfold Hid; rw [hg]; exact HZ.out.size
      replace HZ : Hid (Below wr.heap.size wr W9) := by unfold Hid; rw [hW]; exact (show Below wr.heap.size wr (World.alloc (wa) _) from HZ.out.alloc HZ.out.size _)
      clear hW hg
      try go_wp2_with fail
      refine hK.out _ _ ?_ (fun hHeld => ?_)
      ·(try dsimp only); exact HZ.out
      clear hK K
      try simp only [Act.put, List.setIfInBounds_toArray, List.set_cons_zero, List.set_cons_succ]
      refine wpAnyH_ready (rs := [11, 12]) (by kernel_rfl) (by simp) (AllReadyH.cons rfl (fun K hK => ?_) (AllReadyH.cons rfl (fun K hK => ?_) AllReadyH.nil))
      ·go_simp
       refine (rget_any _ b xl _ (H2.out.below (HALL.out _ HZ.out))).mono ?_
       rw [show GetP b xl W9 = fun e w' => e = .returned (entV (getM b xl)) ∧ Below (W9).heap.size (W9) w' from rfl, HEB.out]
       unfold entV
       dsimp only
       rintro e wb ⟨rfl, hb⟩
       replace HK9 := Lib.hid (HK9.out.below hb HK9.out.lt)
       replace HZ := Lib.hid (HZ.out.trans (hb.mono HZ.out.size))
       clear hb
       try go_wp2_with fail
       refine hK.out _ _ ?_ (fun hHeld => ?_)
       ·(try dsimp only); exact HZ.out
       clear hK K
       try simp only [Act.put, List.setIfInBounds_toArray, List.set_cons_zero, List.set_cons_succ]
       refine wpAnyH_ready (rs := [12]) (by kernel_rfl) (by simp) (AllReadyH.cons rfl (fun K hK => ?_) AllReadyH.nil)
       go_simp
       obtain ⟨W8, hW⟩ : ∃ X, X = World.alloc wb (.cells #[.int .i64 0, .string ⟨#[]⟩] 70) := ⟨_, rfl⟩
       obtain ⟨g8, hg⟩ : ∃ k, k = (wb).heap.size := ⟨_, rfl⟩
       try rw [← hW]
       try rw [← hg]
       have HK8 : Hid (Blk W8 g8 70 #[.int .i64 0, .string ⟨#[]⟩]) := by unfold Hid; rw [hW, hg]; exact heap_alloc_new (wb) _
       have HNE : Hid (g8 ≠ g9) := fun e => by have := HK9.out.lt; omega
       replace HK9 : Hid (Blk W8 g9 70 #[.int .i64 0, .string ⟨#[]⟩]) := by unfold Hid; rw [hW]; exact HK9.out.alloc _
       have HGg8 : Hid (wr.heap.size ≤ g8) := by unfold Hid; rw [hg]; exact HZ.out.size
       replace HZ : Hid (Below wr.heap.size wr W8) := by unfold Hid; rw [hW]; exact (show Below wr.heap.size wr (World.alloc (wb) _) from HZ.out.alloc HZ.out.size _)
       clear hW hg
       try go_wp2_with fail
       refine hK.out _ _ ?_ (fun hHeld => ?_)
       ·(try dsimp only); exact HZ.out
       clear hK K
       try simp only [Act.put, List.setIfInBounds_toArray, List.set_cons_zero, List.set_cons_succ]
       refine wpAnyH_ready (rs := [14]) (by kernel_rfl) (by simp) (AllReadyH.cons rfl (fun K hK => ?_) AllReadyH.nil)
       have x0 := HK8.out.cell 0
       have x1 := HK8.out.cell 1
       have f0 : (W8).frozen? ⟨g8, 0, none⟩ = false := HK8.out.frozen 0
       have f1 : (W8).frozen? ⟨g8, 1, none⟩ = false := HK8.out.frozen 1
       go_simp
       obtain ⟨WS, hW⟩ : ∃ X, X = ((W8).setCell ⟨g8, 0, none⟩ (.int .i64 om)).setCell ⟨g8, 1, none⟩ (.string (Tx.str oi)) := ⟨_, rfl⟩
       try rw [← hW]
       have ho : Only (fun k => k = g8) (W8) WS := by rw [hW]; exact ((Only.refl (fun k => k = g8) _).set_ (.inl rfl) _).set_ (.inl rfl) _
       have hz : Below wr.heap.size wr WS := by rw [hW]; exact ((((Only.of_below (M := fun _ => False) HZ.out).set_ (.inr HGg8.out) _).set_ (.inr HGg8.out) _)).below
       replace HK9 := Lib.hid (ho.blk HK9.out (fun e => HNE.out e.symm))
       replace HK8 : Hid (Blk WS g8 70 #[.int .i64 om, .string (Tx.str oi)]) := by unfold Hid; rw [hW]; have h := (HK8.out.set_ 0 (.int .i64 om)).set_ 1 (.string (Tx.str oi)); simp at h; exact h
       replace HZ := Lib.hid hz
       clear hW ho hz x0 x1 f0 f1
       try go_wp2_with fail
       refine hK.out _ _ ?_ (fun hHeld => ?_)
       ·(try dsimp only); exact HZ.out
       clear hK K
       refine wpAnyH_ready (rs := [15]) (by kernel_rfl) (by simp) (AllReadyH.cons rfl (fun K hK => ?_) AllReadyH.nil)
       have x0 := HK9.out.cell 0
       have x1 := HK9.out.cell 1
       have f0 : (WS).frozen? ⟨g9, 0, none⟩ = false := HK9.out.frozen 0
       have f1 : (WS).frozen? ⟨g9, 1, none⟩ = false := HK9.out.frozen 1
       go_simp
       obtain ⟨WT, hW⟩ : ∃ X, X = ((WS).setCell ⟨g9, 0, none⟩ (.int .i64 nm)).setCell ⟨g9, 1, none⟩ (.string (Tx.str ni)) := ⟨_, rfl⟩
       try rw [← hW]
       have ho : Only (fun k => k = g9) (WS) WT := by rw [hW]; exact ((Only.refl (fun k => k = g9) _).set_ (.inl rfl) _).set_ (.inl rfl) _
       have hz : Below wr.heap.size wr WT := by rw [hW]; exact ((((Only.of_below (M := fun _ => False) HZ.out).set_ (.inr HGg9.out) _).set_ (.inr HGg9.out) _)).below
       replace HK8 := Lib.hid (ho.blk HK8.out (fun e => HNE.out e))
       replace HK9 : Hid (Blk WT g9 70 #[.int .i64 nm, .string (Tx.str ni)]) := by unfold Hid; rw [hW]; have h := (HK9.out.set_ 0 (.int .i64 nm)).set_ 1 (.string (Tx.str ni)); simp at h; exact h
       replace HZ := Lib.hid hz
       clear hW ho hz x0 x1 f0 f1
       try go_wp2_with fail
       refine hK.out _ _ ?_ (fun hHeld => ?_)
       ·(try dsimp only); exact HZ.out
       clear hK K
       refine wpAnyH_done (by kernel_rfl) ?_ _
       try go_wp2_with fail
       go_meet
       exact ⟨g8, g9, rfl, rfl, HK8.out, HK9.out, HZ.out⟩
      ·go_simp
       obtain ⟨W8, hW⟩ : ∃ X, X = World.alloc W9 (.cells #[.int .i64 0, .string ⟨#[]⟩] 70) := ⟨_, rfl⟩
       obtain ⟨g8, hg⟩ : ∃ k, k = (W9).heap.size := ⟨_, rfl⟩
       try rw [← hW]
       try rw [← hg]
       have HK8 : Hid (Blk W8 g8 70 #[.int .i64 0, .string ⟨#[]⟩]) := by unfold Hid; rw [hW, hg]; exact heap_alloc_new (W9) _
       have HNE : Hid (g8 ≠ g9) := fun e => by have := HK9.out.lt; omega
       replace HK9 : Hid (Blk W8 g9 70 #[.int .i64 0, .string ⟨#[]⟩]) := by unfold Hid; rw [hW]; exact HK9.out.alloc _
       have HGg8 : Hid (wr.heap.size ≤ g8) := by unfold Hid; rw [hg]; exact HZ.out.size
       replace HZ : Hid (Below wr.heap.size wr W8) := by unfold Hid; rw [hW]; exact (show Below wr.heap.size wr (World.alloc (W9) _) from HZ.out.alloc HZ.out.size _)
       clear hW hg
       try go_wp2_with fail
       refine hK.out _ _ ?_ (fun hHeld => ?_)
       ·(try dsimp only); exact HZ.out
       clear hK K
       try simp only [Act.put, List.setIfInBounds_toArray, List.set_cons_zero, List.set_cons_succ]
       refine wpAnyH_ready (rs := [11]) (by kernel_rfl) (by simp) (AllReadyH.cons rfl (fun K hK => ?_) AllReadyH.nil)
       go_simp
       refine (rget_any _ b xl _ (H2.out.below (HALL.out _ HZ.out))).mono ?_
       rw [show GetP b xl W8 = fun e w' => e = .returned (entV (getM b xl)) ∧ Below (W8).heap.size (W8) w' from rfl, HEB.out]
       unfold entV
       dsimp only
       rintro e wb ⟨rfl, hb⟩
       replace HK8 := Lib.hid (HK8.out.below hb HK8.out.lt)
       replace HK9 := Lib.hid (HK9.out.below hb HK9.out.lt)
       replace HZ := Lib.hid (HZ.out.trans (hb.mono HZ.out.size))
       clear hb
       try go_wp2_with fail
       refine hK.out _ _ ?_ (fun hHeld => ?_)
       ·(try dsimp only); exact HZ.out
       clear hK K
       try simp only [Act.put, List.setIfInBounds_toArray, List.set_cons_zero, List.set_cons_succ]
       refine wpAnyH_ready (rs := [14]) (by kernel_rfl) (by simp) (AllReadyH.cons rfl (fun K hK => ?_) AllReadyH.nil)
       have x0 := HK8.out.cell 0
       have x1 := HK8.out.cell 1
       have f0 : (wb).frozen? ⟨g8, 0, none⟩ = false := HK8.out.frozen 0
       have f1 : (wb).frozen? ⟨g8, 1, none⟩ = false := HK8.out.frozen 1
       go_simp
       obtain ⟨WS, hW⟩ : ∃ X, X = ((wb).setCell ⟨g8, 0, none⟩ (.int .i64 om)).setCell ⟨g8, 1, none⟩ (.string (Tx.str oi)) := ⟨_, rfl⟩
       try rw [← hW]
       have ho : Only (fun k => k = g8) (wb) WS := by rw [hW]; exact ((Only.refl (fun k => k = g8) _).set_ (.inl rfl) _).set_ (.inl rfl) _
       have hz : Below wr.heap.size wr WS := by rw [hW]; exact ((((Only.of_below (M := fun _ => False) HZ.out).set_ (.inr HGg8.out) _).set_ (.inr HGg8.out) _)).below
       replace HK9 := Lib.hid (ho.blk HK9.out (fun e => HNE.out e.symm))
       replace HK8 : Hid (Blk WS g8 70 #[.int .i64 om, .string (Tx.str oi)]) := by unfold Hid; rw [hW]; have h := (HK8.out.set_ 0 (.int .i64 om)).set_ 1 (.string (Tx.str oi)); simp at h; exact h
       replace HZ := Lib.hid hz
       clear hW ho hz x0 x1 f0 f1
       try go_wp2_with fail
       refine hK.out _ _ ?_ (fun hHeld => ?_)
       ·(try dsimp only); exact HZ.out
       clear hK K
       refine wpAnyH_ready (rs := [15]) (by kernel_rfl) (by simp) (AllReadyH.cons rfl (fun K hK => ?_) AllReadyH.nil)
       have x0 := HK9.out.cell 0
       have x1 := HK9.out.cell 1
       have f0 : (WS).frozen? ⟨g9, 0, none⟩ = false := HK9.out.frozen 0
       have f1 : (WS).frozen? ⟨g9, 1, none⟩ = false := HK9.out.frozen 1
       go_simp
       obtain ⟨WT, hW⟩ : ∃ X, X = ((WS).setCell ⟨g9, 0, none⟩ (.int .i64 nm)).setCell ⟨g9, 1, none⟩ (.string (Tx.str ni)) := ⟨_, rfl⟩
       try rw [← hW]
       have ho : Only (fun k => k = g9) (WS) WT := by rw [hW]; exact ((Only.refl (fun k => k = g9) _).set_ (.inl rfl) _).set_ (.inl rfl) _
       have hz : Below wr.heap.size wr WT := by rw [hW]; exact ((((Only.of_below (M := fun _ => False) HZ.out).set_ (.inr HGg9.out) _).set_ (.inr HGg9.out) _)).below
       replace HK8 := Lib.hid (ho.blk HK8.out (fun e => HNE.out e))
       replace HK9 : Hid (Blk WT g9 70 #[.int .i64 nm, .string (Tx.str ni)]) := by unfold Hid; rw [hW]; have h := (HK9.out.set_ 0 (.int .i64 nm)).set_ 1 (.string (Tx.str ni)); simp at h; exact h
       replace HZ := Lib.hid hz
       clear hW ho hz x0 x1 f0 f1
       try go_wp2_with fail
       refine hK.out _ _ ?_ (fun hHeld => ?_)
       ·(try dsimp only); exact HZ.out
       clear hK K
       refine wpAnyH_done (by kernel_rfl) ?_ _
       try go_wp2_with fail
       go_meet
       exact ⟨g8, g9, rfl, rfl, HK8.out, HK9.out, HZ.out⟩
    ·go_simp
     obtain ⟨W8, hW⟩ : ∃ X, X = (World.alloc wr (.cells #[.int .i64 0, .string ⟨#[]⟩] 70)).drew := ⟨_, rfl⟩
     obtain ⟨g8, hg⟩ : ∃ k, k = (wr).heap.size := ⟨_, rfl⟩
     try rw [← hW]
     try rw [← hg]
     have HK8 : Hid (Blk W8 g8 70 #[.int .i64 0, .string ⟨#[]⟩]) := by unfold Hid; rw [hW, hg]; exact heap_alloc_new (wr.drew) _
     have HGg8 : Hid (wr.heap.size ≤ g8) := by unfold Hid; rw [hg]; exact HZ.out.size
     replace HZ : Hid (Below wr.heap.size wr W8) := by unfold Hid; rw [hW]; exact (show Below wr.heap.size wr (World.alloc (wr.drew) _) from HZ.out.alloc HZ.out.size _)
     clear hW hg
     try go_wp2_with fail
     refine hK.out _ _ ?_ (fun hHeld => ?_)
     ·(try dsimp only); exact HZ.out
     clear hK K
     try simp only [Act.put, List.setIfInBounds_toArray, List.set_cons_zero, List.set_cons_succ]
     refine wpAnyH_ready (rs := [5, 13]) (by kernel_rfl) (by simp) (AllReadyH.cons rfl (fun K hK => ?_) (AllReadyH.cons rfl (fun K hK => ?_) AllReadyH.nil))
     ·go_simp
      refine (rget_any _ a xl _ (H1.out.below (HALL.out _ HZ.out))).mono ?_
      rw [show GetP a xl W8 = fun e w' => e = .returned (entV (getM a xl)) ∧ Below (W8).heap.size (W8) w' from rfl, HEA.out]
      unfold entV
      dsimp only
      rintro e wa ⟨rfl, hb⟩
      replace HK8 := Lib.hid (HK8.out.below hb HK8.out.lt)
      replace HZ := Lib.hid (HZ.out.trans (hb.mono HZ.out.size))
      clear hb
      try go_wp2_with fail
      refine hK.out _ _ ?_ (fun hHeld => ?_)
      ·(try dsimp only); exact HZ.out
      clear hK K
      try simp only [Act.put, List.setIfInBounds_toArray, List.set_cons_zero, List.set_cons_succ]
      refine wpAnyH_ready (rs := [11, 13]) (by kernel_rfl) (by simp) (AllReadyH.cons rfl (fun K hK => ?_) (AllReadyH.cons rfl (fun K hK => ?_) AllReadyH.nil))
      ·go_simp
       refine (rget_any _ b xl _ (H2.out.below (HALL.out _ HZ.out))).mono ?_
       rw [show GetP b xl wa = fun e w' => e = .returned (entV (getM b xl)) ∧ Below (wa).heap.size (wa) w' from rfl, HEB.out]
       unfold entV
       dsimp only
       rintro e wb ⟨rfl, hb⟩
       replace HK8 := Lib.hid (HK8.out.below hb HK8.out.lt)
       replace HZ := Lib.hid (HZ.out.trans (hb.mono HZ.out.size))
       clear hb
       try go_wp2_with fail
       refine hK.out _ _ ?_ (fun hHeld => ?_)
       ·(try dsimp only); exact HZ.out
       clear hK K
       try simp only [Act.put, List.setIfInBounds_toArray, List.set_cons_zero, List.set_cons_succ]
       refine wpAnyH_ready (rs := [13]) (by kernel_rfl) (by simp) (AllReadyH.cons rfl (fun K hK => ?_) AllReadyH.nil)
       go_simp
       obtain ⟨W9, hW⟩ : ∃ X, X = World.alloc wb (.cells #[.int .i64 0, .string ⟨#[]⟩] 70) := ⟨_, rfl⟩
       obtain ⟨g9, hg⟩ : ∃ k, k = (wb).heap.size := ⟨_, rfl⟩
       try rw [← hW]
       try rw [← hg]
       have HK9 : Hid (Blk W9 g9 70 #[.int .i64 0, .string ⟨#[]⟩]) := by unfold Hid; rw [hW, hg]; exact heap_alloc_new (wb) _
       have HNE : Hid (g8 ≠ g9) := fun e => by have := HK8.out.lt; omega
       replace HK8 : Hid (Blk W9 g8 70 #[.int .i64 0, .string ⟨#[]⟩]) := by unfold Hid; rw [hW]; exact HK8.out.alloc _
       have HGg9 : Hid (wr.heap.size ≤ g9) := by unfold Hid; rw [hg]; exact HZ.out.size
       replace HZ : Hid (Below wr.heap.size wr W9) := by unfold Hid; rw [hW]; exact (show Below wr.heap.size wr (World.alloc (wb) _) from HZ.out.alloc HZ.out.size _)
       clear hW hg
       try go_wp2_with fail
       refine hK.out _ _ ?_ (fun hHeld => ?_)
       ·(try dsimp only); exact HZ.out
       clear hK K
       try simp only [Act.put, List.setIfInBounds_toArray, List.set_cons_zero, List.set_cons_succ]
       refine wpAnyH_ready (rs := [14]) (by kernel_rfl) (by simp) (AllReadyH.cons rfl (fun K hK => ?_) AllReadyH.nil)
       have x0 := HK8.out.cell 0
       have x1 := HK8.out.cell 1
       have f0 : (W9).frozen? ⟨g8, 0, none⟩ = false := HK8.out.frozen 0
       have f1 : (W9).frozen? ⟨g8, 1, none⟩ = false := HK8.out.frozen 1
       go_simp
       obtain ⟨WS, hW⟩ : ∃ X, X = ((W9).setCell ⟨g8, 0, none⟩ (.int .i64 om)).setCell ⟨g8, 1, none⟩ (.string (Tx.str oi)) := ⟨_, rfl⟩
       try rw [← hW]
       have ho : Only (fun k => k = g8) (W9) WS := by rw [hW]; exact ((Only.refl (fun k => k = g8) _).set_ (.inl rfl) _).set_ (.inl rfl) _
       have hz : Below wr.heap.size wr WS := by rw [hW]; exact ((((Only.of_below (M := fun _ => False) HZ.out).set_ (.inr HGg8.out) _).set_ (.inr HGg8.out) _)).below
       replace HK9 := Lib.hid (ho.blk HK9.out (fun e => HNE.out e.symm))
       replace HK8 : Hid (Blk WS g8 70 #[.int .i64 om, .string (Tx.str oi)]) := by unfold Hid; rw [hW]; have h := (HK8.out.set_ 0 (.int .i64 om)).set_ 1 (.string (Tx.str oi)); simp at h; exact h
       replace HZ := Lib.hid hz
       clear hW ho hz x0 x1 f0 f1
       try go_wp2_with fail
       refine hK.out _ _ ?_ (fun hHeld => ?_)
       ·(try dsimp only); exact HZ.out
       clear hK K
       refine wpAnyH_ready (rs := [15]) (by kernel_rfl) (by simp) (AllReadyH.cons rfl (fun K hK => ?_) AllReadyH.nil)
       have x0 := HK9.out.cell 0
       have x1 := HK9.out.cell 1
       have f0 : (WS).frozen? ⟨g9, 0, none⟩ = false := HK9.out.frozen 0
       have f1 : (WS).frozen? ⟨g9, 1, none⟩ = false := HK9.out.frozen 1
       go_simp
       obtain ⟨WT, hW⟩ : ∃ X, X = ((WS).setCell ⟨g9, 0, none⟩ (.int .i64 nm)).setCell ⟨g9, 1, none⟩ (.string (Tx.str ni)) := ⟨_, rfl⟩
       try rw [← hW]
       have ho : Only (fun k => k = g9) (WS) WT := by rw [hW]; exact ((Only.refl (fun k => k = g9) _).set_ (.inl rfl) _).set_ (.inl rfl) _
       have hz : Below wr.heap.size wr WT := by rw [hW]; exact ((((Only.of_below (M := fun _ => False) HZ.out).set_ (.inr HGg9.out) _).set_ (.inr HGg9.out) _)).below
       replace HK8 := Lib.hid (ho.blk HK8.out (fun e => HNE.out e))
       replace HK9 : Hid (Blk WT g9 70 #[.int .i64 nm, .string (Tx.str ni)]) := by unfold Hid; rw [hW]; have h := (HK9.out.set_ 0 (.int .i64 nm)).set_ 1 (.string (Tx.str ni)); simp at h; exact h
       replace HZ := Lib.hid hz
       clear hW ho hz x0 x1 f0 f1
       try go_wp2_with fail
       refine hK.out _ _ ?_ (fun hHeld => ?_)
       ·(try dsimp only); exact HZ.out
       clear hK K
       refine wpAnyH_done (by kernel_rfl) ?_ _
       try go_wp2_with fail
       go_meet
       exact ⟨g8, g9, rfl, rfl, HK8.out, HK9.out, HZ.out⟩
      ·go_simp
       obtain ⟨W9, hW⟩ : ∃ X, X = World.alloc wa (.cells #[.int .i64 0, .string ⟨#[]⟩] 70) := ⟨_, rfl⟩
       obtain ⟨g9, hg⟩ : ∃ k, k = (wa).heap.size := ⟨_, rfl⟩
       try rw [← hW]
       try rw [← hg]
       have HK9 : Hid (Blk W9 g9 70 #[.int .i64 0, .string ⟨#[]⟩]) := by unfold Hid; rw [hW, hg]; exact heap_alloc_new (wa) _
       have HNE : Hid (g8 ≠ g9) := fun e => by have := HK8.out.lt; omega
       replace HK8 : Hid (Blk W9 g8 70 #[.int .i64 0, .string ⟨#[]⟩]) := by unfold Hid; rw [hW]; exact HK8.out.alloc _
       have HGg9 : Hid (wr.heap.size ≤ g9) := by unfold Hid; rw [hg]; exact HZ.out.size
       replace HZ : Hid (Below wr.heap.size wr W9) := by unfold Hid; rw [hW]; exact (show Below wr.heap.size wr (World.alloc (wa) _) from HZ.out.alloc HZ.out.size _)
       clear hW hg
       try go_wp2_with fail
       refine hK.out _ _ ?_ (fun hHeld => ?_)
       ·(try dsimp only); exact HZ.out
       clear hK K
       try simp only [Act.put, List.setIfInBounds_toArray, List.set_cons_zero, List.set_cons_succ]
       refine wpAnyH_ready (rs := [11]) (by kernel_rfl) (by simp) (AllReadyH.cons rfl (fun K hK => ?_) AllReadyH.nil)
       go_simp
       refine (rget_any _ b xl _ (H2.out.below (HALL.out _ HZ.out))).mono ?_
       rw [show GetP b xl W9 = fun e w' => e = .returned (entV (getM b xl)) ∧ Below (W9).heap.size (W9) w' from rfl, HEB.out]
       unfold entV
       dsimp only
       rintro e wb ⟨rfl, hb⟩
       replace HK8 := Lib.hid (HK8.out.below hb HK8.out.lt)
       replace HK9 := Lib.hid (HK9.out.below hb HK9.out.lt)
       replace HZ := Lib.hid (HZ.out.trans (hb.mono HZ.out.size))
       clear hb
       try go_wp2_with fail
       refine hK.out _ _ ?_ (fun hHeld => ?_)
       ·(try dsimp only); exact HZ.out
       clear hK K
       try simp only [Act.put, List.setIfInBounds_toArray, List.set_cons_zero, List.set_cons_succ]
       refine wpAnyH_ready (rs := [14]) (by kernel_rfl) (by simp) (AllReadyH.cons rfl (fun K hK => ?_) AllReadyH.nil)
       have x0 := HK8.out.cell 0
       have x1 := HK8.out.cell 1
       have f0 : (wb).frozen? ⟨g8, 0, none⟩ = false := HK8.out.frozen 0
       have f1 : (wb).frozen? ⟨g8, 1, none⟩ = false := HK8.out.frozen 1
       go_simp
       obtain ⟨WS, hW⟩ : ∃ X, X = ((wb).setCell ⟨g8, 0, none⟩ (.int .i64 om)).setCell ⟨g8, 1, none⟩ (.string (Tx.str oi)) := ⟨_, rfl⟩
       try rw [← hW]
       have ho : Only (fun k => k = g8) (wb) WS := by rw [hW]; exact ((Only.refl (fun k => k = g8) _).set_ (.inl rfl) _).set_ (.inl rfl) _
       have hz : Below wr.heap.size wr WS := by rw [hW]; exact ((((Only.of_below (M := fun _ => False) HZ.out).set_ (.inr HGg8.out) _).set_ (.inr HGg8.out) _)).below
       replace HK9 := Lib.hid (ho.blk HK9.out (fun e => HNE.out e.symm))
       replace HK8 : Hid (Blk WS g8 70 #[.int .i64 om, .string (Tx.str oi)]) := by unfold Hid; rw [hW]; have h := (HK8.out.set_ 0 (.int .i64 om)).set_ 1 (.string (Tx.str oi)); simp at h; exact h
       replace HZ := Lib.hid hz
       clear hW ho hz x0 x1 f0 f1
       try go_wp2_with fail
       refine hK.out _ _ ?_ (fun hHeld => ?_)
       ·(try dsimp only); exact HZ.out
       clear hK K
       refine wpAnyH_ready (rs := [15]) (by kernel_rfl) (by simp) (AllReadyH.cons rfl (fun K hK => ?_) AllReadyH.nil)
       have x0 := HK9.out.cell 0
       have x1 := HK9.out.cell 1
       have f0 : (WS).frozen? ⟨g9, 0, none⟩ = false := HK9.out.frozen 0
       have f1 : (WS).frozen? ⟨g9, 1, none⟩ = false := HK9.out.frozen 1
       go_simp
       obtain ⟨WT, hW⟩ : ∃ X, X = ((WS).setCell ⟨g9, 0, none⟩ (.int .i64 nm)).setCell ⟨g9, 1, none⟩ (.string (Tx.str ni)) := ⟨_, rfl⟩
       try rw [← hW]
       have ho : Only (fun k => k = g9) (WS) WT := by rw [hW]; exact ((Only.refl (fun k => k = g9) _).set_ (.inl rfl) _).set_ (.inl rfl) _
       have hz : Below wr.heap.size wr WT := by rw [hW]; exact ((((Only.of_below (M := fun _ => False) HZ.out).set_ (.inr HGg9.out) _).set_ (.inr HGg9.out) _)).below
       replace HK8 := Lib.hid (ho.blk HK8.out (fun e => HNE.out e))
       replace HK9 : Hid (Blk WT g9 70 #[.int .i64 nm, .string (Tx.str ni)]) := by unfold Hid; rw [hW]; have h := (HK9.out.set_ 0 (.int .i64 nm)).set_ 1 (.string (Tx.str ni)); simp at h; exact h
       replace HZ := Lib.hid hz
       clear hW ho hz x0 x1 f0 f1
       try go_wp2_with fail
       refine hK.out _ _ ?_ (fun hHeld => ?_)
       ·(try dsimp only); exact HZ.out
       clear hK K
       refine wpAnyH_done (by kernel_rfl) ?_ _
       try go_wp2_with fail
       go_meet
       exact ⟨g8, g9, rfl, rfl, HK8.out, HK9.out, HZ.out⟩
     ·go_simp
      obtain ⟨W9, hW⟩ : ∃ X, X = World.alloc W8 (.cells #[.int .i64 0, .string ⟨#[]⟩] 70) := ⟨_, rfl⟩
      obtain ⟨g9, hg⟩ : ∃ k, k = (W8).heap.size := ⟨_, rfl⟩
      try rw [← hW]
      try rw [← hg]
      have HK9 : Hid (Blk W9 g9 70 #[.int .i64 0, .string ⟨#[]⟩]) := by unfold Hid; rw [hW, hg]; exact heap_alloc_new (W8) _
      have HNE : Hid (g8 ≠ g9) := fun e => by have := HK8.out.lt; omega
      replace HK8 : Hid (Blk W9 g8 70 #[.int .i64 0, .string ⟨#[]⟩]) := by unfold Hid; rw [hW]; exact HK8.out.alloc _
      have HGg9 : Hid (wr.heap.size ≤ g9) := by unfold Hid; rw [hg]; exact HZ.out.size
      replace HZ : Hid (Below wr.heap.size wr W9) := by unfold Hid; rw [hW]; exact (show Below wr.heap.size wr (World.alloc (W8) _) from HZ.out.alloc HZ.out.size _)
      clear hW hg
      try go_wp2_with fail
      refine hK.out _ _ ?_ (fun hHeld => ?_)
      ·(try dsimp only); exact HZ.out
      clear hK K
      try simp only [Act.put, List.setIfInBounds_toArray, List.set_cons_zero, List.set_cons_succ]
      refine wpAnyH_ready (rs := [5]) (by kernel_rfl) (by simp) (AllReadyH.cons rfl (fun K hK => ?_) AllReadyH.nil)
      go_simp
      refine (rget_any _ a xl _ (H1.out.below (HALL.out _ HZ.out))).mono ?_
      rw [show GetP a xl W9 = fun e w' => e = .returned (entV (getM a xl)) ∧ Below (W9).heap.size (W9) w' from rfl, HEA.out]
      unfold entV
      dsimp only
      rintro e wa ⟨rfl, hb⟩
      replace HK8 := Lib.hid (HK8.out.below hb HK8.out.lt)
      replace HK9 := Lib.hid (HK9.out.below hb HK9.out.lt)
      replace HZ := Lib.hid (HZ.out.trans (hb.mono HZ.out.size))
      clear hb
      try go_wp2_with fail
      refine hK.out _ _ ?_ (fun hHeld => ?_)
      ·(try dsimp only); exact HZ.out
      clear hK K
      try simp only [Act.put, List.setIfInBounds_toArray, List.set_cons_zero, List.set_cons_succ]
      refine wpAnyH_ready (rs := [11]) (by kernel_rfl) (by simp) (AllReadyH.cons rfl (fun K hK => ?_) AllReadyH.nil)
      go_simp
      refine (rget_any _ b xl _ (H2.out.below (HALL.out _ HZ.out))).mono ?_
      rw [show GetP b xl wa = fun e w' => e = .returned (entV (getM b xl)) ∧ Below (wa).heap.size (wa) w' from rfl, HEB.out]
      unfold entV
      dsimp only
      rintro e wb ⟨rfl, hb⟩
      replace HK8 := Lib.hid (HK8.out.below hb HK8.out.lt)
      replace HK9 := Lib.hid (HK9.out.below hb HK9.out.lt)
      replace HZ := Lib.hid (HZ.out.trans (hb.mono HZ.out.size))
      clear hb
      try go_wp2_with fail
      refine hK.out _ _ ?_ (fun hHeld => ?_)
      ·(try dsimp only); exact HZ.out
      clear hK K
      try simp only [Act.put, List.setIfInBounds_toArray, List.set_cons_zero, List.set_cons_succ]
      refine wpAnyH_ready (rs := [14]) (by kernel_rfl) (by simp) (AllReadyH.cons rfl (fun K hK => ?_) AllReadyH.nil)
      have x0 := HK8.out.cell 0
      have x1 := HK8.out.cell 1
      have f0 : (wb).frozen? ⟨g8, 0, none⟩ = false := HK8.out.frozen 0
      have f1 : (wb).frozen? ⟨g8, 1, none⟩ = false := HK8.out.frozen 1
      go_simp
      obtain ⟨WS, hW⟩ : ∃ X, X = ((wb).setCell ⟨g8, 0, none⟩ (.int .i64 om)).setCell ⟨g8, 1, none⟩ (.string (Tx.str oi)) := ⟨_, rfl⟩
      try rw [← hW]
      have ho : Only (fun k => k = g8) (wb) WS := by rw [hW]; exact ((Only.refl (fun k => k = g8) _).set_ (.inl rfl) _).set_ (.inl rfl) _
      have hz : Below wr.heap.size wr WS := by rw [hW]; exact ((((Only.of_below (M := fun _ => False) HZ.out).set_ (.inr HGg8.out) _).set_ (.inr HGg8.out) _)).below
      replace HK9 := Lib.hid (ho.blk HK9.out (fun e => HNE.out e.symm))
      replace HK8 : Hid (Blk WS g8 70 #[.int .i64 om, .string (Tx.str oi)]) := by unfold Hid; rw [hW]; have h := (HK8.out.set_ 0 (.int .i64 om)).set_ 1 (.string (Tx.str oi)); simp at h; exact h
      replace HZ := Lib.hid hz
      clear hW ho hz x0 x1 f0 f1
      try go_wp2_with fail
      refine hK.out _ _ ?_ (fun hHeld => ?_)
      ·(try dsimp only); exact HZ.out
      clear hK K
      refine wpAnyH_ready (rs := [15]) (by kernel_rfl) (by simp) (AllReadyH.cons rfl (fun K hK => ?_) AllReadyH.nil)
      have x0 := HK9.out.cell 0
      have x1 := HK9.out.cell 1
      have f0 : (WS).frozen? ⟨g9, 0, none⟩ = false := HK9.out.frozen 0
      have f1 : (WS).frozen? ⟨g9, 1, none⟩ = false := HK9.out.frozen 1
      go_simp
      obtain ⟨WT, hW⟩ : ∃ X, X = ((WS).setCell ⟨g9, 0, none⟩ (.int .i64 nm)).setCell ⟨g9, 1, none⟩ (.string (Tx.str ni)) := ⟨_, rfl⟩
      try rw [← hW]
      have ho : Only (fun k => k = g9) (WS) WT := by rw [hW]; exact ((Only.refl (fun k => k = g9) _).set_ (.inl rfl) _).set_ (.inl rfl) _
      have hz : Below wr.heap.size wr WT := by rw [hW]; exact ((((Only.of_below (M := fun _ => False) HZ.out).set_ (.inr HGg9.out) _).set_ (.inr HGg9.out) _)).below
      replace HK8 := Lib.hid (ho.blk HK8.out (fun e => HNE.out e))
      replace HK9 : Hid (Blk WT g9 70 #[.int .i64 nm, .string (Tx.str ni)]) := by unfold Hid; rw [hW]; have h := (HK9.out.set_ 0 (.int .i64 nm)).set_ 1 (.string (Tx.str ni)); simp at h; exact h
      replace HZ := Lib.hid hz
      clear hW ho hz x0 x1 f0 f1
      try go_wp2_with fail
      refine hK.out _ _ ?_ (fun hHeld => ?_)
      ·(try dsimp only); exact HZ.out
      clear hK K
      refine wpAnyH_done (by kernel_rfl) ?_ _
      try go_wp2_with fail
      go_meet
      exact ⟨g8, g9, rfl, rfl, HK8.out, HK9.out, HZ.out⟩
    ·go_simp
     obtain ⟨W9, hW⟩ : ∃ X, X = (World.alloc wr (.cells #[.int .i64 0, .string ⟨#[]⟩] 70)).drew := ⟨_, rfl⟩
     obtain ⟨g9, hg⟩ : ∃ k, k = (wr).heap.size := ⟨_, rfl⟩
     try rw [← hW]
     try rw [← hg]
     have HK9 : Hid (Blk W9 g9 70 #[.int .i64 0, .string ⟨#[]⟩]) := by unfold Hid; rw [hW, hg]; exact heap_alloc_new (wr.drew) _
     have HGg9 : Hid (wr.heap.size ≤ g9) := by unfold Hid; rw [hg]; exact HZ.out.size
     replace HZ : Hid (Below wr.heap.size wr W9) := by unfold Hid; rw [hW]; exact (show Below wr.heap.size wr (World.alloc (wr.drew) _) from HZ.out.alloc HZ.out.size _)
     clear hW hg
     try go_wp2_with fail
     refine hK.out _ _ ?_ (fun hHeld => ?_)
     ·(try dsimp only); exact HZ.out
     clear hK K
     try simp only [Act.put, List.setIfInBounds_toArray, List.set_cons_zero, List.set_cons_succ]
     refine wpAnyH_ready (rs := [5, 12]) (by kernel_rfl) (by simp) (AllReadyH.cons rfl (fun K hK => ?_) (AllReadyH.cons rfl (fun K hK => ?_) AllReadyH.nil))
     ·go_simp
      refine (rget_any _ a xl _ (H1.out.below (HALL.out _ HZ.out))).mono ?_
      rw [show GetP a xl W9 = fun e w' => e = .returned (entV (getM a xl)) ∧ Below (W9).heap.size (W9) w' from rfl, HEA.out]
      unfold entV
      dsimp only
      rintro e wa ⟨rfl, hb⟩
      replace HK9 := Lib.hid (HK9.out.below hb HK9.out.lt)
      replace HZ := Lib.hid (HZ.out.trans (hb.mono HZ.out.size))
      clear hb
      try go_wp2_with fail
      refine hK.out _ _ ?_ (fun hHeld => ?_)
      ·(try dsimp only); exact HZ.out
      clear hK K
      try simp only [Act.put, List.setIfInBounds_toArray, List.set_cons_zero, List.set_cons_succ]
      refine wpAnyH_ready (rs := [11, 12]) (by kernel_rfl) (by simp) (AllReadyH.cons rfl (fun K hK => ?_) (AllReadyH.cons rfl (fun K hK => ?_) AllReadyH.nil))
      ·go_simp
       refine (rget_any _ b xl _ (H2.out.below (HALL.out _ HZ.out))).mono ?_
       rw [show GetP b xl wa = fun e w' => e = .returned (entV (getM b xl)) ∧ Below (wa).heap.size (wa) w' from rfl, HEB.out]
       unfold entV
       dsimp only
       rintro e wb ⟨rfl, hb⟩
       replace HK9 := Lib.hid (HK9.out.below hb HK9.out.lt)
       replace HZ := Lib.hid (HZ.out.trans (hb.mono HZ.out.size))
       clear hb
       try go_wp2_with fail
       refine hK.out _ _ ?_ (fun hHeld => ?_)
       ·(try dsimp only); exact HZ.out
       clear hK K
       try simp only [Act.put, List.setIfInBounds_toArray, List.set_cons_zero, List.set_cons_succ]
       refine wpAnyH_ready (rs := [12]) (by kernel_rfl) (by simp) (AllReadyH.cons rfl (fun K hK => ?_) AllReadyH.nil)
       go_simp
       obtain ⟨W8, hW⟩ : ∃ X, X = World.alloc wb (.cells #[.int .i64 0, .string ⟨#[]⟩] 70) := ⟨_, rfl⟩
       obtain ⟨g8, hg⟩ : ∃ k, k = (wb).heap.size := ⟨_, rfl⟩
       try rw [← hW]
       try rw [← hg]
       have HK8 : Hid (Blk W8 g8 70 #[.int .i64 0, .string ⟨#[]⟩]) := by unfold Hid; rw [hW, hg]; exact heap_alloc_new (wb) _
       have HNE : Hid (g8 ≠ g9) := fun e => by have := HK9.out.lt; omega
       replace HK9 : Hid (Blk W8 g9 70 #[.int .i64 0, .string ⟨#[]⟩]) := by unfold Hid; rw [hW]; exact HK9.out.alloc _
       have HGg8 : Hid (wr.heap.size ≤ g8) := by unfold Hid; rw [hg]; exact HZ.out.size
       replace HZ : Hid (Below wr.heap.size wr W8) := by unfold Hid; rw [hW]; exact (show Below wr.heap.size wr (World.alloc (wb) _) from HZ.out.alloc HZ.out.size _)
       clear hW hg
       try go_wp2_with fail
       refine hK.out _ _ ?_ (fun hHeld => ?_)
       ·(try dsimp only); exact HZ.out
       clear hK K
       try simp only [Act.put, List.setIfInBounds_toArray, List.set_cons_zero, List.set_cons_succ]
       refine wpAnyH_ready (rs := [14]) (by kernel_rfl) (by simp) (AllReadyH.cons rfl (fun K hK => ?_) AllReadyH.nil)
       have x0 := HK8.out.cell 0
       have x1 := HK8.out.cell 1
       have f0 : (W8).frozen? ⟨g8, 0, none⟩ = false := HK8.out.frozen 0
       have f1 : (W8).frozen? ⟨g8, 1, none⟩ = false := HK8.out.frozen 1
       go_simp
       obtain ⟨WS, hW⟩ : ∃ X, X = ((W8).setCell ⟨g8, 0, none⟩ (.int .i64 om)).setCell ⟨g8, 1, none⟩ (.string (Tx.str oi)) := ⟨_, rfl⟩
       try rw [← hW]
       have ho : Only (fun k => k = g8) (W8) WS := by rw [hW]; exact ((Only.refl (fun k => k = g8) _).set_ (.inl rfl) _).set_ (.inl rfl) _
       have hz : Below wr.heap.size wr WS := by rw [hW]; exact ((((Only.of_below (M := fun _ => False) HZ.out).set_ (.inr HGg8.out) _).set_ (.inr HGg8.out) _)).below
       replace HK9 := Lib.hid (ho.blk HK9.out (fun e => HNE.out e.symm))
       replace HK8 : Hid (Blk WS g8 70 #[.int .i64 om, .string (Tx.str oi)]) := by unfold Hid; rw [hW]; have h := (HK8.out.set_ 0 (.int .i64 om)).set_ 1 (.string (Tx.str oi)); simp at h; exact h
       replace HZ := Lib.hid hz
       clear hW ho hz x0 x1 f0 f1
       try go_wp2_with fail
       refine hK.out _ _ ?_ (fun hHeld => ?_)
       ·(try dsimp only); exact HZ.out
       clear hK K
       refine wpAnyH_ready (rs := [15]) (by kernel_rfl) (by simp) (AllReadyH.cons rfl (fun K hK => ?_) AllReadyH.nil)
       have x0 := HK9.out.cell 0
       have x1 := HK9.out.cell 1
       have f0 : (WS).frozen? ⟨g9, 0, none⟩ = false := HK9.out.frozen 0
       have f1 : (WS).frozen? ⟨g9, 1, none⟩ = false := HK9.out.frozen 1
       go_simp
       obtain ⟨WT, hW⟩ : ∃ X, X = ((WS).setCell ⟨g9, 0, none⟩ (.int .i64 nm)).setCell ⟨g9, 1, none⟩ (.string (Tx.str ni)) := ⟨_, rfl⟩
       try rw [← hW]
       have ho : Only (fun k => k = g9) (WS) WT := by rw [hW]; exact ((Only.refl (fun k => k = g9) _).set_ (.inl rfl) _).set_ (.inl rfl) _
       have hz : Below wr.heap.size wr WT := by rw [hW]; exact ((((Only.of_below (M := fun _ => False) HZ.out).set_ (.inr HGg9.out) _).set_ (.inr HGg9.out) _)).below
       replace HK8 := Lib.hid (ho.blk HK8.out (fun e => HNE.out e))
       replace HK9 : Hid (Blk WT g9 70 #[.int .i64 nm, .string (Tx.str ni)]) := by unfold Hid; rw [hW]; have h := (HK9.out.set_ 0 (.int .i64 nm)).set_ 1 (.string (Tx.str ni)); simp at h; exact h
       replace HZ := Lib.hid hz
       clear hW ho hz x0 x1 f0 f1
       try go_wp2_with fail
       refine hK.out _ _ ?_ (fun hHeld => ?_)
       ·(try dsimp only); exact HZ.out
       clear hK K
       refine wpAnyH_done (by kernel_rfl) ?_ _
       try go_wp2_with fail
       go_meet
       exact ⟨g8, g9, rfl, rfl, HK8.out, HK9.out, HZ.out⟩
      ·go_simp
       obtain ⟨W8, hW⟩ : ∃ X, X = World.alloc wa (.cells #[.int .i64 0, .string ⟨#[]⟩] 70) := ⟨_, rfl⟩
       obtain ⟨g8, hg⟩ : ∃ k, k = (wa).heap.size := ⟨_, rfl⟩
       try rw [← hW]
       try rw [← hg]
       have HK8 : Hid (Blk W8 g8 70 #[.int .i64 0, .string ⟨#[]⟩]) := by unfold Hid; rw [hW, hg]; exact heap_alloc_new (wa) _
       have HNE : Hid (g8 ≠ g9) := fun e => by have := HK9.out.lt; omega
       replace HK9 : Hid (Blk W8 g9 70 #[.int .i64 0, .string ⟨#[]⟩]) := by unfold Hid; rw [hW]; exact HK9.out.alloc _
       have HGg8 : Hid (wr.heap.size ≤ g8) := by unfold Hid; rw [hg]; exact HZ.out.size
       replace HZ : Hid (Below wr.heap.size wr W8) := by unfold Hid; rw [hW]; exact (show Below wr.heap.size wr (World.alloc (wa) _) from HZ.out.alloc HZ.out.size _)
       clear hW hg
       try go_wp2_with fail
       refine hK.out _ _ ?_ (fun hHeld => ?_)
       ·(try dsimp only); exact HZ.out
       clear hK K
       try simp only [Act.put, List.setIfInBounds_toArray, List.set_cons_zero, List.set_cons_succ]
       refine wpAnyH_ready (rs := [11]) (by kernel_rfl) (by simp) (AllReadyH.cons rfl (fun K hK => ?_) AllReadyH.nil)
       go_simp
       refine (rget_any _ b xl _ (H2.out.below (HALL.out _ HZ.out))).mono ?_
       rw [show GetP b xl W8 = fun e w' => e = .returned (entV (getM b xl)) ∧ Below (W8).heap.size (W8) w' from rfl, HEB.out]
       unfold entV
       dsimp only
       rintro e wb ⟨rfl, hb⟩
       replace HK8 := Lib.hid (HK8.out.below hb HK8.out.lt)
       replace HK9 := Lib.hid (HK9.out.below hb HK9.out.lt)
       replace HZ := Lib.hid (HZ.out.trans (hb.mono HZ.out.size))
       clear hb
       try go_wp2_with fail
       refine hK.out _ _ ?_ (fun hHeld => ?_)
       ·(try dsimp only); exact HZ.out
       clear hK K
       try simp only [Act.put, List.setIfInBounds_toArray, List.set_cons_zero, List.set_cons_succ]
       refine wpAnyH_ready (rs := [14]) (by kernel_rfl) (by simp) (AllReadyH.cons rfl (fun K hK => ?_) AllReadyH.nil)
       have x0 := HK8.out.cell 0
       have x1 := HK8.out.cell 1
       have f0 : (wb).frozen? ⟨g8, 0, none⟩ = false := HK8.out.frozen 0
       have f1 : (wb).frozen? ⟨g8, 1, none⟩ = false := HK8.out.frozen 1
       go_simp
       obtain ⟨WS, hW⟩ : ∃ X, X = ((wb).setCell ⟨g8, 0, none⟩ (.int .i64 om)).setCell ⟨g8, 1, none⟩ (.string (Tx.str oi)) := ⟨_, rfl⟩
       try rw [← hW]
       have ho : Only (fun k => k = g8) (wb) WS := by rw [hW]; exact ((Only.refl (fun k => k = g8) _).set_ (.inl rfl) _).set_ (.inl rfl) _
       have hz : Below wr.heap.size wr WS := by rw [hW]; exact ((((Only.of_below (M := fun _ => False) HZ.out).set_ (.inr HGg8.out) _).set_ (.inr HGg8.out) _)).below
       replace HK9 := Lib.hid (ho.blk HK9.out (fun e => HNE.out e.symm))
       replace HK8 : Hid (Blk WS g8 70 #[.int .i64 om, .string (Tx.str oi)]) := by unfold Hid; rw [hW]; have h := (HK8.out.set_ 0 (.int .i64 om)).set_ 1 (.string (Tx.str oi)); simp at h; exact h
       replace HZ := Lib.hid hz
       clear hW ho hz x0 x1 f0 f1
       try go_wp2_with fail
       refine hK.out _ _ ?_ (fun hHeld => ?_)
       ·(try dsimp only); exact HZ.out
       clear hK K
       refine wpAnyH_ready (rs := [15]) (by kernel_rfl) (by simp) (AllReadyH.cons rfl (fun K hK => ?_) AllReadyH.nil)
       have x0 := HK9.out.cell 0
       have x1 := HK9.out.cell 1
       have f0 : (WS).frozen? ⟨g9, 0, none⟩ = false := HK9.out.frozen 0
       have f1 : (WS).frozen? ⟨g9, 1, none⟩ = false := HK9.out.frozen 1
       go_simp
       obtain ⟨WT, hW⟩ : ∃ X, X = ((WS).setCell ⟨g9, 0, none⟩ (.int .i64 nm)).setCell ⟨g9, 1, none⟩ (.string (Tx.str ni)) := ⟨_, rfl⟩
       try rw [← hW]
       have ho : Only (fun k => k = g9) (WS) WT := by rw [hW]; exact ((Only.refl (fun k => k = g9) _).set_ (.inl rfl) _).set_ (.inl rfl) _
       have hz : Below wr.heap.size wr WT := by rw [hW]; exact ((((Only.of_below (M := fun _ => False) HZ.out).set_ (.inr HGg9.out) _).set_ (.inr HGg9.out) _)).below
       replace HK8 := Lib.hid (ho.blk HK8.out (fun e => HNE.out e))
       replace HK9 : Hid (Blk WT g9 70 #[.int .i64 nm, .string (Tx.str ni)]) := by unfold Hid; rw [hW]; have h := (HK9.out.set_ 0 (.int .i64 nm)).set_ 1 (.string (Tx.str ni)); simp at h; exact h
       replace HZ := Lib.hid hz
       clear hW ho hz x0 x1 f0 f1
       try go_wp2_with fail
       refine hK.out _ _ ?_ (fun hHeld => ?_)
       ·(try dsimp only); exact HZ.out
       clear hK K
       refine wpAnyH_done (by kernel_rfl) ?_ _
       try go_wp2_with fail
       go_meet
       exact ⟨g8, g9, rfl, rfl, HK8.out, HK9.out, HZ.out⟩
     ·go_simp
      obtain ⟨W8, hW⟩ : ∃ X, X = World.alloc W9 (.cells #[.int .i64 0, .string ⟨#[]⟩] 70) := ⟨_, rfl⟩
      obtain ⟨g8, hg⟩ : ∃ k, k = (W9).heap.size := ⟨_, rfl⟩
      try rw [← hW]
      try rw [← hg]
      have HK8 : Hid (Blk W8 g8 70 #[.int .i64 0, .string ⟨#[]⟩]) := by unfold Hid; rw [hW, hg]; exact heap_alloc_new (W9) _
      have HNE : Hid (g8 ≠ g9) := fun e => by have := HK9.out.lt; omega
      replace HK9 : Hid (Blk W8 g9 70 #[.int .i64 0, .string ⟨#[]⟩]) := by unfold Hid; rw [hW]; exact HK9.out.alloc _
      have HGg8 : Hid (wr.heap.size ≤ g8) := by unfold Hid; rw [hg]; exact HZ.out.size
      replace HZ : Hid (Below wr.heap.size wr W8) := by unfold Hid; rw [hW]; exact (show Below wr.heap.size wr (World.alloc (W9) _) from HZ.out.alloc HZ.out.size _)
      clear hW hg
      try go_wp2_with fail
      refine hK.out _ _ ?_ (fun hHeld => ?_)
      ·(try dsimp only); exact HZ.out
      clear hK K
      try simp only [Act.put, List.setIfInBounds_toArray, List.set_cons_zero, List.set_cons_succ]
      refine wpAnyH_ready (rs := [5]) (by kernel_rfl) (by simp) (AllReadyH.cons rfl (fun K hK => ?_) AllReadyH.nil)
      go_simp
      refine (rget_any _ a xl _ (H1.out.below (HALL.out _ HZ.out))).mono ?_
      rw [show GetP a xl W8 = fun e w' => e = .returned (entV (getM a xl)) ∧ Below (W8).heap.size (W8) w' from rfl, HEA.out]
      unfold entV
      dsimp only
      rintro e wa ⟨rfl, hb⟩
      replace HK8 := Lib.hid (HK8.out.below hb HK8.out.lt)
      replace HK9 := Lib.hid (HK9.out.below hb HK9.out.lt)
      replace HZ := Lib.hid (HZ.out.trans (hb.mono HZ.out.size))
      clear hb
      try go_wp2_with fail
      refine hK.out _ _ ?_ (fun hHeld => ?_)
      ·(try dsimp only); exact HZ.out
      clear hK K
      try simp only [Act.put, List.setIfInBounds_toArray, List.set_cons_zero, List.set_cons_succ]
      refine wpAnyH_ready (rs := [11]) (by kernel_rfl) (by simp) (AllReadyH.cons rfl (fun K hK => ?_) AllReadyH.nil)
      go_simp
      refine (rget_any _ b xl _ (H2.out.below (HALL.out _ HZ.out))).mono ?_
      rw [show GetP b xl wa = fun e w' => e = .returned (entV (getM b xl)) ∧ Below (wa).heap.size (wa) w' from rfl, HEB.out]
      unfold entV
      dsimp only
      rintro e wb ⟨rfl, hb⟩
      replace HK8 := Lib.hid (HK8.out.below hb HK8.out.lt)
      replace HK9 := Lib.hid (HK9.out.below hb HK9.out.lt)
      replace HZ := Lib.hid (HZ.out.trans (hb.mono HZ.out.size))
      clear hb
      try go_wp2_with fail
      refine hK.out _ _ ?_ (fun hHeld => ?_)
      ·(try dsimp only); exact HZ.out
      clear hK K
      try simp only [Act.put, List.setIfInBounds_toArray, List.set_cons_zero, List.set_cons_succ]
      refine wpAnyH_ready (rs := [14]) (by kernel_rfl) (by simp) (AllReadyH.cons rfl (fun K hK => ?_) AllReadyH.nil)
      have x0 := HK8.out.cell 0
      have x1 := HK8.out.cell 1
      have f0 : (wb).frozen? ⟨g8, 0, none⟩ = false := HK8.out.frozen 0
      have f1 : (wb).frozen? ⟨g8, 1, none⟩ = false := HK8.out.frozen 1
      go_simp
      obtain ⟨WS, hW⟩ : ∃ X, X = ((wb).setCell ⟨g8, 0, none⟩ (.int .i64 om)).setCell ⟨g8, 1, none⟩ (.string (Tx.str oi)) := ⟨_, rfl⟩
      try rw [← hW]
      have ho : Only (fun k => k = g8) (wb) WS := by rw [hW]; exact ((Only.refl (fun k => k = g8) _).set_ (.inl rfl) _).set_ (.inl rfl) _
      have hz : Below wr.heap.size wr WS := by rw [hW]; exact ((((Only.of_below (M := fun _ => False) HZ.out).set_ (.inr HGg8.out) _).set_ (.inr HGg8.out) _)).below
      replace HK9 := Lib.hid (ho.blk HK9.out (fun e => HNE.out e.symm))
      replace HK8 : Hid (Blk WS g8 70 #[.int .i64 om, .string (Tx.str oi)]) := by unfold Hid; rw [hW]; have h := (HK8.out.set_ 0 (.int .i64 om)).set_ 1 (.string (Tx.str oi)); simp at h; exact h
      replace HZ := Lib.hid hz
      clear hW ho hz x0 x1 f0 f1
      try go_wp2_with fail
      refine hK.out _ _ ?_ (fun hHeld => ?_)
      ·(try dsimp only); exact HZ.out
      clear hK K
      refine wpAnyH_ready (rs := [15]) (by kernel_rfl) (by simp) (AllReadyH.cons rfl (fun K hK => ?_) AllReadyH.nil)
      have x0 := HK9.out.cell 0
      have x1 := HK9.out.cell 1
      have f0 : (WS).frozen? ⟨g9, 0, none⟩ = false := HK9.out.frozen 0
      have f1 : (WS).frozen? ⟨g9, 1, none⟩ = false := HK9.out.frozen 1
      go_simp
      obtain ⟨WT, hW⟩ : ∃ X, X = ((WS).setCell ⟨g9, 0, none⟩ (.int .i64 nm)).setCell ⟨g9, 1, none⟩ (.string (Tx.str ni)) := ⟨_, rfl⟩
      try rw [← hW]
      have ho : Only (fun k => k = g9) (WS) WT := by rw [hW]; exact ((Only.refl (fun k => k = g9) _).set_ (.inl rfl) _).set_ (.inl rfl) _
      have hz : Below wr.heap.size wr WT := by rw [hW]; exact ((((Only.of_below (M := fun _ => False) HZ.out).set_ (.inr HGg9.out) _).set_ (.inr HGg9.out) _)).below
      replace HK8 := Lib.hid (ho.blk HK8.out (fun e => HNE.out e))
      replace HK9 : Hid (Blk WT g9 70 #[.int .i64 nm, .string (Tx.str ni)]) := by unfold Hid; rw [hW]; have h := (HK9.out.set_ 0 (.int .i64 nm)).set_ 1 (.string (Tx.str ni)); simp at h; exact h
      replace HZ := Lib.hid hz
      clear hW ho hz x0 x1 f0 f1
      try go_wp2_with fail
      refine hK.out _ _ ?_ (fun hHeld => ?_)
      ·(try dsimp only); exact HZ.out
      clear hK K
      refine wpAnyH_done (by kernel_rfl) ?_ _
      try go_wp2_with fail
      go_meet
      exact ⟨g8, g9, rfl, rfl, HK8.out, HK9.out, HZ.out⟩
   case rest =>
    obtain ⟨g8, g9, rfl, rfl, hk8, hk9, hbw⟩ := hcut
    have HK8 := Lib.hid hk8
    have HK9 := Lib.hid hk9
    have HBW := Lib.hid hbw
    have k0 := hk8.cell 0
    have k1 := hk8.cell 1
    have j0 := hk9.cell 0
    have j1 := hk9.cell 1
    clear hk8 hk9 hbw
    go_wp2_with fail
    refine (rsame_any (om, oi) (nm, ni) _).mono ?_
    obtain ⟨t, ht⟩ : ∃ t, sameM (om, oi) (nm, ni) = t := ⟨_, rfl⟩
    rw [ht]
    have HT := Lib.hid ht
    rintro e w8 ⟨rfl, hb8⟩
    have HBZ := Lib.hid (HBW.out.trans (hb8.mono HBW.out.size))
    have HZ8 := Lib.hid (HK8.out.below hb8 HK8.out.lt)
    have HZ9 := Lib.hid (HK9.out.below hb8 HK9.out.lt)
    clear hb8 ht k0 k1 j0 j1
    cases t with
    | true =>
     go_wp2_with fail
     go_roundw
     case rel => exact ⟨i + 1, u6, by omega, rfl, by go_num, by rw [HNX.out, if_pos HT.out, List.append_nil]; exact OwnCg.below HOV.out HBZ.out, HB.out.trans (HBZ.out.mono HB.out.size)⟩
     case measure => simp [intOf]; omega
    | false =>
     have HSM : Hid ((stsM a b (L.take i)).length + 1 ≤ 2000000) := by have h := stsM_len a b (L.take i); rw [List.length_take] at h; unfold Hid; omega
     have HO8 : Hid (OwnCg 73 w8 w5.heap.size u6 (stsM a b (L.take i))) := OwnCg.below HOV.out HBZ.out
     have HB8 : Hid (Below w5.heap.size w5 w8) := HB.out.trans (HBZ.out.mono HB.out.size)
     have HTX : Hid (∀ W, Only (fun k => u6.ownBlock = some k) w8 W → W.cell? (ad.add i) = some (.string (Tx.str xl))) := fun W hW => HTC.out W (HB8.out.trans (below_only hW (fun k hk => (World.ownsRow.lt HO8.out k hk).1) HB8.out.size))
     have HY8 : Hid (∀ W, Only (fun k => u6.ownBlock = some k) w8 W → Blk W g8 70 #[.int .i64 om, .string (Tx.str oi)]) := fun W hW => hW.blk HZ8.out (OwnCg.ne_blk HO8.out HZ8.out (by decide))
     have HY9 : Hid (∀ W, Only (fun k => u6.ownBlock = some k) w8 W → Blk W g9 70 #[.int .i64 nm, .string (Tx.str ni)]) := fun W hW => hW.blk HZ9.out (OwnCg.ne_blk HO8.out HZ9.out (by decide))
     have HZ : Hid (Only (fun k => u6.ownBlock = some k) w8 w8.drew) := (Only.refl _ _).drew
     go_upto_region 8 with (fail)
     refine wp_region_held_drew (S := (fun W : World => Only (fun k => u6.ownBlock = some k) w8 W)) (by kernel_rfl) ?_ (fun hHeld => ?_)
     ·(try dsimp only); exact HZ.out
     refine take_at (i := 0) (d := 36) (v := ?_) rfl (by kernel_rfl) (hy := .inl ⟨by kernel_rfl, ?_⟩) (h := ?_)
     rotate_left
     ·intro W hSw; (try dsimp only at hSw); go_simp; first | done | with_reducible rfl
     try simp only [Act.put, List.setIfInBounds_toArray, List.set_cons_zero, List.set_cons_succ]
     refine take_at (i := 1) (d := 37) (v := ?_) rfl (by kernel_rfl) (hy := .inl ⟨by kernel_rfl, ?_⟩) (h := ?_)
     rotate_left
     ·intro W hSw; (try dsimp only at hSw); go_simp; first | done | with_reducible rfl
     try simp only [Act.put, List.setIfInBounds_toArray, List.set_cons_zero, List.set_cons_succ]
     refine take_at (i := 2) (d := 38) (v := ?_) rfl (by kernel_rfl) (hy := .inl ⟨by kernel_rfl, ?_⟩) (h := ?_)
     rotate_left
     ·intro W hSw; (try dsimp only at hSw); go_simp; first | done | with_reducible rfl
     try simp only [Act.put, List.setIfInBounds_toArray, List.set_cons_zero, List.set_cons_succ]
     refine take_at (i := 3) (d := 39) (v := ?_) rfl (by kernel_rfl) (hy := .inl ⟨by kernel_rfl, ?_⟩) (h := ?_)
     rotate_left
     ·intro W hSw; (try dsimp only at hSw); go_simp; first | done | with_reducible rfl
     try simp only [Act.put, List.setIfInBounds_toArray, List.set_cons_zero, List.set_cons_succ]
     refine take_at (i := 4) (d := 40) (v := ?_) rfl (by kernel_rfl) (hy := .inl ⟨by kernel_rfl, ?_⟩) (h := ?_)
     rotate_left
     ·intro W hSw
      try dsimp only at hSw
      have hc9 := HTX.out _ hSw
      go_simp
      first | done | with_reducible rfl
     try simp only [Act.put, List.setIfInBounds_toArray, List.set_cons_zero, List.set_cons_succ]
     refine take_at (i := 5) (d := 41) (v := ?_) rfl (by kernel_rfl) (hy := .inl ⟨by kernel_rfl, ?_⟩) (h := ?_)
     rotate_left
     ·intro W hSw
      try dsimp only at hSw
      have hz9 := HY8.out _ hSw
      have k0 := hz9.cell 0
      have k1 := hz9.cell 1
      go_simp
      first | done | with_reducible rfl
     try simp only [Act.put, List.setIfInBounds_toArray, List.set_cons_zero, List.set_cons_succ]
     refine take_at (i := 6) (d := 42) (v := ?_) rfl (by kernel_rfl) (hy := .inl ⟨by kernel_rfl, ?_⟩) (h := ?_)
     rotate_left
     ·intro W hSw
      try dsimp only at hSw
      have hz9 := HY9.out _ hSw
      have k0 := hz9.cell 0
      have k1 := hz9.cell 1
      go_simp
      first | done | with_reducible rfl
     try simp only [Act.put, List.setIfInBounds_toArray, List.set_cons_zero, List.set_cons_succ]
     refine take_at (i := 7) (d := 43) (v := ?_) rfl (by kernel_rfl) (hy := .inl ⟨by kernel_rfl, ?_⟩) (h := ?_)
     rotate_left
     ·intro W hSw; (try dsimp only at hSw); go_simp; first | done | with_reducible rfl
     try simp only [Act.put, List.setIfInBounds_toArray, List.set_cons_zero, List.set_cons_succ]
     refine wpAnyH_ready (rs := [8]) (by kernel_rfl) (by simp) (AllReadyH.cons rfl (fun K hK => ?_) AllReadyH.nil)
     go_simp
     obtain ⟨WB, hW⟩ : ∃ X, X = (World.alloc w8 (.cells #[.string (Tx.str xl), .int .i64 om, .string (Tx.str oi), .int .i64 nm, .string (Tx.str ni)] 73)).drew := ⟨_, rfl⟩
     obtain ⟨gb, hg⟩ : ∃ k, k = w8.heap.size := ⟨_, rfl⟩
     try rw [← hW]
     try rw [← hg]
     have HKB : Hid (Blk WB gb 73 #[.string (Tx.str xl), .int .i64 om, .string (Tx.str oi), .int .i64 nm, .string (Tx.str ni)]) := by unfold Hid; rw [hW, hg]; exact heap_alloc_new w8 _
     have HOB : Hid (OwnCg 73 WB w5.heap.size u6 (stsM a b (L.take i))) := by unfold Hid; rw [hW]; exact OwnCg.below HO8.out ((Below.refl _ _).alloc (Nat.le_refl _) _).drew
     have HBB : Hid (Below w5.heap.size w5 WB) := by unfold Hid; rw [hW]; exact (HB8.out.alloc HB8.out.size _).drew
     replace HZ : Hid (Only (fun k => u6.ownBlock = some k) w8 WB) := by unfold Hid; rw [hW]; exact ((Only.refl _ w8).alloc _).drew
     clear hW hg
     try go_wp2_with fail
     refine hK.out _ _ ?_ (fun hHeld => ?_)
     ·(try dsimp only); exact HZ.out
     clear hK K
     try simp only [Act.put, List.setIfInBounds_toArray, List.set_cons_zero, List.set_cons_succ]
     refine wpAnyH_ready (rs := [9]) (by kernel_rfl) (by simp) (AllReadyH.cons rfl (fun K hK => ?_) AllReadyH.nil)
     refine scg_row Tryz.underlying67 info_rchg 45 rfl rfl (.tmp 36) (.tmp 44) rfl WB w5.heap.size u6 _ rfl HOB.out ⟨xl, (om, oi), (nm, ni)⟩ gb HKB.out rfl HSM.out HBB.out.size ?_
     intro v4 w4 ho4 hg4
     have HO4 := Lib.hid ho4
     have HB4 := Lib.hid (HBB.out.trans ((Below.refl _ _).grown hg4 HBB.out.size (fun k hk => (World.ownsRow.lt HOB.out k hk).1)))
     replace HZ := Lib.hid (HZ.out.grown hg4 (fun g hg => .inl hg))
     clear ho4 hg4
     try go_wp2_with fail
     refine hK.out _ _ ?_ (fun hHeld => ?_)
     ·(try dsimp only); exact HZ.out
     clear hK K
     try simp only [Act.put, List.setIfInBounds_toArray, List.set_cons_zero, List.set_cons_succ]
     refine take_at (i := 10) (d := 6) (v := ?_) rfl (by kernel_rfl) (hy := .inl ⟨by kernel_rfl, ?_⟩) (h := ?_)
     rotate_left
     ·intro W hSw; (try dsimp only at hSw); go_simp; first | done | with_reducible rfl
     try simp only [Act.put, List.setIfInBounds_toArray, List.set_cons_zero, List.set_cons_succ]
     refine wpAnyH_done (by kernel_rfl) ?_ _
     try go_wp2_with fail
     go_roundw
     case rel => exact ⟨i + 1, v4, by omega, rfl, by go_num, by rw [HNX.out, HT.out, if_neg (by decide), HCG.out]; exact HO4.out, HB4.out⟩
     case measure => simp [intOf]; omega
  ·obtain rfl : i = M := by omega
   have HL : Hid (L.take i = L) := List.take_of_length_le (Nat.le_of_eq HM.out)
   go_wp2_with fail
   go_ret
   exact ⟨_, rfl, by have h := HOV.out.base HB05.out.size; rw [HL.out] at h; rw [HEL.out]; exact h, HB05.out.trans (HB.out.mono HB05.out.size)⟩
end Go.Proofs.YtbenkmihkbjgeaaGreat.Tx
