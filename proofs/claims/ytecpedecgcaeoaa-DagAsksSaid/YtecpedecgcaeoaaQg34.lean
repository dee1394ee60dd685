/- Texts put together: DgO2. -/
import Derived.Test.YtecpedecgcaeoaaQg33
/- Package dag: Order$1, UNFINISHED: not clean. Region 1 passes (45 s), region 2 (STEPS by mk_dgo.py) did not end in 250 s; behind operation 4 it stood at 94 s. -/
set_option linter.unusedVariables false
set_option linter.unusedSimpArgs false
namespace Go.Proofs.Ytecpedecgcaeoaa.Tx
open Go.RowKit Go.Maps Go.Proofs.Ytecpedecgcaeoaa.Sh Go.Shelf Go.Lib
open Classical

abbrev domOf {A B : Prop} (_ : A → B) : Prop := A
theorem withid {G : Prop} (k : (G → G) → G) : G := k id
set_option maxRecDepth 100000 in
set_option maxHeartbeats 3200000 in
theorem oclos_any (Z F : Nat → Prop) (g bm bg : Nat) (v : Value) (G : GR) (i j : Nat) (w : World) (hx : GX Z F w g bm v G) (hbg : w.cell? ⟨bg, 0, none⟩ = some (.pointer (some ⟨g, 0, none⟩))) (hi : i < G.length) (hj : j < G.length) :
    Calls Try.prog 43 #[.int .i64 (i : Int), .int .i64 (j : Int), .pointer (some ⟨bg, 0, none⟩)] w fun e w' => e = .returned (.int .i64 (cmpG G i j)) ∧ Below w.heap.size w w' ∧ w.drawn ≤ w'.drawn := by
  obtain ⟨Ar, cr, rfl, hlr, hcr⟩ := hx.slice
  have c1 := hx.c1
  obtain ⟨ad, d1, rfl, hd1, _, a0, a1, a2⟩ := hx.at_ i hi
  obtain ⟨ad', d2, he, hd2, _, b0, b1, b2⟩ := hx.at_ j hj
  injection he with he
  subst he
  obtain ⟨D1, n1, k1, rfl⟩ : ∃ A n c, d1 = .slice A n c := by obtain ⟨A, c, e, _⟩ := hd1.len; exact ⟨A, _, c, e⟩
  obtain ⟨D2, n2, k2, rfl⟩ : ∃ A n c, d2 = .slice A n c := by obtain ⟨A, c, e, _⟩ := hd2.len; exact ⟨A, _, c, e⟩
  obtain ⟨n, hn⟩ : ∃ n, List.length G = n := ⟨_, rfl⟩
  rw [hn] at c1 hi hj hlr
  obtain ⟨r, hr⟩ : ∃ r, cmpG G i j = r := ⟨_, rfl⟩
  have HCMP : Hid (r = if gcmp (stAt G j) (stAt G i) ≠ 0 then gcmp (stAt G j) (stAt G i) else cmpL (idAt G i).toList (idAt G j).toList) := hr.symm
  rw [hr]
  obtain ⟨si, hsi⟩ : ∃ x, stAt G i = x := ⟨_, rfl⟩
  obtain ⟨sj, hsj⟩ : ∃ x, stAt G j = x := ⟨_, rfl⟩
  obtain ⟨xi, hxi⟩ : ∃ x, idAt G i = x := ⟨_, rfl⟩
  obtain ⟨xj, hxj⟩ : ∃ x, idAt G j = x := ⟨_, rfl⟩
  rw [hsi] at a2 HCMP
  rw [hsj] at b2 HCMP
  rw [hxi] at a0 HCMP
  rw [hxj] at b0 HCMP
  have i0 : (0 : Int) ≤ (i : Int) := by omega
  have i1 : (i : Int) < (n : Int) := by omega
  have j0 : (0 : Int) ≤ (j : Int) := by omega
  have j1 : (j : Int) < (n : Int) := by omega
  clear hx hd1 hd2 hsi hsj hxi hxj hn hi hj hlr hcr
  have kk : ∀ (a : Addr) (u : Value), w.cell? a = some u → ∀ W, Below w.heap.size w W → W.cell? a = some u := fun a u h W hb => by rw [hb.cell (World.block_lt_of_cell? w a h)]; exact h
  have B1 : Below w.heap.size w (w.alloc (.cells #[.string ⟨#[]⟩, .slice none 0 0, .int .i64 0] 57)) := (Below.refl _ _).alloc (Nat.le_refl _) _
  have B2 : Below w.heap.size w ((w.alloc (.cells #[.string ⟨#[]⟩, .slice none 0 0, .int .i64 0] 57)).alloc (.cells #[.string ⟨#[]⟩, .slice none 0 0, .int .i64 0] 57)) := B1.alloc B1.size _
  have e1 := kk _ _ hbg _ B1
  have e2 := kk _ _ hbg _ B2
  have e3 := kk _ _ c1 _ B1
  have e4 := kk _ _ c1 _ B2
  have e5 := kk _ _ a0 _ B1
  have e6 := kk _ _ a0 _ B2
  have e7 := kk _ _ a1 _ B1
  have e8 := kk _ _ a1 _ B2
  have e9 := kk _ _ a2 _ B1
  have e10 := kk _ _ a2 _ B2
  have f5 := kk _ _ b0 _ B1
  have f6 := kk _ _ b0 _ B2
  have f7 := kk _ _ b1 _ B1
  have f8 := kk _ _ b1 _ B2
  have f9 := kk _ _ b2 _ B1
  have f10 := kk _ _ b2 _ B2
  have B3 : Below w.heap.size w (w.alloc (.cells #[.string xi, .slice D1 n1 k1, .int .i64 si] 57)) := (Below.refl _ _).alloc (Nat.le_refl _) _
  have B4 : Below w.heap.size w ((w.alloc (.cells #[.string ⟨#[]⟩, .slice none 0 0, .int .i64 0] 57)).alloc (.cells #[.string xi, .slice D1 n1 k1, .int .i64 si] 57)) := B1.alloc B1.size _
  have B5 : Below w.heap.size w ((w.alloc (.cells #[.string xi, .slice D1 n1 k1, .int .i64 si] 57)).alloc (.cells #[.string ⟨#[]⟩, .slice none 0 0, .int .i64 0] 57)) := B3.alloc B3.size _
  have qhbg1 := kk _ _ hbg _ B3
  have qhbg2 := kk _ _ hbg _ B4
  have qhbg3 := kk _ _ hbg _ B5
  have qc11 := kk _ _ c1 _ B3
  have qc12 := kk _ _ c1 _ B4
  have qc13 := kk _ _ c1 _ B5
  have qb01 := kk _ _ b0 _ B3
  have qb02 := kk _ _ b0 _ B4
  have qb03 := kk _ _ b0 _ B5
  have qb11 := kk _ _ b1 _ B3
  have qb12 := kk _ _ b1 _ B4
  have qb13 := kk _ _ b1 _ B5
  have qb21 := kk _ _ b2 _ B3
  have qb22 := kk _ _ b2 _ B4
  have qb23 := kk _ _ b2 _ B5
  clear kk
  go_enter Try.func43, Try.ntmps43
  go_upto_region 1 with (fail)
  go_region
  · clear e1 e2 e3 e4 e5 e6 e7 e8 e9 e10 f5 f6 f7 f8 f9 f10 qhbg1 qhbg2 qhbg3 qc11 qc12 qc13 qb01 qb02 qb03 qb11 qb12 qb13 qb21 qb22 qb23 B1 B2 B3 B4 B5 hbg c1 a0 a1 a2 b0 b1 b2
    obtain ⟨W1, hW1⟩ : ∃ W1, W1 = (w.alloc (.cells #[.string xi, .slice D1 n1 k1, .int .i64 si] 57)).alloc (.cells #[.string xj, .slice D2 n2 k2, .int .i64 sj] 57) := ⟨_, rfl⟩
    obtain ⟨p1, hp1⟩ : ∃ p, p = w.heap.size := ⟨_, rfl⟩
    obtain ⟨p2, hp2⟩ : ∃ p, p = w.heap.size + 1 := ⟨_, rfl⟩
    have BX : Blk W1 p1 57 #[.string xi, .slice D1 n1 k1, .int .i64 si] := by rw [hW1, hp1]; exact (Blk.new w 57 #[.string xi, .slice D1 n1 k1, .int .i64 si]).alloc _
    have BY : Blk W1 p2 57 #[.string xj, .slice D2 n2 k2, .int .i64 sj] := by rw [hW1, hp2]; exact (by simpa using Blk.new (w.alloc (.cells #[.string xi, .slice D1 n1 k1, .int .i64 si] 57)) 57 #[.string xj, .slice D2 n2 k2, .int .i64 sj])
    have HBW : Hid (Below w.heap.size w W1) := by rw [hW1]; exact Lib.hid (((Below.refl _ _).alloc (Nat.le_refl _) _).alloc (by simp) _)
    have HDW : Hid (w.drawn ≤ W1.drawn) := by rw [hW1]; exact Lib.hid (Nat.le_refl _)
    rw [← hW1, ← hp2, ← hp1]
    clear hW1 hp1 hp2
    have x0 : W1.cell? ⟨p1, 0, none⟩ = some (.string xi) := BX.cell 0
    have x2 : W1.cell? ⟨p1, 2, none⟩ = some (.int .i64 si) := BX.cell 2
    have y0 : W1.cell? ⟨p2, 0, none⟩ = some (.string xj) := BY.cell 0
    have y2 : W1.cell? ⟨p2, 2, none⟩ = some (.int .i64 sj) := BY.cell 2
    have HK : Hid (∀ (a : Addr) (u : Value), W1.cell? a = some u → ∀ o, (W1.alloc o).cell? a = some u) := Lib.hid fun a u h o => by rw [((Below.refl _ _).alloc (Nat.le_refl _) o : Below W1.heap.size W1 (W1.alloc o)).cell (World.block_lt_of_cell? _ a h)]; exact h
    clear BX BY
    refine withid fun hid => ?_
    let rec auxa : domOf hid := by
      clear auxa
      delta domOf
      clear hid
      go_wp2_with fail
      -- STEPS
      refine wp_region_held_drew (S := (fun W => W.cell? ⟨p1, 0, none⟩ = some (.string xi) ∧ W.cell? ⟨p1, 2, none⟩ = some (.int .i64 si) ∧ W.cell? ⟨p2, 0, none⟩ = some (.string xj) ∧ W.cell? ⟨p2, 2, none⟩ = some (.int .i64 sj))) (by kernel_rfl) ?_ (fun hHeld => ?_)
      · try dsimp only
        exact ⟨x0, x2, y0, y2⟩
      refine take_at (i := 0) (d := 22) (v := ?_) rfl (by kernel_rfl) (by kernel_rfl) (by kernel_rfl) (by kernel_rfl) (fun _ _ _ h => h) (Or.inl ⟨by kernel_rfl, ?_⟩) (by assumption) ?_
      rotate_left
      · intro W hSw
        try dsimp only at hSw
        go_simp
        first | done | with_reducible rfl
      try simp only [Act.put, List.setIfInBounds_toArray, List.set_cons_zero, List.set_cons_succ]
      refine take_at (i := 1) (d := 23) (v := ?_) rfl (by kernel_rfl) (by kernel_rfl) (by kernel_rfl) (by kernel_rfl) (fun _ _ _ h => h) (Or.inl ⟨by kernel_rfl, ?_⟩) (by assumption) ?_
      rotate_left
      · intro W hSw
        try dsimp only at hSw
        obtain ⟨z0, z2, u0, u2⟩ := hSw
        go_simp
        first | done | with_reducible rfl
      try simp only [Act.put, List.setIfInBounds_toArray, List.set_cons_zero, List.set_cons_succ]
      refine take_at (i := 2) (d := 24) (v := ?_) rfl (by kernel_rfl) (by kernel_rfl) (by kernel_rfl) (by kernel_rfl) (fun _ _ _ h => h) (Or.inl ⟨by kernel_rfl, ?_⟩) (by assumption) ?_
      rotate_left
      · intro W hSw
        try dsimp only at hSw
        go_simp
        first | done | with_reducible rfl
      try simp only [Act.put, List.setIfInBounds_toArray, List.set_cons_zero, List.set_cons_succ]
      refine take_at (i := 3) (d := 25) (v := ?_) rfl (by kernel_rfl) (by kernel_rfl) (by kernel_rfl) (by kernel_rfl) (fun _ _ _ h => h) (Or.inl ⟨by kernel_rfl, ?_⟩) (by assumption) ?_
      rotate_left
      · intro W hSw
        try dsimp only at hSw
        obtain ⟨z0, z2, u0, u2⟩ := hSw
        go_simp
        first | done | with_reducible rfl
      try simp only [Act.put, List.setIfInBounds_toArray, List.set_cons_zero, List.set_cons_succ]
      refine take_at (i := 5) (d := 27) (v := ?_) rfl (by kernel_rfl) (by kernel_rfl) (by kernel_rfl) (by kernel_rfl) (fun _ _ _ h => h) (Or.inl ⟨by kernel_rfl, ?_⟩) (by assumption) ?_
      rotate_left
      · intro W hSw
        try dsimp only at hSw
        go_simp
        first | done | with_reducible rfl
      try simp only [Act.put, List.setIfInBounds_toArray, List.set_cons_zero, List.set_cons_succ]
      refine take_at (i := 6) (d := 28) (v := ?_) rfl (by kernel_rfl) (by kernel_rfl) (by kernel_rfl) (by kernel_rfl) (fun _ _ _ h => h) (Or.inl ⟨by kernel_rfl, ?_⟩) (by assumption) ?_
      rotate_left
      · intro W hSw
        try dsimp only at hSw
        obtain ⟨z0, z2, u0, u2⟩ := hSw
        go_simp
        first | done | with_reducible rfl
      try simp only [Act.put, List.setIfInBounds_toArray, List.set_cons_zero, List.set_cons_succ]
      refine take_at (i := 7) (d := 29) (v := ?_) rfl (by kernel_rfl) (by kernel_rfl) (by kernel_rfl) (by kernel_rfl) (fun _ _ _ h => h) (Or.inl ⟨by kernel_rfl, ?_⟩) (by assumption) ?_
      rotate_left
      · intro W hSw
        try dsimp only at hSw
        go_simp
        first | done | with_reducible rfl
      try simp only [Act.put, List.setIfInBounds_toArray, List.set_cons_zero, List.set_cons_succ]
      refine take_at (i := 8) (d := 30) (v := ?_) rfl (by kernel_rfl) (by kernel_rfl) (by kernel_rfl) (by kernel_rfl) (fun _ _ _ h => h) (Or.inl ⟨by kernel_rfl, ?_⟩) (by assumption) ?_
      rotate_left
      · intro W hSw
        try dsimp only at hSw
        obtain ⟨z0, z2, u0, u2⟩ := hSw
        go_simp
        first | done | with_reducible rfl
      try simp only [Act.put, List.setIfInBounds_toArray, List.set_cons_zero, List.set_cons_succ]
      refine wpAnyH_ready (rs := [4]) (by kernel_rfl) (by simp) (AllReadyH.cons rfl (fun K hK => ?_) AllReadyH.nil)
      go_simp
      refine (gcompare_any sj si _).mono ?_
      rintro e w5 ⟨rfl, rfl⟩
      try go_wp2_with fail
      refine hK.out _ _ ?_ (fun hHeld => ?_)
      · try dsimp only
        exact ⟨x0, x2, y0, y2⟩
      clear hK K
      try simp only [Act.put, List.setIfInBounds_toArray, List.set_cons_zero, List.set_cons_succ]
      refine wpAnyH_ready (rs := [9]) (by kernel_rfl) (by simp) (AllReadyH.cons rfl (fun K hK => ?_) AllReadyH.nil)
      go_simp
      refine (cmp_any xi xj _).mono ?_
      rintro e w6 ⟨rfl, rfl⟩
      try go_wp2_with fail
      refine hK.out _ _ ?_ (fun hHeld => ?_)
      · try dsimp only
        exact ⟨x0, x2, y0, y2⟩
      clear hK K
      try simp only [Act.put, List.setIfInBounds_toArray, List.set_cons_zero, List.set_cons_succ]
      refine wpAnyH_ready (rs := [10]) (by kernel_rfl) (by simp) (AllReadyH.cons rfl (fun K hK => ?_) AllReadyH.nil)
      go_simp
      try go_wp2_with fail
      refine hK.out _ _ ?_ (fun hHeld => ?_)
      · try dsimp only
        exact ⟨HK.out _ _ x0 _, HK.out _ _ x2 _, HK.out _ _ y0 _, HK.out _ _ y2 _⟩
      clear hK K
      try simp only [Act.put, List.setIfInBounds_toArray, List.set_cons_zero, List.set_cons_succ]
      refine wpAnyH_ready (rs := [11]) (by kernel_rfl) (by simp) (AllReadyH.cons rfl (fun K hK => ?_) AllReadyH.nil)
      go_simp
      refine (gor_any _ (gcmp sj si) (cmpL xi.toList xj.toList) r _ HCMP (by first | exact (Blk.new _ _ _).cell 0 | exact (Blk.new _ _ _).drew.cell 0) (by first | exact (Blk.new _ _ _).cell 1 | exact (Blk.new _ _ _).drew.cell 1)).mono ?_
      rintro e w7 ⟨rfl, rfl⟩
      try go_wp2_with fail
      refine hK.out _ _ ?_ (fun hHeld => ?_)
      · try dsimp only
        exact ⟨HK.out _ _ x0 _, HK.out _ _ x2 _, HK.out _ _ y0 _, HK.out _ _ y2 _⟩
      clear hK K
      try simp only [Act.put, List.setIfInBounds_toArray, List.set_cons_zero, List.set_cons_succ]
      refine take_at (i := 12) (d := 5) (v := ?_) rfl (by kernel_rfl) (by kernel_rfl) (by kernel_rfl) (by kernel_rfl) (fun _ _ _ h => h) (Or.inl ⟨by kernel_rfl, ?_⟩) (by assumption) ?_
      rotate_left
      · intro W hSw
        try dsimp only at hSw
        go_simp
        first | done | with_reducible rfl
      try simp only [Act.put, List.setIfInBounds_toArray, List.set_cons_zero, List.set_cons_succ]
      refine wpAnyH_done (by kernel_rfl) ?_ _
      go_wp2_with fail
      go_ret
      refine ⟨rfl, ?_, ?_⟩
      · first | exact (HBW.out.alloc HBW.out.size _).drew.drew | exact HBW.out.drew.drew.alloc HBW.out.size _ | (trace_state; sorry)
      · have h := HDW.out
        first | (simp only [World.drew, World.alloc]; omega) | (trace_state; sorry)
      -- END STEPS
    exact auxa
  · clear e1 e2 e3 e4 e5 e6 e7 e8 e9 e10 f5 f6 f7 f8 f9 f10 qhbg1 qhbg2 qhbg3 qc11 qc12 qc13 qb01 qb02 qb03 qb11 qb12 qb13 qb21 qb22 qb23 B1 B2 B3 B4 B5 hbg c1 a0 a1 a2 b0 b1 b2
    obtain ⟨W1, hW1⟩ : ∃ W1, W1 = (w.alloc (.cells #[.string xj, .slice D2 n2 k2, .int .i64 sj] 57)).alloc (.cells #[.string xi, .slice D1 n1 k1, .int .i64 si] 57) := ⟨_, rfl⟩
    obtain ⟨p1, hp1⟩ : ∃ p, p = w.heap.size + 1 := ⟨_, rfl⟩
    obtain ⟨p2, hp2⟩ : ∃ p, p = w.heap.size := ⟨_, rfl⟩
    have BX : Blk W1 p1 57 #[.string xi, .slice D1 n1 k1, .int .i64 si] := by rw [hW1, hp1]; exact (by simpa using Blk.new (w.alloc (.cells #[.string xj, .slice D2 n2 k2, .int .i64 sj] 57)) 57 #[.string xi, .slice D1 n1 k1, .int .i64 si])
    have BY : Blk W1 p2 57 #[.string xj, .slice D2 n2 k2, .int .i64 sj] := by rw [hW1, hp2]; exact (Blk.new w 57 #[.string xj, .slice D2 n2 k2, .int .i64 sj]).alloc _
    have HBW : Hid (Below w.heap.size w W1) := by rw [hW1]; exact Lib.hid (((Below.refl _ _).alloc (Nat.le_refl _) _).alloc (by simp) _)
    have HDW : Hid (w.drawn ≤ W1.drawn) := by rw [hW1]; exact Lib.hid (Nat.le_refl _)
    rw [← hW1, ← hp1, ← hp2]
    clear hW1 hp1 hp2
    have x0 : W1.cell? ⟨p1, 0, none⟩ = some (.string xi) := BX.cell 0
    have x2 : W1.cell? ⟨p1, 2, none⟩ = some (.int .i64 si) := BX.cell 2
    have y0 : W1.cell? ⟨p2, 0, none⟩ = some (.string xj) := BY.cell 0
    have y2 : W1.cell? ⟨p2, 2, none⟩ = some (.int .i64 sj) := BY.cell 2
    have HK : Hid (∀ (a : Addr) (u : Value), W1.cell? a = some u → ∀ o, (W1.alloc o).cell? a = some u) := Lib.hid fun a u h o => by rw [((Below.refl _ _).alloc (Nat.le_refl _) o : Below W1.heap.size W1 (W1.alloc o)).cell (World.block_lt_of_cell? _ a h)]; exact h
    clear BX BY
    refine withid fun hid => ?_
    let rec auxb : domOf hid := by
      clear auxb
      delta domOf
      clear hid
      go_wp2_with fail
      -- STEPS
      refine wp_region_held_drew (S := (fun W => W.cell? ⟨p1, 0, none⟩ = some (.string xi) ∧ W.cell? ⟨p1, 2, none⟩ = some (.int .i64 si) ∧ W.cell? ⟨p2, 0, none⟩ = some (.string xj) ∧ W.cell? ⟨p2, 2, none⟩ = some (.int .i64 sj))) (by kernel_rfl) ?_ (fun hHeld => ?_)
      · try dsimp only
        exact ⟨x0, x2, y0, y2⟩
      refine take_at (i := 0) (d := 22) (v := ?_) rfl (by kernel_rfl) (by kernel_rfl) (by kernel_rfl) (by kernel_rfl) (fun _ _ _ h => h) (Or.inl ⟨by kernel_rfl, ?_⟩) (by assumption) ?_
      rotate_left
      · intro W hSw
        try dsimp only at hSw
        go_simp
        first | done | with_reducible rfl
      try simp only [Act.put, List.setIfInBounds_toArray, List.set_cons_zero, List.set_cons_succ]
      refine take_at (i := 1) (d := 23) (v := ?_) rfl (by kernel_rfl) (by kernel_rfl) (by kernel_rfl) (by kernel_rfl) (fun _ _ _ h => h) (Or.inl ⟨by kernel_rfl, ?_⟩) (by assumption) ?_
      rotate_left
      · intro W hSw
        try dsimp only at hSw
        obtain ⟨z0, z2, u0, u2⟩ := hSw
        go_simp
        first | done | with_reducible rfl
      try simp only [Act.put, List.setIfInBounds_toArray, List.set_cons_zero, List.set_cons_succ]
      refine take_at (i := 2) (d := 24) (v := ?_) rfl (by kernel_rfl) (by kernel_rfl) (by kernel_rfl) (by kernel_rfl) (fun _ _ _ h => h) (Or.inl ⟨by kernel_rfl, ?_⟩) (by assumption) ?_
      rotate_left
      · intro W hSw
        try dsimp only at hSw
        go_simp
        first | done | with_reducible rfl
      try simp only [Act.put, List.setIfInBounds_toArray, List.set_cons_zero, List.set_cons_succ]
      refine take_at (i := 3) (d := 25) (v := ?_) rfl (by kernel_rfl) (by kernel_rfl) (by kernel_rfl) (by kernel_rfl) (fun _ _ _ h => h) (Or.inl ⟨by kernel_rfl, ?_⟩) (by assumption) ?_
      rotate_left
      · intro W hSw
        try dsimp only at hSw
        obtain ⟨z0, z2, u0, u2⟩ := hSw
        go_simp
        first | done | with_reducible rfl
      try simp only [Act.put, List.setIfInBounds_toArray, List.set_cons_zero, List.set_cons_succ]
      refine take_at (i := 5) (d := 27) (v := ?_) rfl (by kernel_rfl) (by kernel_rfl) (by kernel_rfl) (by kernel_rfl) (fun _ _ _ h => h) (Or.inl ⟨by kernel_rfl, ?_⟩) (by assumption) ?_
      rotate_left
      · intro W hSw
        try dsimp only at hSw
        go_simp
        first | done | with_reducible rfl
      try simp only [Act.put, List.setIfInBounds_toArray, List.set_cons_zero, List.set_cons_succ]
      refine take_at (i := 6) (d := 28) (v := ?_) rfl (by kernel_rfl) (by kernel_rfl) (by kernel_rfl) (by kernel_rfl) (fun _ _ _ h => h) (Or.inl ⟨by kernel_rfl, ?_⟩) (by assumption) ?_
      rotate_left
      · intro W hSw
        try dsimp only at hSw
        obtain ⟨z0, z2, u0, u2⟩ := hSw
        go_simp
        first | done | with_reducible rfl
      try simp only [Act.put, List.setIfInBounds_toArray, List.set_cons_zero, List.set_cons_succ]
      refine take_at (i := 7) (d := 29) (v := ?_) rfl (by kernel_rfl) (by kernel_rfl) (by kernel_rfl) (by kernel_rfl) (fun _ _ _ h => h) (Or.inl ⟨by kernel_rfl, ?_⟩) (by assumption) ?_
      rotate_left
      · intro W hSw
        try dsimp only at hSw
        go_simp
        first | done | with_reducible rfl
      try simp only [Act.put, List.setIfInBounds_toArray, List.set_cons_zero, List.set_cons_succ]
      refine take_at (i := 8) (d := 30) (v := ?_) rfl (by kernel_rfl) (by kernel_rfl) (by kernel_rfl) (by kernel_rfl) (fun _ _ _ h => h) (Or.inl ⟨by kernel_rfl, ?_⟩) (by assumption) ?_
      rotate_left
      · intro W hSw
        try dsimp only at hSw
        obtain ⟨z0, z2, u0, u2⟩ := hSw
        go_simp
        first | done | with_reducible rfl
      try simp only [Act.put, List.setIfInBounds_toArray, List.set_cons_zero, List.set_cons_succ]
      refine wpAnyH_ready (rs := [4]) (by kernel_rfl) (by simp) (AllReadyH.cons rfl (fun K hK => ?_) AllReadyH.nil)
      go_simp
      refine (gcompare_any sj si _).mono ?_
      rintro e w5 ⟨rfl, rfl⟩
      try go_wp2_with fail
      refine hK.out _ _ ?_ (fun hHeld => ?_)
      · try dsimp only
        exact ⟨x0, x2, y0, y2⟩
      clear hK K
      try simp only [Act.put, List.setIfInBounds_toArray, List.set_cons_zero, List.set_cons_succ]
      refine wpAnyH_ready (rs := [9]) (by kernel_rfl) (by simp) (AllReadyH.cons rfl (fun K hK => ?_) AllReadyH.nil)
      go_simp
      refine (cmp_any xi xj _).mono ?_
      rintro e w6 ⟨rfl, rfl⟩
      try go_wp2_with fail
      refine hK.out _ _ ?_ (fun hHeld => ?_)
      · try dsimp only
        exact ⟨x0, x2, y0, y2⟩
      clear hK K
      try simp only [Act.put, List.setIfInBounds_toArray, List.set_cons_zero, List.set_cons_succ]
      refine wpAnyH_ready (rs := [10]) (by kernel_rfl) (by simp) (AllReadyH.cons rfl (fun K hK => ?_) AllReadyH.nil)
      go_simp
      try go_wp2_with fail
      refine hK.out _ _ ?_ (fun hHeld => ?_)
      · try dsimp only
        exact ⟨HK.out _ _ x0 _, HK.out _ _ x2 _, HK.out _ _ y0 _, HK.out _ _ y2 _⟩
      clear hK K
      try simp only [Act.put, List.setIfInBounds_toArray, List.set_cons_zero, List.set_cons_succ]
      refine wpAnyH_ready (rs := [11]) (by kernel_rfl) (by simp) (AllReadyH.cons rfl (fun K hK => ?_) AllReadyH.nil)
      go_simp
      refine (gor_any _ (gcmp sj si) (cmpL xi.toList xj.toList) r _ HCMP (by first | exact (Blk.new _ _ _).cell 0 | exact (Blk.new _ _ _).drew.cell 0) (by first | exact (Blk.new _ _ _).cell 1 | exact (Blk.new _ _ _).drew.cell 1)).mono ?_
      rintro e w7 ⟨rfl, rfl⟩
      try go_wp2_with fail
      refine hK.out _ _ ?_ (fun hHeld => ?_)
      · try dsimp only
        exact ⟨HK.out _ _ x0 _, HK.out _ _ x2 _, HK.out _ _ y0 _, HK.out _ _ y2 _⟩
      clear hK K
      try simp only [Act.put, List.setIfInBounds_toArray, List.set_cons_zero, List.set_cons_succ]
      refine take_at (i := 12) (d := 5) (v := ?_) rfl (by kernel_rfl) (by kernel_rfl) (by kernel_rfl) (by kernel_rfl) (fun _ _ _ h => h) (Or.inl ⟨by kernel_rfl, ?_⟩) (by assumption) ?_
      rotate_left
      · intro W hSw
        try dsimp only at hSw
        go_simp
        first | done | with_reducible rfl
      try simp only [Act.put, List.setIfInBounds_toArray, List.set_cons_zero, List.set_cons_succ]
      refine wpAnyH_done (by kernel_rfl) ?_ _
      go_wp2_with fail
      go_ret
      refine ⟨rfl, ?_, ?_⟩
      · first | exact (HBW.out.alloc HBW.out.size _).drew.drew | exact HBW.out.drew.drew.alloc HBW.out.size _ | (trace_state; sorry)
      · have h := HDW.out
        first | (simp only [World.drew, World.alloc]; omega) | (trace_state; sorry)
      -- END STEPS
    exact auxb
end Go.Proofs.Ytecpedecgcaeoaa.Tx
