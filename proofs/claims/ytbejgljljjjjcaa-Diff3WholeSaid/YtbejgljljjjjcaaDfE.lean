/- marlaw15: same; Diff3Chunks. -/
import Derived.Test.YtbejgljljjjjcaaDfC
set_option linter.unusedVariables false
set_option linter.unusedSimpArgs false
namespace Go.Proofs.Ytbejgljljjjjcaa.Ln
open Go.RowKit Go.Proofs.Ytbejgljljjjjcaa.Sh Go.Proofs.Ytbejgljljjjjcaa.Tx

/-- One chunk's cells, and that they stay. -/
theorem SlCk.stay {w : World} {A : Option Addr} {n c : Nat} {l : List CkM} (h : SlCk w (.slice A n c) l) (i : Nat) (e : CkM) (hi : l[i]? = some e) :
    ∃ (ad : Addr) (d1 d2 d3 : Value), A = some ad ∧ ∀ W, Below w.heap.size w W → (W.cell? (ad.add (i * 4)) = some (.int .i64 (e.kind : Int)) ∧ W.cell? ⟨(ad.add (i * 4)).block, (ad.add (i * 4)).off + 1, none⟩ = some d1 ∧
      W.cell? ⟨(ad.add (i * 4)).block, (ad.add (i * 4)).off + 2, none⟩ = some d2 ∧ W.cell? ⟨(ad.add (i * 4)).block, (ad.add (i * 4)).off + 3, none⟩ = some d3) ∧ SlV W d1 (e.o.map sv) ∧ SlV W d2 (e.a.map sv) ∧ SlV W d3 (e.b.map sv) := by
  obtain ⟨L, rfl, h2, h3⟩ := h
  rw [List.getElem?_map] at hi
  obtain ⟨x, hx, rfl⟩ := Option.map_eq_some_iff.1 hi
  obtain ⟨ad, ea, _⟩ := h2.at_ (ckC_len L) i (ckC x) (by rw [List.getElem?_map, hx]; rfl)
  refine ⟨ad, x.2.1, x.2.2.1, x.2.2.2, ea, fun W hW => ?_⟩
  obtain ⟨ad2, ea2, hc⟩ := (h2.below hW).at_ (ckC_len L) i (ckC x) (by rw [List.getElem?_map, hx]; rfl)
  rw [ea] at ea2
  injection ea2 with ea2
  subst ea2
  have h4 := h3 x (List.mem_of_getElem? hx)
  refine ⟨⟨hc 0 _ rfl, ?_, ?_, ?_⟩, h4.1.below hW, h4.2.1.below hW, h4.2.2.below hW⟩
  · have := hc 1 _ rfl
    rwa [add_field _ _ 1 (by omega)] at this
  · have := hc 2 _ rfl
    rwa [add_field _ _ 2 (by omega)] at this
  · have := hc 3 _ rfl
    rwa [add_field _ _ 3 (by omega)] at this
set_option maxRecDepth 100000 in
set_option maxHeartbeats 6400000 in
theorem same3_any (v1 v2 : Value) (l : List CkM) (w : World) (h1 : SlCk w v1 l) (h2 : SlCk w v2 l) : Calls Try.prog 14 #[v1, v2] w (Yes w) := by
  obtain ⟨A1, c1, rfl, hl1, hm1⟩ := h1.slice
  obtain ⟨A2, c2, rfl, hl2, hm2⟩ := h2.slice
  unfold maxLen at hm1 hm2
  have H1 := Lib.hid h1
  have H2 := Lib.hid h2
  obtain ⟨n, hn⟩ : ∃ n, l.length = n := ⟨_, rfl⟩
  have HN := Lib.hid hn
  rw [hn] at H1 H2 hl1 hl2 ⊢
  clear h1 h2 hn
  go_enter Try.func14, Try.ntmps14
  go_wp2_with fail
  go_loopw [5] (fun x wr => ∃ i : Nat, i ≤ n ∧ x = .int .i64 (i : Int) ∧ Below w.heap.size w wr) (fun x _ => n - (intOf x).toNat)
  case atStart => exact ⟨0, Nat.zero_le _, rfl, Below.refl _ _⟩
  case round =>
    obtain ⟨i, hi, rfl, hb⟩ := hrel
    have HB := Lib.hid hb
    clear hb
    have z0 : (0 : Int) ≤ (i : Int) := by omega
    by_cases hlt : i < n
    · have z1 : (i : Int) < (n : Int) := by omega
      have hil : i < l.length := by rw [HN.out]; exact hlt
      obtain ⟨c, hc⟩ : ∃ c, l[i]? = some c := ⟨_, List.getElem?_eq_getElem hil⟩
      obtain ⟨ad, d1, d2, d3, rfl, hs1⟩ := H1.out.stay i c hc
      obtain ⟨bd, e1, e2, e3, rfl, hs2⟩ := H2.out.stay i c hc
      obtain ⟨kd, co, ca, cb⟩ := c
      simp only at hs1 hs2
      have HSS : Hid (∀ W, Below wr.heap.size wr W → (W.cell? (ad.add (i * 4)) = some (.int .i64 (kd : Int)) ∧ W.cell? ⟨(ad.add (i * 4)).block, (ad.add (i * 4)).off + 1, none⟩ = some d1 ∧ W.cell? ⟨(ad.add (i * 4)).block, (ad.add (i * 4)).off + 2, none⟩ = some d2 ∧ W.cell? ⟨(ad.add (i * 4)).block, (ad.add (i * 4)).off + 3, none⟩ = some d3) ∧ (W.cell? (bd.add (i * 4)) = some (.int .i64 (kd : Int)) ∧ W.cell? ⟨(bd.add (i * 4)).block, (bd.add (i * 4)).off + 1, none⟩ = some e1 ∧ W.cell? ⟨(bd.add (i * 4)).block, (bd.add (i * 4)).off + 2, none⟩ = some e2 ∧ W.cell? ⟨(bd.add (i * 4)).block, (bd.add (i * 4)).off + 3, none⟩ = some e3)) := fun W hW => ⟨(hs1 W (HB.out.trans (hW.mono HB.out.size))).1, (hs2 W (HB.out.trans (hW.mono HB.out.size))).1⟩
      have HX1 : Hid (∀ W, Below wr.heap.size wr W → Calls Try.prog 15 #[d1, e1] W (Yes W)) := fun W hW => texts_same _ _ co W (hs1 W (HB.out.trans (hW.mono HB.out.size))).2.1 (hs2 W (HB.out.trans (hW.mono HB.out.size))).2.1
      have HX2 : Hid (∀ W, Below wr.heap.size wr W → Calls Try.prog 15 #[d2, e2] W (Yes W)) := fun W hW => texts_same _ _ ca W (hs1 W (HB.out.trans (hW.mono HB.out.size))).2.2.1 (hs2 W (HB.out.trans (hW.mono HB.out.size))).2.2.1
      have HX3 : Hid (∀ W, Below wr.heap.size wr W → Calls Try.prog 15 #[d3, e3] W (Yes W)) := fun W hW => texts_same _ _ cb W (hs1 W (HB.out.trans (hW.mono HB.out.size))).2.2.2 (hs2 W (HB.out.trans (hW.mono HB.out.size))).2.2.2
      unfold Yes at HX1 HX2 HX3
      clear hs1 hs2 hil hc
      have hkk : ((kd : Int) != (kd : Int)) = false := by simp
      as_aux_lemma =>
      go_upto_region 6 with (fail)
      refine wp_region_held_drew (S := (fun W => (W.cell? (ad.add (i * 4)) = some (.int .i64 (kd : Int)) ∧ W.cell? ⟨(ad.add (i * 4)).block, (ad.add (i * 4)).off + 1, none⟩ = some d1 ∧ W.cell? ⟨(ad.add (i * 4)).block, (ad.add (i * 4)).off + 2, none⟩ = some d2 ∧ W.cell? ⟨(ad.add (i * 4)).block, (ad.add (i * 4)).off + 3, none⟩ = some d3) ∧ (W.cell? (bd.add (i * 4)) = some (.int .i64 (kd : Int)) ∧ W.cell? ⟨(bd.add (i * 4)).block, (bd.add (i * 4)).off + 1, none⟩ = some e1 ∧ W.cell? ⟨(bd.add (i * 4)).block, (bd.add (i * 4)).off + 2, none⟩ = some e2 ∧ W.cell? ⟨(bd.add (i * 4)).block, (bd.add (i * 4)).off + 3, none⟩ = some e3))) (by kernel_rfl) ?_ (fun hHeld => ?_)
      · try dsimp only
        exact HSS.out _ (Below.refl _ _).drew
      refine take_at (i := 0) (d := 17) (oi := { dst := some 17, op := Op.move (Operand.tmp 0), type := 26, pos := "law.go:29", after := #[], guard := none }) (v := ?_) (by kernel_rfl) (by kernel_rfl) (by kernel_rfl) (by kernel_rfl) (by kernel_rfl) (fun _ _ _ h => h) (Or.inl ⟨by kernel_rfl, ?_⟩) (by assumption) ?_
      rotate_left
      · intro W hSw
        try dsimp only at hSw
        go_simp
        first | done | with_reducible rfl
      try simp only [Act.put, List.setIfInBounds_toArray, List.set_cons_zero, List.set_cons_succ]
      refine take_at (i := 1) (d := 18) (oi := { dst := some 18, op := Op.move (Operand.tmp 5), type := 3, pos := "law.go:29", after := #[], guard := none }) (v := ?_) (by kernel_rfl) (by kernel_rfl) (by kernel_rfl) (by kernel_rfl) (by kernel_rfl) (fun _ _ _ h => h) (Or.inl ⟨by kernel_rfl, ?_⟩) (by assumption) ?_
      rotate_left
      · intro W hSw
        try dsimp only at hSw
        go_simp
        first | done | with_reducible rfl
      try simp only [Act.put, List.setIfInBounds_toArray, List.set_cons_zero, List.set_cons_succ]
      refine take_at (i := 2) (d := 19) (oi := { dst := some 19, op := Op.indexAddr 26 (Operand.tmp 17) (Operand.tmp 18), type := 0, pos := "law.go:29", after := #[{ on := 0, ground := Ground.data }, { on := 1, ground := Ground.data }], guard := none }) (v := ?_) (by kernel_rfl) (by kernel_rfl) (by kernel_rfl) (by kernel_rfl) (by kernel_rfl) (fun _ _ _ h => h) (Or.inl ⟨by kernel_rfl, ?_⟩) (by assumption) ?_
      rotate_left
      · intro W hSw
        try dsimp only at hSw
        go_simp
        first | done | with_reducible rfl
      try simp only [Act.put, List.setIfInBounds_toArray, List.set_cons_zero, List.set_cons_succ]
      refine take_at (i := 3) (d := 20) (oi := { dst := some 20, op := Op.fieldAddr 42 (Operand.tmp 19) 0, type := 0, pos := "law.go:29", after := #[{ on := 2, ground := Ground.data }], guard := none }) (v := ?_) (by kernel_rfl) (by kernel_rfl) (by kernel_rfl) (by kernel_rfl) (by kernel_rfl) (fun _ _ _ h => h) (Or.inl ⟨by kernel_rfl, ?_⟩) (by assumption) ?_
      rotate_left
      · intro W hSw
        try dsimp only at hSw
        go_simp
        first | done | with_reducible rfl
      try simp only [Act.put, List.setIfInBounds_toArray, List.set_cons_zero, List.set_cons_succ]
      refine take_at (i := 4) (d := 21) (oi := { dst := some 21, op := Op.load 3 (Operand.tmp 20), type := 3, pos := "law.go:29", after := #[{ on := 3, ground := Ground.data }], guard := none }) (v := ?_) (by kernel_rfl) (by kernel_rfl) (by kernel_rfl) (by kernel_rfl) (by kernel_rfl) (fun _ _ _ h => h) (Or.inl ⟨by kernel_rfl, ?_⟩) (by assumption) ?_
      rotate_left
      · intro W hSw
        try dsimp only at hSw
        obtain ⟨⟨p0, p1, p2, p3⟩, q0, q1, q2, q3⟩ := hSw
        go_simp
        first | done | with_reducible rfl
      try simp only [Act.put, List.setIfInBounds_toArray, List.set_cons_zero, List.set_cons_succ]
      refine take_at (i := 5) (d := 22) (oi := { dst := some 22, op := Op.move (Operand.tmp 1), type := 30, pos := "law.go:29", after := #[], guard := none }) (v := ?_) (by kernel_rfl) (by kernel_rfl) (by kernel_rfl) (by kernel_rfl) (by kernel_rfl) (fun _ _ _ h => h) (Or.inl ⟨by kernel_rfl, ?_⟩) (by assumption) ?_
      rotate_left
      · intro W hSw
        try dsimp only at hSw
        go_simp
        first | done | with_reducible rfl
      try simp only [Act.put, List.setIfInBounds_toArray, List.set_cons_zero, List.set_cons_succ]
      refine take_at (i := 6) (d := 23) (oi := { dst := some 23, op := Op.move (Operand.tmp 5), type := 3, pos := "law.go:29", after := #[], guard := none }) (v := ?_) (by kernel_rfl) (by kernel_rfl) (by kernel_rfl) (by kernel_rfl) (by kernel_rfl) (fun _ _ _ h => h) (Or.inl ⟨by kernel_rfl, ?_⟩) (by assumption) ?_
      rotate_left
      · intro W hSw
        try dsimp only at hSw
        go_simp
        first | done | with_reducible rfl
      try simp only [Act.put, List.setIfInBounds_toArray, List.set_cons_zero, List.set_cons_succ]
      refine take_at (i := 7) (d := 24) (oi := { dst := some 24, op := Op.indexAddr 30 (Operand.tmp 22) (Operand.tmp 23), type := 0, pos := "law.go:29", after := #[{ on := 5, ground := Ground.data }, { on := 6, ground := Ground.data }], guard := none }) (v := ?_) (by kernel_rfl) (by kernel_rfl) (by kernel_rfl) (by kernel_rfl) (by kernel_rfl) (fun _ _ _ h => h) (Or.inl ⟨by kernel_rfl, ?_⟩) (by assumption) ?_
      rotate_left
      · intro W hSw
        try dsimp only at hSw
        go_simp
        first | done | with_reducible rfl
      try simp only [Act.put, List.setIfInBounds_toArray, List.set_cons_zero, List.set_cons_succ]
      refine take_at (i := 8) (d := 25) (oi := { dst := some 25, op := Op.fieldAddr 62 (Operand.tmp 24) 0, type := 0, pos := "law.go:29", after := #[{ on := 7, ground := Ground.data }], guard := none }) (v := ?_) (by kernel_rfl) (by kernel_rfl) (by kernel_rfl) (by kernel_rfl) (by kernel_rfl) (fun _ _ _ h => h) (Or.inl ⟨by kernel_rfl, ?_⟩) (by assumption) ?_
      rotate_left
      · intro W hSw
        try dsimp only at hSw
        go_simp
        first | done | with_reducible rfl
      try simp only [Act.put, List.setIfInBounds_toArray, List.set_cons_zero, List.set_cons_succ]
      refine take_at (i := 9) (d := 26) (oi := { dst := some 26, op := Op.load 3 (Operand.tmp 25), type := 3, pos := "law.go:29", after := #[{ on := 8, ground := Ground.data }], guard := none }) (v := ?_) (by kernel_rfl) (by kernel_rfl) (by kernel_rfl) (by kernel_rfl) (by kernel_rfl) (fun _ _ _ h => h) (Or.inl ⟨by kernel_rfl, ?_⟩) (by assumption) ?_
      rotate_left
      · intro W hSw
        try dsimp only at hSw
        obtain ⟨⟨p0, p1, p2, p3⟩, q0, q1, q2, q3⟩ := hSw
        go_simp
        first | done | with_reducible rfl
      try simp only [Act.put, List.setIfInBounds_toArray, List.set_cons_zero, List.set_cons_succ]
      refine take_at (i := 10) (d := 27) (oi := { dst := some 27, op := Op.binOp BinOp.neq 3 (Operand.tmp 21) (Operand.tmp 26) 3, type := 4, pos := "law.go:29", after := #[{ on := 4, ground := Ground.data }, { on := 9, ground := Ground.data }], guard := none }) (v := ?_) (by kernel_rfl) (by kernel_rfl) (by kernel_rfl) (by kernel_rfl) (by kernel_rfl) (fun _ _ _ h => h) (Or.inl ⟨by kernel_rfl, ?_⟩) (by assumption) ?_
      rotate_left
      · intro W hSw
        try dsimp only at hSw
        go_simp
        first | done | with_reducible rfl
      try simp only [Act.put, List.setIfInBounds_toArray, List.set_cons_zero, List.set_cons_succ]
      refine take_at (i := 11) (d := 28) (oi := { dst := some 28, op := Op.move (Operand.tmp 27), type := 4, pos := "law.go:29", after := #[{ on := 10, ground := Ground.data }], guard := none }) (v := ?_) (by kernel_rfl) (by kernel_rfl) (by kernel_rfl) (by kernel_rfl) (by kernel_rfl) (fun _ _ _ h => h) (Or.inl ⟨by kernel_rfl, ?_⟩) (by assumption) ?_
      rotate_left
      · intro W hSw
        try dsimp only at hSw
        go_simp
        first | done | with_reducible rfl
      try simp only [Act.put, List.setIfInBounds_toArray, List.set_cons_zero, List.set_cons_succ]
      refine take_at (i := 12) (d := 29) (oi := { dst := some 29, op := Op.move (Operand.tmp 0), type := 26, pos := "law.go:29", after := #[{ on := 11, ground := Ground.guard }], guard := some (11, false) }) (v := ?_) (by kernel_rfl) (by kernel_rfl) (by kernel_rfl) (by kernel_rfl) (by kernel_rfl) (fun _ _ _ h => h) (Or.inl ⟨by kernel_rfl, ?_⟩) (by assumption) ?_
      rotate_left
      · intro W hSw
        try dsimp only at hSw
        go_simp
        first | done | with_reducible rfl
      try simp only [Act.put, List.setIfInBounds_toArray, List.set_cons_zero, List.set_cons_succ]
      refine take_at (i := 13) (d := 30) (oi := { dst := some 30, op := Op.move (Operand.tmp 5), type := 3, pos := "law.go:29", after := #[{ on := 11, ground := Ground.guard }], guard := some (11, false) }) (v := ?_) (by kernel_rfl) (by kernel_rfl) (by kernel_rfl) (by kernel_rfl) (by kernel_rfl) (fun _ _ _ h => h) (Or.inl ⟨by kernel_rfl, ?_⟩) (by assumption) ?_
      rotate_left
      · intro W hSw
        try dsimp only at hSw
        go_simp
        first | done | with_reducible rfl
      try simp only [Act.put, List.setIfInBounds_toArray, List.set_cons_zero, List.set_cons_succ]
      refine take_at (i := 14) (d := 31) (oi := { dst := some 31, op := Op.indexAddr 26 (Operand.tmp 29) (Operand.tmp 30), type := 0, pos := "law.go:29", after := #[{ on := 12, ground := Ground.data }, { on := 13, ground := Ground.data }, { on := 11, ground := Ground.guard }], guard := some (11, false) }) (v := ?_) (by kernel_rfl) (by kernel_rfl) (by kernel_rfl) (by kernel_rfl) (by kernel_rfl) (fun _ _ _ h => h) (Or.inl ⟨by kernel_rfl, ?_⟩) (by assumption) ?_
      rotate_left
      · intro W hSw
        try dsimp only at hSw
        go_simp
        first | done | with_reducible rfl
      try simp only [Act.put, List.setIfInBounds_toArray, List.set_cons_zero, List.set_cons_succ]
      refine take_at (i := 15) (d := 32) (oi := { dst := some 32, op := Op.fieldAddr 42 (Operand.tmp 31) 1, type := 0, pos := "law.go:29", after := #[{ on := 14, ground := Ground.data }, { on := 11, ground := Ground.guard }], guard := some (11, false) }) (v := ?_) (by kernel_rfl) (by kernel_rfl) (by kernel_rfl) (by kernel_rfl) (by kernel_rfl) (fun _ _ _ h => h) (Or.inl ⟨by kernel_rfl, ?_⟩) (by assumption) ?_
      rotate_left
      · intro W hSw
        try dsimp only at hSw
        go_simp
        first | done | with_reducible rfl
      try simp only [Act.put, List.setIfInBounds_toArray, List.set_cons_zero, List.set_cons_succ]
      refine take_at (i := 16) (d := 33) (oi := { dst := some 33, op := Op.load 22 (Operand.tmp 32), type := 22, pos := "law.go:29", after := #[{ on := 15, ground := Ground.data }, { on := 11, ground := Ground.guard }], guard := some (11, false) }) (v := ?_) (by kernel_rfl) (by kernel_rfl) (by kernel_rfl) (by kernel_rfl) (by kernel_rfl) (fun _ _ _ h => h) (Or.inl ⟨by kernel_rfl, ?_⟩) (by assumption) ?_
      rotate_left
      · intro W hSw
        try dsimp only at hSw
        obtain ⟨⟨p0, p1, p2, p3⟩, q0, q1, q2, q3⟩ := hSw
        go_simp
        first | done | with_reducible rfl
      try simp only [Act.put, List.setIfInBounds_toArray, List.set_cons_zero, List.set_cons_succ]
      refine take_at (i := 17) (d := 34) (oi := { dst := some 34, op := Op.move (Operand.tmp 1), type := 30, pos := "law.go:29", after := #[{ on := 11, ground := Ground.guard }], guard := some (11, false) }) (v := ?_) (by kernel_rfl) (by kernel_rfl) (by kernel_rfl) (by kernel_rfl) (by kernel_rfl) (fun _ _ _ h => h) (Or.inl ⟨by kernel_rfl, ?_⟩) (by assumption) ?_
      rotate_left
      · intro W hSw
        try dsimp only at hSw
        go_simp
        first | done | with_reducible rfl
      try simp only [Act.put, List.setIfInBounds_toArray, List.set_cons_zero, List.set_cons_succ]
      refine take_at (i := 18) (d := 35) (oi := { dst := some 35, op := Op.move (Operand.tmp 5), type := 3, pos := "law.go:29", after := #[{ on := 11, ground := Ground.guard }], guard := some (11, false) }) (v := ?_) (by kernel_rfl) (by kernel_rfl) (by kernel_rfl) (by kernel_rfl) (by kernel_rfl) (fun _ _ _ h => h) (Or.inl ⟨by kernel_rfl, ?_⟩) (by assumption) ?_
      rotate_left
      · intro W hSw
        try dsimp only at hSw
        go_simp
        first | done | with_reducible rfl
      try simp only [Act.put, List.setIfInBounds_toArray, List.set_cons_zero, List.set_cons_succ]
      refine take_at (i := 19) (d := 36) (oi := { dst := some 36, op := Op.indexAddr 30 (Operand.tmp 34) (Operand.tmp 35), type := 0, pos := "law.go:29", after := #[{ on := 17, ground := Ground.data }, { on := 18, ground := Ground.data }, { on := 11, ground := Ground.guard }], guard := some (11, false) }) (v := ?_) (by kernel_rfl) (by kernel_rfl) (by kernel_rfl) (by kernel_rfl) (by kernel_rfl) (fun _ _ _ h => h) (Or.inl ⟨by kernel_rfl, ?_⟩) (by assumption) ?_
      rotate_left
      · intro W hSw
        try dsimp only at hSw
        go_simp
        first | done | with_reducible rfl
      try simp only [Act.put, List.setIfInBounds_toArray, List.set_cons_zero, List.set_cons_succ]
      refine take_at (i := 20) (d := 37) (oi := { dst := some 37, op := Op.fieldAddr 62 (Operand.tmp 36) 1, type := 0, pos := "law.go:29", after := #[{ on := 19, ground := Ground.data }, { on := 11, ground := Ground.guard }], guard := some (11, false) }) (v := ?_) (by kernel_rfl) (by kernel_rfl) (by kernel_rfl) (by kernel_rfl) (by kernel_rfl) (fun _ _ _ h => h) (Or.inl ⟨by kernel_rfl, ?_⟩) (by assumption) ?_
      rotate_left
      · intro W hSw
        try dsimp only at hSw
        go_simp
        first | done | with_reducible rfl
      try simp only [Act.put, List.setIfInBounds_toArray, List.set_cons_zero, List.set_cons_succ]
      refine take_at (i := 21) (d := 38) (oi := { dst := some 38, op := Op.load 22 (Operand.tmp 37), type := 22, pos := "law.go:29", after := #[{ on := 20, ground := Ground.data }, { on := 11, ground := Ground.guard }], guard := some (11, false) }) (v := ?_) (by kernel_rfl) (by kernel_rfl) (by kernel_rfl) (by kernel_rfl) (by kernel_rfl) (fun _ _ _ h => h) (Or.inl ⟨by kernel_rfl, ?_⟩) (by assumption) ?_
      rotate_left
      · intro W hSw
        try dsimp only at hSw
        obtain ⟨⟨p0, p1, p2, p3⟩, q0, q1, q2, q3⟩ := hSw
        go_simp
        first | done | with_reducible rfl
      try simp only [Act.put, List.setIfInBounds_toArray, List.set_cons_zero, List.set_cons_succ]
      refine wpAnyH_ready (rs := [22]) (by kernel_rfl) (by simp) (AllReadyH.cons (o := { dst := some 39, op := Op.call { callee := Callee.value (Operand.func 15), args := #[Operand.tmp 33, Operand.tmp 38], argTypes := #[22, 22] }, type := 4, pos := "law.go:29", after := #[{ on := 16, ground := Ground.data }, { on := 21, ground := Ground.data }, { on := 11, ground := Ground.chain }, { on := 11, ground := Ground.guard }], guard := some (11, false) }) (by kernel_rfl) (fun K hK => ?_) AllReadyH.nil)
      go_simp
      refine (HX1.out _ (Below.refl _ _).drew).mono ?_
      rintro e wz1 ⟨rfl, hb⟩
      have HW1 : Hid (Below wr.heap.size wr wz1) := ((Below.refl wr.heap.size wr).drew).trans (hb.mono ((Below.refl wr.heap.size wr).drew).size)
      clear hb
      try go_wp2_with fail
      refine hK.out _ _ ?_ (fun hHeld => ?_)
      · try dsimp only
        exact HSS.out _ HW1.out
      clear hK K
      try simp only [Act.put, List.setIfInBounds_toArray, List.set_cons_zero, List.set_cons_succ]
      refine take_at (i := 23) (d := 40) (oi := { dst := some 40, op := Op.unOp UnOp.not 4 (Operand.tmp 39), type := 4, pos := "law.go:29", after := #[{ on := 22, ground := Ground.data }, { on := 11, ground := Ground.guard }], guard := some (11, false) }) (v := ?_) (by kernel_rfl) (by kernel_rfl) (by kernel_rfl) (by kernel_rfl) (by kernel_rfl) (fun _ _ _ h => h) (Or.inl ⟨by kernel_rfl, ?_⟩) (by assumption) ?_
      rotate_left
      · intro W hSw
        try dsimp only at hSw
        go_simp
        first | done | with_reducible rfl
      try simp only [Act.put, List.setIfInBounds_toArray, List.set_cons_zero, List.set_cons_succ]
      refine take_at (i := 24) (d := 41) (oi := { dst := some 41, op := Op.pick (Operand.tmp 28) (Operand.const (Value.bool true)) (Operand.tmp 40), type := 4, pos := "law.go:29", after := #[{ on := 11, ground := Ground.data }, { on := 23, ground := Ground.data }], guard := none }) (v := ?_) (by kernel_rfl) (by kernel_rfl) (by kernel_rfl) (by kernel_rfl) (by kernel_rfl) (fun _ _ _ h => h) (Or.inl ⟨by kernel_rfl, ?_⟩) (by assumption) ?_
      rotate_left
      · intro W hSw
        try dsimp only at hSw
        go_simp
        first | done | with_reducible rfl
      try simp only [Act.put, List.setIfInBounds_toArray, List.set_cons_zero, List.set_cons_succ]
      refine take_at (i := 25) (d := 42) (oi := { dst := some 42, op := Op.move (Operand.tmp 41), type := 4, pos := "law.go:29", after := #[{ on := 24, ground := Ground.data }, { on := 22, ground := Ground.chain }], guard := none }) (v := ?_) (by kernel_rfl) (by kernel_rfl) (by kernel_rfl) (by kernel_rfl) (by kernel_rfl) (fun _ _ _ h => h) (Or.inl ⟨by kernel_rfl, ?_⟩) (by assumption) ?_
      rotate_left
      · intro W hSw
        try dsimp only at hSw
        go_simp
        first | done | with_reducible rfl
      try simp only [Act.put, List.setIfInBounds_toArray, List.set_cons_zero, List.set_cons_succ]
      refine take_at (i := 26) (d := 43) (oi := { dst := some 43, op := Op.move (Operand.tmp 0), type := 26, pos := "law.go:29", after := #[{ on := 25, ground := Ground.guard }], guard := some (25, false) }) (v := ?_) (by kernel_rfl) (by kernel_rfl) (by kernel_rfl) (by kernel_rfl) (by kernel_rfl) (fun _ _ _ h => h) (Or.inl ⟨by kernel_rfl, ?_⟩) (by assumption) ?_
      rotate_left
      · intro W hSw
        try dsimp only at hSw
        go_simp
        first | done | with_reducible rfl
      try simp only [Act.put, List.setIfInBounds_toArray, List.set_cons_zero, List.set_cons_succ]
      refine take_at (i := 27) (d := 44) (oi := { dst := some 44, op := Op.move (Operand.tmp 5), type := 3, pos := "law.go:29", after := #[{ on := 25, ground := Ground.guard }], guard := some (25, false) }) (v := ?_) (by kernel_rfl) (by kernel_rfl) (by kernel_rfl) (by kernel_rfl) (by kernel_rfl) (fun _ _ _ h => h) (Or.inl ⟨by kernel_rfl, ?_⟩) (by assumption) ?_
      rotate_left
      · intro W hSw
        try dsimp only at hSw
        go_simp
        first | done | with_reducible rfl
      try simp only [Act.put, List.setIfInBounds_toArray, List.set_cons_zero, List.set_cons_succ]
      refine take_at (i := 28) (d := 45) (oi := { dst := some 45, op := Op.indexAddr 26 (Operand.tmp 43) (Operand.tmp 44), type := 0, pos := "law.go:29", after := #[{ on := 26, ground := Ground.data }, { on := 27, ground := Ground.data }, { on := 25, ground := Ground.guard }], guard := some (25, false) }) (v := ?_) (by kernel_rfl) (by kernel_rfl) (by kernel_rfl) (by kernel_rfl) (by kernel_rfl) (fun _ _ _ h => h) (Or.inl ⟨by kernel_rfl, ?_⟩) (by assumption) ?_
      rotate_left
      · intro W hSw
        try dsimp only at hSw
        go_simp
        first | done | with_reducible rfl
      try simp only [Act.put, List.setIfInBounds_toArray, List.set_cons_zero, List.set_cons_succ]
      refine take_at (i := 29) (d := 46) (oi := { dst := some 46, op := Op.fieldAddr 42 (Operand.tmp 45) 2, type := 0, pos := "law.go:29", after := #[{ on := 28, ground := Ground.data }, { on := 25, ground := Ground.guard }], guard := some (25, false) }) (v := ?_) (by kernel_rfl) (by kernel_rfl) (by kernel_rfl) (by kernel_rfl) (by kernel_rfl) (fun _ _ _ h => h) (Or.inl ⟨by kernel_rfl, ?_⟩) (by assumption) ?_
      rotate_left
      · intro W hSw
        try dsimp only at hSw
        go_simp
        first | done | with_reducible rfl
      try simp only [Act.put, List.setIfInBounds_toArray, List.set_cons_zero, List.set_cons_succ]
      refine take_at (i := 30) (d := 47) (oi := { dst := some 47, op := Op.load 22 (Operand.tmp 46), type := 22, pos := "law.go:29", after := #[{ on := 29, ground := Ground.data }, { on := 25, ground := Ground.guard }], guard := some (25, false) }) (v := ?_) (by kernel_rfl) (by kernel_rfl) (by kernel_rfl) (by kernel_rfl) (by kernel_rfl) (fun _ _ _ h => h) (Or.inl ⟨by kernel_rfl, ?_⟩) (by assumption) ?_
      rotate_left
      · intro W hSw
        try dsimp only at hSw
        obtain ⟨⟨p0, p1, p2, p3⟩, q0, q1, q2, q3⟩ := hSw
        go_simp
        first | done | with_reducible rfl
      try simp only [Act.put, List.setIfInBounds_toArray, List.set_cons_zero, List.set_cons_succ]
      refine take_at (i := 31) (d := 48) (oi := { dst := some 48, op := Op.move (Operand.tmp 1), type := 30, pos := "law.go:29", after := #[{ on := 25, ground := Ground.guard }], guard := some (25, false) }) (v := ?_) (by kernel_rfl) (by kernel_rfl) (by kernel_rfl) (by kernel_rfl) (by kernel_rfl) (fun _ _ _ h => h) (Or.inl ⟨by kernel_rfl, ?_⟩) (by assumption) ?_
      rotate_left
      · intro W hSw
        try dsimp only at hSw
        go_simp
        first | done | with_reducible rfl
      try simp only [Act.put, List.setIfInBounds_toArray, List.set_cons_zero, List.set_cons_succ]
      refine take_at (i := 32) (d := 49) (oi := { dst := some 49, op := Op.move (Operand.tmp 5), type := 3, pos := "law.go:29", after := #[{ on := 25, ground := Ground.guard }], guard := some (25, false) }) (v := ?_) (by kernel_rfl) (by kernel_rfl) (by kernel_rfl) (by kernel_rfl) (by kernel_rfl) (fun _ _ _ h => h) (Or.inl ⟨by kernel_rfl, ?_⟩) (by assumption) ?_
      rotate_left
      · intro W hSw
        try dsimp only at hSw
        go_simp
        first | done | with_reducible rfl
      try simp only [Act.put, List.setIfInBounds_toArray, List.set_cons_zero, List.set_cons_succ]
      refine take_at (i := 33) (d := 50) (oi := { dst := some 50, op := Op.indexAddr 30 (Operand.tmp 48) (Operand.tmp 49), type := 0, pos := "law.go:29", after := #[{ on := 31, ground := Ground.data }, { on := 32, ground := Ground.data }, { on := 25, ground := Ground.guard }], guard := some (25, false) }) (v := ?_) (by kernel_rfl) (by kernel_rfl) (by kernel_rfl) (by kernel_rfl) (by kernel_rfl) (fun _ _ _ h => h) (Or.inl ⟨by kernel_rfl, ?_⟩) (by assumption) ?_
      rotate_left
      · intro W hSw
        try dsimp only at hSw
        go_simp
        first | done | with_reducible rfl
      try simp only [Act.put, List.setIfInBounds_toArray, List.set_cons_zero, List.set_cons_succ]
      refine take_at (i := 34) (d := 51) (oi := { dst := some 51, op := Op.fieldAddr 62 (Operand.tmp 50) 2, type := 0, pos := "law.go:29", after := #[{ on := 33, ground := Ground.data }, { on := 25, ground := Ground.guard }], guard := some (25, false) }) (v := ?_) (by kernel_rfl) (by kernel_rfl) (by kernel_rfl) (by kernel_rfl) (by kernel_rfl) (fun _ _ _ h => h) (Or.inl ⟨by kernel_rfl, ?_⟩) (by assumption) ?_
      rotate_left
      · intro W hSw
        try dsimp only at hSw
        go_simp
        first | done | with_reducible rfl
      try simp only [Act.put, List.setIfInBounds_toArray, List.set_cons_zero, List.set_cons_succ]
      refine take_at (i := 35) (d := 52) (oi := { dst := some 52, op := Op.load 22 (Operand.tmp 51), type := 22, pos := "law.go:29", after := #[{ on := 34, ground := Ground.data }, { on := 25, ground := Ground.guard }], guard := some (25, false) }) (v := ?_) (by kernel_rfl) (by kernel_rfl) (by kernel_rfl) (by kernel_rfl) (by kernel_rfl) (fun _ _ _ h => h) (Or.inl ⟨by kernel_rfl, ?_⟩) (by assumption) ?_
      rotate_left
      · intro W hSw
        try dsimp only at hSw
        obtain ⟨⟨p0, p1, p2, p3⟩, q0, q1, q2, q3⟩ := hSw
        go_simp
        first | done | with_reducible rfl
      try simp only [Act.put, List.setIfInBounds_toArray, List.set_cons_zero, List.set_cons_succ]
      refine wpAnyH_ready (rs := [36]) (by kernel_rfl) (by simp) (AllReadyH.cons (o := { dst := some 53, op := Op.call { callee := Callee.value (Operand.func 15), args := #[Operand.tmp 47, Operand.tmp 52], argTypes := #[22, 22] }, type := 4, pos := "law.go:29", after := #[{ on := 30, ground := Ground.data }, { on := 35, ground := Ground.data }, { on := 25, ground := Ground.chain }, { on := 25, ground := Ground.guard }], guard := some (25, false) }) (by kernel_rfl) (fun K hK => ?_) AllReadyH.nil)
      go_simp
      refine (HX2.out _ HW1.out).mono ?_
      rintro e wz2 ⟨rfl, hb⟩
      have HW2 : Hid (Below wr.heap.size wr wz2) := (HW1.out).trans (hb.mono (HW1.out).size)
      clear hb
      try go_wp2_with fail
      refine hK.out _ _ ?_ (fun hHeld => ?_)
      · try dsimp only
        exact HSS.out _ HW2.out
      clear hK K
      try simp only [Act.put, List.setIfInBounds_toArray, List.set_cons_zero, List.set_cons_succ]
      refine take_at (i := 37) (d := 54) (oi := { dst := some 54, op := Op.unOp UnOp.not 4 (Operand.tmp 53), type := 4, pos := "law.go:29", after := #[{ on := 36, ground := Ground.data }, { on := 25, ground := Ground.guard }], guard := some (25, false) }) (v := ?_) (by kernel_rfl) (by kernel_rfl) (by kernel_rfl) (by kernel_rfl) (by kernel_rfl) (fun _ _ _ h => h) (Or.inl ⟨by kernel_rfl, ?_⟩) (by assumption) ?_
      rotate_left
      · intro W hSw
        try dsimp only at hSw
        go_simp
        first | done | with_reducible rfl
      try simp only [Act.put, List.setIfInBounds_toArray, List.set_cons_zero, List.set_cons_succ]
      refine take_at (i := 38) (d := 55) (oi := { dst := some 55, op := Op.pick (Operand.tmp 42) (Operand.const (Value.bool true)) (Operand.tmp 54), type := 4, pos := "law.go:29", after := #[{ on := 25, ground := Ground.data }, { on := 37, ground := Ground.data }], guard := none }) (v := ?_) (by kernel_rfl) (by kernel_rfl) (by kernel_rfl) (by kernel_rfl) (by kernel_rfl) (fun _ _ _ h => h) (Or.inl ⟨by kernel_rfl, ?_⟩) (by assumption) ?_
      rotate_left
      · intro W hSw
        try dsimp only at hSw
        go_simp
        first | done | with_reducible rfl
      try simp only [Act.put, List.setIfInBounds_toArray, List.set_cons_zero, List.set_cons_succ]
      refine take_at (i := 39) (d := 56) (oi := { dst := some 56, op := Op.move (Operand.tmp 55), type := 4, pos := "law.go:29", after := #[{ on := 38, ground := Ground.data }, { on := 36, ground := Ground.chain }], guard := none }) (v := ?_) (by kernel_rfl) (by kernel_rfl) (by kernel_rfl) (by kernel_rfl) (by kernel_rfl) (fun _ _ _ h => h) (Or.inl ⟨by kernel_rfl, ?_⟩) (by assumption) ?_
      rotate_left
      · intro W hSw
        try dsimp only at hSw
        go_simp
        first | done | with_reducible rfl
      try simp only [Act.put, List.setIfInBounds_toArray, List.set_cons_zero, List.set_cons_succ]
      refine take_at (i := 40) (d := 57) (oi := { dst := some 57, op := Op.move (Operand.tmp 0), type := 26, pos := "law.go:29", after := #[{ on := 39, ground := Ground.guard }], guard := some (39, false) }) (v := ?_) (by kernel_rfl) (by kernel_rfl) (by kernel_rfl) (by kernel_rfl) (by kernel_rfl) (fun _ _ _ h => h) (Or.inl ⟨by kernel_rfl, ?_⟩) (by assumption) ?_
      rotate_left
      · intro W hSw
        try dsimp only at hSw
        go_simp
        first | done | with_reducible rfl
      try simp only [Act.put, List.setIfInBounds_toArray, List.set_cons_zero, List.set_cons_succ]
      refine take_at (i := 41) (d := 58) (oi := { dst := some 58, op := Op.move (Operand.tmp 5), type := 3, pos := "law.go:29", after := #[{ on := 39, ground := Ground.guard }], guard := some (39, false) }) (v := ?_) (by kernel_rfl) (by kernel_rfl) (by kernel_rfl) (by kernel_rfl) (by kernel_rfl) (fun _ _ _ h => h) (Or.inl ⟨by kernel_rfl, ?_⟩) (by assumption) ?_
      rotate_left
      · intro W hSw
        try dsimp only at hSw
        go_simp
        first | done | with_reducible rfl
      try simp only [Act.put, List.setIfInBounds_toArray, List.set_cons_zero, List.set_cons_succ]
      refine take_at (i := 42) (d := 59) (oi := { dst := some 59, op := Op.indexAddr 26 (Operand.tmp 57) (Operand.tmp 58), type := 0, pos := "law.go:29", after := #[{ on := 40, ground := Ground.data }, { on := 41, ground := Ground.data }, { on := 39, ground := Ground.guard }], guard := some (39, false) }) (v := ?_) (by kernel_rfl) (by kernel_rfl) (by kernel_rfl) (by kernel_rfl) (by kernel_rfl) (fun _ _ _ h => h) (Or.inl ⟨by kernel_rfl, ?_⟩) (by assumption) ?_
      rotate_left
      · intro W hSw
        try dsimp only at hSw
        go_simp
        first | done | with_reducible rfl
      try simp only [Act.put, List.setIfInBounds_toArray, List.set_cons_zero, List.set_cons_succ]
      refine take_at (i := 43) (d := 60) (oi := { dst := some 60, op := Op.fieldAddr 42 (Operand.tmp 59) 3, type := 0, pos := "law.go:29", after := #[{ on := 42, ground := Ground.data }, { on := 39, ground := Ground.guard }], guard := some (39, false) }) (v := ?_) (by kernel_rfl) (by kernel_rfl) (by kernel_rfl) (by kernel_rfl) (by kernel_rfl) (fun _ _ _ h => h) (Or.inl ⟨by kernel_rfl, ?_⟩) (by assumption) ?_
      rotate_left
      · intro W hSw
        try dsimp only at hSw
        go_simp
        first | done | with_reducible rfl
      try simp only [Act.put, List.setIfInBounds_toArray, List.set_cons_zero, List.set_cons_succ]
      refine take_at (i := 44) (d := 61) (oi := { dst := some 61, op := Op.load 22 (Operand.tmp 60), type := 22, pos := "law.go:29", after := #[{ on := 43, ground := Ground.data }, { on := 39, ground := Ground.guard }], guard := some (39, false) }) (v := ?_) (by kernel_rfl) (by kernel_rfl) (by kernel_rfl) (by kernel_rfl) (by kernel_rfl) (fun _ _ _ h => h) (Or.inl ⟨by kernel_rfl, ?_⟩) (by assumption) ?_
      rotate_left
      · intro W hSw
        try dsimp only at hSw
        obtain ⟨⟨p0, p1, p2, p3⟩, q0, q1, q2, q3⟩ := hSw
        go_simp
        first | done | with_reducible rfl
      try simp only [Act.put, List.setIfInBounds_toArray, List.set_cons_zero, List.set_cons_succ]
      refine take_at (i := 45) (d := 62) (oi := { dst := some 62, op := Op.move (Operand.tmp 1), type := 30, pos := "law.go:29", after := #[{ on := 39, ground := Ground.guard }], guard := some (39, false) }) (v := ?_) (by kernel_rfl) (by kernel_rfl) (by kernel_rfl) (by kernel_rfl) (by kernel_rfl) (fun _ _ _ h => h) (Or.inl ⟨by kernel_rfl, ?_⟩) (by assumption) ?_
      rotate_left
      · intro W hSw
        try dsimp only at hSw
        go_simp
        first | done | with_reducible rfl
      try simp only [Act.put, List.setIfInBounds_toArray, List.set_cons_zero, List.set_cons_succ]
      refine take_at (i := 46) (d := 63) (oi := { dst := some 63, op := Op.move (Operand.tmp 5), type := 3, pos := "law.go:29", after := #[{ on := 39, ground := Ground.guard }], guard := some (39, false) }) (v := ?_) (by kernel_rfl) (by kernel_rfl) (by kernel_rfl) (by kernel_rfl) (by kernel_rfl) (fun _ _ _ h => h) (Or.inl ⟨by kernel_rfl, ?_⟩) (by assumption) ?_
      rotate_left
      · intro W hSw
        try dsimp only at hSw
        go_simp
        first | done | with_reducible rfl
      try simp only [Act.put, List.setIfInBounds_toArray, List.set_cons_zero, List.set_cons_succ]
      refine take_at (i := 47) (d := 64) (oi := { dst := some 64, op := Op.indexAddr 30 (Operand.tmp 62) (Operand.tmp 63), type := 0, pos := "law.go:29", after := #[{ on := 45, ground := Ground.data }, { on := 46, ground := Ground.data }, { on := 39, ground := Ground.guard }], guard := some (39, false) }) (v := ?_) (by kernel_rfl) (by kernel_rfl) (by kernel_rfl) (by kernel_rfl) (by kernel_rfl) (fun _ _ _ h => h) (Or.inl ⟨by kernel_rfl, ?_⟩) (by assumption) ?_
      rotate_left
      · intro W hSw
        try dsimp only at hSw
        go_simp
        first | done | with_reducible rfl
      try simp only [Act.put, List.setIfInBounds_toArray, List.set_cons_zero, List.set_cons_succ]
      refine take_at (i := 48) (d := 65) (oi := { dst := some 65, op := Op.fieldAddr 62 (Operand.tmp 64) 3, type := 0, pos := "law.go:29", after := #[{ on := 47, ground := Ground.data }, { on := 39, ground := Ground.guard }], guard := some (39, false) }) (v := ?_) (by kernel_rfl) (by kernel_rfl) (by kernel_rfl) (by kernel_rfl) (by kernel_rfl) (fun _ _ _ h => h) (Or.inl ⟨by kernel_rfl, ?_⟩) (by assumption) ?_
      rotate_left
      · intro W hSw
        try dsimp only at hSw
        go_simp
        first | done | with_reducible rfl
      try simp only [Act.put, List.setIfInBounds_toArray, List.set_cons_zero, List.set_cons_succ]
      refine take_at (i := 49) (d := 66) (oi := { dst := some 66, op := Op.load 22 (Operand.tmp 65), type := 22, pos := "law.go:29", after := #[{ on := 48, ground := Ground.data }, { on := 39, ground := Ground.guard }], guard := some (39, false) }) (v := ?_) (by kernel_rfl) (by kernel_rfl) (by kernel_rfl) (by kernel_rfl) (by kernel_rfl) (fun _ _ _ h => h) (Or.inl ⟨by kernel_rfl, ?_⟩) (by assumption) ?_
      rotate_left
      · intro W hSw
        try dsimp only at hSw
        obtain ⟨⟨p0, p1, p2, p3⟩, q0, q1, q2, q3⟩ := hSw
        go_simp
        first | done | with_reducible rfl
      try simp only [Act.put, List.setIfInBounds_toArray, List.set_cons_zero, List.set_cons_succ]
      refine wpAnyH_ready (rs := [50]) (by kernel_rfl) (by simp) (AllReadyH.cons (o := { dst := some 67, op := Op.call { callee := Callee.value (Operand.func 15), args := #[Operand.tmp 61, Operand.tmp 66], argTypes := #[22, 22] }, type := 4, pos := "law.go:29", after := #[{ on := 44, ground := Ground.data }, { on := 49, ground := Ground.data }, { on := 39, ground := Ground.chain }, { on := 39, ground := Ground.guard }], guard := some (39, false) }) (by kernel_rfl) (fun K hK => ?_) AllReadyH.nil)
      go_simp
      refine (HX3.out _ HW2.out).mono ?_
      rintro e wz3 ⟨rfl, hb⟩
      have HW3 : Hid (Below wr.heap.size wr wz3) := (HW2.out).trans (hb.mono (HW2.out).size)
      clear hb
      try go_wp2_with fail
      refine hK.out _ _ ?_ (fun hHeld => ?_)
      · try dsimp only
        exact HSS.out _ HW3.out
      clear hK K
      try simp only [Act.put, List.setIfInBounds_toArray, List.set_cons_zero, List.set_cons_succ]
      refine take_at (i := 51) (d := 68) (oi := { dst := some 68, op := Op.unOp UnOp.not 4 (Operand.tmp 67), type := 4, pos := "law.go:29", after := #[{ on := 50, ground := Ground.data }, { on := 39, ground := Ground.guard }], guard := some (39, false) }) (v := ?_) (by kernel_rfl) (by kernel_rfl) (by kernel_rfl) (by kernel_rfl) (by kernel_rfl) (fun _ _ _ h => h) (Or.inl ⟨by kernel_rfl, ?_⟩) (by assumption) ?_
      rotate_left
      · intro W hSw
        try dsimp only at hSw
        go_simp
        first | done | with_reducible rfl
      try simp only [Act.put, List.setIfInBounds_toArray, List.set_cons_zero, List.set_cons_succ]
      refine take_at (i := 52) (d := 69) (oi := { dst := some 69, op := Op.pick (Operand.tmp 56) (Operand.const (Value.bool true)) (Operand.tmp 68), type := 4, pos := "law.go:29", after := #[{ on := 39, ground := Ground.data }, { on := 51, ground := Ground.data }], guard := none }) (v := ?_) (by kernel_rfl) (by kernel_rfl) (by kernel_rfl) (by kernel_rfl) (by kernel_rfl) (fun _ _ _ h => h) (Or.inl ⟨by kernel_rfl, ?_⟩) (by assumption) ?_
      rotate_left
      · intro W hSw
        try dsimp only at hSw
        go_simp
        first | done | with_reducible rfl
      try simp only [Act.put, List.setIfInBounds_toArray, List.set_cons_zero, List.set_cons_succ]
      refine wpAnyH_done (by kernel_rfl) ?_ _
      go_wp2_with fail
      go_roundw
      case rel => exact ⟨i + 1, by omega, by go_num, HB.out.trans (HW3.out.mono HB.out.size)⟩
      case measure => simp [intOf]; omega
    · obtain rfl : i = n := by omega
      have z1 : ¬ (i : Int) < (i : Int) := by omega
      go_wp2_with fail
      go_ret
      exact ⟨rfl, HB.out⟩
set_option maxRecDepth 100000 in
set_option maxHeartbeats 6400000 in
theorem chunks_in (v1 v2 v3 : Value) (o a b : List ByteArray) (w : World) (h1 : SlV w v1 (o.map sv)) (h2 : SlV w v2 (a.map sv)) (h3 : SlV w v3 (b.map sv)) (s1 : ∀ s ∈ o, s.size ≤ maxLen) (s2 : ∀ s ∈ a, s.size ≤ maxLen) (s3 : ∀ s ∈ b, s.size ≤ maxLen) : Calls Try.prog 3 #[v1, v2, v3] w (Yes w) := by
  have H1 := Lib.hid (fun W (hW : Below w.heap.size w W) => h1.below hW)
  have H2 := Lib.hid (fun W (hW : Below w.heap.size w W) => h2.below hW)
  have H3 := Lib.hid (fun W (hW : Below w.heap.size w W) => h3.below hW)
  have HW1 := Lib.hid (fun W (hW : Below w.heap.size w W) => few_any v1 o W (h1.below hW) s1)
  have HW2 := Lib.hid (fun W (hW : Below w.heap.size w W) => few_any v2 a W (h2.below hW) s2)
  have HW3 := Lib.hid (fun W (hW : Below w.heap.size w W) => few_any v3 b W (h3.below hW) s3)
  have HF := Lib.hid (fun W => dfirst_any W)
  unfold Yes at HF
  clear h1 h2 h3 s1 s2 s3
  have hlen : ∀ l : List ByteArray, fewB l = true → l.length ≤ 220 := fun l h => by
    unfold fewB at h
    rw [Bool.and_eq_true] at h
    exact of_decide_eq_true h.1
  cases f1 : fewB o with
  | false =>
    rw [f1] at HW1
    go_enter Try.func3, Try.ntmps3
    go_wp2_with fail
    refine (HF.out w).mono ?_
    rintro e w1 ⟨rfl, hb1⟩
    have HB1 := Lib.hid hb1
    clear hb1
    go_wp2_with fail
    refine (HW1.out w1 HB1.out).mono ?_
    rintro e w' ⟨rfl, rfl⟩
    go_wp2_with fail
    refine (HF.out w1).mono ?_
    rintro e w2 ⟨rfl, hb2⟩
    have HB2 := Lib.hid (HB1.out.trans (hb2.mono HB1.out.size))
    go_wp2_with fail
    go_ret
    exact ⟨rfl, HB2.out⟩
  | true =>
    rw [f1] at HW1
    cases f2 : fewB a with
    | false =>
      rw [f2] at HW2
      go_enter Try.func3, Try.ntmps3
      go_wp2_with fail
      refine (HF.out w).mono ?_
      rintro e w1 ⟨rfl, hb1⟩
      have HB1 := Lib.hid hb1
      clear hb1
      go_wp2_with fail
      refine (HW1.out w1 HB1.out).mono ?_
      rintro e w' ⟨rfl, rfl⟩
      go_wp2_with fail
      refine (HW2.out w1 HB1.out).mono ?_
      rintro e w' ⟨rfl, rfl⟩
      go_wp2_with fail
      refine (HF.out w1).mono ?_
      rintro e w2 ⟨rfl, hb2⟩
      have HB2 := Lib.hid (HB1.out.trans (hb2.mono HB1.out.size))
      go_wp2_with fail
      go_ret
      exact ⟨rfl, HB2.out⟩
    | true =>
      rw [f2] at HW2
      cases f3 : fewB b with
      | false =>
        rw [f3] at HW3
        go_enter Try.func3, Try.ntmps3
        go_wp2_with fail
        refine (HF.out w).mono ?_
        rintro e w1 ⟨rfl, hb1⟩
        have HB1 := Lib.hid hb1
        clear hb1
        go_wp2_with fail
        refine (HW1.out w1 HB1.out).mono ?_
        rintro e w' ⟨rfl, rfl⟩
        go_wp2_with fail
        refine (HW2.out w1 HB1.out).mono ?_
        rintro e w' ⟨rfl, rfl⟩
        go_wp2_with fail
        refine (HW3.out w1 HB1.out).mono ?_
        rintro e w' ⟨rfl, rfl⟩
        go_wp2_with fail
        refine (HF.out w1).mono ?_
        rintro e w2 ⟨rfl, hb2⟩
        have HB2 := Lib.hid (HB1.out.trans (hb2.mono HB1.out.size))
        go_wp2_with fail
        go_ret
        exact ⟨rfl, HB2.out⟩
      | true =>
        rw [f3] at HW3
        have l1 := hlen o f1
        have l2 := hlen a f2
        have l3 := hlen b f3
        have HC1 := Lib.hid (fun W (hW : Below w.heap.size w W) => copyt_any v1 o W (H1.out W hW) (by omega))
        have HC2 := Lib.hid (fun W (hW : Below w.heap.size w W) => copyt_any v2 a W (H2.out W hW) (by omega))
        have HC3 := Lib.hid (fun W (hW : Below w.heap.size w W) => copyt_any v3 b W (H3.out W hW) (by omega))
        have HD := Lib.hid (fun W (hW : Below w.heap.size w W) => rchunks_any v1 v2 v3 o a b W (H1.out W hW) (H2.out W hW) (H3.out W hW))
        have HP : Hid (∀ W x y z, SlV W x (o.map sv) → SlV W y (a.map sv) → SlV W z (b.map sv) → Calls Try.prog 12 #[x, y, z] W (ChkP 42 W o a b)) := fun W x y z hx hy hz => chunks_any x y z o a b W hx hy hz
        unfold TextsPost at HC1 HC2 HC3
        unfold ChkP at HD HP
        obtain ⟨ce, hce⟩ : ∃ x, cErr o a b = x := ⟨_, rfl⟩
        obtain ⟨cl, hcl⟩ : ∃ x, cLst o a b = x := ⟨_, rfl⟩
        rw [hce, hcl] at HD HP
        clear hce hcl hlen f1 f2 f3
        go_enter Try.func3, Try.ntmps3
        go_wp2_with fail
        refine (HF.out w).mono ?_
        rintro e w1 ⟨rfl, hb1⟩
        have HB1 := Lib.hid hb1
        clear hb1
        go_wp2_with fail
        refine (HW1.out w1 HB1.out).mono ?_
        rintro e w' ⟨rfl, rfl⟩
        go_wp2_with fail
        refine (HW2.out w1 HB1.out).mono ?_
        rintro e w' ⟨rfl, rfl⟩
        go_wp2_with fail
        refine (HW3.out w1 HB1.out).mono ?_
        rintro e w' ⟨rfl, rfl⟩
        go_wp2_with fail
        refine (HC1.out w1 HB1.out).mono ?_
        rintro e w2 ⟨x1, rfl, ho, hb⟩
        have HB2 := Lib.hid (HB1.out.trans (hb.mono HB1.out.size))
        have HV1_2 := Lib.hid ho.slv
        clear ho hb
        go_wp2_with fail
        refine (HC2.out w2 HB2.out).mono ?_
        rintro e w3 ⟨x2, rfl, ho, hb⟩
        have HV1_3 := Lib.hid (HV1_2.out.below hb)
        have HB3 := Lib.hid (HB2.out.trans (hb.mono HB2.out.size))
        have HV2_3 := Lib.hid ho.slv
        clear ho hb
        go_wp2_with fail
        refine (HC3.out w3 HB3.out).mono ?_
        rintro e w4 ⟨x3, rfl, ho, hb⟩
        have HV1_4 := Lib.hid (HV1_3.out.below hb)
        have HV2_4 := Lib.hid (HV2_3.out.below hb)
        have HB4 := Lib.hid (HB3.out.trans (hb.mono HB3.out.size))
        have HV3_4 := Lib.hid ho.slv
        clear ho hb
        go_wp2_with fail
        refine (HP.out w4 _ _ _ HV1_4.out HV2_4.out HV3_4.out).mono ?_
        rintro e w5 ⟨y1, rfl, ho, hb⟩
        have HV1_5 := Lib.hid (HV1_4.out.below hb)
        have HV2_5 := Lib.hid (HV2_4.out.below hb)
        have HV3_5 := Lib.hid (HV3_4.out.below hb)
        have HB5 := Lib.hid (HB4.out.trans (hb.mono HB4.out.size))
        have HY1 := Lib.hid (fun W (hW : Below w5.heap.size w5 W) => ho.sl.below hW)
        clear ho hb
        go_wp2_with fail
        refine (HD.out w5 HB5.out).mono ?_
        rintro e w6 ⟨y2, rfl, ho, hb⟩
        have HV1_6 := Lib.hid (HV1_5.out.below hb)
        have HV2_6 := Lib.hid (HV2_5.out.below hb)
        have HV3_6 := Lib.hid (HV3_5.out.below hb)
        have HB6 := Lib.hid (HB5.out.trans (hb.mono HB5.out.size))
        have HY2 := Lib.hid (And.intro (HY1.out _ hb) ho.sl)
        clear ho hb
        go_wp2_with fail
        refine (HF.out w6).mono ?_
        rintro e w7 ⟨rfl, hb⟩
        have HV1_7 := Lib.hid (HV1_6.out.below hb)
        have HV2_7 := Lib.hid (HV2_6.out.below hb)
        have HV3_7 := Lib.hid (HV3_6.out.below hb)
        have HB7 := Lib.hid (HB6.out.trans (hb.mono HB6.out.size))
        have HSM := Lib.hid (same3_any _ _ cl w7 (HY2.out.1.below hb) (HY2.out.2.below hb))
        unfold Yes at HSM
        clear hb
        go_wp2_with fail
        refine HSM.out.mono ?_
        rintro e w8 ⟨rfl, hb⟩
        have HV1_8 := Lib.hid (HV1_7.out.below hb)
        have HV2_8 := Lib.hid (HV2_7.out.below hb)
        have HV3_8 := Lib.hid (HV3_7.out.below hb)
        have HB8 := Lib.hid (HB7.out.trans (hb.mono HB7.out.size))
        clear hb
        go_wp2_with fail
        refine (texts_same _ _ o w8 HV1_8.out (H1.out w8 HB8.out)).mono ?_
        rintro e w9 ⟨rfl, hb⟩
        have HV1_9 := Lib.hid (HV1_8.out.below hb)
        have HV2_9 := Lib.hid (HV2_8.out.below hb)
        have HV3_9 := Lib.hid (HV3_8.out.below hb)
        have HB9 := Lib.hid (HB8.out.trans (hb.mono HB8.out.size))
        clear hb
        go_wp2_with fail
        refine (texts_same _ _ a w9 HV2_9.out (H2.out w9 HB9.out)).mono ?_
        rintro e w10 ⟨rfl, hb⟩
        have HV1_10 := Lib.hid (HV1_9.out.below hb)
        have HV2_10 := Lib.hid (HV2_9.out.below hb)
        have HV3_10 := Lib.hid (HV3_9.out.below hb)
        have HB10 := Lib.hid (HB9.out.trans (hb.mono HB9.out.size))
        clear hb
        go_wp2_with fail
        refine (texts_same _ _ b w10 HV3_10.out (H3.out w10 HB10.out)).mono ?_
        rintro e w11 ⟨rfl, hb⟩
        have HV1_11 := Lib.hid (HV1_10.out.below hb)
        have HV2_11 := Lib.hid (HV2_10.out.below hb)
        have HV3_11 := Lib.hid (HV3_10.out.below hb)
        have HB11 := Lib.hid (HB10.out.trans (hb.mono HB10.out.size))
        clear hb
        go_wp2_with fail
        go_ret
        exact ⟨rfl, HB11.out⟩
theorem diff3Chunks_walk (a0 : Option Addr) (len0 cap0 : Nat) (ss0 : List ByteArray) (a1 : Option Addr) (len1 cap1 : Nat) (ss1 : List ByteArray) (a2 : Option Addr) (len2 cap2 : Nat) (ss2 : List ByteArray) (w : World) (w0 : IsTexts w a0 len0 cap0 ss0) (w1 : IsTexts w a1 len1 cap1 ss1) (w2 : IsTexts w a2 len2 cap2 ss2) : Calls Try.prog 3 #[.slice a0 len0 cap0, .slice a1 len1 cap1, .slice a2 len2 cap2] w (Yes w) := by
  obtain ⟨o, _, h0, s0⟩ := w0.slv
  obtain ⟨a, _, h1, s1⟩ := w1.slv
  obtain ⟨b, _, h2, s2⟩ := w2.slv
  exact chunks_in _ _ _ o a b w h0 h1 h2 s0 s1 s2
end Go.Proofs.Ytbejgljljjjjcaa.Ln
