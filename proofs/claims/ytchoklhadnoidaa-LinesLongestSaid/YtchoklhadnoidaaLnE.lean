/- marlaw14: first; pairs and edits of both sides compared. -/
import Derived.Test.YtchoklhadnoidaaLnC
import Derived.Test.YtchoklhadnoidaaLnS
set_option linter.unusedVariables false
set_option linter.unusedSimpArgs false
namespace Go.Proofs.Ytchoklhadnoidaa.Ln
open Go.RowKit Go.Proofs.Ytchoklhadnoidaa.Sh Go.Proofs.Ytchoklhadnoidaa.Tx

theorem first_prs : mErr [⟨#[97]⟩, ⟨#[98]⟩, ⟨#[99]⟩] [⟨#[98]⟩, ⟨#[99]⟩, ⟨#[97]⟩] = 0 ∧ mPrs [⟨#[97]⟩, ⟨#[98]⟩, ⟨#[99]⟩] [⟨#[98]⟩, ⟨#[99]⟩, ⟨#[97]⟩] = [(1, 0), (2, 1)] := by
  refine ⟨by simp [mErr], ?_⟩
  unfold mPrs
  rw [if_pos (by simp)]
  have n1 : ¬ (⟨#[97]⟩ : ByteArray) = ⟨#[98]⟩ := by decide
  have n2 : ¬ (⟨#[97]⟩ : ByteArray) = ⟨#[99]⟩ := by decide
  have n3 : ¬ (⟨#[98]⟩ : ByteArray) = ⟨#[99]⟩ := by decide
  have n4 : ¬ (⟨#[98]⟩ : ByteArray) = ⟨#[97]⟩ := by decide
  have n5 : ¬ (⟨#[99]⟩ : ByteArray) = ⟨#[97]⟩ := by decide
  have n6 : ¬ (⟨#[99]⟩ : ByteArray) = ⟨#[98]⟩ := by decide
  simp [prsL_cons, prsL_nil, lenL_cons, lenL_nil, lenL_nil', n1, n2, n3, n4, n5, n6]
theorem first_eds : mErr [⟨#[97]⟩, ⟨#[98]⟩] [⟨#[98]⟩] = 0 ∧ dEds [⟨#[97]⟩, ⟨#[98]⟩] [⟨#[98]⟩] = [⟨0, 1, []⟩] := by
  refine ⟨by simp [mErr], ?_⟩
  unfold dEds
  rw [if_pos (by simp)]
  have n1 : ¬ (⟨#[97]⟩ : ByteArray) = ⟨#[98]⟩ := by decide
  simp [prsL_cons, prsL_nil, prsL_nil', lenL_cons, lenL_nil, lenL_nil', n1, difL, gapL, ofEd]
/-- A list of texts just laid. -/
theorem texts_new (w : World) (l : List ByteArray) (hl : l.length ≤ 100) : SlV (w.alloc (.cells (l.map sv).toArray 9)) (.slice (some ⟨w.heap.size, 0, none⟩) l.length l.length) (l.map sv) := by
  have hg := Blk.new w 9 (l.map sv).toArray
  refine ⟨some ⟨w.heap.size, 0, none⟩, l.length, by rw [List.length_map], by rw [List.length_map]; exact Nat.le_refl _, by unfold maxLen; omega, ⟨by simp, fun _ => ⟨_, rfl, hg.lt, fun j u hu => ?_⟩⟩, fun e => by cases e⟩
  rw [Addr.add_mid, Nat.zero_add, hg.cell j, ← hu]
  simp
set_option maxRecDepth 100000 in
set_option maxHeartbeats 3200000 in
theorem first_any (w : World) : Calls Try.prog 9 #[] w (Yes w) := by
  obtain ⟨w1, hw1⟩ : ∃ W, w.alloc (.cells #[.string ⟨#[97]⟩, .string ⟨#[98]⟩, .string ⟨#[99]⟩] 9) = W := ⟨_, rfl⟩
  obtain ⟨w2, hw2⟩ : ∃ W, w1.alloc (.cells #[.string ⟨#[98]⟩, .string ⟨#[99]⟩, .string ⟨#[97]⟩] 9) = W := ⟨_, rfl⟩
  have hb1 : Below w.heap.size w w1 := by rw [← hw1]; exact (Below.refl _ _).alloc (Nat.le_refl _) _
  have hb2 : Below w1.heap.size w1 w2 := by rw [← hw2]; exact (Below.refl _ _).alloc (Nat.le_refl _) _
  have t1 : SlV w1 (.slice (some ⟨w.heap.size, 0, none⟩) 3 3) (([⟨#[97]⟩, ⟨#[98]⟩, ⟨#[99]⟩] : List ByteArray).map sv) := by rw [← hw1]; exact texts_new w [⟨#[97]⟩, ⟨#[98]⟩, ⟨#[99]⟩] (by decide)
  have t2 : SlV w2 (.slice (some ⟨w1.heap.size, 0, none⟩) 3 3) (([⟨#[98]⟩, ⟨#[99]⟩, ⟨#[97]⟩] : List ByteArray).map sv) := by rw [← hw2]; exact texts_new w1 [⟨#[98]⟩, ⟨#[99]⟩, ⟨#[97]⟩] (by decide)
  have hm := match_any _ _ _ _ w2 (t1.below hb2) t2
  unfold MatP at hm
  rw [first_prs.1, first_prs.2] at hm
  have HM := Lib.hid hm
  have HB02 := Lib.hid (hb1.trans (hb2.mono hb1.size))
  have HD : Hid (∀ W, Below w.heap.size w W → Calls Try.prog 22 #[.slice (some ⟨W.heap.size, 0, none⟩) 2 2, .slice (some ⟨W.heap.size + 1, 0, none⟩) 1 1] ((W.alloc (.cells #[.string ⟨#[97]⟩, .string ⟨#[98]⟩] 9)).alloc (.cells #[.string ⟨#[98]⟩] 9)) fun e w' => ∃ v, e = .returned (.tuple #[v, .int .i64 0]) ∧ OwnEd 49 w' W.heap.size v [⟨0, 1, []⟩] ∧ Below W.heap.size W w') := by
    intro W hW
    obtain ⟨w3, hw3⟩ : ∃ X, W.alloc (.cells #[.string ⟨#[97]⟩, .string ⟨#[98]⟩] 9) = X := ⟨_, rfl⟩
    obtain ⟨w4, hw4⟩ : ∃ X, w3.alloc (.cells #[.string ⟨#[98]⟩] 9) = X := ⟨_, rfl⟩
    have hb3 : Below W.heap.size W w3 := by rw [← hw3]; exact (Below.refl _ _).alloc (Nat.le_refl _) _
    have hb4 : Below w3.heap.size w3 w4 := by rw [← hw4]; exact (Below.refl _ _).alloc (Nat.le_refl _) _
    have t3 : SlV w3 (.slice (some ⟨W.heap.size, 0, none⟩) 2 2) (([⟨#[97]⟩, ⟨#[98]⟩] : List ByteArray).map sv) := by rw [← hw3]; exact texts_new W [⟨#[97]⟩, ⟨#[98]⟩] (by decide)
    have t4 : SlV w4 (.slice (some ⟨w3.heap.size, 0, none⟩) 1 1) (([⟨#[98]⟩] : List ByteArray).map sv) := by rw [← hw4]; exact texts_new w3 [⟨#[98]⟩] (by decide)
    have hsz : w3.heap.size = W.heap.size + 1 := by rw [← hw3]; simp
    have hd := diff_any _ _ _ _ w4 (t3.below hb4) t4
    unfold DifP at hd
    rw [first_eds.1, first_eds.2, hsz] at hd
    rw [hw3, hw4]
    refine hd.mono ?_
    rintro e w' ⟨v, rfl, h1, h2⟩
    have hb34 := hb3.trans (hb4.mono hb3.size)
    exact ⟨v, rfl, h1.base hb34.size, hb34.trans (h2.mono hb34.size)⟩
  have hz1 : w1.heap.size = w.heap.size + 1 := by rw [← hw1]; simp
  rw [hz1] at HM
  clear hm t1 t2 hb1 hb2
  go_enter Try.func9, Try.ntmps9
  go_wp2_with fail
  refine HM.out.mono ?_
  rintro e w3 ⟨v3, rfl, ho3, hb3⟩
  have HB03 := Lib.hid (HB02.out.trans (hb3.mono HB02.out.size))
  have HO3 := Lib.hid ho3.sl
  obtain ⟨A3, c3, rfl, l3, _⟩ := ho3.slice
  have HDD := HD.out w3 HB03.out
  clear ho3 hb3 HD hw1 hw2
  go_wp2_with fail
  refine HDD.mono ?_
  rintro e w4 ⟨v4, rfl, ho4, hb4⟩
  have HB04 := Lib.hid (HB03.out.trans (hb4.mono HB03.out.size))
  have hsl := HO3.out.below hb4
  obtain ⟨ad, rfl, x0, x1⟩ := pr_at hsl 0 1 0 rfl
  obtain ⟨_, ea, x2, x3⟩ := pr_at hsl 1 2 1 rfl
  injection ea with ea
  subst ea
  have hse := ho4.sl
  obtain ⟨A4, c4, rfl, l4, _⟩ := ho4.slice
  obtain ⟨ad4, d4, rfl, x4, x5, x6, hsv⟩ := hse.at_ 0 _ rfl
  obtain ⟨A5, c5, rfl, _, _⟩ := hsv.len
  simp only [List.length_map, List.length_cons, List.length_nil, Nat.zero_mul, Nat.one_mul, Nat.zero_add] at *
  have e0 : ∀ a : Addr, a.add 0 = a := fun a => by simp [Addr.add]
  rw [e0] at x0 x1 x4 x5 x6
  have y0 : w4.cell? ad = some (.int .i64 1) := x0
  have y1 : w4.cell? ⟨ad.block, ad.off + 1, none⟩ = some (.int .i64 0) := x1
  have y2 : w4.cell? ⟨ad.block, ad.off + 2, none⟩ = some (.int .i64 2) := x2
  have y3 : w4.cell? ⟨ad.block, ad.off + 3, none⟩ = some (.int .i64 1) := x3
  clear hsl hse ho4 hb4 hsv HDD x0 x1 x2 x3
  go_wp2_with fail
  go_ret
  exact ⟨rfl, HB04.out⟩
set_option maxRecDepth 100000 in
set_option maxHeartbeats 1600000 in
theorem pairs_any (v1 v2 : Value) (l : List (Nat × Nat)) (w : World) (h1 : SlK 2 w v1 (l.map prC)) (h2 : SlK 2 w v2 (l.map prC)) : Calls Try.prog 24 #[v1, v2] w (Yes w) := by
  obtain ⟨A1, c1, rfl, hl1, hm1, _⟩ := h1
  have H1 : Hid (SlK 2 w (.slice A1 l.length c1) (l.map prC)) := by unfold Hid; rw [List.length_map] at hl1; exact ⟨A1, c1, by rw [List.length_map], by rw [List.length_map]; exact hl1, hm1, by assumption⟩
  obtain ⟨A2, c2, rfl, hl2, hm2, _⟩ := h2
  have H2 : Hid (SlK 2 w (.slice A2 l.length c2) (l.map prC)) := by unfold Hid; rw [List.length_map] at hl2; exact ⟨A2, c2, by rw [List.length_map], by rw [List.length_map]; exact hl2, hm2, by assumption⟩
  rw [List.length_map] at hl1 hl2 ⊢
  unfold maxLen at hm1 hm2
  obtain ⟨n, hn⟩ : ∃ n, l.length = n := ⟨_, rfl⟩
  rw [hn] at H1 H2 hl1 hl2 ⊢
  have HN := Lib.hid hn
  clear hn
  go_enter Try.func24, Try.ntmps24
  go_wp2_with fail
  go_loopw [5] (fun x wr => ∃ k : Nat, k ≤ n ∧ x = .int .i64 (k : Int) ∧ Below w.heap.size w wr) (fun x _ => n - (intOf x).toNat)
  case atStart => exact ⟨0, Nat.zero_le _, rfl, Below.refl _ _⟩
  case round =>
    obtain ⟨k, hk, rfl, hb⟩ := hrel
    have HB := Lib.hid hb
    clear hb
    have z0 : (0 : Int) ≤ (k : Int) := by omega
    by_cases hlt : k < n
    · have z1 : (k : Int) < (n : Int) := by omega
      have hkl : k < l.length := by rw [HN.out]; exact hlt
      obtain ⟨p, q, hpq⟩ : ∃ p q, l[k]? = some (p, q) := ⟨_, _, List.getElem?_eq_getElem hkl⟩
      obtain ⟨ad1, rfl, x0, x1⟩ := pr_at (H1.out.below HB.out) k p q hpq
      obtain ⟨ad2, rfl, x2, x3⟩ := pr_at (H2.out.below HB.out) k p q hpq
      have d1 : (decide (¬ (p : Int) = (p : Int))) = false := by simp
      have d2 : (decide (¬ (q : Int) = (q : Int))) = false := by simp
      clear hkl hpq
      go_wp2_with fail
      go_quiet (fail)
      go_wp2_with fail
      go_roundw
      case rel => exact ⟨k + 1, by omega, by go_num, below_drewN HB.out _⟩
      case measure => simp [intOf]; omega
    · obtain rfl : k = n := by omega
      go_wp2_with fail
      go_ret
      exact ⟨rfl, HB.out⟩
set_option maxRecDepth 100000 in
set_option maxHeartbeats 1600000 in
theorem eds_any (v1 v2 : Value) (l : List EdI) (w : World) (h1 : SlEd w v1 l) (h2 : SlEd w v2 l) : Calls Try.prog 25 #[v1, v2] w (Yes w) := by
  have H1 := Lib.hid h1
  have H2 := Lib.hid h2
  obtain ⟨A1, c1, rfl, hl1, hm1⟩ := h1.slice
  obtain ⟨A2, c2, rfl, hl2, hm2⟩ := h2.slice
  unfold maxLen at hm1 hm2
  obtain ⟨n, hn⟩ : ∃ n, l.length = n := ⟨_, rfl⟩
  rw [hn] at H1 H2 hl1 hl2 ⊢
  have HN := Lib.hid hn
  clear hn h1 h2
  go_enter Try.func25, Try.ntmps25
  go_wp2_with fail
  go_loopw [5] (fun x wr => ∃ k : Nat, k ≤ n ∧ x = .int .i64 (k : Int) ∧ Below w.heap.size w wr) (fun x _ => n - (intOf x).toNat)
  case atStart => exact ⟨0, Nat.zero_le _, rfl, Below.refl _ _⟩
  case round =>
    obtain ⟨k, hk, rfl, hb⟩ := hrel
    have HB := Lib.hid hb
    clear hb
    have z0 : (0 : Int) ≤ (k : Int) := by omega
    by_cases hlt : k < n
    · have z1 : (k : Int) < (n : Int) := by omega
      have hkl : k < l.length := by rw [HN.out]; exact hlt
      obtain ⟨e, he⟩ : ∃ e, l[k]? = some e := ⟨_, List.getElem?_eq_getElem hkl⟩
      obtain ⟨ad1, s1, rfl, hs1⟩ := (H1.out.below HB.out).stay k e he
      obtain ⟨ad2, s2, rfl, hs2⟩ := (H2.out.below HB.out).stay k e he
      obtain ⟨ea, ed, ei⟩ := e
      have HT : Hid (∀ W, Below wr.heap.size wr W → Calls Try.prog 14 #[s1, s2] W (Yes W)) := fun W hW => texts_same _ _ ei W (hs1 W hW).2.2.2 (hs2 W hW).2.2.2
      have HSS : Hid (∀ W, Below wr.heap.size wr W → W.cell? (ad1.add (k * 3)) = some (.int .i64 ea) ∧ W.cell? ⟨(ad1.add (k * 3)).block, (ad1.add (k * 3)).off + 1, none⟩ = some (.int .i64 ed) ∧ W.cell? ⟨(ad1.add (k * 3)).block, (ad1.add (k * 3)).off + 2, none⟩ = some s1 ∧ W.cell? (ad2.add (k * 3)) = some (.int .i64 ea) ∧ W.cell? ⟨(ad2.add (k * 3)).block, (ad2.add (k * 3)).off + 1, none⟩ = some (.int .i64 ed) ∧ W.cell? ⟨(ad2.add (k * 3)).block, (ad2.add (k * 3)).off + 2, none⟩ = some s2) := fun W hW => ⟨(hs1 W hW).1, (hs1 W hW).2.1, (hs1 W hW).2.2.1, (hs2 W hW).1, (hs2 W hW).2.1, (hs2 W hW).2.2.1⟩
      clear hkl he hs1 hs2
      go_wp2_with fail
      -- STEPS
      refine wp_region_held_drew (S := (fun W => W.cell? (ad1.add (k * 3)) = some (.int .i64 ea) ∧ W.cell? ⟨(ad1.add (k * 3)).block, (ad1.add (k * 3)).off + 1, none⟩ = some (.int .i64 ed) ∧ W.cell? ⟨(ad1.add (k * 3)).block, (ad1.add (k * 3)).off + 2, none⟩ = some s1 ∧ W.cell? (ad2.add (k * 3)) = some (.int .i64 ea) ∧ W.cell? ⟨(ad2.add (k * 3)).block, (ad2.add (k * 3)).off + 1, none⟩ = some (.int .i64 ed) ∧ W.cell? ⟨(ad2.add (k * 3)).block, (ad2.add (k * 3)).off + 2, none⟩ = some s2)) (by kernel_rfl) ?_ (fun hHeld => ?_)
      · try dsimp only
        exact HSS.out _ ((Below.refl _ _).drew)
      refine take_at (i := 0) (d := 17) (oi := { dst := some 17, op := Op.move (Operand.tmp 0), type := 40, pos := "law.go:35", after := #[], guard := none }) (v := ?_) (by kernel_rfl) (by kernel_rfl) (by kernel_rfl) (by kernel_rfl) (by kernel_rfl) (fun _ _ _ h => h) (Or.inl ⟨by kernel_rfl, ?_⟩) (by assumption) ?_
      rotate_left
      · intro W hSw
        try dsimp only at hSw
        go_simp
        first | done | with_reducible rfl
      try simp only [Act.put, List.setIfInBounds_toArray, List.set_cons_zero, List.set_cons_succ]
      refine take_at (i := 1) (d := 18) (oi := { dst := some 18, op := Op.move (Operand.tmp 5), type := 3, pos := "law.go:35", after := #[], guard := none }) (v := ?_) (by kernel_rfl) (by kernel_rfl) (by kernel_rfl) (by kernel_rfl) (by kernel_rfl) (fun _ _ _ h => h) (Or.inl ⟨by kernel_rfl, ?_⟩) (by assumption) ?_
      rotate_left
      · intro W hSw
        try dsimp only at hSw
        go_simp
        first | done | with_reducible rfl
      try simp only [Act.put, List.setIfInBounds_toArray, List.set_cons_zero, List.set_cons_succ]
      refine take_at (i := 2) (d := 19) (oi := { dst := some 19, op := Op.indexAddr 40 (Operand.tmp 17) (Operand.tmp 18), type := 0, pos := "law.go:35", after := #[{ on := 0, ground := Ground.data }, { on := 1, ground := Ground.data }], guard := none }) (v := ?_) (by kernel_rfl) (by kernel_rfl) (by kernel_rfl) (by kernel_rfl) (by kernel_rfl) (fun _ _ _ h => h) (Or.inl ⟨by kernel_rfl, ?_⟩) (by assumption) ?_
      rotate_left
      · intro W hSw
        try dsimp only at hSw
        go_simp
        first | done | with_reducible rfl
      try simp only [Act.put, List.setIfInBounds_toArray, List.set_cons_zero, List.set_cons_succ]
      refine take_at (i := 3) (d := 20) (oi := { dst := some 20, op := Op.fieldAddr 49 (Operand.tmp 19) 0, type := 0, pos := "law.go:35", after := #[{ on := 2, ground := Ground.data }], guard := none }) (v := ?_) (by kernel_rfl) (by kernel_rfl) (by kernel_rfl) (by kernel_rfl) (by kernel_rfl) (fun _ _ _ h => h) (Or.inl ⟨by kernel_rfl, ?_⟩) (by assumption) ?_
      rotate_left
      · intro W hSw
        try dsimp only at hSw
        go_simp
        first | done | with_reducible rfl
      try simp only [Act.put, List.setIfInBounds_toArray, List.set_cons_zero, List.set_cons_succ]
      refine take_at (i := 4) (d := 21) (oi := { dst := some 21, op := Op.load 3 (Operand.tmp 20), type := 3, pos := "law.go:35", after := #[{ on := 3, ground := Ground.data }], guard := none }) (v := ?_) (by kernel_rfl) (by kernel_rfl) (by kernel_rfl) (by kernel_rfl) (by kernel_rfl) (fun _ _ _ h => h) (Or.inl ⟨by kernel_rfl, ?_⟩) (by assumption) ?_
      rotate_left
      · intro W hSw
        try dsimp only at hSw
        obtain ⟨q0, q1, q2, q3, q4, q5⟩ := hSw
        go_simp
        first | done | with_reducible rfl
      try simp only [Act.put, List.setIfInBounds_toArray, List.set_cons_zero, List.set_cons_succ]
      refine take_at (i := 5) (d := 22) (oi := { dst := some 22, op := Op.move (Operand.tmp 1), type := 43, pos := "law.go:35", after := #[], guard := none }) (v := ?_) (by kernel_rfl) (by kernel_rfl) (by kernel_rfl) (by kernel_rfl) (by kernel_rfl) (fun _ _ _ h => h) (Or.inl ⟨by kernel_rfl, ?_⟩) (by assumption) ?_
      rotate_left
      · intro W hSw
        try dsimp only at hSw
        go_simp
        first | done | with_reducible rfl
      try simp only [Act.put, List.setIfInBounds_toArray, List.set_cons_zero, List.set_cons_succ]
      refine take_at (i := 6) (d := 23) (oi := { dst := some 23, op := Op.move (Operand.tmp 5), type := 3, pos := "law.go:35", after := #[], guard := none }) (v := ?_) (by kernel_rfl) (by kernel_rfl) (by kernel_rfl) (by kernel_rfl) (by kernel_rfl) (fun _ _ _ h => h) (Or.inl ⟨by kernel_rfl, ?_⟩) (by assumption) ?_
      rotate_left
      · intro W hSw
        try dsimp only at hSw
        go_simp
        first | done | with_reducible rfl
      try simp only [Act.put, List.setIfInBounds_toArray, List.set_cons_zero, List.set_cons_succ]
      refine take_at (i := 7) (d := 24) (oi := { dst := some 24, op := Op.indexAddr 43 (Operand.tmp 22) (Operand.tmp 23), type := 0, pos := "law.go:35", after := #[{ on := 5, ground := Ground.data }, { on := 6, ground := Ground.data }], guard := none }) (v := ?_) (by kernel_rfl) (by kernel_rfl) (by kernel_rfl) (by kernel_rfl) (by kernel_rfl) (fun _ _ _ h => h) (Or.inl ⟨by kernel_rfl, ?_⟩) (by assumption) ?_
      rotate_left
      · intro W hSw
        try dsimp only at hSw
        go_simp
        first | done | with_reducible rfl
      try simp only [Act.put, List.setIfInBounds_toArray, List.set_cons_zero, List.set_cons_succ]
      refine take_at (i := 8) (d := 25) (oi := { dst := some 25, op := Op.fieldAddr 50 (Operand.tmp 24) 0, type := 0, pos := "law.go:35", after := #[{ on := 7, ground := Ground.data }], guard := none }) (v := ?_) (by kernel_rfl) (by kernel_rfl) (by kernel_rfl) (by kernel_rfl) (by kernel_rfl) (fun _ _ _ h => h) (Or.inl ⟨by kernel_rfl, ?_⟩) (by assumption) ?_
      rotate_left
      · intro W hSw
        try dsimp only at hSw
        go_simp
        first | done | with_reducible rfl
      try simp only [Act.put, List.setIfInBounds_toArray, List.set_cons_zero, List.set_cons_succ]
      refine take_at (i := 9) (d := 26) (oi := { dst := some 26, op := Op.load 3 (Operand.tmp 25), type := 3, pos := "law.go:35", after := #[{ on := 8, ground := Ground.data }], guard := none }) (v := ?_) (by kernel_rfl) (by kernel_rfl) (by kernel_rfl) (by kernel_rfl) (by kernel_rfl) (fun _ _ _ h => h) (Or.inl ⟨by kernel_rfl, ?_⟩) (by assumption) ?_
      rotate_left
      · intro W hSw
        try dsimp only at hSw
        obtain ⟨q0, q1, q2, q3, q4, q5⟩ := hSw
        go_simp
        first | done | with_reducible rfl
      try simp only [Act.put, List.setIfInBounds_toArray, List.set_cons_zero, List.set_cons_succ]
      refine take_at (i := 10) (d := 27) (oi := { dst := some 27, op := Op.binOp BinOp.neq 3 (Operand.tmp 21) (Operand.tmp 26) 3, type := 4, pos := "law.go:35", after := #[{ on := 4, ground := Ground.data }, { on := 9, ground := Ground.data }], guard := none }) (v := ?_) (by kernel_rfl) (by kernel_rfl) (by kernel_rfl) (by kernel_rfl) (by kernel_rfl) (fun _ _ _ h => h) (Or.inl ⟨by kernel_rfl, ?_⟩) (by assumption) ?_
      rotate_left
      · intro W hSw
        try dsimp only at hSw
        go_simp
        first | done | with_reducible rfl
      try simp only [Act.put, List.setIfInBounds_toArray, List.set_cons_zero, List.set_cons_succ]
      refine take_at (i := 11) (d := 28) (oi := { dst := some 28, op := Op.move (Operand.tmp 27), type := 4, pos := "law.go:35", after := #[{ on := 10, ground := Ground.data }], guard := none }) (v := ?_) (by kernel_rfl) (by kernel_rfl) (by kernel_rfl) (by kernel_rfl) (by kernel_rfl) (fun _ _ _ h => h) (Or.inl ⟨by kernel_rfl, ?_⟩) (by assumption) ?_
      rotate_left
      · intro W hSw
        try dsimp only at hSw
        go_simp
        first | done | with_reducible rfl
      try simp only [Act.put, List.setIfInBounds_toArray, List.set_cons_zero, List.set_cons_succ]
      refine take_at (i := 12) (d := 29) (oi := { dst := some 29, op := Op.move (Operand.tmp 0), type := 40, pos := "law.go:35", after := #[{ on := 11, ground := Ground.guard }], guard := some (11, false) }) (v := ?_) (by kernel_rfl) (by kernel_rfl) (by kernel_rfl) (by kernel_rfl) (by kernel_rfl) (fun _ _ _ h => h) (Or.inl ⟨by kernel_rfl, ?_⟩) (by assumption) ?_
      rotate_left
      · intro W hSw
        try dsimp only at hSw
        go_simp
        first | done | with_reducible rfl
      try simp only [Act.put, List.setIfInBounds_toArray, List.set_cons_zero, List.set_cons_succ]
      refine take_at (i := 13) (d := 30) (oi := { dst := some 30, op := Op.move (Operand.tmp 5), type := 3, pos := "law.go:35", after := #[{ on := 11, ground := Ground.guard }], guard := some (11, false) }) (v := ?_) (by kernel_rfl) (by kernel_rfl) (by kernel_rfl) (by kernel_rfl) (by kernel_rfl) (fun _ _ _ h => h) (Or.inl ⟨by kernel_rfl, ?_⟩) (by assumption) ?_
      rotate_left
      · intro W hSw
        try dsimp only at hSw
        go_simp
        first | done | with_reducible rfl
      try simp only [Act.put, List.setIfInBounds_toArray, List.set_cons_zero, List.set_cons_succ]
      refine take_at (i := 14) (d := 31) (oi := { dst := some 31, op := Op.indexAddr 40 (Operand.tmp 29) (Operand.tmp 30), type := 0, pos := "law.go:35", after := #[{ on := 12, ground := Ground.data }, { on := 13, ground := Ground.data }, { on := 11, ground := Ground.guard }], guard := some (11, false) }) (v := ?_) (by kernel_rfl) (by kernel_rfl) (by kernel_rfl) (by kernel_rfl) (by kernel_rfl) (fun _ _ _ h => h) (Or.inl ⟨by kernel_rfl, ?_⟩) (by assumption) ?_
      rotate_left
      · intro W hSw
        try dsimp only at hSw
        go_simp
        first | done | with_reducible rfl
      try simp only [Act.put, List.setIfInBounds_toArray, List.set_cons_zero, List.set_cons_succ]
      refine take_at (i := 15) (d := 32) (oi := { dst := some 32, op := Op.fieldAddr 49 (Operand.tmp 31) 1, type := 0, pos := "law.go:35", after := #[{ on := 14, ground := Ground.data }, { on := 11, ground := Ground.guard }], guard := some (11, false) }) (v := ?_) (by kernel_rfl) (by kernel_rfl) (by kernel_rfl) (by kernel_rfl) (by kernel_rfl) (fun _ _ _ h => h) (Or.inl ⟨by kernel_rfl, ?_⟩) (by assumption) ?_
      rotate_left
      · intro W hSw
        try dsimp only at hSw
        go_simp
        first | done | with_reducible rfl
      try simp only [Act.put, List.setIfInBounds_toArray, List.set_cons_zero, List.set_cons_succ]
      refine take_at (i := 16) (d := 33) (oi := { dst := some 33, op := Op.load 3 (Operand.tmp 32), type := 3, pos := "law.go:35", after := #[{ on := 15, ground := Ground.data }, { on := 11, ground := Ground.guard }], guard := some (11, false) }) (v := ?_) (by kernel_rfl) (by kernel_rfl) (by kernel_rfl) (by kernel_rfl) (by kernel_rfl) (fun _ _ _ h => h) (Or.inl ⟨by kernel_rfl, ?_⟩) (by assumption) ?_
      rotate_left
      · intro W hSw
        try dsimp only at hSw
        obtain ⟨q0, q1, q2, q3, q4, q5⟩ := hSw
        go_simp
        first | done | with_reducible rfl
      try simp only [Act.put, List.setIfInBounds_toArray, List.set_cons_zero, List.set_cons_succ]
      refine take_at (i := 17) (d := 34) (oi := { dst := some 34, op := Op.move (Operand.tmp 1), type := 43, pos := "law.go:35", after := #[{ on := 11, ground := Ground.guard }], guard := some (11, false) }) (v := ?_) (by kernel_rfl) (by kernel_rfl) (by kernel_rfl) (by kernel_rfl) (by kernel_rfl) (fun _ _ _ h => h) (Or.inl ⟨by kernel_rfl, ?_⟩) (by assumption) ?_
      rotate_left
      · intro W hSw
        try dsimp only at hSw
        go_simp
        first | done | with_reducible rfl
      try simp only [Act.put, List.setIfInBounds_toArray, List.set_cons_zero, List.set_cons_succ]
      refine take_at (i := 18) (d := 35) (oi := { dst := some 35, op := Op.move (Operand.tmp 5), type := 3, pos := "law.go:35", after := #[{ on := 11, ground := Ground.guard }], guard := some (11, false) }) (v := ?_) (by kernel_rfl) (by kernel_rfl) (by kernel_rfl) (by kernel_rfl) (by kernel_rfl) (fun _ _ _ h => h) (Or.inl ⟨by kernel_rfl, ?_⟩) (by assumption) ?_
      rotate_left
      · intro W hSw
        try dsimp only at hSw
        go_simp
        first | done | with_reducible rfl
      try simp only [Act.put, List.setIfInBounds_toArray, List.set_cons_zero, List.set_cons_succ]
      refine take_at (i := 19) (d := 36) (oi := { dst := some 36, op := Op.indexAddr 43 (Operand.tmp 34) (Operand.tmp 35), type := 0, pos := "law.go:35", after := #[{ on := 17, ground := Ground.data }, { on := 18, ground := Ground.data }, { on := 11, ground := Ground.guard }], guard := some (11, false) }) (v := ?_) (by kernel_rfl) (by kernel_rfl) (by kernel_rfl) (by kernel_rfl) (by kernel_rfl) (fun _ _ _ h => h) (Or.inl ⟨by kernel_rfl, ?_⟩) (by assumption) ?_
      rotate_left
      · intro W hSw
        try dsimp only at hSw
        go_simp
        first | done | with_reducible rfl
      try simp only [Act.put, List.setIfInBounds_toArray, List.set_cons_zero, List.set_cons_succ]
      refine take_at (i := 20) (d := 37) (oi := { dst := some 37, op := Op.fieldAddr 50 (Operand.tmp 36) 1, type := 0, pos := "law.go:35", after := #[{ on := 19, ground := Ground.data }, { on := 11, ground := Ground.guard }], guard := some (11, false) }) (v := ?_) (by kernel_rfl) (by kernel_rfl) (by kernel_rfl) (by kernel_rfl) (by kernel_rfl) (fun _ _ _ h => h) (Or.inl ⟨by kernel_rfl, ?_⟩) (by assumption) ?_
      rotate_left
      · intro W hSw
        try dsimp only at hSw
        go_simp
        first | done | with_reducible rfl
      try simp only [Act.put, List.setIfInBounds_toArray, List.set_cons_zero, List.set_cons_succ]
      refine take_at (i := 21) (d := 38) (oi := { dst := some 38, op := Op.load 3 (Operand.tmp 37), type := 3, pos := "law.go:35", after := #[{ on := 20, ground := Ground.data }, { on := 11, ground := Ground.guard }], guard := some (11, false) }) (v := ?_) (by kernel_rfl) (by kernel_rfl) (by kernel_rfl) (by kernel_rfl) (by kernel_rfl) (fun _ _ _ h => h) (Or.inl ⟨by kernel_rfl, ?_⟩) (by assumption) ?_
      rotate_left
      · intro W hSw
        try dsimp only at hSw
        obtain ⟨q0, q1, q2, q3, q4, q5⟩ := hSw
        go_simp
        first | done | with_reducible rfl
      try simp only [Act.put, List.setIfInBounds_toArray, List.set_cons_zero, List.set_cons_succ]
      refine take_at (i := 22) (d := 39) (oi := { dst := some 39, op := Op.binOp BinOp.neq 3 (Operand.tmp 33) (Operand.tmp 38) 3, type := 4, pos := "law.go:35", after := #[{ on := 16, ground := Ground.data }, { on := 21, ground := Ground.data }, { on := 11, ground := Ground.guard }], guard := some (11, false) }) (v := ?_) (by kernel_rfl) (by kernel_rfl) (by kernel_rfl) (by kernel_rfl) (by kernel_rfl) (fun _ _ _ h => h) (Or.inl ⟨by kernel_rfl, ?_⟩) (by assumption) ?_
      rotate_left
      · intro W hSw
        try dsimp only at hSw
        go_simp
        first | done | with_reducible rfl
      try simp only [Act.put, List.setIfInBounds_toArray, List.set_cons_zero, List.set_cons_succ]
      refine take_at (i := 23) (d := 40) (oi := { dst := some 40, op := Op.pick (Operand.tmp 28) (Operand.const (Value.bool true)) (Operand.tmp 39), type := 4, pos := "law.go:35", after := #[{ on := 11, ground := Ground.data }, { on := 22, ground := Ground.data }], guard := none }) (v := ?_) (by kernel_rfl) (by kernel_rfl) (by kernel_rfl) (by kernel_rfl) (by kernel_rfl) (fun _ _ _ h => h) (Or.inl ⟨by kernel_rfl, ?_⟩) (by assumption) ?_
      rotate_left
      · intro W hSw
        try dsimp only at hSw
        go_simp
        first | done | with_reducible rfl
      try simp only [Act.put, List.setIfInBounds_toArray, List.set_cons_zero, List.set_cons_succ]
      refine take_at (i := 24) (d := 41) (oi := { dst := some 41, op := Op.move (Operand.tmp 40), type := 4, pos := "law.go:35", after := #[{ on := 23, ground := Ground.data }, { on := 11, ground := Ground.chain }], guard := none }) (v := ?_) (by kernel_rfl) (by kernel_rfl) (by kernel_rfl) (by kernel_rfl) (by kernel_rfl) (fun _ _ _ h => h) (Or.inl ⟨by kernel_rfl, ?_⟩) (by assumption) ?_
      rotate_left
      · intro W hSw
        try dsimp only at hSw
        go_simp
        first | done | with_reducible rfl
      try simp only [Act.put, List.setIfInBounds_toArray, List.set_cons_zero, List.set_cons_succ]
      refine take_at (i := 25) (d := 42) (oi := { dst := some 42, op := Op.move (Operand.tmp 0), type := 40, pos := "law.go:35", after := #[{ on := 24, ground := Ground.guard }], guard := some (24, false) }) (v := ?_) (by kernel_rfl) (by kernel_rfl) (by kernel_rfl) (by kernel_rfl) (by kernel_rfl) (fun _ _ _ h => h) (Or.inl ⟨by kernel_rfl, ?_⟩) (by assumption) ?_
      rotate_left
      · intro W hSw
        try dsimp only at hSw
        go_simp
        first | done | with_reducible rfl
      try simp only [Act.put, List.setIfInBounds_toArray, List.set_cons_zero, List.set_cons_succ]
      refine take_at (i := 26) (d := 43) (oi := { dst := some 43, op := Op.move (Operand.tmp 5), type := 3, pos := "law.go:35", after := #[{ on := 24, ground := Ground.guard }], guard := some (24, false) }) (v := ?_) (by kernel_rfl) (by kernel_rfl) (by kernel_rfl) (by kernel_rfl) (by kernel_rfl) (fun _ _ _ h => h) (Or.inl ⟨by kernel_rfl, ?_⟩) (by assumption) ?_
      rotate_left
      · intro W hSw
        try dsimp only at hSw
        go_simp
        first | done | with_reducible rfl
      try simp only [Act.put, List.setIfInBounds_toArray, List.set_cons_zero, List.set_cons_succ]
      refine take_at (i := 27) (d := 44) (oi := { dst := some 44, op := Op.indexAddr 40 (Operand.tmp 42) (Operand.tmp 43), type := 0, pos := "law.go:35", after := #[{ on := 25, ground := Ground.data }, { on := 26, ground := Ground.data }, { on := 24, ground := Ground.guard }], guard := some (24, false) }) (v := ?_) (by kernel_rfl) (by kernel_rfl) (by kernel_rfl) (by kernel_rfl) (by kernel_rfl) (fun _ _ _ h => h) (Or.inl ⟨by kernel_rfl, ?_⟩) (by assumption) ?_
      rotate_left
      · intro W hSw
        try dsimp only at hSw
        go_simp
        first | done | with_reducible rfl
      try simp only [Act.put, List.setIfInBounds_toArray, List.set_cons_zero, List.set_cons_succ]
      refine take_at (i := 28) (d := 45) (oi := { dst := some 45, op := Op.fieldAddr 49 (Operand.tmp 44) 2, type := 0, pos := "law.go:35", after := #[{ on := 27, ground := Ground.data }, { on := 24, ground := Ground.guard }], guard := some (24, false) }) (v := ?_) (by kernel_rfl) (by kernel_rfl) (by kernel_rfl) (by kernel_rfl) (by kernel_rfl) (fun _ _ _ h => h) (Or.inl ⟨by kernel_rfl, ?_⟩) (by assumption) ?_
      rotate_left
      · intro W hSw
        try dsimp only at hSw
        go_simp
        first | done | with_reducible rfl
      try simp only [Act.put, List.setIfInBounds_toArray, List.set_cons_zero, List.set_cons_succ]
      refine take_at (i := 29) (d := 46) (oi := { dst := some 46, op := Op.load 25 (Operand.tmp 45), type := 25, pos := "law.go:35", after := #[{ on := 28, ground := Ground.data }, { on := 24, ground := Ground.guard }], guard := some (24, false) }) (v := ?_) (by kernel_rfl) (by kernel_rfl) (by kernel_rfl) (by kernel_rfl) (by kernel_rfl) (fun _ _ _ h => h) (Or.inl ⟨by kernel_rfl, ?_⟩) (by assumption) ?_
      rotate_left
      · intro W hSw
        try dsimp only at hSw
        obtain ⟨q0, q1, q2, q3, q4, q5⟩ := hSw
        go_simp
        first | done | with_reducible rfl
      try simp only [Act.put, List.setIfInBounds_toArray, List.set_cons_zero, List.set_cons_succ]
      refine take_at (i := 30) (d := 47) (oi := { dst := some 47, op := Op.move (Operand.tmp 1), type := 43, pos := "law.go:35", after := #[{ on := 24, ground := Ground.guard }], guard := some (24, false) }) (v := ?_) (by kernel_rfl) (by kernel_rfl) (by kernel_rfl) (by kernel_rfl) (by kernel_rfl) (fun _ _ _ h => h) (Or.inl ⟨by kernel_rfl, ?_⟩) (by assumption) ?_
      rotate_left
      · intro W hSw
        try dsimp only at hSw
        go_simp
        first | done | with_reducible rfl
      try simp only [Act.put, List.setIfInBounds_toArray, List.set_cons_zero, List.set_cons_succ]
      refine take_at (i := 31) (d := 48) (oi := { dst := some 48, op := Op.move (Operand.tmp 5), type := 3, pos := "law.go:35", after := #[{ on := 24, ground := Ground.guard }], guard := some (24, false) }) (v := ?_) (by kernel_rfl) (by kernel_rfl) (by kernel_rfl) (by kernel_rfl) (by kernel_rfl) (fun _ _ _ h => h) (Or.inl ⟨by kernel_rfl, ?_⟩) (by assumption) ?_
      rotate_left
      · intro W hSw
        try dsimp only at hSw
        go_simp
        first | done | with_reducible rfl
      try simp only [Act.put, List.setIfInBounds_toArray, List.set_cons_zero, List.set_cons_succ]
      refine take_at (i := 32) (d := 49) (oi := { dst := some 49, op := Op.indexAddr 43 (Operand.tmp 47) (Operand.tmp 48), type := 0, pos := "law.go:35", after := #[{ on := 30, ground := Ground.data }, { on := 31, ground := Ground.data }, { on := 24, ground := Ground.guard }], guard := some (24, false) }) (v := ?_) (by kernel_rfl) (by kernel_rfl) (by kernel_rfl) (by kernel_rfl) (by kernel_rfl) (fun _ _ _ h => h) (Or.inl ⟨by kernel_rfl, ?_⟩) (by assumption) ?_
      rotate_left
      · intro W hSw
        try dsimp only at hSw
        go_simp
        first | done | with_reducible rfl
      try simp only [Act.put, List.setIfInBounds_toArray, List.set_cons_zero, List.set_cons_succ]
      refine take_at (i := 33) (d := 50) (oi := { dst := some 50, op := Op.fieldAddr 50 (Operand.tmp 49) 2, type := 0, pos := "law.go:35", after := #[{ on := 32, ground := Ground.data }, { on := 24, ground := Ground.guard }], guard := some (24, false) }) (v := ?_) (by kernel_rfl) (by kernel_rfl) (by kernel_rfl) (by kernel_rfl) (by kernel_rfl) (fun _ _ _ h => h) (Or.inl ⟨by kernel_rfl, ?_⟩) (by assumption) ?_
      rotate_left
      · intro W hSw
        try dsimp only at hSw
        go_simp
        first | done | with_reducible rfl
      try simp only [Act.put, List.setIfInBounds_toArray, List.set_cons_zero, List.set_cons_succ]
      refine take_at (i := 34) (d := 51) (oi := { dst := some 51, op := Op.load 25 (Operand.tmp 50), type := 25, pos := "law.go:35", after := #[{ on := 33, ground := Ground.data }, { on := 24, ground := Ground.guard }], guard := some (24, false) }) (v := ?_) (by kernel_rfl) (by kernel_rfl) (by kernel_rfl) (by kernel_rfl) (by kernel_rfl) (fun _ _ _ h => h) (Or.inl ⟨by kernel_rfl, ?_⟩) (by assumption) ?_
      rotate_left
      · intro W hSw
        try dsimp only at hSw
        obtain ⟨q0, q1, q2, q3, q4, q5⟩ := hSw
        go_simp
        first | done | with_reducible rfl
      try simp only [Act.put, List.setIfInBounds_toArray, List.set_cons_zero, List.set_cons_succ]
      refine wpAnyH_ready (rs := [35]) (by kernel_rfl) (by simp) (AllReadyH.cons (o := { dst := some 52, op := Op.call { callee := Callee.value (Operand.func 14), args := #[Operand.tmp 46, Operand.tmp 51], argTypes := #[25, 25] }, type := 4, pos := "law.go:35", after := #[{ on := 29, ground := Ground.data }, { on := 34, ground := Ground.data }, { on := 24, ground := Ground.chain }, { on := 24, ground := Ground.guard }], guard := some (24, false) }) (by kernel_rfl) (fun K hK => ?_) AllReadyH.nil)
      go_simp
      refine (HT.out _ ((Below.refl _ _).drew)).mono ?_
      rintro e w2 ⟨rfl, hb2⟩
      have HB2 : Hid (Below wr.heap.size wr w2) := (Below.refl _ _).drew.trans hb2
      clear hb2
      try go_wp2_with fail
      refine hK.out _ _ ?_ (fun hHeld => ?_)
      · try dsimp only
        exact HSS.out _ HB2.out
      clear hK K
      try simp only [Act.put, List.setIfInBounds_toArray, List.set_cons_zero, List.set_cons_succ]
      refine take_at (i := 36) (d := 53) (oi := { dst := some 53, op := Op.unOp UnOp.not 4 (Operand.tmp 52), type := 4, pos := "law.go:35", after := #[{ on := 35, ground := Ground.data }, { on := 24, ground := Ground.guard }], guard := some (24, false) }) (v := ?_) (by kernel_rfl) (by kernel_rfl) (by kernel_rfl) (by kernel_rfl) (by kernel_rfl) (fun _ _ _ h => h) (Or.inl ⟨by kernel_rfl, ?_⟩) (by assumption) ?_
      rotate_left
      · intro W hSw
        try dsimp only at hSw
        go_simp
        first | done | with_reducible rfl
      try simp only [Act.put, List.setIfInBounds_toArray, List.set_cons_zero, List.set_cons_succ]
      refine take_at (i := 37) (d := 54) (oi := { dst := some 54, op := Op.pick (Operand.tmp 41) (Operand.const (Value.bool true)) (Operand.tmp 53), type := 4, pos := "law.go:35", after := #[{ on := 24, ground := Ground.data }, { on := 36, ground := Ground.data }], guard := none }) (v := ?_) (by kernel_rfl) (by kernel_rfl) (by kernel_rfl) (by kernel_rfl) (by kernel_rfl) (fun _ _ _ h => h) (Or.inl ⟨by kernel_rfl, ?_⟩) (by assumption) ?_
      rotate_left
      · intro W hSw
        try dsimp only at hSw
        go_simp
        first | done | with_reducible rfl
      try simp only [Act.put, List.setIfInBounds_toArray, List.set_cons_zero, List.set_cons_succ]
      refine wpAnyH_done (by kernel_rfl) ?_ _
      go_wp2_with fail
      go_roundw
      case rel => exact ⟨k + 1, by omega, by go_num, HB.out.trans (HB2.out.mono HB.out.size)⟩
      case measure => simp [intOf]; omega
      -- END STEPS
    · obtain rfl : k = n := by omega
      go_wp2_with fail
      go_ret
      exact ⟨rfl, HB.out⟩
end Go.Proofs.Ytchoklhadnoidaa.Ln
