/- Texts put together: Ro5. -/
import Derived.Test.YtcmlofgkcalhnaaQo43
/- The document's Same; marref.Texts of any two lists. -/
namespace Go.Proofs.Ytcmlofgkcalhnaa.Ob
open Go.RowKit Go.Proofs.Ytcmlofgkcalhnaa.Sh
open Go.Proofs.Ytcmlofgkcalhnaa.Tx (OwnV SlV sv bl nameB reads_at texts_at toList_ne')

set_option maxRecDepth 100000 in
set_option maxHeartbeats 1600000 in
theorem texts_iff (v v' : Value) (xs ys : List ByteArray) (w : World) (h : SlV w v (xs.map sv)) (h' : SlV w v' (ys.map sv)) : Calls Try.prog 10 #[v, v'] w fun e w' => ∃ t, e = .returned (.bool t) ∧ (t = true ↔ xs = ys) ∧ Below w.heap.size w w' := by
  obtain ⟨A, c, rfl, hlc, hcm, hR⟩ := h.len
  obtain ⟨A', c', rfl, hlc', hcm', hR'⟩ := h'.len
  rw [List.length_map] at hlc hR hlc' hR' ⊢
  rw [List.length_map]
  have HR := Lib.hid hR
  have HR' := Lib.hid hR'
  unfold maxLen at hcm hcm'
  obtain ⟨l, hl⟩ : ∃ l, xs.length = l := ⟨_, rfl⟩
  obtain ⟨l', hl'⟩ : ∃ l', ys.length = l' := ⟨_, rfl⟩
  rw [hl] at hlc ⊢
  rw [hl'] at hlc' ⊢
  have HL := Lib.hid hl
  have HL' := Lib.hid hl'
  clear h h' hR hR' hl hl'
  by_cases hll : l = l'
  · subst hll
    go_enter Try.func10, Try.ntmps10
    go_wp2
    go_loopw [5] (fun i wr => ∃ k : Nat, k ≤ l ∧ i = .int .i64 k ∧ xs.take k = ys.take k ∧ Below w.heap.size w wr) (fun i _ => l - (intOf i).toNat)
    case atStart => exact ⟨0, Nat.zero_le _, rfl, rfl, Below.refl _ _⟩
    case round =>
      obtain ⟨k, hk, rfl, htk, hb⟩ := hrel
      have HB := Lib.hid hb
      have HTK := Lib.hid htk
      clear hb htk
      by_cases hlt : k < l
      · have hkl : k < xs.length := by rw [HL.out]; exact hlt
        have hkl' : k < ys.length := by rw [HL'.out]; exact hlt
        obtain ⟨ad, rfl, hcell⟩ := Tx.texts_at ((HR.out.below HB.out).more HB.out.size) k hkl
        obtain ⟨ad', rfl, hcell'⟩ := Tx.texts_at ((HR'.out.below HB.out).more HB.out.size) k hkl'
        have HX := Lib.hid (show xs.take (k + 1) = xs.take k ++ [xs[k]] from List.take_succ_eq_append_getElem hkl)
        have HY := Lib.hid (show ys.take (k + 1) = ys.take k ++ [ys[k]] from List.take_succ_eq_append_getElem hkl')
        have HE : Hid (xs[k] ≠ ys[k] → xs ≠ ys) := fun h e => h (by subst e; rfl)
        generalize xs[k] = x at *
        generalize ys[k] = y at *
        clear hkl hkl'
        have z0 : (0 : Int) ≤ (k : Int) := by omega
        have z1 : (k : Int) < (l : Int) := by omega
        by_cases he : x = y
        · subst he
          go_wp2_with fail
          go_quiet (fail)
          go_wp2
          go_roundw
          case rel => exact ⟨k + 1, by omega, by go_num, by rw [HX.out, HY.out, HTK.out], below_drewN HB.out _⟩
          case measure => simp [intOf]; omega
        · have q1 := toList_ne' he
          go_wp2_with fail
          go_quiet (fail)
          go_wp2
          go_ret
          exact ⟨_, rfl, by simpa using HE.out he, below_drewN HB.out _⟩
      · obtain rfl : k = l := by omega
        have HXY : Hid (xs = ys) := by
          have h1 := HTK.out
          rw [List.take_of_length_le (by rw [HL.out]; exact Nat.le_refl _), List.take_of_length_le (by rw [HL'.out]; exact Nat.le_refl _)] at h1
          exact h1
        go_wp2
        go_ret
        exact ⟨_, rfl, by simpa using HXY.out, HB.out⟩
  · have e1 : ((l : Int) == (l' : Int)) = false := by rw [beq_eq_false_iff_ne]; omega
    go_enter Try.func10, Try.ntmps10
    go_wp2_with fail
    go_ret
    exact ⟨_, rfl, ⟨fun h => by simp at h, fun h => (hll (by rw [← HL.out, ← HL'.out, h])).elim⟩, Below.refl _ _⟩
theorem str_map_inj {xs ys : List (List UInt8)} (h : xs.map str = ys.map str) : xs = ys := by
  induction xs generalizing ys with
  | nil => cases ys with
    | nil => rfl
    | cons y ys => cases h
  | cons x xs ih =>
    cases ys with
    | nil => cases h
    | cons y ys =>
      injection h with h1 h2
      rw [str_inj h1, ih h2]
theorem rtexts_any (v v' : Value) (xs ys : List (List UInt8)) (w : World) (h : SlV w v ((xs.map str).map sv)) (h' : SlV w v' ((ys.map str).map sv)) : Calls Try.prog 10 #[v, v'] w (BoolPost w (xs == ys)) :=
  (texts_iff v v' _ _ w h h').mono fun e w' ⟨t, he, ht, hb⟩ => by
    refine ⟨?_, hb⟩
    rw [he]
    congr 2
    rw [Bool.eq_iff_iff, ht, beq_iff_eq]
    exact ⟨fun h => str_map_inj h, fun h => by rw [h]⟩
set_option maxRecDepth 100000 in
set_option maxHeartbeats 6400000 in
theorem rsame_any (v v' : Value) (o p : ObM) (w : World) (h : ObV w v o) (h' : ObV w v' p) : Calls Try.prog 23 #[v, v'] w (BoolPost w (sameB o p)) := by
  obtain ⟨d, it, ps, rfl, hd, hi, hp⟩ := h
  obtain ⟨d', it', ps', rfl, hd', hi', hp'⟩ := h'
  obtain ⟨k0, D, I, t0, P, s0, a0, m0⟩ := o
  obtain ⟨k1, D', I', t1, P', s1, a1, m1⟩ := p
  replace hd : Sl w d D := hd
  replace hi : SlI w it I := hi
  replace hp : SlV w ps ((P.map str).map sv) := hp
  replace hd' : Sl w d' D' := hd'
  replace hi' : SlI w it' I' := hi'
  replace hp' : SlV w ps' ((P'.map str).map sv) := hp'
  have HD := Lib.hid hd
  have HP := Lib.hid hp
  have HD' := Lib.hid hd'
  have HP' := Lib.hid hp'
  obtain ⟨A, c, rfl, hlc, hcm, _⟩ := hd
  obtain ⟨A2, c2, rfl, hlc2, hcm2, _, hR⟩ := hi
  obtain ⟨A3, c3, rfl, hlc3, hcm3, _⟩ := hp
  obtain ⟨A', c', rfl, hlc', hcm', _⟩ := hd'
  obtain ⟨A2', c2', rfl, hlc2', hcm2', _, hR'⟩ := hi'
  obtain ⟨A3', c3', rfl, hlc3', hcm3', _⟩ := hp'
  unfold maxLen at hcm hcm2 hcm3 hcm' hcm2' hcm3'
  simp only [List.length_map] at hlc3 hlc3' HP HP' ⊢
  obtain ⟨l, hl⟩ : ∃ l, D.length = l := ⟨_, rfl⟩
  obtain ⟨l2, hl2⟩ : ∃ l, I.length = l := ⟨_, rfl⟩
  obtain ⟨l3, hl3⟩ : ∃ l, P.length = l := ⟨_, rfl⟩
  obtain ⟨l', hl'⟩ : ∃ l, D'.length = l := ⟨_, rfl⟩
  obtain ⟨l2', hl2'⟩ : ∃ l, I'.length = l := ⟨_, rfl⟩
  obtain ⟨l3', hl3'⟩ : ∃ l, P'.length = l := ⟨_, rfl⟩
  rw [hl] at hlc HD ⊢
  rw [hl2] at hlc2 hR ⊢
  rw [hl3] at hlc3 HP ⊢
  rw [hl'] at hlc' HD' ⊢
  rw [hl2'] at hlc2' hR' ⊢
  rw [hl3'] at hlc3' HP' ⊢
  have HR := Lib.hid hR
  have HR' := Lib.hid hR'
  have HL2 := Lib.hid hl2
  have HL2' := Lib.hid hl2'
  clear hl hl2 hl3 hl' hl2' hl3' hR hR'
  obtain ⟨b0, e0⟩ : ∃ b, (k0 == k1) = b := ⟨_, rfl⟩
  have e00 : (k0 == k1) = b0 := e0
  obtain ⟨b1, e1⟩ : ∃ b, (D == D') = b := ⟨_, rfl⟩
  obtain ⟨b2, e2⟩ : ∃ b, (I == I') = b := ⟨_, rfl⟩
  obtain ⟨b3, e3⟩ : ∃ b, ((str t0).toList == (str t1).toList) = b := ⟨_, rfl⟩
  obtain ⟨b4, e4⟩ : ∃ b, (P == P') = b := ⟨_, rfl⟩
  obtain ⟨b5, e5⟩ : ∃ b, (s0 == s1) = b := ⟨_, rfl⟩
  have g5 : (s0 != s1) = !b5 := by rw [← e5]; rfl
  obtain ⟨b6, e6⟩ : ∃ b, (a0 == a1) = b := ⟨_, rfl⟩
  have g6 : (a0 != a1) = !b6 := by rw [← e6]; rfl
  obtain ⟨b7, e7⟩ : ∃ b, ((str m0).toList == (str m1).toList) = b := ⟨_, rfl⟩
  have HS : Hid (sameB ⟨k0, D, I, t0, P, s0, a0, m0⟩ ⟨k1, D', I', t1, P', s1, a1, m1⟩ = (b0 && b1 && b2 && b3 && b4 && b5 && b6 && b7)) := by
    unfold Hid sameB
    rw [← e0, ← e1, ← e2, ← e3, ← e4, ← e5, ← e6, ← e7, str_toList, str_toList, str_toList, str_toList]
  have E1 := Lib.hid e1
  have E2 := Lib.hid e2
  have E4 := Lib.hid e4
  clear e0 e1 e2 e4 e5 e6
  rw [HS.out]
  clear HS
  have HWW : Hid (Below w.heap.size w ((w.alloc (.cells #[.int .i64 k0, .slice A l c, .slice A2 l2 c2, .string (str t0), .slice A3 l3 c3, .int .i64 s0, .int .i64 a0, .string (str m0)] 40)).alloc (.cells #[.int .i64 k1, .slice A' l' c', .slice A2' l2' c2', .string (str t1), .slice A3' l3' c3', .int .i64 s1, .int .i64 a1, .string (str m1)] 40))) := ((Below.refl _ _).alloc (Nat.le_refl _) _).alloc (by simp) _
  have HB1 : Hid (Blk ((w.alloc (.cells #[.int .i64 k0, .slice A l c, .slice A2 l2 c2, .string (str t0), .slice A3 l3 c3, .int .i64 s0, .int .i64 a0, .string (str m0)] 40)).alloc (.cells #[.int .i64 k1, .slice A' l' c', .slice A2' l2' c2', .string (str t1), .slice A3' l3' c3', .int .i64 s1, .int .i64 a1, .string (str m1)] 40)) w.heap.size 40 #[.int .i64 k0, .slice A l c, .slice A2 l2 c2, .string (str t0), .slice A3 l3 c3, .int .i64 s0, .int .i64 a0, .string (str m0)]) := (Blk.new w _ _).alloc _
  have HB2 : Hid (Blk ((w.alloc (.cells #[.int .i64 k0, .slice A l c, .slice A2 l2 c2, .string (str t0), .slice A3 l3 c3, .int .i64 s0, .int .i64 a0, .string (str m0)] 40)).alloc (.cells #[.int .i64 k1, .slice A' l' c', .slice A2' l2' c2', .string (str t1), .slice A3' l3' c3', .int .i64 s1, .int .i64 a1, .string (str m1)] 40)) (w.heap.size + 1) 40 #[.int .i64 k1, .slice A' l' c', .slice A2' l2' c2', .string (str t1), .slice A3' l3' c3', .int .i64 s1, .int .i64 a1, .string (str m1)]) := by
    unfold Hid
    rw [show w.heap.size + 1 = (w.alloc (.cells #[.int .i64 k0, .slice A l c, .slice A2 l2 c2, .string (str t0), .slice A3 l3 c3, .int .i64 s0, .int .i64 a0, .string (str m0)] 40)).heap.size from by simp]
    exact Blk.new _ _ _
  cases b0 with
  | false =>
    have e0 : (k0 != k1) = true := by simpa using e00
    have e0' : ¬ (k0 = k1) := by simpa using e00
    clear e00
    go_enter Try.func23, Try.ntmps23
    go_wp2_with fail
    go_ret
    exact ⟨rfl, HWW.out⟩
  | true =>
    obtain rfl : k0 = k1 := by simpa using e00
    clear e00
    go_enter Try.func23, Try.ntmps23
    go_wp2_with fail
    obtain ⟨W, hW⟩ : ∃ W, W = ((w.alloc (.cells #[.int .i64 k0, .slice A l c, .slice A2 l2 c2, .string (str t0), .slice A3 l3 c3, .int .i64 s0, .int .i64 a0, .string (str m0)] 40)).alloc (.cells #[.int .i64 k0, .slice A' l' c', .slice A2' l2' c2', .string (str t1), .slice A3' l3' c3', .int .i64 s1, .int .i64 a1, .string (str m1)] 40)) := ⟨_, rfl⟩
    rw [← hW] at HWW HB1 HB2 ⊢
    clear hW
    refine (bytes_any _ _ D D' W (HD.out.below HWW.out) (HD'.out.below HWW.out) b1 E1.out).mono ?_
    rintro e W3 ⟨rfl, rfl⟩
    obtain ⟨-, -, x2, x3, x4, x5, x6, x7⟩ := box_cells HB1.out
    obtain ⟨-, -, y2, y3, y4, y5, y6, y7⟩ := box_cells HB2.out
    cases b1 with
    | false =>
      go_wp2_with fail
      go_ret
      exact ⟨rfl, HWW.out⟩
    | true =>
      by_cases hl : l2 = l2'
      · subst hl
        cases b3 with
        | false =>
          go_wp2_with fail
          go_ret
          exact ⟨by simp, HWW.out⟩
        | true =>
          go_wp2_with fail
          clear x2 x3 x4 x5 x6 x7 y2 y3 y4 y5 y6 y7
          refine (rtexts_any _ _ P P' W (HP.out.below HWW.out) (HP'.out.below HWW.out)).mono ?_
          rw [E4.out]
          rintro e W5 ⟨rfl, hb5⟩
          have C5 := Lib.hid (Below.after HWW.out hb5)
          have A5 := Lib.hid (HB1.out.below hb5 HB1.out.lt)
          have B5 := Lib.hid (HB2.out.below hb5 HB2.out.lt)
          clear hb5
          obtain ⟨-, -, x2, x3, x4, x5, x6, x7⟩ := box_cells A5.out
          obtain ⟨-, -, y2, y3, y4, y5, y6, y7⟩ := box_cells B5.out
          cases b4
          · go_wp2_with fail
            go_ret
            exact ⟨by simp, C5.out⟩
          cases b5
          · replace g5 : (s0 != s1) = true := g5
            go_wp2_with fail
            go_ret
            exact ⟨by simp, C5.out⟩
          replace g5 : (s0 != s1) = false := g5
          cases b6
          · replace g6 : (a0 != a1) = true := g6
            go_wp2_with fail
            go_ret
            exact ⟨by simp, C5.out⟩
          replace g6 : (a0 != a1) = false := g6
          cases b7
          · go_wp2_with fail
            go_ret
            exact ⟨by simp, C5.out⟩
          go_wp2_with fail
          clear x2 x3 x4 x5 x6 x7 y2 y3 y4 y5 y6 y7
          go_loopw [5] (fun i wr => ∃ k : Nat, k ≤ l2 ∧ i = .int .i64 k ∧ Below W5.heap.size W5 wr ∧ I.take k = I'.take k) (fun i _ => l2 - (intOf i).toNat)
          case atStart => exact ⟨0, Nat.zero_le _, rfl, Below.refl _ _, rfl⟩
          case round =>
            obtain ⟨k, hk, rfl, hb, htk⟩ := hrel
            have HB := Lib.hid hb
            have HTK := Lib.hid htk
            have k0' : (0 : Int) ≤ (k : Int) := by omega
            have x2 := (A5.out.below hb A5.out.lt).cell 2
            have y2 := (B5.out.below hb B5.out.lt).cell 2
            clear hb htk
            by_cases hlt : k < l2
            · have k1' : (k : Int) < (l2 : Int) := by omega
              have hkl : k < I.length := by rw [HL2.out]; exact hlt
              have hkl' : k < I'.length := by rw [HL2'.out]; exact hlt
              obtain ⟨x, hx⟩ : ∃ x, I[k] = x := ⟨_, rfl⟩
              obtain ⟨y, hy⟩ : ∃ y, I'[k] = y := ⟨_, rfl⟩
              obtain ⟨ad, rfl, c0, c1, c2⟩ := items_at (HR.out.below (Below.after C5.out HB.out)) HL2.out.symm k x (by rw [List.getElem?_eq_getElem hkl, hx])
              obtain ⟨ad', rfl, d0, d1, d2⟩ := items_at (HR'.out.below (Below.after C5.out HB.out)) HL2'.out.symm k y (by rw [List.getElem?_eq_getElem hkl', hy])
              have HE : Hid (x = y → I.take (k + 1) = I'.take (k + 1)) := fun h => by
                haveI : Inhabited ItM := ⟨dI⟩
                exact take_snoc hkl hkl' HTK.out (by rw [hx, hy, h])
              have HN : Hid (x ≠ y → (I == I') = false) := fun h => by
                rw [beq_eq_false_iff_ne]
                intro e
                subst e
                exact h (by rw [← hx, ← hy])
              obtain ⟨m, nm, id⟩ := x
              obtain ⟨m', nm', id'⟩ := y
              replace c0 : wr.cell? (ad.add (k * 3)) = some (.int .i64 m) := c0
              replace c1 : wr.cell? ⟨(ad.add (k * 3)).block, (ad.add (k * 3)).off + 1, none⟩ = some (.string (str nm)) := c1
              replace c2 : wr.cell? ⟨(ad.add (k * 3)).block, (ad.add (k * 3)).off + 2, none⟩ = some (.string (str id)) := c2
              replace d0 : wr.cell? (ad'.add (k * 3)) = some (.int .i64 m') := d0
              replace d1 : wr.cell? ⟨(ad'.add (k * 3)).block, (ad'.add (k * 3)).off + 1, none⟩ = some (.string (str nm')) := d1
              replace d2 : wr.cell? ⟨(ad'.add (k * 3)).block, (ad'.add (k * 3)).off + 2, none⟩ = some (.string (str id')) := d2
              obtain ⟨q0, f0⟩ : ∃ b, (m == m') = b := ⟨_, rfl⟩
              have g0 : (m != m') = !q0 := by rw [← f0]; rfl
              obtain ⟨q1, f1⟩ : ∃ b, ((str nm).toList == (str nm').toList) = b := ⟨_, rfl⟩
              obtain ⟨q2, f2⟩ : ∃ b, ((str id).toList == (str id').toList) = b := ⟨_, rfl⟩
              have HQ : Hid (((m, nm, id) : ItM) = (m', nm', id') ↔ q0 = true ∧ q1 = true ∧ q2 = true) := by
                unfold Hid
                rw [← f0, ← f1, ← f2, str_toList, str_toList, str_toList, str_toList]
                simp
              clear hx hy hkl hkl' f0
              cases q0
              · replace g0 : (m != m') = true := g0
                have h2 : b2 = false := by rw [← E2.out]; exact HN.out (fun h => by have := (HQ.out.1 h).1; cases this)
                subst h2
                go_wp2_with fail
                go_quiet (fail)
                go_wp2_with fail
                go_ret
                exact ⟨rfl, below_drewN (Below.after C5.out HB.out) _⟩
              replace g0 : (m != m') = false := g0
              cases q1
              · have h2 : b2 = false := by rw [← E2.out]; exact HN.out (fun h => by have := (HQ.out.1 h).2.1; cases this)
                subst h2
                go_wp2_with fail
                go_quiet (fail)
                go_wp2_with fail
                go_ret
                exact ⟨rfl, below_drewN (Below.after C5.out HB.out) _⟩
              cases q2
              · have h2 : b2 = false := by rw [← E2.out]; exact HN.out (fun h => by have := (HQ.out.1 h).2.2; cases this)
                subst h2
                go_wp2_with fail
                go_quiet (fail)
                go_wp2_with fail
                go_ret
                exact ⟨rfl, below_drewN (Below.after C5.out HB.out) _⟩
              have HO := Lib.hid (HE.out (HQ.out.2 ⟨rfl, rfl, rfl⟩))
              go_wp2_with fail
              go_quiet (fail)
              go_wp2_with fail
              go_roundw
              case rel => exact ⟨k + 1, by omega, by go_num, below_drewN HB.out _, HO.out⟩
              case measure => simp [intOf]; omega
            · obtain rfl : k = l2 := by omega
              have h2 : b2 = true := by
                rw [← E2.out, beq_iff_eq]
                have h1 := HTK.out
                rw [List.take_of_length_le (by rw [HL2.out]; exact Nat.le_refl _), List.take_of_length_le (by rw [HL2'.out]; exact Nat.le_refl _)] at h1
                exact h1
              subst h2
              go_wp2_with fail
              go_ret
              exact ⟨rfl, Below.after C5.out HB.out⟩
      · have h2 : b2 = false := by
          rw [← E2.out, beq_eq_false_iff_ne]
          intro e
          subst e
          exact hl (by rw [← HL2.out, ← HL2'.out])
        subst h2
        have el : ((l2 : Int) != (l2' : Int)) = true := by simp; omega
        clear hl
        go_wp2_with fail
        go_ret
        exact ⟨rfl, HWW.out⟩
end Go.Proofs.Ytcmlofgkcalhnaa.Ob
