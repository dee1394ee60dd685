/- Texts held against texts; the kind of a chunk; a list in memory of its own; a place further on. -/
import Derived.Test.YtbejgljljjjjcaaDf1
import Derived.Test.YtbejgljljjjjcaaLn6
set_option linter.unusedVariables false
set_option linter.unusedSimpArgs false
namespace Go.Proofs.Ytbejgljljjjjcaa.Ln
open Go.RowKit Go.Proofs.Ytbejgljljjjjcaa.Sh Go.Proofs.Ytbejgljljjjjcaa.Tx

def BoolP (w : World) (t : Bool) (e : Ending) (w' : World) : Prop := e = .returned (.bool t) ∧ Below w.heap.size w w'
theorem take_snoc3 {α : Type} [Inhabited α] {xs ys : List α} {k : Nat} (h1 : k < xs.length) (h2 : k < ys.length) (ht : xs.take k = ys.take k) (he : xs[k] = ys[k]) : xs.take (k + 1) = ys.take (k + 1) := by
  rw [List.take_succ_eq_append_getElem h1, List.take_succ_eq_append_getElem h2, ht, he]
set_option maxRecDepth 100000 in
set_option maxHeartbeats 800000 in
theorem eqt3_any (v v' : Value) (xs ys : List (List UInt8)) (w : World) (h : SlV w v ((xs.map str).map sv)) (h' : SlV w v' ((ys.map str).map sv)) : Calls Try.prog 37 #[v, v'] w (BoolP w (xs == ys)) := by
  obtain ⟨A, c, rfl, hlc, hcm, hR⟩ := h.len
  obtain ⟨A', c', rfl, hlc', hcm', hR'⟩ := h'.len
  simp only [List.length_map] at hlc hR hlc' hR' ⊢
  unfold maxLen at hcm hcm'
  have HR := Lib.hid hR
  have HR' := Lib.hid hR'
  obtain ⟨l, hl⟩ : ∃ l, xs.length = l := ⟨_, rfl⟩
  obtain ⟨m, hm⟩ : ∃ m, ys.length = m := ⟨_, rfl⟩
  obtain ⟨t, ht⟩ : ∃ t, (xs == ys) = t := ⟨_, rfl⟩
  rw [hl] at hlc ⊢
  rw [hm] at hlc' ⊢
  rw [ht]
  have HL := Lib.hid hl
  have HM := Lib.hid hm
  have HT := Lib.hid ht
  clear h h' hR hR' hl hm ht
  by_cases hlm : l = m
  · subst hlm
    go_enter Try.func37, Try.ntmps37
    go_wp2
    go_loopw [13] (fun i wr => ∃ k : Nat, k ≤ l ∧ i = .int .i64 k ∧ Below w.heap.size w wr ∧ xs.take k = ys.take k) (fun i _ => l - (intOf i).toNat)
    case atStart => exact ⟨0, Nat.zero_le _, rfl, Below.refl _ _, rfl⟩
    case round =>
      obtain ⟨k, hk, rfl, hb, htk⟩ := hrel
      have HB := Lib.hid hb
      have HTK := Lib.hid htk
      clear hb htk
      by_cases hlt : k < l
      · have hkl : k < xs.length := by rw [HL.out]; exact hlt
        have hkm : k < ys.length := by rw [HM.out]; exact hlt
        obtain ⟨ad, rfl, hcell⟩ := reads_at ((HR.out.below HB.out).more HB.out.size) k (sv (str xs[k])) (by rw [List.map_map, List.getElem?_map, List.getElem?_eq_getElem hkl]; rfl)
        obtain ⟨ad', rfl, hcell'⟩ := reads_at ((HR'.out.below HB.out).more HB.out.size) k (sv (str ys[k])) (by rw [List.map_map, List.getElem?_map, List.getElem?_eq_getElem hkm]; rfl)
        have z0 : (0 : Int) ≤ (k : Int) := by omega
        have z1 : (k : Int) < (l : Int) := by omega
        by_cases he : xs[k] = ys[k]
        · have HS := Lib.hid (take_snoc3 hkl hkm HTK.out he)
          rw [← he] at hcell'
          clear he
          replace hcell : wr.cell? (ad.add k) = some (.string (str xs[k])) := hcell
          replace hcell' : wr.cell? (ad'.add k) = some (.string (str xs[k])) := hcell'
          generalize str xs[k] = x at *
          clear hkl hkm
          go_wp2_with fail
          go_quiet (fail)
          go_wp2
          go_roundw
          case rel => exact ⟨k + 1, by omega, by go_num, below_drewN HB.out _, HS.out⟩
          case measure => simp [intOf]; omega
        · have htt : t = false := by
            rw [← HT.out, beq_eq_false_iff_ne]
            rintro rfl
            exact he rfl
          subst htt
          have hne : str xs[k] ≠ str ys[k] := fun e => he (str_inj e)
          clear he
          replace hcell : wr.cell? (ad.add k) = some (.string (str xs[k])) := hcell
          replace hcell' : wr.cell? (ad'.add k) = some (.string (str ys[k])) := hcell'
          generalize str xs[k] = x at *
          generalize str ys[k] = y at *
          clear hkl hkm
          have hne' := toList_ne hne
          clear hne
          go_wp2_with fail
          go_quiet (fail)
          go_wp2
          go_ret
          exact ⟨rfl, below_drewN HB.out _⟩
      · have htt : t = true := by
          rw [← HT.out, beq_iff_eq]
          have := HTK.out
          rwa [List.take_of_length_le (by rw [HL.out]; omega), List.take_of_length_le (by rw [HM.out]; omega)] at this
        subst htt
        go_wp2
        go_ret
        exact ⟨rfl, HB.out⟩
  · have htt : t = false := by
      rw [← HT.out, beq_eq_false_iff_ne]
      rintro rfl
      exact hlm (HL.out.symm.trans HM.out)
    subst htt
    have hne : ((l : Int) == (m : Int)) = false := beq_eq_false_iff_ne.2 (by omega)
    clear hlm
    go_enter Try.func37, Try.ntmps37
    go_wp2
    go_ret
    exact ⟨rfl, Below.refl _ _⟩
set_option maxRecDepth 100000 in
set_option maxHeartbeats 1600000 in
theorem texts3_any (v v' : Value) (xs ys : List ByteArray) (w : World) (h : SlV w v (xs.map sv)) (h' : SlV w v' (ys.map sv)) : Calls Try.prog 15 #[v, v'] w fun e w' => ∃ t, e = .returned (.bool t) ∧ (t = true ↔ xs = ys) ∧ Below w.heap.size w w' := by
  obtain ⟨A, c, rfl, hlc, hcm, hR⟩ := h.len
  obtain ⟨A', c', rfl, hlc', hcm', hR'⟩ := h'.len
  rw [List.length_map] at hlc hR hlc' hR' ⊢
  rw [List.length_map]
  have HR := Lib.hid hR
  have HR' := Lib.hid hR'
  unfold maxLen at hcm hcm'
  obtain ⟨l, hl⟩ : ∃ l, xs.length = l := ⟨_, rfl⟩
  obtain ⟨l', hl'⟩ : ∃ l', ys.length = l' := ⟨_, rfl⟩
  rw [hl] at hlc ⊢
  rw [hl'] at hlc' ⊢
  have HL := Lib.hid hl
  have HL' := Lib.hid hl'
  clear h h' hR hR' hl hl'
  by_cases hll : l = l'
  · subst hll
    go_enter Try.func15, Try.ntmps15
    go_wp2
    go_loopw [5] (fun i wr => ∃ k : Nat, k ≤ l ∧ i = .int .i64 k ∧ xs.take k = ys.take k ∧ Below w.heap.size w wr) (fun i _ => l - (intOf i).toNat)
    case atStart => exact ⟨0, Nat.zero_le _, rfl, rfl, Below.refl _ _⟩
    case round =>
      obtain ⟨k, hk, rfl, htk, hb⟩ := hrel
      have HB := Lib.hid hb
      have HTK := Lib.hid htk
      clear hb htk
      by_cases hlt : k < l
      · have hkl : k < xs.length := by rw [HL.out]; exact hlt
        have hkl' : k < ys.length := by rw [HL'.out]; exact hlt
        obtain ⟨ad, rfl, hcell⟩ := Tx.texts_at ((HR.out.below HB.out).more HB.out.size) k hkl
        obtain ⟨ad', rfl, hcell'⟩ := Tx.texts_at ((HR'.out.below HB.out).more HB.out.size) k hkl'
        have HX := Lib.hid (show xs.take (k + 1) = xs.take k ++ [xs[k]] from List.take_succ_eq_append_getElem hkl)
        have HY := Lib.hid (show ys.take (k + 1) = ys.take k ++ [ys[k]] from List.take_succ_eq_append_getElem hkl')
        have HE : Hid (xs[k] ≠ ys[k] → xs ≠ ys) := fun h e => h (by subst e; rfl)
        generalize xs[k] = x at *
        generalize ys[k] = y at *
        clear hkl hkl'
        have z0 : (0 : Int) ≤ (k : Int) := by omega
        have z1 : (k : Int) < (l : Int) := by omega
        by_cases he : x = y
        · subst he
          go_wp2_with fail
          go_quiet (fail)
          go_wp2
          go_roundw
          case rel => exact ⟨k + 1, by omega, by go_num, by rw [HX.out, HY.out, HTK.out], below_drewN HB.out _⟩
          case measure => simp [intOf]; omega
        · have q1 := toList_ne he
          go_wp2_with fail
          go_quiet (fail)
          go_wp2
          go_ret
          exact ⟨_, rfl, by simpa using HE.out he, below_drewN HB.out _⟩
      · obtain rfl : k = l := by omega
        have HXY : Hid (xs = ys) := by
          have h1 := HTK.out
          rw [List.take_of_length_le (by rw [HL.out]; exact Nat.le_refl _), List.take_of_length_le (by rw [HL'.out]; exact Nat.le_refl _)] at h1
          exact h1
        go_wp2
        go_ret
        exact ⟨_, rfl, by simpa using HXY.out, HB.out⟩
  · have e1 : ((l : Int) == (l' : Int)) = false := by rw [beq_eq_false_iff_ne]; omega
    go_enter Try.func15, Try.ntmps15
    go_wp2_with fail
    go_ret
    exact ⟨_, rfl, ⟨fun h => by simp at h, fun h => (hll (by rw [← HL.out, ← HL'.out, h])).elim⟩, Below.refl _ _⟩
theorem str_map_inj {xs ys : List (List UInt8)} (h : xs.map str = ys.map str) : xs = ys := by
  induction xs generalizing ys with
  | nil => cases ys with
    | nil => rfl
    | cons y ys => cases h
  | cons x xs ih =>
    cases ys with
    | nil => cases h
    | cons y ys =>
      injection h with h1 h2
      rw [str_inj h1, ih h2]

/-- Two lists of texts held against each other. -/
def EqP (xs ys : List ByteArray) (w : World) (e : Ending) (w' : World) : Prop := e = .returned (.bool (decide (xs = ys))) ∧ Below w.heap.size w w'
theorem equal_any (v v' : Value) (xs ys : List ByteArray) (w : World) (h : SlV w v (xs.map sv)) (h' : SlV w v' (ys.map sv)) : Calls Try.prog 37 #[v, v'] w (EqP xs ys w) := by
  have key : ∀ l : List ByteArray, (l.map ByteArray.toList).map str = l := by
    intro l
    rw [List.map_map]
    conv => rhs; rw [← List.map_id l]
    refine List.map_congr_left fun s _ => ?_
    exact (str_of s).symm
  rw [← key xs] at h
  rw [← key ys] at h'
  refine (eqt3_any v v' _ _ w h h').mono ?_
  rintro e w' ⟨rfl, hb⟩
  refine ⟨?_, hb⟩
  congr 2
  by_cases he : xs = ys
  · subst he; simp
  · rw [decide_eq_false he, beq_eq_false_iff_ne]
    intro e
    exact he (by rw [← key xs, ← key ys, e])
theorem texts3_eq (v v' : Value) (xs ys : List ByteArray) (w : World) (h : SlV w v (xs.map sv)) (h' : SlV w v' (ys.map sv)) : Calls Try.prog 15 #[v, v'] w (EqP xs ys w) := by
  refine (texts3_any v v' xs ys w h h').mono ?_
  rintro e w' ⟨t, rfl, ht, hb⟩
  refine ⟨?_, hb⟩
  congr 2
  by_cases he : xs = ys
  · rw [decide_eq_true he]; exact ht.2 he
  · rw [decide_eq_false he]
    cases t with
    | false => rfl
    | true => exact absurd (ht.1 rfl) he
def KindP (o a b : List ByteArray) (w : World) (e : Ending) (w' : World) : Prop := e = .returned (.int .i64 (kindL o a b : Int)) ∧ Below w.heap.size w w'
set_option maxRecDepth 100000 in
set_option maxHeartbeats 1600000 in
theorem changed_any (v1 v2 v3 : Value) (o a b : List ByteArray) (w : World) (h1 : SlV w v1 (o.map sv)) (h2 : SlV w v2 (a.map sv)) (h3 : SlV w v3 (b.map sv)) : Calls Try.prog 26 #[v1, v2, v3] w (KindP o a b w) := by
  have H1 := Lib.hid (equal_any v3 v1 b o w h3 h1)
  have H2 := Lib.hid (fun W (hW : Below w.heap.size w W) => equal_any v2 v1 a o W (h2.below hW) (h1.below hW))
  have H3 := Lib.hid (fun W (hW : Below w.heap.size w W) => equal_any v2 v3 a b W (h2.below hW) (h3.below hW))
  clear h1 h2 h3
  unfold KindP kindL
  by_cases e1 : b = o
  · have t1 : decide (b = o) = true := decide_eq_true e1
    rw [if_pos e1]
    unfold EqP at H1
    rw [t1] at H1
    clear e1 t1
    go_enter Try.func26, Try.ntmps26
    go_wp2_with fail
    refine H1.out.mono ?_
    rintro e w1 ⟨rfl, hb1⟩
    have HB1 := Lib.hid hb1
    clear hb1
    go_wp2_with fail
    go_ret
    exact ⟨rfl, HB1.out⟩
  · have t1 : decide (b = o) = false := decide_eq_false e1
    rw [if_neg e1]
    unfold EqP at H1 H2 H3
    rw [t1] at H1
    clear e1 t1
    by_cases e2 : a = o
    · have t2 : decide (a = o) = true := decide_eq_true e2
      rw [if_pos e2]
      rw [t2] at H2
      clear e2 t2
      go_enter Try.func26, Try.ntmps26
      go_wp2_with fail
      refine H1.out.mono ?_
      rintro e w1 ⟨rfl, hb1⟩
      have HB1 := Lib.hid hb1
      clear hb1
      go_wp2_with fail
      refine (H2.out w1 HB1.out).mono ?_
      rintro e w2 ⟨rfl, hb2⟩
      have HB2 := Lib.hid (HB1.out.trans (hb2.mono HB1.out.size))
      clear hb2
      go_wp2_with fail
      go_ret
      exact ⟨rfl, HB2.out⟩
    · have t2 : decide (a = o) = false := decide_eq_false e2
      rw [if_neg e2]
      rw [t2] at H2
      clear e2 t2
      obtain ⟨t, ht⟩ : ∃ t, decide (a = b) = t := ⟨_, rfl⟩
      have hk : (if a = b then (4 : Nat) else 5) = if t = true then 4 else 5 := by rw [← ht]; simp
      rw [hk]
      rw [ht] at H3
      clear ht hk
      cases t <;>
      · go_enter Try.func26, Try.ntmps26
        go_wp2_with fail
        refine H1.out.mono ?_
        rintro e w1 ⟨rfl, hb1⟩
        have HB1 := Lib.hid hb1
        clear hb1
        go_wp2_with fail
        refine (H2.out w1 HB1.out).mono ?_
        rintro e w2 ⟨rfl, hb2⟩
        have HB2 := Lib.hid (HB1.out.trans (hb2.mono HB1.out.size))
        clear hb2
        go_wp2_with fail
        refine (H3.out w2 HB2.out).mono ?_
        rintro e w3 ⟨rfl, hb3⟩
        have HB3 := Lib.hid (HB2.out.trans (hb3.mono HB2.out.size))
        clear hb3
        go_wp2_with fail
        go_ret
        exact ⟨rfl, HB3.out⟩
set_option maxRecDepth 100000 in
set_option maxHeartbeats 1600000 in
theorem rkind_any (v1 v2 v3 : Value) (o a b : List ByteArray) (w : World) (h1 : SlV w v1 (o.map sv)) (h2 : SlV w v2 (a.map sv)) (h3 : SlV w v3 (b.map sv)) : Calls Try.prog 29 #[v1, v2, v3] w (KindP o a b w) := by
  have H1 := Lib.hid (texts3_eq v3 v1 b o w h3 h1)
  have H2 := Lib.hid (fun W (hW : Below w.heap.size w W) => texts3_eq v2 v1 a o W (h2.below hW) (h1.below hW))
  have H3 := Lib.hid (fun W (hW : Below w.heap.size w W) => texts3_eq v2 v3 a b W (h2.below hW) (h3.below hW))
  clear h1 h2 h3
  unfold KindP kindL
  by_cases e1 : b = o
  · have t1 : decide (b = o) = true := decide_eq_true e1
    rw [if_pos e1]
    unfold EqP at H1
    rw [t1] at H1
    clear e1 t1
    go_enter Try.func29, Try.ntmps29
    go_wp2_with fail
    refine H1.out.mono ?_
    rintro e w1 ⟨rfl, hb1⟩
    have HB1 := Lib.hid hb1
    clear hb1
    go_wp2_with fail
    go_ret
    exact ⟨rfl, HB1.out⟩
  · have t1 : decide (b = o) = false := decide_eq_false e1
    rw [if_neg e1]
    unfold EqP at H1 H2 H3
    rw [t1] at H1
    clear e1 t1
    by_cases e2 : a = o
    · have t2 : decide (a = o) = true := decide_eq_true e2
      rw [if_pos e2]
      rw [t2] at H2
      clear e2 t2
      go_enter Try.func29, Try.ntmps29
      go_wp2_with fail
      refine H1.out.mono ?_
      rintro e w1 ⟨rfl, hb1⟩
      have HB1 := Lib.hid hb1
      clear hb1
      go_wp2_with fail
      refine (H2.out w1 HB1.out).mono ?_
      rintro e w2 ⟨rfl, hb2⟩
      have HB2 := Lib.hid (HB1.out.trans (hb2.mono HB1.out.size))
      clear hb2
      go_wp2_with fail
      go_ret
      exact ⟨rfl, HB2.out⟩
    · have t2 : decide (a = o) = false := decide_eq_false e2
      rw [if_neg e2]
      rw [t2] at H2
      clear e2 t2
      obtain ⟨t, ht⟩ : ∃ t, decide (a = b) = t := ⟨_, rfl⟩
      have hk : (if a = b then (4 : Nat) else 5) = if t = true then 4 else 5 := by rw [← ht]; simp
      rw [hk]
      rw [ht] at H3
      clear ht hk
      cases t <;>
      · go_enter Try.func29, Try.ntmps29
        go_wp2_with fail
        refine H1.out.mono ?_
        rintro e w1 ⟨rfl, hb1⟩
        have HB1 := Lib.hid hb1
        clear hb1
        go_wp2_with fail
        refine (H2.out w1 HB1.out).mono ?_
        rintro e w2 ⟨rfl, hb2⟩
        have HB2 := Lib.hid (HB1.out.trans (hb2.mono HB1.out.size))
        clear hb2
        go_wp2_with fail
        refine (H3.out w2 HB2.out).mono ?_
        rintro e w3 ⟨rfl, hb3⟩
        have HB3 := Lib.hid (HB2.out.trans (hb3.mono HB2.out.size))
        clear hb3
        go_wp2_with fail
        go_ret
        exact ⟨rfl, HB3.out⟩
set_option maxRecDepth 100000 in
set_option maxHeartbeats 1600000 in
theorem fresh_any (v : Value) (xs : List ByteArray) (w : World) (h : SlV w v (xs.map sv)) (hn : xs.length ≤ 2000000) : Calls Try.prog 25 #[v] w (TextsPost w xs) := by
  obtain ⟨A, c, rfl, hlc, hcm, hR⟩ := h.len
  rw [List.length_map] at hlc hR ⊢
  obtain ⟨l, hl⟩ : ∃ l, xs.length = l := ⟨_, rfl⟩
  rw [hl] at hR hn ⊢
  have hsm : ([] : List ByteArray).length + l ≤ 2000000 := by simpa using hn
  have HR := Lib.hid hR
  have HOWN : Hid (OwnV 9 w w.heap.size (.slice none 0 0) (([] : List ByteArray).map sv)) := OwnV.nil_ _ _
  clear hR hl h hlc hcm
  go_enter Try.func25, Try.ntmps25
  go_wp2_with (at_builtin; refine append_texts rfl _ (.tmp 3) rfl _ w.heap.size (.slice none 0 0) [] rfl HOWN.out _ A l c xs rfl HR.out hsm (Nat.le_refl _) ?_; intro v3 w3 ho3 hb3; have HO := Lib.hid ho3; have HB := Lib.hid hb3; clear ho3 hb3)
  go_ret
  refine ⟨v3, rfl, ?_, HB.out⟩
  simpa using HO.out
def OnP (t : Tri) (n : Nat) (w : World) (e : Ending) (w' : World) : Prop := e = .returned (triV (onT t n)) ∧ Below w.heap.size w w'
set_option maxRecDepth 100000 in
set_option maxHeartbeats 1600000 in
theorem on_any (p q r n : Nat) (w : World) (hp : p ≤ 1000000 ∧ q ≤ 1000000 ∧ r ≤ 1000000 ∧ n ≤ 1000000) : Calls Try.prog 24 #[.agg #[.int .i64 (p : Int), .int .i64 (q : Int), .int .i64 (r : Int)], .int .i64 (n : Int)] w (OnP (p, q, r) n w) := by
  unfold OnP onT triV
  have e1 : IntKind.i64.wrap ((p : Int) + (n : Int)) = ((p + n : Nat) : Int) := by rw [IntKind.wrap_i64]; omega
  have e2 : IntKind.i64.wrap ((q : Int) + (n : Int)) = ((q + n : Nat) : Int) := by rw [IntKind.wrap_i64]; omega
  have e3 : IntKind.i64.wrap ((r : Int) + (n : Int)) = ((r + n : Nat) : Int) := by rw [IntKind.wrap_i64]; omega
  simp only
  obtain ⟨p', hp'⟩ : ∃ x, p + n = x := ⟨_, rfl⟩
  obtain ⟨q', hq'⟩ : ∃ x, q + n = x := ⟨_, rfl⟩
  obtain ⟨r', hr'⟩ : ∃ x, r + n = x := ⟨_, rfl⟩
  rw [hp'] at e1 ⊢
  rw [hq'] at e2 ⊢
  rw [hr'] at e3 ⊢
  clear hp' hq' hr' hp
  go_enter Try.func24, Try.ntmps24
  go_wp2_with fail
  (try simp only [Exit.inBlock, Exit.then])
  refine bodyPost_ret (results_cell_row (p := 4) (ty := 53) rfl _ _ (w.heap.size + 1) 53 #[.int .i64 (p' : Int), .int .i64 (q' : Int), .int .i64 (r' : Int)] (0, 0) _ rfl ?_ Try.underlying53 rfl (by kernel_rfl)) rfl ⟨rfl, ((Below.refl _ _).alloc (Nat.le_refl _) _).alloc (by simp) _⟩
  have := Blk.new (w.alloc (.cells #[.int .i64 (p : Int), .int .i64 (q : Int), .int .i64 (r : Int)] 53)) 53 #[.int .i64 (p' : Int), .int .i64 (q' : Int), .int .i64 (r' : Int)]
  have hz : (w.alloc (.cells #[.int .i64 (p : Int), .int .i64 (q : Int), .int .i64 (r : Int)] 53)).heap.size = w.heap.size + 1 := by simp
  rw [hz] at this
  exact this
end Go.Proofs.Ytbejgljljjjjcaa.Ln
