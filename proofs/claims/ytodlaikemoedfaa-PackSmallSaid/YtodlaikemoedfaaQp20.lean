/- Texts put together: YOb2. -/
import Derived.Test.YtodlaikemoedfaaQp19
/- slices.Equal (of bytes, of texts, of items). -/
namespace Go.Proofs.Ytodlaikemoedfaa.Ob
open Go.RowKit Go.Proofs.Ytodlaikemoedfaa.Sh
open Go.Proofs.Ytodlaikemoedfaa.Tx (OwnV SlV sv bl nameB reads_at texts_at toList_ne')

theorem take_snoc {α : Type} [Inhabited α] {xs ys : List α} {k : Nat} (h1 : k < xs.length) (h2 : k < ys.length) (ht : xs.take k = ys.take k) (he : xs[k] = ys[k]) : xs.take (k + 1) = ys.take (k + 1) := by
  rw [List.take_succ_eq_append_getElem h1, List.take_succ_eq_append_getElem h2, ht, he]
set_option maxRecDepth 100000 in
set_option maxHeartbeats 800000 in
theorem eqb_any (v v' : Value) (xs ys : List UInt8) (w : World) (h : Sl w v xs) (h' : Sl w v' ys) : Calls Try.prog 65 #[v, v'] w (BoolPost w (xs == ys)) := by
  obtain ⟨A, c, rfl, hlc, hcm, hR⟩ := h.len
  obtain ⟨A', c', rfl, hlc', hcm', hR'⟩ := h'.len
  unfold maxLen at hcm hcm'
  have HR := Lib.hid hR
  have HR' := Lib.hid hR'
  obtain ⟨l, hl⟩ : ∃ l, xs.length = l := ⟨_, rfl⟩
  obtain ⟨m, hm⟩ : ∃ m, ys.length = m := ⟨_, rfl⟩
  obtain ⟨t, ht⟩ : ∃ t, (xs == ys) = t := ⟨_, rfl⟩
  rw [hl] at hlc ⊢
  rw [hm] at hlc' ⊢
  rw [ht]
  have HL := Lib.hid hl
  have HM := Lib.hid hm
  have HT := Lib.hid ht
  clear h h' hR hR' hl hm ht
  by_cases hlm : l = m
  · subst hlm
    go_enter Try.func65, Try.ntmps65
    go_wp2
    go_loopw [13] (fun i wr => ∃ k : Nat, k ≤ l ∧ i = .int .i64 k ∧ Below w.heap.size w wr ∧ xs.take k = ys.take k) (fun i _ => l - (intOf i).toNat)
    case atStart => exact ⟨0, Nat.zero_le _, rfl, Below.refl _ _, rfl⟩
    case round =>
      obtain ⟨k, hk, rfl, hb, htk⟩ := hrel
      have HB := Lib.hid hb
      have HTK := Lib.hid htk
      clear hb htk
      by_cases hlt : k < l
      · have hkl : k < xs.length := by rw [HL.out]; exact hlt
        have hkm : k < ys.length := by rw [HM.out]; exact hlt
        obtain ⟨ad, rfl, hcell⟩ := (HR.out.below HB.out).at_ k hkl
        obtain ⟨ad', rfl, hcell'⟩ := (HR'.out.below HB.out).at_ k hkm
        rw [List.getD_eq_getElem?_getD, List.getElem?_eq_getElem hkl] at hcell
        rw [List.getD_eq_getElem?_getD, List.getElem?_eq_getElem hkm] at hcell'
        have z0 : (0 : Int) ≤ (k : Int) := by omega
        have z1 : (k : Int) < (l : Int) := by omega
        by_cases he : xs[k] = ys[k]
        · have HS := Lib.hid (take_snoc hkl hkm HTK.out he)
          rw [← he] at hcell'
          clear he
          replace hcell : wr.cell? (ad.add k) = some (.int .u8 (bi xs[k])) := hcell
          replace hcell' : wr.cell? (ad'.add k) = some (.int .u8 (bi xs[k])) := hcell'
          generalize bi xs[k] = x at *
          clear hkl hkm
          go_wp2_with fail
          go_quiet (fail)
          go_wp2
          go_roundw
          case rel => exact ⟨k + 1, by omega, by go_num, below_drewN HB.out _, HS.out⟩
          case measure => simp [intOf]; omega
        · have htt : t = false := by
            rw [← HT.out, beq_eq_false_iff_ne]
            rintro rfl
            exact he rfl
          subst htt
          have hne : bi xs[k] ≠ bi ys[k] := fun e => he (bi_inj e)
          clear he
          replace hcell : wr.cell? (ad.add k) = some (.int .u8 (bi xs[k])) := hcell
          replace hcell' : wr.cell? (ad'.add k) = some (.int .u8 (bi ys[k])) := hcell'
          generalize bi xs[k] = x at *
          generalize bi ys[k] = y at *
          clear hkl hkm
          have hne' : (x == y) = false := beq_eq_false_iff_ne.2 hne
          clear hne
          go_wp2_with fail
          go_quiet (fail)
          go_wp2
          go_ret
          exact ⟨rfl, below_drewN HB.out _⟩
      · have htt : t = true := by
          rw [← HT.out, beq_iff_eq]
          have := HTK.out
          rwa [List.take_of_length_le (by rw [HL.out]; omega), List.take_of_length_le (by rw [HM.out]; omega)] at this
        subst htt
        go_wp2
        go_ret
        exact ⟨rfl, HB.out⟩
  · have htt : t = false := by
      rw [← HT.out, beq_eq_false_iff_ne]
      rintro rfl
      exact hlm (HL.out.symm.trans HM.out)
    subst htt
    have hne : ((l : Int) == (m : Int)) = false := beq_eq_false_iff_ne.2 (by omega)
    clear hlm
    go_enter Try.func65, Try.ntmps65
    go_wp2
    go_ret
    exact ⟨rfl, Below.refl _ _⟩
set_option maxRecDepth 100000 in
set_option maxHeartbeats 800000 in
theorem eqt_any (v v' : Value) (xs ys : List (List UInt8)) (w : World) (h : SlV w v ((xs.map str).map sv)) (h' : SlV w v' ((ys.map str).map sv)) : Calls Try.prog 67 #[v, v'] w (BoolPost w (xs == ys)) := by
  obtain ⟨A, c, rfl, hlc, hcm, hR⟩ := h.len
  obtain ⟨A', c', rfl, hlc', hcm', hR'⟩ := h'.len
  simp only [List.length_map] at hlc hR hlc' hR' ⊢
  unfold maxLen at hcm hcm'
  have HR := Lib.hid hR
  have HR' := Lib.hid hR'
  obtain ⟨l, hl⟩ : ∃ l, xs.length = l := ⟨_, rfl⟩
  obtain ⟨m, hm⟩ : ∃ m, ys.length = m := ⟨_, rfl⟩
  obtain ⟨t, ht⟩ : ∃ t, (xs == ys) = t := ⟨_, rfl⟩
  rw [hl] at hlc ⊢
  rw [hm] at hlc' ⊢
  rw [ht]
  have HL := Lib.hid hl
  have HM := Lib.hid hm
  have HT := Lib.hid ht
  clear h h' hR hR' hl hm ht
  by_cases hlm : l = m
  · subst hlm
    go_enter Try.func67, Try.ntmps67
    go_wp2
    go_loopw [13] (fun i wr => ∃ k : Nat, k ≤ l ∧ i = .int .i64 k ∧ Below w.heap.size w wr ∧ xs.take k = ys.take k) (fun i _ => l - (intOf i).toNat)
    case atStart => exact ⟨0, Nat.zero_le _, rfl, Below.refl _ _, rfl⟩
    case round =>
      obtain ⟨k, hk, rfl, hb, htk⟩ := hrel
      have HB := Lib.hid hb
      have HTK := Lib.hid htk
      clear hb htk
      by_cases hlt : k < l
      · have hkl : k < xs.length := by rw [HL.out]; exact hlt
        have hkm : k < ys.length := by rw [HM.out]; exact hlt
        obtain ⟨ad, rfl, hcell⟩ := reads_at ((HR.out.below HB.out).more HB.out.size) k (sv (str xs[k])) (by rw [List.map_map, List.getElem?_map, List.getElem?_eq_getElem hkl]; rfl)
        obtain ⟨ad', rfl, hcell'⟩ := reads_at ((HR'.out.below HB.out).more HB.out.size) k (sv (str ys[k])) (by rw [List.map_map, List.getElem?_map, List.getElem?_eq_getElem hkm]; rfl)
        have z0 : (0 : Int) ≤ (k : Int) := by omega
        have z1 : (k : Int) < (l : Int) := by omega
        by_cases he : xs[k] = ys[k]
        · have HS := Lib.hid (take_snoc hkl hkm HTK.out he)
          rw [← he] at hcell'
          clear he
          replace hcell : wr.cell? (ad.add k) = some (.string (str xs[k])) := hcell
          replace hcell' : wr.cell? (ad'.add k) = some (.string (str xs[k])) := hcell'
          generalize str xs[k] = x at *
          clear hkl hkm
          go_wp2_with fail
          go_quiet (fail)
          go_wp2
          go_roundw
          case rel => exact ⟨k + 1, by omega, by go_num, below_drewN HB.out _, HS.out⟩
          case measure => simp [intOf]; omega
        · have htt : t = false := by
            rw [← HT.out, beq_eq_false_iff_ne]
            rintro rfl
            exact he rfl
          subst htt
          have hne : str xs[k] ≠ str ys[k] := fun e => he (str_inj e)
          clear he
          replace hcell : wr.cell? (ad.add k) = some (.string (str xs[k])) := hcell
          replace hcell' : wr.cell? (ad'.add k) = some (.string (str ys[k])) := hcell'
          generalize str xs[k] = x at *
          generalize str ys[k] = y at *
          clear hkl hkm
          have hne' := toList_ne' hne
          clear hne
          go_wp2_with fail
          go_quiet (fail)
          go_wp2
          go_ret
          exact ⟨rfl, below_drewN HB.out _⟩
      · have htt : t = true := by
          rw [← HT.out, beq_iff_eq]
          have := HTK.out
          rwa [List.take_of_length_le (by rw [HL.out]; omega), List.take_of_length_le (by rw [HM.out]; omega)] at this
        subst htt
        go_wp2
        go_ret
        exact ⟨rfl, HB.out⟩
  · have htt : t = false := by
      rw [← HT.out, beq_eq_false_iff_ne]
      rintro rfl
      exact hlm (HL.out.symm.trans HM.out)
    subst htt
    have hne : ((l : Int) == (m : Int)) = false := beq_eq_false_iff_ne.2 (by omega)
    clear hlm
    go_enter Try.func67, Try.ntmps67
    go_wp2
    go_ret
    exact ⟨rfl, Below.refl _ _⟩
set_option maxRecDepth 100000 in
set_option maxHeartbeats 800000 in
theorem eqi_any (v v' : Value) (xs ys : List ItM) (w : World) (h : SlI w v xs) (h' : SlI w v' ys) : Calls Try.prog 66 #[v, v'] w (BoolPost w (xs == ys)) := by
  obtain ⟨A, c, rfl, hlc, hcm, _, hR⟩ := h
  obtain ⟨A', c', rfl, hlc', hcm', _, hR'⟩ := h'
  unfold maxLen at hcm hcm'
  have HR := Lib.hid hR
  have HR' := Lib.hid hR'
  obtain ⟨l, hl⟩ : ∃ l, xs.length = l := ⟨_, rfl⟩
  obtain ⟨m, hm⟩ : ∃ m, ys.length = m := ⟨_, rfl⟩
  obtain ⟨t, ht⟩ : ∃ t, (xs == ys) = t := ⟨_, rfl⟩
  rw [hl] at hlc ⊢
  rw [hm] at hlc' ⊢
  rw [ht]
  have HL := Lib.hid hl
  have HM := Lib.hid hm
  have HT := Lib.hid ht
  clear hR hR' hl hm ht
  by_cases hlm : l = m
  · subst hlm
    go_enter Try.func66, Try.ntmps66
    go_wp2
    go_loopw [13] (fun i wr => ∃ k : Nat, k ≤ l ∧ i = .int .i64 k ∧ Below w.heap.size w wr ∧ xs.take k = ys.take k) (fun i _ => l - (intOf i).toNat)
    case atStart => exact ⟨0, Nat.zero_le _, rfl, Below.refl _ _, rfl⟩
    case round =>
      obtain ⟨k, hk, rfl, hb, htk⟩ := hrel
      have HB := Lib.hid hb
      have HTK := Lib.hid htk
      clear hb htk
      by_cases hlt : k < l
      · have hkl : k < xs.length := by rw [HL.out]; exact hlt
        have hkm : k < ys.length := by rw [HM.out]; exact hlt
        obtain ⟨ad, rfl, c0, c1, c2⟩ := items_at (HR.out.below HB.out) rfl k xs[k] (List.getElem?_eq_getElem hkl)
        obtain ⟨ad', rfl, d0, d1, d2⟩ := items_at (HR'.out.below HB.out) rfl k ys[k] (List.getElem?_eq_getElem hkm)
        have z0 : (0 : Int) ≤ (k : Int) := by omega
        have z1 : (k : Int) < (l : Int) := by omega
        obtain ⟨p, hp⟩ : ∃ p, xs[k] = p := ⟨_, rfl⟩
        obtain ⟨q, hq⟩ : ∃ q, ys[k] = q := ⟨_, rfl⟩
        obtain ⟨r, hr⟩ : ∃ r, (p == q) = r := ⟨_, rfl⟩
        have HS : Hid (r = true → xs.take (k + 1) = ys.take (k + 1)) := fun e => take_snoc hkl hkm HTK.out (by rw [hp, hq]; rw [e] at hr; exact beq_iff_eq.1 hr)
        have HN : Hid (r = false → t = false) := fun e => by
          rw [← HT.out, beq_eq_false_iff_ne]
          rintro rfl
          rw [e] at hr
          exact (beq_eq_false_iff_ne.1 hr) (hp.symm.trans hq)
        rw [hp] at c0 c1 c2
        rw [hq] at d0 d1 d2
        clear hp hq hkl hkm
        cases r with
        | true =>
          have HSS := Lib.hid (HS.out rfl)
          obtain rfl : p = q := beq_iff_eq.1 hr
          clear hr HS HN
          generalize p.1 = x0 at *
          generalize str p.2.1 = x1 at *
          generalize str p.2.2 = x2 at *
          go_wp2_with fail
          go_quiet (fail)
          go_wp2
          go_roundw
          case rel => exact ⟨k + 1, by omega, by go_num, below_drewN HB.out _, HSS.out⟩
          case measure => simp [intOf]; omega
        | false =>
          obtain rfl := HN.out rfl
          clear HS HN
          obtain ⟨p0, p1, p2⟩ := p
          obtain ⟨q0, q1, q2⟩ := q
          replace c0 : wr.cell? (ad.add (k * 3)) = some (.int .i64 p0) := c0
          replace c1 : wr.cell? ⟨(ad.add (k * 3)).block, (ad.add (k * 3)).off + 1, none⟩ = some (.string (str p1)) := c1
          replace c2 : wr.cell? ⟨(ad.add (k * 3)).block, (ad.add (k * 3)).off + 2, none⟩ = some (.string (str p2)) := c2
          replace d0 : wr.cell? (ad'.add (k * 3)) = some (.int .i64 q0) := d0
          replace d1 : wr.cell? ⟨(ad'.add (k * 3)).block, (ad'.add (k * 3)).off + 1, none⟩ = some (.string (str q1)) := d1
          replace d2 : wr.cell? ⟨(ad'.add (k * 3)).block, (ad'.add (k * 3)).off + 2, none⟩ = some (.string (str q2)) := d2
          by_cases e0 : p0 = q0
          · subst e0
            by_cases e1 : p1 = q1
            · subst e1
              have hne := toList_ne' (fun e => (beq_eq_false_iff_ne.1 hr) (by rw [str_inj e]) : str p2 ≠ str q2)
              clear hr
              generalize str p1 = x1 at *
              generalize str p2 = x2 at *
              generalize str q2 = y2 at *
              go_wp2_with fail
              go_quiet (fail)
              go_wp2
              go_ret
              exact ⟨rfl, below_drewN HB.out _⟩
            · have hne := toList_ne' (fun e => e1 (str_inj e) : str p1 ≠ str q1)
              clear hr e1
              generalize str p1 = x1 at *
              generalize str q1 = y1 at *
              generalize str p2 = x2 at *
              generalize str q2 = y2 at *
              go_wp2_with fail
              go_quiet (fail)
              go_wp2
              go_ret
              exact ⟨rfl, below_drewN HB.out _⟩
          · have hne : (p0 == q0) = false := beq_eq_false_iff_ne.2 e0
            clear hr e0
            generalize str p1 = x1 at *
            generalize str q1 = y1 at *
            generalize str p2 = x2 at *
            generalize str q2 = y2 at *
            go_wp2_with fail
            go_quiet (fail)
            go_wp2
            go_ret
            exact ⟨rfl, below_drewN HB.out _⟩
      · have htt : t = true := by
          rw [← HT.out, beq_iff_eq]
          have := HTK.out
          rwa [List.take_of_length_le (by rw [HL.out]; omega), List.take_of_length_le (by rw [HM.out]; omega)] at this
        subst htt
        go_wp2
        go_ret
        exact ⟨rfl, HB.out⟩
  · have htt : t = false := by
      rw [← HT.out, beq_eq_false_iff_ne]
      rintro rfl
      exact hlm (HL.out.symm.trans HM.out)
    subst htt
    have hne : ((l : Int) == (m : Int)) = false := beq_eq_false_iff_ne.2 (by omega)
    clear hlm
    go_enter Try.func66, Try.ntmps66
    go_wp2
    go_ret
    exact ⟨rfl, Below.refl _ _⟩
end Go.Proofs.Ytodlaikemoedfaa.Ob
