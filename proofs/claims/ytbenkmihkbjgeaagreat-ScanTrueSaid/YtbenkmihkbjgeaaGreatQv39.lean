/- Texts put together: VOb2, VOb3. -/
import Derived.Test.YtbenkmihkbjgeaaGreatQv38
/- slices.Equal (of bytes, of texts, of items). -/
namespace Go.Proofs.YtbenkmihkbjgeaaGreat.Ob
open Go.RowKit Go.Proofs.YtbenkmihkbjgeaaGreat.Sh
open Go.Proofs.YtbenkmihkbjgeaaGreat.Tx (OwnV SlV sv bl nameB reads_at texts_at toList_ne')
theorem take_snoc {α : Type} [Inhabited α] {xs ys : List α} {k : Nat} (h1 : k < xs.length) (h2 : k < ys.length) (ht : xs.take k = ys.take k) (he : xs[k] = ys[k]) : xs.take (k + 1) = ys.take (k + 1) := by
 rw [List.take_succ_eq_append_getElem h1, List.take_succ_eq_append_getElem h2, ht, he]
set_option maxRecDepth 100000 in
set_option maxHeartbeats 800000 in
theorem eqb_any (v v' : Value) (xs ys : List UInt8) (w : World) (h : Sl w v xs) (h' : Sl w v' ys) : Calls Tryz.prog 233 #[v, v'] w (BoolPost w (xs == ys)) := by
 obtain ⟨A, c, rfl, hlc, hcm, hR⟩ := h.len
 obtain ⟨A', c', rfl, hlc', hcm', hR'⟩ := h'.len
 unfold maxLen at hcm hcm'
 have HR := Lib.hid hR
 have HR' := Lib.hid hR'
 obtain ⟨l, hl⟩ : ∃ l, xs.length = l := ⟨_, rfl⟩
 obtain ⟨m, hm⟩ : ∃ m, ys.length = m := ⟨_, rfl⟩
 obtain ⟨t, ht⟩ : ∃ t, (xs == ys) = t := ⟨_, rfl⟩
 rw [hl] at hlc ⊢
 rw [hm] at hlc' ⊢
 rw [ht]
 have HL := Lib.hid hl
 have HM := Lib.hid hm
 have HT := Lib.hid ht
 clear h h' hR hR' hl hm ht
 by_cases hlm : l = m
 ·subst hlm
  go_enter Tryz.func233, Tryz.ntmps233
  go_wp2
  go_loopw [13] (fun i wr => ∃ k : Nat, k ≤ l ∧ i = .int .i64 k ∧ Below w.heap.size w wr ∧ xs.take k = ys.take k) (fun i _ => l - (intOf i).toNat)
  case atStart => exact ⟨0, Nat.zero_le _, rfl, Below.refl _ _, rfl⟩
  case round =>
   obtain ⟨k, hk, rfl, hb, htk⟩ := hrel
   have HB := Lib.hid hb
   have HTK := Lib.hid htk
   clear hb htk
   by_cases hlt : k < l
   ·have hkl : k < xs.length := by rw [HL.out]; exact hlt
    have hkm : k < ys.length := by rw [HM.out]; exact hlt
    obtain ⟨ad, rfl, hcell⟩ := (HR.out.below HB.out).at_ k hkl
    obtain ⟨ad', rfl, hcell'⟩ := (HR'.out.below HB.out).at_ k hkm
    rw [List.getD_eq_getElem?_getD, List.getElem?_eq_getElem hkl] at hcell
    rw [List.getD_eq_getElem?_getD, List.getElem?_eq_getElem hkm] at hcell'
    have z0 : (0 : Int) ≤ (k : Int) := by omega
    have z1 : (k : Int) < (l : Int) := by omega
    by_cases he : xs[k] = ys[k]
    ·have HS := Lib.hid (take_snoc hkl hkm HTK.out he)
     rw [← he] at hcell'
     clear he
     replace hcell : wr.cell? (ad.add k) = some (.int .u8 (bi xs[k])) := hcell
     replace hcell' : wr.cell? (ad'.add k) = some (.int .u8 (bi xs[k])) := hcell'
     generalize bi xs[k] = x at *
     clear hkl hkm
     go_wp2_with fail
     go_quiet (fail)
     go_wp2
     go_roundw
     case rel => exact ⟨k + 1, by omega, by go_num, below_drewN HB.out _, HS.out⟩
     case measure => simp [intOf]; omega
    ·have htt : t = false := by
      rw [← HT.out, beq_eq_false_iff_ne]
      rintro rfl
      exact he rfl
     subst htt
     have hne : bi xs[k] ≠ bi ys[k] := fun e => he (bi_inj e)
     clear he
     replace hcell : wr.cell? (ad.add k) = some (.int .u8 (bi xs[k])) := hcell
     replace hcell' : wr.cell? (ad'.add k) = some (.int .u8 (bi ys[k])) := hcell'
     generalize bi xs[k] = x at *
     generalize bi ys[k] = y at *
     clear hkl hkm
     have hne' : (x == y) = false := beq_eq_false_iff_ne.2 hne
     clear hne
     go_wp2_with fail
     go_quiet (fail)
     go_wp2
     go_ret
     exact ⟨rfl, below_drewN HB.out _⟩
   ·have htt : t = true := by
     rw [← HT.out, beq_iff_eq]
     have := HTK.out
     rwa [List.take_of_length_le (by rw [HL.out]; omega), List.take_of_length_le (by rw [HM.out]; omega)] at this
    subst htt
    go_wp2
    go_ret
    exact ⟨rfl, HB.out⟩
 ·have htt : t = false := by
   rw [← HT.out, beq_eq_false_iff_ne]
   rintro rfl
   exact hlm (HL.out.symm.trans HM.out)
  subst htt
  have hne : ((l : Int) == (m : Int)) = false := beq_eq_false_iff_ne.2 (by omega)
  clear hlm
  go_enter Tryz.func233, Tryz.ntmps233
  go_wp2
  go_ret
  exact ⟨rfl, Below.refl _ _⟩
set_option maxRecDepth 100000 in
set_option maxHeartbeats 800000 in
theorem eqt_any (v v' : Value) (xs ys : List (List UInt8)) (w : World) (h : SlV w v ((xs.map str).map sv)) (h' : SlV w v' ((ys.map str).map sv)) : Calls Tryz.prog 235 #[v, v'] w (BoolPost w (xs == ys)) := by
 obtain ⟨A, c, rfl, hlc, hcm, hR⟩ := h.len
 obtain ⟨A', c', rfl, hlc', hcm', hR'⟩ := h'.len
 simp only [List.length_map] at hlc hR hlc' hR' ⊢
 unfold maxLen at hcm hcm'
 have HR := Lib.hid hR
 have HR' := Lib.hid hR'
 obtain ⟨l, hl⟩ : ∃ l, xs.length = l := ⟨_, rfl⟩
 obtain ⟨m, hm⟩ : ∃ m, ys.length = m := ⟨_, rfl⟩
 obtain ⟨t, ht⟩ : ∃ t, (xs == ys) = t := ⟨_, rfl⟩
 rw [hl] at hlc ⊢
 rw [hm] at hlc' ⊢
 rw [ht]
 have HL := Lib.hid hl
 have HM := Lib.hid hm
 have HT := Lib.hid ht
 clear h h' hR hR' hl hm ht
 by_cases hlm : l = m
 ·subst hlm
  go_enter Tryz.func235, Tryz.ntmps235
  go_wp2
  go_loopw [13] (fun i wr => ∃ k : Nat, k ≤ l ∧ i = .int .i64 k ∧ Below w.heap.size w wr ∧ xs.take k = ys.take k) (fun i _ => l - (intOf i).toNat)
  case atStart => exact ⟨0, Nat.zero_le _, rfl, Below.refl _ _, rfl⟩
  case round =>
   obtain ⟨k, hk, rfl, hb, htk⟩ := hrel
   have HB := Lib.hid hb
   have HTK := Lib.hid htk
   clear hb htk
   by_cases hlt : k < l
   ·have hkl : k < xs.length := by rw [HL.out]; exact hlt
    have hkm : k < ys.length := by rw [HM.out]; exact hlt
    obtain ⟨ad, rfl, hcell⟩ := reads_at ((HR.out.below HB.out).more HB.out.size) k (sv (str xs[k])) (by rw [List.map_map, List.getElem?_map, List.getElem?_eq_getElem hkl]; rfl)
    obtain ⟨ad', rfl, hcell'⟩ := reads_at ((HR'.out.below HB.out).more HB.out.size) k (sv (str ys[k])) (by rw [List.map_map, List.getElem?_map, List.getElem?_eq_getElem hkm]; rfl)
    have z0 : (0 : Int) ≤ (k : Int) := by omega
    have z1 : (k : Int) < (l : Int) := by omega
    by_cases he : xs[k] = ys[k]
    ·have HS := Lib.hid (take_snoc hkl hkm HTK.out he)
     rw [← he] at hcell'
     clear he
     replace hcell : wr.cell? (ad.add k) = some (.string (str xs[k])) := hcell
     replace hcell' : wr.cell? (ad'.add k) = some (.string (str xs[k])) := hcell'
     generalize str xs[k] = x at *
     clear hkl hkm
     go_wp2_with fail
     go_quiet (fail)
     go_wp2
     go_roundw
     case rel => exact ⟨k + 1, by omega, by go_num, below_drewN HB.out _, HS.out⟩
     case measure => simp [intOf]; omega
    ·have htt : t = false := by
      rw [← HT.out, beq_eq_false_iff_ne]
      rintro rfl
      exact he rfl
     subst htt
     have hne : str xs[k] ≠ str ys[k] := fun e => he (str_inj e)
     clear he
     replace hcell : wr.cell? (ad.add k) = some (.string (str xs[k])) := hcell
     replace hcell' : wr.cell? (ad'.add k) = some (.string (str ys[k])) := hcell'
     generalize str xs[k] = x at *
     generalize str ys[k] = y at *
     clear hkl hkm
     have hne' := toList_ne' hne
     clear hne
     go_wp2_with fail
     go_quiet (fail)
     go_wp2
     go_ret
     exact ⟨rfl, below_drewN HB.out _⟩
   ·have htt : t = true := by
     rw [← HT.out, beq_iff_eq]
     have := HTK.out
     rwa [List.take_of_length_le (by rw [HL.out]; omega), List.take_of_length_le (by rw [HM.out]; omega)] at this
    subst htt
    go_wp2
    go_ret
    exact ⟨rfl, HB.out⟩
 ·have htt : t = false := by
   rw [← HT.out, beq_eq_false_iff_ne]
   rintro rfl
   exact hlm (HL.out.symm.trans HM.out)
  subst htt
  have hne : ((l : Int) == (m : Int)) = false := beq_eq_false_iff_ne.2 (by omega)
  clear hlm
  go_enter Tryz.func235, Tryz.ntmps235
  go_wp2
  go_ret
  exact ⟨rfl, Below.refl _ _⟩
set_option maxRecDepth 100000 in
set_option maxHeartbeats 800000 in
theorem eqi_any (v v' : Value) (xs ys : List ItM) (w : World) (h : SlI w v xs) (h' : SlI w v' ys) : Calls Tryz.prog 234 #[v, v'] w (BoolPost w (xs == ys)) := by
 obtain ⟨A, c, rfl, hlc, hcm, _, hR⟩ := h
 obtain ⟨A', c', rfl, hlc', hcm', _, hR'⟩ := h'
 unfold maxLen at hcm hcm'
 have HR := Lib.hid hR
 have HR' := Lib.hid hR'
 obtain ⟨l, hl⟩ : ∃ l, xs.length = l := ⟨_, rfl⟩
 obtain ⟨m, hm⟩ : ∃ m, ys.length = m := ⟨_, rfl⟩
 obtain ⟨t, ht⟩ : ∃ t, (xs == ys) = t := ⟨_, rfl⟩
 rw [hl] at hlc ⊢
 rw [hm] at hlc' ⊢
 rw [ht]
 have HL := Lib.hid hl
 have HM := Lib.hid hm
 have HT := Lib.hid ht
 clear hR hR' hl hm ht
 by_cases hlm : l = m
 ·subst hlm
  go_enter Tryz.func234, Tryz.ntmps234
  go_wp2
  go_loopw [13] (fun i wr => ∃ k : Nat, k ≤ l ∧ i = .int .i64 k ∧ Below w.heap.size w wr ∧ xs.take k = ys.take k) (fun i _ => l - (intOf i).toNat)
  case atStart => exact ⟨0, Nat.zero_le _, rfl, Below.refl _ _, rfl⟩
  case round =>
   obtain ⟨k, hk, rfl, hb, htk⟩ := hrel
   have HB := Lib.hid hb
   have HTK := Lib.hid htk
   clear hb htk
   by_cases hlt : k < l
   ·have hkl : k < xs.length := by rw [HL.out]; exact hlt
    have hkm : k < ys.length := by rw [HM.out]; exact hlt
    obtain ⟨ad, rfl, c0, c1, c2⟩ := items_at (HR.out.below HB.out) rfl k xs[k] (List.getElem?_eq_getElem hkl)
    obtain ⟨ad', rfl, d0, d1, d2⟩ := items_at (HR'.out.below HB.out) rfl k ys[k] (List.getElem?_eq_getElem hkm)
    have z0 : (0 : Int) ≤ (k : Int) := by omega
    have z1 : (k : Int) < (l : Int) := by omega
    obtain ⟨p, hp⟩ : ∃ p, xs[k] = p := ⟨_, rfl⟩
    obtain ⟨q, hq⟩ : ∃ q, ys[k] = q := ⟨_, rfl⟩
    obtain ⟨r, hr⟩ : ∃ r, (p == q) = r := ⟨_, rfl⟩
    have HS : Hid (r = true → xs.take (k + 1) = ys.take (k + 1)) := fun e => take_snoc hkl hkm HTK.out (by rw [hp, hq]; rw [e] at hr; exact beq_iff_eq.1 hr)
    have HN : Hid (r = false → t = false) := fun e => by
     rw [← HT.out, beq_eq_false_iff_ne]
     rintro rfl
     rw [e] at hr
     exact (beq_eq_false_iff_ne.1 hr) (hp.symm.trans hq)
    rw [hp] at c0 c1 c2
    rw [hq] at d0 d1 d2
    clear hp hq hkl hkm
    cases r with
    | true =>
     have HSS := Lib.hid (HS.out rfl)
     obtain rfl : p = q := beq_iff_eq.1 hr
     clear hr HS HN
     generalize p.1 = x0 at *
     generalize str p.2.1 = x1 at *
     generalize str p.2.2 = x2 at *
     go_wp2_with fail
     go_quiet (fail)
     go_wp2
     go_roundw
     case rel => exact ⟨k + 1, by omega, by go_num, below_drewN HB.out _, HSS.out⟩
     case measure => simp [intOf]; omega
    | false =>
     obtain rfl := HN.out rfl
     clear HS HN
     obtain ⟨p0, p1, p2⟩ := p
     obtain ⟨q0, q1, q2⟩ := q
     replace c0 : wr.cell? (ad.add (k * 3)) = some (.int .i64 p0) := c0
     replace c1 : wr.cell? ⟨(ad.add (k * 3)).block, (ad.add (k * 3)).off + 1, none⟩ = some (.string (str p1)) := c1
     replace c2 : wr.cell? ⟨(ad.add (k * 3)).block, (ad.add (k * 3)).off + 2, none⟩ = some (.string (str p2)) := c2
     replace d0 : wr.cell? (ad'.add (k * 3)) = some (.int .i64 q0) := d0
     replace d1 : wr.cell? ⟨(ad'.add (k * 3)).block, (ad'.add (k * 3)).off + 1, none⟩ = some (.string (str q1)) := d1
     replace d2 : wr.cell? ⟨(ad'.add (k * 3)).block, (ad'.add (k * 3)).off + 2, none⟩ = some (.string (str q2)) := d2
     by_cases e0 : p0 = q0
     ·subst e0
      by_cases e1 : p1 = q1
      ·subst e1
       have hne := toList_ne' (fun e => (beq_eq_false_iff_ne.1 hr) (by rw [str_inj e]) : str p2 ≠ str q2)
       clear hr
       generalize str p1 = x1 at *
       generalize str p2 = x2 at *
       generalize str q2 = y2 at *
       go_wp2_with fail
       go_quiet (fail)
       go_wp2
       go_ret
       exact ⟨rfl, below_drewN HB.out _⟩
      ·have hne := toList_ne' (fun e => e1 (str_inj e) : str p1 ≠ str q1)
       clear hr e1
       generalize str p1 = x1 at *
       generalize str q1 = y1 at *
       generalize str p2 = x2 at *
       generalize str q2 = y2 at *
       go_wp2_with fail
       go_quiet (fail)
       go_wp2
       go_ret
       exact ⟨rfl, below_drewN HB.out _⟩
     ·have hne : (p0 == q0) = false := beq_eq_false_iff_ne.2 e0
      clear hr e0
      generalize str p1 = x1 at *
      generalize str q1 = y1 at *
      generalize str p2 = x2 at *
      generalize str q2 = y2 at *
      go_wp2_with fail
      go_quiet (fail)
      go_wp2
      go_ret
      exact ⟨rfl, below_drewN HB.out _⟩
   ·have htt : t = true := by
     rw [← HT.out, beq_iff_eq]
     have := HTK.out
     rwa [List.take_of_length_le (by rw [HL.out]; omega), List.take_of_length_le (by rw [HM.out]; omega)] at this
    subst htt
    go_wp2
    go_ret
    exact ⟨rfl, HB.out⟩
 ·have htt : t = false := by
   rw [← HT.out, beq_eq_false_iff_ne]
   rintro rfl
   exact hlm (HL.out.symm.trans HM.out)
  subst htt
  have hne : ((l : Int) == (m : Int)) = false := beq_eq_false_iff_ne.2 (by omega)
  clear hlm
  go_enter Tryz.func234, Tryz.ntmps234
  go_wp2
  go_ret
  exact ⟨rfl, Below.refl _ _⟩
end Go.Proofs.YtbenkmihkbjgeaaGreat.Ob
/- obj: what may be of a message, of parents. -/
namespace Go.Proofs.YtbenkmihkbjgeaaGreat.Ob
open Go.RowKit Go.Proofs.YtbenkmihkbjgeaaGreat.Sh
open Go.Proofs.YtbenkmihkbjgeaaGreat.Tx (OwnV SlV sv bl nameB reads_at texts_at toList_ne')
theorem all_bad {f : Nat → Bool} {n k : Nat} (hk : k < n) (h : f k = false) : (List.range n).all f = false := by
 rw [List.all_eq_false]
 exact ⟨k, List.mem_range.2 hk, by rw [h]; simp⟩
theorem all_next {f : Nat → Bool} {k : Nat} (h : (List.range k).all f = true) (hk : f k = true) : (List.range (k + 1)).all f = true := by
 rw [List.range_succ, List.all_append, h]
 simp [hk]
def validB (cs : List UInt8) : Bool := cs.length == 64 && hexOk cs
theorem valid_all (cs : List UInt8) (w : World) : Calls Tryz.prog 180 #[.string (str cs)] w fun e w' => e = .returned (.bool (validB cs)) ∧ w = w' := by
 by_cases h64 : cs.length = 64
 ·exact valid_any cs _ rfl w (by omega)
 ·have hb : validB cs = false := by unfold validB; rw [beq_eq_false_iff_ne.2 h64]; rfl
  rw [hb]
  have hsz := str_size cs
  obtain ⟨l, hL⟩ : ∃ l, cs.length = l := ⟨_, rfl⟩
  rw [hL] at hsz h64
  have e1 : ((l : Int) == 64) = false := beq_eq_false_iff_ne.2 (by omega)
  clear hL
  go_enter Tryz.func180, Tryz.ntmps180
  go_wp2_with fail
  go_ret
  exact ⟨rfl, rfl⟩
theorem name_all (cs : List UInt8) (w : World) : Calls Tryz.prog 157 #[.string (str cs)] w fun e w' => e = .returned (.bool (nameB cs)) ∧ w = w' := Tx.cname_all cs w
def okm (c : UInt8) : Bool := decide (32 ≤ bi c) && decide (bi c ≤ 126)
def msgB (s : List UInt8) : Bool := decide (s.length ≤ 200) && (List.range s.length).all fun j => okm (s.getD j 0)
set_option maxRecDepth 100000 in
set_option maxHeartbeats 800000 in
theorem msg_any (cs : List UInt8) (w : World) : Calls Tryz.prog 218 #[.string (str cs)] w fun e w' => e = .returned (.bool (msgB cs)) ∧ w = w' := by
 have hsz := str_size cs
 obtain ⟨l, hL⟩ : ∃ l, cs.length = l := ⟨_, rfl⟩
 obtain ⟨t, ht⟩ : ∃ t, msgB cs = t := ⟨_, rfl⟩
 rw [ht]
 unfold msgB at ht
 rw [hL] at hsz ht
 have HL := Lib.hid hL
 have HT := Lib.hid ht
 have n0 : (0 : Int) ≤ (l : Int) := by omega
 clear hL ht
 by_cases h2 : 200 < l
 ·have htt : t = false := by
   rw [← HT.out]
   simp [show ¬ (l ≤ 200) from by omega]
  subst htt
  have l2 : (200 : Int) < (l : Int) := by omega
  clear h2
  go_enter Tryz.func218, Tryz.ntmps218
  go_wp2
  go_ret
  exact ⟨rfl, rfl⟩
 ·have l2 : (l : Int) ≤ 200 := by omega
  have HN := Lib.hid h2
  clear h2
  go_enter Tryz.func218, Tryz.ntmps218
  go_wp2
  go_loop [9] (fun i => ∃ k : Nat, k ≤ l ∧ i = .int .i64 k ∧ (List.range k).all (fun j => okm (cs.getD j 0)) = true) (fun i => l - (intOf i).toNat)
  case atStart => exact ⟨0, by omega, rfl, rfl⟩
  case round =>
   obtain ⟨k, hk, rfl, hok⟩ := hrel
   have HOK := Lib.hid hok
   clear hok
   have k0 : (0 : Int) ≤ (k : Int) := by omega
   by_cases hlt : k < l
   ·have k1 : (k : Int) < (l : Int) := by omega
    have hix := index_str cs k (by rw [HL.out]; exact hlt)
    obtain ⟨x, hx⟩ : ∃ x, cs.getD k 0 = x := ⟨_, rfl⟩
    rw [hx] at hix
    have HX := Lib.hid hx
    clear hx
    by_cases c1 : bi x < 32
    ·have htt : t = false := by
      rw [← HT.out, all_bad hlt (by rw [HX.out]; unfold okm; simp [show ¬ (32 ≤ bi x) from by omega])]
      simp
     subst htt
     generalize bi x = y at *
     go_wp2
     go_ret
     exact ⟨rfl, rfl⟩
    ·have c1' : 32 ≤ bi x := by omega
     clear c1
     by_cases c2 : 126 < bi x
     ·have htt : t = false := by
       rw [← HT.out, all_bad hlt (by rw [HX.out]; unfold okm; simp [show ¬ (bi x ≤ 126) from by omega])]
       simp
      subst htt
      generalize bi x = y at *
      go_wp2
      go_ret
      exact ⟨rfl, rfl⟩
     ·have c2' : bi x ≤ 126 := by omega
      have HO := Lib.hid (all_next HOK.out (show okm (cs.getD k 0) = true from by rw [HX.out]; unfold okm; simp [c1', c2']))
      clear c2
      generalize bi x = y at *
      go_wp2
      go_round
      case rel => exact ⟨k + 1, by omega, by go_num, HO.out⟩
      case measure => simp [intOf]; omega
   ·obtain rfl : k = l := by omega
    have htt : t = true := by
     rw [← HT.out, HOK.out]
     simp
     omega
    subst htt
    go_wp2
    go_ret
    exact ⟨rfl, rfl⟩
def parB (ids : List (List UInt8)) : Bool := decide (ids.length ≤ 2) && (List.range ids.length).all fun j => validB (ids.getD j []) && (decide (j = 0) || bl (ids.getD (j - 1) []) (ids.getD j []))
theorem par_at {w : World} {B : Nat} {ids : List (List UInt8)} {A : Option Addr} {n : Nat} (h : Reads w B 1 A n ((ids.map str).map sv)) (k : Nat) (hk : k < ids.length) : ∃ ad, A = some ad ∧ w.cell? (ad.add k) = some (.string (str (ids.getD k []))) := by
 have : ((ids.map str).map sv)[k]? = some (sv (str (ids.getD k []))) := by
  rw [List.map_map, List.getElem?_map, List.getElem?_eq_getElem hk, List.getD_eq_getElem?_getD, List.getElem?_eq_getElem hk]
  rfl
 exact reads_at h k _ this
set_option maxRecDepth 100000 in
set_option maxHeartbeats 800000 in
theorem par_any (v : Value) (ids : List (List UInt8)) (w : World) (h : SlV w v ((ids.map str).map sv)) : Calls Tryz.prog 217 #[v] w fun e w' => e = .returned (.bool (parB ids)) ∧ w = w' := by
 obtain ⟨A, c, rfl, hlc, hcm, hR⟩ := h.len
 rw [List.length_map, List.length_map] at hlc hR ⊢
 have HR := Lib.hid hR
 unfold maxLen at hcm
 obtain ⟨l, hL⟩ : ∃ l, ids.length = l := ⟨_, rfl⟩
 obtain ⟨t, ht⟩ : ∃ t, parB ids = t := ⟨_, rfl⟩
 rw [ht]
 unfold parB at ht
 rw [hL] at hlc ht ⊢
 have HL := Lib.hid hL
 have HT := Lib.hid ht
 clear hL ht h hR
 by_cases h2 : 2 < l
 ·have htt : t = false := by
   rw [← HT.out]
   simp [show ¬ (l ≤ 2) from by omega]
  subst htt
  have l2 : (2 : Int) < (l : Int) := by omega
  clear h2
  go_enter Tryz.func217, Tryz.ntmps217
  go_wp2
  go_ret
  exact ⟨rfl, rfl⟩
 ·have l2 : (l : Int) ≤ 2 := by omega
  have HN := Lib.hid h2
  clear h2
  go_enter Tryz.func217, Tryz.ntmps217
  go_wp2
  go_loop [10] (fun i => ∃ k : Nat, k ≤ l ∧ i = .int .i64 k ∧ (List.range k).all (fun j => validB (ids.getD j []) && (decide (j = 0) || bl (ids.getD (j - 1) []) (ids.getD j []))) = true) (fun i => l - (intOf i).toNat)
  case atStart => exact ⟨0, by omega, rfl, rfl⟩
  case round =>
   obtain ⟨k, hk, rfl, hok⟩ := hrel
   have HOK := Lib.hid hok
   clear hok
   have k0 : (0 : Int) ≤ (k : Int) := by omega
   by_cases hlt : k < l
   ·have k1 : (k : Int) < (l : Int) := by omega
    obtain ⟨ad, rfl, hcell⟩ := par_at HR.out k (by rw [HL.out]; exact hlt)
    obtain ⟨x, hx⟩ : ∃ x, ids.getD k [] = x := ⟨_, rfl⟩
    rw [hx] at hcell
    have HX := Lib.hid hx
    obtain ⟨b, hb⟩ : ∃ b, validB x = b := ⟨_, rfl⟩
    have HB := Lib.hid hb
    clear hx hb
    cases b with
    | false =>
     have htt : t = false := by
      rw [← HT.out, all_bad hlt (by rw [HX.out, HB.out]; rfl)]
      simp
     subst htt
     go_wp2_with fail
     refine (valid_all x _).mono ?_
     rw [HB.out]
     rintro e w' ⟨rfl, rfl⟩
     go_wp2
     go_ret
     exact ⟨rfl, rfl⟩
    | true =>
     rcases Nat.eq_zero_or_pos k with h0 | h0
     ·have HO := Lib.hid (all_next HOK.out (show (validB (ids.getD k []) && (decide (k = 0) || bl (ids.getD (k - 1) []) (ids.getD k []))) = true from by rw [HX.out, HB.out]; simp [h0]))
      have kz : (k : Int) ≤ 0 := by omega
      clear h0
      go_wp2_with fail
      refine (valid_all x _).mono ?_
      rw [HB.out]
      rintro e w' ⟨rfl, rfl⟩
      go_wp2
      go_round
      case rel => exact ⟨k + 1, by omega, by go_num, HO.out⟩
      case measure => simp [intOf]; omega
     ·obtain ⟨j, hj⟩ : ∃ j, k = j + 1 := ⟨k - 1, by omega⟩
      have hkj : (k : Int) - 1 = (j : Int) := by omega
      have hwj : IntKind.i64.wrap ((k : Int) - 1) = (j : Int) := by rw [IntKind.wrap_i64]; omega
      have kp : (0 : Int) < (k : Int) := by omega
      obtain ⟨ad', had, hcell'⟩ := par_at HR.out j (by rw [HL.out]; omega)
      injection had with had
      subst had
      obtain ⟨y, hy⟩ : ∃ y, ids.getD j [] = y := ⟨_, rfl⟩
      rw [hy] at hcell'
      obtain ⟨r, hr⟩ : ∃ r, Op.bytesLess (str y).toList (str x).toList = r := ⟨_, rfl⟩
      have hr' : bl y x = r := by rw [str_toList, str_toList] at hr; exact hr
      have j0 : (0 : Int) ≤ (j : Int) := by omega
      have j1 : (j : Int) < (l : Int) := by omega
      have HY := Lib.hid hy
      have HJ := Lib.hid hj
      have HRR := Lib.hid hr'
      clear hy hr' hj
      have hf : (validB (ids.getD k []) && (decide (k = 0) || bl (ids.getD (k - 1) []) (ids.getD k []))) = r := by
       rw [HX.out, HB.out, show k - 1 = j from by have := HJ.out; omega, HY.out, HRR.out]
       simp [show k ≠ 0 from by omega]
      have HF := Lib.hid hf
      clear hf h0
      cases r with
      | false =>
       have htt : t = false := by
        rw [← HT.out, all_bad hlt HF.out]
        simp
       subst htt
       go_wp2_with fail
       refine (valid_all x _).mono ?_
       rw [HB.out]
       rintro e w' ⟨rfl, rfl⟩
       go_wp2
       go_ret
       exact ⟨rfl, rfl⟩
      | true =>
       have HO := Lib.hid (all_next HOK.out HF.out)
       go_wp2_with fail
       refine (valid_all x _).mono ?_
       rw [HB.out]
       rintro e w' ⟨rfl, rfl⟩
       go_wp2
       go_round
       case rel => exact ⟨k + 1, by omega, by go_num, HO.out⟩
       case measure => simp [intOf]; omega
   ·obtain rfl : k = l := by omega
    have htt : t = true := by
     rw [← HT.out, HOK.out]
     simp
     omega
    subst htt
    go_wp2
    go_ret
    exact ⟨rfl, rfl⟩
end Go.Proofs.YtbenkmihkbjgeaaGreat.Ob
