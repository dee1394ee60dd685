/- Texts put together: UNc4, UNc5. -/
import Derived.Test.YtbenkmihkbjgeaaGreatQu07
/- Package names: cutSlash, Pattern. -/
namespace Go.Proofs.YtbenkmihkbjgeaaGreat.Tx
open Go.RowKit Go.Proofs.YtbenkmihkbjgeaaGreat.Sh
/-! A star that stands at an end, or in the midst: plain lists. -/
theorem pat_mid {p q : List UInt8} {j : Nat} (hc : patCore p = q) (h1 : 1 ≤ j) (h2 : j + 1 < q.length) (h : q[j]? = some 42) : patL p = none := by
 unfold patL
 rw [hc]
 split
 ·split
  ·rename_i a hs
   have hl : (splitL 42 q).length = 1 := by rw [hs]; rfl
   rw [splitL_length] at hl
   have := List.count_eq_zero.1 (show q.count 42 = 0 from by omega)
   exact absurd (List.mem_of_getElem? h) this
  ·rename_i a b hs
   have hj := joinL_splitL 42 q
   rw [hs] at hj
   have hq : a ++ 42 :: b = q := hj
   have ha : 42 ∉ a := splitL_mem (g := 42) (s := q) (by rw [hs]; simp)
   have hb : 42 ∉ b := splitL_mem (g := 42) (s := q) (by rw [hs]; simp)
   have e : j = a.length := by
    rcases Nat.lt_trichotomy j a.length with e | e | e
    ·rw [← hq, List.getElem?_append_left e] at h
     exact absurd (List.mem_of_getElem? h) ha
    ·exact e
    ·rw [← hq, List.getElem?_append_right (by omega), show j - a.length = (j - a.length - 1) + 1 from by omega, List.getElem?_cons_succ] at h
     exact absurd (List.mem_of_getElem? h) hb
   have hbl : 0 < b.length := by
    have := congrArg List.length hq
    rw [List.length_append, List.length_cons] at this
    omega
   rw [if_pos]
   cases a with
   | nil => simp at e; omega
   | cons y r =>
    cases b with
    | nil => simp at hbl
    | cons z t => rfl
  ·rfl
 ·rfl
theorem pat_ends {p q : List UInt8} {m : Nat} (hc : patCore p = q) (hn : nameB q = true) (hl : q.length = m + 1) (hno : ∀ j, 1 ≤ j → j < m → q[j]? ≠ some 42) :
  (patL p).isSome = !(q.getD 0 0 == 42 && q.getD m 0 == 42) := by
 cases q with
 | nil => simp at hl
 | cons x r =>
  rw [List.length_cons] at hl
  have hrl : r.length = m := by omega
  rcases Nat.eq_zero_or_pos m with h0 | h0
  ·have hr : r = [] := List.eq_nil_of_length_eq_zero (by omega)
   subst hr h0
   by_cases hx : x = 42
   ·subst hx
    rw [patL_two (a := []) (b := []) hc hn (by decide)]
    rfl
   ·rw [patL_one (y := [x]) hc hn (splitL_none (by simp; exact fun e => hx e.symm))]
    simp [hx]
  ·obtain ⟨mid, y, rfl⟩ : ∃ mid y, r = mid ++ [y] := ⟨r.dropLast, r.getLast (by intro e; rw [e] at hrl; simp at hrl; omega), (List.dropLast_concat_getLast _).symm⟩
   rw [List.length_append, List.length_singleton] at hrl
   have hmid : 42 ∉ mid := by
    intro hm
    obtain ⟨i, hi, e⟩ := List.getElem_of_mem hm
    refine hno (i + 1) (by omega) (by omega) ?_
    rw [List.getElem?_cons_succ, List.getElem?_append_left hi, List.getElem?_eq_getElem hi, e]
   have hy : (x :: (mid ++ [y])).getD m 0 = y := by
    rw [List.getD_eq_getElem?_getD, show m = mid.length + 1 from by omega, List.getElem?_cons_succ, List.getElem?_append_right (Nat.le_refl _), Nat.sub_self]
    rfl
   have hx0 : (x :: (mid ++ [y])).getD 0 0 = x := rfl
   rw [hy, hx0]
   by_cases hx : x = 42
   ·subst hx
    by_cases hy2 : y = 42
    ·subst hy2
     rw [patL_many hc hn (by rw [splitL_sign, splitL_cut hmid]; simp [splitL])]
     rfl
    ·have hnm : 42 ∉ mid ++ [y] := by
      rw [List.mem_append, List.mem_singleton]
      rintro (h | h)
      ·exact hmid h
      ·exact hy2 h.symm
     rw [patL_ahead hc hn (by rw [splitL_sign, splitL_none hnm]) (by simp)]
     simp [hy2]
   ·have hxm : 42 ∉ x :: mid := by
     rw [List.mem_cons]
     rintro (h | h)
     ·exact hx h.symm
     ·exact hmid h
    by_cases hy2 : y = 42
    ·subst hy2
     rw [patL_behind hc hn (a := x :: mid) (by rw [← List.cons_append, splitL_cut hxm]; rfl) (by simp)]
     simp [hx]
    ·have hnm : 42 ∉ x :: (mid ++ [y]) := by
      rw [← List.cons_append, List.mem_append, List.mem_singleton]
      rintro (h | h)
      ·exact hxm h
      ·exact hy2 h.symm
     rw [patL_one hc hn (splitL_none hnm)]
     simp [hx]
set_option maxRecDepth 100000 in
set_option maxHeartbeats 800000 in
theorem cut_any (cs : List UInt8) (w : World) (hn : cs.length ≤ 1000000) : Calls Tryz.prog 158 #[.string (str cs)] w fun e w' => e = .returned (.tuple #[.string (str (patCore cs)), .bool (patDir cs)]) ∧ w = w' := by
 have hsz := str_size cs
 rcases Nat.eq_zero_or_pos cs.length with h0 | h0
 ·have hc : cs = [] := List.eq_nil_of_length_eq_zero h0
  subst hc
  clear h0 hn
  go_enter Tryz.func158, Tryz.ntmps158
  go_wp2
  go_ret2
  exact ⟨rfl, rfl⟩
 ·obtain ⟨k, hk⟩ : ∃ k, cs.length = k + 1 := ⟨cs.length - 1, by omega⟩
  have hdir := pat_dir cs k hk
  have hix := index_str cs k (by omega)
  have hsl := slice_str cs 0 k
  rw [List.drop_zero] at hsl
  obtain ⟨x, hx⟩ : ∃ x, cs.getD k 0 = x := ⟨_, rfl⟩
  rw [hx] at hix hdir
  rw [hk] at hsz hn
  have HK := Lib.hid hk
  have k0 : (0 : Int) ≤ (k : Int) := by omega
  have k1 : (k : Int) ≤ 1000000 := by omega
  have k2 : ((k + 1 : Nat) : Int) - 1 = (k : Int) := by omega
  have k3 : (k : Int) + 1 - 1 = (k : Int) := by omega
  have k4 : (k : Int) ≤ (k : Int) + 1 := by omega
  clear hx hk h0
  by_cases h3 : x = 47
  ·subst h3
   have hd : patDir cs = true := by rw [hdir]; rfl
   have HR : Hid (patCore cs = cs.take k ∧ patDir cs = true) := ⟨by unfold patCore; rw [if_pos hd, HK.out]; rfl, hd⟩
   rw [bi47] at hix
   clear hdir hd
   go_enter Tryz.func158, Tryz.ntmps158
   go_wp2
   go_ret2
   exact ⟨by rw [HR.out.1, HR.out.2, ← hsl]; rfl, rfl⟩
  ·have hd : patDir cs = false := by rw [hdir]; simpa using h3
   have HR : Hid (patCore cs = cs ∧ patDir cs = false) := ⟨by unfold patCore; rw [if_neg (by rw [hd]; decide)], hd⟩
   have e3 : (bi x == 47) = false := by rw [← bi47, beq_eq_false_iff_ne]; exact fun e => h3 (bi_inj e)
   generalize bi x = y at *
   clear hdir hd h3 hsl
   go_enter Tryz.func158, Tryz.ntmps158
   go_wp2
   go_ret2
   exact ⟨by rw [HR.out.1, HR.out.2]; rfl, rfl⟩
theorem bi_star {x : UInt8} (h : x ≠ 42) : (bi x == 42) = false ∧ (bi x != 42) = true := by
 have e : bi x ≠ 42 := by rw [← bi42]; exact fun e => h (bi_inj e)
 exact ⟨beq_eq_false_iff_ne.2 e, bne_iff_ne.2 e⟩
set_option maxRecDepth 100000 in
set_option maxHeartbeats 1600000 in
theorem npattern_any (cs : List UInt8) (w : World) (hn : cs.length ≤ 1000000) : Calls Tryz.prog 109 #[.string (str cs)] w (BoolPost w (patL cs).isSome) := by
 have hql := patCore_len cs
 obtain ⟨q, hq⟩ : ∃ q, patCore cs = q := ⟨_, rfl⟩
 have HQ := Lib.hid hq
 rw [hq] at hql
 have HQL : Hid (q.length ≤ 1000000) := by unfold Hid; omega
 obtain ⟨t, ht⟩ : ∃ t, nameB q = t := ⟨_, rfl⟩
 have HT := Lib.hid ht
 clear hq hql ht
 cases t with
 | false =>
  have HR : Hid (patL cs = none) := patL_no (by rw [HQ.out]; exact HT.out)
  go_enter Tryz.func109, Tryz.ntmps109
  go_wp2_with fail
  refine (cut_any cs _ hn).mono ?_
  rintro e w1 ⟨rfl, rfl⟩
  rw [HQ.out]
  go_wp2_with fail
  refine (cname_any q _ HQL.out).mono ?_
  rintro e w1 ⟨rfl, rfl⟩
  rw [HT.out]
  go_wp2
  go_ret
  exact ⟨by rw [HR.out]; rfl, Below.refl _ _⟩
 | true =>
  have hsz := str_size q
  obtain ⟨m, hm⟩ : ∃ m, q.length = m + 1 := ⟨q.length - 1, by have := nameB_one HT.out; omega⟩
  have HM := Lib.hid hm
  rw [hm] at hsz
  have hm64 : m + 1 ≤ 1000000 := by rw [← hm]; exact HQL.out
  have m0 : (0 : Int) ≤ (m : Int) := by omega
  have m1 : (m : Int) ≤ 1000000 := by omega
  have m2 : ((m + 1 : Nat) : Int) - 1 = (m : Int) := by omega
  have m3 : (m : Int) + 1 - 1 = (m : Int) := by omega
  clear hm
  go_enter Tryz.func109, Tryz.ntmps109
  go_wp2_with fail
  refine (cut_any cs _ hn).mono ?_
  rintro e w1 ⟨rfl, rfl⟩
  rw [HQ.out]
  go_wp2_with fail
  refine (cname_any q _ HQL.out).mono ?_
  rintro e w1 ⟨rfl, rfl⟩
  rw [HT.out]
  go_wp2
  go_loop [6] (fun i => ∃ k : Nat, 1 ≤ k ∧ k ≤ m + 1 ∧ i = .int .i64 k ∧ ∀ j, 1 ≤ j → j < k → q[j]? ≠ some 42) (fun i => m + 1 - (intOf i).toNat)
  case atStart => exact ⟨1, by omega, by omega, rfl, fun j h1 h2 => by omega⟩
  case round =>
   obtain ⟨k, hk1, hk2, rfl, hno⟩ := hrel
   have HNO := Lib.hid hno
   have k0 : (0 : Int) ≤ (k : Int) := by omega
   clear hno
   by_cases hlt : k < m
   ·have z1 : (k : Int) < (m : Int) := by omega
    have hkq : k < q.length := by rw [HM.out]; omega
    have hix := index_str q k hkq
    obtain ⟨x, hx⟩ : ∃ x, q.getD k 0 = x := ⟨_, rfl⟩
    have hx' : q[k]? = some x := by rw [← hx, List.getD_eq_getElem?_getD, List.getElem?_eq_getElem hkq]; rfl
    rw [hx] at hix
    have HX := Lib.hid hx'
    clear hx hx' hkq
    by_cases h3 : x = 42
    ·subst h3
     have HR : Hid (patL cs = none) := pat_mid HQ.out hk1 (by rw [HM.out]; omega) HX.out
     rw [bi42] at hix
     go_wp2
     go_ret
     exact ⟨by rw [HR.out]; rfl, Below.refl _ _⟩
    ·obtain ⟨e1, _⟩ := bi_star h3
     generalize bi x = y at *
     go_wp2
     go_round
     case rel =>
      refine ⟨k + 1, by omega, by omega, by go_num, fun j hj1 hj2 => ?_⟩
      by_cases e : j = k
      ·subst e; rw [HX.out]; exact fun e => h3 (by injection e)
      ·exact HNO.out j hj1 (by omega)
     case measure => simp [intOf]; omega
   ·have z1 : (m : Int) ≤ (k : Int) := by omega
    have hix0 := index_str q 0 (by rw [HM.out]; omega)
    have hixm := index_str q m (by rw [HM.out]; omega)
    have HE := Lib.hid (pat_ends HQ.out HT.out HM.out (fun j h1 h2 => HNO.out j h1 (by omega)))
    obtain ⟨x, hx⟩ : ∃ x, q.getD 0 0 = x := ⟨_, rfl⟩
    obtain ⟨y, hy⟩ : ∃ y, q.getD m 0 = y := ⟨_, rfl⟩
    rw [hx, hy] at HE
    rw [hx] at hix0
    rw [hy] at hixm
    rw [show ((0 : Nat) : Int) = 0 from rfl] at hix0
    clear hx hy
    by_cases hx : x = 42
    ·subst hx
     rw [bi42] at hix0
     by_cases hy : y = 42
     ·subst hy
      rw [bi42] at hixm
      go_wp2
      go_ret
      exact ⟨by rw [HE.out]; rfl, Below.refl _ _⟩
     ·obtain ⟨e1, e2⟩ := bi_star hy
      have HY := Lib.hid hy
      generalize bi y = z at *
      clear hy
      go_wp2
      go_ret
      exact ⟨by rw [HE.out]; simp [HY.out], Below.refl _ _⟩
    ·obtain ⟨e1, e2⟩ := bi_star hx
     have HX := Lib.hid hx
     generalize bi x = z at *
     clear hx
     go_wp2
     go_ret
     exact ⟨by rw [HE.out]; simp [HX.out], Below.refl _ _⟩
end Go.Proofs.YtbenkmihkbjgeaaGreat.Tx
/- Package names: takes, takesOne, Ignored. -/
namespace Go.Proofs.YtbenkmihkbjgeaaGreat.Tx
open Go.RowKit Go.Proofs.YtbenkmihkbjgeaaGreat.Sh
def Kind (q f : List UInt8) (st : Bool) (b : List UInt8) : Prop :=
 (q = 42 :: b ∧ f = [] ∧ st = true ∧ 0 < b.length) ∨ (q = f ++ [42] ∧ st = true ∧ b = [] ∧ 0 < f.length ∧ 42 ∉ f) ∨ (st = false ∧ b = [] ∧ f = q ∧ 42 ∉ q ∧ 0 < q.length)
theorem pat_kind {p f b : List UInt8} {st d : Bool} (h : patL p = some (f, st, b, d)) : Kind (patCore p) f st b ∧ d = patDir p := by
 unfold patL at h
 split at h
 ·rename_i hn
  have h1 := nameB_one hn
  generalize patCore p = q at *
  split at h
  ·rename_i a hs
   have hl : (splitL 42 q).length = 1 := by rw [hs]; rfl
   rw [splitL_length] at hl
   have hno := List.count_eq_zero.1 (show q.count 42 = 0 from by omega)
   injection h with h
   injection h with e1 h
   injection h with e2 h
   injection h with e3 e4
   exact ⟨.inr (.inr ⟨e2.symm, e3.symm, e1.symm, hno, by omega⟩), e4.symm⟩
  ·rename_i a c hs
   split at h
   ·cases h
   ·rename_i hne
    have hj := joinL_splitL 42 q
    rw [hs] at hj
    have hq : a ++ 42 :: c = q := hj
    have ha : 42 ∉ a := splitL_mem (g := 42) (s := q) (by rw [hs]; simp)
    injection h with h
    injection h with e1 h
    injection h with e2 h
    injection h with e3 e4
    subst e1 e3
    refine ⟨?_, e4.symm⟩
    cases a with
    | nil =>
     left
     refine ⟨hq.symm, rfl, e2.symm, ?_⟩
     cases c with
     | nil => exact absurd rfl hne
     | cons z t => simp
    | cons y r =>
     right; left
     have hc : c = [] := by
      cases c with
      | nil => rfl
      | cons z t => exact absurd rfl hne
     subst hc
     exact ⟨hq.symm, e2.symm, rfl, by simp, ha⟩
  ·cases h
 ·cases h
set_option maxRecDepth 100000 in
set_option maxHeartbeats 3200000 in
theorem ntakes_any (q f b cs : List UInt8) (st : Bool) (w : World) (hk : Kind q f st b) (hq : q.length ≤ 1000000) (hc : cs.length ≤ 1000000) :
  Calls Tryz.prog 159 #[.string (str q), .string (str cs)] w (BoolPost w (takesB f st b cs)) := by
 have hqz := str_size q
 have hcz := str_size cs
 obtain ⟨l, hL⟩ : ∃ l, cs.length = l := ⟨_, rfl⟩
 rw [hL] at hcz hc
 have l0 : (0 : Int) ≤ (l : Int) := by omega
 have l1 : (l : Int) ≤ 1000000 := by omega
 have HL := Lib.hid hL
 rcases hk with ⟨rfl, rfl, rfl, hb0⟩ | ⟨rfl, rfl, rfl, hf0, hno⟩ | ⟨rfl, rfl, rfl, hno, hf0⟩
 ·-- a star at its front
  have hix := index_str (42 :: b) 0 (by simp)
  rw [show (42 :: b).getD 0 0 = 42 from rfl, bi42, show ((0 : Nat) : Int) = 0 from rfl] at hix
  obtain ⟨m, hM⟩ : ∃ m, b.length = m := ⟨_, rfl⟩
  rw [List.length_cons, hM] at hqz hq
  have m0 : (0 : Int) ≤ (m : Int) := by omega
  have m1 : (m : Int) ≤ 1000000 := by omega
  have m2 : ((m + 1 : Nat) : Int) - 1 = (m : Int) := by omega
  have m3 : (m : Int) + 1 - 1 = (m : Int) := by omega
  have HU : Hid (takesB [] true b cs = (decide (m ≤ l) && (cs.drop (l - m) == b))) := by
   unfold Hid takesB
   rw [if_pos rfl, hM, hL]
   simp
  have hs1 := slice_str (42 :: b) 1 (m + 1)
  rw [List.take_of_length_le (by rw [List.length_cons, hM]; exact Nat.le_refl _), List.drop_succ_cons, List.drop_zero] at hs1
  by_cases hle : m ≤ l
  ·have z1 : (m : Int) ≤ (l : Int) := by omega
   obtain ⟨d, hd⟩ : ∃ d, l - m = d := ⟨_, rfl⟩
   have hdi : (l : Int) - (m : Int) = (d : Int) := by omega
   have d0 : (0 : Int) ≤ (d : Int) := by omega
   have d1 : (d : Int) ≤ (l : Int) := by omega
   have hs2 := slice_str cs d l
   rw [List.take_of_length_le (by rw [hL]; exact Nat.le_refl _)] at hs2
   have q2 := same_texts (cs.drop d) b
   obtain ⟨t, ht⟩ : ∃ t, (cs.drop d == b) = t := ⟨_, rfl⟩
   rw [ht, ← hs1, ← hs2] at q2
   have HR : Hid (takesB [] true b cs = t) := by unfold Hid; rw [HU.out, hd, ht]; simp [hle]
   have w1 : IntKind.i64.wrap ((l : Int) - (m : Int)) = (d : Int) := by rw [hdi]; exact IntWalk.i64_in _ (by omega)
   clear hs1 hs2 ht hd hM hL hb0
   go_enter Tryz.func159, Tryz.ntmps159
   go_wp2_with fail
   go_quiet (fail)
   go_wp2
   go_ret
   exact ⟨by rw [HR.out]; rfl, below_drewN (Below.refl _ _) _⟩
  ·have z1 : (l : Int) < (m : Int) := by omega
   have HR : Hid (takesB [] true b cs = false) := by unfold Hid; rw [HU.out]; simp [hle]
   clear hs1 hM hL hb0
   go_enter Tryz.func159, Tryz.ntmps159
   go_wp2_with fail
   go_quiet (fail)
   go_wp2
   go_ret
   exact ⟨by rw [HR.out]; rfl, below_drewN (Below.refl _ _) _⟩
 ·-- a star at its end
  obtain ⟨m, hM⟩ : ∃ m, f.length = m := ⟨_, rfl⟩
  have hql : (f ++ [42]).length = m + 1 := by rw [List.length_append, hM]; rfl
  rw [hql] at hqz hq
  obtain ⟨y, hy⟩ : ∃ y, (f ++ [42]).getD 0 0 = y := ⟨_, rfl⟩
  have hy42 : y ≠ 42 := by
   cases f with
   | nil => simp at hf0
   | cons z r => intro e; rw [e] at hy; exact hno (by rw [show z = 42 from hy]; exact List.mem_cons_self)
  have hix := index_str (f ++ [42]) 0 (by rw [hql]; omega)
  have hixm := index_str (f ++ [42]) m (by rw [hql]; omega)
  rw [hy, show ((0 : Nat) : Int) = 0 from rfl] at hix
  have hfm : (f ++ [42]).getD m 0 = 42 := by rw [List.getD_eq_getElem?_getD, List.getElem?_append_right (by omega), hM, Nat.sub_self]; rfl
  rw [hfm, bi42] at hixm
  obtain ⟨e1, e2⟩ := bi_star hy42
  generalize bi y = z at *
  have m0 : (0 : Int) ≤ (m : Int) := by omega
  have m1 : (m : Int) ≤ 1000000 := by omega
  have m2 : ((m + 1 : Nat) : Int) - 1 = (m : Int) := by omega
  have m3 : (m : Int) + 1 - 1 = (m : Int) := by omega
  have m4 : (m : Int) ≤ (m : Int) + 1 := by omega
  have HU : Hid (takesB f true [] cs = (decide (m ≤ l) && (cs.take m == f))) := by
   unfold Hid takesB
   rw [if_pos rfl, hM, hL]
   simp
   intros
   omega
  have hs1 := slice_str (f ++ [42]) 0 m
  rw [List.drop_zero, List.take_left' hM] at hs1
  by_cases hle : m ≤ l
  ·have z1 : (m : Int) ≤ (l : Int) := by omega
   have hs2 := slice_str cs 0 m
   rw [List.drop_zero] at hs2
   have q2 := same_texts (cs.take m) f
   obtain ⟨t, ht⟩ : ∃ t, (cs.take m == f) = t := ⟨_, rfl⟩
   rw [ht, ← hs1, ← hs2] at q2
   have HR : Hid (takesB f true [] cs = t) := by unfold Hid; rw [HU.out, ht]; simp [hle]
   clear hs1 hs2 ht hM hL hf0 hql hy hy42 hfm
   go_enter Tryz.func159, Tryz.ntmps159
   go_wp2_with fail
   go_quiet (fail)
   go_wp2
   go_ret
   exact ⟨by rw [HR.out]; rfl, below_drewN (Below.refl _ _) _⟩
  ·have z1 : (l : Int) < (m : Int) := by omega
   have HR : Hid (takesB f true [] cs = false) := by unfold Hid; rw [HU.out]; simp [hle]
   clear hs1 hM hL hf0 hql hy hy42 hfm
   go_enter Tryz.func159, Tryz.ntmps159
   go_wp2_with fail
   go_quiet (fail)
   go_wp2
   go_ret
   exact ⟨by rw [HR.out]; rfl, below_drewN (Below.refl _ _) _⟩
 ·-- none
  obtain ⟨m, hM⟩ : ∃ m, f.length = m + 1 := ⟨f.length - 1, by omega⟩
  rw [hM] at hqz hq
  have hix := index_str f 0 (by omega)
  have hixm := index_str f m (by omega)
  have hn0 : f.getD 0 0 ≠ 42 := by
   rw [List.getD_eq_getElem?_getD, List.getElem?_eq_getElem (by omega)]
   exact fun e => hno (by rw [← show f[0] = 42 from e]; exact List.getElem_mem _)
  have hnm : f.getD m 0 ≠ 42 := by
   rw [List.getD_eq_getElem?_getD, List.getElem?_eq_getElem (by omega)]
   exact fun e => hno (by rw [← show f[m] = 42 from e]; exact List.getElem_mem _)
  obtain ⟨y, hy⟩ : ∃ y, f.getD 0 0 = y := ⟨_, rfl⟩
  obtain ⟨z, hz⟩ : ∃ z, f.getD m 0 = z := ⟨_, rfl⟩
  rw [hy, show ((0 : Nat) : Int) = 0 from rfl] at hix
  rw [hz] at hixm
  rw [hy] at hn0
  rw [hz] at hnm
  obtain ⟨e1, e2⟩ := bi_star hn0
  obtain ⟨e3, e4⟩ := bi_star hnm
  generalize bi y = y' at *
  generalize bi z = z' at *
  have m0 : (0 : Int) ≤ (m : Int) := by omega
  have m1 : (m : Int) ≤ 1000000 := by omega
  have m2 : ((m + 1 : Nat) : Int) - 1 = (m : Int) := by omega
  have m3 : (m : Int) + 1 - 1 = (m : Int) := by omega
  have q2 := same_texts cs f
  obtain ⟨t, ht⟩ : ∃ t, (cs == f) = t := ⟨_, rfl⟩
  rw [ht] at q2
  have HR : Hid (takesB f false [] cs = t) := by unfold Hid takesB; rw [if_neg (by decide)]; exact ht
  clear ht hM hL hf0 hy hz hn0 hnm
  go_enter Tryz.func159, Tryz.ntmps159
  go_wp2
  go_ret
  exact ⟨by rw [HR.out]; rfl, Below.refl _ _⟩
theorem hitTo_last {f : List UInt8} {st : Bool} {b : List UInt8} {l : List (List UInt8)} {m : Nat} (hm : l.length = m + 1) : hitTo f st b true l (m + 1) = hitTo f st b true l m := by
 rw [hitTo_succ, hm]
 simp
set_option maxRecDepth 100000 in
set_option maxHeartbeats 3200000 in
theorem ntakesone_f (v : Value) (p f b : List UInt8) (st : Bool) (ls : List (List UInt8)) (w : World) (hp : patL p = some (f, st, b, false)) (h : SlV w v ((ls.map str).map sv)) (hpl : p.length ≤ 1000000) (hl0 : 0 < ls.length) (hl1 : ls.length ≤ 2000000) (hsz : ∀ x ∈ ls, x.length ≤ 1000000) :
  Calls Tryz.prog 110 #[.string (str p), v] w (BoolPost w (hitTo f st b false ls ls.length)) := by
 obtain ⟨hkind, hdir⟩ := pat_kind hp
 have hql := patCore_len p
 obtain ⟨q, hq⟩ : ∃ q, patCore p = q := ⟨_, rfl⟩
 rw [hq] at hkind hql
 have HQ := Lib.hid hq
 have HK := Lib.hid hkind
 have HQL : Hid (q.length ≤ 1000000) := by unfold Hid; omega
 have HD := Lib.hid hdir.symm
 have H := Lib.hid h
 obtain ⟨A, c, rfl, hlc, hcm, hR⟩ := h.len
 rw [List.length_map, List.length_map] at hlc H ⊢
 unfold maxLen at hcm
 have HSZ := Lib.hid hsz
 obtain ⟨ad, hA, hc0⟩ := reads_at hR 0 (sv (str ls[0])) (by rw [List.map_map, List.getElem?_map, List.getElem?_eq_getElem hl0]; rfl)
 subst hA
 clear hc0
 obtain ⟨n, hM⟩ : ∃ n, ls.length = n := ⟨_, rfl⟩
 rw [hM] at hlc H ⊢
 have hm1 : n ≤ 2000000 := by omega
 have HM := Lib.hid hM
 have m0 : (0 : Int) ≤ (n : Int) := by omega
 have m1 : (n : Int) ≤ 2000000 := by omega
 have HLE : Hid (n ≤ ls.length) := by unfold Hid; omega
 clear hp hq hkind hdir hql h hR hsz hM hl0 hl1
 go_enter Tryz.func110, Tryz.ntmps110
 go_wp2_with fail
 refine (cut_any p _ hpl).mono ?_
 rintro e w1 ⟨rfl, rfl⟩
 rw [HQ.out, HD.out]
 go_wp2_with fail
 go_loopw [22] (fun i wr => ∃ k : Nat, k ≤ n ∧ i = .int .i64 k ∧ hitTo f st b false ls k = false ∧ Below w.heap.size w wr) (fun i _ => n - (intOf i).toNat)
 case atStart => exact ⟨0, Nat.zero_le _, rfl, rfl, Below.refl _ _⟩
 case round =>
  obtain ⟨k, hk, rfl, hno, hb⟩ := hrel
  have HNO := Lib.hid hno
  have HB := Lib.hid hb
  have hwz := hb.size
  have k0 : (0 : Int) ≤ (k : Int) := by omega
  clear hno hb
  by_cases hlt : k < n
  ·have k1 : (k : Int) < (n : Int) := by omega
   have hkl : k < ls.length := by have := HLE.out; omega
   obtain ⟨_, _, hve, _, _, hR⟩ := (H.out.below HB.out).len
   obtain ⟨ad', hA, hcell⟩ := reads_at hR k (sv (str ls[k])) (by rw [List.map_map, List.getElem?_map, List.getElem?_eq_getElem hkl]; rfl)
   injection hve with g1 g2 g3
   rw [hA] at g1
   injection g1 with g1
   subst g1
   have hcell' : wr.cell? (ad.add k) = some (.string (str ls[k])) := hcell
   have hyl := HSZ.out ls[k] (List.getElem_mem hkl)
   have hgd : ls.getD k [] = ls[k] := by rw [List.getD_eq_getElem?_getD, List.getElem?_eq_getElem hkl]; rfl
   have hsu := hitTo_succ f st b false ls k
   rw [HNO.out, Bool.false_or, hgd, HM.out] at hsu
   obtain ⟨y, hy⟩ : ∃ y, ls[k] = y := ⟨_, rfl⟩
   rw [hy] at hcell' hyl hsu
   obtain ⟨t, ht⟩ : ∃ t, takesB f st b y = t := ⟨_, rfl⟩
   rw [ht] at hsu
   have HSU : Hid (hitTo f st b false ls (k + 1) = t) := by
    unfold Hid
    rw [hsu]
    simp
   have HT := Lib.hid ht
   clear hcell hR hA g2 g3 hgd hy hsu ht hkl
   go_wp2_with fail
   refine (ntakes_any q f b y st _ HK.out HQL.out hyl).mono ?_
   rintro e w2 ⟨rfl, hb2⟩
   rw [HT.out]
   have HB2 := Lib.hid (HB.out.trans (hb2.mono hwz))
   clear hb2
   cases t with
   | true =>
    have HY : Hid (hitTo f st b false ls n = true) := hitTo_more (k := k + 1) (by omega) HSU.out
    go_wp2
    go_ret
    exact ⟨by rw [HY.out]; rfl, HB2.out⟩
   | false =>
    go_wp2
    go_roundw
    case rel => exact ⟨k + 1, by omega, by go_num, HSU.out, HB2.out⟩
    case measure => simp [intOf]; omega
  ·obtain rfl : k = n := by omega
   go_wp2
   go_ret
   exact ⟨by rw [HNO.out]; rfl, HB.out⟩
set_option maxRecDepth 100000 in
set_option maxHeartbeats 3200000 in
theorem ntakesone_d (v : Value) (p f b : List UInt8) (st : Bool) (ls : List (List UInt8)) (w : World) (hp : patL p = some (f, st, b, true)) (h : SlV w v ((ls.map str).map sv)) (hpl : p.length ≤ 1000000) (hl0 : 0 < ls.length) (hl1 : ls.length ≤ 2000000) (hsz : ∀ x ∈ ls, x.length ≤ 1000000) :
  Calls Tryz.prog 110 #[.string (str p), v] w (BoolPost w (hitTo f st b true ls ls.length)) := by
 obtain ⟨hkind, hdir⟩ := pat_kind hp
 have hql := patCore_len p
 obtain ⟨q, hq⟩ : ∃ q, patCore p = q := ⟨_, rfl⟩
 rw [hq] at hkind hql
 have HQ := Lib.hid hq
 have HK := Lib.hid hkind
 have HQL : Hid (q.length ≤ 1000000) := by unfold Hid; omega
 have HD := Lib.hid hdir.symm
 have H := Lib.hid h
 obtain ⟨A, c, rfl, hlc, hcm, hR⟩ := h.len
 rw [List.length_map, List.length_map] at hlc H ⊢
 unfold maxLen at hcm
 have HSZ := Lib.hid hsz
 obtain ⟨ad, hA, hc0⟩ := reads_at hR 0 (sv (str ls[0])) (by rw [List.map_map, List.getElem?_map, List.getElem?_eq_getElem hl0]; rfl)
 subst hA
 clear hc0
 obtain ⟨m, hM⟩ : ∃ m, ls.length = m + 1 := ⟨ls.length - 1, by omega⟩
 rw [hM] at hlc H ⊢
 have hm1 : m + 1 ≤ 2000000 := by omega
 have HM := Lib.hid hM
 have m0 : (0 : Int) ≤ (m : Int) := by omega
 have m1 : (m : Int) ≤ 2000000 := by omega
 have m2 : ((m + 1 : Nat) : Int) - 1 = (m : Int) := by omega
 have m3 : (m : Int) + 1 - 1 = (m : Int) := by omega
 have m4 : (m : Int) ≤ (c : Int) := by omega
 have HN : Hid (hitTo f st b true ls (m + 1) = hitTo f st b true ls m) := hitTo_last hM
 have HLE : Hid (m ≤ ls.length) := by unfold Hid; omega
 clear hp hq hkind hdir hql h hR hsz hM hl0 hl1
 go_enter Tryz.func110, Tryz.ntmps110
 go_wp2_with fail
 refine (cut_any p _ hpl).mono ?_
 rintro e w1 ⟨rfl, rfl⟩
 rw [HQ.out, HD.out]
 go_wp2_with fail
 go_loopw [22] (fun i wr => ∃ k : Nat, k ≤ m ∧ i = .int .i64 k ∧ hitTo f st b true ls k = false ∧ Below w.heap.size w wr) (fun i _ => m - (intOf i).toNat)
 case atStart => exact ⟨0, Nat.zero_le _, rfl, rfl, Below.refl _ _⟩
 case round =>
  obtain ⟨k, hk, rfl, hno, hb⟩ := hrel
  have HNO := Lib.hid hno
  have HB := Lib.hid hb
  have hwz := hb.size
  have k0 : (0 : Int) ≤ (k : Int) := by omega
  clear hno hb
  by_cases hlt : k < m
  ·have k1 : (k : Int) < (m : Int) := by omega
   have hkl : k < ls.length := by have := HLE.out; omega
   obtain ⟨_, _, hve, _, _, hR⟩ := (H.out.below HB.out).len
   obtain ⟨ad', hA, hcell⟩ := reads_at hR k (sv (str ls[k])) (by rw [List.map_map, List.getElem?_map, List.getElem?_eq_getElem hkl]; rfl)
   injection hve with g1 g2 g3
   rw [hA] at g1
   injection g1 with g1
   subst g1
   have hcell' : wr.cell? (ad.add k) = some (.string (str ls[k])) := hcell
   have hyl := HSZ.out ls[k] (List.getElem_mem hkl)
   have hgd : ls.getD k [] = ls[k] := by rw [List.getD_eq_getElem?_getD, List.getElem?_eq_getElem hkl]; rfl
   have hsu := hitTo_succ f st b true ls k
   rw [HNO.out, Bool.false_or, hgd, HM.out] at hsu
   obtain ⟨y, hy⟩ : ∃ y, ls[k] = y := ⟨_, rfl⟩
   rw [hy] at hcell' hyl hsu
   obtain ⟨t, ht⟩ : ∃ t, takesB f st b y = t := ⟨_, rfl⟩
   rw [ht] at hsu
   have HSU : Hid (hitTo f st b true ls (k + 1) = t) := by
    unfold Hid
    rw [hsu]
    simp
    omega
   have HT := Lib.hid ht
   clear hcell hR hA g2 g3 hgd hy hsu ht hkl
   go_wp2_with fail
   refine (ntakes_any q f b y st _ HK.out HQL.out hyl).mono ?_
   rintro e w2 ⟨rfl, hb2⟩
   rw [HT.out]
   have HB2 := Lib.hid (HB.out.trans (hb2.mono hwz))
   clear hb2
   cases t with
   | true =>
    have HY : Hid (hitTo f st b true ls m = true) := hitTo_more (k := k + 1) (by omega) HSU.out
    go_wp2
    go_ret
    exact ⟨by rw [HN.out, HY.out]; rfl, HB2.out⟩
   | false =>
    go_wp2
    go_roundw
    case rel => exact ⟨k + 1, by omega, by go_num, HSU.out, HB2.out⟩
    case measure => simp [intOf]; omega
  ·obtain rfl : k = m := by omega
   go_wp2
   go_ret
   exact ⟨by rw [HN.out, HNO.out]; rfl, HB.out⟩
theorem ntakesone_any (v : Value) (p f b : List UInt8) (st d : Bool) (ls : List (List UInt8)) (w : World) (hp : patL p = some (f, st, b, d)) (h : SlV w v ((ls.map str).map sv)) (hpl : p.length ≤ 1000000) (hl0 : 0 < ls.length) (hl1 : ls.length ≤ 2000000) (hsz : ∀ x ∈ ls, x.length ≤ 1000000) :
  Calls Tryz.prog 110 #[.string (str p), v] w (BoolPost w (hitTo f st b d ls ls.length)) := by
 cases d
 ·exact ntakesone_f v p f b st ls w hp h hpl hl0 hl1 hsz
 ·exact ntakesone_d v p f b st ls w hp h hpl hl0 hl1 hsz
set_option maxRecDepth 100000 in
set_option maxHeartbeats 3200000 in
theorem nignored_any (v : Value) (ps : List (List UInt8)) (cs : List UInt8) (w : World) (h : SlV w v ((ps.map str).map sv)) (hn : ps.length ≤ 1000000) (hsz : ∀ p ∈ ps, p.length ≤ 1000000) (hc : cs.length ≤ 1000000) :
  Calls Tryz.prog 35 #[v, .string (str cs)] w (BoolPost w (ignoredB ps cs)) := by
 have H := Lib.hid h
 obtain ⟨A, c, rfl, hlc, hcm, _⟩ := h.len
 rw [List.length_map, List.length_map] at hlc H ⊢
 unfold maxLen at hcm
 obtain ⟨n, hN⟩ : ∃ n, ps.length = n := ⟨_, rfl⟩
 rw [hN] at hlc hn H ⊢
 have HN := Lib.hid hN
 have HSZ := Lib.hid hsz
 clear h hN hsz
 go_enter Tryz.func35, Tryz.ntmps35
 go_wp2_with fail
 refine (nsplit_any cs _ hc).mono ?_
 rintro e w1 ⟨vl, rfl, ho, hb⟩
 obtain ⟨ls, hls⟩ : ∃ ls, namesL cs = ls := ⟨_, rfl⟩
 have hll := namesL_few cs
 have hpl : ∀ p ∈ ls, p.length ≤ 1000000 := fun p hp => by rw [← hls] at hp; have := namesL_len hp; omega
 rw [hls] at ho hll
 obtain ⟨Al, cl, rfl, hlc2, hlm2⟩ := ho.length
 rw [List.length_map, List.length_map] at ho hlc2 ⊢
 obtain ⟨m, hM⟩ : ∃ m, ls.length = m := ⟨_, rfl⟩
 rw [hM] at ho hlc2 hll ⊢
 unfold maxLen at hlm2
 have HLS := Lib.hid hls
 have HM := Lib.hid hM
 have HO := Lib.hid ho
 have HB := Lib.hid hb
 have HPL := Lib.hid hpl
 have m1 : (m : Int) ≤ 1000001 := by omega
 have m0 : (0 : Int) ≤ (m : Int) := by omega
 clear hls hM ho hb hpl
 by_cases hz : m = 0
 ·have HR : Hid (ignoredB ps cs = false) := by
   unfold Hid ignoredB
   rw [HLS.out, List.any_eq_false]
   intro x _
   have : ls = [] := List.eq_nil_of_length_eq_zero (by rw [HM.out]; exact hz)
   rw [this]
   unfold hitP
   split <;> simp [hitTo]
  have z1 : ((m : Int) == 0) = true := by rw [hz]; rfl
  clear hz
  go_wp2
  go_ret
  exact ⟨by rw [HR.out]; rfl, HB.out⟩
 ·have z1 : ((m : Int) == 0) = false := by rw [beq_eq_false_iff_ne]; omega
  have HMZ : Hid (0 < m) := by unfold Hid; omega
  clear hz
  go_wp2_with fail
  go_loopw [15] (fun i wr => ∃ k : Nat, k ≤ n ∧ i = .int .i64 k ∧ (∀ (j : Nat) (hj : j < ps.length), j < k → hitP ls ps[j] = false) ∧ Below w.heap.size w wr ∧ OwnV 9 wr w.heap.size (.slice Al m cl) ((ls.map str).map sv)) (fun i _ => n - (intOf i).toNat)
  case atStart => exact ⟨0, by omega, rfl, fun j _ hj => by omega, HB.out, HO.out⟩
  case round =>
   clear HB HO
   obtain ⟨k, hk, rfl, hno, hb, ho⟩ := hrel
   have HNO := Lib.hid hno
   have HB := Lib.hid hb
   have HO := Lib.hid ho
   have hwz := hb.size
   clear hno hb ho
   have k0 : (0 : Int) ≤ (k : Int) := by omega
   by_cases hlt : k < n
   ·have k1 : (k : Int) < (n : Int) := by omega
    have hkp : k < ps.length := by rw [HN.out]; exact hlt
    obtain ⟨_, _, hve, _, _, hR⟩ := (H.out.below HB.out).len
    injection hve with g1 g2 g3
    subst g1
    obtain ⟨ad, hA, hcell⟩ := reads_at hR k (sv (str ps[k])) (by rw [List.map_map, List.getElem?_map, List.getElem?_eq_getElem hkp]; rfl)
    have hcell' : wr.cell? (ad.add k) = some (.string (str ps[k])) := hcell
    subst hA
    have hpk := HSZ.out ps[k] (List.getElem_mem hkp)
    have hmem : ps[k] ∈ ps := List.getElem_mem hkp
    obtain ⟨p, hp⟩ : ∃ p, ps[k] = p := ⟨_, rfl⟩
    rw [hp] at hcell' hpk hmem
    have HP := Lib.hid hp
    have HMEM := Lib.hid hmem
    obtain ⟨r, hr⟩ : ∃ r, patL p = r := ⟨_, rfl⟩
    have HR := Lib.hid hr
    clear hp hr hcell hR g2 g3 hmem
    go_wp2_with fail
    refine (npattern_any p _ hpk).mono ?_
    rintro e w2 ⟨rfl, hb2⟩
    rw [HR.out]
    have HB2 := Lib.hid (HB.out.trans (hb2.mono hwz))
    have HO2 := Lib.hid (HO.out.below hb2)
    clear hb2 HB HO
    cases r with
    | none =>
     have HH : Hid (hitP ls p = false) := by unfold Hid hitP; rw [HR.out]
     rw [show (none : Option (List UInt8 × Bool × List UInt8 × Bool)).isSome = false from rfl]
     go_wp2
     go_roundw
     case rel =>
      refine ⟨k + 1, by omega, by go_num, fun j hj hjk => ?_, HB2.out, HO2.out⟩
      by_cases e : j = k
      ·subst e; rw [HP.out]; exact HH.out
      ·exact HNO.out j hj (by omega)
     case measure => simp [intOf]; omega
    | some x =>
     obtain ⟨f, st, b, d⟩ := x
     rw [show (some (f, st, b, d)).isSome = true from rfl]
     obtain ⟨t, ht⟩ : ∃ t, hitTo f st b d ls ls.length = t := ⟨_, rfl⟩
     have HH : Hid (hitP ls p = t) := by unfold Hid hitP; rw [HR.out]; exact ht
     have HT := Lib.hid ht
     have hwz2 := HB2.out.size
     clear ht
     go_wp2_with fail
     refine (ntakesone_any _ p f b st d ls _ HR.out HO2.out.slv hpk (by rw [HM.out]; exact HMZ.out) (by rw [HM.out]; omega) HPL.out).mono ?_
     rintro e w3 ⟨rfl, hb3⟩
     rw [HT.out]
     have HB3 := Lib.hid (HB2.out.trans (hb3.mono hwz2))
     have HO3 := Lib.hid (HO2.out.below hb3)
     clear hb3 HB2 HO2
     cases t with
     | true =>
      have HY : Hid (ignoredB ps cs = true) := by
       unfold Hid ignoredB
       rw [HLS.out, List.any_eq_true]
       exact ⟨p, HMEM.out, HH.out⟩
      go_wp2
      go_ret
      exact ⟨by rw [HY.out]; rfl, HB3.out⟩
     | false =>
      go_wp2
      go_roundw
      case rel =>
       refine ⟨k + 1, by omega, by go_num, fun j hj hjk => ?_, HB3.out, HO3.out⟩
       by_cases e : j = k
       ·subst e; rw [HP.out]; exact HH.out
       ·exact HNO.out j hj (by omega)
      case measure => simp [intOf]; omega
   ·have hall : ignoredB ps cs = false := by
     unfold ignoredB
     rw [HLS.out, List.any_eq_false]
     intro x hx
     obtain ⟨i, hi, rfl⟩ := List.getElem_of_mem hx
     rw [HNO.out i hi (by rw [HN.out] at hi; omega)]
     decide
    have HALL := Lib.hid hall
    clear hall
    obtain rfl : k = n := by omega
    go_wp2
    go_ret
    exact ⟨by rw [HALL.out]; rfl, HB.out⟩
end Go.Proofs.YtbenkmihkbjgeaaGreat.Tx
