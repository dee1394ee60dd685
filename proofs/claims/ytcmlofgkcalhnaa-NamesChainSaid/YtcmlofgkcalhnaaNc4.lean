/- Package names: cutSlash, Pattern. -/
import Derived.Test.YtcmlofgkcalhnaaNc2
namespace Go.Proofs.Ytcmlofgkcalhnaa.Tx
open Go.RowKit Go.Proofs.Ytcmlofgkcalhnaa.Sh

/-! A star that stands at an end, or in the midst: plain lists. -/
theorem pat_mid {p q : List UInt8} {j : Nat} (hc : patCore p = q) (h1 : 1 ≤ j) (h2 : j + 1 < q.length) (h : q[j]? = some 42) : patL p = none := by
  unfold patL
  rw [hc]
  split
  · split
    · rename_i a hs
      have hl : (splitL 42 q).length = 1 := by rw [hs]; rfl
      rw [splitL_length] at hl
      have := List.count_eq_zero.1 (show q.count 42 = 0 from by omega)
      exact absurd (List.mem_of_getElem? h) this
    · rename_i a b hs
      have hj := joinL_splitL 42 q
      rw [hs] at hj
      have hq : a ++ 42 :: b = q := hj
      have ha : 42 ∉ a := splitL_mem (g := 42) (s := q) (by rw [hs]; simp)
      have hb : 42 ∉ b := splitL_mem (g := 42) (s := q) (by rw [hs]; simp)
      have e : j = a.length := by
        rcases Nat.lt_trichotomy j a.length with e | e | e
        · rw [← hq, List.getElem?_append_left e] at h
          exact absurd (List.mem_of_getElem? h) ha
        · exact e
        · rw [← hq, List.getElem?_append_right (by omega), show j - a.length = (j - a.length - 1) + 1 from by omega, List.getElem?_cons_succ] at h
          exact absurd (List.mem_of_getElem? h) hb
      have hbl : 0 < b.length := by
        have := congrArg List.length hq
        rw [List.length_append, List.length_cons] at this
        omega
      rw [if_pos]
      cases a with
      | nil => simp at e; omega
      | cons y r =>
        cases b with
        | nil => simp at hbl
        | cons z t => rfl
    · rfl
  · rfl
theorem pat_ends {p q : List UInt8} {m : Nat} (hc : patCore p = q) (hn : nameB q = true) (hl : q.length = m + 1) (hno : ∀ j, 1 ≤ j → j < m → q[j]? ≠ some 42) :
    (patL p).isSome = !(q.getD 0 0 == 42 && q.getD m 0 == 42) := by
  cases q with
  | nil => simp at hl
  | cons x r =>
    rw [List.length_cons] at hl
    have hrl : r.length = m := by omega
    rcases Nat.eq_zero_or_pos m with h0 | h0
    · have hr : r = [] := List.eq_nil_of_length_eq_zero (by omega)
      subst hr h0
      by_cases hx : x = 42
      · subst hx
        rw [patL_two (a := []) (b := []) hc hn (by decide)]
        rfl
      · rw [patL_one (y := [x]) hc hn (splitL_none (by simp; exact fun e => hx e.symm))]
        simp [hx]
    · obtain ⟨mid, y, rfl⟩ : ∃ mid y, r = mid ++ [y] := ⟨r.dropLast, r.getLast (by intro e; rw [e] at hrl; simp at hrl; omega), (List.dropLast_concat_getLast _).symm⟩
      rw [List.length_append, List.length_singleton] at hrl
      have hmid : 42 ∉ mid := by
        intro hm
        obtain ⟨i, hi, e⟩ := List.getElem_of_mem hm
        refine hno (i + 1) (by omega) (by omega) ?_
        rw [List.getElem?_cons_succ, List.getElem?_append_left hi, List.getElem?_eq_getElem hi, e]
      have hy : (x :: (mid ++ [y])).getD m 0 = y := by
        rw [List.getD_eq_getElem?_getD, show m = mid.length + 1 from by omega, List.getElem?_cons_succ, List.getElem?_append_right (Nat.le_refl _), Nat.sub_self]
        rfl
      have hx0 : (x :: (mid ++ [y])).getD 0 0 = x := rfl
      rw [hy, hx0]
      by_cases hx : x = 42
      · subst hx
        by_cases hy2 : y = 42
        · subst hy2
          rw [patL_many hc hn (by rw [splitL_sign, splitL_cut hmid]; simp [splitL])]
          rfl
        · have hnm : 42 ∉ mid ++ [y] := by
            rw [List.mem_append, List.mem_singleton]
            rintro (h | h)
            · exact hmid h
            · exact hy2 h.symm
          rw [patL_ahead hc hn (by rw [splitL_sign, splitL_none hnm]) (by simp)]
          simp [hy2]
      · have hxm : 42 ∉ x :: mid := by
          rw [List.mem_cons]
          rintro (h | h)
          · exact hx h.symm
          · exact hmid h
        by_cases hy2 : y = 42
        · subst hy2
          rw [patL_behind hc hn (a := x :: mid) (by rw [← List.cons_append, splitL_cut hxm]; rfl) (by simp)]
          simp [hx]
        · have hnm : 42 ∉ x :: (mid ++ [y]) := by
            rw [← List.cons_append, List.mem_append, List.mem_singleton]
            rintro (h | h)
            · exact hxm h
            · exact hy2 h.symm
          rw [patL_one hc hn (splitL_none hnm)]
          simp [hx]

set_option maxRecDepth 100000 in
set_option maxHeartbeats 800000 in
theorem cut_any (cs : List UInt8) (w : World) (hn : cs.length ≤ 1000000) : Calls Try.prog 71 #[.string (str cs)] w fun e w' => e = .returned (.tuple #[.string (str (patCore cs)), .bool (patDir cs)]) ∧ w = w' := by
  have hsz := str_size cs
  rcases Nat.eq_zero_or_pos cs.length with h0 | h0
  · have hc : cs = [] := List.eq_nil_of_length_eq_zero h0
    subst hc
    clear h0 hn
    go_enter Try.func71, Try.ntmps71
    go_wp2
    go_ret2
    exact ⟨rfl, rfl⟩
  · obtain ⟨k, hk⟩ : ∃ k, cs.length = k + 1 := ⟨cs.length - 1, by omega⟩
    have hdir := pat_dir cs k hk
    have hix := index_str cs k (by omega)
    have hsl := slice_str cs 0 k
    rw [List.drop_zero] at hsl
    obtain ⟨x, hx⟩ : ∃ x, cs.getD k 0 = x := ⟨_, rfl⟩
    rw [hx] at hix hdir
    rw [hk] at hsz hn
    have HK := Lib.hid hk
    have k0 : (0 : Int) ≤ (k : Int) := by omega
    have k1 : (k : Int) ≤ 1000000 := by omega
    have k2 : ((k + 1 : Nat) : Int) - 1 = (k : Int) := by omega
    have k3 : (k : Int) + 1 - 1 = (k : Int) := by omega
    have k4 : (k : Int) ≤ (k : Int) + 1 := by omega
    clear hx hk h0
    by_cases h3 : x = 47
    · subst h3
      have hd : patDir cs = true := by rw [hdir]; rfl
      have HR : Hid (patCore cs = cs.take k ∧ patDir cs = true) := ⟨by unfold patCore; rw [if_pos hd, HK.out]; rfl, hd⟩
      rw [bi47] at hix
      clear hdir hd
      go_enter Try.func71, Try.ntmps71
      go_wp2
      go_ret2
      exact ⟨by rw [HR.out.1, HR.out.2, ← hsl]; rfl, rfl⟩
    · have hd : patDir cs = false := by rw [hdir]; simpa using h3
      have HR : Hid (patCore cs = cs ∧ patDir cs = false) := ⟨by unfold patCore; rw [if_neg (by rw [hd]; decide)], hd⟩
      have e3 : (bi x == 47) = false := by rw [← bi47, beq_eq_false_iff_ne]; exact fun e => h3 (bi_inj e)
      generalize bi x = y at *
      clear hdir hd h3 hsl
      go_enter Try.func71, Try.ntmps71
      go_wp2
      go_ret2
      exact ⟨by rw [HR.out.1, HR.out.2]; rfl, rfl⟩
theorem bi_star {x : UInt8} (h : x ≠ 42) : (bi x == 42) = false ∧ (bi x != 42) = true := by
  have e : bi x ≠ 42 := by rw [← bi42]; exact fun e => h (bi_inj e)
  exact ⟨beq_eq_false_iff_ne.2 e, bne_iff_ne.2 e⟩

set_option maxRecDepth 100000 in
set_option maxHeartbeats 1600000 in
theorem npattern_any (cs : List UInt8) (w : World) (hn : cs.length ≤ 1000000) : Calls Try.prog 52 #[.string (str cs)] w (BoolPost w (patL cs).isSome) := by
  have hql := patCore_len cs
  obtain ⟨q, hq⟩ : ∃ q, patCore cs = q := ⟨_, rfl⟩
  have HQ := Lib.hid hq
  rw [hq] at hql
  have HQL : Hid (q.length ≤ 1000000) := by unfold Hid; omega
  obtain ⟨t, ht⟩ : ∃ t, nameB q = t := ⟨_, rfl⟩
  have HT := Lib.hid ht
  clear hq hql ht
  cases t with
  | false =>
    have HR : Hid (patL cs = none) := patL_no (by rw [HQ.out]; exact HT.out)
    go_enter Try.func52, Try.ntmps52
    go_wp2_with fail
    refine (cut_any cs _ hn).mono ?_
    rintro e w1 ⟨rfl, rfl⟩
    rw [HQ.out]
    go_wp2_with fail
    refine (cname_any q _ HQL.out).mono ?_
    rintro e w1 ⟨rfl, rfl⟩
    rw [HT.out]
    go_wp2
    go_ret
    exact ⟨by rw [HR.out]; rfl, Below.refl _ _⟩
  | true =>
    have hsz := str_size q
    obtain ⟨m, hm⟩ : ∃ m, q.length = m + 1 := ⟨q.length - 1, by have := nameB_one HT.out; omega⟩
    have HM := Lib.hid hm
    rw [hm] at hsz
    have hm64 : m + 1 ≤ 1000000 := by rw [← hm]; exact HQL.out
    have m0 : (0 : Int) ≤ (m : Int) := by omega
    have m1 : (m : Int) ≤ 1000000 := by omega
    have m2 : ((m + 1 : Nat) : Int) - 1 = (m : Int) := by omega
    have m3 : (m : Int) + 1 - 1 = (m : Int) := by omega
    clear hm
    go_enter Try.func52, Try.ntmps52
    go_wp2_with fail
    refine (cut_any cs _ hn).mono ?_
    rintro e w1 ⟨rfl, rfl⟩
    rw [HQ.out]
    go_wp2_with fail
    refine (cname_any q _ HQL.out).mono ?_
    rintro e w1 ⟨rfl, rfl⟩
    rw [HT.out]
    go_wp2
    go_loop [6] (fun i => ∃ k : Nat, 1 ≤ k ∧ k ≤ m + 1 ∧ i = .int .i64 k ∧ ∀ j, 1 ≤ j → j < k → q[j]? ≠ some 42) (fun i => m + 1 - (intOf i).toNat)
    case atStart => exact ⟨1, by omega, by omega, rfl, fun j h1 h2 => by omega⟩
    case round =>
      obtain ⟨k, hk1, hk2, rfl, hno⟩ := hrel
      have HNO := Lib.hid hno
      have k0 : (0 : Int) ≤ (k : Int) := by omega
      clear hno
      by_cases hlt : k < m
      · have z1 : (k : Int) < (m : Int) := by omega
        have hkq : k < q.length := by rw [HM.out]; omega
        have hix := index_str q k hkq
        obtain ⟨x, hx⟩ : ∃ x, q.getD k 0 = x := ⟨_, rfl⟩
        have hx' : q[k]? = some x := by rw [← hx, List.getD_eq_getElem?_getD, List.getElem?_eq_getElem hkq]; rfl
        rw [hx] at hix
        have HX := Lib.hid hx'
        clear hx hx' hkq
        by_cases h3 : x = 42
        · subst h3
          have HR : Hid (patL cs = none) := pat_mid HQ.out hk1 (by rw [HM.out]; omega) HX.out
          rw [bi42] at hix
          go_wp2
          go_ret
          exact ⟨by rw [HR.out]; rfl, Below.refl _ _⟩
        · obtain ⟨e1, _⟩ := bi_star h3
          generalize bi x = y at *
          go_wp2
          go_round
          case rel =>
            refine ⟨k + 1, by omega, by omega, by go_num, fun j hj1 hj2 => ?_⟩
            by_cases e : j = k
            · subst e; rw [HX.out]; exact fun e => h3 (by injection e)
            · exact HNO.out j hj1 (by omega)
          case measure => simp [intOf]; omega
      · have z1 : (m : Int) ≤ (k : Int) := by omega
        have hix0 := index_str q 0 (by rw [HM.out]; omega)
        have hixm := index_str q m (by rw [HM.out]; omega)
        have HE := Lib.hid (pat_ends HQ.out HT.out HM.out (fun j h1 h2 => HNO.out j h1 (by omega)))
        obtain ⟨x, hx⟩ : ∃ x, q.getD 0 0 = x := ⟨_, rfl⟩
        obtain ⟨y, hy⟩ : ∃ y, q.getD m 0 = y := ⟨_, rfl⟩
        rw [hx, hy] at HE
        rw [hx] at hix0
        rw [hy] at hixm
        rw [show ((0 : Nat) : Int) = 0 from rfl] at hix0
        clear hx hy
        by_cases hx : x = 42
        · subst hx
          rw [bi42] at hix0
          by_cases hy : y = 42
          · subst hy
            rw [bi42] at hixm
            go_wp2
            go_ret
            exact ⟨by rw [HE.out]; rfl, Below.refl _ _⟩
          · obtain ⟨e1, e2⟩ := bi_star hy
            have HY := Lib.hid hy
            generalize bi y = z at *
            clear hy
            go_wp2
            go_ret
            exact ⟨by rw [HE.out]; simp [HY.out], Below.refl _ _⟩
        · obtain ⟨e1, e2⟩ := bi_star hx
          have HX := Lib.hid hx
          generalize bi x = z at *
          clear hx
          go_wp2
          go_ret
          exact ⟨by rw [HE.out]; simp [HX.out], Below.refl _ _⟩
end Go.Proofs.Ytcmlofgkcalhnaa.Tx
