/- Texts put together: Tn3, Tq2, Nc1. -/
import Derived.Test.YtaccejlalomaaaaGreatQh02
import Derived.Test.YtaccejlalomaaaaGreatQh06
/- marref: Has, Texts, CopyTexts. -/
namespace Go.Proofs.YtaccejlalomaaaaGreat.Tx
open Go.RowKit Go.Proofs.YtaccejlalomaaaaGreat.Sh

/-- What a law's call leaves. -/
def Yes (w : World) (e : Ending) (w' : World) : Prop := e = .returned (.bool true) ∧ Below w.heap.size w w'
theorem ba_ext {s t : ByteArray} (h : s.toList = t.toList) : s = t := by
  rw [ByteArray.toList_eq, ByteArray.toList_eq] at h
  exact ByteArray.ext (Array.toList_inj.1 h)
def hasT (xs : List ByteArray) (s : ByteArray) : Bool := xs.any (fun t => t.toList == s.toList)
theorem hasT_yes {xs : List ByteArray} {s : ByteArray} (h : s ∈ xs) : hasT xs s = true := List.any_eq_true.2 ⟨s, h, beq_self_eq_true _⟩
theorem hasT_no {xs : List ByteArray} {s : ByteArray} (h : s ∉ xs) : hasT xs s = false := by
  unfold hasT
  rw [List.any_eq_false]
  intro t ht e
  exact h (by rw [← ba_ext (beq_iff_eq.1 e)]; exact ht)
theorem hasT_iff {xs : List ByteArray} {s : ByteArray} : hasT xs s = true ↔ s ∈ xs := by
  constructor
  · intro h
    rcases Classical.em (s ∈ xs) with h1 | h1
    · exact h1
    · rw [hasT_no h1] at h; cases h
  · exact hasT_yes
theorem toList_ne {s t : ByteArray} (h : t ≠ s) : (t.toList == s.toList) = false := by rw [beq_eq_false_iff_ne]; exact fun e => h (ba_ext e)
set_option maxRecDepth 100000 in
set_option maxHeartbeats 400000 in
theorem rhas_any (v : Value) (xs : List ByteArray) (s : ByteArray) (w : World) (h : SlV w v (xs.map sv)) : Calls Tryz.prog 26 #[v, .string s] w fun e w' => e = .returned (.bool (hasT xs s)) ∧ w = w' := by
  obtain ⟨A, c, rfl, hlc, hcm, hR⟩ := h.len
  rw [List.length_map] at hlc hR ⊢
  have HR := Lib.hid hR
  unfold maxLen at hcm
  obtain ⟨l, hl⟩ : ∃ l, xs.length = l := ⟨_, rfl⟩
  rw [hl] at hlc ⊢
  have HL := Lib.hid hl
  obtain ⟨t, ht⟩ : ∃ t, hasT xs s = t := ⟨_, rfl⟩
  rw [ht]
  have HT := Lib.hid ht
  clear h hR hl ht
  go_enter Tryz.func26, Tryz.ntmps26
  go_wp2
  go_loop [5] (fun i => ∃ k : Nat, k ≤ l ∧ i = .int .i64 k ∧ s ∉ xs.take k) (fun i => l - (intOf i).toNat)
  case atStart => exact ⟨0, Nat.zero_le _, rfl, by simp⟩
  case round =>
    obtain ⟨k, hk, rfl, hno⟩ := hrel
    have HNO := Lib.hid hno
    clear hno
    by_cases hlt : k < l
    · have hkl : k < xs.length := by rw [HL.out]; exact hlt
      obtain ⟨ad, rfl, hcell⟩ := texts_at HR.out k hkl
      have HX := Lib.hid (show xs.take (k + 1) = xs.take k ++ [xs[k]] from List.take_succ_eq_append_getElem hkl)
      have HMEM := Lib.hid (show xs[k] ∈ xs from List.getElem_mem hkl)
      generalize xs[k] = x at *
      clear hkl
      by_cases he : x = s
      · subst he
        have htt : t = true := by rw [← HT.out]; exact hasT_yes HMEM.out
        subst htt
        go_wp2
        go_ret
        exact ⟨rfl, rfl⟩
      · have hne := toList_ne he
        go_wp2
        go_round
        case rel =>
          refine ⟨k + 1, by omega, by go_num, ?_⟩
          rw [HX.out, List.mem_append, List.mem_singleton]
          rintro (hh | hh)
          · exact HNO.out hh
          · exact he hh.symm
        case measure => simp [intOf]; omega
    · have htt : t = false := by
        rw [← HT.out]
        have := HNO.out
        rw [List.take_of_length_le (by rw [HL.out]; omega)] at this
        exact hasT_no this
      subst htt
      go_wp2
      go_ret
      exact ⟨rfl, rfl⟩

set_option maxRecDepth 100000 in
set_option maxHeartbeats 400000 in
theorem texts_same (v v' : Value) (xs : List ByteArray) (w : World) (h : SlV w v (xs.map sv)) (h' : SlV w v' (xs.map sv)) : Calls Tryz.prog 54 #[v, v'] w (Yes w) := by
  obtain ⟨A, c, rfl, hlc, hcm, hR⟩ := h.len
  obtain ⟨A', c', rfl, hlc', hcm', hR'⟩ := h'.len
  rw [List.length_map] at hlc hR hlc' hR' ⊢
  have HR := Lib.hid hR
  have HR' := Lib.hid hR'
  unfold maxLen at hcm hcm'
  obtain ⟨l, hl⟩ : ∃ l, xs.length = l := ⟨_, rfl⟩
  rw [hl] at hlc hlc' ⊢
  have HL := Lib.hid hl
  clear h h' hR hR' hl
  go_enter Tryz.func54, Tryz.ntmps54
  go_wp2
  go_loopw [5] (fun i wr => ∃ k : Nat, k ≤ l ∧ i = .int .i64 k ∧ Below w.heap.size w wr) (fun i _ => l - (intOf i).toNat)
  case atStart => exact ⟨0, Nat.zero_le _, rfl, Below.refl _ _⟩
  case round =>
    obtain ⟨k, hk, rfl, hb⟩ := hrel
    have HB := Lib.hid hb
    clear hb
    by_cases hlt : k < l
    · have hkl : k < xs.length := by rw [HL.out]; exact hlt
      obtain ⟨ad, rfl, hcell⟩ := texts_at ((HR.out.below HB.out).more HB.out.size) k hkl
      obtain ⟨ad', rfl, hcell'⟩ := texts_at ((HR'.out.below HB.out).more HB.out.size) k hkl
      generalize xs[k] = x at *
      clear hkl
      have z0 : (0 : Int) ≤ (k : Int) := by omega
      have z1 : (k : Int) < (l : Int) := by omega
      go_wp2_with fail
      go_quiet (fail)
      go_wp2
      go_roundw
      case rel => exact ⟨k + 1, by omega, by go_num, below_drewN HB.out _⟩
      case measure => simp [intOf]; omega
    · go_wp2
      go_ret
      exact ⟨rfl, HB.out⟩

end Go.Proofs.YtaccejlalomaaaaGreat.Tx
/- Patterns: what follows of their definitions. Plain lists. -/
namespace Go.Proofs.YtaccejlalomaaaaGreat.Tx

theorem ignoredB_app (l m : List (List UInt8)) (s : List UInt8) : ignoredB (l ++ m) s = (ignoredB l s || ignoredB m s) := by unfold ignoredB; rw [List.any_append]
theorem ignoredB_nil (s : List UInt8) : ignoredB [] s = false := rfl
theorem ignoredB_one (p s : List UInt8) : ignoredB [p] s = hitP (namesL s) p := by unfold ignoredB; simp
theorem split_one {p : List UInt8} (h : (splitL 42 p).length = 1) : splitL 42 p = [p] := by
  obtain ⟨y, hy⟩ := List.length_eq_one_iff.1 h
  have := joinL_splitL 42 p
  rw [hy] at this
  rw [hy]
  simp [joinL] at this
  rw [this]
theorem last_name {p : List UInt8} (h : nameB p = true) : patDir p = false := by
  unfold patDir
  rw [beq_eq_false_iff_ne]
  intro e
  exact nameB_sign h (List.mem_of_getLast? e)
theorem patL_plain {p : List UInt8} (h : nameB p = true) (h1 : (splitL 42 p).length = 1) : patL p = some (p, false, [], false) := by
  have hd := last_name h
  have hc : patCore p = p := by unfold patCore; rw [if_neg (by rw [hd]; decide)]
  rw [patL_one hc h (split_one h1), hd]
theorem patL_plain_dir {p : List UInt8} (h : nameB p = true) (h1 : (splitL 42 p).length = 1) : patL (p ++ [47]) = some (p, false, [], true) := by
  have hd : patDir (p ++ [47]) = true := by unfold patDir; rw [List.getLast?_append]; rfl
  have hc : patCore (p ++ [47]) = p := by unfold patCore; rw [if_pos hd]; simp
  rw [patL_one hc h (split_one h1), hd]
theorem takes_self (p : List UInt8) : takesB p false [] p = true := by unfold takesB; rw [if_neg (by decide)]; exact beq_self_eq_true p
theorem hitTo_at {f : List UInt8} {st : Bool} {b : List UInt8} {d : Bool} {l : List (List UInt8)} {i n : Nat} (hi : i < n) (h : ((!d || decide (i + 1 < l.length)) && takesB f st b (l.getD i [])) = true) : hitTo f st b d l n = true := by
  unfold hitTo
  rw [List.any_eq_true]
  exact ⟨i, List.mem_range.2 hi, h⟩
theorem names_name {s p : List UInt8} (h : p ∈ namesL s) : nameB p = true := by
  unfold namesL at h
  split at h
  · rename_i hp
    exact ((pathB_iff s).1 hp).2.1 p h
  · cases h
theorem plain_hits {s : List UInt8} {i : Nat} (hi : i < (namesL s).length) (h1 : (splitL 42 (namesL s)[i]).length = 1) : ignoredB [(namesL s)[i]] s = true := by
  rw [ignoredB_one]
  unfold hitP
  rw [patL_plain (names_name (List.getElem_mem hi)) h1]
  refine hitTo_at hi ?_
  rw [List.getD_eq_getElem?_getD, List.getElem?_eq_getElem hi]
  simp [takes_self]
theorem dir_hits {s : List UInt8} {i : Nat} (hi : i + 1 < (namesL s).length) (h1 : (splitL 42 ((namesL s)[i]'(by omega))).length = 1) : ignoredB [(namesL s)[i]'(by omega) ++ [47]] s = true := by
  rw [ignoredB_one]
  unfold hitP
  rw [patL_plain_dir (names_name (List.getElem_mem (by omega))) h1]
  refine hitTo_at (i := i) (by omega) ?_
  rw [List.getD_eq_getElem?_getD, List.getElem?_eq_getElem (by omega)]
  simp [takes_self, hi]
theorem under_names {s t p : List UInt8} (h : underB s t = true) (hp : p ∈ namesL s) : p ∈ namesL t := by
  have h0 := h
  unfold underB at h
  simp only [Bool.and_eq_true, decide_eq_true_eq, beq_iff_eq] at h
  obtain ⟨⟨⟨⟨h1, h2⟩, h3⟩, h4⟩, h5⟩ := h
  unfold namesL at hp ⊢
  rw [if_pos h1] at hp
  rw [if_pos h2, cut_split h5, h4]
  exact List.mem_append_left _ hp
theorem under_hits {s t : List UInt8} {i : Nat} (hi : i < (namesL s).length) (h1 : (splitL 42 (namesL s)[i]).length = 1) (hu : underB s t = true) : ignoredB [(namesL s)[i]] t = true := by
  have hm := under_names hu (List.getElem_mem hi)
  obtain ⟨k, hk, e⟩ := List.getElem_of_mem hm
  have := plain_hits (s := t) hk (by rw [e]; exact h1)
  rw [e] at this
  exact this
end Go.Proofs.YtaccejlalomaaaaGreat.Tx
/- Package names: Name; wire.Has. -/
namespace Go.Proofs.YtaccejlalomaaaaGreat.Tx
open Go.RowKit Go.Proofs.YtaccejlalomaaaaGreat.Sh

set_option maxRecDepth 100000 in
set_option maxHeartbeats 1600000 in
theorem cname_any (cs : List UInt8) (w : World) (hn : cs.length ≤ 1000000) : Calls Tryz.prog 62 #[.string (str cs)] w fun e w' => e = .returned (.bool (nameB cs)) ∧ w = w' := by
  have hsz := str_size cs
  have htl := str_toList cs
  obtain ⟨l, hL⟩ : ∃ l, cs.length = l := ⟨_, rfl⟩
  rw [hL] at hsz hn
  have HL := Lib.hid hL
  have n0 : (0 : Int) ≤ (l : Int) := by omega
  clear hL
  rcases Nat.eq_zero_or_pos l with h1 | h1
  · have HR : Hid (nameB cs = false) := by
      unfold Hid
      rw [nameB_eq, HL.out]
      simp [h1]
    have e0 : (str cs).toList.isEmpty = true := by
      have : cs = [] := List.eq_nil_of_length_eq_zero (by rw [HL.out]; exact h1)
      rw [htl, this]; rfl
    have e0' : ((str cs).toList == []) = true := by
      have : cs = [] := List.eq_nil_of_length_eq_zero (by rw [HL.out]; exact h1)
      rw [htl, this]; rfl
    clear htl h1 n0
    go_enter Tryz.func62, Tryz.ntmps62
    go_wp2
    go_ret
    exact ⟨by rw [HR.out]; rfl, rfl⟩
  · obtain ⟨e0, e0'⟩ : (str cs).toList.isEmpty = false ∧ ((str cs).toList == []) = false := text_there (by rw [HL.out]; exact h1)
    have z1 : (1 : Int) ≤ (l : Int) := by omega
    by_cases h3 : cs = [46]
    · have HR : Hid (nameB cs = false) := by subst h3; rfl
      have e1 : ((str cs).toList == [46]) = true := by rw [htl, h3]; rfl
      clear htl h3
      go_enter Tryz.func62, Tryz.ntmps62
      go_wp2
      go_ret
      exact ⟨by rw [HR.out]; rfl, rfl⟩
    · have e1 : ((str cs).toList == [46]) = false := by rw [htl]; exact list_other h3
      by_cases h4 : cs = [46, 46]
      · have HR : Hid (nameB cs = false) := by subst h4; rfl
        have e2 : ((str cs).toList == [46, 46]) = true := by rw [htl, h4]; rfl
        clear htl h3 h4
        go_enter Tryz.func62, Tryz.ntmps62
        go_wp2
        go_ret
        exact ⟨by rw [HR.out]; rfl, rfl⟩
      · have e2 : ((str cs).toList == [46, 46]) = false := by rw [htl]; exact list_other h4
        have H3 := Lib.hid h3
        have H4 := Lib.hid h4
        clear htl h3 h4
        by_cases h2 : 64 < l
        · have HR : Hid (nameB cs = false) := by
            unfold Hid
            rw [nameB_eq, HL.out]
            simp [show ¬ (l ≤ 64) from by omega]
          have z2 : (64 : Int) < (l : Int) := by omega
          go_enter Tryz.func62, Tryz.ntmps62
          go_wp2
          go_ret
          exact ⟨by rw [HR.out]; rfl, rfl⟩
        · have z2 : (l : Int) ≤ 64 := by omega
          go_enter Tryz.func62, Tryz.ntmps62
          go_wp2
          clear e0 e0' e1 e2
          go_loop [21] (fun i => ∃ k : Nat, k ≤ l ∧ i = .int .i64 k ∧ ∀ (j : Nat) (c : UInt8), j < k → cs[j]? = some c → okc c = true) (fun i => l - (intOf i).toNat)
          case atStart => exact ⟨0, by omega, rfl, fun j c hj => by omega⟩
          case round =>
            obtain ⟨k, hk, rfl, hok⟩ := hrel
            have HOK := Lib.hid hok
            clear hok
            have k0 : (0 : Int) ≤ (k : Int) := by omega
            by_cases hlt : k < l
            · have k1 : (k : Int) < (l : Int) := by omega
              have hkc : k < cs.length := by rw [HL.out]; exact hlt
              have hix := index_str cs k hkc
              obtain ⟨x, hx⟩ : ∃ x, cs.getD k 0 = x := ⟨_, rfl⟩
              have hx' : cs[k]? = some x := by rw [← hx, List.getD_eq_getElem?_getD, List.getElem?_eq_getElem hkc]; rfl
              rw [hx] at hix
              have HX := Lib.hid hx'
              clear hx hx' hkc
              rcases okc_cases x with ⟨ho, c1⟩ | ⟨ho, c1, c2⟩ | ⟨ho, c1, c2, c3⟩ | ⟨ho, c1, c2, c3⟩
              · have HR : Hid (nameB cs = false) := nameB_bad HX.out ho
                clear ho
                generalize bi x = y at *
                go_wp2
                go_ret
                exact ⟨by rw [HR.out]; rfl, rfl⟩
              · have HR : Hid (nameB cs = false) := nameB_bad HX.out ho
                clear ho
                generalize bi x = y at *
                go_wp2
                go_ret
                exact ⟨by rw [HR.out]; rfl, rfl⟩
              · have HR : Hid (nameB cs = false) := nameB_bad HX.out ho
                have hy : bi x = 47 := by subst c3; unfold bi; rfl
                rw [hy] at hix c1 c2
                clear ho c3 hy
                go_wp2
                go_ret
                exact ⟨by rw [HR.out]; rfl, rfl⟩
              · have HO := Lib.hid ho
                clear ho
                generalize bi x = y at *
                go_wp2
                go_round
                case rel =>
                  refine ⟨k + 1, by omega, by go_num, fun j c hj hc => ?_⟩
                  by_cases e : j = k
                  · subst e; rw [HX.out] at hc; injection hc with hc; subst hc; exact HO.out
                  · exact HOK.out j c (by omega) hc
                case measure => simp [intOf]; omega
            · have HR : Hid (nameB cs = true) := by
                unfold Hid
                refine nameB_good (by rw [HL.out]; omega) (by rw [HL.out]; omega) (list_other H3.out) (list_other H4.out) (fun j c hc => HOK.out j c ?_ hc)
                have := (List.getElem?_eq_some_iff.1 hc).1
                rw [HL.out] at this
                omega
              obtain rfl : k = l := by omega
              go_wp2
              go_ret
              exact ⟨by rw [HR.out]; rfl, rfl⟩
set_option maxRecDepth 100000 in
set_option maxHeartbeats 400000 in
theorem whas_any (v : Value) (xs : List ByteArray) (s : ByteArray) (w : World) (h : SlV w v (xs.map sv)) : Calls Tryz.prog 127 #[v, .string s] w fun e w' => e = .returned (.bool (hasT xs s)) ∧ w = w' := by
  obtain ⟨A, c, rfl, hlc, hcm, hR⟩ := h.len
  rw [List.length_map] at hlc hR ⊢
  have HR := Lib.hid hR
  unfold maxLen at hcm
  obtain ⟨l, hl⟩ : ∃ l, xs.length = l := ⟨_, rfl⟩
  rw [hl] at hlc ⊢
  have HL := Lib.hid hl
  obtain ⟨t, ht⟩ : ∃ t, hasT xs s = t := ⟨_, rfl⟩
  rw [ht]
  have HT := Lib.hid ht
  clear h hR hl ht
  go_enter Tryz.func127, Tryz.ntmps127
  go_wp2
  go_loop [9] (fun i => ∃ k : Nat, k ≤ l ∧ i = .int .i64 k ∧ s ∉ xs.take k) (fun i => l - (intOf i).toNat)
  case atStart => exact ⟨0, Nat.zero_le _, rfl, by simp⟩
  case round =>
    obtain ⟨k, hk, rfl, hno⟩ := hrel
    have HNO := Lib.hid hno
    clear hno
    by_cases hlt : k < l
    · have hkl : k < xs.length := by rw [HL.out]; exact hlt
      obtain ⟨ad, rfl, hcell⟩ := texts_at HR.out k hkl
      have HX := Lib.hid (show xs.take (k + 1) = xs.take k ++ [xs[k]] from List.take_succ_eq_append_getElem hkl)
      have HMEM := Lib.hid (show xs[k] ∈ xs from List.getElem_mem hkl)
      generalize xs[k] = x at *
      clear hkl
      by_cases he : x = s
      · subst he
        have htt : t = true := by rw [← HT.out]; exact hasT_yes HMEM.out
        subst htt
        go_wp2
        go_ret
        exact ⟨rfl, rfl⟩
      · have hne := toList_ne he
        go_wp2
        go_round
        case rel =>
          refine ⟨k + 1, by omega, by go_num, ?_⟩
          rw [HX.out, List.mem_append, List.mem_singleton]
          rintro (hh | hh)
          · exact HNO.out hh
          · exact he hh.symm
        case measure => simp [intOf]; omega
    · have htt : t = false := by
        rw [← HT.out]
        have := HNO.out
        rw [List.take_of_length_le (by rw [HL.out]; omega)] at this
        exact hasT_no this
      subst htt
      go_wp2
      go_ret
      exact ⟨rfl, rfl⟩

end Go.Proofs.YtaccejlalomaaaaGreat.Tx
