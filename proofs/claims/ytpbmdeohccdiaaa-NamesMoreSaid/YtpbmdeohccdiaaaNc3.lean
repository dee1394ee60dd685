/- Package names: Join. -/
import Derived.Test.YtpbmdeohccdiaaaNc2
import Derived.Test.YtpbmdeohccdiaaaTb0
namespace Go.Proofs.Ytpbmdeohccdiaaa.Tx
open Go.RowKit Go.Proofs.Ytpbmdeohccdiaaa.Sh

theorem nameB_64 {p : List UInt8} (h : nameB p = true) : p.length ≤ 64 := by
  rw [nameB_eq] at h
  simp only [Bool.and_eq_true, decide_eq_true_eq] at h
  exact h.1.1.1.2
theorem join_bad {l : List (List UInt8)} {k : Nat} (hk : k < l.length) (h : nameB l[k] = false) : joinOk l = false := by
  rw [joinOk_eq]
  have : l.all nameB = false := by
    rw [List.all_eq_false]
    exact ⟨_, List.getElem_mem hk, by rw [h]; decide⟩
  rw [this]
  simp
/-- Where all are names: they join just if what they make is a path. -/
theorem join_path {l : List (List UInt8)} (h : ∀ (k : Nat) (hk : k < l.length), nameB l[k] = true) : joinOk l = pathB (joinL 47 l) := by
  have hall : ∀ p ∈ l, nameB p = true := fun p hp => by
    obtain ⟨i, hi, rfl⟩ := List.getElem_of_mem hp
    exact h i hi
  cases l with
  | nil => rfl
  | cons p r =>
    have he := splitL_joinL (g := 47) (ps := p :: r) (fun q hq => nameB_sign (hall q hq)) (by simp)
    unfold joinOk
    rw [he]
    simp

set_option maxRecDepth 100000 in
set_option maxHeartbeats 3200000 in
theorem njoin_any (v : Value) (ls : List (List UInt8)) (w : World) (h : SlV w v ((ls.map str).map sv)) (hn : ls.length ≤ 1000000) (hsz : ∀ p ∈ ls, p.length ≤ 1000000) :
    Calls Try.prog 12 #[v] w (JoinPost w ls) := by
  have H := Lib.hid h
  obtain ⟨A, c, rfl, hlc, hcm, _⟩ := h.len
  rw [List.length_map, List.length_map] at hlc H ⊢
  unfold maxLen at hcm
  obtain ⟨n, hN⟩ : ∃ n, ls.length = n := ⟨_, rfl⟩
  rw [hN] at hlc hn H ⊢
  have HN := Lib.hid hN
  have HSZ := Lib.hid hsz
  clear h hN hsz
  go_enter Try.func12, Try.ntmps12
  go_wp2_with fail
  go_loopw [4, 10] (fun jv i wr => ∃ k : Nat, k ≤ n ∧ i = .int .i64 k ∧ (∀ (j : Nat) (hj : j < ls.length), j < k → nameB ls[j] = true) ∧ (joinL 47 (ls.take k)).length ≤ 65 * k ∧ OwnV 5 wr w.heap.size jv ((joinL 47 (ls.take k)).map bv) ∧ Below w.heap.size w wr) (fun _ i _ => n - (intOf i).toNat)
  case atStart => exact ⟨0, Nat.zero_le _, rfl, fun j _ hj => by omega, by simp [joinL], OwnV.nil_ _ _, Below.refl _ _⟩
  case round =>
    obtain ⟨k, hk, rfl, hok, hjl, ho, hb⟩ := hrel
    have HOK := Lib.hid hok
    have HO := Lib.hid ho
    have HB := Lib.hid hb
    have HJL := Lib.hid hjl
    have hwz := hb.size
    have k0 : (0 : Int) ≤ (k : Int) := by omega
    clear hok ho hb hjl
    by_cases hlt : k < n
    · have k1 : (k : Int) < (n : Int) := by omega
      have hkl : k < ls.length := by rw [HN.out]; exact hlt
      obtain ⟨_, _, hve, _, _, hR⟩ := (H.out.below HB.out).len
      injection hve with g1 g2 g3
      subst g1
      obtain ⟨ad, hA, hcell⟩ := reads_at hR k (sv (str ls[k])) (by rw [List.map_map, List.getElem?_map, List.getElem?_eq_getElem hkl]; rfl)
      have hcell' : wr.cell? (ad.add k) = some (.string (str ls[k])) := hcell
      subst hA
      have hpk := HSZ.out ls[k] (List.getElem_mem hkl)
      have hbad : nameB ls[k] = false → joinOk ls = false := join_bad hkl
      have hnext : (k = 0 ∧ joinL 47 (ls.take (k + 1)) = ls[k]) ∨ (0 < k ∧ joinL 47 (ls.take (k + 1)) = joinL 47 (ls.take k) ++ [47] ++ ls[k]) := by
        rcases Nat.eq_zero_or_pos k with e | e
        · left; subst e; exact ⟨rfl, by rw [Nat.zero_add, joinL_first hkl]⟩
        · right; exact ⟨e, joinL_next e hkl⟩
      obtain ⟨p, hp⟩ : ∃ p, ls[k] = p := ⟨_, rfl⟩
      rw [hp] at hcell' hpk hbad hnext
      have HP := Lib.hid hp
      have HBAD := Lib.hid hbad
      have HNX := Lib.hid hnext
      obtain ⟨t, ht⟩ : ∃ t, nameB p = t := ⟨_, rfl⟩
      have HT := Lib.hid ht
      clear hp hbad hnext ht hcell hR g2 g3
      go_wp2_with fail
      refine (cname_any p _ hpk).mono ?_
      rintro e w2 ⟨rfl, rfl⟩
      rw [HT.out]
      cases t with
      | false =>
        have HJ := Lib.hid (joined_no (HBAD.out HT.out))
        go_wp2
        go_ret2
        exact ⟨by rw [HJ.out.1, HJ.out.2]; rfl, HB.out⟩
      | true =>
        have hp64 := nameB_64 HT.out
        rcases Nat.eq_zero_or_pos k with e0 | e0
        · have kz : (k : Int) ≤ 0 := by omega
          have HJ0 : Hid (joinL 47 (ls.take k) = []) := by unfold Hid; rw [e0]; rfl
          have HJ1 : Hid (joinL 47 (ls.take (k + 1)) = p) := by
            rcases HNX.out with ⟨_, h⟩ | ⟨h, _⟩
            · exact h
            · omega
          have HOZ : Hid (OwnV 5 wr w.heap.size u4 (([] : List UInt8).map bv)) := by have := HO.out; rw [HJ0.out] at this; exact this
          have hsm : ([] : List UInt8).length + p.length ≤ 140737488355328 := by simp; omega
          clear e0
          go_wp2_with (at_builtin; refine append_str rfl (.tmp 23) (.tmp 24) rfl wr w.heap.size u4 [] rfl HOZ.out p rfl hsm hwz ?_; intro v3 w3 ho3 hb3; have HO3 := Lib.hid ho3; have HB3 := Lib.hid hb3; clear ho3 hb3)
          go_roundw
          case rel =>
            refine ⟨k + 1, by omega, by go_num, fun j hj hjk => ?_, by rw [HJ1.out]; omega, by rw [HJ1.out]; exact HO3.out, HB.out.trans (HB3.out.mono (Nat.le_refl _))⟩
            by_cases e : j = k
            · subst e; rw [HP.out]; exact HT.out
            · exact HOK.out j hj (by omega)
          case measure => simp [intOf]; omega
        · have kz : (0 : Int) < (k : Int) := by omega
          have HJ1 : Hid (joinL 47 (ls.take (k + 1)) = joinL 47 (ls.take k) ++ [47] ++ p) := by
            rcases HNX.out with ⟨h, _⟩ | ⟨_, h⟩
            · omega
            · exact h
          obtain ⟨js, hjs⟩ : ∃ js, joinL 47 (ls.take k) = js := ⟨_, rfl⟩
          have hjz : js.length ≤ 65 * k := by rw [← hjs]; exact HJL.out
          have HOJ : Hid (OwnV 5 wr w.heap.size u4 (js.map bv)) := by have := HO.out; rw [hjs] at this; exact this
          have HJ2 : Hid (joinL 47 (ls.take (k + 1)) = js ++ [47] ++ p) := by have := HJ1.out; rw [hjs] at this; exact this
          have hsm1 : js.length + 1 ≤ 140737488355328 := by omega
          have hsm2 : (js ++ [47]).length + p.length ≤ 140737488355328 := by rw [List.length_append, List.length_singleton]; omega
          clear e0 hjs
          go_wp2_with (first
            | (at_builtin; have _m := HFIRST; refine append_str rfl (.tmp 23) (.tmp 24) rfl w3 w.heap.size v3 (js ++ [47]) rfl HO3.out p rfl hsm2 hz3 ?_; intro v4 w4 ho4 hb4; have HO4 := Lib.hid ho4; have HB4 := Lib.hid hb4; clear ho4 hb4)
            | (at_builtin; refine append_byte rfl (.tmp 20) (.tmp 21) rfl wr w.heap.size u4 js rfl HOJ.out 47 47 bi47 rfl hsm1 hwz ?_; intro v3 w3 ho3 hb3; have HO3 := Lib.hid ho3; have HB3 := Lib.hid (HB.out.trans (hb3.mono (Nat.le_refl _))); have hz3 := (HB.out.trans (hb3.mono (Nat.le_refl _))).size; have HFIRST : True := trivial; clear ho3 hb3))
          go_roundw
          case rel =>
            refine ⟨k + 1, by omega, by go_num, fun j hj hjk => ?_, by rw [HJ2.out]; simp; omega, by rw [HJ2.out]; exact HO4.out, HB3.out.trans (HB4.out.mono (Nat.le_refl _))⟩
            by_cases e : j = k
            · subst e; rw [HP.out]; exact HT.out
            · exact HOK.out j hj (by omega)
          case measure => simp [intOf]; omega
    · obtain rfl : k = n := by omega
      have hT : ls.take k = ls := List.take_of_length_le (by rw [HN.out]; exact Nat.le_refl _)
      obtain ⟨js, hjs⟩ : ∃ js, joinL 47 ls = js := ⟨_, rfl⟩
      have hjl := HJL.out
      rw [hT, hjs] at hjl
      have ho := HO.out
      rw [hT, hjs] at ho
      obtain ⟨Aj, cj, rfl, hjc, hjm⟩ := ho.length
      rw [List.length_map] at ho hjc ⊢
      have kc := conv_str wr Aj js js.length cj rfl ho.slv
      have HOJ : Hid (joinOk ls = pathB js) := by
        unfold Hid
        rw [join_path (fun j hj => HOK.out j hj (by rw [HN.out] at hj; exact hj)), hjs]
      have HJS := Lib.hid hjs
      obtain ⟨m, hm⟩ : ∃ m, js.length = m := ⟨_, rfl⟩
      rw [hm] at kc hjl hjc ⊢
      have HM := Lib.hid hm
      obtain ⟨t, ht⟩ : ∃ t, pathB js = t := ⟨_, rfl⟩
      have HT := Lib.hid ht
      unfold maxLen at hjm
      clear hT hjs ho hm ht HO HJL
      go_wp2_with fail
      refine (npath_big js _ (by rw [HM.out]; omega)).mono ?_
      rintro e w1 ⟨rfl, hb⟩
      rw [HT.out]
      have HB2 := Lib.hid (HB.out.trans (hb.mono hwz))
      clear hb kc
      cases t with
      | false =>
        have HJ := Lib.hid (joined_no (HOJ.out.trans HT.out))
        go_wp2
        go_ret2
        exact ⟨by rw [HJ.out.1, HJ.out.2]; rfl, HB2.out⟩
      | true =>
        have HJ := Lib.hid (joined_yes (HOJ.out.trans HT.out))
        go_wp2
        go_ret2
        exact ⟨by rw [HJ.out.1, HJ.out.2, HJS.out]; rfl, HB2.out⟩
end Go.Proofs.Ytpbmdeohccdiaaa.Tx
