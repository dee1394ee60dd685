/- Texts put together: WTn3, WTq2, WNc1, WNc2. -/
import Derived.Test.YtpfjlhpahmhkhaaGreatQf01
import Derived.Test.YtpfjlhpahmhkhaaGreatQf04
/- marref: Has, Texts, CopyTexts. -/
namespace Go.Proofs.YtpfjlhpahmhkhaaGreat.Tx
open Go.RowKit Go.Proofs.YtpfjlhpahmhkhaaGreat.Sh

/-- What a law's call leaves. -/
def Yes (w : World) (e : Ending) (w' : World) : Prop := e = .returned (.bool true) ∧ Below w.heap.size w w'
theorem ba_ext {s t : ByteArray} (h : s.toList = t.toList) : s = t := by
  rw [ByteArray.toList_eq, ByteArray.toList_eq] at h
  exact ByteArray.ext (Array.toList_inj.1 h)
def hasT (xs : List ByteArray) (s : ByteArray) : Bool := xs.any (fun t => t.toList == s.toList)
theorem hasT_yes {xs : List ByteArray} {s : ByteArray} (h : s ∈ xs) : hasT xs s = true := List.any_eq_true.2 ⟨s, h, beq_self_eq_true _⟩
theorem hasT_no {xs : List ByteArray} {s : ByteArray} (h : s ∉ xs) : hasT xs s = false := by
  unfold hasT
  rw [List.any_eq_false]
  intro t ht e
  exact h (by rw [← ba_ext (beq_iff_eq.1 e)]; exact ht)
theorem hasT_iff {xs : List ByteArray} {s : ByteArray} : hasT xs s = true ↔ s ∈ xs := by
  constructor
  · intro h
    rcases Classical.em (s ∈ xs) with h1 | h1
    · exact h1
    · rw [hasT_no h1] at h; cases h
  · exact hasT_yes
theorem toList_ne {s t : ByteArray} (h : t ≠ s) : (t.toList == s.toList) = false := by rw [beq_eq_false_iff_ne]; exact fun e => h (ba_ext e)
end Go.Proofs.YtpfjlhpahmhkhaaGreat.Tx
/- Patterns: what follows of their definitions. Plain lists. -/
namespace Go.Proofs.YtpfjlhpahmhkhaaGreat.Tx

end Go.Proofs.YtpfjlhpahmhkhaaGreat.Tx
/- Package names: Name; wire.Has. -/
namespace Go.Proofs.YtpfjlhpahmhkhaaGreat.Tx
open Go.RowKit Go.Proofs.YtpfjlhpahmhkhaaGreat.Sh

set_option maxRecDepth 100000 in
set_option maxHeartbeats 1600000 in
theorem cname_any (cs : List UInt8) (w : World) (hn : cs.length ≤ 1000000) : Calls Tryz.prog 276 #[.string (str cs)] w fun e w' => e = .returned (.bool (nameB cs)) ∧ w = w' := by
  have hsz := str_size cs
  have htl := str_toList cs
  obtain ⟨l, hL⟩ : ∃ l, cs.length = l := ⟨_, rfl⟩
  rw [hL] at hsz hn
  have HL := Lib.hid hL
  have n0 : (0 : Int) ≤ (l : Int) := by omega
  clear hL
  rcases Nat.eq_zero_or_pos l with h1 | h1
  · have HR : Hid (nameB cs = false) := by
      unfold Hid
      rw [nameB_eq, HL.out]
      simp [h1]
    have e0 : (str cs).toList.isEmpty = true := by
      have : cs = [] := List.eq_nil_of_length_eq_zero (by rw [HL.out]; exact h1)
      rw [htl, this]; rfl
    have e0' : ((str cs).toList == []) = true := by
      have : cs = [] := List.eq_nil_of_length_eq_zero (by rw [HL.out]; exact h1)
      rw [htl, this]; rfl
    clear htl h1 n0
    go_enter Tryz.func276, Tryz.ntmps276
    go_wp2
    go_ret
    exact ⟨by rw [HR.out]; rfl, rfl⟩
  · obtain ⟨e0, e0'⟩ : (str cs).toList.isEmpty = false ∧ ((str cs).toList == []) = false := text_there (by rw [HL.out]; exact h1)
    have z1 : (1 : Int) ≤ (l : Int) := by omega
    by_cases h3 : cs = [46]
    · have HR : Hid (nameB cs = false) := by subst h3; rfl
      have e1 : ((str cs).toList == [46]) = true := by rw [htl, h3]; rfl
      clear htl h3
      go_enter Tryz.func276, Tryz.ntmps276
      go_wp2
      go_ret
      exact ⟨by rw [HR.out]; rfl, rfl⟩
    · have e1 : ((str cs).toList == [46]) = false := by rw [htl]; exact list_other h3
      by_cases h4 : cs = [46, 46]
      · have HR : Hid (nameB cs = false) := by subst h4; rfl
        have e2 : ((str cs).toList == [46, 46]) = true := by rw [htl, h4]; rfl
        clear htl h3 h4
        go_enter Tryz.func276, Tryz.ntmps276
        go_wp2
        go_ret
        exact ⟨by rw [HR.out]; rfl, rfl⟩
      · have e2 : ((str cs).toList == [46, 46]) = false := by rw [htl]; exact list_other h4
        have H3 := Lib.hid h3
        have H4 := Lib.hid h4
        clear htl h3 h4
        by_cases h2 : 64 < l
        · have HR : Hid (nameB cs = false) := by
            unfold Hid
            rw [nameB_eq, HL.out]
            simp [show ¬ (l ≤ 64) from by omega]
          have z2 : (64 : Int) < (l : Int) := by omega
          go_enter Tryz.func276, Tryz.ntmps276
          go_wp2
          go_ret
          exact ⟨by rw [HR.out]; rfl, rfl⟩
        · have z2 : (l : Int) ≤ 64 := by omega
          go_enter Tryz.func276, Tryz.ntmps276
          go_wp2
          clear e0 e0' e1 e2
          go_loop [21] (fun i => ∃ k : Nat, k ≤ l ∧ i = .int .i64 k ∧ ∀ (j : Nat) (c : UInt8), j < k → cs[j]? = some c → okc c = true) (fun i => l - (intOf i).toNat)
          case atStart => exact ⟨0, by omega, rfl, fun j c hj => by omega⟩
          case round =>
            obtain ⟨k, hk, rfl, hok⟩ := hrel
            have HOK := Lib.hid hok
            clear hok
            have k0 : (0 : Int) ≤ (k : Int) := by omega
            by_cases hlt : k < l
            · have k1 : (k : Int) < (l : Int) := by omega
              have hkc : k < cs.length := by rw [HL.out]; exact hlt
              have hix := index_str cs k hkc
              obtain ⟨x, hx⟩ : ∃ x, cs.getD k 0 = x := ⟨_, rfl⟩
              have hx' : cs[k]? = some x := by rw [← hx, List.getD_eq_getElem?_getD, List.getElem?_eq_getElem hkc]; rfl
              rw [hx] at hix
              have HX := Lib.hid hx'
              clear hx hx' hkc
              rcases okc_cases x with ⟨ho, c1⟩ | ⟨ho, c1, c2⟩ | ⟨ho, c1, c2, c3⟩ | ⟨ho, c1, c2, c3⟩
              · have HR : Hid (nameB cs = false) := nameB_bad HX.out ho
                clear ho
                generalize bi x = y at *
                go_wp2
                go_ret
                exact ⟨by rw [HR.out]; rfl, rfl⟩
              · have HR : Hid (nameB cs = false) := nameB_bad HX.out ho
                clear ho
                generalize bi x = y at *
                go_wp2
                go_ret
                exact ⟨by rw [HR.out]; rfl, rfl⟩
              · have HR : Hid (nameB cs = false) := nameB_bad HX.out ho
                have hy : bi x = 47 := by subst c3; unfold bi; rfl
                rw [hy] at hix c1 c2
                clear ho c3 hy
                go_wp2
                go_ret
                exact ⟨by rw [HR.out]; rfl, rfl⟩
              · have HO := Lib.hid ho
                clear ho
                generalize bi x = y at *
                go_wp2
                go_round
                case rel =>
                  refine ⟨k + 1, by omega, by go_num, fun j c hj hc => ?_⟩
                  by_cases e : j = k
                  · subst e; rw [HX.out] at hc; injection hc with hc; subst hc; exact HO.out
                  · exact HOK.out j c (by omega) hc
                case measure => simp [intOf]; omega
            · have HR : Hid (nameB cs = true) := by
                unfold Hid
                refine nameB_good (by rw [HL.out]; omega) (by rw [HL.out]; omega) (list_other H3.out) (list_other H4.out) (fun j c hc => HOK.out j c ?_ hc)
                have := (List.getElem?_eq_some_iff.1 hc).1
                rw [HL.out] at this
                omega
              obtain rfl : k = l := by omega
              go_wp2
              go_ret
              exact ⟨by rw [HR.out]; rfl, rfl⟩
set_option maxRecDepth 100000 in
set_option maxHeartbeats 400000 in
theorem whas_any (v : Value) (xs : List ByteArray) (s : ByteArray) (w : World) (h : SlV w v (xs.map sv)) : Calls Tryz.prog 284 #[v, .string s] w fun e w' => e = .returned (.bool (hasT xs s)) ∧ w = w' := by
  obtain ⟨A, c, rfl, hlc, hcm, hR⟩ := h.len
  rw [List.length_map] at hlc hR ⊢
  have HR := Lib.hid hR
  unfold maxLen at hcm
  obtain ⟨l, hl⟩ : ∃ l, xs.length = l := ⟨_, rfl⟩
  rw [hl] at hlc ⊢
  have HL := Lib.hid hl
  obtain ⟨t, ht⟩ : ∃ t, hasT xs s = t := ⟨_, rfl⟩
  rw [ht]
  have HT := Lib.hid ht
  clear h hR hl ht
  go_enter Tryz.func284, Tryz.ntmps284
  go_wp2
  go_loop [9] (fun i => ∃ k : Nat, k ≤ l ∧ i = .int .i64 k ∧ s ∉ xs.take k) (fun i => l - (intOf i).toNat)
  case atStart => exact ⟨0, Nat.zero_le _, rfl, by simp⟩
  case round =>
    obtain ⟨k, hk, rfl, hno⟩ := hrel
    have HNO := Lib.hid hno
    clear hno
    by_cases hlt : k < l
    · have hkl : k < xs.length := by rw [HL.out]; exact hlt
      obtain ⟨ad, rfl, hcell⟩ := texts_at HR.out k hkl
      have HX := Lib.hid (show xs.take (k + 1) = xs.take k ++ [xs[k]] from List.take_succ_eq_append_getElem hkl)
      have HMEM := Lib.hid (show xs[k] ∈ xs from List.getElem_mem hkl)
      generalize xs[k] = x at *
      clear hkl
      by_cases he : x = s
      · subst he
        have htt : t = true := by rw [← HT.out]; exact hasT_yes HMEM.out
        subst htt
        go_wp2
        go_ret
        exact ⟨rfl, rfl⟩
      · have hne := toList_ne he
        go_wp2
        go_round
        case rel =>
          refine ⟨k + 1, by omega, by go_num, ?_⟩
          rw [HX.out, List.mem_append, List.mem_singleton]
          rintro (hh | hh)
          · exact HNO.out hh
          · exact he hh.symm
        case measure => simp [intOf]; omega
    · have htt : t = false := by
        rw [← HT.out]
        have := HNO.out
        rw [List.take_of_length_le (by rw [HL.out]; omega)] at this
        exact hasT_no this
      subst htt
      go_wp2
      go_ret
      exact ⟨rfl, rfl⟩

end Go.Proofs.YtpfjlhpahmhkhaaGreat.Tx
/- Package names: piecesOf, Split, Path, Parents, Under. -/
namespace Go.Proofs.YtpfjlhpahmhkhaaGreat.Tx
open Go.RowKit Go.Proofs.YtpfjlhpahmhkhaaGreat.Sh

set_option maxRecDepth 100000 in
set_option maxHeartbeats 800000 in
theorem pieces_any (cs : List UInt8) (w : World) (hn : cs.length ≤ 1000000) : Calls Tryz.prog 275 #[.string (str cs)] w (TextsPost w ((splitL 47 cs).map str)) := by
  have hsz := str_size cs
  obtain ⟨l, hL⟩ : ∃ l, cs.length = l := ⟨_, rfl⟩
  rw [hL] at hsz hn
  have HL := Lib.hid hL
  clear hL
  go_enter Tryz.func275, Tryz.ntmps275
  go_wp2_with fail
  go_loopw [3, 4, 8] (fun v fr i wr => ∃ (k f : Nat) (ps : List (List UInt8)), k ≤ l ∧ f ≤ k ∧ ps.length ≤ f ∧ i = .int .i64 k ∧ fr = .int .i64 f ∧ (∀ j, f ≤ j → j < k → cs[j]? ≠ some 47) ∧
      splitL 47 cs = ps ++ splitL 47 (cs.drop f) ∧ OwnV 9 wr w.heap.size v ((ps.map str).map sv) ∧ Below w.heap.size w wr) (fun _ _ i _ => l - (intOf i).toNat)
  case atStart => exact ⟨0, 0, [], by omega, by omega, by simp, rfl, rfl, fun j h1 h2 => by omega, by simp, OwnV.nil_ _ _, Below.refl _ _⟩
  case round =>
    obtain ⟨k, f, ps, hk, hf, hpl, rfl, rfl, hno, hs, ho, hb⟩ := hrel
    have HO := Lib.hid ho
    have HB := Lib.hid hb
    have HNO := Lib.hid hno
    have HS := Lib.hid hs
    have hwz := hb.size
    clear ho hb hno hs
    have k0 : (0 : Int) ≤ (k : Int) := by omega
    have f0 : (0 : Int) ≤ (f : Int) := by omega
    have fk : (f : Int) ≤ (k : Int) := by omega
    have hsm : (ps.map str).length + 1 ≤ 2000000 := by rw [List.length_map]; omega
    by_cases hlt : k < l
    · have k1 : (k : Int) < (l : Int) := by omega
      have k2 : (k : Int) ≤ (l : Int) := by omega
      have hkc : k < cs.length := by rw [HL.out]; exact hlt
      have hix := index_str cs k hkc
      obtain ⟨x, hx⟩ : ∃ x, cs.getD k 0 = x := ⟨_, rfl⟩
      have hx' : cs[k]? = some x := by rw [← hx, List.getD_eq_getElem?_getD, List.getElem?_eq_getElem hkc]; rfl
      rw [hx] at hix
      have HX := Lib.hid hx'
      clear hx hx' hkc
      by_cases hg : x = 47
      · subst hg
        rw [bi47] at hix
        go_wp2_with (at_builtin; refine append_text rfl (.tmp 15) (.tmp 20) rfl wr w.heap.size u3 (ps.map str) rfl HO.out ((str cs).extract f k) rfl hsm hwz ?_; intro v3 w3 ho3 hb3; have HO3 := Lib.hid ho3; have HB3 := Lib.hid hb3; clear ho3 hb3)
        go_roundw
        case rel =>
          have hlk : k < cs.length := by rw [HL.out]; exact hlt
          refine ⟨k + 1, k + 1, ps ++ [(cs.take k).drop f], by omega, by omega, by simp; omega, by go_num, by go_num, fun j h1 h2 => by omega, ?_, ?_, HB.out.trans (HB3.out.mono (Nat.le_refl _))⟩
          · rw [HS.out, drop_cut cs f k hf hlk]
            have hx2 : cs[k] = 47 := by have := HX.out; rw [List.getElem?_eq_getElem hlk] at this; injection this
            rw [hx2, splitL_cut (not_mem_cut HNO.out), List.append_assoc]
            rfl
          · have := HO3.out
            rw [slice_str] at this
            simpa using this
        case measure => simp [intOf]; omega
      · have e1 : (bi x == 47) = false := by rw [← bi47, beq_eq_false_iff_ne]; exact fun e => hg (bi_inj e)
        generalize bi x = y at *
        go_wp2
        go_roundw
        case rel =>
          refine ⟨k + 1, f, ps, by omega, by omega, hpl, by go_num, rfl, fun j h1 h2 => ?_, HS.out, HO.out, HB.out⟩
          by_cases hj : j = k
          · subst hj; rw [HX.out]; exact fun e => hg (by injection e)
          · exact HNO.out j h1 (by omega)
        case measure => simp [intOf]; omega
    · obtain rfl : k = l := by omega
      go_wp2_with (at_builtin; refine append_text rfl (.tmp 25) (.tmp 29) rfl wr w.heap.size u3 (ps.map str) rfl HO.out ((str cs).extract f k) rfl hsm hwz ?_; intro v3 w3 ho3 hb3; have HO3 := Lib.hid ho3; have HB3 := Lib.hid hb3; clear ho3 hb3)
      go_ret
      refine ⟨v3, rfl, ?_, HB.out.trans (HB3.out.mono (Nat.le_refl _))⟩
      have h1 := not_mem_cut HNO.out
      have h2 := HO3.out
      rw [slice_str] at h2
      rw [List.take_of_length_le (by rw [HL.out]; exact Nat.le_refl _)] at h1 h2
      rw [HS.out, splitL_none h1]
      simpa using h2

/-- A path's names, as the program has them. -/
theorem namesL_no {s : List UInt8} (h : pathB s = false) : namesL s = [] := by unfold namesL; rw [if_neg (by rw [h]; decide)]
theorem namesL_yes {s : List UInt8} (h : pathB s = true) : namesL s = splitL 47 s := by unfold namesL; rw [if_pos h]
theorem names_pos (s : List UInt8) : decide (0 < (namesL s).length) = pathB s := by
  cases h : pathB s with
  | false => rw [namesL_no h]; rfl
  | true =>
    rw [namesL_yes h, splitL_length]
    simp
theorem pathB_deep {s : List UInt8} (h : 8 < (splitL 47 s).length) : pathB s = false := by
  unfold pathB
  simp [show ¬ ((splitL 47 s).length ≤ 8) from by omega]

set_option maxRecDepth 100000 in
set_option maxHeartbeats 1600000 in
theorem nsplit_big (cs : List UInt8) (w : World) (hn : cs.length ≤ 100000000) : Calls Tryz.prog 211 #[.string (str cs)] w (TextsPost w ((namesL cs).map str)) := by
  have hsz := str_size cs
  obtain ⟨l, hL⟩ : ∃ l, cs.length = l := ⟨_, rfl⟩
  rw [hL] at hsz hn
  have HL := Lib.hid hL
  have n0 : (0 : Int) ≤ (l : Int) := by omega
  clear hL
  by_cases h1 : 200 < l
  · have HR : Hid (namesL cs = []) := namesL_no (pathB_long (by rw [HL.out]; exact h1))
    have z1 : (200 : Int) < (l : Int) := by omega
    go_enter Tryz.func211, Tryz.ntmps211
    go_wp2
    go_ret
    exact ⟨_, rfl, by rw [HR.out]; exact OwnV.nil_ _ _, Below.refl _ _⟩
  · have z1 : (l : Int) ≤ 200 := by omega
    have h200 : l ≤ 200 := by omega
    clear h1
    go_enter Tryz.func211, Tryz.ntmps211
    go_wp2_with fail
    refine (pieces_any cs _ (by rw [HL.out]; omega)).mono ?_
    rintro e w1 ⟨v, rfl, ho, hb⟩
    obtain ⟨A, c, rfl, hlc, hcm⟩ := ho.length
    obtain ⟨n, hN⟩ : ∃ n, (splitL 47 cs).length = n := ⟨_, rfl⟩
    rw [List.length_map, List.length_map, hN] at ho hlc ⊢
    unfold maxLen at hcm
    have hn201 : n ≤ 201 := by rw [← hN]; have := splitL_length_le 47 cs; rw [HL.out] at this; omega
    have HN := Lib.hid hN
    have HO := Lib.hid ho
    have HB := Lib.hid hb
    clear ho hb hN
    by_cases h8 : 8 < n
    · have HR : Hid (namesL cs = []) := namesL_no (pathB_deep (by rw [HN.out]; exact h8))
      have z8 : (8 : Int) < (n : Int) := by omega
      go_wp2
      go_ret
      exact ⟨_, rfl, by rw [HR.out]; exact OwnV.nil_ _ _, HB.out⟩
    · have z8 : (n : Int) ≤ 8 := by omega
      go_wp2_with fail
      go_loop [16] (fun i => ∃ k : Nat, k ≤ n ∧ i = .int .i64 k ∧ ∀ (j : Nat) (hj : j < (splitL 47 cs).length), j < k → nameB (splitL 47 cs)[j] = true) (fun i => n - (intOf i).toNat)
      case atStart => exact ⟨0, by omega, rfl, fun j _ hj => by omega⟩
      case round =>
        obtain ⟨k, hk, rfl, hok⟩ := hrel
        have HOK := Lib.hid hok
        clear hok
        have k0 : (0 : Int) ≤ (k : Int) := by omega
        by_cases hlt : k < n
        · have k1 : (k : Int) < (n : Int) := by omega
          have hkp : k < (splitL 47 cs).length := by rw [HN.out]; exact hlt
          obtain ⟨ad, rfl, hcell⟩ := piece_at HO.out k hkp
          have hpl := piece_len (List.getElem_mem hkp)
          obtain ⟨p, hp⟩ : ∃ p, (splitL 47 cs)[k] = p := ⟨_, rfl⟩
          rw [hp] at hcell hpl
          have HP := Lib.hid hp
          rw [HL.out] at hpl
          clear hp
          go_wp2_with fail
          refine (cname_any p _ (by omega)).mono ?_
          rintro e w2 ⟨rfl, rfl⟩
          obtain ⟨t, ht⟩ : ∃ t, nameB p = t := ⟨_, rfl⟩
          rw [ht]
          have HT := Lib.hid ht
          clear ht
          cases t with
          | false =>
            have HR : Hid (namesL cs = []) := namesL_no (pathB_bad hkp (by rw [HP.out]; exact HT.out))
            go_wp2
            go_ret
            exact ⟨_, rfl, by rw [HR.out]; exact OwnV.nil_ _ _, HB.out⟩
          | true =>
            go_wp2
            go_round
            case rel =>
              refine ⟨k + 1, by omega, by go_num, fun j hj hjk => ?_⟩
              by_cases e : j = k
              · subst e; rw [HP.out]; exact HT.out
              · exact HOK.out j hj (by omega)
            case measure => simp [intOf]; omega
        · obtain rfl : k = n := by omega
          have HR : Hid (namesL cs = splitL 47 cs) := by
            refine namesL_yes ?_
            rw [pathB_good (by rw [HL.out]; exact h200) (fun j hj => HOK.out j hj (by rw [HN.out] at hj; exact hj)), HN.out]
            simp; omega
          go_wp2
          go_ret
          refine ⟨_, rfl, ?_, HB.out⟩
          rw [HR.out]
          exact HO.out

set_option maxRecDepth 100000 in
set_option maxHeartbeats 400000 in
theorem npath_big (cs : List UInt8) (w : World) (hn : cs.length ≤ 100000000) : Calls Tryz.prog 159 #[.string (str cs)] w (BoolPost w (pathB cs)) := by
  have hp := names_pos cs
  have hf := namesL_few cs
  go_enter Tryz.func159, Tryz.ntmps159
  go_wp2_with fail
  refine (nsplit_big cs _ hn).mono ?_
  rintro e w1 ⟨v, rfl, ho, hb⟩
  obtain ⟨A, c, rfl, hlc, hcm⟩ := ho.length
  unfold maxLen at hcm
  have HB := Lib.hid hb
  rw [List.length_map, List.length_map] at hlc ⊢
  obtain ⟨n, hN⟩ : ∃ n, (namesL cs).length = n := ⟨_, rfl⟩
  rw [hN] at hp hlc hf ⊢
  have HP := Lib.hid hp
  clear ho hb hN hp
  go_wp2
  go_ret
  exact ⟨by rw [← HP.out]; rfl, HB.out⟩

theorem npath_any (cs : List UInt8) (w : World) (hn : cs.length ≤ 1000000) : Calls Tryz.prog 159 #[.string (str cs)] w (BoolPost w (pathB cs)) := npath_big cs w (by omega)

set_option maxRecDepth 100000 in
set_option maxHeartbeats 1600000 in
theorem nparents_any (cs : List UInt8) (w : World) (hn : cs.length ≤ 1000000) : Calls Tryz.prog 226 #[.string (str cs)] w (TextsPost w ((parentsL cs).map str)) := by
  have hsz := str_size cs
  obtain ⟨t, ht⟩ : ∃ t, pathB cs = t := ⟨_, rfl⟩
  have HT := Lib.hid ht
  clear ht
  cases t with
  | false =>
    have HP : Hid (parentsL cs = []) := by unfold Hid parentsL; rw [HT.out]; rfl
    go_enter Tryz.func226, Tryz.ntmps226
    go_wp2_with fail
    refine (npath_any cs _ hn).mono ?_
    rintro e w1 ⟨rfl, hb⟩
    rw [HT.out]
    have HB := Lib.hid hb
    clear hb
    go_wp2_with fail
    go_ret
    exact ⟨_, rfl, by rw [HP.out]; exact OwnV.nil_ _ _, HB.out⟩
  | true =>
    have HP : Hid (parentsL cs = parP cs cs.length) := by unfold Hid parentsL; rw [HT.out]; rfl
    obtain ⟨l, hL⟩ : ∃ l, cs.length = l := ⟨_, rfl⟩
    rw [hL] at hsz hn
    have HL := Lib.hid hL
    clear hL
    go_enter Tryz.func226, Tryz.ntmps226
    go_wp2_with fail
    refine (npath_any cs _ (by rw [HL.out]; exact hn)).mono ?_
    rintro e w1 ⟨rfl, hb⟩
    rw [HT.out]
    have HB := Lib.hid hb
    clear hb
    go_wp2_with fail
    go_loopw [3, 10] (fun v i wr => ∃ k : Nat, k ≤ l ∧ i = .int .i64 k ∧ OwnV 9 wr w.heap.size v (((parP cs k).map str).map sv) ∧ Below w.heap.size w wr) (fun _ i _ => l - (intOf i).toNat)
    case atStart => exact ⟨0, by omega, rfl, OwnV.nil_ _ _, HB.out⟩
    case round =>
      clear HB
      obtain ⟨k, hk, rfl, ho, hb⟩ := hrel
      have HO := Lib.hid ho
      have HB := Lib.hid hb
      have hwz := hb.size
      clear ho hb
      have k0 : (0 : Int) ≤ (k : Int) := by omega
      by_cases hlt : k < l
      · have k1 : (k : Int) < (l : Int) := by omega
        have k2 : (k : Int) ≤ (l : Int) := by omega
        have hkc : k < cs.length := by rw [HL.out]; exact hlt
        have hix := index_str cs k hkc
        obtain ⟨x, hx⟩ : ∃ x, cs.getD k 0 = x := ⟨_, rfl⟩
        have hx' : cs[k]? = some x := by rw [← hx, List.getD_eq_getElem?_getD, List.getElem?_eq_getElem hkc]; rfl
        rw [hx] at hix
        have HX := Lib.hid hx'
        clear hx hx' hkc
        by_cases h3 : x = 47
        · subst h3
          rw [bi47] at hix
          have hnx : Hid (parP cs (k + 1) = parP cs k ++ [cs.take k]) := by unfold Hid; rw [parP, if_pos HX.out]
          have hsm : ((parP cs k).map str).length + 1 ≤ 2000000 := by rw [List.length_map]; have := parP_len cs k; omega
          go_wp2_with (at_builtin; refine append_text rfl (.tmp 17) (.tmp 21) rfl wr w.heap.size u3 ((parP cs k).map str) rfl HO.out ((str cs).extract 0 k) rfl hsm hwz ?_; intro v3 w3 ho3 hb3; have HO3 := Lib.hid ho3; have HB3 := Lib.hid hb3; clear ho3 hb3)
          go_roundw
          case rel =>
            refine ⟨k + 1, by omega, by go_num, ?_, HB.out.trans (HB3.out.mono (Nat.le_refl _))⟩
            have := HO3.out
            rw [slice_str, List.drop_zero] at this
            rw [hnx.out]
            simpa using this
          case measure => simp [intOf]; omega
        · have hnx : Hid (parP cs (k + 1) = parP cs k) := by
            unfold Hid
            rw [parP, if_neg (by rw [HX.out]; exact fun e => h3 (by injection e))]
          have e3 : (bi x == 47) = false := by rw [← bi47, beq_eq_false_iff_ne]; exact fun e => h3 (bi_inj e)
          generalize bi x = y at *
          clear h3
          go_wp2
          go_roundw
          case rel => exact ⟨k + 1, by omega, by go_num, by rw [hnx.out]; exact HO.out, HB.out⟩
          case measure => simp [intOf]; omega
      · obtain rfl : k = l := by omega
        go_wp2
        go_ret
        exact ⟨u3, rfl, by rw [HP.out, HL.out]; exact HO.out, HB.out⟩

theorem str_mem {l : List (List UInt8)} {d : List UInt8} : str d ∈ l.map str ↔ d ∈ l := by
  constructor
  · intro h
    obtain ⟨x, hx, e⟩ := List.mem_map.1 h
    rw [← str_inj e]
    exact hx
  · intro h
    exact List.mem_map.2 ⟨d, h, rfl⟩
theorem under_has (d s : List UInt8) : hasT ((parentsL s).map str) (str d) = underB d s := by
  rw [Bool.eq_iff_iff, hasT_iff, under_iff, str_mem]
theorem nunder_any (ds cs : List UInt8) (w : World) (_hd : ds.length ≤ 1000000) (hn : cs.length ≤ 1000000) : Calls Tryz.prog 227 #[.string (str ds), .string (str cs)] w (BoolPost w (underB ds cs)) := by
  go_enter Tryz.func227, Tryz.ntmps227
  go_wp2_with fail
  refine (nparents_any cs _ hn).mono ?_
  rintro e w1 ⟨v, rfl, ho, hb⟩
  have HO := Lib.hid ho.slv
  have HB := Lib.hid hb
  clear ho hb
  go_wp2_with fail
  refine (whas_any v _ (str ds) _ HO.out).mono ?_
  rintro e w2 ⟨rfl, rfl⟩
  rw [under_has]
  go_wp2_with fail
  go_ret
  exact ⟨rfl, HB.out⟩
end Go.Proofs.YtpfjlhpahmhkhaaGreat.Tx
