/- Texts put together: YOb3. -/
import Derived.Test.YtodlaikemoedfaaQp20
/- obj: what may be of a message, of parents. -/
namespace Go.Proofs.Ytodlaikemoedfaa.Ob
open Go.RowKit Go.Proofs.Ytodlaikemoedfaa.Sh
open Go.Proofs.Ytodlaikemoedfaa.Tx (OwnV SlV sv bl nameB reads_at texts_at toList_ne')

theorem all_bad {f : Nat → Bool} {n k : Nat} (hk : k < n) (h : f k = false) : (List.range n).all f = false := by
  rw [List.all_eq_false]
  exact ⟨k, List.mem_range.2 hk, by rw [h]; simp⟩
theorem all_next {f : Nat → Bool} {k : Nat} (h : (List.range k).all f = true) (hk : f k = true) : (List.range (k + 1)).all f = true := by
  rw [List.range_succ, List.all_append, h]
  simp [hk]
def validB (cs : List UInt8) : Bool := cs.length == 64 && hexOk cs
theorem valid_all (cs : List UInt8) (w : World) : Calls Try.prog 56 #[.string (str cs)] w fun e w' => e = .returned (.bool (validB cs)) ∧ w = w' := by
  by_cases h64 : cs.length = 64
  · exact valid_any cs _ rfl w (by omega)
  · have hb : validB cs = false := by unfold validB; rw [beq_eq_false_iff_ne.2 h64]; rfl
    rw [hb]
    have hsz := str_size cs
    obtain ⟨l, hL⟩ : ∃ l, cs.length = l := ⟨_, rfl⟩
    rw [hL] at hsz h64
    have e1 : ((l : Int) == 64) = false := beq_eq_false_iff_ne.2 (by omega)
    clear hL
    go_enter Try.func56, Try.ntmps56
    go_wp2_with fail
    go_ret
    exact ⟨rfl, rfl⟩
theorem name_all (cs : List UInt8) (w : World) : Calls Try.prog 68 #[.string (str cs)] w fun e w' => e = .returned (.bool (nameB cs)) ∧ w = w' := Tx.cname_any cs w

def okm (c : UInt8) : Bool := decide (32 ≤ bi c) && decide (bi c ≤ 126)
def msgB (s : List UInt8) : Bool := decide (s.length ≤ 200) && (List.range s.length).all fun j => okm (s.getD j 0)
set_option maxRecDepth 100000 in
set_option maxHeartbeats 800000 in
theorem msg_any (cs : List UInt8) (w : World) : Calls Try.prog 58 #[.string (str cs)] w fun e w' => e = .returned (.bool (msgB cs)) ∧ w = w' := by
  have hsz := str_size cs
  obtain ⟨l, hL⟩ : ∃ l, cs.length = l := ⟨_, rfl⟩
  obtain ⟨t, ht⟩ : ∃ t, msgB cs = t := ⟨_, rfl⟩
  rw [ht]
  unfold msgB at ht
  rw [hL] at hsz ht
  have HL := Lib.hid hL
  have HT := Lib.hid ht
  have n0 : (0 : Int) ≤ (l : Int) := by omega
  clear hL ht
  by_cases h2 : 200 < l
  · have htt : t = false := by
      rw [← HT.out]
      simp [show ¬ (l ≤ 200) from by omega]
    subst htt
    have l2 : (200 : Int) < (l : Int) := by omega
    clear h2
    go_enter Try.func58, Try.ntmps58
    go_wp2
    go_ret
    exact ⟨rfl, rfl⟩
  · have l2 : (l : Int) ≤ 200 := by omega
    have HN := Lib.hid h2
    clear h2
    go_enter Try.func58, Try.ntmps58
    go_wp2
    go_loop [9] (fun i => ∃ k : Nat, k ≤ l ∧ i = .int .i64 k ∧ (List.range k).all (fun j => okm (cs.getD j 0)) = true) (fun i => l - (intOf i).toNat)
    case atStart => exact ⟨0, by omega, rfl, rfl⟩
    case round =>
      obtain ⟨k, hk, rfl, hok⟩ := hrel
      have HOK := Lib.hid hok
      clear hok
      have k0 : (0 : Int) ≤ (k : Int) := by omega
      by_cases hlt : k < l
      · have k1 : (k : Int) < (l : Int) := by omega
        have hix := index_str cs k (by rw [HL.out]; exact hlt)
        obtain ⟨x, hx⟩ : ∃ x, cs.getD k 0 = x := ⟨_, rfl⟩
        rw [hx] at hix
        have HX := Lib.hid hx
        clear hx
        by_cases c1 : bi x < 32
        · have htt : t = false := by
            rw [← HT.out, all_bad hlt (by rw [HX.out]; unfold okm; simp [show ¬ (32 ≤ bi x) from by omega])]
            simp
          subst htt
          generalize bi x = y at *
          go_wp2
          go_ret
          exact ⟨rfl, rfl⟩
        · have c1' : 32 ≤ bi x := by omega
          clear c1
          by_cases c2 : 126 < bi x
          · have htt : t = false := by
              rw [← HT.out, all_bad hlt (by rw [HX.out]; unfold okm; simp [show ¬ (bi x ≤ 126) from by omega])]
              simp
            subst htt
            generalize bi x = y at *
            go_wp2
            go_ret
            exact ⟨rfl, rfl⟩
          · have c2' : bi x ≤ 126 := by omega
            have HO := Lib.hid (all_next HOK.out (show okm (cs.getD k 0) = true from by rw [HX.out]; unfold okm; simp [c1', c2']))
            clear c2
            generalize bi x = y at *
            go_wp2
            go_round
            case rel => exact ⟨k + 1, by omega, by go_num, HO.out⟩
            case measure => simp [intOf]; omega
      · obtain rfl : k = l := by omega
        have htt : t = true := by
          rw [← HT.out, HOK.out]
          simp
          omega
        subst htt
        go_wp2
        go_ret
        exact ⟨rfl, rfl⟩

def parB (ids : List (List UInt8)) : Bool := decide (ids.length ≤ 2) && (List.range ids.length).all fun j => validB (ids.getD j []) && (decide (j = 0) || bl (ids.getD (j - 1) []) (ids.getD j []))
theorem par_at {w : World} {B : Nat} {ids : List (List UInt8)} {A : Option Addr} {n : Nat} (h : Reads w B 1 A n ((ids.map str).map sv)) (k : Nat) (hk : k < ids.length) : ∃ ad, A = some ad ∧ w.cell? (ad.add k) = some (.string (str (ids.getD k []))) := by
  have : ((ids.map str).map sv)[k]? = some (sv (str (ids.getD k []))) := by
    rw [List.map_map, List.getElem?_map, List.getElem?_eq_getElem hk, List.getD_eq_getElem?_getD, List.getElem?_eq_getElem hk]
    rfl
  exact reads_at h k _ this
set_option maxRecDepth 100000 in
set_option maxHeartbeats 800000 in
theorem par_any (v : Value) (ids : List (List UInt8)) (w : World) (h : SlV w v ((ids.map str).map sv)) : Calls Try.prog 57 #[v] w fun e w' => e = .returned (.bool (parB ids)) ∧ w = w' := by
  obtain ⟨A, c, rfl, hlc, hcm, hR⟩ := h.len
  rw [List.length_map, List.length_map] at hlc hR ⊢
  have HR := Lib.hid hR
  unfold maxLen at hcm
  obtain ⟨l, hL⟩ : ∃ l, ids.length = l := ⟨_, rfl⟩
  obtain ⟨t, ht⟩ : ∃ t, parB ids = t := ⟨_, rfl⟩
  rw [ht]
  unfold parB at ht
  rw [hL] at hlc ht ⊢
  have HL := Lib.hid hL
  have HT := Lib.hid ht
  clear hL ht h hR
  by_cases h2 : 2 < l
  · have htt : t = false := by
      rw [← HT.out]
      simp [show ¬ (l ≤ 2) from by omega]
    subst htt
    have l2 : (2 : Int) < (l : Int) := by omega
    clear h2
    go_enter Try.func57, Try.ntmps57
    go_wp2
    go_ret
    exact ⟨rfl, rfl⟩
  · have l2 : (l : Int) ≤ 2 := by omega
    have HN := Lib.hid h2
    clear h2
    go_enter Try.func57, Try.ntmps57
    go_wp2
    go_loop [10] (fun i => ∃ k : Nat, k ≤ l ∧ i = .int .i64 k ∧ (List.range k).all (fun j => validB (ids.getD j []) && (decide (j = 0) || bl (ids.getD (j - 1) []) (ids.getD j []))) = true) (fun i => l - (intOf i).toNat)
    case atStart => exact ⟨0, by omega, rfl, rfl⟩
    case round =>
      obtain ⟨k, hk, rfl, hok⟩ := hrel
      have HOK := Lib.hid hok
      clear hok
      have k0 : (0 : Int) ≤ (k : Int) := by omega
      by_cases hlt : k < l
      · have k1 : (k : Int) < (l : Int) := by omega
        obtain ⟨ad, rfl, hcell⟩ := par_at HR.out k (by rw [HL.out]; exact hlt)
        obtain ⟨x, hx⟩ : ∃ x, ids.getD k [] = x := ⟨_, rfl⟩
        rw [hx] at hcell
        have HX := Lib.hid hx
        obtain ⟨b, hb⟩ : ∃ b, validB x = b := ⟨_, rfl⟩
        have HB := Lib.hid hb
        clear hx hb
        cases b with
        | false =>
          have htt : t = false := by
            rw [← HT.out, all_bad hlt (by rw [HX.out, HB.out]; rfl)]
            simp
          subst htt
          go_wp2_with fail
          refine (valid_all x _).mono ?_
          rw [HB.out]
          rintro e w' ⟨rfl, rfl⟩
          go_wp2
          go_ret
          exact ⟨rfl, rfl⟩
        | true =>
          rcases Nat.eq_zero_or_pos k with h0 | h0
          · have HO := Lib.hid (all_next HOK.out (show (validB (ids.getD k []) && (decide (k = 0) || bl (ids.getD (k - 1) []) (ids.getD k []))) = true from by rw [HX.out, HB.out]; simp [h0]))
            have kz : (k : Int) ≤ 0 := by omega
            clear h0
            go_wp2_with fail
            refine (valid_all x _).mono ?_
            rw [HB.out]
            rintro e w' ⟨rfl, rfl⟩
            go_wp2
            go_round
            case rel => exact ⟨k + 1, by omega, by go_num, HO.out⟩
            case measure => simp [intOf]; omega
          · obtain ⟨j, hj⟩ : ∃ j, k = j + 1 := ⟨k - 1, by omega⟩
            have hkj : (k : Int) - 1 = (j : Int) := by omega
            have hwj : IntKind.i64.wrap ((k : Int) - 1) = (j : Int) := by rw [IntKind.wrap_i64]; omega
            have kp : (0 : Int) < (k : Int) := by omega
            obtain ⟨ad', had, hcell'⟩ := par_at HR.out j (by rw [HL.out]; omega)
            injection had with had
            subst had
            obtain ⟨y, hy⟩ : ∃ y, ids.getD j [] = y := ⟨_, rfl⟩
            rw [hy] at hcell'
            obtain ⟨r, hr⟩ : ∃ r, Op.bytesLess (str y).toList (str x).toList = r := ⟨_, rfl⟩
            have hr' : bl y x = r := by rw [str_toList, str_toList] at hr; exact hr
            have j0 : (0 : Int) ≤ (j : Int) := by omega
            have j1 : (j : Int) < (l : Int) := by omega
            have HY := Lib.hid hy
            have HJ := Lib.hid hj
            have HRR := Lib.hid hr'
            clear hy hr' hj
            have hf : (validB (ids.getD k []) && (decide (k = 0) || bl (ids.getD (k - 1) []) (ids.getD k []))) = r := by
              rw [HX.out, HB.out, show k - 1 = j from by have := HJ.out; omega, HY.out, HRR.out]
              simp [show k ≠ 0 from by omega]
            have HF := Lib.hid hf
            clear hf h0
            cases r with
            | false =>
              have htt : t = false := by
                rw [← HT.out, all_bad hlt HF.out]
                simp
              subst htt
              go_wp2_with fail
              refine (valid_all x _).mono ?_
              rw [HB.out]
              rintro e w' ⟨rfl, rfl⟩
              go_wp2
              go_ret
              exact ⟨rfl, rfl⟩
            | true =>
              have HO := Lib.hid (all_next HOK.out HF.out)
              go_wp2_with fail
              refine (valid_all x _).mono ?_
              rw [HB.out]
              rintro e w' ⟨rfl, rfl⟩
              go_wp2
              go_round
              case rel => exact ⟨k + 1, by omega, by go_num, HO.out⟩
              case measure => simp [intOf]; omega
      · obtain rfl : k = l := by omega
        have htt : t = true := by
          rw [← HT.out, HOK.out]
          simp
          omega
        subst htt
        go_wp2
        go_ret
        exact ⟨rfl, rfl⟩
end Go.Proofs.Ytodlaikemoedfaa.Ob
