/- Chapter 14: Match, the program's. -/
import Derived.Test.YtbejgljljjjjcaaLn8
set_option linter.unusedVariables false
set_option linter.unusedSimpArgs false
namespace Go.Proofs.Ytbejgljljjjjcaa.Ln
open Go.RowKit Go.Proofs.Ytbejgljljjjjcaa.Sh Go.Proofs.Ytbejgljljjjjcaa.Tx

/-- Match's answer: the pairs, the error. -/
def mErr (a b : List ByteArray) : Int := if a.length ≤ 200 ∧ b.length ≤ 200 then 0 else 14
def mPrs (a b : List ByteArray) : List (Nat × Nat) := if a.length ≤ 200 ∧ b.length ≤ 200 then prsL 0 0 a b else []
def MatP (T : TypeId) (w : World) (a b : List ByteArray) (e : Ending) (w' : World) : Prop := ∃ v, e = .returned (.tuple #[v, .int .i64 (mErr a b)]) ∧ OwnK 2 T w' w.heap.size v ((mPrs a b).map prC) ∧ Below w.heap.size w w'
theorem prs_short : ∀ (n i j : Nat) {a b : List ByteArray}, a.length + b.length ≤ n → (prsL i j a b).length = lenL a b := fun n i j {a b} h => prs_len n i j h
set_option maxRecDepth 100000 in
set_option maxHeartbeats 3200000 in
theorem match_any (v1 v2 : Value) (a b : List ByteArray) (w : World) (h1 : SlV w v1 (a.map sv)) (h2 : SlV w v2 (b.map sv)) :
    Calls Try.prog 21 #[v1, v2] w (MatP 69 w a b) := by
  obtain ⟨A1, c1, rfl, hl1, hm1, _⟩ := h1.len
  obtain ⟨A2, c2, rfl, hl2, hm2, _⟩ := h2.len
  rw [List.length_map] at h1 h2 hl1 hl2 ⊢
  rw [List.length_map]
  have H1 := Lib.hid h1
  have H2 := Lib.hid h2
  unfold maxLen at hm1 hm2
  unfold MatP
  by_cases hab : a.length ≤ 200 ∧ b.length ≤ 200
  · have eE : mErr a b = 0 := if_pos hab
    have eP : mPrs a b = prsL 0 0 a b := if_pos hab
    rw [eE, eP]
    clear eE eP
    have HT : Hid (∀ W, Below w.heap.size w W → Calls Try.prog 36 #[.slice A1 a.length c1, .slice A2 b.length c2] W (TabPost W a b)) := fun W hW => table_any _ _ a b W (h1.below hW) (h2.below hW) hab.1 hab.2
    obtain ⟨n, hn⟩ : ∃ n, a.length = n := ⟨_, rfl⟩
    obtain ⟨m, hm⟩ : ∃ m, b.length = m := ⟨_, rfl⟩
    rw [hn, hm] at hab
    unfold TabPost at HT
    rw [hn] at H1 hl1 HT ⊢
    rw [hm] at H2 hl2 HT ⊢
    have HN := Lib.hid hn
    have HM := Lib.hid hm
    obtain ⟨ha, hb⟩ := hab
    obtain ⟨R, hR⟩ : ∃ R, prsL 0 0 a b = R := ⟨_, rfl⟩
    have HR := Lib.hid hR
    have HRL : Hid (R.length ≤ 200) := by
      unfold Hid
      rw [← hR, prs_short _ 0 0 (Nat.le_refl _)]
      have := lenL_le _ a b (Nat.le_refl _)
      omega
    rw [hR]
    clear h1 h2 hn hm hR
    go_enter Try.func21, Try.ntmps21
    go_wp2_with fail
    refine (HT.out w (Below.refl _ _)).mono ?_
    rintro e w1 ⟨g, r, rfl, hmat⟩
    have HMAT := Lib.hid hmat
    clear hmat
    go_wp2_with fail
    go_loopw [7, 8, 9] (fun v x y wr => ∃ (i j : Nat) (P : List (Nat × Nat)), i ≤ n ∧ j ≤ m ∧ x = .int .i64 (i : Int) ∧ y = .int .i64 (j : Int) ∧ R = P ++ prsL i j (a.drop i) (b.drop j) ∧ OwnK 2 69 wr w1.heap.size v (P.map prC) ∧ Below w1.heap.size w1 wr) (fun _ x y _ => n + m - ((intOf x).toNat + (intOf y).toNat))
    case atStart => exact ⟨0, 0, [], Nat.zero_le _, Nat.zero_le _, rfl, rfl, HR.out.symm, OwnK.nil_ _ _ _ _, Below.refl _ _⟩
    case round =>
      obtain ⟨i, j, P, hi, hj, rfl, rfl, hP, ho, hbl⟩ := hrel
      have HP := Lib.hid hP
      have HO := Lib.hid ho
      have HB := Lib.hid hbl
      have HMR := Lib.hid (HMAT.out.below hbl)
      have HW : Hid (w1.heap.size ≤ wr.heap.size) := hbl.size
      have hpl : P.length ≤ 200 := by have h := congrArg List.length hP; rw [List.length_append] at h; have := HRL.out; omega
      clear hP ho hbl
      have z0 : (0 : Int) ≤ (i : Int) := by omega
      have z1 : (0 : Int) ≤ (j : Int) := by omega
      by_cases hin : i < n
      · have z2 : (i : Int) < (n : Int) := by omega
        by_cases hjm : j < m
        · have z3 : (j : Int) < (m : Int) := by omega
          have hil : i < a.length := by rw [HN.out]; omega
          have hjl : j < b.length := by rw [HM.out]; omega
          obtain ⟨x, hx⟩ : ∃ x, a[i]? = some x := ⟨_, List.getElem?_eq_getElem hil⟩
          obtain ⟨y, hy⟩ : ∃ y, b[j]? = some y := ⟨_, List.getElem?_eq_getElem hjl⟩
          obtain ⟨ad1, rfl, x1⟩ := texts_cell (H1.out.below HMR.out.bel) i x hx
          obtain ⟨ad2, rfl, x2⟩ := texts_cell (H2.out.below HMR.out.bel) j y hy
          have s0 := HMR.out.cell i (Nat.zero_le _) (by omega)
          have s1 := HMR.out.cell (i + 1) (Nat.zero_le _) (by omega)
          have s3 := (HMR.out.row i (Nat.zero_le _) (by omega)).cell (j + 1) (by omega)
          have s4 := (HMR.out.row (i + 1) (Nat.zero_le _) (by omega)).cell j (by omega)
          have t3 : tabF a b 0 0 i (j + 1) = lenL (a.drop i) (b.drop (j + 1)) := by unfold tabF; rw [if_neg (fun h => by omega)]
          have t4 : tabF a b 0 0 (i + 1) j = lenL (a.drop (i + 1)) (b.drop j) := by unfold tabF; rw [if_neg (fun h => by omega)]
          rw [t3] at s3
          rw [t4] at s4
          have hst := prs_step a b i j hil hjl
          rw [show a[i] = x by rw [List.getElem?_eq_getElem hil] at hx; injection hx, show b[j] = y by rw [List.getElem?_eq_getElem hjl] at hy; injection hy] at hst
          obtain ⟨v3, e3⟩ : ∃ v, lenL (a.drop i) (b.drop (j + 1)) = v := ⟨_, rfl⟩
          obtain ⟨v4, e4⟩ : ∃ v, lenL (a.drop (i + 1)) (b.drop j) = v := ⟨_, rfl⟩
          rw [e3] at s3 hst
          rw [e4] at s4 hst
          have HST := Lib.hid hst
          clear hst hil hjl t3 t4 e3 e4 hy hx
          by_cases he : x = y
          · subst he
            have HV := Lib.hid (HP.out.trans (congrArg (P ++ ·) (HST.out.trans (if_pos rfl))))
            go_wp2_with fail
            go_quiet (fail)
            go_wp2_with (at_builtin; refine append_pr Try.underlying47 info_pr rfl (.tmp 43) (.tmp 47) rfl _ w1.heap.size u7 P rfl (HO.out.below (below_drewN (Below.refl _ _) _)) i j rfl (by omega) (by exact HW.out) ?_; intro v4 w4 ho4 hb4; have HO4 := Lib.hid ho4; have HB4 := Lib.hid hb4; clear ho4 hb4)
            go_roundw
            case rel => exact ⟨i + 1, j + 1, P ++ [(i, j)], by omega, by omega, by go_num, by go_num, by rw [HV.out, List.append_assoc]; rfl, HO4.out, (below_drewN HB.out _).trans HB4.out⟩
            case measure => simp [intOf]; omega
          · have hne := toList_ne he
            by_cases hlt : v3 ≤ v4
            · have HV := Lib.hid (HP.out.trans (congrArg (P ++ ·) (HST.out.trans ((if_neg he).trans (if_pos hlt)))))
              have z9 : (v3 : Int) ≤ (v4 : Int) := by omega
              go_wp2_with fail
              go_quiet (fail)
              go_wp2_with fail
              go_quiet (fail)
              go_wp2_with fail
              go_roundw
              case rel => exact ⟨i + 1, j, P, by omega, by omega, by go_num, rfl, HV.out, HO.out.below (below_drewN (Below.refl _ _) _), below_drewN HB.out _⟩
              case measure => simp [intOf]; omega
            · have HV := Lib.hid (HP.out.trans (congrArg (P ++ ·) (HST.out.trans ((if_neg he).trans (if_neg hlt)))))
              have z9 : ¬ (v3 : Int) ≤ (v4 : Int) := by omega
              go_wp2_with fail
              go_quiet (fail)
              go_wp2_with fail
              go_quiet (fail)
              go_wp2_with fail
              go_roundw
              case rel => exact ⟨i, j + 1, P, by omega, by omega, rfl, by go_num, HV.out, HO.out.below (below_drewN (Below.refl _ _) _), below_drewN HB.out _⟩
              case measure => simp [intOf]; omega
        · obtain rfl : j = m := by omega
          have hfin := HP.out
          rw [prs_end a b i j (.inr (by rw [HM.out]; exact Nat.le_refl _)), List.append_nil] at hfin
          subst hfin
          have z3 : ¬ (j : Int) < (j : Int) := by omega
          go_wp2_with fail
          go_ret2
          exact ⟨_, rfl, HO.out.base HMAT.out.size, HMR.out.bel⟩
      · obtain rfl : i = n := by omega
        have hfin := HP.out
        rw [prs_end a b i j (.inl (by rw [HN.out]; exact Nat.le_refl _)), List.append_nil] at hfin
        subst hfin
        have z2 : ¬ (i : Int) < (i : Int) := by omega
        go_wp2_with fail
        go_ret2
        exact ⟨_, rfl, HO.out.base HMAT.out.size, HMR.out.bel⟩
  · have eE : mErr a b = 14 := if_neg hab
    have eP : mPrs a b = [] := if_neg hab
    rw [eE, eP]
    clear eE eP
    obtain ⟨n, hn⟩ : ∃ n, a.length = n := ⟨_, rfl⟩
    obtain ⟨m, hm⟩ : ∃ m, b.length = m := ⟨_, rfl⟩
    rw [hn, hm] at hab
    rw [hn] at hl1 ⊢
    rw [hm] at hl2 ⊢
    clear hn hm h1 h2 H1 H2
    go_enter Try.func21, Try.ntmps21
    by_cases h1 : 200 < (n : Int)
    · go_wp2_with fail
      go_ret2
      exact ⟨_, rfl, OwnK.nil_ _ _ _ _, Below.refl _ _⟩
    · have h2 : 200 < (m : Int) := by omega
      go_wp2_with fail
      go_ret2
      exact ⟨_, rfl, OwnK.nil_ _ _ _ _, Below.refl _ _⟩
end Go.Proofs.Ytbejgljljjjjcaa.Ln
