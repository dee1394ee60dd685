/- The walk of DeltaWrong. -/
import Derived.Test.YthphplmcojdpeaaDvt
import Derived.Deep.CutBlock
import Derived.Deep.DeepCutAuto
set_option linter.unusedVariables false
set_option linter.unusedSimpArgs false
namespace Go.Proofs.Ythphplmcojdpeaa
open Go.RowKit

/-- What is behind the whole delta, and what is wrong with it. -/
def wrongL (la : Nat) (k : Int) : List UInt8 := if k = 0 then [3] else if k = 1 then [1, 0, 0] else if k = 2 then [1, UInt8.ofNat la, 1] else if k = 3 then [2, 1] else [2, 1, 7]
def wrongE (k : Int) : Int := if k = 0 then 4 else if k = 1 then 4 else if k = 2 then 1 else if k = 3 then 2 else 3
theorem wrongE_ne (k : Int) : wrongE k ≠ 0 := by
  unfold wrongE
  by_cases h0 : k = 0
  · rw [if_pos h0]; decide
  · rw [if_neg h0]
    by_cases h1 : k = 1
    · rw [if_pos h1]; decide
    · rw [if_neg h1]
      by_cases h2 : k = 2
      · rw [if_pos h2]; decide
      · rw [if_neg h2]
        by_cases h3 : k = 3
        · rw [if_pos h3]; decide
        · rw [if_neg h3]; decide
theorem getD_behind (x r : List UInt8) (j : Nat) : (x ++ r).getD (x.length + j) 0 = r.getD j 0 := by
  rw [List.getD_eq_getElem?_getD, List.getElem?_append_right (by omega), List.getD_eq_getElem?_getD]
  congr 2
  omega
theorem getR_small (x r : List UInt8) (n : Nat) (hn : n < 128) (j : Int) (hj : j = (x.length : Int)) : getR (x ++ UInt8.ofNat n :: r) j = ((n : Int), j + 1, 0) := by
  subst hj
  have h := getR_putL (n := n) (by omega) x r
  rw [putL_lt hn] at h
  simpa using h
theorem wrong_apply (a b : List UInt8) (k : Int) (ha : a.length ≤ 100) (h0 : 0 < b.length) (hb : b.length ≤ 100) : applyD a ((headD a.length b.length ++ encS (.ins b)) ++ wrongL a.length k) = ([], wrongE k) := by
  refine apply_behind a b (wrongL a.length k) h0 ha hb (wrongE k) (wrongE_ne k) (fun D p hD hp => ?_)
  subst hp
  obtain ⟨X, hX⟩ : ∃ X, headD a.length b.length ++ encS (.ins b) = X := ⟨_, rfl⟩
  rw [hX] at hD ⊢
  subst hD
  have g : ∀ j, (X ++ wrongL a.length k).getD (X.length + j) 0 = (wrongL a.length k).getD j 0 := getD_behind X _
  have g0 := g 0
  rw [Nat.add_zero] at g0
  unfold wrongL wrongE at *
  by_cases k0 : k = 0
  · rw [if_pos k0] at g0 ⊢
    rw [if_pos k0]
    exact ⟨by simp, .inl (step_none (by rw [g0]; decide) (by rw [g0]; decide))⟩
  · rw [if_neg k0] at g0 ⊢
    rw [if_neg k0]
    by_cases k1 : k = 1
    · rw [if_pos k1] at g0 ⊢
      rw [if_pos k1]
      refine ⟨by simp, .inl (copy_zero (a := 0) (q := (X.length : Int) + 3) (by rw [g0]; rfl) ?_)⟩
      have e1 := getR_small (X ++ [1]) [0] 0 (by omega) ((X.length + 1 : Nat) : Int) (by simp)
      have e2 := getR_small (X ++ [1, 0]) [] 0 (by omega) (((X.length + 1 : Nat) : Int) + 1) (by simp; omega)
      have f1 : X ++ [1] ++ UInt8.ofNat 0 :: [0] = X ++ [1, 0, 0] := by simp
      have f2 : X ++ [1, 0] ++ UInt8.ofNat 0 :: [] = X ++ [1, 0, 0] := by simp
      rw [f1] at e1
      rw [f2] at e2
      rw [two_ok e1 e2]
      congr 3
    · rw [if_neg k1] at g0 ⊢
      rw [if_neg k1]
      by_cases k2 : k = 2
      · rw [if_pos k2] at g0 ⊢
        rw [if_pos k2]
        refine ⟨by simp, .inl (copy_range (a := (a.length : Int)) (b := 1) (q := (X.length : Int) + 3) (by rw [g0]; rfl) ?_ (by decide) (by omega))⟩
        have e1 := getR_small (X ++ [1]) [1] a.length (by omega) ((X.length + 1 : Nat) : Int) (by simp)
        have e2 := getR_small (X ++ [1, UInt8.ofNat a.length]) [] 1 (by omega) (((X.length + 1 : Nat) : Int) + 1) (by simp; omega)
        have f1 : X ++ [1] ++ UInt8.ofNat a.length :: [1] = X ++ [1, UInt8.ofNat a.length, 1] := by simp
        have f2 : X ++ [1, UInt8.ofNat a.length] ++ UInt8.ofNat 1 :: [] = X ++ [1, UInt8.ofNat a.length, 1] := by simp
        rw [f1] at e1
        rw [f2] at e2
        rw [two_ok e1 e2]
        congr 3
      · rw [if_neg k2] at g0 ⊢
        rw [if_neg k2]
        by_cases k3 : k = 3
        · rw [if_pos k3] at g0 ⊢
          rw [if_pos k3]
          have e1 := getR_small (X ++ [2]) [] 1 (by omega) ((X.length + 1 : Nat) : Int) (by simp)
          have f1 : X ++ [2] ++ UInt8.ofNat 1 :: [] = X ++ [2, 1] := by simp
          rw [f1] at e1
          exact ⟨by simp, .inl (ins_short (by rw [g0]; rfl) e1 (by decide) (by simp; omega))⟩
        · rw [if_neg k3] at g0 ⊢
          rw [if_neg k3]
          have e1 := getR_small (X ++ [2]) [7] 1 (by omega) ((X.length + 1 : Nat) : Int) (by simp)
          have f1 : X ++ [2] ++ UInt8.ofNat 1 :: [7] = X ++ [2, 1, 7] := by simp
          rw [f1] at e1
          have e2 : getR (X ++ [2, 1, 7]) ((X.length + 1 : Nat) : Int) = (((1 : Nat) : Int), ((X.length + 2 : Nat) : Int), 0) := by rw [e1]; congr 2
          refine ⟨by simp, .inr ⟨rfl, _, _, ins_ok (by rw [g0]; rfl) e2 (by decide) (by simp), ?_⟩⟩
          simp
theorem head_small (la lb : Nat) (b : List UInt8) (h1 : la < 128) (h2 : lb < 128) (hl : b.length = lb) : headD la lb ++ encS (.ins b) = [UInt8.ofNat la, UInt8.ofNat lb, 2, UInt8.ofNat lb] ++ b := by
  show putL la ++ putL lb ++ 2 :: (putL b.length ++ b) = _
  rw [hl, putL_lt h1, putL_lt h2]
  rfl

set_option maxRecDepth 100000 in
set_option maxHeartbeats 6400000 in
theorem wrong_any (va vb : Value) (a b : List UInt8) (k : Int) (w : World) (ha : Sl w va a) (hb : Sl w vb b) : Calls Try.prog 8 #[va, vb, .int .i64 k] w (Yes w) := by
  obtain ⟨A, ca, rfl, hla, hca, hIa⟩ := ha.len
  obtain ⟨B, cb, rfl, hlb, hcb, hIb⟩ := hb.len
  unfold maxLen at hca hcb
  have HSA := Lib.hid ha
  have HWA : Hid (a.length ≤ 100 → 0 < b.length → b.length ≤ 100 → applyD a ((headD a.length b.length ++ encS (.ins b)) ++ wrongL a.length k) = ([], wrongE k)) := wrong_apply a b k
  have HRB : Hid (∀ W, Below w.heap.size w W → Reads W W.heap.size 1 B b.length (b.map bv)) := fun W hW => (hIb.below hW).reads
  obtain ⟨la, hLA⟩ : ∃ l, a.length = l := ⟨_, rfl⟩
  obtain ⟨lb, hLB⟩ : ∃ l, b.length = l := ⟨_, rfl⟩
  rw [hLA] at hla HSA HWA ⊢
  rw [hLB] at hlb HWA HRB ⊢
  have HLB := Lib.hid hLB
  clear ha hb hIa hIb hLA hLB
  by_cases hg : la ≤ 100 ∧ 1 ≤ lb ∧ lb ≤ 100
  · obtain ⟨g1, g2, g3⟩ := hg
    have g1i : (la : Int) ≤ 100 := by omega
    have g2i : (1 : Int) ≤ (lb : Int) := by omega
    have g3i : (lb : Int) ≤ 100 := by omega
    have hwa := HWA.out g1 (by omega) g3
    rw [head_small la lb b (by omega) (by omega) HLB.out] at hwa
    have c1 := conv8 la
    have c2 := conv8 lb
    obtain ⟨x, hx⟩ : ∃ x, bi (UInt8.ofNat la) = x := ⟨_, rfl⟩
    obtain ⟨y, hy⟩ : ∃ x, bi (UInt8.ofNat lb) = x := ⟨_, rfl⟩
    rw [hx] at c1
    rw [hy] at c2
    have HX := Lib.hid hx
    have HY := Lib.hid hy
    have HW := Lib.hid hwa
    have HG1 := Lib.hid g1
    clear HWA hx hy hwa g2
    go_enter Try.func8, Try.ntmps8
    go_wp2_with fail
    refine (first_any w).mono ?_
    rintro e w1 ⟨rfl, hb1⟩
    have HB1 := Lib.hid hb1
    clear hb1
    have HO0 : Hid (Own (w1.alloc (.cells #[.int .u8 x, .int .u8 y, .int .u8 2, .int .u8 y] 5)) w1.heap.size (.slice (some ⟨w1.heap.size, 0, none⟩) 4 4) [UInt8.ofNat la, UInt8.ofNat lb, 2, UInt8.ofNat lb]) := own_lit _ _ (by rw [← HX.out, ← HY.out]; unfold bv; rw [← bi2]; rfl) 4 rfl (by omega) (Nat.le_refl _)
    have HB0 := Lib.hid ((Below.refl w1.heap.size w1).alloc (Nat.le_refl _) (.cells #[.int .u8 x, .int .u8 y, .int .u8 2, .int .u8 y] 5))
    have hs0 : ([UInt8.ofNat la, UInt8.ofNat lb, 2, UInt8.ofNat lb] : List UInt8).length + lb ≤ 140737488355328 := by simp; omega
    have HU : Hid (∀ W, Below w1.heap.size w1 W → Below w.heap.size w W) := fun W hW => HB1.out.trans (hW.mono HB1.out.size)
    go_upto_block 0 with (at_builtin; refine append_bytes rfl (.tmp 36) (.tmp 37) rfl _ w1.heap.size _ _ rfl HO0.out _ B lb cb b rfl (HRB.out _ (HU.out _ HB0.out)) hs0 HB0.out.size ?_; intro v2 w2 ho2 hb2; have HO2 := Lib.hid ho2; have HB2 := Lib.hid (HB0.out.trans hb2); clear ho2 hb2)
    go_cut [7, 8] (fun v e wx => e = .int .i64 (wrongE k) ∧ Own wx w1.heap.size v ([UInt8.ofNat la, UInt8.ofNat lb, 2, UInt8.ofNat lb] ++ b ++ wrongL la k) ∧ Below w1.heap.size w1 wx)
    case first =>
      by_cases k0 : k = 0
      · have HE : Hid (wrongE k = 4 ∧ wrongL la k = [3]) := by unfold Hid wrongE wrongL; rw [if_pos k0, if_pos k0]; exact ⟨rfl, rfl⟩
        have e0 : (k == 0) = true := beq_iff_eq.2 k0
        clear k0
        go_wp2_with (at_builtin; refine append_bytes rfl (.tmp 45) (.tmp 46) rfl (w2.alloc (.cells #[.int .u8 3] 5)) w1.heap.size v2 _ rfl (HO2.out.alloc _) _ _ 1 1 [3] rfl (reads_new w2 [3] _ (by unfold bv bi; rfl) 1 rfl) (by have := HLB.out; simp only [List.length_append, List.length_nil, List.length_cons]; omega) (HB2.out.alloc HB2.out.size _).size ?_; intro v3 w3 ho3 hb3; have HO3 := Lib.hid ho3; have HB3 := Lib.hid ((HB2.out.alloc HB2.out.size _).trans hb3); clear ho3 hb3)
        go_meet
        exact ⟨by rw [HE.out.1], by rw [HE.out.2]; exact HO3.out, HB3.out⟩
      · have e0 : (k == 0) = false := beq_eq_false_iff_ne.2 k0
        by_cases k1 : k = 1
        · have HE : Hid (wrongE k = 4 ∧ wrongL la k = [1, 0, 0]) := by unfold Hid wrongE wrongL; rw [if_neg k0, if_neg k0, if_pos k1, if_pos k1]; exact ⟨rfl, rfl⟩
          have e1 : (k == 1) = true := beq_iff_eq.2 k1
          clear k0 k1
          go_wp2_with (at_builtin; refine append_bytes rfl (.tmp 50) (.tmp 51) rfl (w2.alloc (.cells #[.int .u8 1, .int .u8 0, .int .u8 0] 5)) w1.heap.size v2 _ rfl (HO2.out.alloc _) _ _ 3 3 [1, 0, 0] rfl (reads_new w2 [1, 0, 0] _ (by unfold bv bi; rfl) 3 rfl) (by have := HLB.out; simp only [List.length_append, List.length_nil, List.length_cons]; omega) (HB2.out.alloc HB2.out.size _).size ?_; intro v3 w3 ho3 hb3; have HO3 := Lib.hid ho3; have HB3 := Lib.hid ((HB2.out.alloc HB2.out.size _).trans hb3); clear ho3 hb3)
          go_meet
          exact ⟨by rw [HE.out.1], by rw [HE.out.2]; exact HO3.out, HB3.out⟩
        · have e1 : (k == 1) = false := beq_eq_false_iff_ne.2 k1
          by_cases k2 : k = 2
          · have HE : Hid (wrongE k = 1 ∧ wrongL la k = [1, UInt8.ofNat la, 1]) := by unfold Hid wrongE wrongL; rw [if_neg k0, if_neg k0, if_neg k1, if_neg k1, if_pos k2, if_pos k2]; exact ⟨rfl, rfl⟩
            have e2 : (k == 2) = true := beq_iff_eq.2 k2
            clear k0 k1 k2
            go_wp2_with (at_builtin; refine append_bytes rfl (.tmp 55) (.tmp 59) rfl (w2.alloc (.cells #[.int .u8 1, .int .u8 x, .int .u8 1] 5)) w1.heap.size v2 _ rfl (HO2.out.alloc _) _ _ 3 3 [1, UInt8.ofNat la, 1] rfl (reads_new w2 [1, UInt8.ofNat la, 1] _ (by rw [← HX.out]; unfold bv; rw [← bi1]; rfl) 3 rfl) (by have := HLB.out; simp only [List.length_append, List.length_nil, List.length_cons]; omega) (HB2.out.alloc HB2.out.size _).size ?_; intro v3 w3 ho3 hb3; have HO3 := Lib.hid ho3; have HB3 := Lib.hid ((HB2.out.alloc HB2.out.size _).trans hb3); clear ho3 hb3)
            go_meet
            exact ⟨by rw [HE.out.1], by rw [HE.out.2]; exact HO3.out, HB3.out⟩
          · have e2 : (k == 2) = false := beq_eq_false_iff_ne.2 k2
            by_cases k3 : k = 3
            · have HE : Hid (wrongE k = 2 ∧ wrongL la k = [2, 1]) := by unfold Hid wrongE wrongL; rw [if_neg k0, if_neg k0, if_neg k1, if_neg k1, if_neg k2, if_neg k2, if_pos k3, if_pos k3]; exact ⟨rfl, rfl⟩
              have e3 : (k == 3) = true := beq_iff_eq.2 k3
              clear k0 k1 k2 k3
              go_wp2_with (at_builtin; refine append_bytes rfl (.tmp 63) (.tmp 64) rfl (w2.alloc (.cells #[.int .u8 2, .int .u8 1] 5)) w1.heap.size v2 _ rfl (HO2.out.alloc _) _ _ 2 2 [2, 1] rfl (reads_new w2 [2, 1] _ (by unfold bv bi; rfl) 2 rfl) (by have := HLB.out; simp only [List.length_append, List.length_nil, List.length_cons]; omega) (HB2.out.alloc HB2.out.size _).size ?_; intro v3 w3 ho3 hb3; have HO3 := Lib.hid ho3; have HB3 := Lib.hid ((HB2.out.alloc HB2.out.size _).trans hb3); clear ho3 hb3)
              go_meet
              exact ⟨by rw [HE.out.1], by rw [HE.out.2]; exact HO3.out, HB3.out⟩
            · have e3 : (k == 3) = false := beq_eq_false_iff_ne.2 k3
              have HE : Hid (wrongE k = 3 ∧ wrongL la k = [2, 1, 7]) := by unfold Hid wrongE wrongL; rw [if_neg k0, if_neg k0, if_neg k1, if_neg k1, if_neg k2, if_neg k2, if_neg k3, if_neg k3]; exact ⟨rfl, rfl⟩
              clear k0 k1 k2 k3
              go_wp2_with (at_builtin; refine append_bytes rfl (.tmp 40) (.tmp 41) rfl (w2.alloc (.cells #[.int .u8 2, .int .u8 1, .int .u8 7] 5)) w1.heap.size v2 _ rfl (HO2.out.alloc _) _ _ 3 3 [2, 1, 7] rfl (reads_new w2 [2, 1, 7] _ (by unfold bv bi; rfl) 3 rfl) (by have := HLB.out; simp only [List.length_append, List.length_nil, List.length_cons]; omega) (HB2.out.alloc HB2.out.size _).size ?_; intro v3 w3 ho3 hb3; have HO3 := Lib.hid ho3; have HB3 := Lib.hid ((HB2.out.alloc HB2.out.size _).trans hb3); clear ho3 hb3)
              go_meet
              exact ⟨by rw [HE.out.1], by rw [HE.out.2]; exact HO3.out, HB3.out⟩
    case rest =>
      obtain ⟨rfl, hox, hbx⟩ := hcut
      have HSX := Lib.hid hox.sl
      have HBX := Lib.hid (HU.out _ hbx)
      have hee : (wrongE k == wrongE k) = true := beq_self_eq_true _
      obtain ⟨we, hwe⟩ : ∃ x, wrongE k = x := ⟨_, rfl⟩
      rw [hwe] at HW hee ⊢
      clear hox hbx hwe
      go_wp2_with fail
      refine (apply_any _ _ a _ wc (HSA.out.below HBX.out) HSX.out).mono ?_
      rw [HW.out]
      rintro e w4 ⟨v4, rfl, ho4, hb4⟩
      have HB4 := Lib.hid (HBX.out.trans (hb4.mono HBX.out.size))
      obtain ⟨A4, c4, rfl, _, _⟩ := ho4.length
      clear ho4 hb4
      go_wp2_with fail
      refine (first_then HB4.out HB4.out.size).mono ?_
      rintro e w5 ⟨rfl, hb5, _⟩
      have HB5 := Lib.hid hb5
      clear hb5
      go_wp2_with fail
      go_ret
      exact ⟨rfl, HB5.out⟩
  · have hor : (100 : Int) < (la : Int) ∨ (la : Int) ≤ 100 ∧ (lb : Int) < 1 ∨ (la : Int) ≤ 100 ∧ (1 : Int) ≤ (lb : Int) ∧ (100 : Int) < (lb : Int) := by omega
    clear hg
    rcases hor with h1 | ⟨h1, h2⟩ | ⟨h1, h2, h3⟩
    all_goals
      go_enter Try.func8, Try.ntmps8
      go_wp2_with fail
      refine (first_any w).mono ?_
      rintro e w1 ⟨rfl, hb1⟩
      have HB1 := Lib.hid hb1
      clear hb1
      go_wp2_with fail
      refine (first_then HB1.out HB1.out.size).mono ?_
      rintro e w2 ⟨rfl, hb2, _⟩
      have HB2 := Lib.hid hb2
      clear hb2
      go_wp2_with fail
      go_ret
      exact ⟨rfl, HB2.out⟩
theorem deltaWrong_walk (a0 : Option Addr) (len0 cap0 : Nat) (z0 : List Int) (a1 : Option Addr) (len1 cap1 : Nat) (z1 : List Int) (a2 : Int) (w : World) (w0 : IsRow .u8 w a0 len0 cap0 z0) (w1 : IsRow .u8 w a1 len1 cap1 z1) (w2 : (Lit.int .i64 a2).wf = true) :
    Calls Try.prog 8 #[.slice a0 len0 cap0, .slice a1 len1 cap1, .int .i64 a2] w (Yes w) := by
  obtain ⟨bs, _, h⟩ := w0.sl
  obtain ⟨cs, _, h'⟩ := w1.sl
  exact wrong_any _ _ bs cs a2 w h h'
end Go.Proofs.Ythphplmcojdpeaa
