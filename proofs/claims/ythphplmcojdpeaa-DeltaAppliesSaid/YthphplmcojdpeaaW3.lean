/- wire's Get, whole. -/
import Derived.Test.YthphplmcojdpeaaW2
namespace Go.Proofs.Ythphplmcojdpeaa
open Go.RowKit

set_option maxRecDepth 100000 in
set_option maxHeartbeats 800000 in
theorem get_any (v : Value) (bs : List UInt8) (i a b c : Int) (w : World) (h : Sl w v bs) (hr : getR bs i = (a, b, c)) :
    Calls Try.prog 35 #[v, .int .i64 i] w fun e w' => e = .returned (.tuple #[.int .i64 a, .int .i64 b, .int .i64 c]) ∧ w = w' := by
  obtain ⟨A, cp, rfl, hl, hcm, hI⟩ := h.len
  have hl2 := hl
  unfold maxLen at hcm
  by_cases h0 : i < 0
  · obtain ⟨rfl, rfl, rfl⟩ : 0 = a ∧ 0 = b ∧ 1 = c := by rw [getR_range (Or.inl h0)] at hr; injection hr with h1 h2; injection h2 with h2 h3; exact ⟨h1, h2, h3⟩
    clear hr hI h
    obtain ⟨l, hL⟩ : ∃ l, bs.length = l := ⟨_, rfl⟩
    rw [hL] at hl ⊢
    clear hL hl2
    go_enter Try.func35, Try.ntmps35
    go_wp2
    go_ret3
    exact ⟨rfl, rfl⟩
  · by_cases h1 : (bs.length : Int) < i
    · obtain ⟨rfl, rfl, rfl⟩ : 0 = a ∧ 0 = b ∧ 1 = c := by rw [getR_range (Or.inr h1)] at hr; injection hr with h1 h2; injection h2 with h2 h3; exact ⟨h1, h2, h3⟩
      clear hr hI h
      have h0' : 0 ≤ i := by omega
      obtain ⟨l, hL⟩ : ∃ l, bs.length = l := ⟨_, rfl⟩
      rw [hL] at hl h1 ⊢
      clear hL hl2 h0
      go_enter Try.func35, Try.ntmps35
      go_wp2
      go_ret3
      exact ⟨rfl, rfl⟩
    · obtain ⟨k, rfl⟩ := Int.eq_ofNat_of_zero_le (show 0 ≤ i by omega)
      have hk : k ≤ bs.length := by omega
      obtain ⟨T, hT⟩ : ∃ T, (if cp = k then A else A.map (·.add k)) = T := ⟨_, rfl⟩
      have hIT : In w T (bs.drop k) := hI.cut k T (fun hlt ad hA => by rw [← hT, if_neg (by omega), hA]; rfl)
      have hlt : (bs.drop k).length = bs.length - k := List.length_drop
      by_cases hs : cont (bs.drop k) = (bs.drop k).length
      · obtain ⟨rfl, rfl, rfl⟩ : 0 = a ∧ 0 = b ∧ 2 = c := by rw [getR_short hk hs] at hr; injection hr with h1 h2; injection h2 with h2 h3; exact ⟨h1, h2, h3⟩
        have hc := size_no T (cp - k) (bs.drop k) w hIT (by omega) (by unfold maxLen; omega) hs
        rw [hlt] at hc
        obtain ⟨l, hL⟩ : ∃ l, bs.length = l := ⟨_, rfl⟩
        rw [hL] at hl h1 hk hc ⊢
        have HC := Lib.hid hc
        have HT := Lib.hid hT
        clear hL hl2 h0 hr hI h hc hs hlt hIT hT
        have k0 : (k : Int) ≤ (l : Int) := by omega
        have k1 : (l : Int) ≤ (cp : Int) := by omega
        by_cases hck : cp = k
        · have hT' := HT.out
          rw [if_pos hck] at hT'
          rw [← hT', hck, Nat.sub_self, show l - k = 0 from by omega] at HC
          subst hck
          clear hT' HT
          go_enter Try.func35, Try.ntmps35
          go_wp2_with fail
          refine HC.out.mono ?_
          rintro e w' ⟨rfl, rfl⟩
          go_wp2
          go_ret3
          exact ⟨rfl, rfl⟩
        · have hT' := HT.out
          rw [if_neg hck] at hT'
          rw [← hT'] at HC
          clear hT' HT
          go_enter Try.func35, Try.ntmps35
          go_wp2_with fail
          refine HC.out.mono ?_
          rintro e w' ⟨rfl, rfl⟩
          go_wp2
          go_ret3
          exact ⟨rfl, rfl⟩
      · have hlt2 : cont (bs.drop k) < (bs.drop k).length := by have := cont_le (bs.drop k); omega
        have hc := size_yes T (cp - k) (bs.drop k) w hIT (by omega) (by unfold maxLen; omega) hlt2
        obtain ⟨hsh, hgl⟩ := cont_take hlt2
        have hIG : In w T ((bs.drop k).take (cont (bs.drop k) + 1)) := hIT.take _
        have hok : okL ((bs.drop k).take (cont (bs.drop k) + 1)) = true → ((valL ((bs.drop k).take (cont (bs.drop k) + 1)) : Nat) : Int) = a ∧ (k : Int) + ((cont (bs.drop k) : Int) + 1) = b ∧ 0 = c := fun ho => by
          rw [getR_ok hk hlt2 ho] at hr; injection hr with h1 h2; injection h2 with h2 h3; exact ⟨h1, h2, h3⟩
        have hno : okL ((bs.drop k).take (cont (bs.drop k) + 1)) = false → 0 = a ∧ 0 = b ∧ 4 = c := fun ho => by
          rw [getR_form hk hlt2 ho] at hr; injection hr with h1 h2; injection h2 with h2 h3; exact ⟨h1, h2, h3⟩
        have hrc : ∃ (n : Int) (t : Bool), (Calls Try.prog 39 #[.slice T (cont (bs.drop k) + 1) (cp - k)] w fun e w' => e = .returned (.tuple #[.int .i64 n, .bool t]) ∧ w = w') ∧
            ((t = true ∧ n = a ∧ (k : Int) + ((cont (bs.drop k) : Int) + 1) = b ∧ 0 = c) ∨ (t = false ∧ 0 = a ∧ 0 = b ∧ 4 = c)) := by
          generalize cont (bs.drop k) = m at *
          generalize (bs.drop k).take (m + 1) = g at *
          by_cases h9 : 9 < g.length
          · refine ⟨0, false, ?_, Or.inr ⟨rfl, hno (okL_long h9)⟩⟩
            exact read_long T (cp - k) (m + 1) w (by omega) (by unfold maxLen; omega) (by omega)
          · by_cases hz : g.length = 1 ∨ g.getD (g.length - 1) 0 ≠ 0
            · have hre := read_else T (cp - k) g w hIG (by omega) (by unfold maxLen; omega) ⟨by omega, by omega, hz⟩
              have hoe := okL_else hsh hz
              rw [hgl] at hre
              refine ⟨_, _, hre, ?_⟩
              by_cases hv : valL g ≤ 72057594037927936
              · left
                rw [decide_eq_true hv] at hoe
                exact ⟨decide_eq_true (by omega), hok hoe⟩
              · right
                rw [decide_eq_false hv] at hoe
                exact ⟨decide_eq_false (by omega), hno hoe⟩
            · have h1 : 1 < g.length := by omega
              have hz' : g.getD (g.length - 1) 0 = 0 := by
                rcases Decidable.em (g.getD (g.length - 1) 0 = 0) with e | e
                · exact e
                · exact absurd (Or.inr e) hz
              have hre := read_zero T (cp - k) g w hIG (by omega) h1 hz'
              rw [hgl] at hre
              exact ⟨0, false, hre, Or.inr ⟨rfl, hno (okL_zero h1 hz')⟩⟩
        obtain ⟨n, t, hre, hcase⟩ := hrc
        have hml : cont (bs.drop k) < bs.length - k := by omega
        generalize cont (bs.drop k) = m at *
        rw [hlt] at hc
        obtain ⟨l, hL⟩ : ∃ l, bs.length = l := ⟨_, rfl⟩
        rw [hL] at hl h1 hk hc hml ⊢
        have HC := Lib.hid hc
        have HR := Lib.hid hre
        rw [← hT, if_neg (show ¬ cp = k by omega)] at HC HR
        clear hL hl2 h0 hr hI h hc hs hlt hIT hT hre hok hno hIG hsh hgl hlt2
        have k0 : (k : Int) ≤ (l : Int) := by omega
        have k1 : (l : Int) ≤ (cp : Int) := by omega
        have k2 : (k : Int) + ((m : Int) + 1) ≤ (l : Int) := by omega
        have e1 : ((k : Int) + ((m : Int) + 1)).toNat = k + (m + 1) := by omega
        have e2 : k + (m + 1) - k = m + 1 := by omega
        go_enter Try.func35, Try.ntmps35
        go_wp2_with fail
        refine HC.out.mono ?_
        rintro e w' ⟨rfl, rfl⟩
        go_wp2_with fail
        refine HR.out.mono ?_
        rintro e w' ⟨rfl, rfl⟩
        clear e1 e2
        rcases hcase with ⟨rfl, rfl, rfl, rfl⟩ | ⟨rfl, rfl, rfl, rfl⟩
        · go_wp2
          go_ret3
          exact ⟨rfl, rfl⟩
        · go_wp2
          go_ret3
          exact ⟨rfl, rfl⟩
end Go.Proofs.Ythphplmcojdpeaa
