/- Texts put together: YShN1, YShN2, YShN3. -/
import Derived.Test.YteffiedolcjjlaaQa10
/- wire's Get. -/
namespace Go.Proofs.Yteffiedolcjjlaa.Sh
open Go.RowKit

theorem Sl.len {w : World} {v : Value} {bs : List UInt8} (h : Sl w v bs) : ∃ A c, v = .slice A bs.length c ∧ bs.length ≤ c ∧ c ≤ maxLen ∧ In w A bs := by
  obtain ⟨A, c, hv, h1, h2, h3, _⟩ := h
  exact ⟨A, c, hv, h1, h2, h3⟩
theorem In.at_ {w : World} {A : Option Addr} {bs : List UInt8} (h : In w A bs) (k : Nat) (hk : k < bs.length) : ∃ ad, A = some ad ∧ w.cell? (ad.add k) = some (.int .u8 (bi (bs.getD k 0))) := by
  obtain ⟨ad, e, _, hc⟩ := h (by omega)
  exact ⟨ad, e, hc k hk⟩
theorem In.cut {w : World} {A : Option Addr} {bs : List UInt8} (h : In w A bs) (k : Nat) (A' : Option Addr) (hA : k < bs.length → ∀ ad, A = some ad → A' = some (ad.add k)) : In w A' (bs.drop k) := by
  intro h0
  rw [List.length_drop] at h0
  obtain ⟨ad, e, hlt, hc⟩ := h (by omega)
  refine ⟨ad.add k, hA (by omega) ad e, by rw [block_of_add]; exact hlt, fun j hj => ?_⟩
  rw [List.length_drop] at hj
  rw [add_of_add, hc (k + j) (by omega)]
  simp only [List.getD_eq_getElem?_getD, List.getElem?_drop]
theorem In.take {w : World} {A : Option Addr} {bs : List UInt8} (h : In w A bs) (m : Nat) : In w A (bs.take m) := by
  intro h0
  rw [List.length_take] at h0
  obtain ⟨ad, e, hlt, hc⟩ := h (by omega)
  refine ⟨ad, e, hlt, fun j hj => ?_⟩
  rw [List.length_take] at hj
  rw [hc j (by omega)]
  simp only [List.getD_eq_getElem?_getD, List.getElem?_take, if_pos (show j < m from by omega)]

set_option maxRecDepth 100000 in
set_option maxHeartbeats 400000 in
theorem size_no (A : Option Addr) (c : Nat) (t : List UInt8) (w : World) (h : In w A t) (hl : t.length ≤ c) (hc : c ≤ maxLen) (hn : cont t = t.length) :
    Calls Try.prog 157 #[.slice A t.length c] w fun e w' => e = .returned (.tuple #[.int .i64 0, .bool false]) ∧ w = w' := by
  unfold maxLen at hc
  have HI := Lib.hid h
  have HC := Lib.hid (cont_at t)
  obtain ⟨l, hL⟩ : ∃ l, t.length = l := ⟨_, rfl⟩
  rw [hn, hL] at HC
  rw [hL] at hl ⊢
  have HL := Lib.hid hL
  clear hL h hn
  go_enter Try.func157, Try.ntmps157
  go_wp2
  go_loop [4, 5, 8] (fun _ _ i => ∃ k : Nat, k ≤ l ∧ i = .int .i64 k) (fun _ _ i => l - (intOf i).toNat)
  case atStart => exact ⟨0, Nat.zero_le _, rfl⟩
  case round =>
    obtain ⟨k, hk, rfl⟩ := hrel
    by_cases hlt : k < l
    · obtain ⟨ad, rfl, hcell⟩ := HI.out.at_ k (by rw [HL.out]; exact hlt)
      have hb := HC.out k hlt
      have hb2 : (128 : Int) ≤ bi (t.getD k 0) := by unfold bi; omega
      have hb3 := bi_lt (t.getD k 0)
      generalize bi (t.getD k 0) = x at *
      have hx := hb3.2
      clear hb hb3
      go_wp2
      go_round
      case rel => exact ⟨k + 1, by omega, by go_num⟩
      case measure => simp [intOf]; omega
    · go_wp2
      go_ret2
      exact ⟨rfl, rfl⟩

set_option maxRecDepth 100000 in
set_option maxHeartbeats 400000 in
theorem size_yes (A : Option Addr) (c : Nat) (t : List UInt8) (w : World) (h : In w A t) (hl : t.length ≤ c) (hc : c ≤ maxLen) (hn : cont t < t.length) :
    Calls Try.prog 157 #[.slice A t.length c] w fun e w' => e = .returned (.tuple #[.int .i64 ((cont t : Int) + 1), .bool true]) ∧ w = w' := by
  unfold maxLen at hc
  have HI := Lib.hid h
  have HC := Lib.hid (cont_at t)
  have HE := Lib.hid (cont_end t hn)
  obtain ⟨l, hL⟩ : ∃ l, t.length = l := ⟨_, rfl⟩
  obtain ⟨m, hM⟩ : ∃ m, cont t = m := ⟨_, rfl⟩
  rw [hM] at HC HE hn ⊢
  rw [hL] at hl hn ⊢
  have HL := Lib.hid hL
  clear hL h hM
  go_enter Try.func157, Try.ntmps157
  go_wp2
  go_loop [4, 5, 8] (fun _ _ i => ∃ k : Nat, k ≤ m ∧ i = .int .i64 k) (fun _ _ i => l - (intOf i).toNat)
  case atStart => exact ⟨0, Nat.zero_le _, rfl⟩
  case round =>
    obtain ⟨k, hk, rfl⟩ := hrel
    obtain ⟨ad, rfl, hcell⟩ := HI.out.at_ k (by rw [HL.out]; omega)
    have hb3 := bi_lt (t.getD k 0)
    have hkl : k < l := by omega
    by_cases hlt : k < m
    · have hb := HC.out k hlt
      have hb2 : (128 : Int) ≤ bi (t.getD k 0) := by unfold bi; omega
      generalize bi (t.getD k 0) = x at *
      have hx := hb3.2
      clear hb hb3
      go_wp2
      go_round
      case rel => exact ⟨k + 1, by omega, by go_num⟩
      case measure => simp [intOf]; omega
    · obtain rfl : k = m := by omega
      have hb := HE.out
      have hb2 : bi (t.getD k 0) < (128 : Int) := by unfold bi; omega
      generalize bi (t.getD k 0) = x at *
      have hx := hb3.1
      clear hb hb3
      go_wp2
      go_ret2
      exact ⟨rfl, rfl⟩
end Go.Proofs.Yteffiedolcjjlaa.Sh
/- wire's readNumber. -/
namespace Go.Proofs.Yteffiedolcjjlaa.Sh
open Go.RowKit

set_option maxRecDepth 100000 in
set_option maxHeartbeats 400000 in
theorem read_long (A : Option Addr) (c l : Nat) (w : World) (hl : l ≤ c) (hc : c ≤ maxLen) (hn : 9 < l) :
    Calls Try.prog 158 #[.slice A l c] w fun e w' => e = .returned (.tuple #[.int .i64 0, .bool false]) ∧ w = w' := by
  unfold maxLen at hc
  have h1 : (9 : Int) < (l : Int) := by omega
  go_enter Try.func158, Try.ntmps158
  go_wp2
  go_ret2
  exact ⟨rfl, rfl⟩
set_option maxRecDepth 100000 in
set_option maxHeartbeats 400000 in
theorem read_zero (A : Option Addr) (c : Nat) (g : List UInt8) (w : World) (h : In w A g) (h9 : g.length ≤ 9) (h1 : 1 < g.length) (hz : g.getD (g.length - 1) 0 = 0) :
    Calls Try.prog 158 #[.slice A g.length c] w fun e w' => e = .returned (.tuple #[.int .i64 0, .bool false]) ∧ w = w' := by
  obtain ⟨ad, rfl, hcell⟩ := h.at_ (g.length - 1) (by omega)
  rw [hz, bi0] at hcell
  obtain ⟨q, hq⟩ : ∃ q, g.length = q + 1 := ⟨g.length - 1, by omega⟩
  rw [hq, show q + 1 - 1 = q from by omega] at hcell
  rw [hq] at h9 ⊢
  have hc1 : (0 : Int) < (q : Int) := by omega
  have hc2 : (q : Int) ≤ 8 := by omega
  clear hq hz h h1
  go_enter Try.func158, Try.ntmps158
  go_wp2
  go_ret2
  exact ⟨rfl, rfl⟩
theorem valL_step (m c : Nat) (hm : m < 72057594037927936) : bits .or .i64 ((m : Int) * 128) ((c : Int) % 128) = ((c % 128 + 128 * m : Nat) : Int) := by
  rw [show (m : Int) * 128 = ((m * 128 : Nat) : Int) by omega, show (c : Int) % 128 = ((c % 128 : Nat) : Int) by omega, i64_or_nat _ _ (by omega) (by omega)]
  have := Nat.two_pow_add_eq_or_of_lt (i := 7) (b := c % 128) (by omega) m
  simp at this
  rw [Nat.mul_comm m 128, ← this]
  omega
theorem valL_lt' (g : List UInt8) (k : Nat) (h9 : g.length ≤ 9) (hk : 1 ≤ k) : valL (g.drop k) < 72057594037927936 := by
  have h1 := valL_lt (g.drop k)
  rw [List.length_drop] at h1
  have h2 : (128 : Nat) ^ (g.length - k) ≤ 128 ^ 8 := Nat.pow_le_pow_right (by omega) (by omega)
  have h3 : (128 : Nat) ^ 8 = 72057594037927936 := by decide
  omega

/-- Neither too long, nor a needless 0 at the end. -/
def fits (g : List UInt8) : Prop := 1 ≤ g.length ∧ g.length ≤ 9 ∧ (g.length = 1 ∨ g.getD (g.length - 1) 0 ≠ 0)

set_option maxRecDepth 100000 in
set_option maxHeartbeats 800000 in
/-- The loop, and what stands behind it. -/
theorem read_else (A : Option Addr) (c : Nat) (g : List UInt8) (w : World) (h : In w A g) (hl : g.length ≤ c) (hc : c ≤ maxLen) (hf : fits g) :
    Calls Try.prog 158 #[.slice A g.length c] w fun e w' => e = .returned (.tuple #[.int .i64 (valL g : Nat), .bool (decide (((valL g : Nat) : Int) ≤ 72057594037927936))]) ∧ w = w' := by
  unfold maxLen at hc
  obtain ⟨h1, h9, hz⟩ := hf
  have HI := Lib.hid h
  have HV := Lib.hid (fun k => valL_lt' g k h9)
  have HD := Lib.hid (valL_drop g)
  have H0 := Lib.hid (show valL (g.drop g.length) = 0 by rw [List.drop_length]; rfl)
  obtain ⟨ad, rfl, hcell⟩ := h.at_ (g.length - 1) (by omega)
  obtain ⟨q, hq⟩ : ∃ q, g.length = q + 1 := ⟨g.length - 1, by omega⟩
  rw [hq] at H0 HD
  have HQ := Lib.hid hq
  rw [hq, show q + 1 - 1 = q from by omega] at hcell
  rw [hq, show q + 1 - 1 = q from by omega] at hz
  rw [hq] at hl h9 ⊢
  have hc2 : (q : Int) ≤ 8 := by omega
  clear hq h
  have hq1 : q + 1 ≤ c := hl
  have hfact : (0 < (q : Int) ∧ (bi (g.getD q 0) == 0) = false) ∨ (q : Int) ≤ 0 := by
    by_cases hq0 : 0 < q
    · left
      refine ⟨by omega, ?_⟩
      rw [beq_eq_false_iff_ne]
      intro e
      exact hz.resolve_left (by omega) (bi_inj (by rw [e, bi0]))
    · right; omega
  generalize bi (g.getD q 0) = x at *
  clear hz
  rcases hfact with ⟨hc1, hne⟩ | hc1
  all_goals
    go_enter Try.func158, Try.ntmps158
    go_wp2
    go_loop [5, 6] (fun n i => ∃ k : Nat, k ≤ q + 1 ∧ i = .int .i64 ((k : Int) - 1) ∧ n = .int .i64 ((valL (g.drop k) : Nat) : Int)) (fun _ i => (intOf i + 1).toNat)
    case atStart =>
      refine ⟨q + 1, Nat.le_refl _, ?_, ?_⟩
      · congr 1; omega
      · rw [H0.out]; rfl
    case round =>
      obtain ⟨k, hk, rfl, rfl⟩ := hrel
      clear hcell hc1
      try clear hne
      by_cases hlt : 0 < k
      · obtain ⟨j, rfl⟩ : ∃ j, k = j + 1 := ⟨k - 1, by omega⟩
        have hi : ((j + 1 : Nat) : Int) - 1 = (j : Int) := by omega
        rw [hi]
        obtain ⟨ad', e, hcell⟩ := HI.out.at_ j (by rw [HQ.out]; omega)
        injection e with e
        subst e
        have hv := HV.out (j + 1) (by omega)
        have hstep := valL_step (valL (g.drop (j + 1))) (g.getD j 0).toNat hv
        have hd := Lib.hid (HD.out j (by omega))
        generalize valL (g.drop (j + 1)) = m at *
        have hx : bi (g.getD j 0) = ((g.getD j 0).toNat : Int) := by unfold bi; rfl
        rw [hx] at hcell
        have hxl := (g.getD j 0).toNat_lt
        generalize (g.getD j 0).toNat = y at *
        clear hi hx
        have b1 : (0 : Int) ≤ (j : Int) := by omega
        have b2 : (j : Int) < (q : Int) + 1 := by omega
        have b3 : (0 : Int) ≤ (m : Int) := by omega
        have b4 : (m : Int) * 128 ≤ 9223372036854775807 := by omega
        have b5 : (0 : Int) ≤ (y : Int) := by omega
        have b6 : (y : Int) ≤ 255 := by omega
        have b7 : (j : Int) < c := by omega
        go_wp2
        go_round
        case rel => exact ⟨j, by omega, rfl, by rw [hd.out, show ((y % 128 + 128 * m : Nat) : Int) = (y : Int) % 128 + 128 * (m : Int) from by omega]⟩
        case measure => simp [intOf]
      · obtain rfl : k = 0 := by omega
        rw [List.drop_zero, show (((0 : Nat) : Int) - 1) = -1 from rfl]
        go_wp2
        go_ret2
        exact ⟨by rfl, rfl⟩
end Go.Proofs.Yteffiedolcjjlaa.Sh
/- wire's Get, whole. -/
namespace Go.Proofs.Yteffiedolcjjlaa.Sh
open Go.RowKit

set_option maxRecDepth 100000 in
set_option maxHeartbeats 800000 in
theorem get_any (v : Value) (bs : List UInt8) (i a b c : Int) (w : World) (h : Sl w v bs) (hr : getR bs i = (a, b, c)) :
    Calls Try.prog 155 #[v, .int .i64 i] w fun e w' => e = .returned (.tuple #[.int .i64 a, .int .i64 b, .int .i64 c]) ∧ w = w' := by
  obtain ⟨A, cp, rfl, hl, hcm, hI⟩ := h.len
  have hl2 := hl
  unfold maxLen at hcm
  by_cases h0 : i < 0
  · obtain ⟨rfl, rfl, rfl⟩ : 0 = a ∧ 0 = b ∧ 1 = c := by rw [getR_range (Or.inl h0)] at hr; injection hr with h1 h2; injection h2 with h2 h3; exact ⟨h1, h2, h3⟩
    clear hr hI h
    obtain ⟨l, hL⟩ : ∃ l, bs.length = l := ⟨_, rfl⟩
    rw [hL] at hl ⊢
    clear hL hl2
    go_enter Try.func155, Try.ntmps155
    go_wp2
    go_ret3
    exact ⟨rfl, rfl⟩
  · by_cases h1 : (bs.length : Int) < i
    · obtain ⟨rfl, rfl, rfl⟩ : 0 = a ∧ 0 = b ∧ 1 = c := by rw [getR_range (Or.inr h1)] at hr; injection hr with h1 h2; injection h2 with h2 h3; exact ⟨h1, h2, h3⟩
      clear hr hI h
      have h0' : 0 ≤ i := by omega
      obtain ⟨l, hL⟩ : ∃ l, bs.length = l := ⟨_, rfl⟩
      rw [hL] at hl h1 ⊢
      clear hL hl2 h0
      go_enter Try.func155, Try.ntmps155
      go_wp2
      go_ret3
      exact ⟨rfl, rfl⟩
    · obtain ⟨k, rfl⟩ := Int.eq_ofNat_of_zero_le (show 0 ≤ i by omega)
      have hk : k ≤ bs.length := by omega
      obtain ⟨T, hT⟩ : ∃ T, (if cp = k then A else A.map (·.add k)) = T := ⟨_, rfl⟩
      have hIT : In w T (bs.drop k) := hI.cut k T (fun hlt ad hA => by rw [← hT, if_neg (by omega), hA]; rfl)
      have hlt : (bs.drop k).length = bs.length - k := List.length_drop
      by_cases hs : cont (bs.drop k) = (bs.drop k).length
      · obtain ⟨rfl, rfl, rfl⟩ : 0 = a ∧ 0 = b ∧ 2 = c := by rw [getR_short hk hs] at hr; injection hr with h1 h2; injection h2 with h2 h3; exact ⟨h1, h2, h3⟩
        have hc := size_no T (cp - k) (bs.drop k) w hIT (by omega) (by unfold maxLen; omega) hs
        rw [hlt] at hc
        obtain ⟨l, hL⟩ : ∃ l, bs.length = l := ⟨_, rfl⟩
        rw [hL] at hl h1 hk hc ⊢
        have HC := Lib.hid hc
        have HT := Lib.hid hT
        clear hL hl2 h0 hr hI h hc hs hlt hIT hT
        have k0 : (k : Int) ≤ (l : Int) := by omega
        have k1 : (l : Int) ≤ (cp : Int) := by omega
        by_cases hck : cp = k
        · have hT' := HT.out
          rw [if_pos hck] at hT'
          rw [← hT', hck, Nat.sub_self, show l - k = 0 from by omega] at HC
          subst hck
          clear hT' HT
          go_enter Try.func155, Try.ntmps155
          go_wp2_with fail
          refine HC.out.mono ?_
          rintro e w' ⟨rfl, rfl⟩
          go_wp2
          go_ret3
          exact ⟨rfl, rfl⟩
        · have hT' := HT.out
          rw [if_neg hck] at hT'
          rw [← hT'] at HC
          clear hT' HT
          go_enter Try.func155, Try.ntmps155
          go_wp2_with fail
          refine HC.out.mono ?_
          rintro e w' ⟨rfl, rfl⟩
          go_wp2
          go_ret3
          exact ⟨rfl, rfl⟩
      · have hlt2 : cont (bs.drop k) < (bs.drop k).length := by have := cont_le (bs.drop k); omega
        have hc := size_yes T (cp - k) (bs.drop k) w hIT (by omega) (by unfold maxLen; omega) hlt2
        obtain ⟨hsh, hgl⟩ := cont_take hlt2
        have hIG : In w T ((bs.drop k).take (cont (bs.drop k) + 1)) := hIT.take _
        have hok : okL ((bs.drop k).take (cont (bs.drop k) + 1)) = true → ((valL ((bs.drop k).take (cont (bs.drop k) + 1)) : Nat) : Int) = a ∧ (k : Int) + ((cont (bs.drop k) : Int) + 1) = b ∧ 0 = c := fun ho => by
          rw [getR_ok hk hlt2 ho] at hr; injection hr with h1 h2; injection h2 with h2 h3; exact ⟨h1, h2, h3⟩
        have hno : okL ((bs.drop k).take (cont (bs.drop k) + 1)) = false → 0 = a ∧ 0 = b ∧ 4 = c := fun ho => by
          rw [getR_form hk hlt2 ho] at hr; injection hr with h1 h2; injection h2 with h2 h3; exact ⟨h1, h2, h3⟩
        have hrc : ∃ (n : Int) (t : Bool), (Calls Try.prog 158 #[.slice T (cont (bs.drop k) + 1) (cp - k)] w fun e w' => e = .returned (.tuple #[.int .i64 n, .bool t]) ∧ w = w') ∧
            ((t = true ∧ n = a ∧ (k : Int) + ((cont (bs.drop k) : Int) + 1) = b ∧ 0 = c) ∨ (t = false ∧ 0 = a ∧ 0 = b ∧ 4 = c)) := by
          generalize cont (bs.drop k) = m at *
          generalize (bs.drop k).take (m + 1) = g at *
          by_cases h9 : 9 < g.length
          · refine ⟨0, false, ?_, Or.inr ⟨rfl, hno (okL_long h9)⟩⟩
            exact read_long T (cp - k) (m + 1) w (by omega) (by unfold maxLen; omega) (by omega)
          · by_cases hz : g.length = 1 ∨ g.getD (g.length - 1) 0 ≠ 0
            · have hre := read_else T (cp - k) g w hIG (by omega) (by unfold maxLen; omega) ⟨by omega, by omega, hz⟩
              have hoe := okL_else hsh hz
              rw [hgl] at hre
              refine ⟨_, _, hre, ?_⟩
              by_cases hv : valL g ≤ 72057594037927936
              · left
                rw [decide_eq_true hv] at hoe
                exact ⟨decide_eq_true (by omega), hok hoe⟩
              · right
                rw [decide_eq_false hv] at hoe
                exact ⟨decide_eq_false (by omega), hno hoe⟩
            · have h1 : 1 < g.length := by omega
              have hz' : g.getD (g.length - 1) 0 = 0 := by
                rcases Decidable.em (g.getD (g.length - 1) 0 = 0) with e | e
                · exact e
                · exact absurd (Or.inr e) hz
              have hre := read_zero T (cp - k) g w hIG (by omega) h1 hz'
              rw [hgl] at hre
              exact ⟨0, false, hre, Or.inr ⟨rfl, hno (okL_zero h1 hz')⟩⟩
        obtain ⟨n, t, hre, hcase⟩ := hrc
        have hml : cont (bs.drop k) < bs.length - k := by omega
        generalize cont (bs.drop k) = m at *
        rw [hlt] at hc
        obtain ⟨l, hL⟩ : ∃ l, bs.length = l := ⟨_, rfl⟩
        rw [hL] at hl h1 hk hc hml ⊢
        have HC := Lib.hid hc
        have HR := Lib.hid hre
        rw [← hT, if_neg (show ¬ cp = k by omega)] at HC HR
        clear hL hl2 h0 hr hI h hc hs hlt hIT hT hre hok hno hIG hsh hgl hlt2
        have k0 : (k : Int) ≤ (l : Int) := by omega
        have k1 : (l : Int) ≤ (cp : Int) := by omega
        have k2 : (k : Int) + ((m : Int) + 1) ≤ (l : Int) := by omega
        have e1 : ((k : Int) + ((m : Int) + 1)).toNat = k + (m + 1) := by omega
        have e2 : k + (m + 1) - k = m + 1 := by omega
        go_enter Try.func155, Try.ntmps155
        go_wp2_with fail
        refine HC.out.mono ?_
        rintro e w' ⟨rfl, rfl⟩
        go_wp2_with fail
        refine HR.out.mono ?_
        rintro e w' ⟨rfl, rfl⟩
        clear e1 e2
        rcases hcase with ⟨rfl, rfl, rfl, rfl⟩ | ⟨rfl, rfl, rfl, rfl⟩
        · go_wp2
          go_ret3
          exact ⟨rfl, rfl⟩
        · go_wp2
          go_ret3
          exact ⟨rfl, rfl⟩
end Go.Proofs.Yteffiedolcjjlaa.Sh
