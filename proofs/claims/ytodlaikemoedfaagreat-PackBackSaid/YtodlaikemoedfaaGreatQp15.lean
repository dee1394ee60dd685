/- Texts put together: YShN1, YShN2, YShN3, YTx0. -/
import Derived.Test.YtodlaikemoedfaaGreatQp14
import Derived.Test.YtodlaikemoedfaaGreatRows
import Derived.Test.YtodlaikemoedfaaGreatQp01
import Derived.WalkKit
import Derived.ProofKit
import Derived.OpenShut
import Derived.BigQuiet
import Derived.Deep.QuietTactic
import Derived.Lib.Hide
import Derived.Deep.RegionWith
import Derived.StillTailTactics
import Derived.Deep.DeepFit
import Derived.Deep.WholeRow
import Derived.Deep.MidRow
import Derived.Deep.AppendLies
import Derived.Deep.Draws
import Derived.Maps.AppendAt
import Derived.Deep.RegionHeld3
import Derived.Deep.OwnRows
import Derived.Laws.BytesString
import Derived.ShutString
import Derived.ChangeOld
import Derived.SliceStrings
import Derived.WalkLawsBesides
import Derived.WalkSpells
/- wire's Get. -/
namespace Go.Proofs.YtodlaikemoedfaaGreat.Sh
open Go.RowKit

theorem Sl.len {w : World} {v : Value} {bs : List UInt8} (h : Sl w v bs) : ∃ A c, v = .slice A bs.length c ∧ bs.length ≤ c ∧ c ≤ maxLen ∧ In w A bs := by
  obtain ⟨A, c, hv, h1, h2, h3, _⟩ := h
  exact ⟨A, c, hv, h1, h2, h3⟩
theorem In.at_ {w : World} {A : Option Addr} {bs : List UInt8} (h : In w A bs) (k : Nat) (hk : k < bs.length) : ∃ ad, A = some ad ∧ w.cell? (ad.add k) = some (.int .u8 (bi (bs.getD k 0))) := by
  obtain ⟨ad, e, _, hc⟩ := h (by omega)
  exact ⟨ad, e, hc k hk⟩
theorem In.cut {w : World} {A : Option Addr} {bs : List UInt8} (h : In w A bs) (k : Nat) (A' : Option Addr) (hA : k < bs.length → ∀ ad, A = some ad → A' = some (ad.add k)) : In w A' (bs.drop k) := by
  intro h0
  rw [List.length_drop] at h0
  obtain ⟨ad, e, hlt, hc⟩ := h (by omega)
  refine ⟨ad.add k, hA (by omega) ad e, by rw [block_of_add]; exact hlt, fun j hj => ?_⟩
  rw [List.length_drop] at hj
  rw [add_of_add, hc (k + j) (by omega)]
  simp only [List.getD_eq_getElem?_getD, List.getElem?_drop]
theorem In.take {w : World} {A : Option Addr} {bs : List UInt8} (h : In w A bs) (m : Nat) : In w A (bs.take m) := by
  intro h0
  rw [List.length_take] at h0
  obtain ⟨ad, e, hlt, hc⟩ := h (by omega)
  refine ⟨ad, e, hlt, fun j hj => ?_⟩
  rw [List.length_take] at hj
  rw [hc j (by omega)]
  simp only [List.getD_eq_getElem?_getD, List.getElem?_take, if_pos (show j < m from by omega)]

set_option maxRecDepth 100000 in
set_option maxHeartbeats 400000 in
theorem size_no (A : Option Addr) (c : Nat) (t : List UInt8) (w : World) (h : In w A t) (hl : t.length ≤ c) (hc : c ≤ maxLen) (hn : cont t = t.length) :
    Calls Tryz.prog 111 #[.slice A t.length c] w fun e w' => e = .returned (.tuple #[.int .i64 0, .bool false]) ∧ w = w' := by
  unfold maxLen at hc
  have HI := Lib.hid h
  have HC := Lib.hid (cont_at t)
  obtain ⟨l, hL⟩ : ∃ l, t.length = l := ⟨_, rfl⟩
  rw [hn, hL] at HC
  rw [hL] at hl ⊢
  have HL := Lib.hid hL
  clear hL h hn
  go_enter Tryz.func111, Tryz.ntmps111
  go_wp2
  go_loop [4, 5, 8] (fun _ _ i => ∃ k : Nat, k ≤ l ∧ i = .int .i64 k) (fun _ _ i => l - (intOf i).toNat)
  case atStart => exact ⟨0, Nat.zero_le _, rfl⟩
  case round =>
    obtain ⟨k, hk, rfl⟩ := hrel
    by_cases hlt : k < l
    · obtain ⟨ad, rfl, hcell⟩ := HI.out.at_ k (by rw [HL.out]; exact hlt)
      have hb := HC.out k hlt
      have hb2 : (128 : Int) ≤ bi (t.getD k 0) := by unfold bi; omega
      have hb3 := bi_lt (t.getD k 0)
      generalize bi (t.getD k 0) = x at *
      have hx := hb3.2
      clear hb hb3
      go_wp2
      go_round
      case rel => exact ⟨k + 1, by omega, by go_num⟩
      case measure => simp [intOf]; omega
    · go_wp2
      go_ret2
      exact ⟨rfl, rfl⟩

set_option maxRecDepth 100000 in
set_option maxHeartbeats 400000 in
theorem size_yes (A : Option Addr) (c : Nat) (t : List UInt8) (w : World) (h : In w A t) (hl : t.length ≤ c) (hc : c ≤ maxLen) (hn : cont t < t.length) :
    Calls Tryz.prog 111 #[.slice A t.length c] w fun e w' => e = .returned (.tuple #[.int .i64 ((cont t : Int) + 1), .bool true]) ∧ w = w' := by
  unfold maxLen at hc
  have HI := Lib.hid h
  have HC := Lib.hid (cont_at t)
  have HE := Lib.hid (cont_end t hn)
  obtain ⟨l, hL⟩ : ∃ l, t.length = l := ⟨_, rfl⟩
  obtain ⟨m, hM⟩ : ∃ m, cont t = m := ⟨_, rfl⟩
  rw [hM] at HC HE hn ⊢
  rw [hL] at hl hn ⊢
  have HL := Lib.hid hL
  clear hL h hM
  go_enter Tryz.func111, Tryz.ntmps111
  go_wp2
  go_loop [4, 5, 8] (fun _ _ i => ∃ k : Nat, k ≤ m ∧ i = .int .i64 k) (fun _ _ i => l - (intOf i).toNat)
  case atStart => exact ⟨0, Nat.zero_le _, rfl⟩
  case round =>
    obtain ⟨k, hk, rfl⟩ := hrel
    obtain ⟨ad, rfl, hcell⟩ := HI.out.at_ k (by rw [HL.out]; omega)
    have hb3 := bi_lt (t.getD k 0)
    have hkl : k < l := by omega
    by_cases hlt : k < m
    · have hb := HC.out k hlt
      have hb2 : (128 : Int) ≤ bi (t.getD k 0) := by unfold bi; omega
      generalize bi (t.getD k 0) = x at *
      have hx := hb3.2
      clear hb hb3
      go_wp2
      go_round
      case rel => exact ⟨k + 1, by omega, by go_num⟩
      case measure => simp [intOf]; omega
    · obtain rfl : k = m := by omega
      have hb := HE.out
      have hb2 : bi (t.getD k 0) < (128 : Int) := by unfold bi; omega
      generalize bi (t.getD k 0) = x at *
      have hx := hb3.1
      clear hb hb3
      go_wp2
      go_ret2
      exact ⟨rfl, rfl⟩
end Go.Proofs.YtodlaikemoedfaaGreat.Sh
/- wire's readNumber. -/
namespace Go.Proofs.YtodlaikemoedfaaGreat.Sh
open Go.RowKit

set_option maxRecDepth 100000 in
set_option maxHeartbeats 400000 in
theorem read_long (A : Option Addr) (c l : Nat) (w : World) (hl : l ≤ c) (hc : c ≤ maxLen) (hn : 9 < l) :
    Calls Tryz.prog 112 #[.slice A l c] w fun e w' => e = .returned (.tuple #[.int .i64 0, .bool false]) ∧ w = w' := by
  unfold maxLen at hc
  have h1 : (9 : Int) < (l : Int) := by omega
  go_enter Tryz.func112, Tryz.ntmps112
  go_wp2
  go_ret2
  exact ⟨rfl, rfl⟩
set_option maxRecDepth 100000 in
set_option maxHeartbeats 400000 in
theorem read_zero (A : Option Addr) (c : Nat) (g : List UInt8) (w : World) (h : In w A g) (h9 : g.length ≤ 9) (h1 : 1 < g.length) (hz : g.getD (g.length - 1) 0 = 0) :
    Calls Tryz.prog 112 #[.slice A g.length c] w fun e w' => e = .returned (.tuple #[.int .i64 0, .bool false]) ∧ w = w' := by
  obtain ⟨ad, rfl, hcell⟩ := h.at_ (g.length - 1) (by omega)
  rw [hz, bi0] at hcell
  obtain ⟨q, hq⟩ : ∃ q, g.length = q + 1 := ⟨g.length - 1, by omega⟩
  rw [hq, show q + 1 - 1 = q from by omega] at hcell
  rw [hq] at h9 ⊢
  have hc1 : (0 : Int) < (q : Int) := by omega
  have hc2 : (q : Int) ≤ 8 := by omega
  clear hq hz h h1
  go_enter Tryz.func112, Tryz.ntmps112
  go_wp2
  go_ret2
  exact ⟨rfl, rfl⟩
theorem valL_step (m c : Nat) (hm : m < 72057594037927936) : bits .or .i64 ((m : Int) * 128) ((c : Int) % 128) = ((c % 128 + 128 * m : Nat) : Int) := by
  rw [show (m : Int) * 128 = ((m * 128 : Nat) : Int) by omega, show (c : Int) % 128 = ((c % 128 : Nat) : Int) by omega, i64_or_nat _ _ (by omega) (by omega)]
  have := Nat.two_pow_add_eq_or_of_lt (i := 7) (b := c % 128) (by omega) m
  simp at this
  rw [Nat.mul_comm m 128, ← this]
  omega
theorem valL_lt' (g : List UInt8) (k : Nat) (h9 : g.length ≤ 9) (hk : 1 ≤ k) : valL (g.drop k) < 72057594037927936 := by
  have h1 := valL_lt (g.drop k)
  rw [List.length_drop] at h1
  have h2 : (128 : Nat) ^ (g.length - k) ≤ 128 ^ 8 := Nat.pow_le_pow_right (by omega) (by omega)
  have h3 : (128 : Nat) ^ 8 = 72057594037927936 := by decide
  omega

/-- Neither too long, nor a needless 0 at the end. -/
def fits (g : List UInt8) : Prop := 1 ≤ g.length ∧ g.length ≤ 9 ∧ (g.length = 1 ∨ g.getD (g.length - 1) 0 ≠ 0)

set_option maxRecDepth 100000 in
set_option maxHeartbeats 800000 in
/-- The loop, and what stands behind it. -/
theorem read_else (A : Option Addr) (c : Nat) (g : List UInt8) (w : World) (h : In w A g) (hl : g.length ≤ c) (hc : c ≤ maxLen) (hf : fits g) :
    Calls Tryz.prog 112 #[.slice A g.length c] w fun e w' => e = .returned (.tuple #[.int .i64 (valL g : Nat), .bool (decide (((valL g : Nat) : Int) ≤ 72057594037927936))]) ∧ w = w' := by
  unfold maxLen at hc
  obtain ⟨h1, h9, hz⟩ := hf
  have HI := Lib.hid h
  have HV := Lib.hid (fun k => valL_lt' g k h9)
  have HD := Lib.hid (valL_drop g)
  have H0 := Lib.hid (show valL (g.drop g.length) = 0 by rw [List.drop_length]; rfl)
  obtain ⟨ad, rfl, hcell⟩ := h.at_ (g.length - 1) (by omega)
  obtain ⟨q, hq⟩ : ∃ q, g.length = q + 1 := ⟨g.length - 1, by omega⟩
  rw [hq] at H0 HD
  have HQ := Lib.hid hq
  rw [hq, show q + 1 - 1 = q from by omega] at hcell
  rw [hq, show q + 1 - 1 = q from by omega] at hz
  rw [hq] at hl h9 ⊢
  have hc2 : (q : Int) ≤ 8 := by omega
  clear hq h
  have hq1 : q + 1 ≤ c := hl
  have hfact : (0 < (q : Int) ∧ (bi (g.getD q 0) == 0) = false) ∨ (q : Int) ≤ 0 := by
    by_cases hq0 : 0 < q
    · left
      refine ⟨by omega, ?_⟩
      rw [beq_eq_false_iff_ne]
      intro e
      exact hz.resolve_left (by omega) (bi_inj (by rw [e, bi0]))
    · right; omega
  generalize bi (g.getD q 0) = x at *
  clear hz
  rcases hfact with ⟨hc1, hne⟩ | hc1
  all_goals
    go_enter Tryz.func112, Tryz.ntmps112
    go_wp2
    go_loop [5, 6] (fun n i => ∃ k : Nat, k ≤ q + 1 ∧ i = .int .i64 ((k : Int) - 1) ∧ n = .int .i64 ((valL (g.drop k) : Nat) : Int)) (fun _ i => (intOf i + 1).toNat)
    case atStart =>
      refine ⟨q + 1, Nat.le_refl _, ?_, ?_⟩
      · congr 1; omega
      · rw [H0.out]; rfl
    case round =>
      obtain ⟨k, hk, rfl, rfl⟩ := hrel
      clear hcell hc1
      try clear hne
      by_cases hlt : 0 < k
      · obtain ⟨j, rfl⟩ : ∃ j, k = j + 1 := ⟨k - 1, by omega⟩
        have hi : ((j + 1 : Nat) : Int) - 1 = (j : Int) := by omega
        rw [hi]
        obtain ⟨ad', e, hcell⟩ := HI.out.at_ j (by rw [HQ.out]; omega)
        injection e with e
        subst e
        have hv := HV.out (j + 1) (by omega)
        have hstep := valL_step (valL (g.drop (j + 1))) (g.getD j 0).toNat hv
        have hd := Lib.hid (HD.out j (by omega))
        generalize valL (g.drop (j + 1)) = m at *
        have hx : bi (g.getD j 0) = ((g.getD j 0).toNat : Int) := by unfold bi; rfl
        rw [hx] at hcell
        have hxl := (g.getD j 0).toNat_lt
        generalize (g.getD j 0).toNat = y at *
        clear hi hx
        have b1 : (0 : Int) ≤ (j : Int) := by omega
        have b2 : (j : Int) < (q : Int) + 1 := by omega
        have b3 : (0 : Int) ≤ (m : Int) := by omega
        have b4 : (m : Int) * 128 ≤ 9223372036854775807 := by omega
        have b5 : (0 : Int) ≤ (y : Int) := by omega
        have b6 : (y : Int) ≤ 255 := by omega
        have b7 : (j : Int) < c := by omega
        go_wp2
        go_round
        case rel => exact ⟨j, by omega, rfl, by rw [hd.out, show ((y % 128 + 128 * m : Nat) : Int) = (y : Int) % 128 + 128 * (m : Int) from by omega]⟩
        case measure => simp [intOf]
      · obtain rfl : k = 0 := by omega
        rw [List.drop_zero, show (((0 : Nat) : Int) - 1) = -1 from rfl]
        go_wp2
        go_ret2
        exact ⟨by rfl, rfl⟩
end Go.Proofs.YtodlaikemoedfaaGreat.Sh
/- wire's Get, whole. -/
namespace Go.Proofs.YtodlaikemoedfaaGreat.Sh
open Go.RowKit

set_option maxRecDepth 100000 in
set_option maxHeartbeats 800000 in
theorem get_any (v : Value) (bs : List UInt8) (i a b c : Int) (w : World) (h : Sl w v bs) (hr : getR bs i = (a, b, c)) :
    Calls Tryz.prog 89 #[v, .int .i64 i] w fun e w' => e = .returned (.tuple #[.int .i64 a, .int .i64 b, .int .i64 c]) ∧ w = w' := by
  obtain ⟨A, cp, rfl, hl, hcm, hI⟩ := h.len
  have hl2 := hl
  unfold maxLen at hcm
  by_cases h0 : i < 0
  · obtain ⟨rfl, rfl, rfl⟩ : 0 = a ∧ 0 = b ∧ 1 = c := by rw [getR_range (Or.inl h0)] at hr; injection hr with h1 h2; injection h2 with h2 h3; exact ⟨h1, h2, h3⟩
    clear hr hI h
    obtain ⟨l, hL⟩ : ∃ l, bs.length = l := ⟨_, rfl⟩
    rw [hL] at hl ⊢
    clear hL hl2
    go_enter Tryz.func89, Tryz.ntmps89
    go_wp2
    go_ret3
    exact ⟨rfl, rfl⟩
  · by_cases h1 : (bs.length : Int) < i
    · obtain ⟨rfl, rfl, rfl⟩ : 0 = a ∧ 0 = b ∧ 1 = c := by rw [getR_range (Or.inr h1)] at hr; injection hr with h1 h2; injection h2 with h2 h3; exact ⟨h1, h2, h3⟩
      clear hr hI h
      have h0' : 0 ≤ i := by omega
      obtain ⟨l, hL⟩ : ∃ l, bs.length = l := ⟨_, rfl⟩
      rw [hL] at hl h1 ⊢
      clear hL hl2 h0
      go_enter Tryz.func89, Tryz.ntmps89
      go_wp2
      go_ret3
      exact ⟨rfl, rfl⟩
    · obtain ⟨k, rfl⟩ := Int.eq_ofNat_of_zero_le (show 0 ≤ i by omega)
      have hk : k ≤ bs.length := by omega
      obtain ⟨T, hT⟩ : ∃ T, (if cp = k then A else A.map (·.add k)) = T := ⟨_, rfl⟩
      have hIT : In w T (bs.drop k) := hI.cut k T (fun hlt ad hA => by rw [← hT, if_neg (by omega), hA]; rfl)
      have hlt : (bs.drop k).length = bs.length - k := List.length_drop
      by_cases hs : cont (bs.drop k) = (bs.drop k).length
      · obtain ⟨rfl, rfl, rfl⟩ : 0 = a ∧ 0 = b ∧ 2 = c := by rw [getR_short hk hs] at hr; injection hr with h1 h2; injection h2 with h2 h3; exact ⟨h1, h2, h3⟩
        have hc := size_no T (cp - k) (bs.drop k) w hIT (by omega) (by unfold maxLen; omega) hs
        rw [hlt] at hc
        obtain ⟨l, hL⟩ : ∃ l, bs.length = l := ⟨_, rfl⟩
        rw [hL] at hl h1 hk hc ⊢
        have HC := Lib.hid hc
        have HT := Lib.hid hT
        clear hL hl2 h0 hr hI h hc hs hlt hIT hT
        have k0 : (k : Int) ≤ (l : Int) := by omega
        have k1 : (l : Int) ≤ (cp : Int) := by omega
        by_cases hck : cp = k
        · have hT' := HT.out
          rw [if_pos hck] at hT'
          rw [← hT', hck, Nat.sub_self, show l - k = 0 from by omega] at HC
          subst hck
          clear hT' HT
          go_enter Tryz.func89, Tryz.ntmps89
          go_wp2_with fail
          refine HC.out.mono ?_
          rintro e w' ⟨rfl, rfl⟩
          go_wp2
          go_ret3
          exact ⟨rfl, rfl⟩
        · have hT' := HT.out
          rw [if_neg hck] at hT'
          rw [← hT'] at HC
          clear hT' HT
          go_enter Tryz.func89, Tryz.ntmps89
          go_wp2_with fail
          refine HC.out.mono ?_
          rintro e w' ⟨rfl, rfl⟩
          go_wp2
          go_ret3
          exact ⟨rfl, rfl⟩
      · have hlt2 : cont (bs.drop k) < (bs.drop k).length := by have := cont_le (bs.drop k); omega
        have hc := size_yes T (cp - k) (bs.drop k) w hIT (by omega) (by unfold maxLen; omega) hlt2
        obtain ⟨hsh, hgl⟩ := cont_take hlt2
        have hIG : In w T ((bs.drop k).take (cont (bs.drop k) + 1)) := hIT.take _
        have hok : okL ((bs.drop k).take (cont (bs.drop k) + 1)) = true → ((valL ((bs.drop k).take (cont (bs.drop k) + 1)) : Nat) : Int) = a ∧ (k : Int) + ((cont (bs.drop k) : Int) + 1) = b ∧ 0 = c := fun ho => by
          rw [getR_ok hk hlt2 ho] at hr; injection hr with h1 h2; injection h2 with h2 h3; exact ⟨h1, h2, h3⟩
        have hno : okL ((bs.drop k).take (cont (bs.drop k) + 1)) = false → 0 = a ∧ 0 = b ∧ 4 = c := fun ho => by
          rw [getR_form hk hlt2 ho] at hr; injection hr with h1 h2; injection h2 with h2 h3; exact ⟨h1, h2, h3⟩
        have hrc : ∃ (n : Int) (t : Bool), (Calls Tryz.prog 112 #[.slice T (cont (bs.drop k) + 1) (cp - k)] w fun e w' => e = .returned (.tuple #[.int .i64 n, .bool t]) ∧ w = w') ∧
            ((t = true ∧ n = a ∧ (k : Int) + ((cont (bs.drop k) : Int) + 1) = b ∧ 0 = c) ∨ (t = false ∧ 0 = a ∧ 0 = b ∧ 4 = c)) := by
          generalize cont (bs.drop k) = m at *
          generalize (bs.drop k).take (m + 1) = g at *
          by_cases h9 : 9 < g.length
          · refine ⟨0, false, ?_, Or.inr ⟨rfl, hno (okL_long h9)⟩⟩
            exact read_long T (cp - k) (m + 1) w (by omega) (by unfold maxLen; omega) (by omega)
          · by_cases hz : g.length = 1 ∨ g.getD (g.length - 1) 0 ≠ 0
            · have hre := read_else T (cp - k) g w hIG (by omega) (by unfold maxLen; omega) ⟨by omega, by omega, hz⟩
              have hoe := okL_else hsh hz
              rw [hgl] at hre
              refine ⟨_, _, hre, ?_⟩
              by_cases hv : valL g ≤ 72057594037927936
              · left
                rw [decide_eq_true hv] at hoe
                exact ⟨decide_eq_true (by omega), hok hoe⟩
              · right
                rw [decide_eq_false hv] at hoe
                exact ⟨decide_eq_false (by omega), hno hoe⟩
            · have h1 : 1 < g.length := by omega
              have hz' : g.getD (g.length - 1) 0 = 0 := by
                rcases Decidable.em (g.getD (g.length - 1) 0 = 0) with e | e
                · exact e
                · exact absurd (Or.inr e) hz
              have hre := read_zero T (cp - k) g w hIG (by omega) h1 hz'
              rw [hgl] at hre
              exact ⟨0, false, hre, Or.inr ⟨rfl, hno (okL_zero h1 hz')⟩⟩
        obtain ⟨n, t, hre, hcase⟩ := hrc
        have hml : cont (bs.drop k) < bs.length - k := by omega
        generalize cont (bs.drop k) = m at *
        rw [hlt] at hc
        obtain ⟨l, hL⟩ : ∃ l, bs.length = l := ⟨_, rfl⟩
        rw [hL] at hl h1 hk hc hml ⊢
        have HC := Lib.hid hc
        have HR := Lib.hid hre
        rw [← hT, if_neg (show ¬ cp = k by omega)] at HC HR
        clear hL hl2 h0 hr hI h hc hs hlt hIT hT hre hok hno hIG hsh hgl hlt2
        have k0 : (k : Int) ≤ (l : Int) := by omega
        have k1 : (l : Int) ≤ (cp : Int) := by omega
        have k2 : (k : Int) + ((m : Int) + 1) ≤ (l : Int) := by omega
        have e1 : ((k : Int) + ((m : Int) + 1)).toNat = k + (m + 1) := by omega
        have e2 : k + (m + 1) - k = m + 1 := by omega
        go_enter Tryz.func89, Tryz.ntmps89
        go_wp2_with fail
        refine HC.out.mono ?_
        rintro e w' ⟨rfl, rfl⟩
        go_wp2_with fail
        refine HR.out.mono ?_
        rintro e w' ⟨rfl, rfl⟩
        clear e1 e2
        rcases hcase with ⟨rfl, rfl, rfl, rfl⟩ | ⟨rfl, rfl, rfl, rfl⟩
        · go_wp2
          go_ret3
          exact ⟨rfl, rfl⟩
        · go_wp2
          go_ret3
          exact ⟨rfl, rfl⟩
end Go.Proofs.YtodlaikemoedfaaGreat.Sh
/- Texts, and slices of one-cell values: of one's own, and such as came in. (No package's code in it.) -/
namespace Go.Proofs.YtodlaikemoedfaaGreat.Tx
open Go.RowKit Go.Proofs.YtodlaikemoedfaaGreat.Sh

/-- A byte's number. -/
def bi (u : UInt8) : Int := (u.toNat : Int)
theorem bi_lt (u : UInt8) : 0 ≤ bi u ∧ bi u ≤ 255 := by
  unfold bi; have := u.toNat_lt; omega
theorem bi_inj {a b : UInt8} (h : bi a = bi b) : a = b := by
  unfold bi at h; exact UInt8.toNat_inj.1 (by omega)
theorem bi_nat (u : UInt8) : bi u = (u.toNat : Int) := rfl
def str (bs : List UInt8) : ByteArray := ⟨bs.toArray⟩
theorem str_inj {a b : List UInt8} (h : str a = str b) : a = b := by
  unfold str at h
  injection h with h
  simpa using congrArg Array.toList h
theorem str_toList (bs : List UInt8) : (str bs).toList = bs := by
  rw [ByteArray.toList_eq]
  rfl
theorem str_size (cs : List UInt8) : (str cs).size = cs.length := by
  unfold str ByteArray.size
  simp
theorem index_str (cs : List UInt8) (k : Nat) (hk : k < cs.length) (w : World) : (Instr.index 9 (.string (str cs)) (.int .i64 (k : Int))).run Tryz.prog w = .ok (.int .u8 (bi (cs.getD k 0))) w := by
  have hsz := str_size cs
  have hg : (str cs)[k]? = some cs[k] := getElem?_pos (str cs) k (by rw [hsz]; exact hk)
  simp [Instr.index, go_sem]
  rw [hg, List.getElem?_eq_getElem hk]
  unfold bi
  rfl
attribute [irreducible] bi
def lenOf : Value → Nat
  | .slice _ n _ => n
  | _ => 0
/-- v is a slice of the call's own (its block from B on) that holds vs; E: its elements' type. -/
def OwnV (E : TypeId) (w : World) (B : Nat) (v : Value) (vs : List Value) : Prop := w.ownsRow B E 1 v vs.length vs
/-- v is a slice that reads as vs. -/
def SlV (w : World) (v : Value) (vs : List Value) : Prop := ∃ A c, v = .slice A vs.length c ∧ vs.length ≤ c ∧ c ≤ maxLen ∧ Reads w w.heap.size 1 A vs.length vs ∧ (A = none → vs = [])

section
variable {E : TypeId} {w w' : World} {B : Nat} {v : Value} {vs : List Value}
theorem SlV.below (h : SlV w v vs) (hb : Below w.heap.size w w') : SlV w' v vs := by
  obtain ⟨A, c, hv, h1, h2, h3, h4⟩ := h
  exact ⟨A, c, hv, h1, h2, (h3.below hb).more hb.size, h4⟩
theorem SlV.drew (h : SlV w v vs) : SlV w.drew v vs := h
theorem SlV.nil_ (w : World) : SlV w (.slice none 0 0) [] := ⟨none, 0, rfl, by simp, by unfold maxLen; omega, Reads.none_, fun _ => rfl⟩
theorem SlV.len (h : SlV w v vs) : ∃ A c, v = .slice A vs.length c ∧ vs.length ≤ c ∧ c ≤ maxLen ∧ Reads w w.heap.size 1 A vs.length vs := by
  obtain ⟨A, c, hv, h1, h2, h3, _⟩ := h
  exact ⟨A, c, hv, h1, h2, h3⟩
theorem reads_at {A : Option Addr} {n : Nat} (h : Reads w B 1 A n vs) (k : Nat) (u : Value) (hk : vs[k]? = some u) : ∃ ad, A = some ad ∧ w.cell? (ad.add k) = some u := by
  have hl : k < vs.length := (List.getElem?_eq_some_iff.1 hk).1
  obtain ⟨ad, e, _, hc⟩ := h.2 (by have := h.1; omega)
  exact ⟨ad, e, hc k u hk⟩
theorem OwnV.nil_ (w : World) (B : Nat) : OwnV E w B (.slice none 0 0) [] := World.ownsRow_nil w B E 1
theorem OwnV.alloc (h : OwnV E w B v vs) (o : Obj) : OwnV E (w.alloc o) B v vs := World.ownsRow.alloc h o
theorem OwnV.drew (h : OwnV E w B v vs) : OwnV E w.drew B v vs := h
theorem OwnV.drewN (h : OwnV E w B v vs) (n : Nat) : OwnV E (w.drewN n) B v vs := h
theorem OwnV.below (h : OwnV E w B v vs) (hb : Below w.heap.size w w') : OwnV E w' B v vs :=
  World.ownsRow.kept h (only_of_below hb none) (by cases hv : v.ownBlock <;> simp)
theorem OwnV.kept {row : Option Nat} (h : OwnV E w B v vs) (hg : w.grownBy w' row) (hne : v.ownBlock = none ∨ v.ownBlock ≠ row) : OwnV E w' B v vs := World.ownsRow.kept h hg hne
theorem OwnV.lt (h : OwnV E w B v vs) (k : Nat) (hk : v.ownBlock = some k) : B ≤ k ∧ k < w.heap.size := World.ownsRow.lt h k hk
theorem OwnV.length (h : OwnV E w B v vs) : ∃ A c, v = .slice A vs.length c ∧ vs.length ≤ c ∧ c ≤ maxLen := by
  rcases h.2 with ⟨rfl, h0⟩ | ⟨g, cap, cur, rfl, _, _, hc, hm, _⟩
  · exact ⟨none, 0, by rw [h0], by rw [h0]; exact Nat.zero_le _, by unfold maxLen; omega⟩
  · exact ⟨_, _, rfl, hc, hm⟩
/-- The row behind it. -/
theorem OwnV.blk (h : OwnV E w B v vs) : (v = .slice none 0 0 ∧ vs = []) ∨ ∃ g c cur, v = .slice (some ⟨g, 0, none⟩) vs.length c ∧ B ≤ g ∧ g < w.heap.size ∧ Blk w g E cur ∧ vs.length ≤ c ∧ c ≤ maxLen ∧ cur.size = c ∧ cur.toList.take vs.length = vs := by
  rcases h.2 with ⟨h1, h0⟩ | ⟨g, cap, cur, rfl, hb, hg, hc, hm, hcs, htk⟩
  · exact .inl ⟨h1, List.eq_nil_of_length_eq_zero h0⟩
  · exact .inr ⟨g, cap, cur, rfl, hb, (Array.getElem?_eq_some_iff.1 hg).1, hg, hc, hm, by simpa using hcs, by simpa using htk⟩
theorem OwnV.mk {g c : Nat} {cur : Array Value} (hb : B ≤ g) (hg : Blk w g E cur) (hc : vs.length ≤ c) (hm : c ≤ maxLen) (hs : cur.size = c) (ht : cur.toList.take vs.length = vs) : OwnV E w B (.slice (some ⟨g, 0, none⟩) vs.length c) vs :=
  ⟨by simp, Or.inr ⟨g, c, cur, rfl, hb, hg, hc, hm, by simpa using hs, by simpa using ht⟩⟩
theorem OwnV.base {B' : Nat} (h : OwnV E w B v vs) (hB : B' ≤ B) : OwnV E w B' v vs := by
  refine ⟨h.1, ?_⟩
  rcases h.2 with h0 | ⟨g, cap, cur, hv, hb, rest⟩
  · exact .inl h0
  · exact .inr ⟨g, cap, cur, hv, by omega, rest⟩
theorem OwnV.slv (h : OwnV E w B v vs) : SlV w v vs := by
  obtain ⟨A, c, hv, h1, h2⟩ := h.length
  have h' : w.ownsRow B E 1 (.slice A vs.length c) vs.length vs := by rw [← hv]; exact h
  have hr := Reads.of_own h'
  refine ⟨A, c, hv, h1, h2, hr, fun hA => ?_⟩
  rcases Nat.eq_zero_or_pos vs.length with h0 | h0
  · exact List.eq_nil_of_length_eq_zero h0
  · obtain ⟨ad, e, _⟩ := hr.2 h0
    rw [hA] at e
    cases e
theorem OwnV.setAt {g n c : Nat} (h : OwnV E w B (.slice (some ⟨g, 0, none⟩) n c) vs) (j : Nat) (u : Value) :
    OwnV E (w.setCell ⟨g, j, none⟩ u) B (.slice (some ⟨g, 0, none⟩) n c) (vs.set j u) := by
  rcases h.blk with ⟨he, _⟩ | ⟨g', c', cur, he, hb, hlt, hg, hc, hm, hs, ht⟩
  · cases he
  · injection he with e1 e2 e3
    injection e1 with e1
    injection e1 with e1 _ _
    subst e1 e3
    have hb2 := hg.set_ j u
    have el : vs.length = (vs.set j u).length := List.length_set.symm
    rw [e2, el]
    refine OwnV.mk hb hb2 (by rw [List.length_set]; exact hc) hm (by simpa using hs) ?_
    rw [Array.toList_setIfInBounds, List.take_set, List.length_set, ht]
end
/-- An integer, a text, as values. -/
def iv (n : Int) : Value := .int .i64 n
def sv (s : ByteArray) : Value := .string s
theorem sv_one (l : List ByteArray) : ∀ u ∈ l.map sv, u.oneCell' = true := by intro u hu; simp only [List.mem_map] at hu; obtain ⟨x, _, rfl⟩ := hu; rfl
theorem info_int : (Tryz.prog.info? 3).map (fun i => (i.zero, i.size, i.bytes)) = some (some (.int .i64 0), 1, 8) := by kernel_rfl
theorem info_str : (Tryz.prog.info? 9).map (fun i => (i.zero, i.size, i.bytes)) = some (some (.string ⟨#[]⟩), 1, 16) := by kernel_rfl

/-- A slice of texts that came in, as the walk is told of it. -/
def IsTexts (w : World) (a : Option Addr) (len cap : Nat) (ss : List ByteArray) : Prop :=
  (a = none ∧ len = 0 ∧ cap = 0 ∧ ss = []) ∨
  ∃ x, a = some x ∧ len ≤ cap ∧ cap ≤ maxLen ∧ ss.length = cap ∧ (∀ i, i < ss.length → w.cell? (x.add i) = some (.string (ss.getD i ByteArray.empty))) ∧ ∀ s ∈ ss, s.size ≤ maxLen
theorem IsTexts.slv {w : World} {a : Option Addr} {len cap : Nat} {ss : List ByteArray} (h : IsTexts w a len cap ss) : ∃ ts : List ByteArray, ts.length = len ∧ SlV w (.slice a len cap) (ts.map sv) ∧ ∀ s ∈ ts, s.size ≤ maxLen := by
  rcases h with ⟨rfl, rfl, rfl, rfl⟩ | ⟨x, rfl, hl, hm, hz, hc, hw⟩
  · exact ⟨[], rfl, SlV.nil_ w, fun n hn => by cases hn⟩
  · refine ⟨ss.take len, by simp; omega, ⟨some x, cap, by simp; omega, by simp; omega, hm, ⟨by simp, fun h0 => ⟨x, rfl, ?_, fun j u hu => ?_⟩⟩, fun h => by cases h⟩, fun n hn => hw n (List.mem_of_mem_take hn)⟩
    · have h1 : 0 < ss.length := by simp at h0; omega
      have := World.block_lt_of_cell? w _ (hc 0 h1)
      rw [block_of_add] at this
      exact this
    · rw [List.getElem?_map, List.getElem?_take] at hu
      by_cases hj : j < len
      · rw [if_pos hj, List.getElem?_eq_getElem (by omega)] at hu
        rw [hc j (by omega), List.getD_eq_getElem?_getD, List.getElem?_eq_getElem (by omega)]
        exact hu
      · rw [if_neg hj] at hu; cases hu
def TextsPost (w : World) (ts : List ByteArray) (e : Ending) (w' : World) : Prop := ∃ v, e = .returned v ∧ OwnV 9 w' w.heap.size v (ts.map sv) ∧ Below w.heap.size w w'
theorem texts_at {w : World} {A : Option Addr} {xs : List ByteArray} (h : Reads w w.heap.size 1 A xs.length (xs.map sv)) (k : Nat) (hk : k < xs.length) : ∃ ad, A = some ad ∧ w.cell? (ad.add k) = some (.string xs[k]) :=
  reads_at h k _ (by rw [List.getElem?_map, List.getElem?_eq_getElem hk]; rfl)

end Go.Proofs.YtodlaikemoedfaaGreat.Tx
