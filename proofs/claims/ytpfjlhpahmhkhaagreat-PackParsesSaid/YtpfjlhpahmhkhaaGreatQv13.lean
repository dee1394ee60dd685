/- Texts put together: VShN1, VShN2, VShN3, VOb1, VOb0. -/
import Derived.Test.YtpfjlhpahmhkhaaGreatQv12
import Derived.Test.YtpfjlhpahmhkhaaGreatQv03
import Derived.Test.YtpfjlhpahmhkhaaGreatQv01
/- wire's Get. -/
namespace Go.Proofs.YtpfjlhpahmhkhaaGreat.Sh
open Go.RowKit
theorem Sl.len {w : World} {v : Value} {bs : List UInt8} (h : Sl w v bs) : ∃ A c, v = .slice A bs.length c ∧ bs.length ≤ c ∧ c ≤ maxLen ∧ In w A bs := by
 obtain ⟨A, c, hv, h1, h2, h3, _⟩ := h
 exact ⟨A, c, hv, h1, h2, h3⟩
theorem In.at_ {w : World} {A : Option Addr} {bs : List UInt8} (h : In w A bs) (k : Nat) (hk : k < bs.length) : ∃ ad, A = some ad ∧ w.cell? (ad.add k) = some (.int .u8 (bi (bs.getD k 0))) := by
 obtain ⟨ad, e, _, hc⟩ := h (by omega)
 exact ⟨ad, e, hc k hk⟩
theorem In.cut {w : World} {A : Option Addr} {bs : List UInt8} (h : In w A bs) (k : Nat) (A' : Option Addr) (hA : k < bs.length → ∀ ad, A = some ad → A' = some (ad.add k)) : In w A' (bs.drop k) := by
 intro h0
 rw [List.length_drop] at h0
 obtain ⟨ad, e, hlt, hc⟩ := h (by omega)
 refine ⟨ad.add k, hA (by omega) ad e, by rw [block_of_add]; exact hlt, fun j hj => ?_⟩
 rw [List.length_drop] at hj
 rw [add_of_add, hc (k + j) (by omega)]
 simp only [List.getD_eq_getElem?_getD, List.getElem?_drop]
theorem In.take {w : World} {A : Option Addr} {bs : List UInt8} (h : In w A bs) (m : Nat) : In w A (bs.take m) := by
 intro h0
 rw [List.length_take] at h0
 obtain ⟨ad, e, hlt, hc⟩ := h (by omega)
 refine ⟨ad, e, hlt, fun j hj => ?_⟩
 rw [List.length_take] at hj
 rw [hc j (by omega)]
 simp only [List.getD_eq_getElem?_getD, List.getElem?_take, if_pos (show j < m from by omega)]
set_option maxRecDepth 100000 in
set_option maxHeartbeats 400000 in
theorem size_no (A : Option Addr) (c : Nat) (t : List UInt8) (w : World) (h : In w A t) (hl : t.length ≤ c) (hc : c ≤ maxLen) (hn : cont t = t.length) :
  Calls Tryz.prog 345 #[.slice A t.length c] w fun e w' => e = .returned (.tuple #[.int .i64 0, .bool false]) ∧ w = w' := by
 unfold maxLen at hc
 have HI := Lib.hid h
 have HC := Lib.hid (cont_at t)
 obtain ⟨l, hL⟩ : ∃ l, t.length = l := ⟨_, rfl⟩
 rw [hn, hL] at HC
 rw [hL] at hl ⊢
 have HL := Lib.hid hL
 clear hL h hn
 go_enter Tryz.func345, Tryz.ntmps345
 go_wp2
 go_loop [4, 5, 8] (fun _ _ i => ∃ k : Nat, k ≤ l ∧ i = .int .i64 k) (fun _ _ i => l - (intOf i).toNat)
 case atStart => exact ⟨0, Nat.zero_le _, rfl⟩
 case round =>
  obtain ⟨k, hk, rfl⟩ := hrel
  by_cases hlt : k < l
  ·obtain ⟨ad, rfl, hcell⟩ := HI.out.at_ k (by rw [HL.out]; exact hlt)
   have hb := HC.out k hlt
   have hb2 : (128 : Int) ≤ bi (t.getD k 0) := by unfold bi; omega
   have hb3 := bi_lt (t.getD k 0)
   generalize bi (t.getD k 0) = x at *
   have hx := hb3.2
   clear hb hb3
   go_wp2
   go_round
   case rel => exact ⟨k + 1, by omega, by go_num⟩
   case measure => simp [intOf]; omega
  ·go_wp2
   go_ret2
   exact ⟨rfl, rfl⟩
set_option maxRecDepth 100000 in
set_option maxHeartbeats 400000 in
theorem size_yes (A : Option Addr) (c : Nat) (t : List UInt8) (w : World) (h : In w A t) (hl : t.length ≤ c) (hc : c ≤ maxLen) (hn : cont t < t.length) :
  Calls Tryz.prog 345 #[.slice A t.length c] w fun e w' => e = .returned (.tuple #[.int .i64 ((cont t : Int) + 1), .bool true]) ∧ w = w' := by
 unfold maxLen at hc
 have HI := Lib.hid h
 have HC := Lib.hid (cont_at t)
 have HE := Lib.hid (cont_end t hn)
 obtain ⟨l, hL⟩ : ∃ l, t.length = l := ⟨_, rfl⟩
 obtain ⟨m, hM⟩ : ∃ m, cont t = m := ⟨_, rfl⟩
 rw [hM] at HC HE hn ⊢
 rw [hL] at hl hn ⊢
 have HL := Lib.hid hL
 clear hL h hM
 go_enter Tryz.func345, Tryz.ntmps345
 go_wp2
 go_loop [4, 5, 8] (fun _ _ i => ∃ k : Nat, k ≤ m ∧ i = .int .i64 k) (fun _ _ i => l - (intOf i).toNat)
 case atStart => exact ⟨0, Nat.zero_le _, rfl⟩
 case round =>
  obtain ⟨k, hk, rfl⟩ := hrel
  obtain ⟨ad, rfl, hcell⟩ := HI.out.at_ k (by rw [HL.out]; omega)
  have hb3 := bi_lt (t.getD k 0)
  have hkl : k < l := by omega
  by_cases hlt : k < m
  ·have hb := HC.out k hlt
   have hb2 : (128 : Int) ≤ bi (t.getD k 0) := by unfold bi; omega
   generalize bi (t.getD k 0) = x at *
   have hx := hb3.2
   clear hb hb3
   go_wp2
   go_round
   case rel => exact ⟨k + 1, by omega, by go_num⟩
   case measure => simp [intOf]; omega
  ·obtain rfl : k = m := by omega
   have hb := HE.out
   have hb2 : bi (t.getD k 0) < (128 : Int) := by unfold bi; omega
   generalize bi (t.getD k 0) = x at *
   have hx := hb3.1
   clear hb hb3
   go_wp2
   go_ret2
   exact ⟨rfl, rfl⟩
end Go.Proofs.YtpfjlhpahmhkhaaGreat.Sh
/- wire's readNumber. -/
namespace Go.Proofs.YtpfjlhpahmhkhaaGreat.Sh
open Go.RowKit
set_option maxRecDepth 100000 in
set_option maxHeartbeats 400000 in
theorem read_long (A : Option Addr) (c l : Nat) (w : World) (hl : l ≤ c) (hc : c ≤ maxLen) (hn : 9 < l) :
  Calls Tryz.prog 346 #[.slice A l c] w fun e w' => e = .returned (.tuple #[.int .i64 0, .bool false]) ∧ w = w' := by
 unfold maxLen at hc
 have h1 : (9 : Int) < (l : Int) := by omega
 go_enter Tryz.func346, Tryz.ntmps346
 go_wp2
 go_ret2
 exact ⟨rfl, rfl⟩
set_option maxRecDepth 100000 in
set_option maxHeartbeats 400000 in
theorem read_zero (A : Option Addr) (c : Nat) (g : List UInt8) (w : World) (h : In w A g) (h9 : g.length ≤ 9) (h1 : 1 < g.length) (hz : g.getD (g.length - 1) 0 = 0) :
  Calls Tryz.prog 346 #[.slice A g.length c] w fun e w' => e = .returned (.tuple #[.int .i64 0, .bool false]) ∧ w = w' := by
 obtain ⟨ad, rfl, hcell⟩ := h.at_ (g.length - 1) (by omega)
 rw [hz, bi0] at hcell
 obtain ⟨q, hq⟩ : ∃ q, g.length = q + 1 := ⟨g.length - 1, by omega⟩
 rw [hq, show q + 1 - 1 = q from by omega] at hcell
 rw [hq] at h9 ⊢
 have hc1 : (0 : Int) < (q : Int) := by omega
 have hc2 : (q : Int) ≤ 8 := by omega
 clear hq hz h h1
 go_enter Tryz.func346, Tryz.ntmps346
 go_wp2
 go_ret2
 exact ⟨rfl, rfl⟩
theorem valL_step (m c : Nat) (hm : m < 72057594037927936) : bits .or .i64 ((m : Int) * 128) ((c : Int) % 128) = ((c % 128 + 128 * m : Nat) : Int) := by
 rw [show (m : Int) * 128 = ((m * 128 : Nat) : Int) by omega, show (c : Int) % 128 = ((c % 128 : Nat) : Int) by omega, i64_or_nat _ _ (by omega) (by omega)]
 have := Nat.two_pow_add_eq_or_of_lt (i := 7) (b := c % 128) (by omega) m
 simp at this
 rw [Nat.mul_comm m 128, ← this]
 omega
theorem valL_lt' (g : List UInt8) (k : Nat) (h9 : g.length ≤ 9) (hk : 1 ≤ k) : valL (g.drop k) < 72057594037927936 := by
 have h1 := valL_lt (g.drop k)
 rw [List.length_drop] at h1
 have h2 : (128 : Nat) ^ (g.length - k) ≤ 128 ^ 8 := Nat.pow_le_pow_right (by omega) (by omega)
 have h3 : (128 : Nat) ^ 8 = 72057594037927936 := by decide
 omega
def fits (g : List UInt8) : Prop := 1 ≤ g.length ∧ g.length ≤ 9 ∧ (g.length = 1 ∨ g.getD (g.length - 1) 0 ≠ 0)
set_option maxRecDepth 100000 in
set_option maxHeartbeats 800000 in
theorem read_else (A : Option Addr) (c : Nat) (g : List UInt8) (w : World) (h : In w A g) (hl : g.length ≤ c) (hc : c ≤ maxLen) (hf : fits g) :
  Calls Tryz.prog 346 #[.slice A g.length c] w fun e w' => e = .returned (.tuple #[.int .i64 (valL g : Nat), .bool (decide (((valL g : Nat) : Int) ≤ 72057594037927936))]) ∧ w = w' := by
 unfold maxLen at hc
 obtain ⟨h1, h9, hz⟩ := hf
 have HI := Lib.hid h
 have HV := Lib.hid (fun k => valL_lt' g k h9)
 have HD := Lib.hid (valL_drop g)
 have H0 := Lib.hid (show valL (g.drop g.length) = 0 by rw [List.drop_length]; rfl)
 obtain ⟨ad, rfl, hcell⟩ := h.at_ (g.length - 1) (by omega)
 obtain ⟨q, hq⟩ : ∃ q, g.length = q + 1 := ⟨g.length - 1, by omega⟩
 rw [hq] at H0 HD
 have HQ := Lib.hid hq
 rw [hq, show q + 1 - 1 = q from by omega] at hcell
 rw [hq, show q + 1 - 1 = q from by omega] at hz
 rw [hq] at hl h9 ⊢
 have hc2 : (q : Int) ≤ 8 := by omega
 clear hq h
 have hq1 : q + 1 ≤ c := hl
 have hfact : (0 < (q : Int) ∧ (bi (g.getD q 0) == 0) = false) ∨ (q : Int) ≤ 0 := by
  by_cases hq0 : 0 < q
  ·left
   refine ⟨by omega, ?_⟩
   rw [beq_eq_false_iff_ne]
   intro e
   exact hz.resolve_left (by omega) (bi_inj (by rw [e, bi0]))
  ·right; omega
 generalize bi (g.getD q 0) = x at *
 clear hz
 rcases hfact with ⟨hc1, hne⟩ | hc1
 all_goals
  go_enter Tryz.func346, Tryz.ntmps346
  go_wp2
  go_loop [5, 6] (fun n i => ∃ k : Nat, k ≤ q + 1 ∧ i = .int .i64 ((k : Int) - 1) ∧ n = .int .i64 ((valL (g.drop k) : Nat) : Int)) (fun _ i => (intOf i + 1).toNat)
  case atStart =>
   refine ⟨q + 1, Nat.le_refl _, ?_, ?_⟩
   ·congr 1; omega
   ·rw [H0.out]; rfl
  case round =>
   obtain ⟨k, hk, rfl, rfl⟩ := hrel
   clear hcell hc1
   try clear hne
   by_cases hlt : 0 < k
   ·obtain ⟨j, rfl⟩ : ∃ j, k = j + 1 := ⟨k - 1, by omega⟩
    have hi : ((j + 1 : Nat) : Int) - 1 = (j : Int) := by omega
    rw [hi]
    obtain ⟨ad', e, hcell⟩ := HI.out.at_ j (by rw [HQ.out]; omega)
    injection e with e
    subst e
    have hv := HV.out (j + 1) (by omega)
    have hstep := valL_step (valL (g.drop (j + 1))) (g.getD j 0).toNat hv
    have hd := Lib.hid (HD.out j (by omega))
    generalize valL (g.drop (j + 1)) = m at *
    have hx : bi (g.getD j 0) = ((g.getD j 0).toNat : Int) := by unfold bi; rfl
    rw [hx] at hcell
    have hxl := (g.getD j 0).toNat_lt
    generalize (g.getD j 0).toNat = y at *
    clear hi hx
    have b1 : (0 : Int) ≤ (j : Int) := by omega
    have b2 : (j : Int) < (q : Int) + 1 := by omega
    have b3 : (0 : Int) ≤ (m : Int) := by omega
    have b4 : (m : Int) * 128 ≤ 9223372036854775807 := by omega
    have b5 : (0 : Int) ≤ (y : Int) := by omega
    have b6 : (y : Int) ≤ 255 := by omega
    have b7 : (j : Int) < c := by omega
    go_wp2
    go_round
    case rel => exact ⟨j, by omega, rfl, by rw [hd.out, show ((y % 128 + 128 * m : Nat) : Int) = (y : Int) % 128 + 128 * (m : Int) from by omega]⟩
    case measure => simp [intOf]
   ·obtain rfl : k = 0 := by omega
    rw [List.drop_zero, show (((0 : Nat) : Int) - 1) = -1 from rfl]
    go_wp2
    go_ret2
    exact ⟨by rfl, rfl⟩
end Go.Proofs.YtpfjlhpahmhkhaaGreat.Sh
/- wire's Get, whole. -/
namespace Go.Proofs.YtpfjlhpahmhkhaaGreat.Sh
open Go.RowKit
set_option maxRecDepth 100000 in
set_option maxHeartbeats 800000 in
theorem get_any (v : Value) (bs : List UInt8) (i a b c : Int) (w : World) (h : Sl w v bs) (hr : getR bs i = (a, b, c)) :
  Calls Tryz.prog 299 #[v, .int .i64 i] w fun e w' => e = .returned (.tuple #[.int .i64 a, .int .i64 b, .int .i64 c]) ∧ w = w' := by
 obtain ⟨A, cp, rfl, hl, hcm, hI⟩ := h.len
 have hl2 := hl
 unfold maxLen at hcm
 by_cases h0 : i < 0
 ·obtain ⟨rfl, rfl, rfl⟩ : 0 = a ∧ 0 = b ∧ 1 = c := by rw [getR_range (Or.inl h0)] at hr; injection hr with h1 h2; injection h2 with h2 h3; exact ⟨h1, h2, h3⟩
  clear hr hI h
  obtain ⟨l, hL⟩ : ∃ l, bs.length = l := ⟨_, rfl⟩
  rw [hL] at hl ⊢
  clear hL hl2
  go_enter Tryz.func299, Tryz.ntmps299
  go_wp2
  go_ret3
  exact ⟨rfl, rfl⟩
 ·by_cases h1 : (bs.length : Int) < i
  ·obtain ⟨rfl, rfl, rfl⟩ : 0 = a ∧ 0 = b ∧ 1 = c := by rw [getR_range (Or.inr h1)] at hr; injection hr with h1 h2; injection h2 with h2 h3; exact ⟨h1, h2, h3⟩
   clear hr hI h
   have h0' : 0 ≤ i := by omega
   obtain ⟨l, hL⟩ : ∃ l, bs.length = l := ⟨_, rfl⟩
   rw [hL] at hl h1 ⊢
   clear hL hl2 h0
   go_enter Tryz.func299, Tryz.ntmps299
   go_wp2
   go_ret3
   exact ⟨rfl, rfl⟩
  ·obtain ⟨k, rfl⟩ := Int.eq_ofNat_of_zero_le (show 0 ≤ i by omega)
   have hk : k ≤ bs.length := by omega
   obtain ⟨T, hT⟩ : ∃ T, (if cp = k then A else A.map (·.add k)) = T := ⟨_, rfl⟩
   have hIT : In w T (bs.drop k) := hI.cut k T (fun hlt ad hA => by rw [← hT, if_neg (by omega), hA]; rfl)
   have hlt : (bs.drop k).length = bs.length - k := List.length_drop
   by_cases hs : cont (bs.drop k) = (bs.drop k).length
   ·obtain ⟨rfl, rfl, rfl⟩ : 0 = a ∧ 0 = b ∧ 2 = c := by rw [getR_short hk hs] at hr; injection hr with h1 h2; injection h2 with h2 h3; exact ⟨h1, h2, h3⟩
    have hc := size_no T (cp - k) (bs.drop k) w hIT (by omega) (by unfold maxLen; omega) hs
    rw [hlt] at hc
    obtain ⟨l, hL⟩ : ∃ l, bs.length = l := ⟨_, rfl⟩
    rw [hL] at hl h1 hk hc ⊢
    have HC := Lib.hid hc
    have HT := Lib.hid hT
    clear hL hl2 h0 hr hI h hc hs hlt hIT hT
    have k0 : (k : Int) ≤ (l : Int) := by omega
    have k1 : (l : Int) ≤ (cp : Int) := by omega
    by_cases hck : cp = k
    ·have hT' := HT.out
     rw [if_pos hck] at hT'
     rw [← hT', hck, Nat.sub_self, show l - k = 0 from by omega] at HC
     subst hck
     clear hT' HT
     go_enter Tryz.func299, Tryz.ntmps299
     go_wp2_with fail
     refine HC.out.mono ?_
     rintro e w' ⟨rfl, rfl⟩
     go_wp2
     go_ret3
     exact ⟨rfl, rfl⟩
    ·have hT' := HT.out
     rw [if_neg hck] at hT'
     rw [← hT'] at HC
     clear hT' HT
     go_enter Tryz.func299, Tryz.ntmps299
     go_wp2_with fail
     refine HC.out.mono ?_
     rintro e w' ⟨rfl, rfl⟩
     go_wp2
     go_ret3
     exact ⟨rfl, rfl⟩
   ·have hlt2 : cont (bs.drop k) < (bs.drop k).length := by have := cont_le (bs.drop k); omega
    have hc := size_yes T (cp - k) (bs.drop k) w hIT (by omega) (by unfold maxLen; omega) hlt2
    obtain ⟨hsh, hgl⟩ := cont_take hlt2
    have hIG : In w T ((bs.drop k).take (cont (bs.drop k) + 1)) := hIT.take _
    have hok : okL ((bs.drop k).take (cont (bs.drop k) + 1)) = true → ((valL ((bs.drop k).take (cont (bs.drop k) + 1)) : Nat) : Int) = a ∧ (k : Int) + ((cont (bs.drop k) : Int) + 1) = b ∧ 0 = c := fun ho => by
     rw [getR_ok hk hlt2 ho] at hr; injection hr with h1 h2; injection h2 with h2 h3; exact ⟨h1, h2, h3⟩
    have hno : okL ((bs.drop k).take (cont (bs.drop k) + 1)) = false → 0 = a ∧ 0 = b ∧ 4 = c := fun ho => by
     rw [getR_form hk hlt2 ho] at hr; injection hr with h1 h2; injection h2 with h2 h3; exact ⟨h1, h2, h3⟩
    have hrc : ∃ (n : Int) (t : Bool), (Calls Tryz.prog 346 #[.slice T (cont (bs.drop k) + 1) (cp - k)] w fun e w' => e = .returned (.tuple #[.int .i64 n, .bool t]) ∧ w = w') ∧
      ((t = true ∧ n = a ∧ (k : Int) + ((cont (bs.drop k) : Int) + 1) = b ∧ 0 = c) ∨ (t = false ∧ 0 = a ∧ 0 = b ∧ 4 = c)) := by
     generalize cont (bs.drop k) = m at *
     generalize (bs.drop k).take (m + 1) = g at *
     by_cases h9 : 9 < g.length
     ·refine ⟨0, false, ?_, Or.inr ⟨rfl, hno (okL_long h9)⟩⟩
      exact read_long T (cp - k) (m + 1) w (by omega) (by unfold maxLen; omega) (by omega)
     ·by_cases hz : g.length = 1 ∨ g.getD (g.length - 1) 0 ≠ 0
      ·have hre := read_else T (cp - k) g w hIG (by omega) (by unfold maxLen; omega) ⟨by omega, by omega, hz⟩
       have hoe := okL_else hsh hz
       rw [hgl] at hre
       refine ⟨_, _, hre, ?_⟩
       by_cases hv : valL g ≤ 72057594037927936
       ·left
        rw [decide_eq_true hv] at hoe
        exact ⟨decide_eq_true (by omega), hok hoe⟩
       ·right
        rw [decide_eq_false hv] at hoe
        exact ⟨decide_eq_false (by omega), hno hoe⟩
      ·have h1 : 1 < g.length := by omega
       have hz' : g.getD (g.length - 1) 0 = 0 := by
        rcases Decidable.em (g.getD (g.length - 1) 0 = 0) with e | e
        ·exact e
        ·exact absurd (Or.inr e) hz
       have hre := read_zero T (cp - k) g w hIG (by omega) h1 hz'
       rw [hgl] at hre
       exact ⟨0, false, hre, Or.inr ⟨rfl, hno (okL_zero h1 hz')⟩⟩
    obtain ⟨n, t, hre, hcase⟩ := hrc
    have hml : cont (bs.drop k) < bs.length - k := by omega
    generalize cont (bs.drop k) = m at *
    rw [hlt] at hc
    obtain ⟨l, hL⟩ : ∃ l, bs.length = l := ⟨_, rfl⟩
    rw [hL] at hl h1 hk hc hml ⊢
    have HC := Lib.hid hc
    have HR := Lib.hid hre
    rw [← hT, if_neg (show ¬ cp = k by omega)] at HC HR
    clear hL hl2 h0 hr hI h hc hs hlt hIT hT hre hok hno hIG hsh hgl hlt2
    have k0 : (k : Int) ≤ (l : Int) := by omega
    have k1 : (l : Int) ≤ (cp : Int) := by omega
    have k2 : (k : Int) + ((m : Int) + 1) ≤ (l : Int) := by omega
    have e1 : ((k : Int) + ((m : Int) + 1)).toNat = k + (m + 1) := by omega
    have e2 : k + (m + 1) - k = m + 1 := by omega
    go_enter Tryz.func299, Tryz.ntmps299
    go_wp2_with fail
    refine HC.out.mono ?_
    rintro e w' ⟨rfl, rfl⟩
    go_wp2_with fail
    refine HR.out.mono ?_
    rintro e w' ⟨rfl, rfl⟩
    clear e1 e2
    rcases hcase with ⟨rfl, rfl, rfl, rfl⟩ | ⟨rfl, rfl, rfl, rfl⟩
    ·go_wp2
     go_ret3
     exact ⟨rfl, rfl⟩
    ·go_wp2
     go_ret3
     exact ⟨rfl, rfl⟩
end Go.Proofs.YtpfjlhpahmhkhaaGreat.Sh
/- Package names: Name; wire.Has. -/
namespace Go.Proofs.YtpfjlhpahmhkhaaGreat.Tx
open Go.RowKit Go.Proofs.YtpfjlhpahmhkhaaGreat.Sh
theorem list_other_ {a b : List UInt8} (h : a ≠ b) : (a == b) = false := by simpa using h
theorem text_there_ {b : List UInt8} (h : 0 < b.length) : (str b).toList.isEmpty = false ∧ ((str b).toList == []) = false := by
 rw [str_toList]
 cases b with
 | nil => simp at h
 | cons c r => exact ⟨rfl, rfl⟩
set_option maxRecDepth 100000 in
set_option maxHeartbeats 1600000 in
theorem cname_all (cs : List UInt8) (w : World) : Calls Tryz.prog 276 #[.string (str cs)] w fun e w' => e = .returned (.bool (nameB cs)) ∧ w = w' := by
 have hsz := str_size cs
 have htl := str_toList cs
 obtain ⟨l, hL⟩ : ∃ l, cs.length = l := ⟨_, rfl⟩
 rw [hL] at hsz
 have HL := Lib.hid hL
 have n0 : (0 : Int) ≤ (l : Int) := by omega
 clear hL
 rcases Nat.eq_zero_or_pos l with h1 | h1
 ·have HR : Hid (nameB cs = false) := by
   unfold Hid
   rw [nameB_eq, HL.out]
   simp [h1]
  have e0 : (str cs).toList.isEmpty = true := by
   have : cs = [] := List.eq_nil_of_length_eq_zero (by rw [HL.out]; exact h1)
   rw [htl, this]; rfl
  have e0' : ((str cs).toList == []) = true := by
   have : cs = [] := List.eq_nil_of_length_eq_zero (by rw [HL.out]; exact h1)
   rw [htl, this]; rfl
  clear htl h1 n0
  go_enter Tryz.func276, Tryz.ntmps276
  go_wp2
  go_ret
  exact ⟨by rw [HR.out]; rfl, rfl⟩
 ·obtain ⟨e0, e0'⟩ : (str cs).toList.isEmpty = false ∧ ((str cs).toList == []) = false := text_there_ (by rw [HL.out]; exact h1)
  have z1 : (1 : Int) ≤ (l : Int) := by omega
  by_cases h3 : cs = [46]
  ·have HR : Hid (nameB cs = false) := by subst h3; rfl
   have e1 : ((str cs).toList == [46]) = true := by rw [htl, h3]; rfl
   clear htl h3
   go_enter Tryz.func276, Tryz.ntmps276
   go_wp2
   go_ret
   exact ⟨by rw [HR.out]; rfl, rfl⟩
  ·have e1 : ((str cs).toList == [46]) = false := by rw [htl]; exact list_other_ h3
   by_cases h4 : cs = [46, 46]
   ·have HR : Hid (nameB cs = false) := by subst h4; rfl
    have e2 : ((str cs).toList == [46, 46]) = true := by rw [htl, h4]; rfl
    clear htl h3 h4
    go_enter Tryz.func276, Tryz.ntmps276
    go_wp2
    go_ret
    exact ⟨by rw [HR.out]; rfl, rfl⟩
   ·have e2 : ((str cs).toList == [46, 46]) = false := by rw [htl]; exact list_other_ h4
    have H3 := Lib.hid h3
    have H4 := Lib.hid h4
    clear htl h3 h4
    by_cases h2 : 64 < l
    ·have HR : Hid (nameB cs = false) := by
      unfold Hid
      rw [nameB_eq, HL.out]
      simp [show ¬ (l ≤ 64) from by omega]
     have z2 : (64 : Int) < (l : Int) := by omega
     go_enter Tryz.func276, Tryz.ntmps276
     go_wp2
     go_ret
     exact ⟨by rw [HR.out]; rfl, rfl⟩
    ·have z2 : (l : Int) ≤ 64 := by omega
     go_enter Tryz.func276, Tryz.ntmps276
     go_wp2
     clear e0 e0' e1 e2
     go_loop [21] (fun i => ∃ k : Nat, k ≤ l ∧ i = .int .i64 k ∧ ∀ (j : Nat) (c : UInt8), j < k → cs[j]? = some c → okc c = true) (fun i => l - (intOf i).toNat)
     case atStart => exact ⟨0, by omega, rfl, fun j c hj => by omega⟩
     case round =>
      obtain ⟨k, hk, rfl, hok⟩ := hrel
      have HOK := Lib.hid hok
      clear hok
      have k0 : (0 : Int) ≤ (k : Int) := by omega
      by_cases hlt : k < l
      ·have k1 : (k : Int) < (l : Int) := by omega
       have hkc : k < cs.length := by rw [HL.out]; exact hlt
       have hix := index_str cs k hkc
       obtain ⟨x, hx⟩ : ∃ x, cs.getD k 0 = x := ⟨_, rfl⟩
       have hx' : cs[k]? = some x := by rw [← hx, List.getD_eq_getElem?_getD, List.getElem?_eq_getElem hkc]; rfl
       rw [hx] at hix
       have HX := Lib.hid hx'
       clear hx hx' hkc
       rcases okc_cases x with ⟨ho, c1⟩ | ⟨ho, c1, c2⟩ | ⟨ho, c1, c2, c3⟩ | ⟨ho, c1, c2, c3⟩
       ·have HR : Hid (nameB cs = false) := nameB_bad HX.out ho
        clear ho
        generalize bi x = y at *
        go_wp2
        go_ret
        exact ⟨by rw [HR.out]; rfl, rfl⟩
       ·have HR : Hid (nameB cs = false) := nameB_bad HX.out ho
        clear ho
        generalize bi x = y at *
        go_wp2
        go_ret
        exact ⟨by rw [HR.out]; rfl, rfl⟩
       ·have HR : Hid (nameB cs = false) := nameB_bad HX.out ho
        have hy : bi x = 47 := by subst c3; unfold bi; rfl
        rw [hy] at hix c1 c2
        clear ho c3 hy
        go_wp2
        go_ret
        exact ⟨by rw [HR.out]; rfl, rfl⟩
       ·have HO := Lib.hid ho
        clear ho
        generalize bi x = y at *
        go_wp2
        go_round
        case rel =>
         refine ⟨k + 1, by omega, by go_num, fun j c hj hc => ?_⟩
         by_cases e : j = k
         ·subst e; rw [HX.out] at hc; injection hc with hc; subst hc; exact HO.out
         ·exact HOK.out j c (by omega) hc
        case measure => simp [intOf]; omega
      ·have HR : Hid (nameB cs = true) := by
        unfold Hid
        refine nameB_good (by rw [HL.out]; omega) (by rw [HL.out]; omega) (list_other_ H3.out) (list_other_ H4.out) (fun j c hc => HOK.out j c ?_ hc)
        have := (List.getElem?_eq_some_iff.1 hc).1
        rw [HL.out] at this
        omega
       obtain rfl : k = l := by omega
       go_wp2
       go_ret
       exact ⟨by rw [HR.out]; rfl, rfl⟩
theorem add_field' (x : Addr) (m j : Nat) (hj : 0 < j) : x.add (m + j) = ⟨(x.add m).block, (x.add m).off + j, none⟩ := by
 unfold Addr.add
 by_cases hm : m = 0
 ·subst hm
  rw [if_neg (by omega)]
  simp
 ·rw [if_neg (by omega), if_neg hm]
  simp [Nat.add_assoc]
theorem toList_ne' {s t : ByteArray} (h : t ≠ s) : (t.toList == s.toList) = false := by
 rw [beq_eq_false_iff_ne]
 intro e
 rw [ByteArray.toList_eq, ByteArray.toList_eq] at e
 exact h (ByteArray.ext (Array.toList_inj.1 e))
end Go.Proofs.YtpfjlhpahmhkhaaGreat.Tx
/- Objects: plain, and as values. -/
namespace Go.Proofs.YtpfjlhpahmhkhaaGreat.Ob
open Go.RowKit Go.Proofs.YtpfjlhpahmhkhaaGreat.Sh
open Go.Proofs.YtpfjlhpahmhkhaaGreat.Tx (OwnV SlV sv bl nameB reads_at texts_at toList_ne')
abbrev ItM := Int × List UInt8 × List UInt8
structure ObM where
 kind : Int
 data : List UInt8
 items : List ItM
 tree : List UInt8
 parents : List (List UInt8)
 stamp : Int
 author : Int
 msg : List UInt8
def itC (x : ItM) : List Value := [.int .i64 x.1, .string (str x.2.1), .string (str x.2.2)]
theorem itC_one (l : List ItM) : ∀ u ∈ l.flatMap itC, u.oneCell' = true := by
 intro u hu
 rw [List.mem_flatMap] at hu
 obtain ⟨x, _, hx⟩ := hu
 simp [itC] at hx
 rcases hx with rfl | rfl | rfl <;> rfl
theorem itC_at (l : List ItM) : ∀ (k : Nat) (x : ItM), l[k]? = some x → (l.flatMap itC)[k * 3]? = some (.int .i64 x.1) ∧ (l.flatMap itC)[k * 3 + 1]? = some (.string (str x.2.1)) ∧ (l.flatMap itC)[k * 3 + 2]? = some (.string (str x.2.2)) := by
 induction l with
 | nil => intro k x h; simp at h
 | cons y l ih =>
  intro k x h
  cases k with
  | zero =>
   simp at h
   subst h
   exact ⟨rfl, rfl, rfl⟩
  | succ k =>
   obtain ⟨h0, h1, h2⟩ := ih k x (by simpa using h)
   have e : ∀ j, ((y :: l).flatMap itC)[(k + 1) * 3 + j]? = (l.flatMap itC)[k * 3 + j]? := by
    intro j
    rw [List.flatMap_cons, List.getElem?_append_right (by simp [itC]; omega)]
    congr 1
    simp [itC]
    omega
   exact ⟨(e 0).trans h0, (e 1).trans h1, (e 2).trans h2⟩
def SlI (w : World) (v : Value) (l : List ItM) : Prop := ∃ A c, v = .slice A l.length c ∧ l.length ≤ c ∧ c ≤ maxLen ∧ (A = none → l = []) ∧ Reads w w.heap.size 3 A l.length (l.flatMap itC)
def OwnI (T : TypeId) (w : World) (B : Nat) (v : Value) (l : List ItM) : Prop := w.ownsRow B T 3 v l.length (l.flatMap itC)
section
variable {T : TypeId} {w w' : World} {B : Nat} {v : Value} {l : List ItM}
theorem SlI.below (h : SlI w v l) (hb : Below w.heap.size w w') : SlI w' v l := by
 obtain ⟨A, c, hv, h1, h2, h3, h4⟩ := h
 exact ⟨A, c, hv, h1, h2, h3, (h4.below hb).more hb.size⟩
theorem SlI.nil_ (w : World) : SlI w (.slice none 0 0) [] := ⟨none, 0, rfl, by simp, by unfold maxLen; omega, fun _ => rfl, ⟨by simp, fun h => absurd h (by simp)⟩⟩
theorem items_at {A : Option Addr} {n : Nat} (h : Reads w B 3 A n (l.flatMap itC)) (hn : n = l.length) (k : Nat) (x : ItM) (hk : l[k]? = some x) :
  ∃ ad, A = some ad ∧ w.cell? (ad.add (k * 3)) = some (.int .i64 x.1) ∧ w.cell? ⟨(ad.add (k * 3)).block, (ad.add (k * 3)).off + 1, none⟩ = some (.string (str x.2.1)) ∧ w.cell? ⟨(ad.add (k * 3)).block, (ad.add (k * 3)).off + 2, none⟩ = some (.string (str x.2.2)) := by
 have hl : k < l.length := (List.getElem?_eq_some_iff.1 hk).1
 obtain ⟨ad, e, _, hc⟩ := h.2 (by omega)
 obtain ⟨h0, h1, h2⟩ := itC_at l k x hk
 refine ⟨ad, e, hc _ _ h0, ?_, ?_⟩
 ·rw [← Tx.add_field' ad (k * 3) 1 (by omega)]
  exact hc _ _ h1
 ·rw [← Tx.add_field' ad (k * 3) 2 (by omega)]
  exact hc _ _ h2
theorem OwnI.nil_ (T : TypeId) (w : World) (B : Nat) : OwnI T w B (.slice none 0 0) [] := World.ownsRow_nil w B T 3
theorem OwnI.alloc (h : OwnI T w B v l) (o : Obj) : OwnI T (w.alloc o) B v l := World.ownsRow.alloc h o
theorem OwnI.drew (h : OwnI T w B v l) : OwnI T w.drew B v l := h
theorem OwnI.below (h : OwnI T w B v l) (hb : Below w.heap.size w w') : OwnI T w' B v l :=
 World.ownsRow.kept h (only_of_below hb none) (by cases hv : v.ownBlock <;> simp)
theorem OwnI.lt (h : OwnI T w B v l) (k : Nat) (hk : v.ownBlock = some k) : B ≤ k ∧ k < w.heap.size := World.ownsRow.lt h k hk
theorem OwnI.base {B' : Nat} (h : OwnI T w B v l) (hB : B' ≤ B) : OwnI T w B' v l := by
 refine ⟨h.1, ?_⟩
 rcases h.2 with h0 | ⟨g, cap, cur, hv, hb, rest⟩
 ·exact .inl h0
 ·exact .inr ⟨g, cap, cur, hv, by omega, rest⟩
theorem OwnI.slI (h : OwnI T w B v l) : SlI w v l := by
 rcases h.2 with ⟨rfl, h0⟩ | ⟨g, cap, cur, rfl, hb, hg, hc, hm, hcs, htk⟩
 ·have : l = [] := List.eq_nil_of_length_eq_zero h0
  subst this
  exact SlI.nil_ w
 ·have hr := Reads.of_own (show w.ownsRow B T 3 (.slice (some ⟨g, 0, none⟩) l.length cap) l.length (l.flatMap itC) from h)
  exact ⟨_, cap, rfl, hc, hm, (fun e => by cases e), hr⟩
end
def ObV (w : World) (v : Value) (o : ObM) : Prop := ∃ d it ps, v = .agg #[.int .i64 o.kind, d, it, .string (str o.tree), ps, .int .i64 o.stamp, .int .i64 o.author, .string (str o.msg)] ∧ Sl w d o.data ∧ SlI w it o.items ∧ Tx.SlV w ps ((o.parents.map str).map Tx.sv)
theorem ObV.below {w w' : World} {v : Value} {o : ObM} (h : ObV w v o) (hb : Below w.heap.size w w') : ObV w' v o := by
 obtain ⟨d, it, ps, hv, h1, h2, h3⟩ := h
 exact ⟨d, it, ps, hv, h1.below hb, h2.below hb, h3.below hb⟩
def BoolPost (w : World) (t : Bool) (e : Ending) (w' : World) : Prop := e = .returned (.bool t) ∧ Below w.heap.size w w'
end Go.Proofs.YtpfjlhpahmhkhaaGreat.Ob
