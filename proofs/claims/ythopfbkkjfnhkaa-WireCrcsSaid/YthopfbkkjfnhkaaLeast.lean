/- The walk of WireLeast. -/
import Derived.Test.YthopfbkkjfnhkaaNums
namespace Go.Proofs.Ythopfbkkjfnhkaa
open Go.RowKit

theorem Own.setAt {w : World} {B : Nat} {g n c : Nat} {bs : List UInt8} (h : Own w B (.slice (some ⟨g, 0, none⟩) n c) bs) (j : Nat) (u : UInt8) :
    Own (w.setCell ⟨g, j, none⟩ (.int .u8 (bi u))) B (.slice (some ⟨g, 0, none⟩) n c) (bs.set j u) := by
  rcases h.2 with ⟨he, h0⟩ | ⟨g', cap, cur, he, hb, hg, hc, hm, hcs, htk⟩
  · cases he
  · injection he with e1 e2 e3
    injection e1 with e1
    injection e1 with e1 _ _
    subst e1 e3
    have hbk : Blk w g 5 cur := hg
    have hb2 := hbk.set_ j (.int .u8 (bi u))
    refine ⟨by simp, Or.inr ⟨g, c, _, by rw [e2, List.length_set], hb, hb2, by rw [List.length_set]; exact hc, hm, by simpa using hcs, ?_⟩⟩
    rw [Array.toList_setIfInBounds, List.take_set, List.length_set, htk, List.map_set]
    rfl
theorem Own.cellAt {w : World} {B g n c : Nat} {bs : List UInt8} (h : Own w B (.slice (some ⟨g, 0, none⟩) n c) bs) (j : Nat) (hj : j < bs.length) :
    w.cell? ⟨g, j, none⟩ = some (.int .u8 (bi (bs.getD j 0))) ∧ w.frozen? ⟨g, j, none⟩ = false := by
  rcases h.2 with ⟨he, h0⟩ | ⟨g', cap, cur, he, hb, hg, hc, hm, hcs, htk⟩
  · cases he
  · injection he with e1 e2 e3
    injection e1 with e1
    injection e1 with e1 _ _
    subst e1 e3
    have hbk : Blk w g 5 cur := hg
    refine ⟨?_, hbk.frozen j⟩
    rw [hbk.cell]
    have : (cur.toList.take (bs.length * 1))[j]? = (bs.map bv)[j]? := by rw [htk]
    rw [List.getElem?_take, if_pos (by omega), List.getElem?_map, List.getElem?_eq_getElem hj] at this
    rw [← Array.getElem?_toList, this, List.getD_eq_getElem?_getD, List.getElem?_eq_getElem hj]
    rfl
theorem bor128 (x : UInt8) : bits .or .u8 (bi x) 128 = bi (x ||| 128) := by
  unfold bi
  have := x.toNat_lt
  rw [show (128 : Int) = ((128 : Nat) : Int) from rfl, u8_or_nat _ _ (by omega) (by omega), UInt8.toNat_or]
  rfl
theorem set_last (xa : List UInt8) (j : Nat) (y : UInt8) (h : xa.length = j + 1) : xa.set j y = xa.take (xa.length - 1) ++ [y] := by
  apply List.ext_getElem (by simp; omega)
  intro i h1 h2
  rw [List.getElem_set]
  by_cases e : j = i
  · subst e
    rw [if_pos rfl, List.getElem_append_right (by simp; omega)]
    simp
  · rw [if_neg e]
    simp at h1
    rw [List.getElem_append_left (by simp; omega), List.getElem_take]
theorem count_step (n m k : Nat) (h : 127 < m) (hk : k + (putL m).length = n + 1) : k + 1 + (putL (m / 128)).length = n + 1 := by
  rw [putL_ge (by omega), List.length_cons] at hk
  omega

set_option maxRecDepth 100000 in
set_option maxHeartbeats 800000 in
theorem least_out (a b : Int) (w : World) (h : putE a = 1 ∨ (putE a = 0 ∧ putE b = 1)) : Calls Try.prog 9 #[.int .i64 a, .int .i64 b] w (Yes w) := by
  have ha := put_all a
  have hb := put_all b
  rcases h with h | ⟨h, h2⟩
  · unfold PutAll at ha hb
    rw [h] at ha
    generalize putE b = eb at *
    generalize putB a = xa at *
    generalize putB b = xb at *
    have HA := Lib.hid ha
    have HB := Lib.hid hb
    clear ha hb h
    go_enter Try.func9, Try.ntmps9
    go_wp2_with fail
    refine (first_then (Below.refl _ _)).mono ?_
    rintro e w1 ⟨rfl, hb1⟩
    have HB1 := Lib.hid hb1
    clear hb1
    go_wp2_with fail
    refine (HA.out _).mono ?_
    rintro e w2 ⟨v2, rfl, _, hb2⟩
    have HB2 := Lib.hid (HB1.out.trans (hb2.mono HB1.out.size))
    clear hb2
    go_wp2_with fail
    refine (HB.out _).mono ?_
    rintro e w3 ⟨v3, rfl, _, hb3⟩
    have HB3 := Lib.hid (HB2.out.trans (hb3.mono HB2.out.size))
    clear hb3
    go_wp2_with fail
    refine (first_then HB3.out).mono ?_
    rintro e w4 ⟨rfl, hb4⟩
    go_wp2
    go_ret
    exact ⟨rfl, hb4⟩
  · unfold PutAll at ha hb
    rw [h] at ha
    rw [h2] at hb
    generalize putB a = xa at *
    generalize putB b = xb at *
    have HA := Lib.hid ha
    have HB := Lib.hid hb
    clear ha hb h h2
    go_enter Try.func9, Try.ntmps9
    go_wp2_with fail
    refine (first_then (Below.refl _ _)).mono ?_
    rintro e w1 ⟨rfl, hb1⟩
    have HB1 := Lib.hid hb1
    clear hb1
    go_wp2_with fail
    refine (HA.out _).mono ?_
    rintro e w2 ⟨v2, rfl, _, hb2⟩
    have HB2 := Lib.hid (HB1.out.trans (hb2.mono HB1.out.size))
    clear hb2
    go_wp2_with fail
    refine (HB.out _).mono ?_
    rintro e w3 ⟨v3, rfl, _, hb3⟩
    have HB3 := Lib.hid (HB2.out.trans (hb3.mono HB2.out.size))
    clear hb3
    go_wp2_with fail
    refine (first_then HB3.out).mono ?_
    rintro e w4 ⟨rfl, hb4⟩
    go_wp2
    go_ret
    exact ⟨rfl, hb4⟩

set_option maxRecDepth 100000 in
set_option maxHeartbeats 1600000 in
theorem least_in (a b : Nat) (w : World) (h1 : a ≤ 72057594037927936) (h2 : b ≤ 72057594037927936) : Calls Try.prog 9 #[.int .i64 (a : Int), .int .i64 (b : Int)] w (Yes w) := by
  have b1 : (0 : Int) ≤ (a : Int) := by omega
  have b2 : (a : Int) ≤ 72057594037927936 := by omega
  go_enter Try.func9, Try.ntmps9
  go_wp2_with fail
  refine (first_then (Below.refl _ _)).mono ?_
  rintro e w1 ⟨rfl, hb1⟩
  have HB1 := Lib.hid hb1
  clear hb1
  go_wp2_with fail
  refine (put_any a _ h1).mono ?_
  rintro e w2 ⟨v2, rfl, ho2, hb2⟩
  have HB2 := Lib.hid (HB1.out.trans (hb2.mono HB1.out.size))
  have HS2 := Lib.hid ho2.sl
  clear ho2 hb2
  go_wp2_with fail
  refine (put_any b _ h2).mono ?_
  rintro e w3 ⟨v3, rfl, ho3, hb3⟩
  have HB3 := Lib.hid (HB2.out.trans (hb3.mono HB2.out.size))
  have HX := Lib.hid (HS2.out.below hb3)
  have HY := Lib.hid ho3.sl
  clear ho3 hb3
  go_wp2_with fail
  have hla := putL_len9 h1
  have hlp := putL_pos a
  have HLA := Lib.hid (show (putL a).length = (putL a).length from rfl)
  go_loop [9, 10] (fun n m => ∃ k q : Nat, n = .int .i64 k ∧ m = .int .i64 q ∧ q ≤ 72057594037927936 ∧ k + (putL q).length = (putL a).length + 1) (fun _ m => (intOf m).toNat)
  case atStart => exact ⟨1, a, rfl, rfl, h1, Nat.add_comm _ _⟩
  case round =>
    obtain ⟨k, q, rfl, rfl, hq, hk⟩ := hrel
    have q0 : (0 : Int) ≤ (q : Int) := by omega
    have q1 : (q : Int) ≤ 72057594037927936 := by omega
    have k0 : (0 : Int) ≤ (k : Int) := by omega
    have k1 : (k : Int) ≤ 100 := by omega
    by_cases hlt : 127 < q
    · have q2 : (127 : Int) < (q : Int) := by omega
      have hst := Lib.hid (count_step _ q k hlt hk)
      clear hk
      go_wp2
      go_round
      case rel => exact ⟨k + 1, q / 128, by go_num, by congr 1, by omega, hst.out⟩
      case measure => simp [intOf]; omega
    · have q2 : (q : Int) ≤ 127 := by omega
      rw [putL_lt (show q < 128 by omega)] at hk
      have hkl : (putL a).length = k := by simpa using hk.symm
      have HEQ := Lib.hid (show a = b ↔ putL a = putL b from ⟨fun e => by rw [e], putL_inj⟩)
      have HMO := Lib.hid (putL_mono a b)
      have HLONG := Lib.hid (getR_long a)
      obtain ⟨xa, hxa⟩ : ∃ xa, putL a = xa := ⟨_, rfl⟩
      obtain ⟨xb, hxb⟩ : ∃ xb, putL b = xb := ⟨_, rfl⟩
      rw [hxa] at HX HEQ HMO HLONG hkl hlp hla
      rw [hxb] at HY HEQ HMO
      have hf : ((a : Int) ≤ (b : Int) ∧ ((a : Int) == (b : Int)) = false ∧ ((str xa).toList == (str xb).toList) = false ∧ (0 : Int) ≤ (xb.length : Int)) ∨ ((a : Int) ≤ (b : Int) ∧ ((a : Int) == (b : Int)) = true ∧ ((str xa).toList == (str xb).toList) = true ∧ (0 : Int) ≤ (xb.length : Int)) ∨ ((b : Int) < (a : Int) ∧ ((a : Int) == (b : Int)) = false ∧ ((str xa).toList == (str xb).toList) = false ∧ (xb.length : Int) ≤ (xa.length : Int)) := by
        rw [str_toList, str_toList]
        rcases Nat.lt_trichotomy a b with hh | hh | hh
        · exact .inl ⟨by omega, by rw [beq_eq_false_iff_ne]; omega, by rw [beq_eq_false_iff_ne]; intro e; have := HEQ.out.2 e; omega, by omega⟩
        · exact .inr (.inl ⟨by omega, by rw [beq_iff_eq]; omega, by rw [beq_iff_eq]; exact HEQ.out.1 hh, by omega⟩)
        · exact .inr (.inr ⟨by omega, by rw [beq_eq_false_iff_ne]; omega, by rw [beq_eq_false_iff_ne]; intro e; have := HEQ.out.2 e; omega, by have := HMO.out (by omega); omega⟩)
      obtain ⟨A, c, hv2, n1, n2, n3, n4⟩ := HX.out
      obtain ⟨A', c', hv3, n1', n2', n3', n4'⟩ := HY.out
      have kx := conv_str w3 A xa c n3 n4
      have ky := conv_str w3 A' xb c' n3' n4'
      rw [hkl] at hv2 kx hf hla hlp
      obtain ⟨lb, hlb⟩ : ∃ lb, xb.length = lb := ⟨_, rfl⟩
      rw [hlb] at hv3 ky hf
      have HKL := Lib.hid hkl
      subst hv2 hv3
      clear hxa hxb hlb hkl n1 n2 n3 n4 n1' n2' n3' n4' hk HEQ HMO hq q0 h1 h2 HY
      have hown : Own (w3.alloc (.cells #[] 5)) w3.heap.size (.slice (some ⟨w3.heap.size, 0, none⟩) 0 0) [] :=
        World.ownsRow_made w3 #[] 0 (Nat.le_refl _) (by unfold maxLen; omega) rfl
      have HOWN := Lib.hid hown
      have hb3 : Below w3.heap.size w3 (w3.alloc (.cells #[] 5)) := (Below.refl _ _).alloc (Nat.le_refl _) _
      have hrd : Reads (w3.alloc (.cells #[] 5)) (w3.alloc (.cells #[] 5)).heap.size 1 A k (xa.map bv) := by
        have := (HX.out.below hb3)
        obtain ⟨A2, c2, he, _, _, hI2, _⟩ := this
        injection he with he _ _
        rw [he, ← HKL.out]
        exact hI2.reads
      have HRD := Lib.hid hrd
      have HB33 := Lib.hid hb3
      clear hown hrd hb3
      have hz0 : w3.heap.size ≤ (w3.alloc (.cells #[] 5)).heap.size := by simp
      have hsm : ([] : List UInt8).length + k ≤ 140737488355328 := by simp; omega
      have hsm2 : ∀ y, (xa.set (k - 1) y).length + 1 ≤ 140737488355328 := fun y => by rw [List.length_set, HKL.out]; omega
      have HSM2 := Lib.hid hsm2
      clear hsm2
      have hsl := Lib.hid (fun y => set_last xa (k - 1) y (by rw [HKL.out]; omega))
      obtain ⟨x, hx⟩ : ∃ x, xa.getD (k - 1) 0 = x := ⟨_, rfl⟩
      have HLONG' : Hid (getR (xa.set (k - 1) (x ||| 128) ++ [0]) 0 = (0, 0, 4)) := by
        unfold Hid
        rw [hsl.out, ← hx]
        have := HLONG.out
        rw [HKL.out] at this ⊢
        exact this
      have hor := bor128 x
      obtain ⟨j, rfl⟩ : ∃ j, k = j + 1 := ⟨k - 1, by omega⟩
      rw [show j + 1 - 1 = j from by omega] at hx HLONG' HSM2
      have HX0 := Lib.hid hx
      have j0 : (0 : Int) ≤ (j : Int) := by omega
      have j1 : (j : Int) ≤ 8 := by omega
      clear hx HLONG hsl
      rcases hf with ⟨f1, f2, f3, f4⟩ | ⟨f1, f2, f3, f4⟩ | ⟨f1, f2, f3, f4⟩
      all_goals
        go_wp2_with (first | (at_builtin; refine append_bytes rfl (.tmp 68) (.tmp 69) rfl _ w3.heap.size (.slice (some ⟨w3.heap.size, 0, none⟩) 0 0) [] rfl HOWN.out _ A (j + 1) c xa rfl HRD.out hsm hz0 ?_; intro v4 w4 ho4 hb4; have HO4 := Lib.hid ho4; have HB4 := Lib.hid (HB33.out.trans hb4); obtain ⟨g4, c4, e4, e5, e6, e7, e8, e9⟩ := ho4.wr (by rw [List.nil_append, HKL.out]; omega); rw [List.nil_append, HKL.out] at e4 e5; subst e4; have hcl := (HO4.out.cellAt j (by rw [List.nil_append, HKL.out]; omega)); rw [List.nil_append, HX0.out] at hcl; have hc1 := hcl.1; have hc2 := hcl.2; clear hcl ho4 hb4 kx ky f1 f2 f3 f4) | (at_builtin; refine append_byte rfl (.tmp 84) (.tmp 85) rfl (w4.setCell ⟨g4, j, none⟩ (.int .u8 (bi (x ||| 128)))) w3.heap.size (.slice (some ⟨g4, 0, none⟩) (j + 1) c4) (xa.set j (x ||| 128)) rfl (Own.setAt (bs := xa) HO4.out j (x ||| 128)) 0 0 (by rw [bi0]) (show Value.slice (some ⟨w4.heap.size, 0, none⟩) 1 1 = .slice (some ⟨(w4.setCell ⟨g4, j, none⟩ (.int .u8 (bi (x ||| 128)))).heap.size, 0, none⟩) 1 1 by simp [World.setCell]) (HSM2.out _) (by have := HB4.out.size; simpa [World.setCell] using this) ?_; intro v5 w5 ho5 hb5; have HO5 := Lib.hid ho5.sl; have HB5 := Lib.hid ((HB4.out.setCell (p := ⟨g4, j, none⟩) e7 _).trans hb5); clear ho5 hb5 hc1 hc2))
        refine (get_any v5 _ 0 0 0 4 _ HO5.out HLONG'.out).mono ?_
        rintro e w6 ⟨rfl, rfl⟩
        have HB6 := Lib.hid (HB3.out.trans (HB5.out.mono HB3.out.size))
        go_wp2_with fail
        refine (first_then HB6.out).mono ?_
        rintro e w7 ⟨rfl, hb7⟩
        go_wp2
        go_ret
        exact ⟨rfl, hb7⟩

theorem wireLeast_walk (a0 : Int) (a1 : Int) (w : World) (_ : (Lit.int .i64 a0).wf = true) (_ : (Lit.int .i64 a1).wf = true) :
    Calls Try.prog 9 #[.int .i64 a0, .int .i64 a1] w (Yes w) := by
  by_cases h1 : a0 < 0 ∨ 72057594037927936 < a0
  · exact least_out a0 a1 w (Or.inl (by unfold putE; rw [if_pos h1]))
  · by_cases h2 : a1 < 0 ∨ 72057594037927936 < a1
    · exact least_out a0 a1 w (Or.inr ⟨by unfold putE; rw [if_neg h1], by unfold putE; rw [if_pos h2]⟩)
    · obtain ⟨a, rfl⟩ := Int.eq_ofNat_of_zero_le (show 0 ≤ a0 by omega)
      obtain ⟨b, rfl⟩ := Int.eq_ofNat_of_zero_le (show 0 ≤ a1 by omega)
      exact least_in a b w (by omega) (by omega)
end Go.Proofs.Ythopfbkkjfnhkaa
