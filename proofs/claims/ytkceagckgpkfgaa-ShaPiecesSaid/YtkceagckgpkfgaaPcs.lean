/- The walk of ShaPieces. -/
import Derived.Test.YtkceagckgpkfgaaR5
import Derived.Test.YtkceagckgpkfgaaBack
import Derived.Test.YtkceagckgpkfgaaPC0
namespace Go.Proofs.Ytkceagckgpkfgaa
open Go.RowKit

theorem Own.apart {w0 w w' : World} {B g : Nat} {v : Value} {bs0 bs : List UInt8} (h0 : Own w0 B v bs0) (h : Own w B v bs) (hg : w.grownBy w' (some g)) (hlt : w0.heap.size ≤ g) : Own w' B v bs :=
  World.ownsRow.kept h hg (by
    cases hv : v.ownBlock with
    | none => exact .inl rfl
    | some k =>
      refine .inr fun e => ?_
      have := (World.ownsRow.lt h0 k hv).2
      injection e with e
      omega)
theorem Wr.grown {w w' : World} {g m b : Nat} (h : Wr w g m) (hb : w.grownBy w' (some b)) (hg : g ≠ b) : Wr w' g m := by
  obtain ⟨cur, hbk, hc⟩ := h
  exact ⟨cur, hbk.grown hb (by intro e; injection e with e; exact hg e), hc⟩
theorem own_src {w : World} {B b : Nat} {v : Value} {bs : List UInt8} (h : Own w B v bs) (hb : b < B) : ∃ A c, v = .slice A bs.length c ∧ bs.length ≤ c ∧ c ≤ maxLen ∧ Src w b A bs ∧ ∃ g, B ≤ g ∧ (0 < bs.length → A = some ⟨g, 0, none⟩ ∧ Wr w g bs.length) := by
  rcases Nat.eq_zero_or_pos bs.length with h0 | h0
  · obtain ⟨A, c, hv, h1, h2, _⟩ := h.in_
    exact ⟨A, c, hv, h1, h2, fun h => by omega, B, Nat.le_refl _, fun h => by omega⟩
  · obtain ⟨A, c, hv, h1, h2, hI, hg⟩ := h.in_
    obtain ⟨g, c', hv', _, _, hgB, _, hW⟩ := h.wr h0
    rw [hv] at hv'
    injection hv' with e1 _ e3
    subst e1 e3
    refine ⟨_, _, hv, h1, h2, fun h0 => ?_, g, hgB, fun _ => ⟨rfl, hW⟩⟩
    obtain ⟨ad, hA, hlt, hc⟩ := hI h0
    refine ⟨ad, hA, ?_, hlt, hc⟩
    injection hA with hA
    subst hA
    simp
    omega
theorem row_reads {w : World} {A : Option Addr} {m c : Nat} {bs : List UInt8} (h : Sl w (.slice A m c) bs) : Reads w w.heap.size 1 A m (bs.map bv) := by
  obtain ⟨A', c', e, _, _, hI, _⟩ := h
  injection e with e1 e2 e3
  subst e1 e2
  exact hI.reads

set_option maxRecDepth 100000 in
set_option maxHeartbeats 4000000 in
theorem pieces_any (a0 : Option Addr) (len0 cap0 : Nat) (A : Nat → Option Addr) (L C : Nat → Nat) (R : Nat → List UInt8) (w : World) (h : RowsAt w a0 A L C R len0) (hl : len0 ≤ maxLen) :
    Calls Try.prog 4 #[.slice a0 len0 cap0] w fun e w' => e = .returned (.bool true) ∧ Below w.heap.size w w' := by
  unfold maxLen at hl
  have HR := Lib.hid h
  clear h
  go_enter Try.func4, Try.ntmps4
  go_wp2_with fail
  refine (first_any _).mono ?_
  rintro e w1 ⟨rfl, hb1⟩
  have HB1 := Lib.hid hb1
  clear hb1
  go_wp2_with fail
  refine (new_any _).mono ?_
  intro e w2 hnew
  obtain ⟨b, rfl, hH2, hb2, hw2⟩ := new_hh hnew
  have hz1 := HB1.out.size
  have hbw : w.heap.size ≤ b := by omega
  have HB2 := Lib.hid (HB1.out.trans (hw2.mono hz1))
  have hb2 : b < w2.heap.size := hH2.lt
  have HH2 := Lib.hid hH2
  clear hnew hH2 hw2 hb2
  have hb2 : b < w2.heap.size := HH2.out.lt
  have hz2 : w.heap.size ≤ w2.heap.size := HB2.out.size
  go_wp2_with fail
  go_loop [4, 5] (fun x i => ∃ k : Nat, k ≤ len0 ∧ k ≤ 60 ∧ i = .int .i64 k ∧ x = .int .i64 (minOf L k : Nat)) (fun _ i => 60 - (intOf i).toNat)
  case atStart => exact ⟨0, by omega, by omega, rfl, rfl⟩
  case round =>
    obtain ⟨k, hk1, hk2, rfl, rfl⟩ := hrel
    obtain ⟨M, hM⟩ : ∃ M, minOf L k = M := ⟨_, rfl⟩
    have hM1 : M ≤ 6001 * k := by rw [← hM]; exact minOf_le L k
    have hM2 : M ≤ 400000 := by omega
    rw [hM]
    have HM := Lib.hid hM
    clear hM hM1
    by_cases hlt : k < len0
    · by_cases hlt2 : k < 60
      · obtain ⟨x, hx1, hx2, hx3, hx4, hx5⟩ := (HR.out.below HB2.out) k hlt
        subst hx1
        have hnx : Hid (minOf L (k + 1) = M + min (L k) 6001) := by unfold Hid; rw [← HM.out]; rfl
        have hz3 : (0 : Int) ≤ (k : Int) := by omega
        have hz4 : (k : Int) < (len0 : Int) := by omega
        have hz5 : (k : Int) < 60 := by omega
        clear hx4 hx5
        generalize L k = Lk at *
        by_cases hm : Lk ≤ 6001
        · have hm1 : (Lk : Int) ≤ 6001 := by omega
          go_wp2_with fail
          go_round
          case rel => exact ⟨k + 1, by omega, by omega, by go_num, by rw [hnx.out]; congr 1; omega⟩
          case measure => simp [intOf]; omega
        · have hm1 : (6001 : Int) < (Lk : Int) := by omega
          go_wp2_with fail
          go_round
          case rel => exact ⟨k + 1, by omega, by omega, by go_num, by rw [hnx.out]; congr 1; omega⟩
          case measure => simp [intOf]; omega
      · obtain rfl : k = 60 := by omega
        have hz4 : (60 : Int) < (len0 : Int) := by omega
        go_wp2_with fail
        refine (first_from HB2.out).mono ?_
        rintro e w3 ⟨rfl, hb3⟩
        go_wp2_with fail
        go_ret
        exact ⟨rfl, hb3⟩
    · obtain rfl : k = len0 := by omega
      have hz4 : (k : Int) ≤ 60 := by omega
      by_cases hbig : 6000 < M
      · have hz5 : (6000 : Int) < (M : Int) := by omega
        go_wp2_with fail
        refine (first_from HB2.out).mono ?_
        rintro e w3 ⟨rfl, hb3⟩
        go_wp2_with fail
        go_ret
        exact ⟨rfl, hb3⟩
      · have hz5 : (M : Int) ≤ 6000 := by omega
        go_wp2_with fail
        have HK := Lib.hid (show minOf L k ≤ 6000 by rw [HM.out]; omega)
        have HLL := Lib.hid (fun r (hr : r < k) => (HR.out r hr).choose_spec.2.2.2.1)
        clear HM
        obtain ⟨n0, hn0⟩ : ∃ n0, n0 = k := ⟨_, rfl⟩
        have HN0 := Lib.hid hn0
        clear hn0
        go_loopw [6, 7] (fun v i wr => ∃ k' : Nat, k' ≤ k ∧ i = .int .i64 k' ∧ Own wr w2.heap.size v (allOf R k') ∧ HH wr b (allOf R k') ∧ Below w.heap.size w wr ∧ w2.heap.size ≤ wr.heap.size) (fun _ i _ => k - (intOf i).toNat)
        case atStart => exact ⟨0, by omega, rfl, Own.nil_ _ _, HH2.out, HB2.out, Nat.le_refl _⟩
        case round =>
          obtain ⟨q, hq, rfl, hown, hhh, hbel, hsz⟩ := hrel
          have HA := Lib.hid hown
          have HHW := Lib.hid hhh
          have HBW := Lib.hid hbel
          clear hown hhh hbel
          have hall : (allOf R q).length ≤ 6000 := by
            have h1 := allOf_len R L k HK.out HLL.out q hq
            have h2 := minOf_mono L q k hq
            have h3 := HK.out
            omega
          by_cases hlt2 : q < k
          · obtain ⟨x, hx1, hx2, hx3, hx4, hx5⟩ := (HR.out.below HBW.out) q hlt2
            subst hx1
            have hLq : L q ≤ 6000 := row_len L k HK.out q hlt2
            have hall2 : (allOf R (q + 1)).length ≤ 6000 := by
              have h1 := allOf_len R L k HK.out HLL.out (q + 1) hlt2
              have h2 := minOf_mono L (q + 1) k hlt2
              have h3 := HK.out
              omega
            have hz3 : (0 : Int) ≤ (q : Int) := by omega
            have hz6 : (q : Int) < (k : Int) := by omega
            have HX4 := Lib.hid hx4
            have HX5 := Lib.hid hx5
            have HX2 := Lib.hid hx2
            clear hx2 hx4 hx5
            go_wp2_with fail
            refine (copyb_any _ (R q) _ HX5.out (by rw [HX4.out]; omega)).mono ?_
            rintro e w3 ⟨vin, rfl, ho3, hb3⟩
            have hbwr : b < wr.heap.size := by omega
            obtain ⟨Ai, ci, hvi, hci1, hci2, hsrc, g, hgB, hgW⟩ := own_src ho3 hbwr
            rw [HX4.out] at hvi hgW
            subst hvi
            have HH3 := Lib.hid (HHW.out.below hb3 (by omega))
            have HA3 := Lib.hid (HA.out.below hb3)
            have HB3 := Lib.hid (HBW.out.trans (hb3.mono HBW.out.size))
            have hz7 : wr.heap.size ≤ w3.heap.size := hb3.size
            have hwa := write_any b (allOf R q) (R q) Ai ci w3 HH3.out hsrc hci1 hci2 (by rw [HX4.out]; omega)
            rw [HX4.out] at hwa
            have HWA := Lib.hid hwa
            have HGW := Lib.hid hgW
            have HCI := Lib.hid hci2
            clear hwa hsrc hci1 hci2 ho3 hb3 hx3 hgW
            go_wp2_with fail
            refine (HWA.out).mono ?_
            rintro e w4 ⟨rfl, hH4, hg4⟩
            have HH4 := Lib.hid (show HH w4 b (allOf R (q + 1)) from hH4)
            have HA4 := Lib.hid (HA3.out.only hg4 hb2)
            have HB4 := Lib.hid (HB3.out.trans (below_of_only hg4 hbw HB3.out.size))
            have hneg : g ≠ b := by omega
            have hz8 : w3.heap.size ≤ w4.heap.size := hg4.size
            have HW4 := Lib.hid (show 0 < L q → Ai = some ⟨g, 0, none⟩ ∧ Wr w4 g (L q) from fun h0 => ⟨(HGW.out h0).1, (HGW.out h0).2.grown hg4 hneg⟩)
            clear hH4 hg4
            go_wp2_with fail
            go_loopw [9] (fun i wr => ∃ j : Nat, j ≤ L q ∧ i = .int .i64 j ∧ w4.grownBy wr (some g) ∧ (0 < L q → Wr wr g (L q))) (fun i _ => L q - (intOf i).toNat)
            case atStart => exact ⟨0, by omega, rfl, World.grownBy.refl _ _, fun h0 => (HW4.out h0).2⟩
            case round =>
              obtain ⟨j, hj, rfl, hg5, hw5⟩ := hrel
              have HG5 := Lib.hid hg5
              by_cases hlt3 : j < L q
              · have hwr5 := hw5 (by omega)
                have hAi := (HW4.out (by omega)).1
                subst hAi
                obtain ⟨u1, x1, z1⟩ := hwr5.cell j hlt3
                have HW5 := Lib.hid hwr5
                have hz9 : (0 : Int) ≤ (j : Int) := by omega
                have hz10 : (j : Int) < (L q : Int) := by omega
                clear hg5 hw5 hwr5
                go_wp2
                refine ⟨⟨j + 1, by omega, by go_num, only_setCell HG5.out (.inl rfl) _, fun _ => HW5.out.set j _⟩, ?_⟩
                simp [intOf]; omega
              · obtain rfl : j = L q := by omega
                clear hg5 hw5
                have hz11 : w4.heap.size ≤ wr.heap.size := HG5.out.size
                have HB5 := Lib.hid (HB4.out.trans (below_of_only HG5.out (show w.heap.size ≤ g by omega) HB4.out.size))
                have HH5 := Lib.hid (HH4.out.grown HG5.out (Ne.symm hneg))
                have HA5 := Lib.hid (HA.out.apart HA4.out HG5.out hgB)
                obtain ⟨x', hx1, _, hx3, _, hx5⟩ := (HR.out.below HB5.out) q hlt2
                injection hx1 with hx1
                subst hx1
                have hsm : (allOf R q).length + L q ≤ 140737488355328 := by omega
                have hsz2 : w2.heap.size ≤ wr.heap.size := by omega
                have HRD := Lib.hid (row_reads hx5)
                clear hx5
                go_wp2_with (at_builtin; refine append_bytes rfl (.tmp 73) (.tmp 77) rfl _ w2.heap.size u6 (allOf R q) rfl (by exact HA5.out) _ (A q) (L q) (C q) (R q) rfl (by exact HRD.out) hsm (by exact hsz2) ?_; intro v6 w6 ho6 hb6; have HO6 := Lib.hid (show Own w6 w2.heap.size v6 (allOf R (q + 1)) from ho6); have HB6 := Lib.hid (HB5.out.trans (hb6.mono hz2)); have HH6 := Lib.hid (HH5.out.below hb6 hb2); have hz12 := hb6.size; obtain ⟨A6, c6, hv6, _, _⟩ := ho6.length; clear ho6 hb6; rw [show (allOf R q ++ R q) = allOf R (q + 1) from rfl] at hv6; subst hv6)
                obtain ⟨N, hN⟩ : ∃ N, (allOf R (q + 1)).length = N := ⟨_, rfl⟩
                have ho6 := HO6.out
                rw [hN] at ho6 hall2 ⊢
                have HN := Lib.hid hN
                have HP6 := Lib.hid ho6
                have hlen := hlen_any b (allOf R (q + 1)) _ HH6.out
                rw [hN] at hlen
                clear hN ho6 HO6
                refine hlen.mono ?_
                rintro e w7 ⟨rfl, rfl⟩
                clear hlen
                by_cases h3 : q % 4 = 3
                · have t1 : ((q : Int) % 4 == 3) = true := beq_iff_eq.2 (by omega)
                  have t2 : ((q : Int).tmod 4 == 3) = true := by rw [beq_iff_eq, Int.tmod_eq_emod_of_nonneg (by omega)]; omega
                  clear h3
                  go_wp2_with fail
                  refine (hsum_any b (allOf R (q + 1)) _ HH6.out (by rw [HN.out]; omega)).mono ?_
                  rintro e w8 ⟨v8, rfl, ho8, hH8, hg8⟩
                  have HS8 := Lib.hid ho8.sl
                  have HH8 := Lib.hid hH8
                  have HP8 := Lib.hid (HP6.out.only hg8 hb2)
                  have HB8 := Lib.hid (HB6.out.trans (below_of_only hg8 hbw HB6.out.size))
                  have hz13 := hg8.size
                  clear ho8 hH8 hg8
                  go_wp2_with fail
                  refine (rsum_any _ (allOf R (q + 1)) _ HP8.out.sl (by rw [HN.out]; omega)).mono ?_
                  rintro e w9 ⟨v9, rfl, ho9, hb9⟩
                  have HS9 := Lib.hid (HS8.out.below hb9)
                  have HT9 := Lib.hid ho9.sl
                  have HH9 := Lib.hid (HH8.out.below hb9 HH8.out.lt)
                  have HP9 := Lib.hid (HP8.out.below hb9)
                  have HB9 := Lib.hid (HB8.out.trans (hb9.mono HB8.out.size))
                  have hz14 := hb9.size
                  clear ho9 hb9
                  go_wp2_with fail
                  refine (bytes_any v8 v9 (sumOf (allOf R (q + 1))) (sumOf (allOf R (q + 1))) _ HS9.out HT9.out true (by simp)).mono ?_
                  rintro e w10 ⟨rfl, rfl⟩
                  go_wp2_with fail
                  refine ⟨⟨q + 1, by omega, by go_num, HP9.out, HH9.out, HB9.out, by omega⟩, ?_⟩
                  simp [intOf]; omega
                · have t1 : ((q : Int) % 4 == 3) = false := beq_eq_false_iff_ne.2 (by omega)
                  have t2 : ((q : Int).tmod 4 == 3) = false := beq_eq_false_iff_ne.2 (by rw [Int.tmod_eq_emod_of_nonneg (by omega)]; omega)
                  clear h3
                  go_wp2_with fail
                  refine ⟨⟨q + 1, by omega, by go_num, HP6.out, HH6.out, HB6.out, by omega⟩, ?_⟩
                  simp [intOf]; omega
          · obtain rfl : q = k := by omega
            have hqq : (q : Int) ≤ (q : Int) := by omega
            obtain ⟨A6, c6, hv6, _, _⟩ := HA.out.length
            subst hv6
            obtain ⟨N, hN⟩ : ∃ N, (allOf R q).length = N := ⟨_, rfl⟩
            have ho6 := HA.out
            rw [hN] at ho6 hall ⊢
            have HN := Lib.hid hN
            have HP := Lib.hid ho6
            clear hN ho6 HA
            go_wp2_with fail
            refine (first_any _).mono ?_
            rintro e w7 ⟨rfl, hb7⟩
            have HP7 := Lib.hid (HP.out.below hb7)
            have HH7 := Lib.hid (HHW.out.below hb7 HHW.out.lt)
            have HB7 := Lib.hid (HBW.out.trans (hb7.mono HBW.out.size))
            clear hb7
            go_wp2_with fail
            refine (hsum_any b (allOf R q) _ HH7.out (by rw [HN.out]; omega)).mono ?_
            rintro e w8 ⟨v8, rfl, ho8, hH8, hg8⟩
            have HS8 := Lib.hid ho8.sl
            have HH8 := Lib.hid hH8
            have HP8 := Lib.hid (HP7.out.only hg8 hb2)
            have HB8 := Lib.hid (HB7.out.trans (below_of_only hg8 hbw HB7.out.size))
            clear ho8 hH8 hg8
            go_wp2_with fail
            refine (rsum_any _ (allOf R q) _ HP8.out.sl (by rw [HN.out]; omega)).mono ?_
            rintro e w9 ⟨v9, rfl, ho9, hb9⟩
            have HS9 := Lib.hid (HS8.out.below hb9)
            have HT9 := Lib.hid ho9.sl
            have HH9 := Lib.hid (HH8.out.below hb9 HH8.out.lt)
            have HP9 := Lib.hid (HP8.out.below hb9)
            have HB9 := Lib.hid (HB8.out.trans (hb9.mono HB8.out.size))
            clear ho9 hb9
            go_wp2_with fail
            refine (bytes_any v8 v9 (sumOf (allOf R q)) (sumOf (allOf R q)) _ HS9.out HT9.out true (by simp)).mono ?_
            rintro e w10 ⟨rfl, rfl⟩
            go_wp2_with fail
            refine (hsum_any b (allOf R q) _ HH9.out (by rw [HN.out]; omega)).mono ?_
            rintro e w11 ⟨v11, rfl, ho11, hH11, hg11⟩
            have HS11 := Lib.hid ho11.sl
            have HP11 := Lib.hid (HP9.out.only hg11 hb2)
            have HB11 := Lib.hid (HB9.out.trans (below_of_only hg11 hbw HB9.out.size))
            clear ho11 hH11 hg11
            go_wp2_with fail
            refine (ssum_sl _ (allOf R q) _ HP11.out.sl (by rw [HN.out]; omega)).mono ?_
            rintro e w12 ⟨v12, rfl, ho12, hb12⟩
            have HS12 := Lib.hid (HS11.out.below hb12)
            have HT12 := Lib.hid ho12.sl
            have HB12 := Lib.hid (HB11.out.trans (hb12.mono HB11.out.size))
            clear ho12 hb12
            go_wp2_with fail
            refine (bytes_any v11 v12 (sumOf (allOf R q)) (sumOf (allOf R q)) _ HS12.out HT12.out true (by simp)).mono ?_
            rintro e w13 ⟨rfl, rfl⟩
            go_wp2_with fail
            go_ret
            exact ⟨rfl, HB12.out⟩
end Go.Proofs.Ytkceagckgpkfgaa
