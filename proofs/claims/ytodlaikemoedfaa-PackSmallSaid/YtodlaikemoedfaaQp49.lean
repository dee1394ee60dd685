/- Texts put together: YPkS. -/
import Derived.Test.YtodlaikemoedfaaQp47
import Derived.Test.YtodlaikemoedfaaQp48
/- The walk of PackSmall. -/
set_option linter.unusedVariables false
set_option linter.unusedSimpArgs false
namespace Go.Proofs.Ytodlaikemoedfaa.Ob
open Go.RowKit Go.Proofs.Ytodlaikemoedfaa.Sh
open Go.Proofs.Ytodlaikemoedfaa.Tx (Shape InL TmpL OwnL Typed Only By Rd Datas list_appendL step_appendL)

theorem sumN_le (l : List (List UInt8)) (h : ∀ o ∈ l, o.length ≤ 1500) : ∀ i, i ≤ l.length → sumN l i ≤ 1500 * i
  | 0 => fun _ => Nat.le_refl _
  | i + 1 => fun hi => by
    have h1 := sumN_le l h i (by omega)
    have h2 : (l.getD i []).length ≤ 1500 := h _ (by rw [List.getD_eq_getElem?_getD, List.getElem?_eq_getElem (by omega)]; exact List.getElem_mem _)
    show sumN l i + (l.getD i []).length ≤ _
    omega
set_option maxRecDepth 100000 in
set_option maxHeartbeats 6400000 in
theorem small_any (v : Value) (l : List (List UInt8)) (a : Int) (w : World) (h : LsV w v l) : Calls Try.prog 3 #[v, .int .i64 a] w (YesP w) := by
  have HFW := Lib.hid (fun W (hW : Below w.heap.size w W) => pfew_any v l W (h.below hW))
  have HWR := Lib.hid (fun W (hW : Below w.heap.size w W) (hl : l.length ≤ 40) => write_any v l W (h.below hW) (by omega))
  have HWS := Lib.hid (fun (W : World) (v2 : Value) (l2 : List (List UInt8)) (hv : LsV W v2 l2) (hl : l2.length ≤ 20) => write_any v2 l2 W hv (by omega))
  have HL := Lib.hid h
  obtain ⟨A, c, rfl, hlc, hcm⟩ := h.slice
  unfold maxLen at hcm
  obtain ⟨n, hn⟩ : ∃ n, l.length = n := ⟨_, rfl⟩
  rw [hn] at HFW HWR HL hlc ⊢
  have HN := Lib.hid hn
  clear h hn
  go_enter Try.func3, Try.ntmps3
  go_wp2_with fail
  refine (first_any w).mono ?_
  rintro e w1 ⟨rfl, hb1⟩
  have HB1 := Lib.hid hb1
  clear hb1
  go_wp2_with fail
  refine (HFW.out w1 HB1.out).mono ?_
  rintro e w2 ⟨t, rfl, htf, hb2⟩
  have HB2 := Lib.hid (HB1.out.trans (hb2.mono HB1.out.size))
  have HTF := Lib.hid htf
  clear hb2 htf
  by_cases hgood : t = true ∧ 1 ≤ a ∧ a ≤ 20
  · obtain ⟨rfl, ha1, ha20⟩ := hgood
    obtain ⟨h40, h15⟩ := HTF.out rfl
    have H15 := Lib.hid h15
    rw [HN.out] at h40
    obtain ⟨m, hm⟩ : ∃ m : Nat, a = (m : Int) := ⟨a.toNat, by omega⟩
    subst hm
    have hm1 : 1 ≤ m := by omega
    have hm20 : m ≤ 20 := by omega
    clear h15
    go_wp2_with fail
    refine (HWR.out w2 HB2.out h40).mono ?_
    rintro e w3 ⟨A3, m3, c3, rfl, hb3, ho3⟩
    have HB3 := Lib.hid (HB2.out.trans (hb3.mono HB2.out.size))
    obtain ⟨r, hr⟩ : ∃ r, (writeP l).1 = r := ⟨_, rfl⟩
    obtain ⟨W, hW⟩ : ∃ W, (writeP l).2 = W := ⟨_, rfl⟩
    rw [hr]
    rw [hW] at ho3
    have e9 : m3 = W.length := by
      obtain ⟨_, _, e, _⟩ := ho3.length
      injection e
    subst e9
    clear hb3
    by_cases hr0 : r = 0
    · subst hr0
      have hcs : (∀ o ∈ l, o.length ≤ 20000) ∧ (∀ o ∈ l, decB o = true) ∧ W = (writesP l l.length).1 ++ sumOf (writesP l l.length).1 := by
        rcases write_cases l with ⟨_, e⟩ | ⟨_, _, e⟩ | ⟨_, _, _, e⟩ | ⟨_, g2, g3, e⟩
        · rw [e] at hr; exact absurd hr (by decide)
        · rw [e] at hr; exact absurd hr (by decide)
        · rw [e] at hr; exact absurd hr (by decide)
        · exact ⟨g2, g3, by rw [← hW, e]⟩
      obtain ⟨g2, g3, hWe⟩ := hcs
      have hs1 := small_one l H15.out (by rw [HN.out]; exact h40)
      rw [← hWe, HN.out] at hs1
      have HG3 := Lib.hid g3
      obtain ⟨wl, hwl⟩ : ∃ x, W.length = x := ⟨_, rfl⟩
      rw [hwl] at hs1 ⊢
      have HSN := Lib.hid (sumN_le l H15.out)
      have hsn := HSN.out n (by rw [HN.out]; exact Nat.le_refl _)
      have HS1 := Lib.hid hs1
      have hwl0 : wl ≤ 200000 := by omega
      clear hr hW hwl g2 g3 hWe ho3 hs1 hsn
      go_wp2_with fail
      go_loopw [7, 8] (fun s x wr => ∃ (i : Nat), i ≤ n ∧ x = .int .i64 (i : Int) ∧ s = .int .i64 ((37 + 4 * n + sumN l i : Nat) : Int) ∧ w3 = wr) (fun _ x _ => n - (intOf x).toNat)
      case atStart => exact ⟨0, Nat.zero_le _, rfl, by show _ = Value.int .i64 ((37 + 4 * n + 0 : Nat) : Int); go_num, rfl⟩
      case round =>
        obtain ⟨i, hi, rfl, rfl, rfl⟩ := hrel
        have z0 : (0 : Int) ≤ (i : Int) := by omega
        by_cases hlt : i < n
        · have z1 : (i : Int) < (n : Int) := by omega
          have hgi : l[i]? = some (l.getD i []) := by rw [List.getD_eq_getElem?_getD, List.getElem?_eq_getElem (by rw [HN.out]; exact hlt)]; rfl
          obtain ⟨al, A7, c7, rfl, y0, _, _, _⟩ := (HL.out.below HB3.out).at_ i _ hgi
          have hol : (l.getD i []).length ≤ 1500 := H15.out _ (List.mem_of_getElem? hgi)
          have hsum := HSN.out i (by rw [HN.out]; exact hi)
          have hnx : sumN l (i + 1) = sumN l i + (l.getD i []).length := rfl
          obtain ⟨ol, ho⟩ : ∃ o, (l.getD i []).length = o := ⟨_, rfl⟩
          rw [ho] at y0 hol hnx
          obtain ⟨si, hsi⟩ : ∃ q, sumN l i = q := ⟨_, rfl⟩
          rw [hsi] at hsum hnx ⊢
          have HNX := Lib.hid hnx
          clear hgi ho hsi hnx
          go_wp2_with fail
          go_roundw
          case rel => exact ⟨i + 1, by omega, by go_num, by rw [HNX.out]; go_num, by first | rfl | trivial⟩
          case measure => simp [intOf]; omega
        · obtain rfl : i = n := by omega
          have z2 : (wl : Int) ≤ ((37 + 4 * i + sumN l i : Nat) : Int) := by have := HS1.out; omega
          obtain ⟨tot, htot⟩ : ∃ q, 37 + 4 * i + sumN l i = q := ⟨_, rfl⟩
          rw [htot] at z2 ⊢
          have zN : decide (tot < wl) = false := by rw [decide_eq_false_iff_not]; omega
          clear htot hlt
          by_cases hn0 : i = 0
          · have z3 : ((i : Int) == 0) = true := by rw [beq_iff_eq]; omega
            have HN0 := Lib.hid hn0
            clear hn0
            go_wp2_with fail
            refine (first_then HB3.out HB3.out.size).mono ?_
            rintro e w4 ⟨rfl, hb4⟩
            have HB4 := Lib.hid hb4
            clear hb4
            go_wp2_with fail
            go_ret
            exact ⟨rfl, HB4.out⟩
          · have z3 : ((i : Int) == 0) = false := by rw [beq_eq_false_iff_ne]; omega
            have z4 : (0 : Int) < (i : Int) := by omega
            have hg0 : l[0]? = some (l.getD 0 []) := by rw [List.getD_eq_getElem?_getD, List.getElem?_eq_getElem (by rw [HN.out]; omega)]; rfl
            obtain ⟨al, A7, c7, rfl, y0, _, _, hs7⟩ := (HL.out.below HB3.out).at_ 0 _ hg0
            rw [show al.add 0 = al from by simp [Addr.add]] at y0
            have hol : (l.getD 0 []).length ≤ 1500 := H15.out _ (List.mem_of_getElem? hg0)
            have hdo := HG3.out _ (List.mem_of_getElem? hg0)
            obtain ⟨o, ho⟩ : ∃ o, l.getD 0 [] = o := ⟨_, rfl⟩
            rw [ho] at y0 hs7 hol hdo
            have HDO := Lib.hid hdo
            have HS7 := Lib.hid (sl_by hs7)
            obtain ⟨ol, hol2⟩ : ∃ x, o.length = x := ⟨_, rfl⟩
            rw [hol2] at y0 hol HS7
            have HOL := Lib.hid hol2
            have HN0 := Lib.hid hn0
            clear hg0 ho hs7 hdo hol2 hn0
            by_cases h20 : ol < 20
            · have z5 : (ol : Int) < 20 := by omega
              go_wp2_with fail
              refine (first_then HB3.out HB3.out.size).mono ?_
              rintro e w4 ⟨rfl, hb4⟩
              have HB4 := Lib.hid hb4
              clear hb4
              go_wp2_with fail
              go_ret
              exact ⟨rfl, HB4.out⟩
            · have z5 : (20 : Int) ≤ (ol : Int) := by omega
              have hln := small_same o (by rw [HOL.out]; omega) (by rw [HOL.out]; exact hol) m (by omega) hm20
              have hwo : writeP (List.replicate m o) = (0, (writesP (List.replicate m o) m).1 ++ sumOf (writesP (List.replicate m o) m).1) := by
                have h9 := write_ok (l := List.replicate m o) (by rw [List.length_replicate]; omega) (fun x hx => by rw [(List.mem_replicate.1 hx).2, HOL.out]; omega) (fun x hx => by rw [(List.mem_replicate.1 hx).2]; exact HDO.out)
                rwa [List.length_replicate] at h9
              obtain ⟨V, hV⟩ : ∃ V, (writesP (List.replicate m o) m).1 ++ sumOf (writesP (List.replicate m o) m).1 = V := ⟨_, rfl⟩
              rw [hV] at hln hwo
              rw [HOL.out] at hln
              have HWO := Lib.hid hwo
              obtain ⟨q, hq⟩ : ∃ q, (m + 8) / 9 = q := ⟨_, rfl⟩
              rw [hq] at hln
              have hq1 : ((m : Int) + 8).tdiv 9 = (q : Int) := by
                rw [← hq, show ((m : Int) + 8) = ((m + 8 : Nat) : Int) from by omega]
                rfl
              have hq2 : ((m : Int) + 8) / 9 = (q : Int) := by omega
              obtain ⟨pr, hpr⟩ : ∃ x, (ol + 4) * q = x := ⟨_, rfl⟩
              rw [hpr] at hln
              have hq3 : q ≤ 3 := by omega
              have hpb : pr ≤ 5000 := by
                rw [← hpr]
                exact Nat.le_trans (Nat.mul_le_mul (by omega : ol + 4 ≤ 1504) hq3) (by decide)
              have hpi : ((ol : Int) + 4) * (q : Int) = (pr : Int) := by rw [← hpr, show ((ol : Int) + 4) = ((ol + 4 : Nat) : Int) from by omega, ← Int.natCast_mul]
              have HLNV := Lib.hid hln
              have HOB : Hid (By (fun k => k < w3.heap.size) w3 (.slice A7 ol c7) o) := HS7.out
              have hm1i : (1 : Int) ≤ (m : Int) := by omega
              clear hln hwo hV hq hpr h20
              go_wp2_with fail
              go_loopw [9, 10] (fun v9 x wr => ∃ (i : Nat), i ≤ m ∧ x = .int .i64 (i : Int) ∧ Below w3.heap.size w3 wr ∧ OwnL lstK 25 (fun k => k < w3.heap.size) wr w3.heap.size v9 (List.replicate i o)) (fun _ x _ => m - (intOf x).toNat)
              case atStart => exact ⟨0, Nat.zero_le _, rfl, Below.refl _ _, OwnL.nil_ lstK _ _ _ _⟩
              case round =>
                obtain ⟨k, hk, rfl, hb, hown⟩ := hrel
                have HB := Lib.hid hb
                obtain ⟨A9, c9, hv9, hl9, hm9⟩ := TmpL.slice (K := lstK) hown.tmp
                have hli : (List.replicate k o).length = k := List.length_replicate
                have hv8 : (Value.slice A9 (List.replicate k o).length c9) = .slice A9 k c9 := congrArg (fun m => Value.slice A9 m c9) hli
                have hv9' := hv9.trans hv8
                clear hv9 hv8
                subst hv9'
                have HO := Lib.hid hown
                have y1 := (HB.out.cell (World.block_lt_of_cell? w3 _ y0)).trans y0
                clear hb hown
                have z6 : (0 : Int) ≤ (k : Int) := by omega
                by_cases hlt : k < m
                · have z7 : (k : Int) < (m : Int) := by omega
                  have hzr := HB.out.size
                  have HOA : Hid (OwnL lstK 25 (fun k => k < w3.heap.size) (wr.alloc (.cells #[.slice A7 ol c7] 25)) w3.heap.size (.slice A9 k c9) (List.replicate k o)) := HO.out.alloc _
                  have HTA : Hid (TmpL lstK (fun k => k < w3.heap.size) (wr.alloc (.cells #[.slice A7 ol c7] 25)) (.slice (some ⟨wr.heap.size, 0, none⟩) 1 1) [o]) :=
                    TmpL.one (K := lstK) (a := o) (d := .slice A7 ol c7) (Blk.new _ 25 #[.slice A7 ol c7]) rfl (HOB.out.only (Only.of_below (M := fun _ => False) (HB.out.alloc hzr _)) (fun _ _ h9 => h9))
                  have s1 : Hid ((List.replicate k o).length + [o].length ≤ 2000000) := by unfold Hid; rw [hli]; simp; omega
                  have HZ : Hid (w3.heap.size ≤ (wr.alloc (.cells #[.slice A7 ol c7] 25)).heap.size) := by unfold Hid; simp; omega
                  have HBB : Hid (Below w3.heap.size w3 (wr.alloc (.cells #[.slice A7 ol c7] 25))) := HB.out.alloc hzr _
                  have HOL9 : Hid (∀ j, (Value.slice A9 k c9).ownBlock = some j → w3.heap.size ≤ j) := fun j hj => (HO.out.lt j hj).1
                  have hrep : List.replicate (k + 1) o = List.replicate k o ++ [o] := by rw [List.replicate_succ']
                  have HRP := Lib.hid hrep
                  have HLT := Lib.hid hlt
                  clear hli hrep hlt hl9 hm9
                  go_wp2_with (at_builtin; refine list_appendL typed_lst (v := .slice A9 k c9) (ex := .slice (some ⟨wr.heap.size, 0, none⟩) 1 1) (l2 := [o]) rfl (.tmp 72) (.tmp 76) rfl (by exact HOA.out) (by exact HTA.out) (by rfl) (by rfl) s1.out (by exact HZ.out) (by intro j hj; exact Nat.lt_of_lt_of_le hj HZ.out) ?_; intro v5 w5 ho5 hg5 hk5; have HO5 := Lib.hid ho5; have HG5 := Lib.hid hg5; clear ho5 hg5 hk5)
                  go_roundw
                  case rel => first | exact ⟨k + 1, by have := HLT.out; omega, by go_num, HBB.out.grown HG5.out HZ.out (fun j hj => HOL9.out j hj), Eq.mpr (congrArg (fun L : List (List UInt8) => OwnL lstK 25 (fun k => k < w3.heap.size) w5 w3.heap.size v5 L) HRP.out) HO5.out⟩ | exact ⟨_, .int .i64 ((k : Int) + 1), _, _, _, _, _, _, _, _, _, _, _, ⟨k + 1, by have := HLT.out; omega, by go_num, HBB.out.grown HG5.out HZ.out (fun j hj => HOL9.out j hj), Eq.mpr (congrArg (fun L : List (List UInt8) => OwnL lstK 25 (fun k => k < w3.heap.size) w5 w3.heap.size v5 L) HRP.out) HO5.out⟩, rfl⟩
                  case measure => have := HLT.out; simp [intOf]; omega
                · obtain rfl : k = m := by omega
                  have HLS : Hid (LsV wr (.slice A9 k c9) (List.replicate k o)) := by
                    obtain ⟨ds, h1, h2⟩ := HO.out.tmp
                    exact ⟨ds, h1, h2.mono (fun _ _ _ => trivial)⟩
                  have HBW := Lib.hid (HB3.out.trans (HB.out.mono HB3.out.size))
                  clear hli hlt hl9 hm9
                  go_wp2_with fail
                  refine (HWS.out wr _ _ HLS.out (by rw [List.length_replicate]; exact hm20)).mono ?_
                  rintro e w6 ⟨A6, m6, c6, rfl, hb6, ho6⟩
                  rw [HWO.out] at ho6
                  rw [HWO.out]
                  have e6 : m6 = V.length := by
                    obtain ⟨_, _, e, _⟩ := ho6.length
                    injection e
                  subst e6
                  obtain ⟨vl, hvl⟩ : ∃ x, V.length = x := ⟨_, rfl⟩
                  have z8 : (vl : Int) ≤ 37 + (pr : Int) + 12 * (k : Int) := by have := HLNV.out; omega
                  rw [hvl]
                  have HB6 := Lib.hid (HBW.out.trans (hb6.mono HBW.out.size))
                  have y2 := (hb6.cell (World.block_lt_of_cell? wr _ y1)).trans y1
                  have hpi2 := hpi
                  clear hb6 ho6 hvl y0 y1
                  go_wp2_with fail
                  refine (first_any w6).mono ?_
                  rintro e w7 ⟨rfl, hb7⟩
                  have HB7 := Lib.hid (HB6.out.trans (hb7.mono HB6.out.size))
                  have y3 := (hb7.cell (World.block_lt_of_cell? w6 _ y2)).trans y2
                  clear hb7 y2
                  go_wp2_with fail
                  go_ret
                  exact ⟨rfl, HB7.out⟩
    · have z : (r != 0) = true := by rw [bne_iff_ne]; exact hr0
      clear hr hW ho3 hr0
      go_wp2_with fail
      refine (first_then HB3.out HB3.out.size).mono ?_
      rintro e w4 ⟨rfl, hb4⟩
      have HB4 := Lib.hid hb4
      clear hb4
      go_wp2_with fail
      go_ret
      exact ⟨rfl, HB4.out⟩
  · cases t with
    | false =>
      go_wp2_with fail
      refine (first_then HB2.out HB2.out.size).mono ?_
      rintro e w3 ⟨rfl, hb3⟩
      have HB3 := Lib.hid hb3
      clear hb3
      go_wp2_with fail
      go_ret
      exact ⟨rfl, HB3.out⟩
    | true =>
      by_cases ha : a < 1
      · go_wp2_with fail
        refine (first_then HB2.out HB2.out.size).mono ?_
        rintro e w3 ⟨rfl, hb3⟩
        have HB3 := Lib.hid hb3
        clear hb3
        go_wp2_with fail
        go_ret
        exact ⟨rfl, HB3.out⟩
      · have ha20 : 20 < a := by
          rcases Int.lt_or_le 20 a with h9 | h9
          · exact h9
          · exact absurd ⟨rfl, by omega, h9⟩ hgood
        have ha1 : 1 ≤ a := by omega
        clear ha hgood
        go_wp2_with fail
        refine (first_then HB2.out HB2.out.size).mono ?_
        rintro e w3 ⟨rfl, hb3⟩
        have HB3 := Lib.hid hb3
        clear hb3
        go_wp2_with fail
        go_ret
        exact ⟨rfl, HB3.out⟩
end Go.Proofs.Ytodlaikemoedfaa.Ob
