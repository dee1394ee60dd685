/- Texts put together: Ob5. -/
import Derived.Test.YtcmlofgkcalhnaaQo22
import Derived.Test.YtcmlofgkcalhnaaQo23
/- obj: mayItems. -/
namespace Go.Proofs.Ytcmlofgkcalhnaa.Ob
open Go.RowKit Go.Proofs.Ytcmlofgkcalhnaa.Sh
open Go.Proofs.Ytcmlofgkcalhnaa.Tx (OwnV SlV sv bl nameB reads_at texts_at toList_ne')

def dI : ItM := (0, [], [])
def itB (x : ItM) : Bool := decide (1 ≤ x.1) && decide (x.1 ≤ 4) && nameB x.2.1 && validB x.2.2
def itemJ (l : List ItM) (j : Nat) : Bool := itB (l.getD j dI) && (decide (j = 0) || bl (l.getD (j - 1) dI).2.1 (l.getD j dI).2.1)
def itemsB (l : List ItM) : Bool := decide (l.length ≤ 256) && (List.range l.length).all (itemJ l)
set_option maxRecDepth 100000 in
set_option maxHeartbeats 1600000 in
theorem items_any (v : Value) (ls : List ItM) (w : World) (h : SlI w v ls) : Calls Try.prog 66 #[v] w (BoolPost w (itemsB ls)) := by
  obtain ⟨A, c, rfl, hlc, hcm, _, hR⟩ := h
  have HR := Lib.hid hR
  unfold maxLen at hcm
  obtain ⟨l, hL⟩ : ∃ l, ls.length = l := ⟨_, rfl⟩
  obtain ⟨t, ht⟩ : ∃ t, itemsB ls = t := ⟨_, rfl⟩
  rw [ht]
  unfold itemsB at ht
  rw [hL] at hlc ht ⊢
  have HL := Lib.hid hL
  have HT := Lib.hid ht
  clear hL ht hR
  by_cases h2 : 256 < l
  · have htt : t = false := by
      rw [← HT.out]
      simp [show ¬ (l ≤ 256) from by omega]
    subst htt
    have l2 : (256 : Int) < (l : Int) := by omega
    clear h2
    go_enter Try.func66, Try.ntmps66
    go_wp2
    go_ret
    exact ⟨rfl, Below.refl _ _⟩
  · have l2 : (l : Int) ≤ 256 := by omega
    have HN := Lib.hid h2
    clear h2
    go_enter Try.func66, Try.ntmps66
    go_wp2
    go_loopw [10] (fun i wr => ∃ k : Nat, k ≤ l ∧ i = .int .i64 k ∧ Below w.heap.size w wr ∧ (List.range k).all (itemJ ls) = true) (fun i _ => l - (intOf i).toNat)
    case atStart => exact ⟨0, by omega, rfl, Below.refl _ _, rfl⟩
    case round =>
      obtain ⟨k, hk, rfl, hb, hok⟩ := hrel
      have HB := Lib.hid hb
      have HOK := Lib.hid hok
      clear hb hok
      have k0 : (0 : Int) ≤ (k : Int) := by omega
      by_cases hlt : k < l
      · have k1 : (k : Int) < (l : Int) := by omega
        have hkl : k < ls.length := by rw [HL.out]; exact hlt
        obtain ⟨x, hx⟩ : ∃ x, ls[k] = x := ⟨_, rfl⟩
        obtain ⟨ad, rfl, c0, c1, c2⟩ := items_at (HR.out.below HB.out) rfl k x (by rw [List.getElem?_eq_getElem hkl, hx])
        have HX : Hid (ls.getD k dI = x) := by unfold Hid; rw [List.getD_eq_getElem?_getD, List.getElem?_eq_getElem hkl, ← hx]; rfl
        clear hx hkl
        obtain ⟨m, nm, id⟩ := x
        replace c0 : wr.cell? (ad.add (k * 3)) = some (.int .i64 m) := c0
        replace c1 : wr.cell? ⟨(ad.add (k * 3)).block, (ad.add (k * 3)).off + 1, none⟩ = some (.string (str nm)) := c1
        replace c2 : wr.cell? ⟨(ad.add (k * 3)).block, (ad.add (k * 3)).off + 2, none⟩ = some (.string (str id)) := c2
        have HW : Hid (Below w.heap.size w (wr.alloc (.cells #[.int .i64 m, .string (str nm), .string (str id)] 55))) := HB.out.alloc HB.out.size _
        by_cases m1 : m < 1
        · have htt : t = false := by
            rw [← HT.out, all_bad hlt (by unfold itemJ itB; rw [HX.out]; simp [show ¬ (1 ≤ m) from by omega])]
            simp
          subst htt
          go_wp2_with fail
          go_ret
          exact ⟨rfl, HW.out⟩
        · have m1' : 1 ≤ m := by omega
          clear m1
          by_cases m2 : 4 < m
          · have htt : t = false := by
              rw [← HT.out, all_bad hlt (by unfold itemJ itB; rw [HX.out]; simp [show ¬ (m ≤ 4) from by omega])]
              simp
            subst htt
            go_wp2_with fail
            go_ret
            exact ⟨rfl, HW.out⟩
          · have m2' : m ≤ 4 := by omega
            clear m2
            obtain ⟨b, hb⟩ : ∃ b, nameB nm = b := ⟨_, rfl⟩
            have HBN := Lib.hid hb
            clear hb
            cases b with
            | false =>
              have htt : t = false := by
                rw [← HT.out, all_bad hlt (by unfold itemJ itB; rw [HX.out]; simp [HBN.out])]
                simp
              subst htt
              go_wp2_with fail
              refine (name_all nm _).mono ?_
              rw [HBN.out]
              rintro e w' ⟨rfl, rfl⟩
              go_wp2_with fail
              go_ret
              exact ⟨rfl, HW.out⟩
            | true =>
              obtain ⟨b, hb⟩ : ∃ b, validB id = b := ⟨_, rfl⟩
              have HBV := Lib.hid hb
              clear hb
              cases b with
              | false =>
                have htt : t = false := by
                  rw [← HT.out, all_bad hlt (by unfold itemJ itB; rw [HX.out]; simp [HBV.out])]
                  simp
                subst htt
                go_wp2_with fail
                refine (name_all nm _).mono ?_
                rw [HBN.out]
                rintro e w' ⟨rfl, rfl⟩
                go_wp2_with fail
                refine (valid_all id _).mono ?_
                rw [HBV.out]
                rintro e w' ⟨rfl, rfl⟩
                go_wp2_with fail
                go_ret
                exact ⟨rfl, HW.out⟩
              | true =>
                have HI : Hid (itB (m, nm, id) = true) := by
                  unfold Hid itB
                  simp [m1', m2', HBN.out, HBV.out]
                rcases Nat.eq_zero_or_pos k with h0 | h0
                · have HO := Lib.hid (all_next HOK.out (show itemJ ls k = true from by unfold itemJ; rw [HX.out, HI.out]; simp [h0]))
                  have kz : decide (0 < k) = false := by rw [h0]; rfl
                  clear h0
                  go_wp2_with fail
                  refine (name_all nm _).mono ?_
                  rw [HBN.out]
                  rintro e w' ⟨rfl, rfl⟩
                  go_wp2_with fail
                  refine (valid_all id _).mono ?_
                  rw [HBV.out]
                  rintro e w' ⟨rfl, rfl⟩
                  go_wp2_with fail
                  go_quiet (fail)
                  go_wp2_with fail
                  go_roundw
                  case rel => exact ⟨k + 1, by omega, by go_num, below_drewN HW.out _, HO.out⟩
                  case measure => simp [intOf]; omega
                · obtain ⟨j, hj⟩ : ∃ j, k = j + 1 := ⟨k - 1, by omega⟩
                  have hkj : (k : Int) - 1 = (j : Int) := by omega
                  have hwj : IntKind.i64.wrap ((k : Int) - 1) = (j : Int) := by rw [IntKind.wrap_i64]; omega
                  have kp : (0 : Int) < (k : Int) := by omega
                  have kd : decide (0 < k) = true := decide_eq_true h0
                  have hjl : j < ls.length := by rw [HL.out]; omega
                  obtain ⟨y, hy⟩ : ∃ y, ls[j] = y := ⟨_, rfl⟩
                  obtain ⟨ad', had, d0, d1, d2⟩ := items_at (HR.out.below HW.out) rfl j y (by rw [List.getElem?_eq_getElem hjl, hy])
                  injection had with had
                  subst had
                  have HY : Hid (ls.getD j dI = y) := by unfold Hid; rw [List.getD_eq_getElem?_getD, List.getElem?_eq_getElem hjl, ← hy]; rfl
                  clear hy hjl d0 d2
                  obtain ⟨y0, yn, yi⟩ := y
                  replace d1 : (wr.alloc (.cells #[.int .i64 m, .string (str nm), .string (str id)] 55)).cell? ⟨(ad.add (j * 3)).block, (ad.add (j * 3)).off + 1, none⟩ = some (.string (str yn)) := d1
                  obtain ⟨r, hr⟩ : ∃ r, Op.bytesLess (str yn).toList (str nm).toList = r := ⟨_, rfl⟩
                  have hr' : bl yn nm = r := by rw [str_toList, str_toList] at hr; exact hr
                  have j0 : (0 : Int) ≤ (j : Int) := by omega
                  have j1 : (j : Int) < (l : Int) := by omega
                  have hf : itemJ ls k = r := by
                    unfold itemJ
                    rw [HX.out, HI.out, show k - 1 = j from by omega, HY.out]
                    simp [show k ≠ 0 from by omega, hr']
                  have HF := Lib.hid hf
                  clear hf h0 hr' hj
                  cases r with
                  | false =>
                    have htt : t = false := by
                      rw [← HT.out, all_bad hlt HF.out]
                      simp
                    subst htt
                    go_wp2_with fail
                    refine (name_all nm _).mono ?_
                    rw [HBN.out]
                    rintro e w' ⟨rfl, rfl⟩
                    go_wp2_with fail
                    refine (valid_all id _).mono ?_
                    rw [HBV.out]
                    rintro e w' ⟨rfl, rfl⟩
                    go_wp2_with fail
                    go_quiet (fail)
                    go_wp2_with fail
                    go_ret
                    exact ⟨rfl, below_drewN HW.out _⟩
                  | true =>
                    have HO := Lib.hid (all_next HOK.out HF.out)
                    go_wp2_with fail
                    refine (name_all nm _).mono ?_
                    rw [HBN.out]
                    rintro e w' ⟨rfl, rfl⟩
                    go_wp2_with fail
                    refine (valid_all id _).mono ?_
                    rw [HBV.out]
                    rintro e w' ⟨rfl, rfl⟩
                    go_wp2_with fail
                    go_quiet (fail)
                    go_wp2_with fail
                    go_roundw
                    case rel => exact ⟨k + 1, by omega, by go_num, below_drewN HW.out _, HO.out⟩
                    case measure => simp [intOf]; omega
      · obtain rfl : k = l := by omega
        have htt : t = true := by
          rw [← HT.out, HOK.out]
          simp
          omega
        subst htt
        go_wp2
        go_ret
        exact ⟨rfl, HB.out⟩
end Go.Proofs.Ytcmlofgkcalhnaa.Ob
