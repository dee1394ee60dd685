/- The document's own match. -/
import Derived.Test.YthphplmcojdpeaaDm6
import Derived.Test.YthphplmcojdpeaaDl4
set_option linter.unusedVariables false
set_option linter.unusedSimpArgs false
namespace Go.Proofs.Ythphplmcojdpeaa
open Go.RowKit

set_option maxRecDepth 100000 in
set_option maxHeartbeats 3200000 in
theorem rmatch_any (vb vt : Value) (base target : List UInt8) (k : Nat) (w : World) (hb : Sl w vb base) (ht : Sl w vt target) (hk : k ≤ target.length) (hb20 : base.length ≤ 20000) (ht20 : target.length ≤ 20000) :
    Calls Try.prog 26 #[vb, vt, .int .i64 (k : Int)] w fun e w' => e = .returned (.tuple #[.int .i64 (((bestK base (target.drop k) base.length).1 : Nat) : Int), .int .i64 (((bestK base (target.drop k) base.length).2 : Nat) : Int)]) ∧ Below w.heap.size w w' := by
  obtain ⟨B, cb, rfl, hlb, hcb, hIb⟩ := hb.len
  obtain ⟨T, c, rfl, hl, hcm, hI⟩ := ht.len
  unfold maxLen at hcb hcm
  obtain ⟨bl, hBL⟩ : ∃ l, base.length = l := ⟨_, rfl⟩
  obtain ⟨tl, hTL⟩ : ∃ l, target.length = l := ⟨_, rfl⟩
  rw [hBL] at hlb hb20 ⊢
  rw [hTL] at hl ht20 hk ⊢
  have HBL := Lib.hid hBL
  have HTL := Lib.hid hTL
  have HIB := Lib.hid hIb
  have HIT := Lib.hid hI
  have hk0 : (0 : Int) ≤ (k : Int) := by omega
  have hkt : (k : Int) ≤ (tl : Int) := by omega
  clear hb ht hIb hI hBL hTL
  go_enter Try.func26, Try.ntmps26
  go_wp2_with fail
  go_loopw [8, 9, 10, 11] (fun pl sz i _ wr => ∃ j : Nat, j ≤ bl ∧ i = .int .i64 (j : Int) ∧ pl = .int .i64 (((bestK base (target.drop k) j).1 : Nat) : Int) ∧ sz = .int .i64 (((bestK base (target.drop k) j).2 : Nat) : Int) ∧ Below w.heap.size w wr) (fun _ _ i _ _ => bl - (intOf i).toNat)
  case atStart => exact ⟨0, Nat.zero_le _, rfl, rfl, rfl, Below.refl _ _⟩
  case round =>
    obtain ⟨j, hj, rfl, rfl, rfl, hbw⟩ := hrel
    by_cases hjb : j < bl
    · have hjb2 : (j : Int) < (bl : Int) := by omega
      have hj0 : (0 : Int) ≤ (j : Int) := by omega
      have hle := lcp_le (base.drop j) (target.drop k)
      rw [List.length_drop, List.length_drop, HBL.out, HTL.out] at hle
      have HAT : Hid (∀ i, i < lcp (base.drop j) (target.drop k) → base.getD (j + i) 0 = target.getD (k + i) 0) := fun i hi => by
        have := lcp_at hi
        simpa [List.getD_eq_getElem?_getD, List.getElem?_drop] using this
      have HEN : Hid (lcp (base.drop j) (target.drop k) < bl - j → lcp (base.drop j) (target.drop k) < tl - k → base.getD (j + lcp (base.drop j) (target.drop k)) 0 ≠ target.getD (k + lcp (base.drop j) (target.drop k)) 0) := fun h1 h2 => by
        have := lcp_end (base.drop j) (target.drop k) (by rw [List.length_drop, HBL.out]; exact h1) (by rw [List.length_drop, HTL.out]; exact h2)
        simpa [List.getD_eq_getElem?_getD, List.getElem?_drop] using this
      have HNX : Hid (bestK base (target.drop k) (j + 1) = if (bestK base (target.drop k) j).2 < lcp (base.drop j) (target.drop k) then (j, lcp (base.drop j) (target.drop k)) else bestK base (target.drop k) j) := rfl
      obtain ⟨m, hm⟩ : ∃ m, lcp (base.drop j) (target.drop k) = m := ⟨_, rfl⟩
      rw [hm] at hle HAT HEN HNX
      obtain ⟨r, hr⟩ : ∃ r, bestK base (target.drop k) j = r := ⟨_, rfl⟩
      rw [hr] at HNX ⊢
      obtain ⟨wl, hwl⟩ : ∃ wl, wl = wr := ⟨_, rfl⟩
      subst hwl
      have HBW := Lib.hid hbw
      clear hm hr hbw
      go_wp2_with fail
      go_loopw [11] (fun n wr => ∃ i : Nat, i ≤ m ∧ n = .int .i64 (i : Int) ∧ Below w.heap.size w wr) (fun n _ => bl - (intOf n).toNat)
      case atStart => exact ⟨0, Nat.zero_le _, rfl, HBW.out⟩
      case round =>
        clear HBW
        obtain ⟨i, hi, rfl, hbw⟩ := hrel
        have HBW := Lib.hid hbw
        clear hbw
        obtain ⟨ji, hji⟩ : ∃ x, j + i = x := ⟨_, rfl⟩
        obtain ⟨ki, hki⟩ : ∃ x, k + i = x := ⟨_, rfl⟩
        have e1 : (j : Int) + (i : Int) = (ji : Int) := by omega
        have e2 : (k : Int) + (i : Int) = (ki : Int) := by omega
        have w1 : IntKind.i64.wrap ((j : Int) + (i : Int)) = (ji : Int) := by rw [e1]; exact IntWalk.i64_in _ (by omega)
        have w2 : IntKind.i64.wrap ((k : Int) + (i : Int)) = (ki : Int) := by rw [e2]; exact IntWalk.i64_in _ (by omega)
        have hji0 : (0 : Int) ≤ (ji : Int) := by omega
        have hki0 : (0 : Int) ≤ (ki : Int) := by omega
        have hwb := HBW.out
        go_upto_region 6 with (fail)
        go_cut [46] (fun cx wx => cx = .bool (decide (i < m)) ∧ Below w.heap.size w wx)
        case first =>
          by_cases h1 : ji < bl
          · have h1i : (ji : Int) < (bl : Int) := by omega
            by_cases h2 : ki < tl
            · have h2i : (ki : Int) < (tl : Int) := by omega
              obtain ⟨ab, rfl, hc1⟩ := (HIB.out.below hwb).at_ ji (by rw [HBL.out]; exact h1)
              obtain ⟨at', rfl, hc2⟩ := (HIT.out.below hwb).at_ ki (by rw [HTL.out]; exact h2)
              have HEQ : Hid ((bi (base.getD ji 0) == bi (target.getD ki 0)) = decide (i < m)) := by
                unfold Hid
                by_cases him : i < m
                · have := HAT.out i him
                  rw [hji, hki] at this
                  rw [this, beq_self_eq_true, decide_eq_true him]
                · have e : i = m := by omega
                  have := HEN.out (by omega) (by omega)
                  rw [← e, hji, hki] at this
                  rw [decide_eq_false him, beq_eq_false_iff_ne]
                  exact fun h => this (bi_inj h)
              obtain ⟨x, hx⟩ : ∃ x, bi (base.getD ji 0) = x := ⟨_, rfl⟩
              obtain ⟨y, hy⟩ : ∃ x, bi (target.getD ki 0) = x := ⟨_, rfl⟩
              obtain ⟨q, hq⟩ : ∃ q, decide (i < m) = q := ⟨_, rfl⟩
              rw [hx] at hc1
              rw [hy] at hc2
              rw [hx, hy, hq] at HEQ
              have heq : (x == y) = q := HEQ.out
              have HQ := Lib.hid hq
              clear hx hy hji hki e1 e2 hi hq HEQ
              go_quiet (fail)
              go_wp2_with fail
              go_meet
              exact ⟨by rw [HQ.out], below_drewN HBW.out _⟩
            · have h2i : (tl : Int) ≤ (ki : Int) := by omega
              have d2 : decide (ki < tl) = false := decide_eq_false h2
              have him : decide (i < m) = false := decide_eq_false (by omega)
              have HQ := Lib.hid him
              clear hji hki e1 e2 hi h1 h2 him
              go_quiet (fail)
              go_wp2_with fail
              go_meet
              exact ⟨by rw [HQ.out], below_drewN HBW.out _⟩
          · have h1i : (bl : Int) ≤ (ji : Int) := by omega
            have d1 : decide (ji < bl) = false := decide_eq_false h1
            have him : decide (i < m) = false := decide_eq_false (by omega)
            have HQ := Lib.hid him
            clear hji hki e1 e2 hi h1 him
            go_quiet (fail)
            go_wp2_with fail
            go_meet
            exact ⟨by rw [HQ.out], below_drewN HBW.out _⟩
        case rest =>
          obtain ⟨rfl, hbc⟩ := hcut
          have HBC := Lib.hid hbc
          clear hbc hwb HBW w1 w2 e1 e2 hji hki
          by_cases him : i < m
          · rw [decide_eq_true him]
            have hi0 : (0 : Int) ≤ (i : Int) := by omega
            have hi1 : (i : Int) ≤ 20000 := by omega
            go_wp2_with fail
            go_roundw
            case rel => exact ⟨i + 1, by omega, by go_num, HBC.out⟩
            case measure => simp [intOf]; omega
          · have e : i = m := by omega
            subst e
            rw [decide_eq_false him]
            have hi0 : (0 : Int) ≤ (i : Int) := by omega
            by_cases hsz : r.2 < i
            · have hsz2 : ((r.2 : Nat) : Int) < (i : Int) := by omega
              have hn := HNX.out
              rw [if_pos hsz] at hn
              have HN2 := Lib.hid hn
              obtain ⟨p, q⟩ := r
              clear him hi hn hsz
              go_wp2_with fail
              go_roundw
              case rel => exact ⟨j + 1, by omega, by go_num, by rw [HN2.out], by rw [HN2.out], HBC.out⟩
              case measure => simp [intOf]; omega
            · have hsz2 : (i : Int) ≤ ((r.2 : Nat) : Int) := by omega
              have hn := HNX.out
              rw [if_neg hsz] at hn
              have HN2 := Lib.hid hn
              obtain ⟨p, q⟩ := r
              clear him hi hn hsz
              go_wp2_with fail
              go_roundw
              case rel => exact ⟨j + 1, by omega, by go_num, by rw [HN2.out], by rw [HN2.out], HBC.out⟩
              case measure => simp [intOf]; omega
    · obtain rfl : j = bl := by omega
      have hjj : ¬ (j : Int) < (j : Int) := by omega
      obtain ⟨r, hr⟩ : ∃ r, bestK base (target.drop k) j = r := ⟨_, rfl⟩
      rw [hr]
      have HRR := Lib.hid hr
      have HBW := Lib.hid hbw
      clear hr hbw hjb
      go_wp2_with fail
      go_ret2
      exact ⟨by rw [HRR.out]; rfl, HBW.out⟩
end Go.Proofs.Ythphplmcojdpeaa
