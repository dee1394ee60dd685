/- Texts put together: Fx14. -/
import Derived.Test.YtfmlnodhbojdpaaGreatQc19
/- The reference's file system: Move. -/
namespace Go.Proofs.YtfmlnodhbojdpaaGreat.Tx
open Go.RowKit Go.Proofs.YtfmlnodhbojdpaaGreat.Sh

/-- Ready for a call. -/
structure Ready (st : FSM) (N : Nat) : Prop where
  fits : Fits st N
  big : N + 2 * st.plan.length ≤ 800000
  calls : 0 ≤ st.calls ∧ st.calls ≤ 4000000000000
  paths : ∀ e ∈ st.plan, e.path.length ≤ 1000000
/-- What follows of it for what a call finds when its events are done. -/
structure Small (s : FSM) : Prop where
  now : s.now.length ≤ 900000
  pending : s.pending.length ≤ 900000
  sure : s.sure.length ≤ 900000
  user : s.user.length ≤ 900000
  time : 0 ≤ s.time ∧ s.time ≤ 4000000000000
  used : usedM s.now ≤ 4000000000000
  nrow : ∀ r ∈ s.now, r.path.length ≤ 1000000
  ndat : ∀ r ∈ s.now, r.f.data.length ≤ 1000000
  both : s.sure.length + s.pending.length ≤ 900000
  prow : ∀ o ∈ s.pending, o.f.data.length ≤ 1000000
theorem Fits.small {s : FSM} {N : Nat} (h : Fits s N) (hN : N ≤ 900000) : Small s :=
  ⟨Nat.le_trans h.now hN, by have := h.both; omega, by have := h.both; omega, Nat.le_trans h.user hN, ⟨h.time0, by have := h.time; omega⟩, h.used (by omega), fun r hr => by have := (h.nrow r hr).1; omega, fun r hr => by have := (h.nrow r hr).2; omega, by have := h.both; omega, fun o ho => by have := (h.prow o ho).2; omega⟩
theorem Ready.begun {st : FSM} {N : Nat} (h : Ready st N) : Fits (beginM st).st (N + 2 * st.plan.length) := h.fits.beg _
theorem Ready.small {st : FSM} {N : Nat} (h : Ready st N) : Small (beginM st).st := h.begun.small (by have := h.big; omega)

def moveE0 (s : FSM) (fr tt : List UInt8) (only : Bool) : Int :=
  if pathB fr = false ∨ pathB tt = false then 6
  else if (findM s.now fr).isNone = true then 7
  else if only = true ∧ (findM s.now tt).isSome = true then 8
  else if fr = tt then 0
  else if (findM s.now tt).isNone = true ∧ mayM (withoutM s.now fr) tt = false then 9
  else 0
def moveM0 (s : FSM) (fr tt : List UInt8) (only : Bool) : FSM := if moveE0 s fr tt only = 0 ∧ fr ≠ tt then changeM s ⟨2, fr, tt, ⟨0, [], 0⟩⟩ else s
def moveE (st : FSM) (fr tt : List UInt8) (only : Bool) : Int := if beginE st = 0 then moveE0 (beginM st).st fr tt only else beginE st
def moveM (st : FSM) (fr tt : List UInt8) (only : Bool) : FSM := if beginE st = 0 then moveM0 (beginM st).st fr tt only else (beginM st).st
theorem move_no {st : FSM} {fr tt : List UInt8} {only : Bool} {n : Int} (h0 : beginE st = 0) (h : moveE0 (beginM st).st fr tt only = n) (hn : n ≠ 0 ∨ fr = tt) : moveE st fr tt only = n ∧ moveM st fr tt only = (beginM st).st := by
  refine ⟨by unfold moveE; rw [if_pos h0, h], ?_⟩
  unfold moveM moveM0
  rw [if_pos h0, if_neg]
  rintro ⟨h1, h2⟩
  rcases hn with hn | hn
  · exact hn (h.symm.trans h1)
  · exact h2 hn
theorem findZ_neg {R : List RowM} {p : List UInt8} (h : (findM R p).isNone = true) : findZ R p = -1 := findZ_none (by simpa using h)
theorem findZ_nn {R : List RowM} {p : List UInt8} (h : (findM R p).isNone = false) : ∃ i : Nat, findZ R p = (i : Int) := by
  cases hf : findM R p with
  | none => rw [hf] at h; cases h
  | some i => exact ⟨i, findZ_some hf⟩

set_option maxRecDepth 100000 in
set_option maxHeartbeats 6400000 in
theorem rmove_any (F M : Nat → Prop) (b : Nat) (st : FSM) (N : Nat) (fr tt : List UInt8) (only : Bool) (w : World) (h : RefAt F w b st M) (hr : Ready st N) (hf : fr.length ≤ 1000000) (ht : tt.length ≤ 1000000) :
    Calls Tryz.prog 143 #[.pointer (some ⟨b, 0, none⟩), .string (str fr), .string (str tt), .bool only] w fun e w' => e = .returned (.int .i64 (moveE st fr tt only)) ∧ FsPost F M w b (moveM st fr tt only) w' := by
  have H := Lib.hid h
  have HR := Lib.hid hr
  have HS := Lib.hid hr.small
  clear h hr
  obtain ⟨be, hbe⟩ : ∃ be, beginE st = be := ⟨_, rfl⟩
  have HBE := Lib.hid hbe
  obtain ⟨t1, ht1⟩ : ∃ t, pathB fr = t := ⟨_, rfl⟩
  obtain ⟨t2, ht2⟩ : ∃ t, pathB tt = t := ⟨_, rfl⟩
  have HT1 := Lib.hid ht1
  have HT2 := Lib.hid ht2
  clear hbe ht1 ht2
  go_enter Tryz.func143, Tryz.ntmps143
  go_wp2_with fail
  refine (rbegin_any F M b st N _ H.out HR.out.fits (by have := HR.out.big; omega) HR.out.calls HR.out.paths).mono ?_
  rintro e w1 ⟨rfl, hpost⟩
  rw [HBE.out]
  obtain ⟨s, hs⟩ : ∃ s, (beginM st).st = s := ⟨_, rfl⟩
  have HSS := Lib.hid hs
  have hpost1 := hpost
  rw [hs] at hpost1
  have HP1 := Lib.hid hpost1
  obtain ⟨M1, hat, hon, hsub⟩ := hpost1
  have HSM : Hid (Small s) := by rw [← hs]; exact HS.out
  have HAT := Lib.hid hat
  have HON := Lib.hid hon
  have HSUB := Lib.hid hsub
  obtain ⟨x, hX, hM⟩ := hat
  have c1 : w1.cell? ⟨b, 1, none⟩ = some x.now := hX.blk.cell 1
  have HX := Lib.hid hX
  clear hX hM hon hsub hpost hs
  obtain ⟨fu, hfu⟩ : ∃ fu, (beginM st).full = fu := ⟨_, rfl⟩
  rw [hfu]
  clear hfu
  obtain ⟨i, hi⟩ : ∃ i, findZ s.now fr = i := ⟨_, rfl⟩
  obtain ⟨k, hk⟩ : ∃ k, findZ s.now tt = k := ⟨_, rfl⟩
  have HI := Lib.hid hi
  have HK := Lib.hid hk
  clear hi hk
  go_upto_region 2 with (fail)
  go_quiet ((go_at_call 150; exact Calls.quiet_of_same ((rfind_any _ x.now s.now _ _ (by exact HX.out.now)).mono fun _ _ h => ⟨h.1, h.2.symm⟩)))
  generalize hwd : w1.drewN nq = wd
  have HB0 : Hid (Below w1.heap.size w1 wd) := by rw [← hwd]; exact below_drewN (Below.refl _ _) _
  clear hwd
  rw [HI.out, HK.out]
  have HFIN : Hid (∀ s2 w2 w3, Below w1.heap.size w1 w2 → FsPost (grow F w w1 M1) M1 w2 b s2 w3 → FsPost F M w b s2 w3) := fun _ _ _ hb h => FsPost.trans HON.out HSUB.out (FsPost.of_below hb h)
  have HSTAY : Hid (∀ w2, Below w1.heap.size w1 w2 → FsPost F M w b s w2) := fun w2 hb => HFIN.out _ _ _ hb (FsPost.refl (HAT.out.below hb))
  have HZ0 := HB0.out.size
  by_cases hb0 : be = 0
  · subst hb0
    have HNO : Hid (∀ n, moveE0 s fr tt only = n → (n ≠ 0 ∨ fr = tt) → moveE st fr tt only = n ∧ moveM st fr tt only = s) := fun n h1 h2 => by
      have h := move_no (only := only) HBE.out (by rw [HSS.out]; exact h1) h2
      rw [HSS.out] at h
      exact h
    go_wp2_with fail
    refine (rpath_any fr _ hf).mono ?_
    rintro e w2 ⟨rfl, hb2⟩
    rw [HT1.out]
    have HB2 := Lib.hid (HB0.out.trans (hb2.mono HZ0))
    have HZ2 := HB2.out.size
    clear hb2
    cases t1 with
    | false =>
      have HE := Lib.hid (HNO.out 6 (by unfold moveE0; rw [if_pos (.inl HT1.out)]) (.inl (by decide)))
      go_wp2_with fail
      go_ret
      exact ⟨by rw [HE.out.1]; rfl, by rw [HE.out.2]; exact HSTAY.out _ HB2.out⟩
    | true =>
      go_wp2_with fail
      refine (rpath_any tt _ ht).mono ?_
      rintro e w3 ⟨rfl, hb3⟩
      rw [HT2.out]
      have HB3 := Lib.hid (HB2.out.trans (hb3.mono HZ2))
      have HZ3 := HB3.out.size
      clear hb3
      cases t2 with
      | false =>
        have HE := Lib.hid (HNO.out 6 (by unfold moveE0; rw [if_pos (.inr HT2.out)]) (.inl (by decide)))
        go_wp2_with fail
        go_ret
        exact ⟨by rw [HE.out.1]; rfl, by rw [HE.out.2]; exact HSTAY.out _ HB3.out⟩
      | true =>
        have hpp : ¬ (pathB fr = false ∨ pathB tt = false) := by rw [HT1.out, HT2.out]; decide
        have HPP := Lib.hid hpp
        clear hpp
        cases hfi : (findM s.now fr).isNone with
        | true =>
          have HE := Lib.hid (HNO.out 7 (by unfold moveE0; rw [if_neg HPP.out, if_pos hfi]) (.inl (by decide)))
          obtain rfl : i = -1 := by rw [← HI.out]; exact findZ_neg hfi
          clear hfi
          go_wp2_with fail
          go_ret
          exact ⟨by rw [HE.out.1]; rfl, by rw [HE.out.2]; exact HSTAY.out _ HB3.out⟩
        | false =>
          obtain ⟨j, hj⟩ := findZ_nn hfi
          obtain rfl : i = (j : Int) := by rw [← HI.out]; exact hj
          have HFI : Hid (¬ (findM s.now fr).isNone = true) := fun h => by rw [hfi] at h; cases h
          have j0 : (0 : Int) ≤ (j : Int) := by omega
          clear hfi hj
          obtain ⟨kn, hkn⟩ : ∃ kn, (findM s.now tt).isNone = kn := ⟨_, rfl⟩
          obtain ⟨sb, hsb⟩ : ∃ sb : Bool, decide (k < 0) = sb := ⟨_, rfl⟩
          have hks : kn = sb := by
            rw [← hkn, ← hsb]
            cases hz : (findM s.now tt).isNone with
            | true => rw [← HK.out, findZ_neg hz]; rfl
            | false => obtain ⟨q, hq⟩ := findZ_nn hz; rw [← HK.out, hq]; exact (decide_eq_false (by omega)).symm
          subst hks
          have HKN := Lib.hid hkn
          have HKS : Hid ((findM s.now tt).isSome = !kn) := by unfold Hid; rw [← hkn]; cases findM s.now tt <;> rfl
          clear hkn
          have hk0 : kn = true ∧ k < 0 ∨ kn = false ∧ 0 ≤ k := by
            cases kn with
            | true => exact .inl ⟨rfl, of_decide_eq_true hsb⟩
            | false => exact .inr ⟨rfl, by have := of_decide_eq_false hsb; omega⟩
          clear hsb
          by_cases hoe : only = true ∧ kn = false
          · obtain ⟨rfl, rfl⟩ := hoe
            have k0 : 0 ≤ k := by rcases hk0 with h | h
                                  · exact absurd h.1 (by decide)
                                  · exact h.2
            have HE := Lib.hid (HNO.out 8 (by unfold moveE0; rw [if_neg HPP.out, if_neg HFI.out, if_pos ⟨rfl, HKS.out⟩]) (.inl (by decide)))
            clear hk0
            go_wp2_with fail
            go_ret
            exact ⟨by rw [HE.out.1]; rfl, by rw [HE.out.2]; exact HSTAY.out _ HB3.out⟩
          · have HOE : Hid (¬ (only = true ∧ (findM s.now tt).isSome = true)) := fun h => hoe ⟨h.1, by have h2 := HKS.out.symm.trans h.2; cases kn with
              | true => cases h2
              | false => rfl⟩
            obtain ⟨x3, hX3, _⟩ := HAT.out.below HB3.out
            have c13 : w3.cell? ⟨b, 1, none⟩ = some x3.now := hX3.blk.cell 1
            have HX3 := Lib.hid hX3
            clear hX3 c1
            go_upto_region 9 with (fail)
            go_cut [46] (fun c wx => c = .bool false ∧ w3 = wx)
            case first =>
              cases only with
              | false =>
                go_wp2_with fail
                go_meet
                exact ⟨rfl, rfl⟩
              | true =>
                have k0 : k < 0 := by
                  rcases hk0 with h | h
                  · exact h.2
                  · exact absurd ⟨rfl, h.1⟩ hoe
                clear hoe hk0
                go_wp2_with fail
                go_meet
                exact ⟨by rw [decide_eq_false (by omega)], rfl⟩
            case rest =>
              obtain ⟨rfl, rfl⟩ := hcut
              clear hoe
              by_cases hft : fr = tt
              · have HE := Lib.hid (HNO.out 0 (by unfold moveE0; rw [if_neg HPP.out, if_neg HFI.out, if_neg HOE.out, if_pos hft]) (.inr hft))
                have e1 := str_eq' hft
                clear hft
                go_wp2_with fail
                go_ret
                exact ⟨by rw [HE.out.1]; rfl, by rw [HE.out.2]; exact HSTAY.out _ HB3.out⟩
              · have HFT := Lib.hid hft
                have e1 := str_ne hft
                have HGO : Hid (moveE0 s fr tt only = 0 → moveE st fr tt only = 0 ∧ moveM st fr tt only = changeM s ⟨2, fr, tt, ⟨0, [], 0⟩⟩) := fun h => by
                  refine ⟨by unfold moveE; rw [if_pos HBE.out, HSS.out, h], ?_⟩
                  unfold moveM moveM0
                  rw [if_pos HBE.out, HSS.out, if_pos ⟨h, HFT.out⟩]
                clear hft
                rcases hk0 with ⟨rfl, k0⟩ | ⟨rfl, k0⟩
                · obtain ⟨mb, hmb⟩ : ∃ mb, mayM (withoutM s.now fr) tt = mb := ⟨_, rfl⟩
                  have HMB := Lib.hid hmb
                  clear hmb
                  go_wp2_with fail
                  refine (rwithout_any _ x3.now s.now fr _ HX3.out.now (by have := HSM.out.now; omega) HX3.out.low).mono ?_
                  rintro e w4 ⟨v4, rfl, ho4, hb4⟩
                  have HO4 := Lib.hid ho4
                  have HB4 := Lib.hid (HB3.out.trans (hb4.mono HZ3))
                  have HZ4 := HB4.out.size
                  clear ho4 hb4
                  go_wp2_with fail
                  refine (rmay_any _ v4 (withoutM s.now fr) tt _ HO4.out.rin ht (fun r hr => HSM.out.nrow r (without_sub hr))).mono ?_
                  rintro e w5 ⟨rfl, hb5⟩
                  rw [HMB.out]
                  have HB5 := Lib.hid (HB4.out.trans (hb5.mono HZ4))
                  clear hb5
                  cases mb with
                  | false =>
                    have HE := Lib.hid (HNO.out 9 (by unfold moveE0; rw [if_neg HPP.out, if_neg HFI.out, if_neg HOE.out, if_neg HFT.out, if_pos ⟨HKN.out, HMB.out⟩]) (.inl (by decide)))
                    go_wp2_with fail
                    go_ret
                    exact ⟨by rw [HE.out.1]; rfl, by rw [HE.out.2]; exact HSTAY.out _ HB5.out⟩
                  | true =>
                    have HE := Lib.hid (HGO.out (by unfold moveE0; rw [if_neg HPP.out, if_neg HFI.out, if_neg HOE.out, if_neg HFT.out, if_neg (fun h => by rw [HMB.out] at h; exact absurd h.2 (by decide))]))
                    go_wp2_with fail
                    refine (rchange_any _ M1 b s ⟨2, fr, tt, ⟨0, [], 0⟩⟩ (.slice none 0 0) _ (HAT.out.below HB5.out) (By.nil_ _ _) HSM.out.time (by have := HSM.out.now; omega) (by have := HSM.out.pending; omega)).mono ?_
                    rintro e w6 ⟨rfl, hpost⟩
                    have HP := Lib.hid (HFIN.out _ _ _ HB5.out hpost)
                    clear hpost
                    go_wp2_with fail
                    go_ret
                    exact ⟨by rw [HE.out.1]; rfl, by rw [HE.out.2]; exact HP.out⟩
                · have HE := Lib.hid (HGO.out (by unfold moveE0; rw [if_neg HPP.out, if_neg HFI.out, if_neg HOE.out, if_neg HFT.out, if_neg (fun h => by rw [HKN.out] at h; exact absurd h.1 (by decide))]))
                  go_wp2_with fail
                  refine (rchange_any _ M1 b s ⟨2, fr, tt, ⟨0, [], 0⟩⟩ (.slice none 0 0) _ (HAT.out.below HB3.out) (By.nil_ _ _) HSM.out.time (by have := HSM.out.now; omega) (by have := HSM.out.pending; omega)).mono ?_
                  rintro e w4 ⟨rfl, hpost⟩
                  have HP := Lib.hid (HFIN.out _ _ _ HB3.out hpost)
                  clear hpost
                  go_wp2_with fail
                  go_ret
                  exact ⟨by rw [HE.out.1]; rfl, by rw [HE.out.2]; exact HP.out⟩
  · have e1 : (be == 0) = false := by rw [beq_eq_false_iff_ne]; exact hb0
    have HE : Hid (moveE st fr tt only = be ∧ moveM st fr tt only = s) := ⟨by unfold moveE; rw [HBE.out, if_neg hb0], by unfold moveM; rw [HBE.out, if_neg hb0]; exact HSS.out⟩
    clear hb0
    go_wp2_with fail
    go_ret
    exact ⟨by rw [HE.out.1]; rfl, by rw [HE.out.2]; exact HSTAY.out _ HB0.out⟩
end Go.Proofs.YtfmlnodhbojdpaaGreat.Tx
