/- Texts put together: Fx9. -/
import Derived.Test.YtfmlnodhbojdpaaGreatQc13
/- The reference's file system: put. -/
namespace Go.Proofs.YtfmlnodhbojdpaaGreat.Tx
open Go.RowKit Go.Proofs.YtfmlnodhbojdpaaGreat.Sh

theorem oldM_none {R : List RowM} {p : List UInt8} (h : findM R p = none) : oldM R p = 0 := by unfold oldM; rw [h]
theorem oldM_some {R : List RowM} {p : List UInt8} {i : Nat} {r : RowM} (h : findM R p = some i) (hr : R[i]? = some r) : oldM R p = r.f.data.length := by unfold oldM; rw [h]; simp only [hr]
theorem oldM_le (R : List RowM) (p : List UInt8) : oldM R p ≤ usedM R := by
  unfold oldM
  split
  · exact Nat.zero_le _
  · rename_i i hi
    split
    · exact Nat.zero_le _
    · rename_i r hr
      have h1 := used_take hr
      have h2 := used_le R (i + 1)
      omega
theorem RefAt.grown {F : Nat → Prop} {w w1 : World} {b : Nat} {st : FSM} {M : Nat → Prop} (h : RefAt F w b st M) (hb : Below w.heap.size w w1) {n : Nat} (hn : w.heap.size ≤ n) : RefAt (fun k => F k ∨ (n ≤ k ∧ k < w1.heap.size)) w1 b st M := by
  obtain ⟨x, h1, h2⟩ := h
  refine ⟨x, (h1.below hb).mono (fun k hk => .inl hk) (fun k hk hm => ?_) (fun k hk => ?_), h2⟩
  · rcases hk with hk | hk
    · exact h1.apart k hk hm
    · have := h1.lt k hm; omega
  · rcases hk with hk | hk
    · have := h1.low k hk; have := hb.size; omega
    · exact hk.2

set_option maxRecDepth 100000 in
set_option maxHeartbeats 6400000 in
theorem rput_any (F M : Nat → Prop) (b : Nat) (st : FSM) (p : List UInt8) (mode : Int) (dv : Value) (data : List UInt8) (only full : Bool) (room : Int) (w : World) (h : RefAt F w b st M) (hdv : SlV w dv (data.map bv)) (hp : p.length ≤ 1000000) (hR : ∀ r ∈ st.now, r.path.length ≤ 1000000)
    (hu : usedM st.now ≤ 4000000000000) (ht : 0 ≤ st.time ∧ st.time ≤ 4000000000000) (hn : st.now.length ≤ 1000000) (hq : st.pending.length ≤ 1000000) :
    Calls Tryz.prog 142 #[.pointer (some ⟨b, 0, none⟩), .string (str p), .int .i64 mode, dv, .bool only, .bool full, .int .i64 room] w fun e w' => e = .returned (.int .i64 (putE st p mode data only full room)) ∧ FsPost F M w b (putM st p mode data only full room) w' := by
  have H := Lib.hid h
  have HT := Lib.hid ht
  have HN := Lib.hid hn
  have HQ := Lib.hid hq
  have HRP := Lib.hid hR
  have HU := Lib.hid hu
  have HDV := Lib.hid hdv
  have hold := oldM_le st.now p
  obtain ⟨dA, dc, rfl, hd1, hd2, _⟩ := hdv.len
  rw [List.length_map] at hd1 HDV ⊢
  unfold maxLen at hd2
  obtain ⟨dn, hdn⟩ : ∃ dn, data.length = dn := ⟨_, rfl⟩
  rw [hdn] at hd1 HDV ⊢
  have HDN := Lib.hid hdn
  obtain ⟨t, htt⟩ : ∃ t, pathB p = t := ⟨_, rfl⟩
  have HTT := Lib.hid htt
  obtain ⟨x, hX, _⟩ := h
  have c1 : w.cell? ⟨b, 1, none⟩ = some x.now := hX.blk.cell 1
  have HX := Lib.hid hX
  have dn0 : (0 : Int) ≤ (dn : Int) := by omega
  obtain ⟨ov, hov⟩ : ∃ ov, oldM st.now p = ov := ⟨_, rfl⟩
  obtain ⟨uv, huv⟩ : ∃ uv, usedM st.now = uv := ⟨_, rfl⟩
  rw [hov, huv] at hold
  rw [huv] at hu
  have HOV := Lib.hid hov
  have HUV := Lib.hid huv
  have o0 : (0 : Int) ≤ (ov : Int) := by omega
  have o1 : (ov : Int) ≤ (uv : Int) := by omega
  have u1 : (uv : Int) ≤ 4000000000000 := by omega
  clear ht hn hq hR hdv hdn htt hX hov huv hold hu
  go_enter Tryz.func142, Tryz.ntmps142
  go_wp2_with fail
  refine (rfind_any F x.now st.now p _ HX.out.now).mono ?_
  rintro e w2 ⟨rfl, rfl⟩
  cases hf : findM st.now p with
  | none =>
    have HZ := Lib.hid (findZ_none hf)
    have HF := Lib.hid hf
    have ho0 := oldM_none hf
    rw [HOV.out] at ho0
    subst ho0
    rw [HZ.out]
    clear hf
    go_wp2_with fail
    refine (rpath_any p _ hp).mono ?_
    rintro e w1 ⟨rfl, hb⟩
    rw [HTT.out]
    have HB := Lib.hid hb
    have H1 := Lib.hid (H.out.below hb)
    have HDV1 := Lib.hid (HDV.out.below hb)
    clear hb
    cases t with
    | false =>
      have HE : Hid (putE st p mode data only full room = 6) := by unfold Hid putE; rw [if_pos HTT.out]
      have HM : Hid (putM st p mode data only full room = st) := by unfold Hid putM; rw [HE.out, if_neg (by decide)]
      go_wp2_with fail
      go_ret
      exact ⟨by rw [HE.out]; rfl, by rw [HM.out]; exact FsPost.same H.out HB.out⟩
    | true =>
      by_cases hm : mode < 1 ∨ 3 < mode
      · have HE : Hid (putE st p mode data only full room = 1) := by unfold Hid putE; rw [if_neg (by rw [HTT.out]; decide), if_pos hm]
        have HM : Hid (putM st p mode data only full room = st) := by unfold Hid putM; rw [HE.out, if_neg (by decide)]
        have hm2 : mode < 1 ∨ (1 ≤ mode ∧ 3 < mode) := by omega
        clear hm
        rcases hm2 with hm | ⟨hm, hm3⟩
        all_goals
          go_wp2_with fail
          go_ret
          exact ⟨by rw [HE.out]; rfl, by rw [HM.out]; exact FsPost.same H.out HB.out⟩
      · have m1 : 1 ≤ mode := by omega
        have m3 : mode ≤ 3 := by omega
        have HMO := Lib.hid hm
        clear hm
        by_cases hl : 20000 < dn
        · have HE : Hid (putE st p mode data only full room = 3) := by unfold Hid putE; rw [if_neg (by rw [HTT.out]; decide), if_neg HMO.out, if_pos (by rw [HDN.out]; exact hl)]
          have HM : Hid (putM st p mode data only full room = st) := by unfold Hid putM; rw [HE.out, if_neg (by decide)]
          have z1 : (20000 : Int) < (dn : Int) := by omega
          clear hl
          go_wp2_with fail
          go_ret
          exact ⟨by rw [HE.out]; rfl, by rw [HM.out]; exact FsPost.same H.out HB.out⟩
        · have z1 : (dn : Int) ≤ 20000 := by omega
          have hl2 : ¬ 20000 < data.length := by rw [HDN.out]; exact hl
          have HLE := Lib.hid hl2
          clear hl hl2
          have HD : Hid (¬ ((findM st.now p).isSome = true ∧ only = true)) := fun h => by rw [HF.out] at h; cases h.1
          obtain ⟨x1, hX1, _⟩ := H1.out
          have c11 : w1.cell? ⟨b, 1, none⟩ = some x1.now := hX1.blk.cell 1
          have HX1 := Lib.hid hX1
          obtain ⟨my, hmy⟩ : ∃ my, mayM st.now p = my := ⟨_, rfl⟩
          have HMY := Lib.hid hmy
          clear hX1 hmy
          go_wp2_with fail
          refine (rmay_any F x1.now st.now p _ HX1.out.now hp HRP.out).mono ?_
          rintro e w2 ⟨rfl, hb2⟩
          rw [HMY.out]
          have HB2 := Lib.hid (HB.out.trans (hb2.mono HB.out.size))
          have H2 := Lib.hid (H1.out.below hb2)
          have HDV2 := Lib.hid (HDV1.out.below hb2)
          clear hb2
          cases my with
          | false =>
            have HE : Hid (putE st p mode data only full room = 9) := by unfold Hid putE; rw [if_neg (by rw [HTT.out]; decide), if_neg HMO.out, if_neg HLE.out, if_neg HD.out, if_pos ⟨by rw [HF.out]; rfl, HMY.out⟩]
            have HM : Hid (putM st p mode data only full room = st) := by unfold Hid putM; rw [HE.out, if_neg (by decide)]
            go_wp2_with fail
            go_ret
            exact ⟨by rw [HE.out]; rfl, by rw [HM.out]; exact FsPost.same H.out HB2.out⟩
          | true =>
            have HEE : Hid (¬ ((findM st.now p).isNone = true ∧ mayM st.now p = false)) := fun h => by rw [HMY.out] at h; cases h.2
            clear HB H1 HDV1
            cases full with
            | true =>
              have HE : Hid (putE st p mode data only true room = 10) := by unfold Hid putE; rw [if_neg (by rw [HTT.out]; decide), if_neg HMO.out, if_neg HLE.out, if_neg HD.out, if_neg HEE.out, if_pos (.inl rfl)]
              have HM : Hid (putM st p mode data only true room = st) := by unfold Hid putM; rw [HE.out, if_neg (by decide)]
              go_wp2_with fail
              go_ret
              exact ⟨by rw [HE.out]; rfl, by rw [HM.out]; exact FsPost.same H.out HB2.out⟩
            | false =>
              obtain ⟨x2, hX2, _⟩ := H2.out
              have c12 : w2.cell? ⟨b, 1, none⟩ = some x2.now := hX2.blk.cell 1
              have HX2 := Lib.hid hX2
              clear hX2
              go_wp2_with fail
              refine (rused_any F x2.now st.now _ HX2.out.now HU.out).mono ?_
              rintro e w3 ⟨rfl, rfl⟩
              rw [HUV.out]
              by_cases hr : room < (uv : Int) + (dn : Int)
              · have HE : Hid (putE st p mode data only false room = 10) := by unfold Hid putE; rw [if_neg (by rw [HTT.out]; decide), if_neg HMO.out, if_neg HLE.out, if_neg HD.out, if_neg HEE.out, if_pos (.inr (by rw [HUV.out, HOV.out, HDN.out]; omega))]
                have HM : Hid (putM st p mode data only false room = st) := by unfold Hid putM; rw [HE.out, if_neg (by decide)]
                go_wp2_with fail
                go_ret
                exact ⟨by rw [HE.out]; rfl, by rw [HM.out]; exact FsPost.same H.out HB2.out⟩
              · have HE : Hid (putE st p mode data only false room = 0) := by
                  unfold Hid putE
                  rw [if_neg (by rw [HTT.out]; decide), if_neg HMO.out, if_neg HLE.out, if_neg HD.out, if_neg HEE.out, if_neg]
                  rintro (h | h)
                  · cases h
                  · rw [HUV.out, HOV.out, HDN.out] at h; omega
                have HM : Hid (putM st p mode data only false room = changeM st ⟨1, [], p, ⟨mode, data, 0⟩⟩) := by unfold Hid putM; rw [HE.out, if_pos rfl]
                have hr2 : (uv : Int) + (dn : Int) ≤ room := by omega
                clear hr
                go_wp2_with fail
                refine (rcopyb_any _ data _ HDV2.out (by have := HLE.out; omega)).mono ?_
                rintro e w4 ⟨v4, rfl, ho4, hb4⟩
                obtain ⟨A4, c4, rfl, g1, g2⟩ := ho4.length
                rw [List.length_map, HDN.out] at ho4 ⊢
                have HBY := Lib.hid (OwnV.by_ (F := F) ho4)
                have H4 := Lib.hid (H2.out.grown hb4 (Nat.le_refl _))
                have HB4 := Lib.hid (HB2.out.trans (hb4.mono HB2.out.size))
                have hz4 := hb4.size
                have hz2 := HB2.out.size
                clear ho4 hb4 g1 g2
                go_wp2_with fail
                refine (rchange_any _ M b st ⟨1, [], p, ⟨mode, data, 0⟩⟩ (.slice A4 dn c4) _ H4.out HBY.out HT.out HN.out HQ.out).mono ?_
                rintro e w5 ⟨rfl, hpost⟩
                have HP := Lib.hid hpost
                clear hpost
                go_wp2_with fail
                go_ret
                exact ⟨by rw [HE.out]; rfl, by rw [HM.out]; exact FsPost.wide HB4.out (fun k hk => hk.imp id (fun h => ⟨Nat.le_trans hz2 h.1, h.2⟩)) (fun k hk => .inl hk) HP.out⟩
  | some i =>
    obtain ⟨r, hr, _⟩ := find_at hf
    have HZ := Lib.hid (findZ_some hf)
    have HF := Lib.hid hf
    have ho0 := oldM_some hf hr
    rw [HOV.out] at ho0
    obtain ⟨A, c, hAc, hlc, hcm⟩ := HX.out.now.slice
    have hil : i < st.now.length := (List.getElem?_eq_some_iff.1 hr).1
    have hxn := HX.out.now
    rw [hAc] at hxn c1 ⊢
    obtain ⟨ad, d2, rfl, hby, _, _, x2, _⟩ := hxn.at_ i r hr
    obtain ⟨A2, c2', rfl, k1, k2⟩ := hby.slice
    rw [← ho0] at x2 k1
    obtain ⟨n, hN⟩ : ∃ n, st.now.length = n := ⟨_, rfl⟩
    rw [hN] at hlc hil c1 ⊢
    unfold maxLen at hcm k2
    have i0 : (0 : Int) ≤ (i : Int) := by omega
    have i1 : (i : Int) < (n : Int) := by omega
    rw [HZ.out]
    clear hf hr hAc hN hxn hby ho0
    go_wp2_with fail
    refine (rpath_any p _ hp).mono ?_
    rintro e w1 ⟨rfl, hb⟩
    rw [HTT.out]
    have HB := Lib.hid hb
    have H1 := Lib.hid (H.out.below hb)
    have HDV1 := Lib.hid (HDV.out.below hb)
    clear hb
    cases t with
    | false =>
      have HE : Hid (putE st p mode data only full room = 6) := by unfold Hid putE; rw [if_pos HTT.out]
      have HM : Hid (putM st p mode data only full room = st) := by unfold Hid putM; rw [HE.out, if_neg (by decide)]
      go_wp2_with fail
      go_ret
      exact ⟨by rw [HE.out]; rfl, by rw [HM.out]; exact FsPost.same H.out HB.out⟩
    | true =>
      by_cases hm : mode < 1 ∨ 3 < mode
      · have HE : Hid (putE st p mode data only full room = 1) := by unfold Hid putE; rw [if_neg (by rw [HTT.out]; decide), if_pos hm]
        have HM : Hid (putM st p mode data only full room = st) := by unfold Hid putM; rw [HE.out, if_neg (by decide)]
        have hm2 : mode < 1 ∨ (1 ≤ mode ∧ 3 < mode) := by omega
        clear hm
        rcases hm2 with hm | ⟨hm, hm3⟩
        all_goals
          go_wp2_with fail
          go_ret
          exact ⟨by rw [HE.out]; rfl, by rw [HM.out]; exact FsPost.same H.out HB.out⟩
      · have m1 : 1 ≤ mode := by omega
        have m3 : mode ≤ 3 := by omega
        have HMO := Lib.hid hm
        clear hm
        by_cases hl : 20000 < dn
        · have HE : Hid (putE st p mode data only full room = 3) := by unfold Hid putE; rw [if_neg (by rw [HTT.out]; decide), if_neg HMO.out, if_pos (by rw [HDN.out]; exact hl)]
          have HM : Hid (putM st p mode data only full room = st) := by unfold Hid putM; rw [HE.out, if_neg (by decide)]
          have z1 : (20000 : Int) < (dn : Int) := by omega
          clear hl
          go_wp2_with fail
          go_ret
          exact ⟨by rw [HE.out]; rfl, by rw [HM.out]; exact FsPost.same H.out HB.out⟩
        · have z1 : (dn : Int) ≤ 20000 := by omega
          have hl2 : ¬ 20000 < data.length := by rw [HDN.out]; exact hl
          have HLE := Lib.hid hl2
          clear hl hl2
          cases only with
          | true =>
            have HE : Hid (putE st p mode data true full room = 8) := by unfold Hid putE; rw [if_neg (by rw [HTT.out]; decide), if_neg HMO.out, if_neg HLE.out, if_pos ⟨by rw [HF.out]; rfl, rfl⟩]
            have HM : Hid (putM st p mode data true full room = st) := by unfold Hid putM; rw [HE.out, if_neg (by decide)]
            go_wp2_with fail
            go_ret
            exact ⟨by rw [HE.out]; rfl, by rw [HM.out]; exact FsPost.same H.out HB.out⟩
          | false =>
            have HD : Hid (¬ ((findM st.now p).isSome = true ∧ false = true)) := fun h => by cases h.2
            have HEE : Hid (¬ ((findM st.now p).isNone = true ∧ mayM st.now p = false)) := fun h => by rw [HF.out] at h; cases h.1
            have HB2 := Lib.hid HB.out
            have H2 := Lib.hid H1.out
            have HDV2 := Lib.hid HDV1.out
            clear HB H1 HDV1
            cases full with
            | true =>
              have HE : Hid (putE st p mode data false true room = 10) := by unfold Hid putE; rw [if_neg (by rw [HTT.out]; decide), if_neg HMO.out, if_neg HLE.out, if_neg HD.out, if_neg HEE.out, if_pos (.inl rfl)]
              have HM : Hid (putM st p mode data false true room = st) := by unfold Hid putM; rw [HE.out, if_neg (by decide)]
              go_wp2_with fail
              go_ret
              exact ⟨by rw [HE.out]; rfl, by rw [HM.out]; exact FsPost.same H.out HB2.out⟩
            | false =>
              obtain ⟨x2, hX2, _⟩ := H2.out
              have c12 : w1.cell? ⟨b, 1, none⟩ = some x2.now := hX2.blk.cell 1
              have HX2 := Lib.hid hX2
              clear hX2
              go_wp2_with fail
              refine (rused_any F x2.now st.now _ HX2.out.now HU.out).mono ?_
              rintro e w3 ⟨rfl, rfl⟩
              rw [HUV.out]
              by_cases hr : room < (uv : Int) - (ov : Int) + (dn : Int)
              · have HE : Hid (putE st p mode data false false room = 10) := by unfold Hid putE; rw [if_neg (by rw [HTT.out]; decide), if_neg HMO.out, if_neg HLE.out, if_neg HD.out, if_neg HEE.out, if_pos (.inr (by rw [HUV.out, HOV.out, HDN.out]; omega))]
                have HM : Hid (putM st p mode data false false room = st) := by unfold Hid putM; rw [HE.out, if_neg (by decide)]
                go_wp2_with fail
                go_ret
                exact ⟨by rw [HE.out]; rfl, by rw [HM.out]; exact FsPost.same H.out HB2.out⟩
              · have HE : Hid (putE st p mode data false false room = 0) := by
                  unfold Hid putE
                  rw [if_neg (by rw [HTT.out]; decide), if_neg HMO.out, if_neg HLE.out, if_neg HD.out, if_neg HEE.out, if_neg]
                  rintro (h | h)
                  · cases h
                  · rw [HUV.out, HOV.out, HDN.out] at h; omega
                have HM : Hid (putM st p mode data false false room = changeM st ⟨1, [], p, ⟨mode, data, 0⟩⟩) := by unfold Hid putM; rw [HE.out, if_pos rfl]
                have hr2 : (uv : Int) - (ov : Int) + (dn : Int) ≤ room := by omega
                clear hr
                go_wp2_with fail
                refine (rcopyb_any _ data _ HDV2.out (by have := HLE.out; omega)).mono ?_
                rintro e w4 ⟨v4, rfl, ho4, hb4⟩
                obtain ⟨A4, c4, rfl, g1, g2⟩ := ho4.length
                rw [List.length_map, HDN.out] at ho4 ⊢
                have HBY := Lib.hid (OwnV.by_ (F := F) ho4)
                have H4 := Lib.hid (H2.out.grown hb4 (Nat.le_refl _))
                have HB4 := Lib.hid (HB2.out.trans (hb4.mono HB2.out.size))
                have hz4 := hb4.size
                have hz2 := HB2.out.size
                clear ho4 hb4 g1 g2
                go_wp2_with fail
                refine (rchange_any _ M b st ⟨1, [], p, ⟨mode, data, 0⟩⟩ (.slice A4 dn c4) _ H4.out HBY.out HT.out HN.out HQ.out).mono ?_
                rintro e w5 ⟨rfl, hpost⟩
                have HP := Lib.hid hpost
                clear hpost
                go_wp2_with fail
                go_ret
                exact ⟨by rw [HE.out]; rfl, by rw [HM.out]; exact FsPost.wide HB4.out (fun k hk => hk.imp id (fun h => ⟨Nat.le_trans hz2 h.1, h.2⟩)) (fun k hk => .inl hk) HP.out⟩
end Go.Proofs.YtfmlnodhbojdpaaGreat.Tx
