/- Texts put together: Ts3. -/
import Derived.Test.YtecpedecgcaeoaaQg17
/- mergeRuns. -/
namespace Go.Proofs.Ytecpedecgcaeoaa.Tx
open Go.RowKit Go.Proofs.Ytecpedecgcaeoaa.Sh

set_option maxRecDepth 100000 in
set_option maxHeartbeats 3200000 in
theorem mruns_any (gt gf n ot oa ob ca cb ct : Nat) (pa pb : Addr) (P old S F : List Value) (xa xb : List ByteArray) (w : World) (hne : gt ≠ gf) (hot : P.length = ot) (ho : old.length = n) (hn : xa.length + xb.length = n) (hct : n ≤ ct) (hcm : ct ≤ maxLen)
    (h1 : xa.length ≤ ca) (h1m : ca ≤ maxLen) (h2 : xb.length ≤ cb) (h2m : cb ≤ maxLen) (hpa : 0 < xa.length → pa = ⟨gf, oa, none⟩) (hpb : 0 < xb.length → pb = ⟨gf, ob, none⟩) (hA : At F oa xa) (hB : At F ob xb) (hF : BlkL w gf F) (hT : BlkL w gt (P ++ old ++ S)) :
    Calls Try.prog 53 #[.slice (some ⟨gt, ot, none⟩) n ct, .slice (some pa) xa.length ca, .slice (some pb) xb.length cb] w fun e w' => e = .returned (.tuple #[]) ∧ BlkL w' gf F ∧ BlkL w' gt (P ++ (mergeL xa xb).map sv ++ S) ∧ w.grownBy w' (some gt) := by
  have hstart : MR w gt gf n P old S F (mergeL xa xb) (.slice (some pa) xa.length ca) (.slice (some pb) xb.length cb) (.int .i64 ((0 : Nat) : Int)) w :=
    ⟨0, xa, xb, [], pa, pb, oa, ob, ca, cb, Nat.zero_le _, rfl, rfl, rfl, h1, h1m, h2, h2m, hpa, hpb, hA, hB, rfl, by omega, rfl, hF, by simpa using hT, World.grownBy.refl w _⟩
  have HST := Lib.hid hstart
  obtain ⟨m0, hm0⟩ : ∃ m0, mergeL xa xb = m0 := ⟨_, rfl⟩
  rw [hm0] at HST ⊢
  have HOT := Lib.hid hot
  have HO := Lib.hid ho
  have HNE := Lib.hid hne
  unfold maxLen at hcm
  obtain ⟨na, hna⟩ : ∃ na, xa.length = na := ⟨_, rfl⟩
  obtain ⟨nb, hnb⟩ : ∃ nb, xb.length = nb := ⟨_, rfl⟩
  rw [hna, hnb] at HST ⊢
  clear hstart hm0 hot ho hne hn h1 h1m h2 h2m hpa hpb hA hB hF hT hna hnb
  go_enter Try.func53, Try.ntmps53
  go_wp2_with fail
  go_loopw [1, 2, 9] (fun va vb i wr => MR w gt gf n P old S F m0 va vb i wr) (fun _ _ i _ => n - (intOf i).toNat)
  case atStart => exact HST.out
  case round =>
    clear HST
    obtain ⟨k, xa, xb, done, pa, pb, oa, ob, ca, cb, hk, rfl, rfl, rfl, h1, h1m, h2, h2m, hpa, hpb, hA, hB, hd, hsum, hm, hF, hT, hg⟩ := hrel
    unfold maxLen at h1m h2m
    by_cases hlt : k < n
    · have hgm := get_mid P S done old k hd (by rw [HO.out]; exact hlt)
      rw [HOT.out] at hgm
      have hcell := hT.cell (ot + k) _ hgm
      have hfro := hT.frozen (ot + k)
      generalize old[k]'(by rw [HO.out]; exact hlt) = u at *
      have k0 : (0 : Int) ≤ (k : Int) := by omega
      have k1 : (k : Int) < (n : Int) := by omega
      have hcases : (∃ x xa', xa = x :: xa' ∧ mergeL (x :: xa') xb = x :: mergeL xa' xb ∧ (xb = [] ∨ ∃ y xb', xb = y :: xb' ∧ tle x y = true)) ∨ (∃ y xb', xb = y :: xb' ∧ mergeL xa (y :: xb') = y :: mergeL xa xb' ∧ (xa = [] ∨ ∃ x xa', xa = x :: xa' ∧ tle x y = false)) := by
        cases xb with
        | nil =>
          cases xa with
          | nil => simp at hsum; omega
          | cons x xa => exact .inl ⟨x, xa, rfl, by rw [mergeL_nil, mergeL_nil], .inl rfl⟩
        | cons y xb =>
          cases xa with
          | nil => exact .inr ⟨y, xb, rfl, by simp [mergeL], .inl rfl⟩
          | cons x xa =>
            cases hxy : tle x y with
            | true => exact .inl ⟨x, xa, rfl, mergeL_left hxy, .inr ⟨y, xb, rfl, hxy⟩⟩
            | false => exact .inr ⟨y, xb, rfl, mergeL_right hxy, .inr ⟨x, xa, rfl, hxy⟩⟩
      have HG := Lib.hid hg
      have HF := Lib.hid hF
      have HT := Lib.hid hT
      have HD := Lib.hid hd
      have HM := Lib.hid hm
      have HA := Lib.hid hA
      have HB := Lib.hid hB
      have HSUM := Lib.hid hsum
      clear hg hT hd hm hgm hsum
      rcases hcases with ⟨x, xa', rfl, hmx, hb⟩ | ⟨y, xb', rfl, hmx, ha⟩
      · obtain rfl := hpa (by simp)
        have hca := hF.cell oa _ hA.head
        unfold sv at hca
        have HMX := Lib.hid hmx
        have HPB := Lib.hid hpb
        clear hF hA hB hmx hpa
        obtain ⟨na, hna⟩ : ∃ na, xa'.length = na := ⟨_, rfl⟩
        have hxl : (x :: xa').length = na + 1 := by rw [List.length_cons, hna]
        rw [hxl] at h1 ⊢
        have HNA := Lib.hid hna
        clear hxl hna
        rcases hb with rfl | ⟨y, xb', rfl, hxy⟩
        · rw [List.length_nil]
          clear h2
          go_wp2_with fail
          go_quiet (fail)
          by_cases hc1 : ca = 1
          · go_wp2_with fail
            go_region
            all_goals
              go_wp2
              go_roundw
              case rel =>
                have hmr := MR.left (w := w) (wr := wr) (ca' := 0) (pa' := ⟨gf, oa, none⟩) (k := k) (old := old) (S := S) (m0 := m0) (xa := xa') (xb := []) (x := x) (pb := pb) hlt (by rw [HNA.out]; exact h1) (by unfold maxLen; omega) (show ([] : List ByteArray).length ≤ cb from Nat.zero_le _) (by unfold maxLen; omega) (fun h0 => by first | rfl | (rw [HNA.out] at h0; omega)) (by omega) (fun h0 => by simp at h0) HA.out HB.out HD.out (by have := HSUM.out; simpa using this) HM.out HMX.out ((HF.out.drewN (nq + 1)).far (Ne.symm HNE.out) _) HT.out HO.out (fun L hL => by rw [HOT.out]; exact (hL.drewN (nq + 1)).set (ot + k) (sv x)) (only_setCell (only_drewN HG.out (nq + 1)) (.inl rfl) (sv x))
                rw [HNA.out, List.length_nil] at hmr
                exact hmr
              case measure => simp [intOf]; omega
          · go_wp2_with fail
            go_region
            all_goals
              go_wp2
              go_roundw
              case rel =>
                have hmr := MR.left (w := w) (wr := wr) (ca' := (ca - 1)) (pa' := ⟨gf, oa + 1, none⟩) (k := k) (old := old) (S := S) (m0 := m0) (xa := xa') (xb := []) (x := x) (pb := pb) hlt (by rw [HNA.out]; exact h1) (by unfold maxLen; omega) (show ([] : List ByteArray).length ≤ cb from Nat.zero_le _) (by unfold maxLen; omega) (fun h0 => by first | rfl | (rw [HNA.out] at h0; omega)) (by omega) (fun h0 => by simp at h0) HA.out HB.out HD.out (by have := HSUM.out; simpa using this) HM.out HMX.out ((HF.out.drewN (nq + 1)).far (Ne.symm HNE.out) _) HT.out HO.out (fun L hL => by rw [HOT.out]; exact (hL.drewN (nq + 1)).set (ot + k) (sv x)) (only_setCell (only_drewN HG.out (nq + 1)) (.inl rfl) (sv x))
                rw [HNA.out, List.length_nil] at hmr
                exact hmr
              case measure => simp [intOf]; omega
        · obtain rfl := HPB.out (by simp)
          have hcb := HF.out.cell ob _ HB.out.head
          unfold sv at hcb
          unfold tle at hxy
          obtain ⟨nb, hnb⟩ : ∃ nb, xb'.length = nb := ⟨_, rfl⟩
          have hyl : (y :: xb').length = nb + 1 := by rw [List.length_cons, hnb]
          rw [hyl] at h2 ⊢
          have HYL := Lib.hid hyl
          clear hyl hnb
          go_wp2_with fail
          go_quiet (fail)
          by_cases hc1 : ca = 1
          · go_wp2_with fail
            go_region
            all_goals
              go_wp2
              go_roundw
              case rel =>
                have hmr := MR.left (w := w) (wr := wr) (ca' := 0) (pa' := ⟨gf, oa, none⟩) (k := k) (old := old) (S := S) (m0 := m0) (xa := xa') (xb := (y :: xb')) (x := x) (pb := ⟨gf, ob, none⟩) hlt (by rw [HNA.out]; exact h1) (by unfold maxLen; omega) (show ((y :: xb') : List ByteArray).length ≤ cb from by rw [HYL.out]; exact h2) (by unfold maxLen; omega) (fun h0 => by first | rfl | (rw [HNA.out] at h0; omega)) (by omega) (fun _ => rfl) HA.out HB.out HD.out (by have := HSUM.out; simpa using this) HM.out HMX.out ((HF.out.drewN (nq + 1)).far (Ne.symm HNE.out) _) HT.out HO.out (fun L hL => by rw [HOT.out]; exact (hL.drewN (nq + 1)).set (ot + k) (sv x)) (only_setCell (only_drewN HG.out (nq + 1)) (.inl rfl) (sv x))
                rw [HNA.out, HYL.out] at hmr
                exact hmr
              case measure => simp [intOf]; omega
          · go_wp2_with fail
            go_region
            all_goals
              go_wp2
              go_roundw
              case rel =>
                have hmr := MR.left (w := w) (wr := wr) (ca' := (ca - 1)) (pa' := ⟨gf, oa + 1, none⟩) (k := k) (old := old) (S := S) (m0 := m0) (xa := xa') (xb := (y :: xb')) (x := x) (pb := ⟨gf, ob, none⟩) hlt (by rw [HNA.out]; exact h1) (by unfold maxLen; omega) (show ((y :: xb') : List ByteArray).length ≤ cb from by rw [HYL.out]; exact h2) (by unfold maxLen; omega) (fun h0 => by first | rfl | (rw [HNA.out] at h0; omega)) (by omega) (fun _ => rfl) HA.out HB.out HD.out (by have := HSUM.out; simpa using this) HM.out HMX.out ((HF.out.drewN (nq + 1)).far (Ne.symm HNE.out) _) HT.out HO.out (fun L hL => by rw [HOT.out]; exact (hL.drewN (nq + 1)).set (ot + k) (sv x)) (only_setCell (only_drewN HG.out (nq + 1)) (.inl rfl) (sv x))
                rw [HNA.out, HYL.out] at hmr
                exact hmr
              case measure => simp [intOf]; omega
      · obtain rfl := hpb (by simp)
        have hcb := hF.cell ob _ hB.head
        unfold sv at hcb
        have HMX := Lib.hid hmx
        have HPA := Lib.hid hpa
        clear hF hA hB hmx hpb
        obtain ⟨nb, hnb⟩ : ∃ nb, xb'.length = nb := ⟨_, rfl⟩
        have hyl : (y :: xb').length = nb + 1 := by rw [List.length_cons, hnb]
        rw [hyl] at h2 ⊢
        have HNB := Lib.hid hnb
        clear hyl hnb
        rcases ha with rfl | ⟨x, xa', rfl, hxy⟩
        · rw [List.length_nil]
          clear h1
          go_wp2_with fail
          go_quiet (fail)
          by_cases hc1 : cb = 1
          · go_wp2_with fail
            go_region
            all_goals
              go_wp2
              go_roundw
              case rel =>
                have hmr := MR.right (w := w) (wr := wr) (cb' := 0) (pb' := ⟨gf, ob, none⟩) (k := k) (old := old) (S := S) (m0 := m0) (xa := []) (xb := xb') (x := y) (pa := pa) hlt (show ([] : List ByteArray).length ≤ ca from Nat.zero_le _) (by unfold maxLen; omega) (by rw [HNB.out]; exact h2) (by unfold maxLen; omega) (fun h0 => by simp at h0) (by omega) (fun h0 => by first | rfl | (rw [HNB.out] at h0; omega)) HA.out HB.out HD.out (by have := HSUM.out; simpa using this) HM.out HMX.out ((HF.out.drewN (nq + 1)).far (Ne.symm HNE.out) _) HT.out HO.out (fun L hL => by rw [HOT.out]; exact (hL.drewN (nq + 1)).set (ot + k) (sv y)) (only_setCell (only_drewN HG.out (nq + 1)) (.inl rfl) (sv y))
                rw [HNB.out, List.length_nil] at hmr
                exact hmr
              case measure => simp [intOf]; omega
          · go_wp2_with fail
            go_region
            all_goals
              go_wp2
              go_roundw
              case rel =>
                have hmr := MR.right (w := w) (wr := wr) (cb' := (cb - 1)) (pb' := ⟨gf, ob + 1, none⟩) (k := k) (old := old) (S := S) (m0 := m0) (xa := []) (xb := xb') (x := y) (pa := pa) hlt (show ([] : List ByteArray).length ≤ ca from Nat.zero_le _) (by unfold maxLen; omega) (by rw [HNB.out]; exact h2) (by unfold maxLen; omega) (fun h0 => by simp at h0) (by omega) (fun h0 => by first | rfl | (rw [HNB.out] at h0; omega)) HA.out HB.out HD.out (by have := HSUM.out; simpa using this) HM.out HMX.out ((HF.out.drewN (nq + 1)).far (Ne.symm HNE.out) _) HT.out HO.out (fun L hL => by rw [HOT.out]; exact (hL.drewN (nq + 1)).set (ot + k) (sv y)) (only_setCell (only_drewN HG.out (nq + 1)) (.inl rfl) (sv y))
                rw [HNB.out, List.length_nil] at hmr
                exact hmr
              case measure => simp [intOf]; omega
        · obtain rfl := HPA.out (by simp)
          have hca := HF.out.cell oa _ HA.out.head
          unfold sv at hca
          unfold tle at hxy
          obtain ⟨na, hna⟩ : ∃ na, xa'.length = na := ⟨_, rfl⟩
          have hxl : (x :: xa').length = na + 1 := by rw [List.length_cons, hna]
          rw [hxl] at h1 ⊢
          have HXL := Lib.hid hxl
          clear hxl hna
          go_wp2_with fail
          go_quiet (fail)
          by_cases hc1 : cb = 1
          · go_wp2_with fail
            go_region
            all_goals
              go_wp2
              go_roundw
              case rel =>
                have hmr := MR.right (w := w) (wr := wr) (cb' := 0) (pb' := ⟨gf, ob, none⟩) (k := k) (old := old) (S := S) (m0 := m0) (xa := (x :: xa')) (xb := xb') (x := y) (pa := ⟨gf, oa, none⟩) hlt (show ((x :: xa') : List ByteArray).length ≤ ca from by rw [HXL.out]; exact h1) (by unfold maxLen; omega) (by rw [HNB.out]; exact h2) (by unfold maxLen; omega) (fun _ => rfl) (by omega) (fun h0 => by first | rfl | (rw [HNB.out] at h0; omega)) HA.out HB.out HD.out (by have := HSUM.out; simpa using this) HM.out HMX.out ((HF.out.drewN (nq + 1)).far (Ne.symm HNE.out) _) HT.out HO.out (fun L hL => by rw [HOT.out]; exact (hL.drewN (nq + 1)).set (ot + k) (sv y)) (only_setCell (only_drewN HG.out (nq + 1)) (.inl rfl) (sv y))
                rw [HNB.out, HXL.out] at hmr
                exact hmr
              case measure => simp [intOf]; omega
          · go_wp2_with fail
            go_region
            all_goals
              go_wp2
              go_roundw
              case rel =>
                have hmr := MR.right (w := w) (wr := wr) (cb' := (cb - 1)) (pb' := ⟨gf, ob + 1, none⟩) (k := k) (old := old) (S := S) (m0 := m0) (xa := (x :: xa')) (xb := xb') (x := y) (pa := ⟨gf, oa, none⟩) hlt (show ((x :: xa') : List ByteArray).length ≤ ca from by rw [HXL.out]; exact h1) (by unfold maxLen; omega) (by rw [HNB.out]; exact h2) (by unfold maxLen; omega) (fun _ => rfl) (by omega) (fun h0 => by first | rfl | (rw [HNB.out] at h0; omega)) HA.out HB.out HD.out (by have := HSUM.out; simpa using this) HM.out HMX.out ((HF.out.drewN (nq + 1)).far (Ne.symm HNE.out) _) HT.out HO.out (fun L hL => by rw [HOT.out]; exact (hL.drewN (nq + 1)).set (ot + k) (sv y)) (only_setCell (only_drewN HG.out (nq + 1)) (.inl rfl) (sv y))
                rw [HNB.out, HXL.out] at hmr
                exact hmr
              case measure => simp [intOf]; omega
    · obtain rfl : k = n := by omega
      have hx0 : xa = [] := List.eq_nil_of_length_eq_zero (by omega)
      have hy0 : xb = [] := List.eq_nil_of_length_eq_zero (by omega)
      subst hx0 hy0
      have hm' : done = m0 := by rw [← hm]; simp [mergeL]
      have hTT : BlkL wr gt (P ++ m0.map sv ++ S) := by
        rw [← hm']
        rw [List.drop_of_length_le (by rw [HO.out]; exact Nat.le_refl _), List.append_nil] at hT
        exact hT
      have HTT := Lib.hid hTT
      have HF := Lib.hid hF
      have HG := Lib.hid hg
      clear hF hT hg hm hm' hTT hd hsum hA hB hpa hpb h1 h2
      go_wp2_with fail
      go_end0
      exact ⟨rfl, HF.out, HTT.out, HG.out⟩
end Go.Proofs.Ytecpedecgcaeoaa.Tx
