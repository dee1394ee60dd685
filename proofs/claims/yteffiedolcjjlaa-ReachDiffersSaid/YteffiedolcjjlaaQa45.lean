/- Texts put together: YRd. -/
import Derived.Test.YteffiedolcjjlaaQa43
import Derived.Test.YteffiedolcjjlaaQa19
/- marlaw12.ReachDiffers: the walk. -/
set_option linter.unusedVariables false
set_option linter.unusedSimpArgs false
namespace Go.Proofs.Yteffiedolcjjlaa.Ob
open Go.RowKit Go.Maps Go.Proofs.Yteffiedolcjjlaa.Sh
open Go.Proofs.Yteffiedolcjjlaa.Tx (OwnV SlV sv Only Rd reads_at hasT hasT_yes hasT_no hasT_iff WK RB sortT TextsPost Strict texts_at sort_strict' mem_sort uniqT uniqT_eq copyt_any runiq_any texts_same append_texts rhas_any)

theorem str_tl (s : ByteArray) : str s.toList = s := Tx.ba_ext (str_toList _)
theorem rises_strict {v : Value} {ys : List ByteArray} {w : World} (h : SlV w v (ys.map sv)) (hs : Strict ys) : Calls Try.prog 13 #[v] w (Yes1 w) := by
  have e : (ys.map ByteArray.toList).map str = ys := by
    rw [List.map_map]
    have : (str ∘ ByteArray.toList) = id := funext str_tl
    rw [this, List.map_id]
  have hr : risesB (ys.map ByteArray.toList) = true := by
    unfold risesB
    rw [List.all_eq_true]
    intro j hj
    rw [List.mem_range, List.length_map] at hj
    have h1 : (ys.map ByteArray.toList).getD j [] = (ys[j]'(by omega)).toList := by rw [List.getD_eq_getElem?_getD, List.getElem?_map, List.getElem?_eq_getElem (by omega)]; rfl
    have h2 : (ys.map ByteArray.toList).getD (j + 1) [] = (ys[j + 1]'(by omega)).toList := by rw [List.getD_eq_getElem?_getD, List.getElem?_map, List.getElem?_eq_getElem (by omega)]; rfl
    rw [h1, h2]
    exact List.pairwise_iff_getElem.1 hs j (j + 1) (by omega) (by omega) (by omega)
  have := rrises_any v (ys.map ByteArray.toList) w (by rw [e]; exact h)
  rw [hr] at this
  exact this
set_option maxRecDepth 100000 in
set_option maxHeartbeats 6400000 in
theorem differs_any (v : Value) (l : List (List UInt8)) (va : Value) (a : List ByteArray) (vb : Value) (b : List ByteArray) (w : World) (h : LsV w v l) (ha : SlV w va (a.map sv)) (hb : SlV w vb (b.map sv)) : Calls Try.prog 4 #[v, va, vb] w (Yes1 w) := by
  have H := Lib.hid h
  have HA := Lib.hid ha
  have HBB := Lib.hid hb
  obtain ⟨Aa, ca, rfl⟩ := slv_slice ha
  obtain ⟨Ab, cb, rfl⟩ := slv_slice hb
  rw [List.length_map] at HA
  rw [List.length_map] at HBB
  rw [List.length_map, List.length_map]
  obtain ⟨na, hna⟩ : ∃ n, a.length = n := ⟨_, rfl⟩
  obtain ⟨nb, hnb⟩ : ∃ n, b.length = n := ⟨_, rfl⟩
  rw [hna] at HA ⊢
  rw [hnb] at HBB ⊢
  have HNA := Lib.hid hna
  have HNB := Lib.hid hnb
  clear h ha hb hna hnb
  go_enter Try.func4, Try.ntmps4
  go_wp2_with fail
  refine (first12_any w).mono ?_
  rintro e w1 ⟨rfl, hb1⟩
  have HB1 := Lib.hid hb1
  clear hb1
  go_wp2_with fail
  refine (pfew_any v l w1 (H.out.below HB1.out)).mono ?_
  rintro e w2 ⟨t, rfl, ht, hb2⟩
  have HT := Lib.hid ht
  have HB2 := Lib.hid (HB1.out.trans (hb2.mono HB1.out.size))
  clear hb2 ht
  cases t with
  | false =>
    go_wp2_with fail
    refine (first12_then HB2.out HB2.out.size).mono ?_
    rintro e w3 ⟨rfl, hb3⟩
    have HB3 := Lib.hid hb3
    clear hb3
    go_wp2_with fail
    go_ret
    exact ⟨rfl, HB3.out⟩
  | true =>
  obtain ⟨hl40, hl15⟩ := HT.out rfl
  have HL40 := Lib.hid hl40
  have HL15 := Lib.hid hl15
  clear hl40 hl15
  go_wp2_with fail
  refine (few12_any _ a w2 (HA.out.below HB2.out)).mono ?_
  rintro e w' ⟨ta, rfl, hta, rfl⟩
  have HTA := Lib.hid hta
  clear hta
  cases ta with
  | false =>
    go_wp2_with fail
    refine (first12_then HB2.out HB2.out.size).mono ?_
    rintro e w3 ⟨rfl, hb3⟩
    have HB3 := Lib.hid hb3
    clear hb3
    go_wp2_with fail
    go_ret
    exact ⟨rfl, HB3.out⟩
  | true =>
  obtain ⟨ha20, has⟩ := HTA.out rfl
  have HA20 := Lib.hid ha20
  have HAS := Lib.hid has
  clear ha20 has
  go_wp2_with fail
  refine (few12_any _ b w2 (HBB.out.below HB2.out)).mono ?_
  rintro e w' ⟨tb, rfl, htb, rfl⟩
  have HTB := Lib.hid htb
  clear htb
  cases tb with
  | false =>
    go_wp2_with fail
    refine (first12_then HB2.out HB2.out.size).mono ?_
    rintro e w3 ⟨rfl, hb3⟩
    have HB3 := Lib.hid hb3
    clear hb3
    go_wp2_with fail
    go_ret
    exact ⟨rfl, HB3.out⟩
  | true =>
  obtain ⟨hb20, hbs⟩ := HTB.out rfl
  have HB20 := Lib.hid hb20
  have HBS := Lib.hid hbs
  clear hb20 hbs
  have HNM : Hid ((a ++ b).length ≤ 40) := by unfold Hid; rw [List.length_append]; have := HA20.out; have := HB20.out; omega
  have HNS : Hid (∀ n ∈ a ++ b, n.size ≤ 100) := fun n hn => (List.mem_append.1 hn).elim (HAS.out n) (HBS.out n)
  have HIA : Hid (∀ f ∈ a, f ∈ Bd l (a ++ b)) := fun f hf => List.mem_append_left _ (List.mem_append_left _ hf)
  have HIB : Hid (∀ f ∈ b, f ∈ Bd l (a ++ b)) := fun f hf => List.mem_append_left _ (List.mem_append_right _ hf)
  have HSZ : Hid (∀ f ∈ Bd l (a ++ b), f.size ≤ 1000000) := fun f hf => bd_size HNS.out hf
  go_wp2_with fail
  refine (source_any v l false w2 (H.out.below HB2.out) (by have := HL40.out; omega) (fun x hx => by have := HL15.out x hx; omega)).mono ?_
  rintro e w3 ⟨p1, p2, p3, rfl, hsrc, hb3⟩
  have HSRC := Lib.hid hsrc
  have HB3 := Lib.hid (HB2.out.trans (hb3.mono HB2.out.size))
  clear hsrc hb3
  go_wp2_with fail
  refine (diffY_any (names := a ++ b) HSRC.out HL40.out HL15.out HNM.out HIA.out HIB.out (HA.out.below HB3.out) (HBB.out.below HB3.out) (fun s hs => HSZ.out s (HIA.out s hs)) (fun s hs => HSZ.out s (HIB.out s hs)) (by have := HA20.out; omega) (by have := HB20.out; omega)).mono ?_
  rintro e w4 ⟨hb4, hd⟩
  have HB4 := Lib.hid (HB3.out.trans (hb4.mono HB3.out.size))
  have HSR4 := Lib.hid (HSRC.out.below hb4)
  have HCX : Hid (∀ W, Below w4.heap.size w4 W → Calls Try.prog 11 #[srcV p1 p2 p3, .slice Aa na ca, .int .i64 2000] W (CloY (srcP l false) a W)) := fun W hW => cloY_any (names := a ++ b) (HSR4.out.below hW) HL40.out HL15.out HNM.out HIA.out (HA.out.below (HB4.out.trans (hW.mono HB4.out.size))) (fun s hs => HSZ.out s (HIA.out s hs)) (by have := HA20.out; omega)
  have HCP : Hid (∀ W, Below w4.heap.size w4 W → Calls Try.prog 11 #[srcV p1 p2 p3, .slice Ab nb cb, .int .i64 2000] W (CloY (srcP l false) b W)) := fun W hW => cloY_any (names := a ++ b) (HSR4.out.below hW) HL40.out HL15.out HNM.out HIB.out (HBB.out.below (HB4.out.trans (hW.mono HB4.out.size))) (fun s hs => HSZ.out s (HIB.out s hs)) (by have := HB20.out; omega)
  have HDD : Hid (∀ W, Below w4.heap.size w4 W → Calls Try.prog 19 #[srcV p1 p2 p3, .slice Aa na ca, .slice Aa na ca, .int .i64 2000] W (DiffY (srcP l false) a a W)) := fun W hW => diffY_any (names := a ++ b) (HSR4.out.below hW) HL40.out HL15.out HNM.out HIA.out HIA.out (HA.out.below (HB4.out.trans (hW.mono HB4.out.size))) (HA.out.below (HB4.out.trans (hW.mono HB4.out.size))) (fun s hs => HSZ.out s (HIA.out s hs)) (fun s hs => HSZ.out s (HIA.out s hs)) (by have := HA20.out; omega) (by have := HA20.out; omega)
  rcases hd with ⟨hlk, rfl⟩ | ⟨hall, d, vd, rfl, hod, hsd, hld, hmd⟩
  · have HLK := Lib.hid hlk
    clear hb4 hlk
    go_wp2_with fail
    refine (HCX.out w4 (Below.refl _ _)).mono ?_
    rintro e w5 ⟨x, y, vx, vy, hc1, rfl, hb5, hox, hoy⟩
    have HB5 := Lib.hid (HB4.out.trans (hb5.mono HB4.out.size))
    have HB45 := Lib.hid hb5
    obtain ⟨Ay, cy, rfl⟩ := owned_slice hoy
    have hy0 : 0 < y.length := by
      obtain ⟨s, h1, h2⟩ := HLK.out
      exact List.length_pos_of_mem ((hc1.my s).2 ⟨h1, h2⟩)
    rw [List.length_map]
    obtain ⟨ny, hny⟩ : ∃ n, y.length = n := ⟨_, rfl⟩
    rw [hny] at hy0 ⊢
    have z1 : ((ny : Int) == 0) = false := by rw [beq_eq_false_iff_ne]; omega
    have z2 : ¬ ((ny : Int) = 0) := by omega
    clear hc1 hb5 hox hoy hny
    go_wp2_with fail
    refine (HCP.out w5 HB45.out).mono ?_
    rintro e w6 ⟨p, q, vp, vq, hc2, rfl, hb6, hop, hoq⟩
    have HB6 := Lib.hid (HB5.out.trans (hb6.mono HB5.out.size))
    clear hc2 hb6 hop hoq
    go_wp2_with fail
    refine (first12_then HB6.out HB6.out.size).mono ?_
    rintro e w7 ⟨rfl, hb7⟩
    have HB7 := Lib.hid hb7
    clear hb7
    go_wp2_with fail
    go_ret
    exact ⟨rfl, HB7.out⟩
  · have HALL := Lib.hid hall
    have HOD := Lib.hid (hod.base HB3.out.size)
    have HSD := Lib.hid hsd
    have HMD := Lib.hid hmd
    have HLD := Lib.hid hld
    obtain ⟨Ad, cd, rfl⟩ := owned_slice hod
    rw [List.length_map] at HOD ⊢
    obtain ⟨nd, hnd⟩ : ∃ n, d.length = n := ⟨_, rfl⟩
    rw [hnd] at HOD ⊢
    have HND := Lib.hid hnd
    clear hb4 hall hod hsd hld hmd hnd
    go_wp2_with fail
    refine (HCX.out w4 (Below.refl _ _)).mono ?_
    rintro e w5 ⟨x, y, vx, vy, hc1, rfl, hb5, hox, hoy⟩
    have HB5 := Lib.hid (HB4.out.trans (hb5.mono HB4.out.size))
    have HB45 := Lib.hid hb5
    have HC1 := Lib.hid hc1
    have HOD5 := Lib.hid (HOD.out.below hb5)
    have HOX := Lib.hid (hox.base HB4.out.size)
    obtain ⟨Ax, cx, rfl⟩ := owned_slice hox
    obtain ⟨Ay, cy, rfl⟩ := owned_slice hoy
    have hy0 : y = [] := by
      refine List.eq_nil_iff_forall_not_mem.2 fun s hs => ?_
      obtain ⟨h1, h2⟩ := (hc1.my s).1 hs
      rw [HALL.out s h1] at h2
      cases h2
    rw [hy0, List.length_map, List.length_map] 
    rw [List.length_map] at HOX
    obtain ⟨nx, hnx⟩ : ∃ n, x.length = n := ⟨_, rfl⟩
    rw [hnx] at HOX ⊢
    have HNX := Lib.hid hnx
    rw [show ([] : List ByteArray).length = 0 from rfl]
    clear hc1 hb5 hox hoy hnx hy0
    go_wp2_with fail
    refine (HCP.out w5 HB45.out).mono ?_
    rintro e w6 ⟨p, q, vp, vq, hc2, rfl, hb6, hop, hoq⟩
    have HB6 := Lib.hid (HB5.out.trans (hb6.mono HB5.out.size))
    have HB46 := Lib.hid (HB45.out.trans (hb6.mono HB45.out.size))
    have HC2 := Lib.hid hc2
    have HOD6 := Lib.hid (HOD5.out.below hb6)
    have HOX6 := Lib.hid (HOX.out.below hb6)
    have HOP := Lib.hid hop
    have HOQ := Lib.hid hoq
    clear hc2 hb6 hop hoq
    go_wp2_with fail
    have hnxb : nx ≤ 1840 := by have h1 := HC1.out.len.1; have h2 := HNX.out; omega
    have hndb : nd ≤ 1840 := by have h1 := HLD.out; have h2 := HND.out; omega
    go_loopw [16] (fun x wr => ∃ i : Nat, i ≤ nx ∧ x = .int .i64 (i : Int) ∧ Below w6.heap.size w6 wr) (fun x _ => nx - (intOf x).toNat)
    case atStart => exact ⟨0, Nat.zero_le _, rfl, Below.refl _ _⟩
    case round =>
      obtain ⟨i, hi, rfl, hbw⟩ := hrel
      have HBW := Lib.hid hbw
      clear hbw
      have z0 : (0 : Int) ≤ (i : Int) := by omega
      by_cases hlt : i < nx
      · have z1 : (i : Int) < (nx : Int) := by omega
        have hix : i < x.length := by have := HNX.out; omega
        obtain ⟨s, hs⟩ : ∃ s, x[i]? = some s := ⟨_, List.getElem?_eq_getElem hix⟩
        obtain ⟨ad, rfl, x0⟩ : ∃ ad, Ax = some ad ∧ wr.cell? (ad.add i) = some (.string s) := by
          obtain ⟨A', c', e', _, _, hrd, _⟩ := (HOX6.out.below HBW.out).slv
          injection e' with e' _ _
          subst e'
          exact reads_at hrd i (sv s) (by rw [List.getElem?_map, hs]; rfl)
        obtain ⟨hra, hpa⟩ := (HC1.out.mx s).1 (List.mem_of_getElem? hs)
        have hQ3 : hasT q s = false := hasT_no fun hm => by
          have := ((HC2.out.my s).1 hm).2
          rw [hpa] at this
          cases this
        have HQ3 : Hid (∀ W, Below wr.heap.size wr W → Calls Try.prog 15 #[vq, .string s] W fun e w' => e = .returned (.bool (hasT q s)) ∧ W = w') := fun W hW => rhas_any vq q s W ((HOQ.out.below HBW.out).below hW).slv
        rw [hQ3] at HQ3
        have HQ2 : Hid (∀ W, Below wr.heap.size wr W → Calls Try.prog 15 #[vp, .string s] W fun e w' => e = .returned (.bool (hasT p s)) ∧ W = w') := fun W hW => rhas_any vp p s W ((HOP.out.below HBW.out).below hW).slv
        have HQ1 : Hid (∀ W, Below wr.heap.size wr W → Calls Try.prog 15 #[.slice Ad nd cd, .string s] W fun e w' => e = .returned (.bool (hasT d s)) ∧ W = w') := fun W hW => rhas_any (.slice Ad nd cd) d s W ((HOD6.out.below HBW.out).below hW).slv
        have hd12 : hasT d s = !hasT p s := by
          cases hp : hasT p s with
          | true =>
            refine hasT_no fun hm => ?_
            exact ((HMD.out s).1 hm).2 ((HC2.out.mx s).1 (hasT_iff.1 hp)).1
          | false =>
            refine hasT_yes ((HMD.out s).2 ⟨hra, fun hr => ?_⟩)
            rw [hasT_yes ((HC2.out.mx s).2 ⟨hr, hpa⟩)] at hp
            cases hp
        rw [hd12] at HQ1
        obtain ⟨t2, ht2⟩ : ∃ t, hasT p s = t := ⟨_, rfl⟩
        rw [ht2] at HQ1 HQ2
        clear hix hs hra hpa hQ3 hd12 ht2
        cases t2 with
        | true =>
          change Hid (∀ W, Below wr.heap.size wr W → Calls _ _ _ _ fun e w' => e = .returned (.bool false) ∧ W = w') at HQ1
          go_upto_region 16 with (fail)
          -- STEPS true
          refine wp_region_held_drew (S := (fun W => W.cell? (ad.add i) = some (.string s))) (by kernel_rfl) ?_ (fun hHeld => ?_)
          · try dsimp only
            exact x0
          refine take_at (i := 0) (d := 91) (v := ?_) rfl (by kernel_rfl) (by kernel_rfl) (by kernel_rfl) (by kernel_rfl) (fun _ _ _ h => h) (Or.inl ⟨by kernel_rfl, ?_⟩) (by assumption) ?_
          rotate_left
          · intro W hSw
            try dsimp only at hSw
            go_simp
            first | done | with_reducible rfl
          try simp only [Act.put, List.setIfInBounds_toArray, List.set_cons_zero, List.set_cons_succ]
          refine take_at (i := 1) (d := 92) (v := ?_) rfl (by kernel_rfl) (by kernel_rfl) (by kernel_rfl) (by kernel_rfl) (fun _ _ _ h => h) (Or.inl ⟨by kernel_rfl, ?_⟩) (by assumption) ?_
          rotate_left
          · intro W hSw
            try dsimp only at hSw
            go_simp
            first | done | with_reducible rfl
          try simp only [Act.put, List.setIfInBounds_toArray, List.set_cons_zero, List.set_cons_succ]
          refine take_at (i := 2) (d := 93) (v := ?_) rfl (by kernel_rfl) (by kernel_rfl) (by kernel_rfl) (by kernel_rfl) (fun _ _ _ h => h) (Or.inl ⟨by kernel_rfl, ?_⟩) (by assumption) ?_
          rotate_left
          · intro W hSw
            try dsimp only at hSw
            go_simp
            first | done | with_reducible rfl
          try simp only [Act.put, List.setIfInBounds_toArray, List.set_cons_zero, List.set_cons_succ]
          refine take_at (i := 3) (d := 94) (v := ?_) rfl (by kernel_rfl) (by kernel_rfl) (by kernel_rfl) (by kernel_rfl) (fun _ _ _ h => h) (Or.inl ⟨by kernel_rfl, ?_⟩) (by assumption) ?_
          rotate_left
          · intro W hSw
            try dsimp only at hSw
            go_simp
            first | done | with_reducible rfl
          try simp only [Act.put, List.setIfInBounds_toArray, List.set_cons_zero, List.set_cons_succ]
          refine take_at (i := 4) (d := 95) (v := ?_) rfl (by kernel_rfl) (by kernel_rfl) (by kernel_rfl) (by kernel_rfl) (fun _ _ _ h => h) (Or.inl ⟨by kernel_rfl, ?_⟩) (by assumption) ?_
          rotate_left
          · intro W hSw
            try dsimp only at hSw
            go_simp
            first | done | with_reducible rfl
          try simp only [Act.put, List.setIfInBounds_toArray, List.set_cons_zero, List.set_cons_succ]
          refine take_at (i := 6) (d := 97) (v := ?_) rfl (by kernel_rfl) (by kernel_rfl) (by kernel_rfl) (by kernel_rfl) (fun _ _ _ h => h) (Or.inl ⟨by kernel_rfl, ?_⟩) (by assumption) ?_
          rotate_left
          · intro W hSw
            try dsimp only at hSw
            go_simp
            first | done | with_reducible rfl
          try simp only [Act.put, List.setIfInBounds_toArray, List.set_cons_zero, List.set_cons_succ]
          refine take_at (i := 7) (d := 98) (v := ?_) rfl (by kernel_rfl) (by kernel_rfl) (by kernel_rfl) (by kernel_rfl) (fun _ _ _ h => h) (Or.inl ⟨by kernel_rfl, ?_⟩) (by assumption) ?_
          rotate_left
          · intro W hSw
            try dsimp only at hSw
            go_simp
            first | done | with_reducible rfl
          try simp only [Act.put, List.setIfInBounds_toArray, List.set_cons_zero, List.set_cons_succ]
          refine take_at (i := 8) (d := 99) (v := ?_) rfl (by kernel_rfl) (by kernel_rfl) (by kernel_rfl) (by kernel_rfl) (fun _ _ _ h => h) (Or.inl ⟨by kernel_rfl, ?_⟩) (by assumption) ?_
          rotate_left
          · intro W hSw
            try dsimp only at hSw
            go_simp
            first | done | with_reducible rfl
          try simp only [Act.put, List.setIfInBounds_toArray, List.set_cons_zero, List.set_cons_succ]
          refine take_at (i := 9) (d := 100) (v := ?_) rfl (by kernel_rfl) (by kernel_rfl) (by kernel_rfl) (by kernel_rfl) (fun _ _ _ h => h) (Or.inl ⟨by kernel_rfl, ?_⟩) (by assumption) ?_
          rotate_left
          · intro W hSw
            try dsimp only at hSw
            go_simp
            first | done | with_reducible rfl
          try simp only [Act.put, List.setIfInBounds_toArray, List.set_cons_zero, List.set_cons_succ]
          refine take_at (i := 10) (d := 101) (v := ?_) rfl (by kernel_rfl) (by kernel_rfl) (by kernel_rfl) (by kernel_rfl) (fun _ _ _ h => h) (Or.inl ⟨by kernel_rfl, ?_⟩) (by assumption) ?_
          rotate_left
          · intro W hSw
            try dsimp only at hSw
            go_simp
            first | done | with_reducible rfl
          try simp only [Act.put, List.setIfInBounds_toArray, List.set_cons_zero, List.set_cons_succ]
          refine wpAnyH_ready (rs := [5]) (by kernel_rfl) (by simp) (AllReadyH.cons rfl (fun K hK => ?_) AllReadyH.nil)
          go_simp
          refine (HQ1.out _ (Below.refl _ _).drew).mono ?_
          rintro e w8 ⟨rfl, rfl⟩
          try go_wp2_with fail
          refine hK.out _ _ ?_ (fun hHeld => ?_)
          · try dsimp only
            exact x0
          clear hK K
          try simp only [Act.put, List.setIfInBounds_toArray, List.set_cons_zero, List.set_cons_succ]
          refine wpAnyH_ready (rs := [11]) (by kernel_rfl) (by simp) (AllReadyH.cons rfl (fun K hK => ?_) AllReadyH.nil)
          go_simp
          refine (HQ2.out _ (Below.refl _ _).drew).mono ?_
          rintro e w8 ⟨rfl, rfl⟩
          try go_wp2_with fail
          refine hK.out _ _ ?_ (fun hHeld => ?_)
          · try dsimp only
            exact x0
          clear hK K
          try simp only [Act.put, List.setIfInBounds_toArray, List.set_cons_zero, List.set_cons_succ]
          refine take_at (i := 12) (d := 103) (v := ?_) rfl (by kernel_rfl) (by kernel_rfl) (by kernel_rfl) (by kernel_rfl) (fun _ _ _ h => h) (Or.inl ⟨by kernel_rfl, ?_⟩) (by assumption) ?_
          rotate_left
          · intro W hSw
            try dsimp only at hSw
            go_simp
            first | done | with_reducible rfl
          try simp only [Act.put, List.setIfInBounds_toArray, List.set_cons_zero, List.set_cons_succ]
          refine take_at (i := 13) (d := 104) (v := undef) rfl (by kernel_rfl) (by kernel_rfl) (by kernel_rfl) (by kernel_rfl) (fun _ _ _ h => h) (Or.inr ⟨by kernel_rfl, rfl⟩) (by assumption) ?_
          try simp only [Act.put, List.setIfInBounds_toArray, List.set_cons_zero, List.set_cons_succ]
          refine take_at (i := 14) (d := 105) (v := undef) rfl (by kernel_rfl) (by kernel_rfl) (by kernel_rfl) (by kernel_rfl) (fun _ _ _ h => h) (Or.inr ⟨by kernel_rfl, rfl⟩) (by assumption) ?_
          try simp only [Act.put, List.setIfInBounds_toArray, List.set_cons_zero, List.set_cons_succ]
          refine take_at (i := 15) (d := 106) (v := undef) rfl (by kernel_rfl) (by kernel_rfl) (by kernel_rfl) (by kernel_rfl) (fun _ _ _ h => h) (Or.inr ⟨by kernel_rfl, rfl⟩) (by assumption) ?_
          try simp only [Act.put, List.setIfInBounds_toArray, List.set_cons_zero, List.set_cons_succ]
          refine take_at (i := 16) (d := 107) (v := undef) rfl (by kernel_rfl) (by kernel_rfl) (by kernel_rfl) (by kernel_rfl) (fun _ _ _ h => h) (Or.inr ⟨by kernel_rfl, rfl⟩) (by assumption) ?_
          try simp only [Act.put, List.setIfInBounds_toArray, List.set_cons_zero, List.set_cons_succ]
          refine take_at (i := 17) (d := 108) (v := undef) rfl (by kernel_rfl) (by kernel_rfl) (by kernel_rfl) (by kernel_rfl) (fun _ _ _ h => h) (Or.inr ⟨by kernel_rfl, rfl⟩) (by assumption) ?_
          try simp only [Act.put, List.setIfInBounds_toArray, List.set_cons_zero, List.set_cons_succ]
          refine take_at (i := 18) (d := 109) (v := undef) rfl (by kernel_rfl) (by kernel_rfl) (by kernel_rfl) (by kernel_rfl) (fun _ _ _ h => h) (Or.inr ⟨by kernel_rfl, rfl⟩) (by assumption) ?_
          try simp only [Act.put, List.setIfInBounds_toArray, List.set_cons_zero, List.set_cons_succ]
          refine take_at (i := 19) (d := 110) (v := ?_) rfl (by kernel_rfl) (by kernel_rfl) (by kernel_rfl) (by kernel_rfl) (fun _ _ _ h => h) (Or.inl ⟨by kernel_rfl, ?_⟩) (by assumption) ?_
          rotate_left
          · intro W hSw
            try dsimp only at hSw
            go_simp
            first | done | with_reducible rfl
          try simp only [Act.put, List.setIfInBounds_toArray, List.set_cons_zero, List.set_cons_succ]
          refine take_at (i := 20) (d := 111) (v := ?_) rfl (by kernel_rfl) (by kernel_rfl) (by kernel_rfl) (by kernel_rfl) (fun _ _ _ h => h) (Or.inl ⟨by kernel_rfl, ?_⟩) (by assumption) ?_
          rotate_left
          · intro W hSw
            try dsimp only at hSw
            go_simp
            first | done | with_reducible rfl
          try simp only [Act.put, List.setIfInBounds_toArray, List.set_cons_zero, List.set_cons_succ]
          refine wpAnyH_done (by kernel_rfl) ?_ _
          go_wp2_with fail
          go_roundw
          case rel => exact ⟨i + 1, by omega, by go_num, HBW.out.drew⟩
          case measure => simp [intOf]; omega
          -- END STEPS true
        | false =>
          change Hid (∀ W, Below wr.heap.size wr W → Calls _ _ _ _ fun e w' => e = .returned (.bool true) ∧ W = w') at HQ1
          go_upto_region 16 with (fail)
          -- STEPS false
          refine wp_region_held_drew (S := (fun W => W.cell? (ad.add i) = some (.string s))) (by kernel_rfl) ?_ (fun hHeld => ?_)
          · try dsimp only
            exact x0
          refine take_at (i := 0) (d := 91) (v := ?_) rfl (by kernel_rfl) (by kernel_rfl) (by kernel_rfl) (by kernel_rfl) (fun _ _ _ h => h) (Or.inl ⟨by kernel_rfl, ?_⟩) (by assumption) ?_
          rotate_left
          · intro W hSw
            try dsimp only at hSw
            go_simp
            first | done | with_reducible rfl
          try simp only [Act.put, List.setIfInBounds_toArray, List.set_cons_zero, List.set_cons_succ]
          refine take_at (i := 1) (d := 92) (v := ?_) rfl (by kernel_rfl) (by kernel_rfl) (by kernel_rfl) (by kernel_rfl) (fun _ _ _ h => h) (Or.inl ⟨by kernel_rfl, ?_⟩) (by assumption) ?_
          rotate_left
          · intro W hSw
            try dsimp only at hSw
            go_simp
            first | done | with_reducible rfl
          try simp only [Act.put, List.setIfInBounds_toArray, List.set_cons_zero, List.set_cons_succ]
          refine take_at (i := 2) (d := 93) (v := ?_) rfl (by kernel_rfl) (by kernel_rfl) (by kernel_rfl) (by kernel_rfl) (fun _ _ _ h => h) (Or.inl ⟨by kernel_rfl, ?_⟩) (by assumption) ?_
          rotate_left
          · intro W hSw
            try dsimp only at hSw
            go_simp
            first | done | with_reducible rfl
          try simp only [Act.put, List.setIfInBounds_toArray, List.set_cons_zero, List.set_cons_succ]
          refine take_at (i := 3) (d := 94) (v := ?_) rfl (by kernel_rfl) (by kernel_rfl) (by kernel_rfl) (by kernel_rfl) (fun _ _ _ h => h) (Or.inl ⟨by kernel_rfl, ?_⟩) (by assumption) ?_
          rotate_left
          · intro W hSw
            try dsimp only at hSw
            go_simp
            first | done | with_reducible rfl
          try simp only [Act.put, List.setIfInBounds_toArray, List.set_cons_zero, List.set_cons_succ]
          refine take_at (i := 4) (d := 95) (v := ?_) rfl (by kernel_rfl) (by kernel_rfl) (by kernel_rfl) (by kernel_rfl) (fun _ _ _ h => h) (Or.inl ⟨by kernel_rfl, ?_⟩) (by assumption) ?_
          rotate_left
          · intro W hSw
            try dsimp only at hSw
            go_simp
            first | done | with_reducible rfl
          try simp only [Act.put, List.setIfInBounds_toArray, List.set_cons_zero, List.set_cons_succ]
          refine take_at (i := 6) (d := 97) (v := ?_) rfl (by kernel_rfl) (by kernel_rfl) (by kernel_rfl) (by kernel_rfl) (fun _ _ _ h => h) (Or.inl ⟨by kernel_rfl, ?_⟩) (by assumption) ?_
          rotate_left
          · intro W hSw
            try dsimp only at hSw
            go_simp
            first | done | with_reducible rfl
          try simp only [Act.put, List.setIfInBounds_toArray, List.set_cons_zero, List.set_cons_succ]
          refine take_at (i := 7) (d := 98) (v := ?_) rfl (by kernel_rfl) (by kernel_rfl) (by kernel_rfl) (by kernel_rfl) (fun _ _ _ h => h) (Or.inl ⟨by kernel_rfl, ?_⟩) (by assumption) ?_
          rotate_left
          · intro W hSw
            try dsimp only at hSw
            go_simp
            first | done | with_reducible rfl
          try simp only [Act.put, List.setIfInBounds_toArray, List.set_cons_zero, List.set_cons_succ]
          refine take_at (i := 8) (d := 99) (v := ?_) rfl (by kernel_rfl) (by kernel_rfl) (by kernel_rfl) (by kernel_rfl) (fun _ _ _ h => h) (Or.inl ⟨by kernel_rfl, ?_⟩) (by assumption) ?_
          rotate_left
          · intro W hSw
            try dsimp only at hSw
            go_simp
            first | done | with_reducible rfl
          try simp only [Act.put, List.setIfInBounds_toArray, List.set_cons_zero, List.set_cons_succ]
          refine take_at (i := 9) (d := 100) (v := ?_) rfl (by kernel_rfl) (by kernel_rfl) (by kernel_rfl) (by kernel_rfl) (fun _ _ _ h => h) (Or.inl ⟨by kernel_rfl, ?_⟩) (by assumption) ?_
          rotate_left
          · intro W hSw
            try dsimp only at hSw
            go_simp
            first | done | with_reducible rfl
          try simp only [Act.put, List.setIfInBounds_toArray, List.set_cons_zero, List.set_cons_succ]
          refine take_at (i := 10) (d := 101) (v := ?_) rfl (by kernel_rfl) (by kernel_rfl) (by kernel_rfl) (by kernel_rfl) (fun _ _ _ h => h) (Or.inl ⟨by kernel_rfl, ?_⟩) (by assumption) ?_
          rotate_left
          · intro W hSw
            try dsimp only at hSw
            go_simp
            first | done | with_reducible rfl
          try simp only [Act.put, List.setIfInBounds_toArray, List.set_cons_zero, List.set_cons_succ]
          refine wpAnyH_ready (rs := [5]) (by kernel_rfl) (by simp) (AllReadyH.cons rfl (fun K hK => ?_) AllReadyH.nil)
          go_simp
          refine (HQ1.out _ (Below.refl _ _).drew).mono ?_
          rintro e w8 ⟨rfl, rfl⟩
          try go_wp2_with fail
          refine hK.out _ _ ?_ (fun hHeld => ?_)
          · try dsimp only
            exact x0
          clear hK K
          try simp only [Act.put, List.setIfInBounds_toArray, List.set_cons_zero, List.set_cons_succ]
          refine wpAnyH_ready (rs := [11]) (by kernel_rfl) (by simp) (AllReadyH.cons rfl (fun K hK => ?_) AllReadyH.nil)
          go_simp
          refine (HQ2.out _ (Below.refl _ _).drew).mono ?_
          rintro e w8 ⟨rfl, rfl⟩
          try go_wp2_with fail
          refine hK.out _ _ ?_ (fun hHeld => ?_)
          · try dsimp only
            exact x0
          clear hK K
          try simp only [Act.put, List.setIfInBounds_toArray, List.set_cons_zero, List.set_cons_succ]
          refine take_at (i := 12) (d := 103) (v := ?_) rfl (by kernel_rfl) (by kernel_rfl) (by kernel_rfl) (by kernel_rfl) (fun _ _ _ h => h) (Or.inl ⟨by kernel_rfl, ?_⟩) (by assumption) ?_
          rotate_left
          · intro W hSw
            try dsimp only at hSw
            go_simp
            first | done | with_reducible rfl
          try simp only [Act.put, List.setIfInBounds_toArray, List.set_cons_zero, List.set_cons_succ]
          refine take_at (i := 13) (d := 104) (v := ?_) rfl (by kernel_rfl) (by kernel_rfl) (by kernel_rfl) (by kernel_rfl) (fun _ _ _ h => h) (Or.inl ⟨by kernel_rfl, ?_⟩) (by assumption) ?_
          rotate_left
          · intro W hSw
            try dsimp only at hSw
            go_simp
            first | done | with_reducible rfl
          try simp only [Act.put, List.setIfInBounds_toArray, List.set_cons_zero, List.set_cons_succ]
          refine take_at (i := 14) (d := 105) (v := ?_) rfl (by kernel_rfl) (by kernel_rfl) (by kernel_rfl) (by kernel_rfl) (fun _ _ _ h => h) (Or.inl ⟨by kernel_rfl, ?_⟩) (by assumption) ?_
          rotate_left
          · intro W hSw
            try dsimp only at hSw
            go_simp
            first | done | with_reducible rfl
          try simp only [Act.put, List.setIfInBounds_toArray, List.set_cons_zero, List.set_cons_succ]
          refine take_at (i := 15) (d := 106) (v := ?_) rfl (by kernel_rfl) (by kernel_rfl) (by kernel_rfl) (by kernel_rfl) (fun _ _ _ h => h) (Or.inl ⟨by kernel_rfl, ?_⟩) (by assumption) ?_
          rotate_left
          · intro W hSw
            try dsimp only at hSw
            go_simp
            first | done | with_reducible rfl
          try simp only [Act.put, List.setIfInBounds_toArray, List.set_cons_zero, List.set_cons_succ]
          refine take_at (i := 16) (d := 107) (v := ?_) rfl (by kernel_rfl) (by kernel_rfl) (by kernel_rfl) (by kernel_rfl) (fun _ _ _ h => h) (Or.inl ⟨by kernel_rfl, ?_⟩) (by assumption) ?_
          rotate_left
          · intro W hSw
            try dsimp only at hSw
            go_simp
            first | done | with_reducible rfl
          try simp only [Act.put, List.setIfInBounds_toArray, List.set_cons_zero, List.set_cons_succ]
          refine take_at (i := 17) (d := 108) (v := ?_) rfl (by kernel_rfl) (by kernel_rfl) (by kernel_rfl) (by kernel_rfl) (fun _ _ _ h => h) (Or.inl ⟨by kernel_rfl, ?_⟩) (by assumption) ?_
          rotate_left
          · intro W hSw
            try dsimp only at hSw
            go_simp
            first | done | with_reducible rfl
          try simp only [Act.put, List.setIfInBounds_toArray, List.set_cons_zero, List.set_cons_succ]
          refine wpAnyH_ready (rs := [18]) (by kernel_rfl) (by simp) (AllReadyH.cons rfl (fun K hK => ?_) AllReadyH.nil)
          go_simp
          refine (HQ3.out _ (Below.refl _ _).drew).mono ?_
          rintro e w8 ⟨rfl, rfl⟩
          try go_wp2_with fail
          refine hK.out _ _ ?_ (fun hHeld => ?_)
          · try dsimp only
            exact x0
          clear hK K
          try simp only [Act.put, List.setIfInBounds_toArray, List.set_cons_zero, List.set_cons_succ]
          refine take_at (i := 19) (d := 110) (v := ?_) rfl (by kernel_rfl) (by kernel_rfl) (by kernel_rfl) (by kernel_rfl) (fun _ _ _ h => h) (Or.inl ⟨by kernel_rfl, ?_⟩) (by assumption) ?_
          rotate_left
          · intro W hSw
            try dsimp only at hSw
            go_simp
            first | done | with_reducible rfl
          try simp only [Act.put, List.setIfInBounds_toArray, List.set_cons_zero, List.set_cons_succ]
          refine take_at (i := 20) (d := 111) (v := ?_) rfl (by kernel_rfl) (by kernel_rfl) (by kernel_rfl) (by kernel_rfl) (fun _ _ _ h => h) (Or.inl ⟨by kernel_rfl, ?_⟩) (by assumption) ?_
          rotate_left
          · intro W hSw
            try dsimp only at hSw
            go_simp
            first | done | with_reducible rfl
          try simp only [Act.put, List.setIfInBounds_toArray, List.set_cons_zero, List.set_cons_succ]
          refine wpAnyH_done (by kernel_rfl) ?_ _
          go_wp2_with fail
          go_roundw
          case rel => exact ⟨i + 1, by omega, by go_num, HBW.out.drew⟩
          case measure => simp [intOf]; omega
          -- END STEPS false
      · obtain rfl : i = nx := by omega
        have HB7 := Lib.hid (HB6.out.trans (HBW.out.mono HB6.out.size))
        have HB47 := Lib.hid (HB46.out.trans (HBW.out.mono HB46.out.size))
        have HOD7 := Lib.hid (HOD6.out.below HBW.out)
        have HOX7 := Lib.hid (HOX6.out.below HBW.out)
        obtain ⟨wo, hwo⟩ : ∃ W, W = wr := ⟨_, rfl⟩
        subst hwo
        go_wp2_with fail
        go_loopw [17] (fun x wq => ∃ j : Nat, j ≤ nd ∧ x = .int .i64 (j : Int) ∧ Below wo.heap.size wo wq) (fun x _ => nd - (intOf x).toNat)
        case atStart => exact ⟨0, Nat.zero_le _, rfl, Below.refl _ _⟩
        case round =>
          obtain ⟨j, hj, rfl, hbq⟩ := hrel
          have HBQ := Lib.hid hbq
          clear hbq
          have z0 : (0 : Int) ≤ (j : Int) := by omega
          by_cases hlt : j < nd
          · have z1 : (j : Int) < (nd : Int) := by omega
            have hjd : j < d.length := by have := HND.out; omega
            obtain ⟨s, hs⟩ : ∃ s, d[j]? = some s := ⟨_, List.getElem?_eq_getElem hjd⟩
            obtain ⟨ad, rfl, x0⟩ : ∃ ad, Ad = some ad ∧ wr.cell? (ad.add j) = some (.string s) := by
              obtain ⟨A', c', e', _, _, hrd, _⟩ := (HOD7.out.below HBQ.out).slv
              injection e' with e' _ _
              subst e'
              exact reads_at hrd j (sv s) (by rw [List.getElem?_map, hs]; rfl)
            have hsx : hasT x s = true := by
              have h1 := ((HMD.out s).1 (List.mem_of_getElem? hs)).1
              exact hasT_yes ((HC1.out.mx s).2 ⟨h1, HALL.out s h1⟩)
            have HH := Lib.hid (rhas_any (.slice Ax i cx) x s wr (HOX7.out.below HBQ.out).slv)
            rw [hsx] at HH
            clear hjd hs hsx
            go_wp2_with fail
            refine HH.out.mono ?_
            rintro e w' ⟨rfl, rfl⟩
            go_wp2_with fail
            go_roundw
            case rel => exact ⟨j + 1, by omega, by go_num, HBQ.out⟩
            case measure => simp [intOf]; omega
          · obtain rfl : j = nd := by omega
            have HB8 := Lib.hid (HB7.out.trans (HBQ.out.mono HB7.out.size))
            have HB48 := Lib.hid (HB47.out.trans (HBQ.out.mono HB47.out.size))
            have HOD8 := Lib.hid (HOD7.out.below HBQ.out)
            go_wp2_with fail
            refine (HDD.out wr HB48.out).mono ?_
            rintro e w9 ⟨hb9, hd9⟩
            have HB9 := Lib.hid (HB8.out.trans (hb9.mono HB8.out.size))
            have HOD9 := Lib.hid (HOD8.out.below hb9)
            rcases hd9 with ⟨⟨s, h1, h2⟩, _⟩ | ⟨_, d2, v2, rfl, ho2, _, _, hm2⟩
            · rw [HALL.out s h1] at h2
              cases h2
            · have hd2 : d2 = [] := List.eq_nil_iff_forall_not_mem.2 fun s hs => ((hm2 s).1 hs).2 ((hm2 s).1 hs).1
              subst hd2
              obtain ⟨A2, c2, rfl⟩ := owned_slice ho2
              rw [show (([] : List ByteArray).map sv).length = 0 from rfl]
              clear hb9 ho2 hm2
              go_wp2_with fail
              refine (first12_any w9).mono ?_
              rintro e w10 ⟨rfl, hb10⟩
              have HB10 := Lib.hid (HB9.out.trans (hb10.mono HB9.out.size))
              have HOD10 := Lib.hid (HOD9.out.below hb10)
              clear hb10
              go_wp2_with fail
              refine (rises_strict HOD10.out.slv HSD.out).mono ?_
              rintro e w11 ⟨rfl, hb11⟩
              have HB11 := Lib.hid (HB10.out.trans (hb11.mono HB10.out.size))
              clear hb11
              go_wp2_with fail
              go_ret
              exact ⟨rfl, HB11.out⟩
end Go.Proofs.Yteffiedolcjjlaa.Ob
