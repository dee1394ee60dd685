/- LinesOne: the walk. -/
import Derived.Test.YtchoklhadnoidaaLnF
import Derived.Test.YtchoklhadnoidaaLnN
import Derived.Test.YtchoklhadnoidaaLnS
set_option linter.unusedVariables false
set_option linter.unusedSimpArgs false
namespace Go.Proofs.Ytchoklhadnoidaa.Ln
open Go.RowKit Go.Proofs.Ytchoklhadnoidaa.Sh Go.Proofs.Ytchoklhadnoidaa.Tx

/-- The line that is put in at k. -/
def newS (k : Nat) : ByteArray := str [110, 101, 119, 97 + UInt8.ofNat k, 10]
def newsL (k : Nat) : List ByteArray := (List.range k).map newS
theorem news_next (k : Nat) : newsL (k + 1) = newsL k ++ [newS k] := by
  unfold newsL
  rw [List.range_succ, List.map_append]
  rfl
theorem news_len (k : Nat) : (newsL k).length = k := by unfold newsL; simp
theorem bi_new (k : Nat) (h : k ≤ 20) : bi (97 + UInt8.ofNat k) = 97 + (k : Int) := by
  rw [bi_nat, UInt8.toNat_add, UInt8.toNat_ofNat']
  have e : (97 : UInt8).toNat = 97 := rfl
  rw [e]
  omega
theorem new_cat (k : Nat) : (⟨#[110, 101, 119]⟩ : ByteArray) ++ str [97 + UInt8.ofNat k, 10] = newS k := by
  unfold newS str
  apply ByteArray.ext
  rw [ByteArray.data_append]
  rfl
/-- Two bytes just laid. -/
theorem two_new (w : World) (x y : UInt8) : (convert 22 9 (.slice (some ⟨w.heap.size, 0, none⟩) 2 2)).run Try.prog (w.alloc (.cells #[bv x, bv y] 5)) = .ok (.string (str [x, y])) (w.alloc (.cells #[bv x, bv y] 5)) := by
  have hg := Blk.new w 5 #[bv x, bv y]
  refine conv_str _ _ [x, y] 2 2 rfl ⟨some ⟨w.heap.size, 0, none⟩, 2, rfl, by simp, by unfold maxLen; omega, ⟨rfl, fun _ => ⟨_, rfl, hg.lt, fun j u hu => ?_⟩⟩, fun e => by cases e⟩
  rw [Addr.add_mid, Nat.zero_add, hg.cell j, ← hu]
  simp
set_option maxRecDepth 100000 in
set_option maxHeartbeats 6400000 in
theorem one_in (v0 : Value) (a : List ByteArray) (at_ n : Int) (w : World) (h1 : SlV w v0 (a.map sv)) (m1 : ∀ s ∈ a, s.size ≤ maxLen) (b1 : -9223372036854775808 ≤ n ∧ n ≤ 9223372036854775807) : Calls Try.prog 8 #[v0, .int .i64 at_, .int .i64 n] w (Yes w) := by
  have H1 := Lib.hid h1
  have M1 := Lib.hid m1
  obtain ⟨A0, c0, rfl, hl0, hm0, _⟩ := h1.len
  unfold maxLen at hm0
  simp only [List.length_map] at H1 hl0 ⊢
  obtain ⟨la, hla⟩ : ∃ n, a.length = n := ⟨_, rfl⟩
  rw [hla] at H1 hl0 ⊢
  have HLA := Lib.hid hla
  clear h1 m1 hla
  go_enter Try.func8, Try.ntmps8
  go_wp2_with fail
  refine (first_any w).mono ?_
  rintro e w1 ⟨rfl, hb1⟩
  have HB1 := Lib.hid hb1
  clear hb1
  go_wp2_with fail
  refine (few_any _ a w1 (H1.out.below HB1.out) M1.out).mono ?_
  rintro e w1' ⟨rfl, rfl⟩
  rcases few_cases a with fa | fa
  rotate_left
  · rw [fa]
    go_wp2_with fail
    refine (first_any w1).mono ?_
    rintro e w2 ⟨rfl, hb2⟩
    have HB2 := Lib.hid (HB1.out.trans (hb2.mono HB1.out.size))
    go_wp2_with fail
    go_ret
    exact ⟨rfl, HB2.out⟩
  rw [fa]
  have hla220 := few_len fa
  rw [HLA.out] at hla220
  by_cases q1 : at_ < 0
  · go_wp2_with fail
    refine (first_any w1).mono ?_
    rintro e w2 ⟨rfl, hb2⟩
    have HB2 := Lib.hid (HB1.out.trans (hb2.mono HB1.out.size))
    go_wp2_with fail
    go_ret
    exact ⟨rfl, HB2.out⟩
  by_cases q2 : at_ > (la : Int)
  · go_wp2_with fail
    refine (first_any w1).mono ?_
    rintro e w2 ⟨rfl, hb2⟩
    have HB2 := Lib.hid (HB1.out.trans (hb2.mono HB1.out.size))
    go_wp2_with fail
    go_ret
    exact ⟨rfl, HB2.out⟩
  by_cases q3 : n < 1
  · go_wp2_with fail
    refine (first_any w1).mono ?_
    rintro e w2 ⟨rfl, hb2⟩
    have HB2 := Lib.hid (HB1.out.trans (hb2.mono HB1.out.size))
    go_wp2_with fail
    go_ret
    exact ⟨rfl, HB2.out⟩
  by_cases q4 : n > 20
  · go_wp2_with fail
    refine (first_any w1).mono ?_
    rintro e w2 ⟨rfl, hb2⟩
    have HB2 := Lib.hid (HB1.out.trans (hb2.mono HB1.out.size))
    go_wp2_with fail
    go_ret
    exact ⟨rfl, HB2.out⟩
  by_cases q5 : (la : Int) + n > 200
  · go_wp2_with fail
    refine (first_any w1).mono ?_
    rintro e w2 ⟨rfl, hb2⟩
    have HB2 := Lib.hid (HB1.out.trans (hb2.mono HB1.out.size))
    go_wp2_with fail
    go_ret
    exact ⟨rfl, HB2.out⟩
  obtain ⟨t, rfl⟩ := Int.eq_ofNat_of_zero_le (show (0 : Int) ≤ at_ by omega)
  obtain ⟨N, rfl⟩ := Int.eq_ofNat_of_zero_le (show (0 : Int) ≤ n by omega)
  have ht : t ≤ la := by omega
  have hN1 : 1 ≤ N := by omega
  have hN20 : N ≤ 20 := by omega
  have hsum : la + N ≤ 200 := by omega
  have f1 : decide ((t : Int) < 0) = false := decide_eq_false q1
  have f2 : decide (la < t) = false := decide_eq_false (by omega)
  have f3 : decide ((N : Int) < 1) = false := decide_eq_false q3
  have f4 : decide (20 < (N : Int)) = false := decide_eq_false q4
  have f5 : decide (200 < (la : Int) + (N : Int)) = false := decide_eq_false q5
  go_wp2_with fail
  go_loopw [7, 8] (fun v7 v8 wr => ∃ k : Nat, k ≤ N ∧ v8 = .int .i64 (k : Int) ∧ (∀ s ∈ newsL k, s ∉ a) ∧ OwnV 9 wr w1.heap.size v7 ((newsL k).map sv) ∧ Below w1.heap.size w1 wr) (fun _ v8 _ => N - (intOf v8).toNat)
  case atStart => exact ⟨0, Nat.zero_le _, rfl, (fun s hs => by cases hs), OwnV.nil_ _ _, Below.refl _ _⟩
  case round =>
    obtain ⟨k, hk, rfl, hno, ho, hb⟩ := hrel
    have HNO := Lib.hid hno
    have HO := Lib.hid ho
    have HB := Lib.hid hb
    have HBW := Lib.hid (HB1.out.trans (hb.mono HB1.out.size))
    clear hno ho hb
    have z0 : (0 : Int) ≤ (k : Int) := by omega
    by_cases hlt : k < N
    · have z1 : (k : Int) < (N : Int) := by omega
      have hcv := two_new wr (97 + UInt8.ofNat k) 10
      have e1 : bv (97 + UInt8.ofNat k) = .int .u8 (97 + (k : Int)) := by unfold bv; rw [bi_new k (by omega)]
      have e2 : bv 10 = .int .u8 10 := by unfold bv; rw [bi10]
      rw [e1, e2] at hcv
      have hw8 : IntKind.u8.wrap (97 + (k : Int)) = 97 + (k : Int) := by simp [IntKind.wrap, IntKind.bits, IntKind.signed]; omega
      have HNN := Lib.hid (news_next k)
      have hb4 : Below w1.heap.size w1 (wr.alloc (.cells #[.int .u8 (97 + (k : Int)), .int .u8 10] 5)) := HB.out.alloc HB.out.size _
      have HB4 := Lib.hid hb4
      have HBW4 := Lib.hid (HB1.out.trans (hb4.mono HB1.out.size))
      have HO4 := Lib.hid (HO.out.alloc (.cells #[.int .u8 (97 + (k : Int)), .int .u8 10] 5))
      clear hb4
      go_wp2_with fail
      rw [new_cat]
      refine (rhas_any _ a (newS k) _ (H1.out.below HBW4.out)).mono ?_
      rintro e w4 ⟨rfl, rfl⟩
      generalize wr.alloc (.cells #[.int .u8 (97 + (k : Int)), .int .u8 10] 5) = w4 at *
      obtain ⟨s, hs⟩ : ∃ s, newS k = s := ⟨_, rfl⟩
      rw [hs] at HNN ⊢
      by_cases hm : s ∈ a
      · rw [hasT_yes hm]
        clear hm
        go_wp2_with fail
        refine (first_any w4).mono ?_
        rintro e w5 ⟨rfl, hb5⟩
        have HB5 := Lib.hid (HBW4.out.trans (hb5.mono HBW4.out.size))
        go_wp2_with fail
        go_ret
        exact ⟨rfl, HB5.out⟩
      · rw [hasT_no hm]
        have HM := Lib.hid hm
        have hsmall : (newsL k).length + 1 ≤ 2000000 := by rw [news_len]; omega
        have hz4 := HB4.out.size
        clear hm hcv hs e1 e2 hw8
        go_wp2_with (at_builtin; refine append_text rfl (.tmp 61) (.tmp 63) rfl w4 w1.heap.size u7 (newsL k) rfl HO4.out s rfl hsmall hz4 ?_; intro v5 w5 ho5 hb5; have HO5 := Lib.hid ho5; have HB5 := Lib.hid (HB4.out.trans hb5); clear ho5 hb5)
        go_roundw
        case rel =>
          refine ⟨k + 1, by omega, by go_num, fun x hx => ?_, by rw [HNN.out]; exact HO5.out, HB5.out⟩
          rw [HNN.out] at hx
          rcases List.mem_append.1 hx with hx | hx
          · exact HNO.out x hx
          · rw [List.mem_singleton] at hx
            rw [hx]
            exact HM.out
        case measure => simp [intOf]; omega
    · have hkN : N = k := by omega
      subst hkN
      obtain ⟨pre, hpre⟩ : ∃ x, a.take t = x := ⟨_, rfl⟩
      obtain ⟨post, hpost⟩ : ∃ x, a.drop t = x := ⟨_, rfl⟩
      obtain ⟨ins, hins⟩ : ∃ x, newsL N = x := ⟨_, rfl⟩
      have happ : a = pre ++ post := by rw [← hpre, ← hpost, List.take_append_drop]
      have hpl : pre.length = t := by rw [← hpre, List.length_take, HLA.out]; omega
      have hql : post.length = la - t := by rw [← hpost, List.length_drop, HLA.out]
      have hil : ins.length = N := by rw [← hins, news_len]
      have hfr : ∀ W, (Instr.slice 25 (.slice A0 la c0) none (some (.int .i64 (t : Int))) none).run Try.prog W = .ok (.slice A0 t c0) W := fun W => t_front A0 la c0 t _ rfl (by omega) W
      have hbk : ∀ W, (Instr.slice 25 (.slice A0 la c0) (some (.int .i64 (t : Int))) none none).run Try.prog W = .ok (.slice (if c0 = t then A0 else A0.map (·.add t)) (la - t) (c0 - t)) W := fun W => t_back A0 la c0 t _ rfl ht W
      have hsf : ∀ W, Below w.heap.size w W → SlV W (.slice A0 t c0) (pre.map sv) := fun W hW => by
        have h := slv_front (H1.out.below hW) t (by rw [List.length_map, HLA.out]; exact ht)
        rwa [← List.map_take, hpre] at h
      have hsb : ∀ W, Below w.heap.size w W → SlV W (.slice (if c0 = t then A0 else A0.map (·.add t)) (la - t) (c0 - t)) (post.map sv) := fun W hW => by
        have h := slv_back (H1.out.below hW) t (by rw [List.length_map, HLA.out]; exact ht)
        rwa [List.length_map, HLA.out, ← List.map_drop, hpost] at h
      obtain ⟨D, hD⟩ : ∃ x, (if c0 = t then A0 else A0.map (·.add t)) = x := ⟨_, rfl⟩
      obtain ⟨dl, hdl⟩ : ∃ x, la - t = x := ⟨_, rfl⟩
      obtain ⟨dc, hdc⟩ : ∃ x, c0 - t = x := ⟨_, rfl⟩
      simp only [hD, hdl, hdc] at hbk hsb
      rw [hdl] at hql
      have HNO2 : Hid (∀ y ∈ ins, y ∉ post) := fun y hy hp => HNO.out y (by rw [hins]; exact hy) (by rw [happ]; exact List.mem_append.2 (.inr hp))
      obtain ⟨o1, o2, o3, o4⟩ := one_eds (pre := pre) (ins := ins) (post := post) (by intro e; rw [e] at hil; simp at hil; omega) HNO2.out (by omega)
      rw [← happ, hpl] at o1 o2
      rw [← happ] at o3 o4
      rw [hil] at o2
      have HD1 : Hid (∀ W vb, Below w.heap.size w W → SlV W vb ((pre ++ (ins ++ post)).map sv) → Calls Try.prog 22 #[.slice A0 la c0, vb] W fun e w' => ∃ A c, e = .returned (.tuple #[.slice A 1 c, .int .i64 0]) ∧ 1 ≤ c ∧ c ≤ maxLen ∧ SlEd w' (.slice A 1 c) [⟨(t : Int), 0, ins⟩] ∧ Below W.heap.size W w') := fun W vb hW hv => by
        have h := diff_any (.slice A0 la c0) vb a (pre ++ (ins ++ post)) W (H1.out.below hW) hv
        unfold DifP at h
        rw [o1, o3] at h
        refine h.mono ?_
        rintro e w' ⟨v, rfl, hd, hb⟩
        have hse := hd.sl
        obtain ⟨A, c, rfl, q8, q9⟩ := hd.slice
        exact ⟨A, c, rfl, q8, q9, hse, hb⟩
      have HD2 : Hid (∀ W vb, Below w.heap.size w W → SlV W vb ((pre ++ (ins ++ post)).map sv) → Calls Try.prog 22 #[vb, .slice A0 la c0] W fun e w' => ∃ A c, e = .returned (.tuple #[.slice A 1 c, .int .i64 0]) ∧ 1 ≤ c ∧ c ≤ maxLen ∧ SlEd w' (.slice A 1 c) [⟨(t : Int), (N : Int), []⟩] ∧ Below W.heap.size W w') := fun W vb hW hv => by
        have h := diff_any vb (.slice A0 la c0) (pre ++ (ins ++ post)) a W hv (H1.out.below hW)
        unfold DifP at h
        rw [o2, o4] at h
        refine h.mono ?_
        rintro e w' ⟨v, rfl, hd, hb⟩
        have hse := hd.sl
        obtain ⟨A, c, rfl, q8, q9⟩ := hd.slice
        exact ⟨A, c, rfl, q8, q9, hse, hb⟩
      rw [hins] at HO
      have HSF := Lib.hid hsf
      have HSB := Lib.hid hsb
      have HIV := Lib.hid (fun W (hW : Below wr.heap.size wr W) => HO.out.slv.below hW)
      obtain ⟨Ai, ci, hvi, _, _⟩ := HO.out.length
      rw [List.length_map, hil] at hvi
      subst hvi
      have HPL := Lib.hid hpl
      have HQL := Lib.hid hql
      have HIL := Lib.hid hil
      clear o1 o2 o3 o4 hsf hsb hD hdc hins hpre hpost happ hpl hql hil HNO HO
      go_wp2_with fail
      -- STEPS
      refine wp_region_held_drew (S := (fun _ => True)) (by kernel_rfl) ?_ (fun hHeld => ?_)
      · try dsimp only
        skip
      refine take_at (i := 1) (d := 66) (v := ?_) rfl (by kernel_rfl) (by kernel_rfl) (by kernel_rfl) (by kernel_rfl) (fun _ _ _ h => h) (Or.inl ⟨by kernel_rfl, ?_⟩) (by assumption) ?_
      rotate_left
      · intro W hSw
        try dsimp only at hSw
        go_simp
        first | done | with_reducible rfl
      try simp only [Act.put, List.setIfInBounds_toArray, List.set_cons_zero, List.set_cons_succ]
      refine take_at (i := 2) (d := 67) (v := ?_) rfl (by kernel_rfl) (by kernel_rfl) (by kernel_rfl) (by kernel_rfl) (fun _ _ _ h => h) (Or.inl ⟨by kernel_rfl, ?_⟩) (by assumption) ?_
      rotate_left
      · intro W hSw
        try dsimp only at hSw
        go_simp
        first | done | with_reducible rfl
      try simp only [Act.put, List.setIfInBounds_toArray, List.set_cons_zero, List.set_cons_succ]
      refine take_at (i := 3) (d := 68) (v := ?_) rfl (by kernel_rfl) (by kernel_rfl) (by kernel_rfl) (by kernel_rfl) (fun _ _ _ h => h) (Or.inl ⟨by kernel_rfl, ?_⟩) (by assumption) ?_
      rotate_left
      · intro W hSw
        try dsimp only at hSw
        go_simp
        first | done | with_reducible rfl
      try simp only [Act.put, List.setIfInBounds_toArray, List.set_cons_zero, List.set_cons_succ]
      refine take_at (i := 5) (d := 70) (v := ?_) rfl (by kernel_rfl) (by kernel_rfl) (by kernel_rfl) (by kernel_rfl) (fun _ _ _ h => h) (Or.inl ⟨by kernel_rfl, ?_⟩) (by assumption) ?_
      rotate_left
      · intro W hSw
        try dsimp only at hSw
        go_simp
        first | done | with_reducible rfl
      try simp only [Act.put, List.setIfInBounds_toArray, List.set_cons_zero, List.set_cons_succ]
      refine take_at (i := 7) (d := 72) (v := ?_) rfl (by kernel_rfl) (by kernel_rfl) (by kernel_rfl) (by kernel_rfl) (fun _ _ _ h => h) (Or.inl ⟨by kernel_rfl, ?_⟩) (by assumption) ?_
      rotate_left
      · intro W hSw
        try dsimp only at hSw
        go_simp
        first | done | with_reducible rfl
      try simp only [Act.put, List.setIfInBounds_toArray, List.set_cons_zero, List.set_cons_succ]
      refine take_at (i := 8) (d := 73) (v := ?_) rfl (by kernel_rfl) (by kernel_rfl) (by kernel_rfl) (by kernel_rfl) (fun _ _ _ h => h) (Or.inl ⟨by kernel_rfl, ?_⟩) (by assumption) ?_
      rotate_left
      · intro W hSw
        try dsimp only at hSw
        go_simp
        first | done | with_reducible rfl
      try simp only [Act.put, List.setIfInBounds_toArray, List.set_cons_zero, List.set_cons_succ]
      refine take_at (i := 9) (d := 74) (v := ?_) rfl (by kernel_rfl) (by kernel_rfl) (by kernel_rfl) (by kernel_rfl) (fun _ _ _ h => h) (Or.inl ⟨by kernel_rfl, ?_⟩) (by assumption) ?_
      rotate_left
      · intro W hSw
        try dsimp only at hSw
        go_simp
        first | done | with_reducible rfl
      try simp only [Act.put, List.setIfInBounds_toArray, List.set_cons_zero, List.set_cons_succ]
      refine wpAnyH_ready (rs := [0]) (by kernel_rfl) (by simp) (AllReadyH.cons rfl (fun K hK => ?_) AllReadyH.nil)
      go_simp
      try go_wp2_with fail
      refine hK.out _ _ ?_ (fun hHeld => ?_)
      · try dsimp only
        skip
      clear hK K
      try simp only [Act.put, List.setIfInBounds_toArray, List.set_cons_zero, List.set_cons_succ]
      refine wpAnyH_ready (rs := [4]) (by kernel_rfl) (by simp) (AllReadyH.cons rfl (fun K hK => ?_) AllReadyH.nil)
      rw [show (wr.alloc (.cells #[] 9)).drew = wr.drew.alloc (.cells #[] 9) from rfl]
      have hown : OwnV 9 (wr.drew.alloc (.cells #[] 9)) wr.drew.heap.size (.slice (some ⟨wr.drew.heap.size, 0, none⟩) 0 0) (([] : List ByteArray).map sv) := World.ownsRow_made wr.drew #[] 0 (Nat.le_refl _) (by unfold maxLen; omega) rfl
      have HWN := Lib.hid hown
      have HBA : Hid (Below wr.heap.size wr (wr.drew.alloc (.cells #[] 9))) := (Below.refl _ _).drew.alloc (Nat.le_refl _) _
      have HBWA := Lib.hid (HBW.out.trans (HBA.out.mono HBW.out.size))
      clear hown
      refine sapp_txt 69 rfl rfl (.tmp 65) (.tmp 68) rfl _ wr.heap.size (.slice (some ⟨wr.heap.size, 0, none⟩) 0 0) [] (by rfl) (by exact HWN.out) _ A0 t c0 pre (by rfl) (by exact (slv_reads (HSF.out _ HBWA.out)).1) (by simp; omega) (by exact HBA.out.size) ?_
      intro v5 w5 ho5 hb5 hk5
      rw [List.nil_append] at ho5
      have HO5 := Lib.hid ho5
      have HB5 := Lib.hid (HBA.out.trans hb5)
      clear ho5 hb5 hk5 HWN HBA HBWA
      try go_wp2_with fail
      refine hK.out _ _ ?_ (fun hHeld => ?_)
      · try dsimp only
        skip
      clear hK K
      try simp only [Act.put, List.setIfInBounds_toArray, List.set_cons_zero, List.set_cons_succ]
      refine wpAnyH_ready (rs := [6]) (by kernel_rfl) (by simp) (AllReadyH.cons rfl (fun K hK => ?_) AllReadyH.nil)
      refine sapp_txt 71 rfl rfl (.tmp 69) (.tmp 70) rfl _ wr.heap.size v5 pre (by rfl) (by exact HO5.out) _ Ai N ci ins (by rfl) (by exact (slv_reads (HIV.out _ HB5.out)).1) (by have := HPL.out; omega) (by exact HB5.out.size) ?_
      intro v6 w6 ho6 hb6 hk6
      have HO6 := Lib.hid ho6
      have HB6 := Lib.hid (HB5.out.trans hb6)
      have HBW6 := Lib.hid (HBW.out.trans (HB6.out.mono HBW.out.size))
      clear ho6 hb6 hk6
      try go_wp2_with fail
      refine hK.out _ _ ?_ (fun hHeld => ?_)
      · try dsimp only
        skip
      clear hK K
      try simp only [Act.put, List.setIfInBounds_toArray, List.set_cons_zero, List.set_cons_succ]
      refine wpAnyH_ready (rs := [10]) (by kernel_rfl) (by simp) (AllReadyH.cons rfl (fun K hK => ?_) AllReadyH.nil)
      refine sapp_txt 75 rfl rfl (.tmp 71) (.tmp 74) rfl _ wr.heap.size v6 (pre ++ ins) (by rfl) (by exact HO6.out) _ D dl dc post (by rfl) (by exact (slv_reads (HSB.out _ HBW6.out)).1) (by have := HPL.out; have := HIL.out; rw [List.length_append]; omega) (by exact HB6.out.size) ?_
      intro v7 w7 ho7 hb7 hk7
      rw [List.append_assoc] at ho7
      have HVB := Lib.hid ho7.slv
      have HB7 := Lib.hid (HB6.out.trans hb7)
      have HBW7 := Lib.hid (HBW.out.trans (HB7.out.mono HBW.out.size))
      clear ho7 hb7 hk7
      try go_wp2_with fail
      refine hK.out _ _ ?_ (fun hHeld => ?_)
      · try dsimp only
        skip
      clear hK K
      try simp only [Act.put, List.setIfInBounds_toArray, List.set_cons_zero, List.set_cons_succ]
      refine take_at (i := 11) (d := 10) (v := ?_) rfl (by kernel_rfl) (by kernel_rfl) (by kernel_rfl) (by kernel_rfl) (fun _ _ _ h => h) (Or.inl ⟨by kernel_rfl, ?_⟩) (by assumption) ?_
      rotate_left
      · intro W hSw
        try dsimp only at hSw
        go_simp
        first | done | with_reducible rfl
      try simp only [Act.put, List.setIfInBounds_toArray, List.set_cons_zero, List.set_cons_succ]
      refine wpAnyH_done (by kernel_rfl) ?_ _
      go_wp2_with fail
      refine (HD1.out w7 v7 HBW7.out HVB.out).mono ?_
      rintro e w8 ⟨A8, c8, rfl, l8, m8, hd8, hb8⟩
      have HE8 := Lib.hid hd8
      have HVB8 := Lib.hid (HVB.out.below hb8)
      have HB8 := Lib.hid (HB7.out.trans (hb8.mono HB7.out.size))
      have HBW8 := Lib.hid (HBW7.out.trans (hb8.mono HBW7.out.size))
      unfold maxLen at m8
      clear hd8 hb8 HVB
      go_wp2_with fail
      refine (HD2.out w8 v7 HBW8.out HVB8.out).mono ?_
      rintro e w9 ⟨A9, c9, rfl, l9, m9, hd9, hb9⟩
      have HE9 := Lib.hid hd9
      have HE89 := Lib.hid (HE8.out.below hb9)
      have HB9 := Lib.hid (HB8.out.trans (hb9.mono HB8.out.size))
      have HBW9 := Lib.hid (HBW8.out.trans (hb9.mono HBW8.out.size))
      unfold maxLen at m9
      clear hd9 hb9 HVB8 HE8 HD1 HD2
      go_wp2_with fail
      refine (first_any w9).mono ?_
      rintro e w10 ⟨rfl, hb10⟩
      have hed := HE89.out.below hb10
      have hef := HE9.out.below hb10
      obtain ⟨a8, d8, rfl, x0, x1, x2, hs8⟩ := hed.at_ 0 _ rfl
      obtain ⟨a9, d9, rfl, y0, y1, y2, hs9⟩ := hef.at_ 0 _ rfl
      obtain ⟨Ad9, cd9, rfl, _⟩ := hs9.len
      have e0 : ∀ z : Addr, z.add 0 = z := fun z => by simp [Addr.add]
      rw [Nat.zero_mul, e0] at x0 x1 x2 y0 y1 y2
      have HB10 := Lib.hid (HB9.out.trans (hb10.mono HB9.out.size))
      have HBW10 := Lib.hid (HBW9.out.trans (hb10.mono HBW9.out.size))
      have HT : Hid (Calls Try.prog 14 #[d8, .slice Ai N ci] w10 (Yes w10)) := texts_same _ _ ins w10 hs8 (HIV.out _ HB10.out)
      have HSY : Hid (∀ W, Below w10.heap.size w10 W → W.cell? a9 = some (.int .i64 (t : Int)) ∧ W.cell? ⟨a9.block, a9.off + 1, none⟩ = some (.int .i64 (N : Int)) ∧ W.cell? ⟨a9.block, a9.off + 2, none⟩ = some (.slice Ad9 0 cd9)) := fun W hW => by
        obtain ⟨_, ds, ea, hst⟩ := hef.stay 0 _ rfl
        injection ea with ea
        subst ea
        obtain ⟨z0, z1, z2, _⟩ := hst W hW
        obtain ⟨k0, k1, k2, _⟩ := hst w10 (Below.refl _ _)
        rw [Nat.zero_mul, e0] at z0 z1 z2 k2
        refine ⟨z0, z1, ?_⟩
        rw [z2]
        rw [k2] at y2
        exact y2
      clear hs8 hs9 hed hef hb10 y0 y1 y2 HE9 HE89
      go_wp2_with fail
      refine HT.out.mono ?_
      rintro e w11 ⟨rfl, hb11⟩
      obtain ⟨y0, y1, y2⟩ := HSY.out w11 hb11
      have HBW11 := Lib.hid (HBW10.out.trans (hb11.mono HBW10.out.size))
      clear hb11 HSY
      go_wp2_with fail
      go_ret
      exact ⟨rfl, HBW11.out⟩
      -- END STEPS
theorem linesOne_walk (a0 : Option Addr) (len0 cap0 : Nat) (z0 : List ByteArray) (a1 a2 : Int) (w : World) (w0 : IsTexts w a0 len0 cap0 z0) (w1 : (Lit.int .i64 a1).wf = true) (w2 : (Lit.int .i64 a2).wf = true) : Calls Try.prog 8 #[.slice a0 len0 cap0, .int .i64 a1, .int .i64 a2] w (Yes w) := by
  obtain ⟨a, _, h1, m1⟩ := w0.slv
  exact one_in _ a a1 a2 w h1 m1 (by simpa [Lit.wf, IntKind.min, IntKind.max, IntKind.signed, IntKind.bits] using w2)
end Go.Proofs.Ytchoklhadnoidaa.Ln
