/- Texts put together: WFx10. -/
import Derived.Test.YtpfjlhpahmhkhaaGreatQf10
/- The reference's file system: what users do. -/
namespace Go.Proofs.YtpfjlhpahmhkhaaGreat.Tx
open Go.RowKit Go.Proofs.YtpfjlhpahmhkhaaGreat.Sh

/-- What stands behind an event that was noted, put together. -/
theorem user_fin {F F' : Nat → Prop} {w wl w5 : World} {b : Nat} {st : FSM} {x : FsV} {M : Nat → Prop} {v5 : Value} {u' : List EvM} (hX : RefX F w b st x) (hM : ∀ k, M k ↔ fsM b x k)
    (hl : Below w.heap.size w wl) (hF' : ∀ k, F' k → F k ∨ (w.heap.size ≤ k ∧ k < wl.heap.size)) (hg : wl.grownBy w5 x.user.ownBlock) (hown : OwnL evK 169 F' w5 0 v5 u') (hk : v5.ownBlock = x.user.ownBlock ∨ v5.ownBlock = some wl.heap.size) :
    FsPost F M w b { st with user := u' } (w5.setCell ⟨b, 8, none⟩ v5) := by
  have hz1 := hl.size
  have hz2 := hg.size
  have hbw : b < w.heap.size := hX.blk.lt
  have hwz : (w5.setCell ⟨b, 8, none⟩ v5).heap.size = w5.heap.size := by simp [World.setCell]
  have hblk : Blk w5 b 140 (fsC st x) := (hX.blk.below hl hbw).grown hg (fun e => hX.u_ne e.symm)
  have o5 : Only (fun k => x.user.ownBlock = some k) w w5 := (Only.of_below hl).trans (M' := fun k => x.user.ownBlock = some k) ⟨hg.os, hg.tape, hg.output, hg.size, fun k hk hn => hg.block k hk (fun e => hn e.symm)⟩ (fun k hk => .inl hk)
  have ow : Only (fun k => k = b ∨ x.user.ownBlock = some k) w (w5.setCell ⟨b, 8, none⟩ v5) := Only.set_ (M := fun k => k = b ∨ x.user.ownBlock = some k) (g := b) (i := 8) (o5.more (fun k _ h => .inr h)) (.inl (.inl rfl)) v5
  have hdF : ∀ k, F k → ¬ (k = b ∨ x.user.ownBlock = some k) := fun k hf h => hX.apart k hf (h.imp id .inr)
  have hv5b : ∀ k, v5.ownBlock = some k → ¬ (k = b) := fun k hk e => by
    obtain ⟨⟨ds, h1, _⟩, _⟩ := hown
    exact own_blk_ne h1 hblk (by decide) (by rw [hk, e])
  have hv5F : ∀ k, v5.ownBlock = some k → ¬ F k := fun k hk' hf => by
    rcases hk with e | e
    · exact hX.user.2 k (by rw [← e]; exact hk') hf
    · rw [e] at hk'; injection hk' with hk'; have := hX.low k hf; omega
  have hpu : ∀ k, x.pending.ownBlock = some k → ¬ (k = b ∨ x.user.ownBlock = some k) := fun k hk h => by
    rcases h with h | h
    · exact hX.p_ne (by rw [hk, h])
    · exact hX.pu_ne k hk h
  refine fs_fin (x' := { x with user := v5 }) hX hM (ow.more (fun k _ h => h.imp id .inr)) (fun k h => ?_) (hblk.set_ 8 v5) ((hX.now.only ow hdF).mono (fun k _ hk => .inl hk)) ((hX.sure.only ow hdF).mono (fun k _ hk => .inl hk)) ((hX.pending.only ow hdF hpu).toG (fun k _ hk => .inl hk) (fun k hk => .inr (.inl hk)) hX.pending.2) ((hX.plan.only ow hdF).mono (fun k _ hk => .inl hk)) ?_
  · rcases h with h | h | h
    · exact .inl (.inl h)
    · exact .inl (.inr (.inl h))
    · rcases hk with e | e
      · exact .inl (.inr (.inr (by rw [← e]; exact h)))
      · right
        have h' : v5.ownBlock = some k := h
        rw [e] at h'; injection h' with h'; omega
  · have hF'b : ∀ k, F' k → ¬ (k = b) := fun k hk e => by
      rcases hF' k hk with hf | hf
      · exact hX.self (by rw [← e]; exact hf)
      · omega
    refine (hown.only (M := fun k => k = b) (Only.set_ (M := fun k => k = b) (g := b) (i := 8) (Only.refl _ w5) (.inl rfl) v5) hF'b hv5b).toG (fun k hk hf => ?_) (fun k hk => .inr (.inr hk)) hv5F
    rcases hF' k hf with h | h
    · exact .inl h
    · refine .inr ⟨h.1, hk, fun hm => ?_⟩
      rcases hm with hm | hm | hm
      · omega
      · have h' : x.pending.ownBlock = some k := hm
        have := (hX.pending.lt k h').2; omega
      · exact hown.2 k hm hf

theorem putE_len {st : FSM} {p : List UInt8} {mode : Int} {data : List UInt8} {only full : Bool} {room : Int} (h : putE st p mode data only full room = 0) : data.length ≤ 20000 := by
  unfold putE at h
  split at h
  · cases h
  · split at h
    · cases h
    · split at h
      · cases h
      · omega
theorem By.slv {F : Nat → Prop} {w : World} {v : Value} {bs : List UInt8} (h : By F w v bs) : SlV w v (bs.map bv) := by
  unfold By at h
  refine Rd.slv (F := F) ?_
  rw [List.length_map]
  exact h
theorem By.bound {F : Nat → Prop} {w : World} {v : Value} {bs : List UInt8} (h : By F w v bs) : By (fun k => F k ∧ k < w.heap.size) w v bs := Rd.mono h (fun _ hk hf => ⟨hf, hk⟩)
/-- What stands in the midst of the note: the copy, and the literal. -/
theorem user_pre {F : Nat → Prop} {w w4 : World} {b : Nat} {st : FSM} {x : FsV} {v4 : Value} {data : List UInt8} {e : EvM} {cs : Array Value} (hX : RefX F w b st x) (hb : Below w.heap.size w w4) (ho : OwnV 5 w4 w.heap.size v4 (data.map bv)) (he : e.data = data) (hcs : cs.toList = evK.cells e v4) :
    (∀ i, w4.cell? ⟨b, i, none⟩ = w.cell? ⟨b, i, none⟩) ∧ (∀ i, (w4.alloc (.cells cs 169)).cell? ⟨b, i, none⟩ = w.cell? ⟨b, i, none⟩) ∧ Blk (w4.alloc (.cells cs 169)) b 140 (fsC st x) ∧ OwnL evK 169 (fun k => F k ∨ (w.heap.size ≤ k ∧ k < w4.heap.size)) (w4.alloc (.cells cs 169)) 0 x.user st.user ∧
      TmpL evK (fun k => F k ∨ (w.heap.size ≤ k ∧ k < w4.heap.size)) (w4.alloc (.cells cs 169)) (.slice (some ⟨w4.heap.size, 0, none⟩) 1 1) [e] ∧ ∀ k, (F k ∨ (w.heap.size ≤ k ∧ k < w4.heap.size)) → k < (w4.alloc (.cells cs 169)).heap.size := by
  have h4 := hX.below hb
  have hz := hb.size
  refine ⟨fun i => (h4.blk.cell i).trans (hX.blk.cell i).symm, fun i => ((h4.blk.alloc _).cell i).trans (hX.blk.cell i).symm, h4.blk.alloc _, OwnL.alloc (h4.user.mono (fun k _ hk => .inl hk) (fun k hk hf => ?_)) _, TmpL.one (Blk.new w4 _ cs) hcs ?_, fun k hk => ?_⟩
  · rcases hf with hf | hf
    · exact hX.user.2 k hk hf
    · have := (hX.user.lt k hk).2; omega
  · have hby : By (fun k => F k ∨ (w.heap.size ≤ k ∧ k < w4.heap.size)) w4 v4 data := OwnV.by_ ho
    rw [show evK.data e = data from he]
    exact hby.only ((Only.refl (fun _ => False) w4).alloc _) (fun _ _ => id)
  · rcases hk with hk | hk
    · have := hX.low k hk; simp; omega
    · simp; omega

set_option maxRecDepth 100000 in
set_option maxHeartbeats 6400000 in
theorem ruserr_any (F M : Nat → Prop) (b : Nat) (st : FSM) (p : List UInt8) (w : World) (h : RefAt F w b st M) (hp : p.length ≤ 1000000) (ht : 0 ≤ st.time ∧ st.time ≤ 4000000000000) (hn : st.now.length ≤ 1000000) (hq : st.pending.length ≤ 1000000) (hn2 : (dropM st p).now.length ≤ 1000000) (hus : st.user.length ≤ 1000000) :
    Calls Tryz.prog 91 #[.pointer (some ⟨b, 0, none⟩), .string (str p)] w fun e w' => e = .returned (.int .i64 (userRE st p)) ∧ FsPost F M w b (userRM st p) w' := by
  have H := Lib.hid h
  have HT := Lib.hid ht
  have HN := Lib.hid hn
  have HQ := Lib.hid hq
  have HN2 := Lib.hid hn2
  have HUS := Lib.hid hus
  obtain ⟨x, hX, _⟩ := h
  have c7 : w.cell? ⟨b, 7, none⟩ = some (.bool st.down) := hX.blk.cell 7
  obtain ⟨dn, hdn⟩ : ∃ dn, st.down = dn := ⟨_, rfl⟩
  rw [hdn] at c7
  have HDN := Lib.hid hdn
  clear ht hn hq hn2 hus hX hdn
  go_enter Tryz.func91, Tryz.ntmps91
  cases dn with
  | true =>
    have HE : Hid (userRE st p = 12) := by unfold Hid userRE; rw [if_pos HDN.out]
    have HM : Hid (userRM st p = st) := by unfold Hid userRM; rw [HE.out, if_neg (by decide)]
    go_wp2
    go_ret
    exact ⟨by rw [HE.out]; rfl, by rw [HM.out]; exact FsPost.refl H.out⟩
  | false =>
    have HE : Hid (userRE st p = dropE st p) := by unfold Hid userRE; rw [if_neg (by rw [HDN.out]; decide)]
    go_wp2_with fail
    refine (rdrop_any F M b st p _ H.out hp HT.out HN.out HQ.out).mono ?_
    rintro e w1 ⟨rfl, hpost⟩
    obtain ⟨q, hq⟩ : ∃ q, dropE st p = q := ⟨_, rfl⟩
    rw [hq]
    have HQQ := Lib.hid hq
    obtain ⟨M1, hat, hon, hsub⟩ := hpost
    have HAT := Lib.hid hat
    have HON := Lib.hid hon
    have HSUB := Lib.hid hsub
    clear hq hat hon hsub
    by_cases hz : q = 0
    · subst hz
      have HM : Hid (userRM st p = { safeM (dropM st p) with user := (safeM (dropM st p)).user ++ [⟨(safeM (dropM st p)).calls, 5, 0, 0, 0, p, []⟩] }) := by unfold Hid userRM; rw [HE.out, HQQ.out, if_pos rfl]
      go_wp2_with fail
      refine (rsafe_any _ M1 b (dropM st p) _ HAT.out HN2.out).mono ?_
      rintro e w2 ⟨rfl, hpost⟩
      obtain ⟨M2, ⟨x2, hX2, hM2⟩, hon2, hsub2⟩ := hpost
      have husr : (safeM (dropM st p)).user = st.user := by unfold safeM dropM; dsimp only; split <;> rfl
      have hcal : (safeM (dropM st p)).calls = st.calls := by unfold safeM dropM; dsimp only; split <;> rfl
      have q8 : w2.cell? ⟨b, 8, none⟩ = some x2.user := hX2.blk.cell 8
      have q8f : w2.frozen? ⟨b, 8, none⟩ = false := hX2.blk.frozen 8
      have q5 : w2.cell? ⟨b, 5, none⟩ = some (.int .i64 st.calls) := by rw [← hcal]; exact hX2.blk.cell 5
      have hblt : b < w2.heap.size := hX2.blk.lt
      obtain ⟨st2, hst2⟩ : ∃ st2, safeM (dropM st p) = st2 := ⟨_, rfl⟩
      rw [hst2] at hX2 husr hcal HM
      have HCAL := Lib.hid hcal
      obtain ⟨F2, hF2⟩ : ∃ F2, F2 = grow (grow F w w1 M1) w1 w2 M2 := ⟨_, rfl⟩
      rw [← hF2] at hX2
      have HX2 := Lib.hid hX2
      have HM2 := Lib.hid hM2
      have HON2 := Lib.hid hon2
      have HSUB2 := Lib.hid hsub2
      have HF2 := Lib.hid hF2
      have s1 : Hid (st2.user.length + [(⟨st.calls, 5, 0, 0, 0, p, []⟩ : EvM)].length ≤ 2000000) := by unfold Hid; rw [husr]; have := HUS.out; simp; omega
      clear hX2 hM2 hon2 hsub2 hst2 hF2 husr hcal
      have HPA := Lib.hid (HX2.out.user.alloc (.cells #[.int .i64 st.calls, .int .i64 5, .int .i64 0, .int .i64 0, .int .i64 0, .string (str p), .slice none 0 0] 169))
      have HLA := Lib.hid (TmpL.one (K := evK) (F := F2) (a := ⟨st.calls, 5, 0, 0, 0, p, []⟩) (d := .slice none 0 0) (Blk.new w2 169 #[.int .i64 st.calls, .int .i64 5, .int .i64 0, .int .i64 0, .int .i64 0, .string (str p), .slice none 0 0]) rfl (By.nil_ F2 _))
      have HFP : Hid (∀ k, F2 k → k < (w2.alloc (.cells #[.int .i64 st.calls, .int .i64 5, .int .i64 0, .int .i64 0, .int .i64 0, .string (str p), .slice none 0 0] 169)).heap.size) := fun k hk => by have := HX2.out.low k hk; simp; omega
      have p8a : (w2.alloc (.cells #[.int .i64 st.calls, .int .i64 5, .int .i64 0, .int .i64 0, .int .i64 0, .string (str p), .slice none 0 0] 169)).cell? ⟨b, 8, none⟩ = some x2.user := (HX2.out.blk.alloc _).cell 8
      have p5a : (w2.alloc (.cells #[.int .i64 st.calls, .int .i64 5, .int .i64 0, .int .i64 0, .int .i64 0, .string (str p), .slice none 0 0] 169)).cell? ⟨b, 5, none⟩ = some (.int .i64 st.calls) := by rw [(HX2.out.blk.alloc _).cell 5, ← HX2.out.blk.cell 5]; exact q5
      go_upto_region 6 with (fail)
      go_cut [] (fun wx => FsPost F M w b (userRM st p) wx)
      case first =>
        go_region_law (refine step_appendL typed_ev (v := x2.user) (ex := .slice (some ⟨w2.heap.size, 0, none⟩) 1 1) (l2 := [⟨st.calls, 5, 0, 0, 0, p, []⟩]) rfl (.tmp 21) (.tmp 28) rfl (by first | exact HPA.out.drew | exact HPA.out) (by first | exact HLA.out.drew | exact HLA.out) (by rfl) (by rfl) s1.out (by exact Nat.zero_le _) (by exact HFP.out) ?_; intro v5 w5 ho5 hg5 hk5; obtain ⟨A5, c5, hv5, _, _⟩ := ho5.tmp.slice; subst hv5; have hb5 : Blk w5 b 140 (fsC st2 x2) := (HX2.out.blk.alloc _).drew.grown hg5 (fun e => HX2.out.u_ne e.symm); have y8 : w5.cell? ⟨b, 8, none⟩ = some x2.user := hb5.cell 8; have y8f : w5.frozen? ⟨b, 8, none⟩ = false := hb5.frozen 8; have HO5 := Lib.hid ho5; have HG5 := Lib.hid hg5; have HK5 := Lib.hid hk5; clear ho5 hg5 hk5 hb5)
        all_goals
          have hf := user_fin (F' := F2) HX2.out HM2.out (((Below.refl _ _).alloc (Nat.le_refl _) _).drew) (fun k hk => .inl hk) HG5.out HO5.out HK5.out
          rw [HF2.out] at hf
          have h12 := FsPost.trans HON2.out HSUB2.out hf
          have h01 := FsPost.trans HON.out HSUB.out h12
          have HFIN := Lib.hid h01
          clear hf h12 h01
          go_wp2_with fail
          go_meet
          have hfin := HFIN.out
          rw [← HCAL.out] at hfin
          rw [HM.out, ← HCAL.out]
          exact hfin
      case rest =>
        have HFIN := Lib.hid hcut
        clear hcut
        go_wp2_with fail
        go_ret
        exact ⟨by rw [HE.out, HQQ.out]; rfl, HFIN.out⟩
    · have e1 : (q == 0) = false := by rw [beq_eq_false_iff_ne]; exact hz
      have HM : Hid (userRM st p = st) := by unfold Hid userRM; rw [HE.out, HQQ.out, if_neg hz]
      have HPM : Hid (dropM st p = st) := by unfold Hid dropM; rw [HQQ.out, if_neg hz]
      clear hz
      go_wp2_with fail
      go_ret
      refine ⟨by rw [HE.out, HQQ.out]; rfl, ?_⟩
      rw [HM.out]
      have := HAT.out
      rw [HPM.out] at this
      exact ⟨M1, this, HON.out, HSUB.out⟩

set_option maxRecDepth 100000 in
set_option maxHeartbeats 6400000 in
theorem ruserw_any (F M : Nat → Prop) (b : Nat) (st : FSM) (p : List UInt8) (mode : Int) (dv : Value) (data : List UInt8) (w : World) (h : RefAt F w b st M) (G : Nat → Prop) (hdv : By G w dv data) (hG : ∀ k, G k → ¬ M k) (hp : p.length ≤ 1000000) (hR : ∀ r ∈ st.now, r.path.length ≤ 1000000) (hu : usedM st.now ≤ 4000000000000) (ht : 0 ≤ st.time ∧ st.time ≤ 4000000000000) (hn : st.now.length ≤ 1000000) (hq : st.pending.length ≤ 1000000) (hn2 : (putM st p mode data false false 1152921504606846976).now.length ≤ 1000000) (hus : st.user.length ≤ 1000000) :
    Calls Tryz.prog 90 #[.pointer (some ⟨b, 0, none⟩), .string (str p), .int .i64 mode, dv] w fun e w' => e = .returned (.int .i64 (userWE st p mode data)) ∧ FsPost F M w b (userWM st p mode data) w' := by
  have H := Lib.hid h
  have HT := Lib.hid ht
  have HN := Lib.hid hn
  have HQ := Lib.hid hq
  have HN2 := Lib.hid hn2
  have HUS := Lib.hid hus
  obtain ⟨dA, dc, rfl, hd1, hd2⟩ := hdv.slice
  have HDV := Lib.hid hdv
  clear hdv hd1 hd2
  obtain ⟨x, hX, _⟩ := h
  have c7 : w.cell? ⟨b, 7, none⟩ = some (.bool st.down) := hX.blk.cell 7
  obtain ⟨dn, hdn⟩ : ∃ dn, st.down = dn := ⟨_, rfl⟩
  rw [hdn] at c7
  have HDN := Lib.hid hdn
  clear ht hn hq hn2 hus hX hdn
  go_enter Tryz.func90, Tryz.ntmps90
  cases dn with
  | true =>
    have HE : Hid (userWE st p mode data = 12) := by unfold Hid userWE; rw [if_pos HDN.out]
    have HM : Hid (userWM st p mode data = st) := by unfold Hid userWM; rw [HE.out, if_neg (by decide)]
    go_wp2
    go_ret
    exact ⟨by rw [HE.out]; rfl, by rw [HM.out]; exact FsPost.refl H.out⟩
  | false =>
    have HE : Hid (userWE st p mode data = putE st p mode data false false 1152921504606846976) := by unfold Hid userWE; rw [if_neg (by rw [HDN.out]; decide)]
    go_wp2_with fail
    refine (rput_any F M b st p mode _ data false false 1152921504606846976 _ H.out HDV.out.slv hp hR hu HT.out HN.out HQ.out).mono ?_
    rintro e w1 ⟨rfl, hpost⟩
    obtain ⟨q, hq⟩ : ∃ q, putE st p mode data false false 1152921504606846976 = q := ⟨_, rfl⟩
    rw [hq]
    have HQQ := Lib.hid hq
    obtain ⟨M1, hat, hon, hsub⟩ := hpost
    have HDV1 := Lib.hid (By.only (F := fun k => G k ∧ k < w.heap.size) HDV.out.bound hon (fun k hk => hG k hk.1))
    have HG1 : Hid (∀ k, (G k ∧ k < w.heap.size) → ¬ M1 k) := fun k hk hm => by
      rcases hsub k hm with h | h
      · exact hG k hk.1 h
      · omega
    have hz1 := hon.size
    have HAT := Lib.hid hat
    have HON := Lib.hid hon
    have HSUB := Lib.hid hsub
    clear hq hat hon hsub
    by_cases hz : q = 0
    · subst hz
      have HM : Hid (userWM st p mode data = { safeM (putM st p mode data false false 1152921504606846976) with user := (safeM (putM st p mode data false false 1152921504606846976)).user ++ [⟨(safeM (putM st p mode data false false 1152921504606846976)).calls, 4, mode, 0, 0, p, data⟩] }) := by unfold Hid userWM; rw [HE.out, HQQ.out, if_pos rfl]
      go_wp2_with fail
      refine (rsafe_any _ M1 b (putM st p mode data false false 1152921504606846976) _ HAT.out HN2.out).mono ?_
      rintro e w2 ⟨rfl, hpost⟩
      obtain ⟨M2, ⟨x2, hX2, hM2⟩, hon2, hsub2⟩ := hpost
      have husr : (safeM (putM st p mode data false false 1152921504606846976)).user = st.user := by unfold safeM putM; dsimp only; split <;> rfl
      have hcal : (safeM (putM st p mode data false false 1152921504606846976)).calls = st.calls := by unfold safeM putM; dsimp only; split <;> rfl
      have q8 : w2.cell? ⟨b, 8, none⟩ = some x2.user := hX2.blk.cell 8
      have q8f : w2.frozen? ⟨b, 8, none⟩ = false := hX2.blk.frozen 8
      have q5 : w2.cell? ⟨b, 5, none⟩ = some (.int .i64 st.calls) := by rw [← hcal]; exact hX2.blk.cell 5
      have hblt : b < w2.heap.size := hX2.blk.lt
      obtain ⟨st2, hst2⟩ : ∃ st2, safeM (putM st p mode data false false 1152921504606846976) = st2 := ⟨_, rfl⟩
      rw [hst2] at hX2 husr hcal HM
      have HCAL := Lib.hid hcal
      obtain ⟨F2, hF2⟩ : ∃ F2, F2 = grow (grow F w w1 M1) w1 w2 M2 := ⟨_, rfl⟩
      rw [← hF2] at hX2
      have HX2 := Lib.hid hX2
      have HM2 := Lib.hid hM2
      have HON2 := Lib.hid hon2
      have HSUB2 := Lib.hid hsub2
      have HF2 := Lib.hid hF2
      have s1 : Hid (st2.user.length + [(⟨st.calls, 4, mode, 0, 0, p, data⟩ : EvM)].length ≤ 2000000) := by unfold Hid; rw [husr]; have := HUS.out; simp; omega
      have HDV2 := Lib.hid (HDV1.out.only hon2 HG1.out)
      have hdl := putE_len HQQ.out
      have HDL : Hid (data.length ≤ 2000000) := by unfold Hid; omega
      clear hdl
      clear hX2 hM2 hon2 hsub2 hst2 hF2 husr hcal
      go_upto_region 6 with (fail)
      go_cut [] (fun wx => FsPost F M w b (userWM st p mode data) wx)
      case first =>
        go_region_law (first
          | (refine step_appendL typed_ev (v := x2.user) (ex := .slice (some ⟨w4.heap.size, 0, none⟩) 1 1) (l2 := [⟨st.calls, 4, mode, 0, 0, p, data⟩]) rfl (.tmp 27) (.tmp 37) rfl (by with_reducible exact HPA.out) (by with_reducible exact HLA.out) (by rfl) (by rfl) s1.out (by exact Nat.zero_le _) (by exact HFP.out) ?_; intro v5 w5 ho5 hg5 hk5; obtain ⟨A5, c5, hv5, _, _⟩ := ho5.tmp.slice; subst hv5; have hb5 : Blk w5 b 140 (fsC st2 x2) := HBA.out.grown hg5 (fun e => HX2.out.u_ne e.symm); have y8 : w5.cell? ⟨b, 8, none⟩ = some x2.user := hb5.cell 8; have y8f : w5.frozen? ⟨b, 8, none⟩ = false := hb5.frozen 8; have HO5 := Lib.hid ho5; have HG5 := Lib.hid hg5; have HK5 := Lib.hid hk5; clear ho5 hg5 hk5 hb5)
          | (refine step_enter rfl 21 #[.slice dA data.length dc] (by go_simp) (rcopyb_any _ data _ (by exact HDV2.out.slv) HDL.out) ?_; rintro e w4 ⟨v4, rfl, ho4, hb4⟩; obtain ⟨A4, c4, rfl, g1, g2⟩ := ho4.length; rw [List.length_map] at ho4 ⊢; refine ⟨_, rfl, ?_⟩; have hb4' : Below w2.heap.size w2 w4 := ⟨hb4.os, hb4.tape, hb4.output, hb4.size, hb4.block⟩; obtain ⟨hc4, hca, b4a, hpa, hla, hfp⟩ := user_pre (e := ⟨st.calls, 4, mode, 0, 0, p, data⟩) (cs := #[.int .i64 st.calls, .int .i64 4, .int .i64 mode, .int .i64 0, .int .i64 0, .string (str p), (.slice A4 data.length c4)]) HX2.out hb4' (by exact ho4) rfl rfl; have p8 : w4.cell? ⟨b, 8, none⟩ = some x2.user := (hc4 8).trans q8; have p5 : w4.cell? ⟨b, 5, none⟩ = some (.int .i64 st.calls) := (hc4 5).trans q5; have p8a : (w4.alloc (.cells #[.int .i64 st.calls, .int .i64 4, .int .i64 mode, .int .i64 0, .int .i64 0, .string (str p), (.slice A4 data.length c4)] 169)).cell? ⟨b, 8, none⟩ = some x2.user := (hca 8).trans q8; have p5a : (w4.alloc (.cells #[.int .i64 st.calls, .int .i64 4, .int .i64 mode, .int .i64 0, .int .i64 0, .string (str p), (.slice A4 data.length c4)] 169)).cell? ⟨b, 5, none⟩ = some (.int .i64 st.calls) := (hca 5).trans q5; have HPA := Lib.hid hpa; have HLA := Lib.hid hla; have HFP := Lib.hid hfp; have HBA := Lib.hid b4a; have HB4 := Lib.hid hb4'; clear ho4 hb4 hb4' b4a hpa hla hfp g1 g2 hc4 hca))
        all_goals
          have hf := user_fin HX2.out HM2.out (HB4.out.alloc HB4.out.size (.cells #[.int .i64 st.calls, .int .i64 4, .int .i64 mode, .int .i64 0, .int .i64 0, .string (str p), (.slice A4 data.length c4)] 169)) (fun k hk => hk.imp id (fun h => ⟨h.1, by have h2 := h.2; simp; omega⟩)) HG5.out HO5.out HK5.out
          rw [HF2.out] at hf
          have h12 := FsPost.trans HON2.out HSUB2.out hf
          have h01 := FsPost.trans HON.out HSUB.out h12
          have HFIN := Lib.hid h01
          clear hf h12 h01
          go_wp2_with fail
          go_meet
          have hfin := HFIN.out
          rw [← HCAL.out] at hfin
          rw [HM.out, ← HCAL.out]
          exact hfin
      case rest =>
        have HFIN := Lib.hid hcut
        clear hcut
        go_wp2_with fail
        go_ret
        exact ⟨by rw [HE.out, HQQ.out]; rfl, HFIN.out⟩
    · have e1 : (q == 0) = false := by rw [beq_eq_false_iff_ne]; exact hz
      have HM : Hid (userWM st p mode data = st) := by unfold Hid userWM; rw [HE.out, HQQ.out, if_neg hz]
      have HPM : Hid (putM st p mode data false false 1152921504606846976 = st) := by unfold Hid putM; rw [HQQ.out, if_neg hz]
      clear hz
      go_wp2_with fail
      go_ret
      refine ⟨by rw [HE.out, HQQ.out]; rfl, ?_⟩
      rw [HM.out]
      have := HAT.out
      rw [HPM.out] at this
      exact ⟨M1, this, HON.out, HSUB.out⟩

end Go.Proofs.YtpfjlhpahmhkhaaGreat.Tx
