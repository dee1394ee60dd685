/- Texts put together: WFx7, WFx8, WFx9. -/
import Derived.Test.YtpfjlhpahmhkhaaGreatQf09
import Derived.Test.YtpfjlhpahmhkhaaGreatQf08
import Derived.Test.YtpfjlhpahmhkhaaGreatQf03
/- The reference's file system: copies of bytes, safe, drop. -/
namespace Go.Proofs.YtpfjlhpahmhkhaaGreat.Tx
open Go.RowKit Go.Proofs.YtpfjlhpahmhkhaaGreat.Sh

theorem OwnL.toG {K : Shape} {T : TypeId} {F F0 M' : Nat → Prop} {w wf : World} {B : Nat} {v : Value} {l : List K.α} (h : OwnL K T F0 wf B v l) (hF : ∀ k, k < wf.heap.size → F0 k → grow F w wf M' k) (hm : ∀ k, v.ownBlock = some k → M' k) (hn : ∀ k, v.ownBlock = some k → ¬ F k) : OwnL K T (grow F w wf M') wf B v l :=
  h.mono hF (fun k hk hg => by
    rcases hg with hf | ⟨_, _, hn'⟩
    · exact hn k hk hf
    · exact hn' (hm k hk))
/-- A file system put together anew. -/
theorem fs_fin {F M : Nat → Prop} {w wf : World} {b : Nat} {st st' : FSM} {x x' : FsV} (hX : RefX F w b st x) (hM : ∀ k, M k ↔ fsM b x k) (ow : Only (fsM b x) w wf) (hM' : ∀ k, fsM b x' k → fsM b x k ∨ w.heap.size ≤ k)
    (blk : Blk wf b 140 (fsC st' x')) (now : RowsIn (grow F w wf (fsM b x')) wf x'.now st'.now) (sure : RowsIn (grow F w wf (fsM b x')) wf x'.sure st'.sure) (pending : OwnL opK 257 (grow F w wf (fsM b x')) wf 0 x'.pending st'.pending)
    (plan : InL evK (grow F w wf (fsM b x')) wf x'.plan st'.plan) (user : OwnL evK 169 (grow F w wf (fsM b x')) wf 0 x'.user st'.user) : FsPost F M w b st' wf := by
  refine ⟨fsM b x', ⟨x', ⟨blk, now, sure, pending, plan, user, ?_, ?_⟩, fun k => Iff.rfl⟩, ow.more (fun k _ h => (hM k).2 h), fun k h => (hM' k h).imp (hM k).2 id⟩
  · rintro (h | ⟨_, _, h⟩)
    · exact hX.self h
    · exact h (.inl rfl)
  · rintro k (h | ⟨_, h, _⟩)
    · have := hX.low k h; have := ow.size; omega
    · exact h

set_option maxRecDepth 100000 in
set_option maxHeartbeats 400000 in
theorem rcopyb_any (v : Value) (bs : List UInt8) (w : World) (h : SlV w v (bs.map bv)) (hn : bs.length ≤ 2000000) : Calls Tryz.prog 21 #[v] w fun e w' => ∃ v', e = .returned v' ∧ OwnV 5 w' w.heap.size v' (bs.map bv) ∧ Below w.heap.size w w' := by
  obtain ⟨A, c, rfl, hlc, hcm, hR⟩ := (h.below ((Below.refl w.heap.size w).alloc (Nat.le_refl _) (.cells #[] 5))).len
  rw [List.length_map] at hlc hR ⊢
  have hown : OwnV 5 (w.alloc (.cells #[] 5)) w.heap.size (.slice (some ⟨w.heap.size, 0, none⟩) 0 0) (([] : List UInt8).map bv) := World.ownsRow_made w #[] 0 (Nat.le_refl _) (by unfold maxLen; omega) rfl
  obtain ⟨l, hl⟩ : ∃ l, bs.length = l := ⟨_, rfl⟩
  rw [hl] at hR hn ⊢
  have hsm : ([] : List UInt8).length + l ≤ 140737488355328 := by simp; omega
  have hz : w.heap.size ≤ (w.alloc (.cells #[] 5)).heap.size := by simp
  have HR := Lib.hid hR
  have HOWN := Lib.hid hown
  clear hR hown hl h hlc hcm
  go_enter Tryz.func21, Tryz.ntmps21
  go_wp2_with (at_builtin; refine append_bytes rfl (.tmp 3) (.tmp 4) rfl _ w.heap.size (.slice (some ⟨w.heap.size, 0, none⟩) 0 0) [] rfl HOWN.out _ A l c bs rfl HR.out hsm hz ?_; intro v3 w3 ho3 hb3; have HO := Lib.hid ho3; have HB := Lib.hid hb3; clear ho3 hb3)
  go_ret
  refine ⟨v3, rfl, ?_, ((Below.refl _ _).alloc (Nat.le_refl _) _).trans HB.out⟩
  simpa using HO.out
/-- New bytes, as bytes that stay. -/
theorem OwnV.by_ {w : World} {B : Nat} {v : Value} {bs : List UInt8} {F : Nat → Prop} (h : OwnV 5 w B v (bs.map bv)) : By (fun k => F k ∨ (B ≤ k ∧ k < w.heap.size)) w v bs := by
  have h' : w.ownsRow B 5 1 v bs.length (bs.map bv) := by have := h; unfold OwnV at this; rwa [List.length_map] at this
  exact Rd.of_own h' (fun k hk => .inr (h'.lt k hk))

set_option maxRecDepth 100000 in
set_option maxHeartbeats 1600000 in
theorem rsafe_any (F M : Nat → Prop) (b : Nat) (st : FSM) (w : World) (h : RefAt F w b st M) (hn : st.now.length ≤ 1000000) :
    Calls Tryz.prog 168 #[.pointer (some ⟨b, 0, none⟩)] w fun e w' => e = .returned (.tuple #[]) ∧ FsPost F M w b (safeM st) w' := by
  obtain ⟨x, hX, hM⟩ := h
  have hblt := hX.blk.lt
  have hwa : Blk (w.alloc (.cells #[] 254)) b 140 (fsC st x) := hX.blk.alloc _
  have c1 : (w.alloc (.cells #[] 254)).cell? ⟨b, 1, none⟩ = some x.now := hwa.cell 1
  have hre := rows_empty F w w.heap.size (Nat.le_refl _) hX.low
  have hnow := (hX.now.below ((Below.refl _ _).alloc (Nat.le_refl _) (.cells #[] 254))).tmp
  have hsm : ([] : List RowM).length + st.now.length ≤ 2000000 := by simp; omega
  have hz : w.heap.size ≤ (w.alloc (.cells #[] 254)).heap.size := by simp
  have hF : ∀ k, F k → k < (w.alloc (.cells #[] 254)).heap.size := fun k hk => by have := hX.low k hk; simp; omega
  have HX := Lib.hid hX
  have HMM := Lib.hid hM
  have HRE := Lib.hid hre
  have HNOW := Lib.hid hnow
  have HF := Lib.hid hF
  have HWA := Lib.hid hwa
  clear hX hM hre hnow hF hwa hn
  go_enter Tryz.func168, Tryz.ntmps168
  go_wp2_with (at_builtin; refine append_rows rfl (.tmp 3) (.tmp 7) rfl F _ w.heap.size (.slice (some ⟨w.heap.size, 0, none⟩) 0 0) [] rfl HRE.out _ st.now rfl HNOW.out hsm hz HF.out ?_; intro v3 w3 ho3 hg3 hb3; obtain ⟨A3, c3, hv3, g1, g2⟩ := ho3.slice; subst hv3; clear g1 g2; have HO3 := Lib.hid ho3; have HB3 := Lib.hid hb3; have hk3 : Blk w3 b 140 (fsC st x) := HWA.out.below hb3 hblt; have y2 : w3.cell? ⟨b, 2, none⟩ = some x.sure := hk3.cell 2; have y2f : w3.frozen? ⟨b, 2, none⟩ = false := hk3.frozen 2; have y3 : w3.cell? ⟨b, 3, none⟩ = some x.pending := hk3.cell 3; have y3f : w3.frozen? ⟨b, 3, none⟩ = false := hk3.frozen 3; have HK3 := Lib.hid hk3; clear ho3 hg3 hb3 hk3)
  go_end0
  refine ⟨rfl, ?_⟩
  have hB : Below w.heap.size w w3 := ((Below.refl _ _).alloc (Nat.le_refl _) _).trans HB3.out
  have hX := HX.out
  have hv3 : (.slice A3 ([] ++ st.now).length c3 : Value) = .slice A3 st.now.length c3 := by simp
  have ob : Only (fun k => k = b) w ((w3.setCell ⟨b, 2, none⟩ (.slice A3 st.now.length c3)).setCell ⟨b, 3, none⟩ (.slice none 0 0)) :=
    Only.set_ (M := fun k => k = b) (g := b) (i := 3) (Only.set_ (M := fun k => k = b) (g := b) (i := 2) (Only.of_below hB) (.inl rfl) _) (.inl rfl) _
  have o3 : Only (fun k => k = b) w3 ((w3.setCell ⟨b, 2, none⟩ (.slice A3 st.now.length c3)).setCell ⟨b, 3, none⟩ (.slice none 0 0)) :=
    Only.set_ (M := fun k => k = b) (g := b) (i := 3) (Only.set_ (M := fun k => k = b) (g := b) (i := 2) (Only.refl _ w3) (.inl rfl) _) (.inl rfl) _
  have hz3 := hB.size
  have hzf : ((w3.setCell ⟨b, 2, none⟩ (.slice A3 st.now.length c3)).setCell ⟨b, 3, none⟩ (.slice none 0 0)).heap.size = w3.heap.size := by simp [World.setCell]
  have hFb : ∀ k, F k → ¬ (k = b) := fun k hk e => hX.self (by rw [← e]; exact hk)
  have hun : ∀ k, x.user.ownBlock = some k → ¬ (k = b) := fun k hk e => hX.u_ne (by rw [hk, e])
  refine fs_fin (x' := { x with sure := .slice A3 st.now.length c3, pending := .slice none 0 0 }) hX HMM.out (ob.more (fun k _ h => .inl h)) (fun k h => ?_) ((HK3.out.set_ 2 _).set_ 3 _) ((hX.now.only ob hFb).mono (fun k _ hk => .inl hk)) ?_ (OwnL.nil_ _ _ _ _ _) ((hX.plan.only ob hFb).mono (fun k _ hk => .inl hk)) ((hX.user.only ob hFb hun).toG (fun k _ hk => .inl hk) (fun k hk => .inr (.inr hk)) hX.user.2)
  · rcases h with h | h | h
    · exact .inl (.inl h)
    · cases h
    · exact .inl (.inr (.inr h))
  · have h1 := HO3.out.rin
    rw [List.nil_append] at h1
    refine (h1.only o3 (fun k hk e => ?_)).mono (fun k hk hf => ?_)
    · rcases hk with hk | hk
      · exact hFb k hk e
      · omega
    · rcases hf with hf | hf
      · exact .inl hf
      · refine .inr ⟨hf.1, hk, fun hm => ?_⟩
        rcases hm with h | h | h
        · omega
        · cases h
        · have := (hX.user.lt k h).2; omega
end Go.Proofs.YtpfjlhpahmhkhaaGreat.Tx
/- The reference's file system: drop, put. -/
namespace Go.Proofs.YtpfjlhpahmhkhaaGreat.Tx
open Go.RowKit Go.Proofs.YtpfjlhpahmhkhaaGreat.Sh

theorem FsPost.of_below {F M : Nat → Prop} {w w1 w2 : World} {b : Nat} {st : FSM} (hb : Below w.heap.size w w1) (h : FsPost F M w1 b st w2) : FsPost F M w b st w2 := by
  obtain ⟨M2, ⟨x, h1, h2⟩, h3, h4⟩ := h
  have hz := hb.size
  have hz2 := h3.size
  refine ⟨M2, ⟨x, h1.mono (F' := grow F w w2 M2) (fun k hk => ?_) (fun k hk hm => ?_) (fun k hk => ?_), h2⟩, (Only.of_below hb).trans h3 (fun k hk => .inl hk), fun k hk => (h4 k hk).imp id (fun h => by omega)⟩
  · rcases hk with hk | ⟨g1, g2, g3⟩
    · exact .inl hk
    · exact .inr ⟨by omega, g2, g3⟩
  · rcases hk with hk | ⟨_, _, g3⟩
    · exact h1.apart k (.inl hk) hm
    · exact g3 ((h2 k).2 hm)
  · rcases hk with hk | ⟨_, g2, _⟩
    · exact h1.low k (.inl hk)
    · exact g2
theorem RefAt.below {F M : Nat → Prop} {w w1 : World} {b : Nat} {st : FSM} (h : RefAt F w b st M) (hb : Below w.heap.size w w1) : RefAt F w1 b st M := by
  obtain ⟨x, h1, h2⟩ := h
  exact ⟨x, h1.below hb, h2⟩
theorem FsPost.same {F M : Nat → Prop} {w w1 : World} {b : Nat} {st : FSM} (h : RefAt F w b st M) (hb : Below w.heap.size w w1) : FsPost F M w b st w1 := FsPost.of_below hb (FsPost.refl (h.below hb))
/-- A wider F: what was new ahead of the call may be read by it. -/
theorem FsPost.wide {F F' M : Nat → Prop} {w w1 w2 : World} {b : Nat} {st : FSM} (hb : Below w.heap.size w w1) (hF' : ∀ k, F' k → F k ∨ (w.heap.size ≤ k ∧ k < w1.heap.size)) (hF : ∀ k, F k → F' k) (h : FsPost F' M w1 b st w2) : FsPost F M w b st w2 := by
  obtain ⟨M2, ⟨x, h1, h2⟩, h3, h4⟩ := h
  have hz := hb.size
  have hz2 := h3.size
  refine ⟨M2, ⟨x, h1.mono (F' := grow F w w2 M2) (fun k hk => ?_) (fun k hk hm => ?_) (fun k hk => ?_), h2⟩, (Only.of_below hb).trans h3 (fun k hk => .inl hk), fun k hk => (h4 k hk).imp id (fun h => by omega)⟩
  · rcases hk with hk | ⟨g1, g2, g3⟩
    · rcases hF' k hk with hf | ⟨g1, g2⟩
      · exact .inl hf
      · refine .inr ⟨g1, by omega, fun hm => ?_⟩
        exact h1.apart k (.inl hk) ((h2 k).1 hm)
    · exact .inr ⟨by omega, g2, g3⟩
  · rcases hk with hk | ⟨_, _, g3⟩
    · exact h1.apart k (.inl (hF k hk)) hm
    · exact g3 ((h2 k).2 hm)
  · rcases hk with hk | ⟨_, g2, _⟩
    · exact h1.low k (.inl (hF k hk))
    · exact g2
theorem By.nil_ (F : Nat → Prop) (w : World) : By F w (.slice none 0 0) [] := Rd.nil_ F w 1

set_option maxRecDepth 100000 in
set_option maxHeartbeats 1600000 in
theorem rdrop_any (F M : Nat → Prop) (b : Nat) (st : FSM) (p : List UInt8) (w : World) (h : RefAt F w b st M) (hp : p.length ≤ 1000000) (ht : 0 ≤ st.time ∧ st.time ≤ 4000000000000) (hn : st.now.length ≤ 1000000) (hq : st.pending.length ≤ 1000000) :
    Calls Tryz.prog 167 #[.pointer (some ⟨b, 0, none⟩), .string (str p)] w fun e w' => e = .returned (.int .i64 (dropE st p)) ∧ FsPost F M w b (dropM st p) w' := by
  have H := Lib.hid h
  have HT := Lib.hid ht
  have HN := Lib.hid hn
  have HQ := Lib.hid hq
  clear h ht hn hq
  obtain ⟨t, htt⟩ : ∃ t, pathB p = t := ⟨_, rfl⟩
  have HTT := Lib.hid htt
  clear htt
  go_enter Tryz.func167, Tryz.ntmps167
  go_wp2_with fail
  refine (rpath_any p _ hp).mono ?_
  rintro e w1 ⟨rfl, hb⟩
  rw [HTT.out]
  have HB := Lib.hid hb
  have H1 := Lib.hid (H.out.below hb)
  clear hb
  cases t with
  | false =>
    have HE : Hid (dropE st p = 6) := by unfold Hid dropE; rw [if_pos HTT.out]
    have HM : Hid (dropM st p = st) := by unfold Hid dropM; rw [HE.out, if_neg (by decide)]
    go_wp2_with fail
    go_ret
    exact ⟨by rw [HE.out]; rfl, by rw [HM.out]; exact FsPost.same H.out HB.out⟩
  | true =>
    obtain ⟨x, hX, hM⟩ := H1.out
    have c1 : w1.cell? ⟨b, 1, none⟩ = some x.now := hX.blk.cell 1
    have HX := Lib.hid hX
    clear hX hM
    go_wp2_with fail
    refine (rfind_any F x.now st.now p _ HX.out.now).mono ?_
    rintro e w2 ⟨rfl, rfl⟩
    cases hf : findM st.now p with
    | none =>
      have HZ := Lib.hid (findZ_none hf)
      have HE : Hid (dropE st p = 7) := by unfold Hid dropE; rw [if_neg (by rw [HTT.out]; decide), if_pos (by rw [hf]; rfl)]
      have HM : Hid (dropM st p = st) := by unfold Hid dropM; rw [HE.out, if_neg (by decide)]
      rw [HZ.out]
      clear hf
      go_wp2_with fail
      go_ret
      exact ⟨by rw [HE.out]; rfl, by rw [HM.out]; exact FsPost.same H.out HB.out⟩
    | some i =>
      have HZ := Lib.hid (findZ_some hf)
      have HE : Hid (dropE st p = 0) := by unfold Hid dropE; rw [if_neg (by rw [HTT.out]; decide), if_neg (by rw [hf]; simp)]
      have HM : Hid (dropM st p = changeM st ⟨3, p, [], ⟨0, [], 0⟩⟩) := by unfold Hid dropM; rw [HE.out, if_pos rfl]
      have i0 : (0 : Int) ≤ (i : Int) := by omega
      rw [HZ.out]
      clear hf
      go_wp2_with fail
      refine (rchange_any F M b st ⟨3, p, [], ⟨0, [], 0⟩⟩ (.slice none 0 0) _ H1.out (By.nil_ F _) HT.out HN.out HQ.out).mono ?_
      rintro e w2 ⟨rfl, hpost⟩
      have HP := Lib.hid hpost
      clear hpost
      go_wp2_with fail
      go_ret
      exact ⟨by rw [HE.out]; rfl, by rw [HM.out]; exact FsPost.of_below HB.out HP.out⟩
end Go.Proofs.YtpfjlhpahmhkhaaGreat.Tx
/- The reference's file system: put. -/
namespace Go.Proofs.YtpfjlhpahmhkhaaGreat.Tx
open Go.RowKit Go.Proofs.YtpfjlhpahmhkhaaGreat.Sh

theorem oldM_none {R : List RowM} {p : List UInt8} (h : findM R p = none) : oldM R p = 0 := by unfold oldM; rw [h]
theorem oldM_some {R : List RowM} {p : List UInt8} {i : Nat} {r : RowM} (h : findM R p = some i) (hr : R[i]? = some r) : oldM R p = r.f.data.length := by unfold oldM; rw [h]; simp only [hr]
theorem oldM_le (R : List RowM) (p : List UInt8) : oldM R p ≤ usedM R := by
  unfold oldM
  split
  · exact Nat.zero_le _
  · rename_i i hi
    split
    · exact Nat.zero_le _
    · rename_i r hr
      have h1 := used_take hr
      have h2 := used_le R (i + 1)
      omega
theorem RefAt.grown {F : Nat → Prop} {w w1 : World} {b : Nat} {st : FSM} {M : Nat → Prop} (h : RefAt F w b st M) (hb : Below w.heap.size w w1) {n : Nat} (hn : w.heap.size ≤ n) : RefAt (fun k => F k ∨ (n ≤ k ∧ k < w1.heap.size)) w1 b st M := by
  obtain ⟨x, h1, h2⟩ := h
  refine ⟨x, (h1.below hb).mono (fun k hk => .inl hk) (fun k hk hm => ?_) (fun k hk => ?_), h2⟩
  · rcases hk with hk | hk
    · exact h1.apart k hk hm
    · have := h1.lt k hm; omega
  · rcases hk with hk | hk
    · have := h1.low k hk; have := hb.size; omega
    · exact hk.2

set_option maxRecDepth 100000 in
set_option maxHeartbeats 6400000 in
theorem rput_any (F M : Nat → Prop) (b : Nat) (st : FSM) (p : List UInt8) (mode : Int) (dv : Value) (data : List UInt8) (only full : Bool) (room : Int) (w : World) (h : RefAt F w b st M) (hdv : SlV w dv (data.map bv)) (hp : p.length ≤ 1000000) (hR : ∀ r ∈ st.now, r.path.length ≤ 1000000)
    (hu : usedM st.now ≤ 4000000000000) (ht : 0 ≤ st.time ∧ st.time ≤ 4000000000000) (hn : st.now.length ≤ 1000000) (hq : st.pending.length ≤ 1000000) :
    Calls Tryz.prog 164 #[.pointer (some ⟨b, 0, none⟩), .string (str p), .int .i64 mode, dv, .bool only, .bool full, .int .i64 room] w fun e w' => e = .returned (.int .i64 (putE st p mode data only full room)) ∧ FsPost F M w b (putM st p mode data only full room) w' := by
  have H := Lib.hid h
  have HT := Lib.hid ht
  have HN := Lib.hid hn
  have HQ := Lib.hid hq
  have HRP := Lib.hid hR
  have HU := Lib.hid hu
  have HDV := Lib.hid hdv
  have hold := oldM_le st.now p
  obtain ⟨dA, dc, rfl, hd1, hd2, _⟩ := hdv.len
  rw [List.length_map] at hd1 HDV ⊢
  unfold maxLen at hd2
  obtain ⟨dn, hdn⟩ : ∃ dn, data.length = dn := ⟨_, rfl⟩
  rw [hdn] at hd1 HDV ⊢
  have HDN := Lib.hid hdn
  obtain ⟨t, htt⟩ : ∃ t, pathB p = t := ⟨_, rfl⟩
  have HTT := Lib.hid htt
  obtain ⟨x, hX, _⟩ := h
  have c1 : w.cell? ⟨b, 1, none⟩ = some x.now := hX.blk.cell 1
  have HX := Lib.hid hX
  have dn0 : (0 : Int) ≤ (dn : Int) := by omega
  obtain ⟨ov, hov⟩ : ∃ ov, oldM st.now p = ov := ⟨_, rfl⟩
  obtain ⟨uv, huv⟩ : ∃ uv, usedM st.now = uv := ⟨_, rfl⟩
  rw [hov, huv] at hold
  rw [huv] at hu
  have HOV := Lib.hid hov
  have HUV := Lib.hid huv
  have o0 : (0 : Int) ≤ (ov : Int) := by omega
  have o1 : (ov : Int) ≤ (uv : Int) := by omega
  have u1 : (uv : Int) ≤ 4000000000000 := by omega
  clear ht hn hq hR hdv hdn htt hX hov huv hold hu
  go_enter Tryz.func164, Tryz.ntmps164
  go_wp2_with fail
  refine (rfind_any F x.now st.now p _ HX.out.now).mono ?_
  rintro e w2 ⟨rfl, rfl⟩
  cases hf : findM st.now p with
  | none =>
    have HZ := Lib.hid (findZ_none hf)
    have HF := Lib.hid hf
    have ho0 := oldM_none hf
    rw [HOV.out] at ho0
    subst ho0
    rw [HZ.out]
    clear hf
    go_wp2_with fail
    refine (rpath_any p _ hp).mono ?_
    rintro e w1 ⟨rfl, hb⟩
    rw [HTT.out]
    have HB := Lib.hid hb
    have H1 := Lib.hid (H.out.below hb)
    have HDV1 := Lib.hid (HDV.out.below hb)
    clear hb
    cases t with
    | false =>
      have HE : Hid (putE st p mode data only full room = 6) := by unfold Hid putE; rw [if_pos HTT.out]
      have HM : Hid (putM st p mode data only full room = st) := by unfold Hid putM; rw [HE.out, if_neg (by decide)]
      go_wp2_with fail
      go_ret
      exact ⟨by rw [HE.out]; rfl, by rw [HM.out]; exact FsPost.same H.out HB.out⟩
    | true =>
      by_cases hm : mode < 1 ∨ 3 < mode
      · have HE : Hid (putE st p mode data only full room = 1) := by unfold Hid putE; rw [if_neg (by rw [HTT.out]; decide), if_pos hm]
        have HM : Hid (putM st p mode data only full room = st) := by unfold Hid putM; rw [HE.out, if_neg (by decide)]
        have hm2 : mode < 1 ∨ (1 ≤ mode ∧ 3 < mode) := by omega
        clear hm
        rcases hm2 with hm | ⟨hm, hm3⟩
        all_goals
          go_wp2_with fail
          go_ret
          exact ⟨by rw [HE.out]; rfl, by rw [HM.out]; exact FsPost.same H.out HB.out⟩
      · have m1 : 1 ≤ mode := by omega
        have m3 : mode ≤ 3 := by omega
        have HMO := Lib.hid hm
        clear hm
        by_cases hl : 20000 < dn
        · have HE : Hid (putE st p mode data only full room = 3) := by unfold Hid putE; rw [if_neg (by rw [HTT.out]; decide), if_neg HMO.out, if_pos (by rw [HDN.out]; exact hl)]
          have HM : Hid (putM st p mode data only full room = st) := by unfold Hid putM; rw [HE.out, if_neg (by decide)]
          have z1 : (20000 : Int) < (dn : Int) := by omega
          clear hl
          go_wp2_with fail
          go_ret
          exact ⟨by rw [HE.out]; rfl, by rw [HM.out]; exact FsPost.same H.out HB.out⟩
        · have z1 : (dn : Int) ≤ 20000 := by omega
          have hl2 : ¬ 20000 < data.length := by rw [HDN.out]; exact hl
          have HLE := Lib.hid hl2
          clear hl hl2
          have HD : Hid (¬ ((findM st.now p).isSome = true ∧ only = true)) := fun h => by rw [HF.out] at h; cases h.1
          obtain ⟨x1, hX1, _⟩ := H1.out
          have c11 : w1.cell? ⟨b, 1, none⟩ = some x1.now := hX1.blk.cell 1
          have HX1 := Lib.hid hX1
          obtain ⟨my, hmy⟩ : ∃ my, mayM st.now p = my := ⟨_, rfl⟩
          have HMY := Lib.hid hmy
          clear hX1 hmy
          go_wp2_with fail
          refine (rmay_any F x1.now st.now p _ HX1.out.now hp HRP.out).mono ?_
          rintro e w2 ⟨rfl, hb2⟩
          rw [HMY.out]
          have HB2 := Lib.hid (HB.out.trans (hb2.mono HB.out.size))
          have H2 := Lib.hid (H1.out.below hb2)
          have HDV2 := Lib.hid (HDV1.out.below hb2)
          clear hb2
          cases my with
          | false =>
            have HE : Hid (putE st p mode data only full room = 9) := by unfold Hid putE; rw [if_neg (by rw [HTT.out]; decide), if_neg HMO.out, if_neg HLE.out, if_neg HD.out, if_pos ⟨by rw [HF.out]; rfl, HMY.out⟩]
            have HM : Hid (putM st p mode data only full room = st) := by unfold Hid putM; rw [HE.out, if_neg (by decide)]
            go_wp2_with fail
            go_ret
            exact ⟨by rw [HE.out]; rfl, by rw [HM.out]; exact FsPost.same H.out HB2.out⟩
          | true =>
            have HEE : Hid (¬ ((findM st.now p).isNone = true ∧ mayM st.now p = false)) := fun h => by rw [HMY.out] at h; cases h.2
            clear HB H1 HDV1
            cases full with
            | true =>
              have HE : Hid (putE st p mode data only true room = 10) := by unfold Hid putE; rw [if_neg (by rw [HTT.out]; decide), if_neg HMO.out, if_neg HLE.out, if_neg HD.out, if_neg HEE.out, if_pos (.inl rfl)]
              have HM : Hid (putM st p mode data only true room = st) := by unfold Hid putM; rw [HE.out, if_neg (by decide)]
              go_wp2_with fail
              go_ret
              exact ⟨by rw [HE.out]; rfl, by rw [HM.out]; exact FsPost.same H.out HB2.out⟩
            | false =>
              obtain ⟨x2, hX2, _⟩ := H2.out
              have c12 : w2.cell? ⟨b, 1, none⟩ = some x2.now := hX2.blk.cell 1
              have HX2 := Lib.hid hX2
              clear hX2
              go_wp2_with fail
              refine (rused_any F x2.now st.now _ HX2.out.now HU.out).mono ?_
              rintro e w3 ⟨rfl, rfl⟩
              rw [HUV.out]
              by_cases hr : room < (uv : Int) + (dn : Int)
              · have HE : Hid (putE st p mode data only false room = 10) := by unfold Hid putE; rw [if_neg (by rw [HTT.out]; decide), if_neg HMO.out, if_neg HLE.out, if_neg HD.out, if_neg HEE.out, if_pos (.inr (by rw [HUV.out, HOV.out, HDN.out]; omega))]
                have HM : Hid (putM st p mode data only false room = st) := by unfold Hid putM; rw [HE.out, if_neg (by decide)]
                go_wp2_with fail
                go_ret
                exact ⟨by rw [HE.out]; rfl, by rw [HM.out]; exact FsPost.same H.out HB2.out⟩
              · have HE : Hid (putE st p mode data only false room = 0) := by
                  unfold Hid putE
                  rw [if_neg (by rw [HTT.out]; decide), if_neg HMO.out, if_neg HLE.out, if_neg HD.out, if_neg HEE.out, if_neg]
                  rintro (h | h)
                  · cases h
                  · rw [HUV.out, HOV.out, HDN.out] at h; omega
                have HM : Hid (putM st p mode data only false room = changeM st ⟨1, [], p, ⟨mode, data, 0⟩⟩) := by unfold Hid putM; rw [HE.out, if_pos rfl]
                have hr2 : (uv : Int) + (dn : Int) ≤ room := by omega
                clear hr
                go_wp2_with fail
                refine (rcopyb_any _ data _ HDV2.out (by have := HLE.out; omega)).mono ?_
                rintro e w4 ⟨v4, rfl, ho4, hb4⟩
                obtain ⟨A4, c4, rfl, g1, g2⟩ := ho4.length
                rw [List.length_map, HDN.out] at ho4 ⊢
                have HBY := Lib.hid (OwnV.by_ (F := F) ho4)
                have H4 := Lib.hid (H2.out.grown hb4 (Nat.le_refl _))
                have HB4 := Lib.hid (HB2.out.trans (hb4.mono HB2.out.size))
                have hz4 := hb4.size
                have hz2 := HB2.out.size
                clear ho4 hb4 g1 g2
                go_wp2_with fail
                refine (rchange_any _ M b st ⟨1, [], p, ⟨mode, data, 0⟩⟩ (.slice A4 dn c4) _ H4.out HBY.out HT.out HN.out HQ.out).mono ?_
                rintro e w5 ⟨rfl, hpost⟩
                have HP := Lib.hid hpost
                clear hpost
                go_wp2_with fail
                go_ret
                exact ⟨by rw [HE.out]; rfl, by rw [HM.out]; exact FsPost.wide HB4.out (fun k hk => hk.imp id (fun h => ⟨Nat.le_trans hz2 h.1, h.2⟩)) (fun k hk => .inl hk) HP.out⟩
  | some i =>
    obtain ⟨r, hr, _⟩ := find_at hf
    have HZ := Lib.hid (findZ_some hf)
    have HF := Lib.hid hf
    have ho0 := oldM_some hf hr
    rw [HOV.out] at ho0
    obtain ⟨A, c, hAc, hlc, hcm⟩ := HX.out.now.slice
    have hil : i < st.now.length := (List.getElem?_eq_some_iff.1 hr).1
    have hxn := HX.out.now
    rw [hAc] at hxn c1 ⊢
    obtain ⟨ad, d2, rfl, hby, _, _, x2, _⟩ := hxn.at_ i r hr
    obtain ⟨A2, c2', rfl, k1, k2⟩ := hby.slice
    rw [← ho0] at x2 k1
    obtain ⟨n, hN⟩ : ∃ n, st.now.length = n := ⟨_, rfl⟩
    rw [hN] at hlc hil c1 ⊢
    unfold maxLen at hcm k2
    have i0 : (0 : Int) ≤ (i : Int) := by omega
    have i1 : (i : Int) < (n : Int) := by omega
    rw [HZ.out]
    clear hf hr hAc hN hxn hby ho0
    go_wp2_with fail
    refine (rpath_any p _ hp).mono ?_
    rintro e w1 ⟨rfl, hb⟩
    rw [HTT.out]
    have HB := Lib.hid hb
    have H1 := Lib.hid (H.out.below hb)
    have HDV1 := Lib.hid (HDV.out.below hb)
    clear hb
    cases t with
    | false =>
      have HE : Hid (putE st p mode data only full room = 6) := by unfold Hid putE; rw [if_pos HTT.out]
      have HM : Hid (putM st p mode data only full room = st) := by unfold Hid putM; rw [HE.out, if_neg (by decide)]
      go_wp2_with fail
      go_ret
      exact ⟨by rw [HE.out]; rfl, by rw [HM.out]; exact FsPost.same H.out HB.out⟩
    | true =>
      by_cases hm : mode < 1 ∨ 3 < mode
      · have HE : Hid (putE st p mode data only full room = 1) := by unfold Hid putE; rw [if_neg (by rw [HTT.out]; decide), if_pos hm]
        have HM : Hid (putM st p mode data only full room = st) := by unfold Hid putM; rw [HE.out, if_neg (by decide)]
        have hm2 : mode < 1 ∨ (1 ≤ mode ∧ 3 < mode) := by omega
        clear hm
        rcases hm2 with hm | ⟨hm, hm3⟩
        all_goals
          go_wp2_with fail
          go_ret
          exact ⟨by rw [HE.out]; rfl, by rw [HM.out]; exact FsPost.same H.out HB.out⟩
      · have m1 : 1 ≤ mode := by omega
        have m3 : mode ≤ 3 := by omega
        have HMO := Lib.hid hm
        clear hm
        by_cases hl : 20000 < dn
        · have HE : Hid (putE st p mode data only full room = 3) := by unfold Hid putE; rw [if_neg (by rw [HTT.out]; decide), if_neg HMO.out, if_pos (by rw [HDN.out]; exact hl)]
          have HM : Hid (putM st p mode data only full room = st) := by unfold Hid putM; rw [HE.out, if_neg (by decide)]
          have z1 : (20000 : Int) < (dn : Int) := by omega
          clear hl
          go_wp2_with fail
          go_ret
          exact ⟨by rw [HE.out]; rfl, by rw [HM.out]; exact FsPost.same H.out HB.out⟩
        · have z1 : (dn : Int) ≤ 20000 := by omega
          have hl2 : ¬ 20000 < data.length := by rw [HDN.out]; exact hl
          have HLE := Lib.hid hl2
          clear hl hl2
          cases only with
          | true =>
            have HE : Hid (putE st p mode data true full room = 8) := by unfold Hid putE; rw [if_neg (by rw [HTT.out]; decide), if_neg HMO.out, if_neg HLE.out, if_pos ⟨by rw [HF.out]; rfl, rfl⟩]
            have HM : Hid (putM st p mode data true full room = st) := by unfold Hid putM; rw [HE.out, if_neg (by decide)]
            go_wp2_with fail
            go_ret
            exact ⟨by rw [HE.out]; rfl, by rw [HM.out]; exact FsPost.same H.out HB.out⟩
          | false =>
            have HD : Hid (¬ ((findM st.now p).isSome = true ∧ false = true)) := fun h => by cases h.2
            have HEE : Hid (¬ ((findM st.now p).isNone = true ∧ mayM st.now p = false)) := fun h => by rw [HF.out] at h; cases h.1
            have HB2 := Lib.hid HB.out
            have H2 := Lib.hid H1.out
            have HDV2 := Lib.hid HDV1.out
            clear HB H1 HDV1
            cases full with
            | true =>
              have HE : Hid (putE st p mode data false true room = 10) := by unfold Hid putE; rw [if_neg (by rw [HTT.out]; decide), if_neg HMO.out, if_neg HLE.out, if_neg HD.out, if_neg HEE.out, if_pos (.inl rfl)]
              have HM : Hid (putM st p mode data false true room = st) := by unfold Hid putM; rw [HE.out, if_neg (by decide)]
              go_wp2_with fail
              go_ret
              exact ⟨by rw [HE.out]; rfl, by rw [HM.out]; exact FsPost.same H.out HB2.out⟩
            | false =>
              obtain ⟨x2, hX2, _⟩ := H2.out
              have c12 : w1.cell? ⟨b, 1, none⟩ = some x2.now := hX2.blk.cell 1
              have HX2 := Lib.hid hX2
              clear hX2
              go_wp2_with fail
              refine (rused_any F x2.now st.now _ HX2.out.now HU.out).mono ?_
              rintro e w3 ⟨rfl, rfl⟩
              rw [HUV.out]
              by_cases hr : room < (uv : Int) - (ov : Int) + (dn : Int)
              · have HE : Hid (putE st p mode data false false room = 10) := by unfold Hid putE; rw [if_neg (by rw [HTT.out]; decide), if_neg HMO.out, if_neg HLE.out, if_neg HD.out, if_neg HEE.out, if_pos (.inr (by rw [HUV.out, HOV.out, HDN.out]; omega))]
                have HM : Hid (putM st p mode data false false room = st) := by unfold Hid putM; rw [HE.out, if_neg (by decide)]
                go_wp2_with fail
                go_ret
                exact ⟨by rw [HE.out]; rfl, by rw [HM.out]; exact FsPost.same H.out HB2.out⟩
              · have HE : Hid (putE st p mode data false false room = 0) := by
                  unfold Hid putE
                  rw [if_neg (by rw [HTT.out]; decide), if_neg HMO.out, if_neg HLE.out, if_neg HD.out, if_neg HEE.out, if_neg]
                  rintro (h | h)
                  · cases h
                  · rw [HUV.out, HOV.out, HDN.out] at h; omega
                have HM : Hid (putM st p mode data false false room = changeM st ⟨1, [], p, ⟨mode, data, 0⟩⟩) := by unfold Hid putM; rw [HE.out, if_pos rfl]
                have hr2 : (uv : Int) - (ov : Int) + (dn : Int) ≤ room := by omega
                clear hr
                go_wp2_with fail
                refine (rcopyb_any _ data _ HDV2.out (by have := HLE.out; omega)).mono ?_
                rintro e w4 ⟨v4, rfl, ho4, hb4⟩
                obtain ⟨A4, c4, rfl, g1, g2⟩ := ho4.length
                rw [List.length_map, HDN.out] at ho4 ⊢
                have HBY := Lib.hid (OwnV.by_ (F := F) ho4)
                have H4 := Lib.hid (H2.out.grown hb4 (Nat.le_refl _))
                have HB4 := Lib.hid (HB2.out.trans (hb4.mono HB2.out.size))
                have hz4 := hb4.size
                have hz2 := HB2.out.size
                clear ho4 hb4 g1 g2
                go_wp2_with fail
                refine (rchange_any _ M b st ⟨1, [], p, ⟨mode, data, 0⟩⟩ (.slice A4 dn c4) _ H4.out HBY.out HT.out HN.out HQ.out).mono ?_
                rintro e w5 ⟨rfl, hpost⟩
                have HP := Lib.hid hpost
                clear hpost
                go_wp2_with fail
                go_ret
                exact ⟨by rw [HE.out]; rfl, by rw [HM.out]; exact FsPost.wide HB4.out (fun k hk => hk.imp id (fun h => ⟨Nat.le_trans hz2 h.1, h.2⟩)) (fun k hk => .inl hk) HP.out⟩
end Go.Proofs.YtpfjlhpahmhkhaaGreat.Tx
