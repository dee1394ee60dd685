/- Texts put together: Fx7, Fx8. -/
import Derived.Test.YtfmlnodhbojdpaaGreatQc12
import Derived.Test.YtfmlnodhbojdpaaGreatQc11
import Derived.Test.YtfmlnodhbojdpaaGreatQc05
/- The reference's file system: copies of bytes, safe, drop. -/
namespace Go.Proofs.YtfmlnodhbojdpaaGreat.Tx
open Go.RowKit Go.Proofs.YtfmlnodhbojdpaaGreat.Sh

theorem OwnL.toG {K : Shape} {T : TypeId} {F F0 M' : Nat → Prop} {w wf : World} {B : Nat} {v : Value} {l : List K.α} (h : OwnL K T F0 wf B v l) (hF : ∀ k, k < wf.heap.size → F0 k → grow F w wf M' k) (hm : ∀ k, v.ownBlock = some k → M' k) (hn : ∀ k, v.ownBlock = some k → ¬ F k) : OwnL K T (grow F w wf M') wf B v l :=
  h.mono hF (fun k hk hg => by
    rcases hg with hf | ⟨_, _, hn'⟩
    · exact hn k hk hf
    · exact hn' (hm k hk))
/-- A file system put together anew. -/
theorem fs_fin {F M : Nat → Prop} {w wf : World} {b : Nat} {st st' : FSM} {x x' : FsV} (hX : RefX F w b st x) (hM : ∀ k, M k ↔ fsM b x k) (ow : Only (fsM b x) w wf) (hM' : ∀ k, fsM b x' k → fsM b x k ∨ w.heap.size ≤ k)
    (blk : Blk wf b 104 (fsC st' x')) (now : RowsIn (grow F w wf (fsM b x')) wf x'.now st'.now) (sure : RowsIn (grow F w wf (fsM b x')) wf x'.sure st'.sure) (pending : OwnL opK 177 (grow F w wf (fsM b x')) wf 0 x'.pending st'.pending)
    (plan : InL evK (grow F w wf (fsM b x')) wf x'.plan st'.plan) (user : OwnL evK 129 (grow F w wf (fsM b x')) wf 0 x'.user st'.user) : FsPost F M w b st' wf := by
  refine ⟨fsM b x', ⟨x', ⟨blk, now, sure, pending, plan, user, ?_, ?_⟩, fun k => Iff.rfl⟩, ow.more (fun k _ h => (hM k).2 h), fun k h => (hM' k h).imp (hM k).2 id⟩
  · rintro (h | ⟨_, _, h⟩)
    · exact hX.self h
    · exact h (.inl rfl)
  · rintro k (h | ⟨_, h, _⟩)
    · have := hX.low k h; have := ow.size; omega
    · exact h

set_option maxRecDepth 100000 in
set_option maxHeartbeats 400000 in
theorem rcopyb_any (v : Value) (bs : List UInt8) (w : World) (h : SlV w v (bs.map bv)) (hn : bs.length ≤ 2000000) : Calls Tryz.prog 70 #[v] w fun e w' => ∃ v', e = .returned v' ∧ OwnV 5 w' w.heap.size v' (bs.map bv) ∧ Below w.heap.size w w' := by
  obtain ⟨A, c, rfl, hlc, hcm, hR⟩ := (h.below ((Below.refl w.heap.size w).alloc (Nat.le_refl _) (.cells #[] 5))).len
  rw [List.length_map] at hlc hR ⊢
  have hown : OwnV 5 (w.alloc (.cells #[] 5)) w.heap.size (.slice (some ⟨w.heap.size, 0, none⟩) 0 0) (([] : List UInt8).map bv) := World.ownsRow_made w #[] 0 (Nat.le_refl _) (by unfold maxLen; omega) rfl
  obtain ⟨l, hl⟩ : ∃ l, bs.length = l := ⟨_, rfl⟩
  rw [hl] at hR hn ⊢
  have hsm : ([] : List UInt8).length + l ≤ 140737488355328 := by simp; omega
  have hz : w.heap.size ≤ (w.alloc (.cells #[] 5)).heap.size := by simp
  have HR := Lib.hid hR
  have HOWN := Lib.hid hown
  clear hR hown hl h hlc hcm
  go_enter Tryz.func70, Tryz.ntmps70
  go_wp2_with (at_builtin; refine append_bytes rfl (.tmp 3) (.tmp 4) rfl _ w.heap.size (.slice (some ⟨w.heap.size, 0, none⟩) 0 0) [] rfl HOWN.out _ A l c bs rfl HR.out hsm hz ?_; intro v3 w3 ho3 hb3; have HO := Lib.hid ho3; have HB := Lib.hid hb3; clear ho3 hb3)
  go_ret
  refine ⟨v3, rfl, ?_, ((Below.refl _ _).alloc (Nat.le_refl _) _).trans HB.out⟩
  simpa using HO.out
/-- New bytes, as bytes that stay. -/
theorem OwnV.by_ {w : World} {B : Nat} {v : Value} {bs : List UInt8} {F : Nat → Prop} (h : OwnV 5 w B v (bs.map bv)) : By (fun k => F k ∨ (B ≤ k ∧ k < w.heap.size)) w v bs := by
  have h' : w.ownsRow B 5 1 v bs.length (bs.map bv) := by have := h; unfold OwnV at this; rwa [List.length_map] at this
  exact Rd.of_own h' (fun k hk => .inr (h'.lt k hk))

set_option maxRecDepth 100000 in
set_option maxHeartbeats 1600000 in
theorem rsafe_any (F M : Nat → Prop) (b : Nat) (st : FSM) (w : World) (h : RefAt F w b st M) (hn : st.now.length ≤ 1000000) :
    Calls Tryz.prog 146 #[.pointer (some ⟨b, 0, none⟩)] w fun e w' => e = .returned (.tuple #[]) ∧ FsPost F M w b (safeM st) w' := by
  obtain ⟨x, hX, hM⟩ := h
  have hblt := hX.blk.lt
  have hwa : Blk (w.alloc (.cells #[] 174)) b 104 (fsC st x) := hX.blk.alloc _
  have c1 : (w.alloc (.cells #[] 174)).cell? ⟨b, 1, none⟩ = some x.now := hwa.cell 1
  have hre := rows_empty F w w.heap.size (Nat.le_refl _) hX.low
  have hnow := (hX.now.below ((Below.refl _ _).alloc (Nat.le_refl _) (.cells #[] 174))).tmp
  have hsm : ([] : List RowM).length + st.now.length ≤ 2000000 := by simp; omega
  have hz : w.heap.size ≤ (w.alloc (.cells #[] 174)).heap.size := by simp
  have hF : ∀ k, F k → k < (w.alloc (.cells #[] 174)).heap.size := fun k hk => by have := hX.low k hk; simp; omega
  have HX := Lib.hid hX
  have HMM := Lib.hid hM
  have HRE := Lib.hid hre
  have HNOW := Lib.hid hnow
  have HF := Lib.hid hF
  have HWA := Lib.hid hwa
  clear hX hM hre hnow hF hwa hn
  go_enter Tryz.func146, Tryz.ntmps146
  go_wp2_with (at_builtin; refine append_rows rfl (.tmp 3) (.tmp 7) rfl F _ w.heap.size (.slice (some ⟨w.heap.size, 0, none⟩) 0 0) [] rfl HRE.out _ st.now rfl HNOW.out hsm hz HF.out ?_; intro v3 w3 ho3 hg3 hb3; obtain ⟨A3, c3, hv3, g1, g2⟩ := ho3.slice; subst hv3; clear g1 g2; have HO3 := Lib.hid ho3; have HB3 := Lib.hid hb3; have hk3 : Blk w3 b 104 (fsC st x) := HWA.out.below hb3 hblt; have y2 : w3.cell? ⟨b, 2, none⟩ = some x.sure := hk3.cell 2; have y2f : w3.frozen? ⟨b, 2, none⟩ = false := hk3.frozen 2; have y3 : w3.cell? ⟨b, 3, none⟩ = some x.pending := hk3.cell 3; have y3f : w3.frozen? ⟨b, 3, none⟩ = false := hk3.frozen 3; have HK3 := Lib.hid hk3; clear ho3 hg3 hb3 hk3)
  go_end0
  refine ⟨rfl, ?_⟩
  have hB : Below w.heap.size w w3 := ((Below.refl _ _).alloc (Nat.le_refl _) _).trans HB3.out
  have hX := HX.out
  have hv3 : (.slice A3 ([] ++ st.now).length c3 : Value) = .slice A3 st.now.length c3 := by simp
  have ob : Only (fun k => k = b) w ((w3.setCell ⟨b, 2, none⟩ (.slice A3 st.now.length c3)).setCell ⟨b, 3, none⟩ (.slice none 0 0)) :=
    Only.set_ (M := fun k => k = b) (g := b) (i := 3) (Only.set_ (M := fun k => k = b) (g := b) (i := 2) (Only.of_below hB) (.inl rfl) _) (.inl rfl) _
  have o3 : Only (fun k => k = b) w3 ((w3.setCell ⟨b, 2, none⟩ (.slice A3 st.now.length c3)).setCell ⟨b, 3, none⟩ (.slice none 0 0)) :=
    Only.set_ (M := fun k => k = b) (g := b) (i := 3) (Only.set_ (M := fun k => k = b) (g := b) (i := 2) (Only.refl _ w3) (.inl rfl) _) (.inl rfl) _
  have hz3 := hB.size
  have hzf : ((w3.setCell ⟨b, 2, none⟩ (.slice A3 st.now.length c3)).setCell ⟨b, 3, none⟩ (.slice none 0 0)).heap.size = w3.heap.size := by simp [World.setCell]
  have hFb : ∀ k, F k → ¬ (k = b) := fun k hk e => hX.self (by rw [← e]; exact hk)
  have hun : ∀ k, x.user.ownBlock = some k → ¬ (k = b) := fun k hk e => hX.u_ne (by rw [hk, e])
  refine fs_fin (x' := { x with sure := .slice A3 st.now.length c3, pending := .slice none 0 0 }) hX HMM.out (ob.more (fun k _ h => .inl h)) (fun k h => ?_) ((HK3.out.set_ 2 _).set_ 3 _) ((hX.now.only ob hFb).mono (fun k _ hk => .inl hk)) ?_ (OwnL.nil_ _ _ _ _ _) ((hX.plan.only ob hFb).mono (fun k _ hk => .inl hk)) ((hX.user.only ob hFb hun).toG (fun k _ hk => .inl hk) (fun k hk => .inr (.inr hk)) hX.user.2)
  · rcases h with h | h | h
    · exact .inl (.inl h)
    · cases h
    · exact .inl (.inr (.inr h))
  · have h1 := HO3.out.rin
    rw [List.nil_append] at h1
    refine (h1.only o3 (fun k hk e => ?_)).mono (fun k hk hf => ?_)
    · rcases hk with hk | hk
      · exact hFb k hk e
      · omega
    · rcases hf with hf | hf
      · exact .inl hf
      · refine .inr ⟨hf.1, hk, fun hm => ?_⟩
        rcases hm with h | h | h
        · omega
        · cases h
        · have := (hX.user.lt k h).2; omega
end Go.Proofs.YtfmlnodhbojdpaaGreat.Tx
/- The reference's file system: drop, put. -/
namespace Go.Proofs.YtfmlnodhbojdpaaGreat.Tx
open Go.RowKit Go.Proofs.YtfmlnodhbojdpaaGreat.Sh

theorem FsPost.of_below {F M : Nat → Prop} {w w1 w2 : World} {b : Nat} {st : FSM} (hb : Below w.heap.size w w1) (h : FsPost F M w1 b st w2) : FsPost F M w b st w2 := by
  obtain ⟨M2, ⟨x, h1, h2⟩, h3, h4⟩ := h
  have hz := hb.size
  have hz2 := h3.size
  refine ⟨M2, ⟨x, h1.mono (F' := grow F w w2 M2) (fun k hk => ?_) (fun k hk hm => ?_) (fun k hk => ?_), h2⟩, (Only.of_below hb).trans h3 (fun k hk => .inl hk), fun k hk => (h4 k hk).imp id (fun h => by omega)⟩
  · rcases hk with hk | ⟨g1, g2, g3⟩
    · exact .inl hk
    · exact .inr ⟨by omega, g2, g3⟩
  · rcases hk with hk | ⟨_, _, g3⟩
    · exact h1.apart k (.inl hk) hm
    · exact g3 ((h2 k).2 hm)
  · rcases hk with hk | ⟨_, g2, _⟩
    · exact h1.low k (.inl hk)
    · exact g2
theorem RefAt.below {F M : Nat → Prop} {w w1 : World} {b : Nat} {st : FSM} (h : RefAt F w b st M) (hb : Below w.heap.size w w1) : RefAt F w1 b st M := by
  obtain ⟨x, h1, h2⟩ := h
  exact ⟨x, h1.below hb, h2⟩
theorem FsPost.same {F M : Nat → Prop} {w w1 : World} {b : Nat} {st : FSM} (h : RefAt F w b st M) (hb : Below w.heap.size w w1) : FsPost F M w b st w1 := FsPost.of_below hb (FsPost.refl (h.below hb))
/-- A wider F: what was new ahead of the call may be read by it. -/
theorem FsPost.wide {F F' M : Nat → Prop} {w w1 w2 : World} {b : Nat} {st : FSM} (hb : Below w.heap.size w w1) (hF' : ∀ k, F' k → F k ∨ (w.heap.size ≤ k ∧ k < w1.heap.size)) (hF : ∀ k, F k → F' k) (h : FsPost F' M w1 b st w2) : FsPost F M w b st w2 := by
  obtain ⟨M2, ⟨x, h1, h2⟩, h3, h4⟩ := h
  have hz := hb.size
  have hz2 := h3.size
  refine ⟨M2, ⟨x, h1.mono (F' := grow F w w2 M2) (fun k hk => ?_) (fun k hk hm => ?_) (fun k hk => ?_), h2⟩, (Only.of_below hb).trans h3 (fun k hk => .inl hk), fun k hk => (h4 k hk).imp id (fun h => by omega)⟩
  · rcases hk with hk | ⟨g1, g2, g3⟩
    · rcases hF' k hk with hf | ⟨g1, g2⟩
      · exact .inl hf
      · refine .inr ⟨g1, by omega, fun hm => ?_⟩
        exact h1.apart k (.inl hk) ((h2 k).1 hm)
    · exact .inr ⟨by omega, g2, g3⟩
  · rcases hk with hk | ⟨_, _, g3⟩
    · exact h1.apart k (.inl (hF k hk)) hm
    · exact g3 ((h2 k).2 hm)
  · rcases hk with hk | ⟨_, g2, _⟩
    · exact h1.low k (.inl (hF k hk))
    · exact g2
theorem By.nil_ (F : Nat → Prop) (w : World) : By F w (.slice none 0 0) [] := Rd.nil_ F w 1

set_option maxRecDepth 100000 in
set_option maxHeartbeats 1600000 in
theorem rdrop_any (F M : Nat → Prop) (b : Nat) (st : FSM) (p : List UInt8) (w : World) (h : RefAt F w b st M) (hp : p.length ≤ 1000000) (ht : 0 ≤ st.time ∧ st.time ≤ 4000000000000) (hn : st.now.length ≤ 1000000) (hq : st.pending.length ≤ 1000000) :
    Calls Tryz.prog 145 #[.pointer (some ⟨b, 0, none⟩), .string (str p)] w fun e w' => e = .returned (.int .i64 (dropE st p)) ∧ FsPost F M w b (dropM st p) w' := by
  have H := Lib.hid h
  have HT := Lib.hid ht
  have HN := Lib.hid hn
  have HQ := Lib.hid hq
  clear h ht hn hq
  obtain ⟨t, htt⟩ : ∃ t, pathB p = t := ⟨_, rfl⟩
  have HTT := Lib.hid htt
  clear htt
  go_enter Tryz.func145, Tryz.ntmps145
  go_wp2_with fail
  refine (rpath_any p _ hp).mono ?_
  rintro e w1 ⟨rfl, hb⟩
  rw [HTT.out]
  have HB := Lib.hid hb
  have H1 := Lib.hid (H.out.below hb)
  clear hb
  cases t with
  | false =>
    have HE : Hid (dropE st p = 6) := by unfold Hid dropE; rw [if_pos HTT.out]
    have HM : Hid (dropM st p = st) := by unfold Hid dropM; rw [HE.out, if_neg (by decide)]
    go_wp2_with fail
    go_ret
    exact ⟨by rw [HE.out]; rfl, by rw [HM.out]; exact FsPost.same H.out HB.out⟩
  | true =>
    obtain ⟨x, hX, hM⟩ := H1.out
    have c1 : w1.cell? ⟨b, 1, none⟩ = some x.now := hX.blk.cell 1
    have HX := Lib.hid hX
    clear hX hM
    go_wp2_with fail
    refine (rfind_any F x.now st.now p _ HX.out.now).mono ?_
    rintro e w2 ⟨rfl, rfl⟩
    cases hf : findM st.now p with
    | none =>
      have HZ := Lib.hid (findZ_none hf)
      have HE : Hid (dropE st p = 7) := by unfold Hid dropE; rw [if_neg (by rw [HTT.out]; decide), if_pos (by rw [hf]; rfl)]
      have HM : Hid (dropM st p = st) := by unfold Hid dropM; rw [HE.out, if_neg (by decide)]
      rw [HZ.out]
      clear hf
      go_wp2_with fail
      go_ret
      exact ⟨by rw [HE.out]; rfl, by rw [HM.out]; exact FsPost.same H.out HB.out⟩
    | some i =>
      have HZ := Lib.hid (findZ_some hf)
      have HE : Hid (dropE st p = 0) := by unfold Hid dropE; rw [if_neg (by rw [HTT.out]; decide), if_neg (by rw [hf]; simp)]
      have HM : Hid (dropM st p = changeM st ⟨3, p, [], ⟨0, [], 0⟩⟩) := by unfold Hid dropM; rw [HE.out, if_pos rfl]
      have i0 : (0 : Int) ≤ (i : Int) := by omega
      rw [HZ.out]
      clear hf
      go_wp2_with fail
      refine (rchange_any F M b st ⟨3, p, [], ⟨0, [], 0⟩⟩ (.slice none 0 0) _ H1.out (By.nil_ F _) HT.out HN.out HQ.out).mono ?_
      rintro e w2 ⟨rfl, hpost⟩
      have HP := Lib.hid hpost
      clear hpost
      go_wp2_with fail
      go_ret
      exact ⟨by rw [HE.out]; rfl, by rw [HM.out]; exact FsPost.of_below HB.out HP.out⟩
end Go.Proofs.YtfmlnodhbojdpaaGreat.Tx
