/- Texts put together: Ge0, Ge1. -/
import Derived.Test.YtfmlnodhbojdpaaGreatQc49
/- marlaw5.file; marref.Texts of any two lists. -/
namespace Go.Proofs.YtfmlnodhbojdpaaGreat.Tx
open Go.RowKit Go.Maps Go.Proofs.YtfmlnodhbojdpaaGreat.Sh

set_option maxRecDepth 100000 in
set_option maxHeartbeats 3200000 in
theorem file_any (m1 t1 m2 t2 : Int) (A A2 : Option Addr) (n n2 c c2 : Nat) (bs cs : List UInt8) (w : World) (hn : bs.length = n) (hn2 : cs.length = n2) (h1 : SlV w (.slice A n c) (bs.map bv)) (h2 : SlV w (.slice A2 n2 c2) (cs.map bv)) :
    Calls Tryz.prog 80 #[.agg #[.int .i64 m1, .slice A n c, .int .i64 t1], .agg #[.int .i64 m2, .slice A2 n2 c2, .int .i64 t2]] w fun e w' => e = .returned (.bool (decide (m1 = m2) && (decide (t1 = t2) && (bs == cs)))) ∧ Below w.heap.size w w' := by
  have hb1 := (Below.refl w.heap.size w).alloc (Nat.le_refl _) (.cells #[.int .i64 m1, .slice A n c, .int .i64 t1] 46)
  have hb2 := hb1.alloc hb1.size (.cells #[.int .i64 m2, .slice A2 n2 c2, .int .i64 t2] 118)
  have H1 := Lib.hid (h1.below hb2)
  have H2 := Lib.hid (h2.below hb2)
  have HB := Lib.hid hb2
  have HN := Lib.hid hn
  have HN2 := Lib.hid hn2
  clear h1 h2 hb1 hb2 hn hn2
  by_cases hm : m1 = m2
  · subst hm
    by_cases ht : t1 = t2
    · subst ht
      go_enter Tryz.func80, Tryz.ntmps80
      go_wp2_with fail
      refine (tbytes_any A A2 n n2 c c2 bs cs _ HN.out HN2.out H1.out H2.out (bs == cs) rfl).mono ?_
      rintro e wb ⟨rfl, rfl⟩
      go_wp2_with fail
      go_ret
      exact ⟨by simp, HB.out⟩
    · have e1 : (t1 == t2) = false := by rw [beq_eq_false_iff_ne]; exact ht
      go_enter Tryz.func80, Tryz.ntmps80
      go_wp2_with fail
      go_ret
      exact ⟨by simp [ht], HB.out⟩
  · have e1 : (m1 == m2) = false := by rw [beq_eq_false_iff_ne]; exact hm
    go_enter Tryz.func80, Tryz.ntmps80
    go_wp2_with fail
    go_ret
    exact ⟨by simp [hm], HB.out⟩

set_option maxRecDepth 100000 in
set_option maxHeartbeats 1600000 in
theorem texts_any (v v' : Value) (xs ys : List ByteArray) (w : World) (h : SlV w v (xs.map sv)) (h' : SlV w v' (ys.map sv)) : Calls Tryz.prog 83 #[v, v'] w fun e w' => ∃ t, e = .returned (.bool t) ∧ (t = true ↔ xs = ys) ∧ Below w.heap.size w w' := by
  obtain ⟨A, c, rfl, hlc, hcm, hR⟩ := h.len
  obtain ⟨A', c', rfl, hlc', hcm', hR'⟩ := h'.len
  rw [List.length_map] at hlc hR hlc' hR' ⊢
  rw [List.length_map]
  have HR := Lib.hid hR
  have HR' := Lib.hid hR'
  unfold maxLen at hcm hcm'
  obtain ⟨l, hl⟩ : ∃ l, xs.length = l := ⟨_, rfl⟩
  obtain ⟨l', hl'⟩ : ∃ l', ys.length = l' := ⟨_, rfl⟩
  rw [hl] at hlc ⊢
  rw [hl'] at hlc' ⊢
  have HL := Lib.hid hl
  have HL' := Lib.hid hl'
  clear h h' hR hR' hl hl'
  by_cases hll : l = l'
  · subst hll
    go_enter Tryz.func83, Tryz.ntmps83
    go_wp2
    go_loopw [5] (fun i wr => ∃ k : Nat, k ≤ l ∧ i = .int .i64 k ∧ xs.take k = ys.take k ∧ Below w.heap.size w wr) (fun i _ => l - (intOf i).toNat)
    case atStart => exact ⟨0, Nat.zero_le _, rfl, rfl, Below.refl _ _⟩
    case round =>
      obtain ⟨k, hk, rfl, htk, hb⟩ := hrel
      have HB := Lib.hid hb
      have HTK := Lib.hid htk
      clear hb htk
      by_cases hlt : k < l
      · have hkl : k < xs.length := by rw [HL.out]; exact hlt
        have hkl' : k < ys.length := by rw [HL'.out]; exact hlt
        obtain ⟨ad, rfl, hcell⟩ := texts_at ((HR.out.below HB.out).more HB.out.size) k hkl
        obtain ⟨ad', rfl, hcell'⟩ := texts_at ((HR'.out.below HB.out).more HB.out.size) k hkl'
        have HX := Lib.hid (show xs.take (k + 1) = xs.take k ++ [xs[k]] from List.take_succ_eq_append_getElem hkl)
        have HY := Lib.hid (show ys.take (k + 1) = ys.take k ++ [ys[k]] from List.take_succ_eq_append_getElem hkl')
        have HE : Hid (xs[k] ≠ ys[k] → xs ≠ ys) := fun h e => h (by subst e; rfl)
        generalize xs[k] = x at *
        generalize ys[k] = y at *
        clear hkl hkl'
        have z0 : (0 : Int) ≤ (k : Int) := by omega
        have z1 : (k : Int) < (l : Int) := by omega
        by_cases he : x = y
        · subst he
          go_wp2_with fail
          go_quiet (fail)
          go_wp2
          go_roundw
          case rel => exact ⟨k + 1, by omega, by go_num, by rw [HX.out, HY.out, HTK.out], below_drewN HB.out _⟩
          case measure => simp [intOf]; omega
        · have q1 := toList_ne he
          go_wp2_with fail
          go_quiet (fail)
          go_wp2
          go_ret
          exact ⟨_, rfl, by simpa using HE.out he, below_drewN HB.out _⟩
      · obtain rfl : k = l := by omega
        have HXY : Hid (xs = ys) := by
          have h1 := HTK.out
          rw [List.take_of_length_le (by rw [HL.out]; exact Nat.le_refl _), List.take_of_length_le (by rw [HL'.out]; exact Nat.le_refl _)] at h1
          exact h1
        go_wp2
        go_ret
        exact ⟨_, rfl, by simpa using HXY.out, HB.out⟩
  · have e1 : ((l : Int) == (l' : Int)) = false := by rw [beq_eq_false_iff_ne]; omega
    go_enter Tryz.func83, Tryz.ntmps83
    go_wp2_with fail
    go_ret
    exact ⟨_, rfl, ⟨fun h => by simp at h, fun h => (hll (by rw [← HL.out, ← HL'.out, h])).elim⟩, Below.refl _ _⟩
end Go.Proofs.YtfmlnodhbojdpaaGreat.Tx
/- One call of either file system, one behind the other. -/
namespace Go.Proofs.YtfmlnodhbojdpaaGreat.Tx
open Go.RowKit Go.Maps Go.Proofs.YtfmlnodhbojdpaaGreat.Sh

set_option maxRecDepth 100000 in
set_option maxHeartbeats 400000 in
theorem rcopyb_big (v : Value) (bs : List UInt8) (w : World) (h : SlV w v (bs.map bv)) (hn : bs.length ≤ 140737488355328) : Calls Tryz.prog 70 #[v] w fun e w' => ∃ v', e = .returned v' ∧ OwnV 5 w' w.heap.size v' (bs.map bv) ∧ Below w.heap.size w w' := by
  obtain ⟨A, c, rfl, hlc, hcm, hR⟩ := (h.below ((Below.refl w.heap.size w).alloc (Nat.le_refl _) (.cells #[] 5))).len
  rw [List.length_map] at hlc hR ⊢
  have hown : OwnV 5 (w.alloc (.cells #[] 5)) w.heap.size (.slice (some ⟨w.heap.size, 0, none⟩) 0 0) (([] : List UInt8).map bv) := World.ownsRow_made w #[] 0 (Nat.le_refl _) (by unfold maxLen; omega) rfl
  obtain ⟨l, hl⟩ : ∃ l, bs.length = l := ⟨_, rfl⟩
  rw [hl] at hR hn ⊢
  have hsm : ([] : List UInt8).length + l ≤ 140737488355328 := by simp; omega
  have hz : w.heap.size ≤ (w.alloc (.cells #[] 5)).heap.size := by simp
  have HR := Lib.hid hR
  have HOWN := Lib.hid hown
  clear hR hown hl h hlc hcm
  go_enter Tryz.func70, Tryz.ntmps70
  go_wp2_with (at_builtin; refine append_bytes rfl (.tmp 3) (.tmp 4) rfl _ w.heap.size (.slice (some ⟨w.heap.size, 0, none⟩) 0 0) [] rfl HOWN.out _ A l c bs rfl HR.out hsm hz ?_; intro v3 w3 ho3 hb3; have HO := Lib.hid ho3; have HB := Lib.hid hb3; clear ho3 hb3)
  go_ret
  refine ⟨v3, rfl, ?_, ((Below.refl _ _).alloc (Nat.le_refl _) _).trans HB.out⟩
  simpa using HO.out
section
variable {F M Mf Mx G : Nat → Prop} {w w1 w2 : World} {b d : Nat} {c c' : CSt} {s s' : FSM}
theorem TwoX.later (h : TwoX F w b c d s Mf Mx) (hp : FcPost F Mf w b c' w1) : RefAt F w1 d s Mx := by
  obtain ⟨M1, _, h2, _⟩ := hp
  exact h.x.only h2 (fun k hk => h.f.apart_ k hk) (fun k hk hf => h.apart k hf hk)
theorem FsPost.then_below (h : FsPost F M w d s' w1) (hb : Below w1.heap.size w1 w2) : FsPost F M w d s' w2 := by
  obtain ⟨M2, h1, h3, h4⟩ := h
  exact FsPost.trans h3 h4 (FsPost.of_below hb (FsPost.refl (h1.below hb)))
theorem two_both (h : TwoX F w b c d s Mf Mx) (hM : ∀ k, M k ↔ Mf k ∨ Mx k) (hp : FcPost F Mf w b c' w1) (hq : FsPost F Mx w1 d s' w2) : TwoPost F M w b c' d s' w2 := by
  obtain ⟨M1, h1, h2, h3⟩ := hp
  obtain ⟨M2, h4, h5, h6⟩ := hq
  have z1 := h2.size
  have z2 := h5.size
  have hxl := h.x.mlt
  have hs : ∀ k, M1 k ∨ M2 k → M k ∨ w.heap.size ≤ k := fun k hk => by
    rcases hk with hk | hk
    · exact (h3 k hk).imp (fun h => (hM k).2 (.inl h)) id
    · exact (h6 k hk).imp (fun h => (hM k).2 (.inr h)) (fun h => by omega)
  have hap : ∀ k, F k → ¬ M k := fun k hk hm => by
    rcases (hM k).1 hm with h9 | h9
    · exact h.f.apart_ k hk h9
    · exact h.x.apart_ k hk h9
  have hga := grow_apart (w' := w2) hap h.f.low hs
  have hgl := grow_lt (w := w) (w' := w2) (M' := fun k => M1 k ∨ M2 k) h.f.low (by omega)
  refine ⟨fun k => M1 k ∨ M2 k, ⟨M1, M2, ⟨?_, ?_, fun k hk hx => ?_⟩, fun _ => Iff.rfl⟩, (h2.more (fun k _ hk => (hM k).2 (.inl hk))).trans h5 (fun k hk => .inl ((hM k).2 (.inr hk))), hs⟩
  · refine (h1.only h5 (fun k hk hx => ?_) (fun k hk hx => ?_)).mono_ (fun k hk => ?_) (fun k hk hm => hga k hk (.inl hm)) hgl
    · rcases hk with hk | ⟨g1, _, _⟩
      · exact h.x.apart_ k hk hx
      · have := hxl k hx; omega
    · rcases h3 k hk with h9 | h9
      · exact h.apart k h9 hx
      · have := hxl k hx; omega
    · rcases hk with hk | ⟨g1, g2, g3⟩
      · exact .inl hk
      · refine .inr ⟨g1, by omega, fun h9 => ?_⟩
        rcases h9 with h9 | h9
        · exact g3 h9
        · rcases h6 k h9 with h8 | h8
          · have := hxl k h8; omega
          · omega
  · refine h4.mono_ (fun k hk => ?_) (fun k hk hm => hga k hk (.inr hm)) hgl
    rcases hk with hk | ⟨g1, g2, g3⟩
    · exact .inl hk
    · refine .inr ⟨by omega, g2, fun h9 => ?_⟩
      rcases h9 with h9 | h9
      · have := h1.lt k h9; omega
      · exact g3 h9
  · rcases h6 k hx with h9 | h9
    · rcases h3 k hk with h8 | h8
      · exact h.apart k h8 h9
      · have := hxl k h9; omega
    · have := h1.lt k hk; omega
end
end Go.Proofs.YtfmlnodhbojdpaaGreat.Tx
