/- Texts put together: YRf7, YSr2, YSr3. -/
import Derived.Test.YtlgmbljfjfcpoaaGreatQt38
import Derived.Test.YtlgmbljfjfcpoaaGreatQt36
/- A file system of one's own, and blocks beside it that its calls leave alone; a map of texts. -/
set_option linter.unusedVariables false
set_option linter.unusedSimpArgs false
namespace Go.Proofs.YtlgmbljfjfcpoaaGreat.Tx
open Go.RowKit Go.Maps Go.Proofs.YtlgmbljfjfcpoaaGreat.Sh

def MineP (w w1 : World) (b : Nat) (c : CSt) (Z : Nat → Prop) : Prop := ∃ F M, FcAt F w1 b c M ∧ (∀ k, M k → w.heap.size ≤ k) ∧ Below w.heap.size w w1 ∧ ∀ k, Z k → ¬ F k ∧ ¬ M k ∧ k < w1.heap.size
section
variable {w w1 w2 : World} {b g i : Nat} {c c' : CSt} {Z Z' : Nat → Prop}
theorem MineP.mine (h : MineP w w1 b c Z) : Mine w w1 b c := by
  obtain ⟨F, M, h1, h2, h3, _⟩ := h
  exact ⟨F, M, h1, h2, h3⟩
theorem MineP.bel (h : MineP w w1 b c Z) : Below w.heap.size w w1 := by
  obtain ⟨F, M, _, _, h3, _⟩ := h
  exact h3
theorem MineP.start (h : Mine w w1 b c) : MineP w w1 b c (fun _ => False) := by
  obtain ⟨F, M, h1, h2, h3⟩ := h
  exact ⟨F, M, h1, h2, h3, fun k hk => hk.elim⟩
theorem MineP.fewer (h : MineP w w1 b c Z) (hz : ∀ k, Z' k → Z k) : MineP w w1 b c Z' := by
  obtain ⟨F, M, h1, h2, h3, h4⟩ := h
  exact ⟨F, M, h1, h2, h3, fun k hk => h4 k (hz k hk)⟩
theorem MineP.below (h : MineP w w1 b c Z) (hb : Below w1.heap.size w1 w2) : MineP w w2 b c Z := by
  obtain ⟨F, M, h1, h2, h3, h4⟩ := h
  exact ⟨F, M, h1.below hb, h2, h3.trans (hb.mono h3.size), fun k hk => ⟨(h4 k hk).1, (h4 k hk).2.1, Nat.lt_of_lt_of_le (h4 k hk).2.2 hb.size⟩⟩
theorem MineP.add (h : MineP w w1 b c Z) (o : Obj) : MineP w (w1.alloc o) b c (fun k => Z k ∨ k = w1.heap.size) := by
  have hb : Below w1.heap.size w1 (w1.alloc o) := (Below.refl _ _).alloc (Nat.le_refl _) _
  obtain ⟨F, M, h1, h2, h3, h4⟩ := h
  refine ⟨F, M, h1.below hb, h2, h3.trans (hb.mono h3.size), fun k hk => ?_⟩
  rcases hk with hk | rfl
  · exact ⟨(h4 k hk).1, (h4 k hk).2.1, Nat.lt_of_lt_of_le (h4 k hk).2.2 hb.size⟩
  · refine ⟨fun hf => ?_, fun hm => ?_, by simp⟩
    · have := h1.low _ hf; omega
    · have := h1.lt _ hm; omega
/-- One of the blocks is written. -/
theorem MineP.upd (h : MineP w w1 b c Z) (ho : Only (fun k => k = g) w1 w2) (hg : Z g) (hgw : w.heap.size ≤ g) : MineP w w2 b c Z := by
  obtain ⟨F, M, h1, h2, h3, h4⟩ := h
  obtain ⟨g1, g2, g3⟩ := h4 g hg
  refine ⟨F, M, h1.only ho (fun k hk e => g1 (e ▸ hk)) (fun k hk e => g2 (e ▸ hk)), h2, ((Only.of_below (M := fun _ => False) h3).trans ho (fun k hk => .inr (by rw [hk]; exact hgw))).below, fun k hk => ⟨(h4 k hk).1, (h4 k hk).2.1, Nat.lt_of_lt_of_le (h4 k hk).2.2 ho.size⟩⟩
theorem MineP.of {F M : Nat → Prop} (hM : ∀ k, M k → w.heap.size ≤ k) (hb : Below w.heap.size w w1) (hz : ∀ k, Z k → ¬ F k ∧ ¬ M k ∧ k < w1.heap.size) (h : FcPost F M w1 b c' w2) : MineP w w2 b c' Z ∧ Only (fun k => ¬ Z k) w1 w2 := by
  obtain ⟨M', h1, h2, h3⟩ := h
  have hzz := hb.size
  refine ⟨⟨_, M', h1, fun k hk => ?_, ((Only.of_below (M := fun _ => False) hb).trans h2 (fun k hk => .inr (hM k hk))).below, fun k hk => ?_⟩, h2.more (fun k _ hm hk => (hz k hk).2.1 hm)⟩
  · rcases h3 k hk with h4 | h4
    · exact hM k h4
    · omega
  · obtain ⟨g1, g2, g3⟩ := hz k hk
    refine ⟨fun hf => ?_, fun hm => ?_, Nat.lt_of_lt_of_le g3 h2.size⟩
    · rcases hf with hf | ⟨h4, _⟩
      · exact g1 hf
      · omega
    · rcases h3 k hm with h4 | h4
      · exact g2 h4
      · omega
end
/-- What a map of texts holds. -/
structure HavOK (H : List UInt8 → Option (List UInt8)) (D : DataW Value) : Prop where
  has_ : ∀ p, Maps.has D (.string p) = (H p).isSome
  at_ : ∀ p id, H p = some id → ∀ z, D.atKey (.string p) z = .held (.string (str id))
theorem HavOK.look {H : List UInt8 → Option (List UInt8)} {D : DataW Value} (h : HavOK H D) (p : List UInt8) : ∀ v ps, hv v = some (D.atKey (.string p) (.held (.string ⟨#[]⟩)), ps) → v = .string (str ((H p).getD [])) := by
  intro v ps hv'
  cases hp : H p with
  | none =>
    rw [Maps.atKey_of_not_has (by rw [h.has_, hp]; rfl)] at hv'
    unfold hv at hv'
    injection hv' with hv'
    injection hv' with h3 _
    injection h3
  | some id =>
    rw [h.at_ p id hp] at hv'
    unfold hv at hv'
    injection hv' with hv'
    injection hv' with h3 _
    injection h3
theorem HavOK.empty : HavOK (fun _ => none) (.map []) := ⟨fun p => rfl, fun p id h => by cases h⟩
theorem HavOK.put {H : List UInt8 → Option (List UInt8)} {D : DataW Value} (h : HavOK H D) (hm : Maps.IsMap D) (n id : List UInt8) : HavOK (fun m => if m = n then some id else H m) (D.put (.string n) (.held (.string (str id)))) := by
  refine ⟨fun p => ?_, fun p x hx z => ?_⟩
  · by_cases e : p = n
    · subst e
      rw [Maps.has_put_same hm (isK _), if_pos rfl]
      rfl
    · rw [Maps.has_put_other (fun x => e (by injection x)), if_neg e, h.has_]
  · by_cases e : p = n
    · subst e
      rw [if_pos rfl] at hx
      injection hx with hx
      subst hx
      exact Maps.atKey_put_same hm (isK _) _ _
    · rw [if_neg e] at hx
      rw [Maps.atKey_put_other (fun x => e (by injection x))]
      exact h.at_ p x hx z
/-- A file system, a map of texts, and (where there is one) a local struct, each apart. -/
structure ApW (w wx : World) (b : Nat) (cs : CSt) (mb : Nat) (Z : Nat → Prop) (H : List UInt8 → Option (List UInt8)) (N : Nat) : Prop where
  mine : MineP w wx b cs Z
  z : Z mb
  own : ∃ D n, wx.ownsMap Tryz.prog 9 hv mb n D ∧ HavOK H D ∧ n ≤ N
  mbw : w.heap.size ≤ mb
section
variable {w wx wy : World} {b mb : Nat} {cs c' : CSt} {Z : Nat → Prop} {H : List UInt8 → Option (List UInt8)} {N : Nat}
theorem ApW.step (h : ApW w wx b cs mb Z H N) (hm : MineP w wy b c' Z ∧ Only (fun k => ¬ Z k) wx wy) : ApW w wy b c' mb Z H N := by
  obtain ⟨D, n, h1, h2, h3⟩ := h.own
  exact ⟨hm.1, h.z, ⟨D, n, own_only h1 hm.2 (fun x => x h.z), h2, h3⟩, h.mbw⟩
theorem ApW.below (h : ApW w wx b cs mb Z H N) (hb : Below wx.heap.size wx wy) : ApW w wy b cs mb Z H N := by
  obtain ⟨D, n, h1, h2, h3⟩ := h.own
  exact ⟨h.mine.below hb, h.z, ⟨D, n, own_only h1 (Only.of_below (M := fun _ => False) hb) id, h2, h3⟩, h.mbw⟩
theorem ApW.fewer {Z' : Nat → Prop} (h : ApW w wx b cs mb Z H N) (hz : ∀ k, Z' k → Z k) (hm : Z' mb) : ApW w wx b cs mb Z' H N := ⟨h.mine.fewer hz, hm, h.own, h.mbw⟩
theorem ApW.more {N' : Nat} (h : ApW w wx b cs mb Z H N) (hn : N ≤ N') : ApW w wx b cs mb Z H N' := by
  obtain ⟨D, n, h1, h2, h3⟩ := h.own
  exact ⟨h.mine, h.z, ⟨D, n, h1, h2, Nat.le_trans h3 hn⟩, h.mbw⟩
/-- The map has one more. -/
theorem ApW.put (h : ApW w wx b cs mb Z H N) {D : DataW Value} {n : Nat} (hD : HavOK H D) (hm : Maps.IsMap D) (hn : n ≤ N) (nm id : List UInt8) (ho : wy.ownsMap Tryz.prog 9 hv mb (n + 1) (D.put (.string nm) (.held (.string (str id))))) (hg : wx.grownBy wy (some mb)) :
    ApW w wy b cs mb Z (fun m => if m = nm then some id else H m) (N + 1) := by
  refine ⟨h.mine.upd (g := mb) ?_ h.z h.mbw, h.z, ⟨_, _, ho, hD.put hm nm id, by omega⟩, h.mbw⟩
  exact (Only.refl _ _).grown hg (fun g hg => by injection hg with hg; exact .inl hg.symm)
end
end Go.Proofs.YtlgmbljfjfcpoaaGreat.Tx
/- Package store: Open, place, read, put, Put, on a file system of one's own. -/
set_option linter.unusedVariables false
set_option linter.unusedSimpArgs false
namespace Go.Proofs.YtlgmbljfjfcpoaaGreat.Tx
open Go.RowKit Go.Maps Go.Proofs.YtlgmbljfjfcpoaaGreat.Sh

/-- What a call of a file system of one's own may change. -/
def Keeps (w : World) (Z : Nat → Prop) (w1 w2 : World) : Prop := Only (fun k => ¬ Z k ∧ w.heap.size ≤ k) w1 w2
section
variable {w w1 w2 : World} {b g i : Nat} {c c' : CSt} {Z Z' : Nat → Prop}
theorem MineP.of' {F M : Nat → Prop} (hM : ∀ k, M k → w.heap.size ≤ k) (hb : Below w.heap.size w w1) (hz : ∀ k, Z k → ¬ F k ∧ ¬ M k ∧ k < w1.heap.size) (h : FcPost F M w1 b c' w2) : MineP w w2 b c' Z ∧ Keeps w Z w1 w2 := by
  refine ⟨(MineP.of hM hb hz h).1, ?_⟩
  obtain ⟨M', h1, h2, h3⟩ := h
  exact h2.more (fun k _ hm => ⟨fun hk => (hz k hk).2.1 hm, hM k hm⟩)
theorem Keeps.refl (w : World) (Z : Nat → Prop) (w1 : World) : Keeps w Z w1 w1 := Only.refl _ _
theorem Keeps.trans (h : Keeps w Z w1 w2) {w3 : World} (h2 : Keeps w Z w2 w3) : Keeps w Z w1 w3 := Only.trans h h2 (fun k hk => .inl hk)
theorem Keeps.below (h : Keeps w Z w1 w2) {w3 : World} (h2 : Below w2.heap.size w2 w3) : Keeps w Z w1 w3 := Only.then_below h h2
theorem Keeps.of_below (h : Below w1.heap.size w1 w2) : Keeps w Z w1 w2 := Only.of_below h
theorem Keeps.fewer (h : Keeps w Z w1 w2) (hz : ∀ k, Z' k → Z k) : Keeps w Z' w1 w2 := Only.more h (fun k _ hm => ⟨fun hk => hm.1 (hz k hk), hm.2⟩)
theorem Keeps.by_ {G : Nat → Prop} {v : Value} {d : List UInt8} (h : Keeps w Z w1 w2) (hd : By G w1 v d) (hG : ∀ k, G k → k < w.heap.size ∨ Z k) : By G w2 v d :=
  hd.only h (fun k hk hn => by
    rcases hG k hk with h1 | h1
    · omega
    · exact hn.1 h1)
theorem MineP.b_lt (h : MineP w w1 b c Z) : w.heap.size ≤ w1.heap.size := h.bel.size

theorem rdp_any (p : List UInt8) (h : MineP w w1 b c Z) (hg : GoC c i) (hi : i ≤ 3800) (hp : p.length ≤ 900000) :
    Calls Tryz.prog 86 #[.pointer (some ⟨b, 0, none⟩), .string (Tx.str p)] w1 fun e w' => ∃ A dc mo ti, e = .returned (.tuple #[.agg #[.int .i64 mo, .slice A (redF c p).data.length dc, .int .i64 ti], .int .i64 (redE c p)]) ∧ By (fun k => ¬ Z k) w' (.slice A (redF c p).data.length dc) (redF c p).data ∧ MineP w w' b (bgC c).c Z ∧ Keeps w Z w1 w' := by
  obtain ⟨F, M, h1, h2, h3, h4⟩ := h
  refine (read_any F M b c _ p w1 h1 (hg.ready (by omega)) (by omega)).mono ?_
  rintro e w' ⟨u, v, M', rfl, rfl, hat, hon, hsub, hby⟩
  obtain ⟨A, dc, rfl, _, _⟩ := hby.slice
  have hP : FcPost F M w1 b (bgC c).c w' := ⟨M', hat, hon, hsub⟩
  have hm := MineP.of' h2 h3 h4 hP
  exact ⟨A, dc, _, _, rfl, hby.mono (fun k _ hk hz => (by
    obtain ⟨z1, z2, z3⟩ := h4 k hz
    rcases hk with hk | hk
    · exact z1 hk
    · have := hk.1; omega)), hm.1, hm.2⟩
theorem wrp_any (p : List UInt8) (mode : Int) (dv : Value) (d : List UInt8) (G : Nat → Prop) (h : MineP w w1 b c Z) (hg : GoC c i) (hi : i ≤ 3800) (hp : p.length ≤ 900000) (hd : By G w1 dv d) (hG : ∀ k, G k → k < w.heap.size ∨ Z k) :
    Calls Tryz.prog 60 #[.pointer (some ⟨b, 0, none⟩), .string (Tx.str p), .int .i64 mode, dv] w1 fun e w' => e = .returned (.int .i64 (crtE c p mode d false)) ∧ MineP w w' b (crtC c p mode d false) Z ∧ Keeps w Z w1 w' := by
  obtain ⟨F, M, h1, h2, h3, h4⟩ := h
  refine (writef_any F M b c _ p mode dv d G w1 h1 (hg.ready (by omega)) hd (fun k hk hm => ?_) (by omega)).mono fun e w' h => ⟨h.1, MineP.of' h2 h3 h4 h.2⟩
  rcases hG k hk with h5 | h5
  · have := h2 k hm; omega
  · exact (h4 k h5).2.1 hm
theorem mvp_any (p q : List UInt8) (h : MineP w w1 b c Z) (hg : GoC c i) (hi : i ≤ 3800) (hp : p.length ≤ 900000) (hq : q.length ≤ 900000) :
    Calls Tryz.prog 61 #[.pointer (some ⟨b, 0, none⟩), .string (Tx.str p), .string (Tx.str q)] w1 fun e w' => e = .returned (.int .i64 (movE c p q false)) ∧ MineP w w' b (movC c p q false) Z ∧ Keeps w Z w1 w' := by
  obtain ⟨F, M, h1, h2, h3, h4⟩ := h
  exact (movef_any F M b c _ p q w1 h1 (hg.ready (by omega)) (by omega) (by omega)).mono fun e w' h => ⟨h.1, MineP.of' h2 h3 h4 h.2⟩
end

/-- A store: a block s of its own beside its file system. -/
def StAt (w w1 : World) (b : Nat) (c : CSt) (s : Nat) (Z : Nat → Prop) : Prop :=
  MineP w w1 b c (fun k => Z k ∨ k = s) ∧ (w.heap.size ≤ s ∧ ¬ Z s) ∧ ∃ r, Blk w1 s 75 #[.pointer (some ⟨b, 0, none⟩), .int .i64 r]
section
variable {w w1 w2 : World} {b g i s : Nat} {c c' : CSt} {Z Z' : Nat → Prop}
theorem StAt.below (h : StAt w w1 b c s Z) (hb : Below w1.heap.size w1 w2) : StAt w w2 b c s Z := by
  obtain ⟨h1, h2, r, h3⟩ := h
  exact ⟨h1.below hb, h2, r, h3.below hb h3.lt⟩
theorem StAt.step (h : StAt w w1 b c s Z) (hm : MineP w w2 b c' (fun k => Z k ∨ k = s)) (hk : Keeps w (fun k => Z k ∨ k = s) w1 w2) : StAt w w2 b c' s Z := by
  obtain ⟨h1, h2, r, h3⟩ := h
  exact ⟨hm, h2, r, Only.blk hk h3 (fun hn => hn.1 (.inr rfl))⟩
theorem StAt.bel (h : StAt w w1 b c s Z) : Below w.heap.size w w1 := h.1.bel
theorem StAt.fewer (h : StAt w w1 b c s Z) (hz : ∀ k, Z' k → Z k) : StAt w w1 b c s Z' := ⟨h.1.fewer (fun k hk => hk.imp (hz k) id), ⟨h.2.1.1, fun hk => h.2.1.2 (hz _ hk)⟩, h.2.2⟩
/-- A block laid beside it. -/
theorem StAt.add (h : StAt w w1 b c s Z) (o : Obj) : StAt w (w1.alloc o) b c s (fun k => Z k ∨ k = w1.heap.size) := by
  obtain ⟨h1, h2, r, h3⟩ := h
  refine ⟨(h1.add o).fewer (fun k hk => ?_), ⟨h2.1, fun hk => ?_⟩, r, h3.alloc o⟩
  · rcases hk with (hk | hk) | hk
    · exact .inl (.inl hk)
    · exact .inr hk
    · exact .inl (.inr hk)
  · rcases hk with hk | hk
    · exact h2.2 hk
    · have := h3.lt; omega
/-- It reads once more. -/
theorem StAt.tick (h : StAt w w1 b c s Z) (r : Int) : StAt w (w1.setCell ⟨s, 1, none⟩ (.int .i64 r)) b c s Z ∧ Keeps w Z w1 (w1.setCell ⟨s, 1, none⟩ (.int .i64 r)) := by
  obtain ⟨h1, h2, r', h3⟩ := h
  have ho : Only (fun k => k = s) w1 (w1.setCell ⟨s, 1, none⟩ (.int .i64 r)) := (Only.refl (fun k => k = s) w1).set_ (.inl rfl) _
  refine ⟨⟨h1.upd ho (.inr rfl) h2.1, h2, r, ?_⟩, ho.more (fun k _ hk => by subst hk; exact ⟨h2.2, h2.1⟩)⟩
  have := h3.set_ 1 (.int .i64 r)
  simpa using this
end
theorem splace_cat (n : List UInt8) : (⟨#[115, 47, 111, 47]⟩ : ByteArray) ++ str n = str (objP n) := str_append [115, 47, 111, 47] n
theorem splace_any (n : List UInt8) (w : World) (hn : n.length ≤ 900000) : Calls Tryz.prog 53 #[.string (Tx.str n)] w fun e w' => e = .returned (.string (Tx.str (objP n))) ∧ w = w' := by
  have hb : ¬ 9223372036854775807 < 4 + (str n).size := by rw [str_size]; omega
  go_enter Tryz.func53, Tryz.ntmps53
  go_wp2
  go_ret
  exact ⟨by rw [splace_cat]; rfl, rfl⟩
theorem equal_any (v1 v2 : Value) (d1 d2 : List UInt8) (w : World) (h1 : SlV w v1 (d1.map bv)) (h2 : SlV w v2 (d2.map bv)) (t : Bool) (ht : (d1 == d2) = t) :
    Calls Tryz.prog 59 #[v1, v2] w fun e w' => e = .returned (.bool t) ∧ w = w' := by
  obtain ⟨A1, c1, rfl, _, _, _⟩ := h1.len
  obtain ⟨A2, c2, rfl, _, _, _⟩ := h2.len
  rw [List.length_map] at h1 h2 ⊢
  rw [List.length_map]
  have k1 := conv_str w A1 d1 _ c1 rfl h1
  have k2 := conv_str w A2 d2 _ c2 rfl h2
  have HT := Lib.hid ht
  clear h1 h2 ht
  obtain ⟨l1, e1⟩ : ∃ l, d1.length = l := ⟨_, rfl⟩
  obtain ⟨l2, e2⟩ : ∃ l, d2.length = l := ⟨_, rfl⟩
  rw [e1] at k1 ⊢
  rw [e2] at k2 ⊢
  clear e1 e2
  go_enter Tryz.func59, Tryz.ntmps59
  go_wp2_with fail
  go_ret
  refine ⟨?_, rfl⟩
  show Ending.returned (.bool ((str d1).toList == (str d2).toList)) = _
  rw [str_toList, str_toList, HT.out]
theorem open_any {w w1 : World} {b : Nat} {c : CSt} {Z : Nat → Prop} (h : MineP w w1 b c Z) :
    Calls Tryz.prog 9 #[.pointer (some ⟨b, 0, none⟩)] w1 fun e w' => ∃ s, e = .returned (.pointer (some ⟨s, 0, none⟩)) ∧ StAt w w' b c s Z ∧ Below w1.heap.size w1 w' := by
  have H := Lib.hid h
  clear h
  go_enter Tryz.func9, Tryz.ntmps9
  go_wp2_with fail
  go_ret
  refine ⟨w1.heap.size, rfl, ⟨?_, ⟨H.out.b_lt, fun hk => ?_⟩, 0, Blk.new _ _ _⟩, (Below.refl _ _).alloc (Nat.le_refl _) _⟩
  · exact H.out.add _
  · obtain ⟨F, M, _, _, _, h4⟩ := H.out
    have := (h4 _ hk).2.2
    omega
end Go.Proofs.YtlgmbljfjfcpoaaGreat.Tx
/- Package store: read. -/
set_option linter.unusedVariables false
set_option linter.unusedSimpArgs false
namespace Go.Proofs.YtlgmbljfjfcpoaaGreat.Tx
open Go.RowKit Go.Maps Go.Proofs.YtlgmbljfjfcpoaaGreat.Sh

/-- What the Read within read leaves. -/
def RdIn (w w1 : World) (b : Nat) (c : CSt) (s : Nat) (Z : Nat → Prop) (p : List UInt8) (pv er : Value) (wx : World) : Prop :=
  ∃ g A dc mo ti, pv = .pointer (some ⟨g, 0, none⟩) ∧ er = .int .i64 (redE c p) ∧ Blk wx g 40 #[.int .i64 mo, .slice A (redF c p).data.length dc, .int .i64 ti] ∧ SlV wx (.slice A (redF c p).data.length dc) ((redF c p).data.map bv) ∧ StAt w wx b (bgC c).c s Z ∧ Keeps w Z w1 wx
set_option maxRecDepth 100000 in
set_option maxHeartbeats 3200000 in
theorem sread_any {w w1 : World} {b i s : Nat} {c : CSt} {Z : Nat → Prop} (n : List UInt8) (h : StAt w w1 b c s Z) (hg : GoC c i) (hi : i ≤ 3800) (hn : n.length ≤ 800000) :
    Calls Tryz.prog 58 #[.pointer (some ⟨s, 0, none⟩), .string (Tx.str n)] w1 fun e w' => ∃ v, e = .returned (.tuple #[v, .int .i64 (redE c (objP n))]) ∧ SlV w' v ((redF c (objP n)).data.map bv) ∧ StAt w w' b (bgC c).c s Z ∧ Keeps w Z w1 w' := by
  have HG := Lib.hid hg
  have hpl : (objP n).length ≤ 900000 := by rw [objP_len]; omega
  obtain ⟨h1, h2, r, h3⟩ := h
  have c1 : w1.cell? ⟨s, 1, none⟩ = some (.int .i64 r) := h3.cell 1
  have f1 : w1.frozen? ⟨s, 1, none⟩ = false := h3.frozen 1
  have H1 : Hid (StAt w w1 b c s Z) := ⟨h1, h2, r, h3⟩
  have hsl := h3.lt
  clear h1 h2 h3 hg
  go_enter Tryz.func58, Tryz.ntmps58
  go_wp2_with fail
  refine (add64 ⟨s, 1, none⟩ r 1 w1 c1 f1).mono ?_
  rintro e w' ⟨rfl, rfl⟩
  obtain ⟨H2a, hk2⟩ := H1.out.tick (IntKind.i64.wrap (r + 1))
  have H2 := Lib.hid H2a
  have HK2 := Lib.hid hk2
  clear c1 f1 H2a hk2
  generalize w1.setCell ⟨s, 1, none⟩ (.int .i64 (IntKind.i64.wrap (r + 1))) = w2 at *
  obtain ⟨g1, g2, r2, g3⟩ := H2.out
  have c0 : w2.cell? ⟨s, 0, none⟩ = some (.pointer (some ⟨b, 0, none⟩)) := g3.cell 0
  clear g1 g2 g3
  have c0d : w2.drew.cell? ⟨s, 0, none⟩ = some (.pointer (some ⟨b, 0, none⟩)) := c0
  have c0n := World.new_ne w2 _ c0
  have HSd := Lib.hid (H2.out.below ((Below.refl w2.heap.size w2).drew))
  have HKd := Lib.hid (HK2.out.below ((Below.refl w2.heap.size w2).drew))
  have hba : Below w2.heap.size w2 (w2.alloc (.cells #[.int .i64 0, .slice none 0 0, .int .i64 0] 40)).drew := ((Below.refl w2.heap.size w2).alloc (Nat.le_refl _) _).drew
  have HSa := Lib.hid ((H2.out.add (.cells #[.int .i64 0, .slice none 0 0, .int .i64 0] 40)).below ((Below.refl _ _).drew))
  have HKa := Lib.hid (HK2.out.below hba)
  have HBa : Hid (Blk (w2.alloc (.cells #[.int .i64 0, .slice none 0 0, .int .i64 0] 40)).drew w2.heap.size 40 #[.int .i64 0, .slice none 0 0, .int .i64 0]) := (Blk.new w2 _ _).drew
  clear hba
  obtain ⟨dl, hdl⟩ : ∃ x, (redF c (objP n)).data.length = x := ⟨_, rfl⟩
  have HDL := Lib.hid hdl
  have HR := Lib.hid (rdp_any (objP n) HSd.out.1 HG.out (by omega) hpl)
  have HRa := Lib.hid (rdp_any (objP n) HSa.out.1 HG.out (by omega) hpl)
  rw [hdl] at HR HRa
  clear hdl
  have HH : Hid (w.heap.size ≤ w2.heap.size ∧ s ≠ w2.heap.size ∧ ¬ Z w2.heap.size ∧ w.heap.size ≤ w2.heap.size) := ⟨H2.out.1.b_lt, fun e => c0n e.symm, fun hz => (by
    obtain ⟨F, M, _, _, _, h4⟩ := H2.out.1
    have := (h4 _ (.inl hz)).2.2
    omega), H2.out.1.b_lt⟩
  go_upto_region 2 with (fail)
  go_cut [6, 7] (fun pv er wx => RdIn w w1 b c s Z (objP n) pv er wx)
  case first =>
    go_region_held3 (fun W : World => W.cell? ⟨s, 0, none⟩ = some (.pointer (some ⟨b, 0, none⟩)))
      (first | exact q3 | exact c0d | exact c0 | go_keep)
      (first
        | (go_at_call 53; refine (splace_any n _ (by omega)).mono ?_; rintro e w4 ⟨rfl, rfl⟩)
        | (go_at_call 86; refine HR.out.mono ?_; rintro e w3 ⟨A, dc, mo, ti, rfl, sv, hm3, hk3⟩; have HS3 := Lib.hid (HSd.out.step hm3 hk3); have HK3 := Lib.hid (HKd.out.trans (hk3.fewer (fun k hk => .inl hk))); have q3 : w3.cell? ⟨s, 0, none⟩ = some (.pointer (some ⟨b, 0, none⟩)) := (by obtain ⟨_, _, _, gx⟩ := HS3.out; exact gx.cell 0); have q3n := World.new_ne w3 _ q3; have HSV := Lib.hid sv; clear hm3 hk3 sv)
        | (go_at_call 86; refine HRa.out.mono ?_; rintro e w3 ⟨A, dc, mo, ti, rfl, sv, hm3, hk3⟩; have HS3 := Lib.hid (HSa.out.step hm3 hk3); have HK3 := Lib.hid (HKa.out.trans (hk3.fewer (fun k hk => .inl (.inl hk)))); have q3 : w3.cell? ⟨s, 0, none⟩ = some (.pointer (some ⟨b, 0, none⟩)) := (by obtain ⟨_, _, _, gx⟩ := HS3.out; exact gx.cell 0); have q3n := World.new_ne w3 _ q3; have hbx := Only.blk hk3 HBa.out (fun hn => hn.1 (.inl (.inr rfl))); have k0 : w3.cell? ⟨w2.heap.size, 0, none⟩ = some (.int .i64 0) := hbx.cell 0; have k1 : w3.cell? ⟨w2.heap.size, 1, none⟩ = some (.slice none 0 0) := hbx.cell 1; have k2 : w3.cell? ⟨w2.heap.size, 2, none⟩ = some (.int .i64 0) := hbx.cell 2; have y0 : w3.frozen? ⟨w2.heap.size, 0, none⟩ = false := hbx.frozen 0; have y1 : w3.frozen? ⟨w2.heap.size, 1, none⟩ = false := hbx.frozen 1; have y2 : w3.frozen? ⟨w2.heap.size, 2, none⟩ = false := hbx.frozen 2; have HBx := Lib.hid hbx; have HSV := Lib.hid sv; clear hm3 hk3 sv hbx))
    all_goals go_wp2_with fail
    all_goals go_meet
    all_goals first
      | (refine ⟨_, A, dc, mo, ti, rfl, rfl, ?_, ?_, HS3.out.below ((Below.refl w3.heap.size w3).alloc (Nat.le_refl _) _), HK3.out.below ((Below.refl w3.heap.size w3).alloc (Nat.le_refl _) _)⟩
         · rw [HDL.out]; exact Blk.new w3 _ _
         · rw [HDL.out]; exact HSV.out.slv.below ((Below.refl w3.heap.size w3).alloc (Nat.le_refl _) _))
      | (have ho : Only (fun k => k = w2.heap.size) w3 (((w3.setCell ⟨w2.heap.size, 0, none⟩ (.int .i64 mo)).setCell ⟨w2.heap.size, 1, none⟩ (.slice A dl dc)).setCell ⟨w2.heap.size, 2, none⟩ (.int .i64 ti)) := (((Only.refl (fun k => k = w2.heap.size) w3).set_ (.inl rfl) _).set_ (.inl rfl) _).set_ (.inl rfl) _
         have hb3 := ((HBx.out.set_ 0 (.int .i64 mo)).set_ 1 (.slice A dl dc)).set_ 2 (.int .i64 ti)
         obtain ⟨z1, z2, z3, z4⟩ := HS3.out
         refine ⟨w2.heap.size, A, dc, mo, ti, rfl, rfl, ?_, ?_, StAt.fewer ⟨z1.upd ho (.inl (.inr rfl)) HH.out.1, z2, z3, Only.blk ho z4 HH.out.2.1⟩ (fun k hk => .inl hk), HK3.out.trans (ho.more (fun k _ hk => ?_))⟩
         · rw [HDL.out]; simpa using hb3
         · rw [HDL.out]; exact (HSV.out.only ho (fun k hk h => hk (.inl (.inr h)))).slv
         · subst hk; exact HH.out.2.2)
      | (trace_state; fail)
  case rest =>
    obtain ⟨g, A, dc, mo, ti, rfl, rfl, hb, hv, hs, hk⟩ := hcut
    have k1 : wc.cell? ⟨g, 1, none⟩ = some (.slice A (redF c (objP n)).data.length dc) := hb.cell 1
    have HV := Lib.hid hv
    have HS := Lib.hid hs
    have HK := Lib.hid hk
    rw [HDL.out] at k1
    clear hb hv hs hk
    go_wp2_with fail
    go_ret2
    refine ⟨_, rfl, ?_, HS.out, HK.out⟩
    rw [← HDL.out]
    exact HV.out
end Go.Proofs.YtlgmbljfjfcpoaaGreat.Tx
