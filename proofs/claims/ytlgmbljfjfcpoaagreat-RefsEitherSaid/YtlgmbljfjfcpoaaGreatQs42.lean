/- Texts put together: ZRf7, ZRz1, ZGw0, ZGw1, ZGw2. -/
import Derived.Test.YtlgmbljfjfcpoaaGreatQs40
import Derived.Test.YtlgmbljfjfcpoaaGreatQs41
import Derived.Test.YtlgmbljfjfcpoaaGreatProg
import Derived.WalkKit
import Derived.Shelf.SlSortCmp.KitK
/- A file system of one's own, and blocks beside it that its calls leave alone; a map of texts. -/
set_option linter.unusedVariables false
set_option linter.unusedSimpArgs false
namespace Go.Proofs.YtlgmbljfjfcpoaaGreat.Tx
open Go.RowKit Go.Maps Go.Proofs.YtlgmbljfjfcpoaaGreat.Sh

def MineP (w w1 : World) (b : Nat) (c : CSt) (Z : Nat → Prop) : Prop := ∃ F M, FcAt F w1 b c M ∧ (∀ k, M k → w.heap.size ≤ k) ∧ Below w.heap.size w w1 ∧ ∀ k, Z k → ¬ F k ∧ ¬ M k ∧ k < w1.heap.size
section
variable {w w1 w2 : World} {b g i : Nat} {c c' : CSt} {Z Z' : Nat → Prop}
theorem MineP.mine (h : MineP w w1 b c Z) : Mine w w1 b c := by
  obtain ⟨F, M, h1, h2, h3, _⟩ := h
  exact ⟨F, M, h1, h2, h3⟩
theorem MineP.bel (h : MineP w w1 b c Z) : Below w.heap.size w w1 := by
  obtain ⟨F, M, _, _, h3, _⟩ := h
  exact h3
theorem MineP.start (h : Mine w w1 b c) : MineP w w1 b c (fun _ => False) := by
  obtain ⟨F, M, h1, h2, h3⟩ := h
  exact ⟨F, M, h1, h2, h3, fun k hk => hk.elim⟩
theorem MineP.below (h : MineP w w1 b c Z) (hb : Below w1.heap.size w1 w2) : MineP w w2 b c Z := by
  obtain ⟨F, M, h1, h2, h3, h4⟩ := h
  exact ⟨F, M, h1.below hb, h2, h3.trans (hb.mono h3.size), fun k hk => ⟨(h4 k hk).1, (h4 k hk).2.1, Nat.lt_of_lt_of_le (h4 k hk).2.2 hb.size⟩⟩
theorem MineP.add (h : MineP w w1 b c Z) (o : Obj) : MineP w (w1.alloc o) b c (fun k => Z k ∨ k = w1.heap.size) := by
  have hb : Below w1.heap.size w1 (w1.alloc o) := (Below.refl _ _).alloc (Nat.le_refl _) _
  obtain ⟨F, M, h1, h2, h3, h4⟩ := h
  refine ⟨F, M, h1.below hb, h2, h3.trans (hb.mono h3.size), fun k hk => ?_⟩
  rcases hk with hk | rfl
  · exact ⟨(h4 k hk).1, (h4 k hk).2.1, Nat.lt_of_lt_of_le (h4 k hk).2.2 hb.size⟩
  · refine ⟨fun hf => ?_, fun hm => ?_, by simp⟩
    · have := h1.low _ hf; omega
    · have := h1.lt _ hm; omega
/-- One of the blocks is written. -/
theorem MineP.upd (h : MineP w w1 b c Z) (ho : Only (fun k => k = g) w1 w2) (hg : Z g) (hgw : w.heap.size ≤ g) : MineP w w2 b c Z := by
  obtain ⟨F, M, h1, h2, h3, h4⟩ := h
  obtain ⟨g1, g2, g3⟩ := h4 g hg
  refine ⟨F, M, h1.only ho (fun k hk e => g1 (e ▸ hk)) (fun k hk e => g2 (e ▸ hk)), h2, ((Only.of_below (M := fun _ => False) h3).trans ho (fun k hk => .inr (by rw [hk]; exact hgw))).below, fun k hk => ⟨(h4 k hk).1, (h4 k hk).2.1, Nat.lt_of_lt_of_le (h4 k hk).2.2 ho.size⟩⟩
theorem MineP.of {F M : Nat → Prop} (hM : ∀ k, M k → w.heap.size ≤ k) (hb : Below w.heap.size w w1) (hz : ∀ k, Z k → ¬ F k ∧ ¬ M k ∧ k < w1.heap.size) (h : FcPost F M w1 b c' w2) : MineP w w2 b c' Z ∧ Only (fun k => ¬ Z k) w1 w2 := by
  obtain ⟨M', h1, h2, h3⟩ := h
  have hzz := hb.size
  refine ⟨⟨_, M', h1, fun k hk => ?_, ((Only.of_below (M := fun _ => False) hb).trans h2 (fun k hk => .inr (hM k hk))).below, fun k hk => ?_⟩, h2.more (fun k _ hm hk => (hz k hk).2.1 hm)⟩
  · rcases h3 k hk with h4 | h4
    · exact hM k h4
    · omega
  · obtain ⟨g1, g2, g3⟩ := hz k hk
    refine ⟨fun hf => ?_, fun hm => ?_, Nat.lt_of_lt_of_le g3 h2.size⟩
    · rcases hf with hf | ⟨h4, _⟩
      · exact g1 hf
      · omega
    · rcases h3 k hm with h4 | h4
      · exact g2 h4
      · omega
end
/-- What a map of texts holds. -/
structure HavOK (H : List UInt8 → Option (List UInt8)) (D : DataW Value) : Prop where
  has_ : ∀ p, Maps.has D (.string p) = (H p).isSome
  at_ : ∀ p id, H p = some id → ∀ z, D.atKey (.string p) z = .held (.string (str id))
theorem HavOK.look {H : List UInt8 → Option (List UInt8)} {D : DataW Value} (h : HavOK H D) (p : List UInt8) : ∀ v ps, hv v = some (D.atKey (.string p) (.held (.string ⟨#[]⟩)), ps) → v = .string (str ((H p).getD [])) := by
  intro v ps hv'
  cases hp : H p with
  | none =>
    rw [Maps.atKey_of_not_has (by rw [h.has_, hp]; rfl)] at hv'
    unfold hv at hv'
    injection hv' with hv'
    injection hv' with h3 _
    injection h3
  | some id =>
    rw [h.at_ p id hp] at hv'
    unfold hv at hv'
    injection hv' with hv'
    injection hv' with h3 _
    injection h3
theorem HavOK.empty : HavOK (fun _ => none) (.map []) := ⟨fun p => rfl, fun p id h => by cases h⟩
theorem HavOK.put {H : List UInt8 → Option (List UInt8)} {D : DataW Value} (h : HavOK H D) (hm : Maps.IsMap D) (n id : List UInt8) : HavOK (fun m => if m = n then some id else H m) (D.put (.string n) (.held (.string (str id)))) := by
  refine ⟨fun p => ?_, fun p x hx z => ?_⟩
  · by_cases e : p = n
    · subst e
      rw [Maps.has_put_same hm (isK _), if_pos rfl]
      rfl
    · rw [Maps.has_put_other (fun x => e (by injection x)), if_neg e, h.has_]
  · by_cases e : p = n
    · subst e
      rw [if_pos rfl] at hx
      injection hx with hx
      subst hx
      exact Maps.atKey_put_same hm (isK _) _ _
    · rw [if_neg e] at hx
      rw [Maps.atKey_put_other (fun x => e (by injection x))]
      exact h.at_ p x hx z
/-- A file system, a map of texts, and (where there is one) a local struct, each apart. -/
structure ApW (w wx : World) (b : Nat) (cs : CSt) (mb : Nat) (Z : Nat → Prop) (H : List UInt8 → Option (List UInt8)) (N : Nat) : Prop where
  mine : MineP w wx b cs Z
  z : Z mb
  own : ∃ D n, wx.ownsMap Tryz.prog 9 hv mb n D ∧ HavOK H D ∧ n ≤ N
  mbw : w.heap.size ≤ mb
section
variable {w wx wy : World} {b mb : Nat} {cs c' : CSt} {Z : Nat → Prop} {H : List UInt8 → Option (List UInt8)} {N : Nat}
theorem ApW.step (h : ApW w wx b cs mb Z H N) (hm : MineP w wy b c' Z ∧ Only (fun k => ¬ Z k) wx wy) : ApW w wy b c' mb Z H N := by
  obtain ⟨D, n, h1, h2, h3⟩ := h.own
  exact ⟨hm.1, h.z, ⟨D, n, own_only h1 hm.2 (fun x => x h.z), h2, h3⟩, h.mbw⟩
theorem ApW.below (h : ApW w wx b cs mb Z H N) (hb : Below wx.heap.size wx wy) : ApW w wy b cs mb Z H N := by
  obtain ⟨D, n, h1, h2, h3⟩ := h.own
  exact ⟨h.mine.below hb, h.z, ⟨D, n, own_only h1 (Only.of_below (M := fun _ => False) hb) id, h2, h3⟩, h.mbw⟩
theorem ApW.more {N' : Nat} (h : ApW w wx b cs mb Z H N) (hn : N ≤ N') : ApW w wx b cs mb Z H N' := by
  obtain ⟨D, n, h1, h2, h3⟩ := h.own
  exact ⟨h.mine, h.z, ⟨D, n, h1, h2, Nat.le_trans h3 hn⟩, h.mbw⟩
/-- The map has one more. -/
theorem ApW.put (h : ApW w wx b cs mb Z H N) {D : DataW Value} {n : Nat} (hD : HavOK H D) (hm : Maps.IsMap D) (hn : n ≤ N) (nm id : List UInt8) (ho : wy.ownsMap Tryz.prog 9 hv mb (n + 1) (D.put (.string nm) (.held (.string (str id))))) (hg : wx.grownBy wy (some mb)) :
    ApW w wy b cs mb Z (fun m => if m = nm then some id else H m) (N + 1) := by
  refine ⟨h.mine.upd (g := mb) ?_ h.z h.mbw, h.z, ⟨_, _, ho, hD.put hm nm id, by omega⟩, h.mbw⟩
  exact (Only.refl _ _).grown hg (fun g hg => by injection hg with hg; exact .inl hg.symm)
end
end Go.Proofs.YtlgmbljfjfcpoaaGreat.Tx
/- marlaw8.is. -/
set_option linter.unusedVariables false
set_option linter.unusedSimpArgs false
namespace Go.Proofs.YtlgmbljfjfcpoaaGreat.Tx
open Go.RowKit Go.Maps Go.Proofs.YtlgmbljfjfcpoaaGreat.Sh

set_option maxRecDepth 100000 in
set_option maxHeartbeats 3200000 in
theorem is_any (F M : Nat → Prop) (b : Nat) (c : CSt) (n id : List UInt8) (w : World) (h : FcAt F w b c M) (hs : CSmall c) (hn : n.length ≤ 900000) (hid : id.length ≤ 900000) :
    Calls Tryz.prog 21 #[.pointer (some ⟨b, 0, none⟩), .string (Tx.str n), .string (Tx.str id)] w (BoolPost w (isB c.here n id)) := by
  have H := Lib.hid h
  have HS := Lib.hid hs
  have hb1 : ¬ 9223372036854775807 < 4 + (str n).size := by rw [str_size]; omega
  have hb2 : ¬ 9223372036854775807 < (str id).size + 1 := by rw [str_size]; omega
  have hcat := place_cat n
  have hcat2 := end_cat id
  have htl : (str (id ++ [10])).toList = id ++ [10] := str_toList _
  clear h hs
  go_enter Tryz.func21, Tryz.ntmps21
  go_wp2_with fail
  refine (peek_any (refP n) H.out HS.out (by rw [refP_len]; omega)).mono ?_
  rintro e w6 ⟨u6, rfl, ⟨v6, rfl, ho6⟩, hb6⟩
  obtain ⟨ta, hta⟩ : ∃ t, peekB c.here (refP n) = t := ⟨_, rfl⟩
  obtain ⟨fa, hfa⟩ : ∃ f, peekF c.here (refP n) = f := ⟨_, rfl⟩
  obtain ⟨A6, k6, rfl, _, _⟩ := ho6.slv
  rw [hfa] at ho6 ⊢
  rw [hta]
  rw [List.length_map] at ho6 ⊢
  obtain ⟨fl, hfl⟩ : ∃ l, fa.data.length = l := ⟨_, rfl⟩
  rw [hfl] at ho6 ⊢
  have HTA := Lib.hid hta
  have HFA := Lib.hid hfa
  have hba : Below w6.heap.size w6 (w6.alloc (.cells #[.int .i64 fa.mode, .slice A6 fl k6, .int .i64 fa.time] 40)) := (Below.refl _ _).alloc (Nat.le_refl _) _
  have HBA : Hid (Below w.heap.size w (w6.alloc (.cells #[.int .i64 fa.mode, .slice A6 fl k6, .int .i64 fa.time] 40))) := hb6.trans (hba.mono hb6.size)
  obtain ⟨d, hd⟩ : ∃ d, fa.data = d := ⟨_, rfl⟩
  rw [hd] at ho6 hfl
  have HD := Lib.hid hd
  have kd : (convert 25 9 (.slice A6 fl k6)).run Tryz.prog (w6.alloc (.cells #[.int .i64 fa.mode, .slice A6 fl k6, .int .i64 fa.time] 40)) = .ok (.string (Tx.str d)) (w6.alloc (.cells #[.int .i64 fa.mode, .slice A6 fl k6, .int .i64 fa.time] 40)) := conv_str _ A6 d fl k6 hfl (ho6.slv.below hba)
  have htd : (str d).toList = d := str_toList _
  clear hb6 hba ho6 hta hfa hfl hd
  by_cases hi : id = []
  · have HI : Hid (isB c.here n id = !ta) := by unfold Hid isB; rw [if_pos hi, HTA.out]
    obtain ⟨z2, z3⟩ := str_nil hi
    clear hi hb2 hcat2 htl
    go_wp2_with fail
    go_ret
    exact ⟨by rw [HI.out]; rfl, HBA.out⟩
  · have HI : Hid (isB c.here n id = (ta && decide (d = id ++ [10]))) := by unfold Hid isB; rw [if_neg hi, HTA.out, HFA.out, HD.out]
    obtain ⟨z2, z3⟩ := str_some hi
    clear hi
    cases ta with
    | false =>
      have HX : Hid (isB c.here n id = false) := HI.out
      go_wp2_with fail
      go_ret
      exact ⟨by rw [HX.out]; rfl, HBA.out⟩
    | true =>
      by_cases he : d = id ++ [10]
      · have HX : Hid (isB c.here n id = true) := by have h := HI.out; rw [decide_eq_true he] at h; exact h
        have hq : (d == id ++ [10]) = true := by rw [he]; exact beq_self_eq_true _
        clear he
        go_wp2_with fail
        go_ret
        exact ⟨by rw [HX.out]; rfl, HBA.out⟩
      · have HX : Hid (isB c.here n id = false) := by have h := HI.out; rw [decide_eq_false he] at h; exact h
        have hq : (d == id ++ [10]) = false := list_other he
        clear he
        go_wp2_with fail
        go_ret
        exact ⟨by rw [HX.out]; rfl, HBA.out⟩
theorem is_mine {w w1 : World} {b : Nat} {c : CSt} (n id : List UInt8) (h : Mine w w1 b c) (hs : CSmall c) (hn : n.length ≤ 900000) (hid : id.length ≤ 900000) :
    Calls Tryz.prog 21 #[.pointer (some ⟨b, 0, none⟩), .string (Tx.str n), .string (Tx.str id)] w1 fun e w' => e = .returned (.bool (isB c.here n id)) ∧ Mine w w' b c := by
  obtain ⟨F, M, h1, h2, h3⟩ := h
  exact (is_any F M b c n id w1 h1 hs hn hid).mono fun e w' h => ⟨h.1, ⟨F, M, h1.below h.2, h2, h3.trans (h.2.mono h3.size)⟩⟩
end Go.Proofs.YtlgmbljfjfcpoaaGreat.Tx
/- slices.swapRangeCmpFunc at structs, over any program that bears its body: it exchanges two runs of a row. -/
namespace Go.Proofs.YtlgmbljfjfcpoaaGreat.Wk
open Go.Shelf Go.RowKit Go.Lib Go.Sort

/-- n exchanges: a + i with b + i. -/
def swapN {α : Type} [Inhabited α] (d : Array α) (a b : Nat) : Nat → Array α
  | 0 => d
  | n + 1 => swp (swapN d a b n) (a + n) (b + n)
theorem swapN_size {α : Type} [Inhabited α] (d : Array α) (a b n : Nat) : (swapN d a b n).size = d.size := by
  induction n with
  | zero => rfl
  | succ n ih => rw [swapN, size_swp, ih]
/-- What a program says of the types that the sort's bodies name. -/
structure TypesAs (P : Program) (k : Nat) : Prop where
  mixed : P.follows .mixedOrders = true
  t3 : P.underlying 3 = some (TypeDesc.int IntKind.i64)
  a3 : ∀ w, (isAgg 3).run P w = .ok false w
  z3 : ∀ w, (Go.sizeOf 3).run P w = .ok 1 w
  t4 : P.underlying 4 = some TypeDesc.bool
  a4 : ∀ w, (isAgg 4).run P w = .ok false w
  z4 : ∀ w, (Go.sizeOf 4).run P w = .ok 1 w
  t33 : P.underlying 23 = some (TypeDesc.slice 32)
  a33 : ∀ w, (isAgg 23).run P w = .ok false w
  z33 : ∀ w, (Go.sizeOf 23).run P w = .ok 1 w
  tU : P.underlying 109 = some (TypeDesc.int IntKind.u64)
  aU : ∀ w, (isAgg 109).run P w = .ok false w
  zU : ∀ w, (Go.sizeOf 109).run P w = .ok 1 w
  aE : ∀ w, (isAgg 32).run P w = .ok true w
  zE : ∀ w, (Go.sizeOf 32).run P w = .ok k w
set_option maxHeartbeats 4000000 in
set_option maxRecDepth 1000000 in
theorem swapRange_o {P : Program} {α : Type} [Inhabited α] {k : Nat} (T : TypesAs P k) (FG : P.funcs[118]? = some Tryz.f118) (enc : α → List Value) (fv : Value) (blk off cap a b n : Nat) (d0 d : Array α) (w0 w : World)
    (R : RowK enc k w0 blk off d0) (hs : d.size = d0.size) (S : SWK enc k w0 blk off d w) (ha : a + n ≤ d.size) (hb : b + n ≤ d.size) (hsz : d.size < 4611686018427387904) :
    Calls P 118 #[.slice (some ⟨blk, off, none⟩) d.size cap, .int .i64 a, .int .i64 b, .int .i64 n, fv] w fun e w' => e = .returned (.tuple #[]) ∧ SWK enc k w0 blk off (swapN d a b n) w' := by
  have mixed := T.mixed; have t3 := T.t3; have a3 := T.a3; have z3 := T.z3; have t4 := T.t4; have a4 := T.a4; have z4 := T.z4; have t33 := T.t33; have a33 := T.a33; have z33 := T.z33; have aE := T.aE; have zE := T.zE
  clear T
  have S0 : Aside (SWK enc k w0 blk off d w) := S
  clear S
  go_enter FG, Tryz.ntmps118
  go_wp2
  go_loopg [10] n (fun kx s wr => ∃ i : Nat, s = .int .i64 i ∧ i ≤ n ∧ n - i ≤ kx ∧ Aside (SWK enc k w0 blk off (swapN d a b i) wr))
  case atStart => exact ⟨0, rfl, Nat.zero_le _, by omega, S0⟩
  case round =>
    clear S0
    obtain ⟨i, rfl, hi, hkx, S1⟩ := hrel
    by_cases hlt : i < n
    · have hlt' : (i : Int) < (n : Int) := by omega
      go_wp2_with fail
      obtain ⟨D, hD⟩ : ∃ D, swapN d a b i = D := ⟨_, rfl⟩
      have hDs : D.size = d.size := by rw [← hD, swapN_size]
      obtain ⟨x, hx⟩ : ∃ x, a + i = x := ⟨_, rfl⟩
      obtain ⟨y, hy⟩ : ∃ y, b + i = y := ⟨_, rfl⟩
      have hnx : swapN d a b (i + 1) = swp D x y := by rw [swapN, hD, hx, hy]
      rw [hD] at S1
      have hxD : x < D.size := by omega
      have hyD : y < D.size := by omega
      have hxi : (a : Int) + (i : Int) = (x : Int) := by omega
      have hyi : (b : Int) + (i : Int) = (y : Int) := by omega
      have ea44 : ((x : Int)).toNat = x := by omega
      have pa44 : (0 : Int) ≤ (x : Int) := by omega
      have ba44 : (x : Int) < (d.size : Int) := by omega
      have ra44 : IntKind.i64.wrap ((x : Int)) = (x : Int) := by rw [IntKind.wrap_i64]; omega
      have ec44 : ((y : Int)).toNat = y := by omega
      have pc44 : (0 : Int) ≤ (y : Int) := by omega
      have bc44 : (y : Int) < (d.size : Int) := by omega
      have rc44 : IntKind.i64.wrap ((y : Int)) = (y : Int) := by rw [IntKind.wrap_i64]; omega
      have S2 : Aside (SWK enc k w0 blk off (swp D x y) ((wr.drew.setCells blk (off + x * k) (enc D[y]!)).setCells blk (off + y * k) (enc D[x]!))) := S1.out.swapped R x y hxD hyD
      have l44a := S1.out.ld1 R (by omega) P x hxD
      have l44b := S1.out.ld1 R (by omega) P y hyD
      have s44a := S1.out.st1 R (by omega) P x hxD D[y]!
      have s44b := S1.out.st2 R (by omega) P x y hxD hyD D[y]! D[x]!
      have n44a : (enc D[x]!).length = k := R.hk _
      have n44b : (enc D[y]!).length = k := R.hk _
      generalize enc D[x]! = cI44 at S2 l44a s44b n44a
      generalize enc D[y]! = cJ44 at S2 l44b s44a s44b n44b
      have HNX : Aside (swapN d a b (i + 1) = swp D x y) := hnx
      clear S1 hD hDs hx hy hnx hxD hyD
      go_big_region_o
      clear l44a l44b s44a s44b
      generalize (wr.drew.setCells blk (off + x * k) cJ44).setCells blk (off + y * k) cI44 = w2 at S2 ⊢
      go_wp2
      go_roundg (n - (i + 1))
      case measure => omega
      case rel => exact ⟨i + 1, by simp, by omega, Nat.le_refl _, by rw [HNX.out]; exact S2⟩
    · have hlt' : ¬ (i : Int) < (n : Int) := by omega
      obtain rfl : i = n := by omega
      go_wp2
      go_end0
      exact ⟨rfl, S1.out⟩
end Go.Proofs.YtlgmbljfjfcpoaaGreat.Wk
/- slices.rotateCmpFunc at structs, over any program that bears its body: the rows are those that were there. -/
namespace Go.Proofs.YtlgmbljfjfcpoaaGreat.Wk
open Go.Shelf Go.RowKit Go.Lib Go.Sort

/-- The same number of rows, each of them one that was there. -/
def Moved {α : Type} [Inhabited α] (d d' : Array α) : Prop := d'.size = d.size ∧ ∀ i, i < d.size → ∃ j, j < d.size ∧ d'[i]! = d[j]!
section
variable {α : Type} [Inhabited α]
theorem Moved.refl (d : Array α) : Moved d d := ⟨rfl, fun i hi => ⟨i, hi, rfl⟩⟩
theorem Moved.trans {d d' d2 : Array α} (h : Moved d d') (h2 : Moved d' d2) : Moved d d2 := by
  refine ⟨h2.1.trans h.1, fun i hi => ?_⟩
  obtain ⟨j, hj, e⟩ := h2.2 i (by rw [h.1]; exact hi)
  obtain ⟨q, hq, e2⟩ := h.2 j (by rw [← h.1]; exact hj)
  exact ⟨q, hq, e.trans e2⟩
theorem Moved.swp (d : Array α) {i j : Nat} (hi : i < d.size) (hj : j < d.size) : Moved d (Go.Sort.swp d i j) := by
  refine ⟨size_swp d i j, fun k hk => ?_⟩
  by_cases h1 : k = i
  · subst h1
    by_cases h2 : k = j
    · subst h2
      exact ⟨k, hk, swp_right d k k hj⟩
    · exact ⟨j, hj, swp_left d k j hk h2⟩
  · by_cases h2 : k = j
    · subst h2
      exact ⟨i, hi, swp_right d i k hk⟩
    · exact ⟨k, hk, swp_other d i j k h1 h2⟩
theorem Moved.swapN (d : Array α) (a b n : Nat) (ha : a + n ≤ d.size) (hb : b + n ≤ d.size) : Moved d (Wk.swapN d a b n) := by
  induction n with
  | zero => exact Moved.refl d
  | succ n ih =>
    have h := ih (by omega) (by omega)
    exact h.trans (Moved.swp _ (by rw [h.1]; omega) (by rw [h.1]; omega))
end
/-- What a step of the sort leaves: a world of the sort's, its rows moved. -/
def StepPost {α : Type} [Inhabited α] (enc : α → List Value) (k : Nat) (w0 : World) (blk off : Nat) (d : Array α) (e : Ending) (w' : World) : Prop := e = .returned (.tuple #[]) ∧ ∃ d', Moved d d' ∧ SWK enc k w0 blk off d' w'
section
variable {P : Program} {α : Type} [Inhabited α] {k : Nat}
theorem swapRange_w (T : TypesAs P k) (FG : P.funcs[118]? = some Tryz.f118) (enc : α → List Value) (fv : Value) (blk off N cap a b n : Nat) (d0 d : Array α) (w0 w : World)
    (R : RowK enc k w0 blk off d0) (hs : d.size = d0.size) (S : SWK enc k w0 blk off d w) (hN : d.size = N) (ha : a + n ≤ N) (hb : b + n ≤ N) (hsz : N < 4611686018427387904) :
    Calls P 118 #[.slice (some ⟨blk, off, none⟩) N cap, .int .i64 a, .int .i64 b, .int .i64 n, fv] w (StepPost enc k w0 blk off d) := by
  subst hN
  exact (swapRange_o T FG enc fv blk off cap a b n d0 d w0 w R hs S ha hb hsz).mono fun e w' ⟨he, h⟩ => ⟨he, _, Moved.swapN d a b n ha hb, h⟩
set_option maxHeartbeats 4000000 in
set_option maxRecDepth 1000000 in
theorem rotate_w (T : TypesAs P k) (FS : P.funcs[118]? = some Tryz.f118) (FG : P.funcs[104]? = some Tryz.f104) (enc : α → List Value) (fv : Value) (blk off N cap a m b : Nat) (d0 d : Array α) (w0 w : World)
    (R : RowK enc k w0 blk off d0) (hs : d.size = d0.size) (S : SWK enc k w0 blk off d w) (hN : d.size = N) (ham : a < m) (hmb : m < b) (hb : b ≤ N) (hsz : N < 4611686018427387904) :
    Calls P 104 #[.slice (some ⟨blk, off, none⟩) N cap, .int .i64 a, .int .i64 m, .int .i64 b, fv] w (StepPost enc k w0 blk off d) := by
  have T0 : Aside (TypesAs P k) := T
  have mixed := T.mixed; have t3 := T.t3; have a3 := T.a3; have z3 := T.z3; have t4 := T.t4; have a4 := T.a4; have z4 := T.z4; have t33 := T.t33; have a33 := T.a33; have z33 := T.z33; have aE := T.aE; have zE := T.zE
  clear T
  have FS0 : Aside (P.funcs[118]? = some Tryz.f118) := FS
  have eS : ∀ args w, (callFunc 118 args).run P w = .ok (.enter 118 args) w := enters_of FS (by kernel_rfl) rfl
  have S0 : Aside (SWK enc k w0 blk off d w) := S
  have R0 : Aside (RowK enc k w0 blk off d0) := R
  have hN0 : Aside (d.size = N) := hN
  have hs0 : Aside (d.size = d0.size) := hs
  clear S FS R hN hs
  obtain ⟨i0, hi0⟩ : ∃ i, m - a = i := ⟨_, rfl⟩
  obtain ⟨j0, hj0⟩ : ∃ j, b - m = j := ⟨_, rfl⟩
  have hi1 : (m : Int) - (a : Int) = (i0 : Int) := by omega
  have hj1 : (b : Int) - (m : Int) = (j0 : Int) := by omega
  have wi1 : IntKind.i64.wrap (i0 : Int) = (i0 : Int) := by rw [IntKind.wrap_i64]; omega
  have wj1 : IntKind.i64.wrap (j0 : Int) = (j0 : Int) := by rw [IntKind.wrap_i64]; omega
  go_enter FG, Tryz.ntmps104
  go_wp2
  go_loopg [10, 11] (i0 + j0) (fun kx s t wr => ∃ (i j : Nat) (D : Array α), s = .int .i64 i ∧ t = .int .i64 j ∧ 0 < i ∧ 0 < j ∧ i ≤ m ∧ m + j ≤ N ∧ i + j ≤ kx ∧ Aside (Moved d D ∧ SWK enc k w0 blk off D wr))
  case atStart => exact ⟨i0, j0, d, rfl, rfl, by omega, by omega, by omega, by omega, by omega, Moved.refl d, S0.out⟩
  case round =>
    clear S0
    obtain ⟨i, j, D, rfl, rfl, hip, hjp, him, hjn, hkx, S1⟩ := hrel
    have hDs : D.size = N := S1.out.1.1.trans hN0.out
    obtain ⟨x, hx⟩ : ∃ x, m - i = x := ⟨_, rfl⟩
    have hxi : (m : Int) - (i : Int) = (x : Int) := by omega
    have wx : IntKind.i64.wrap (x : Int) = (x : Int) := by rw [IntKind.wrap_i64]; omega
    by_cases heq : i = j
    · subst heq
      go_wp2_with fail
      refine (swapRange_w T0.out FS0.out enc fv blk off N cap x m i d0 D w0 wr R0.out (by rw [S1.out.1.1]; exact hs0.out) S1.out.2 hDs (by omega) (by omega) hsz).mono ?_
      rintro e w1 ⟨rfl, D1, hm1, hS1⟩
      go_wp2
      go_end0
      exact ⟨rfl, D1, S1.out.1.trans hm1, hS1⟩
    · have e1 : ((i : Int) == (j : Int)) = false := beq_eq_false_iff_ne.2 (by omega)
      have e2 : ((i : Int) != (j : Int)) = true := bne_iff_ne.2 (by omega)
      by_cases hgt : j < i
      · have g1 : (j : Int) < (i : Int) := by omega
        obtain ⟨y, hy⟩ : ∃ y, i - j = y := ⟨_, rfl⟩
        have hyi : (i : Int) - (j : Int) = (y : Int) := by omega
        have wy : IntKind.i64.wrap (y : Int) = (y : Int) := by rw [IntKind.wrap_i64]; omega
        go_wp2_with fail
        refine (swapRange_w T0.out FS0.out enc fv blk off N cap x m j d0 D w0 wr R0.out (by rw [S1.out.1.1]; exact hs0.out) S1.out.2 hDs (by omega) (by omega) hsz).mono ?_
        rintro e w1 ⟨rfl, D1, hm1, hS1⟩
        have S2 : Aside (Moved d D1 ∧ SWK enc k w0 blk off D1 w1) := ⟨S1.out.1.trans hm1, hS1⟩
        clear hm1 hS1
        go_wp2
        go_roundg (y + j)
        case measure => omega
        case rel => exact ⟨y, j, D1, by simp, by simp, by omega, hjp, by omega, hjn, Nat.le_refl _, S2⟩
      · have g1 : ¬ (j : Int) < (i : Int) := by omega
        obtain ⟨y, hy⟩ : ∃ y, j - i = y := ⟨_, rfl⟩
        have hyi : (j : Int) - (i : Int) = (y : Int) := by omega
        have wy : IntKind.i64.wrap (y : Int) = (y : Int) := by rw [IntKind.wrap_i64]; omega
        obtain ⟨u, hu⟩ : ∃ u, m + j = u := ⟨_, rfl⟩
        have hui : (m : Int) + (j : Int) = (u : Int) := by omega
        have wu : IntKind.i64.wrap (u : Int) = (u : Int) := by rw [IntKind.wrap_i64]; omega
        obtain ⟨v, hv⟩ : ∃ v, u - i = v := ⟨_, rfl⟩
        have hvi : (u : Int) - (i : Int) = (v : Int) := by omega
        have wv : IntKind.i64.wrap (v : Int) = (v : Int) := by rw [IntKind.wrap_i64]; omega
        go_wp2_with fail
        refine (swapRange_w T0.out FS0.out enc fv blk off N cap x v i d0 D w0 wr R0.out (by rw [S1.out.1.1]; exact hs0.out) S1.out.2 hDs (by omega) (by omega) hsz).mono ?_
        rintro e w1 ⟨rfl, D1, hm1, hS1⟩
        have S2 : Aside (Moved d D1 ∧ SWK enc k w0 blk off D1 w1) := ⟨S1.out.1.trans hm1, hS1⟩
        clear hm1 hS1
        go_wp2
        go_roundg (i + y)
        case measure => omega
        case rel => exact ⟨i, y, D1, by simp, by simp, hip, by omega, him, by omega, Nat.le_refl _, S2⟩
end
end Go.Proofs.YtlgmbljfjfcpoaaGreat.Wk
/- fsim.Plan's comparison of events by their call: what the sort asks of it. -/
namespace Go.Proofs.YtlgmbljfjfcpoaaGreat.Wk
open Go.Shelf Go.RowKit Go.Lib Go.Sort

def cmpI (x y : Int) : Int := if x < y then -1 else if y < x then 1 else 0
set_option maxRecDepth 100000 in
set_option maxHeartbeats 400000 in
theorem isNaN_any (x : Int) (w : World) : Calls Tryz.prog 57 #[.int .i64 x] w fun e w' => e = .returned (.bool false) ∧ w' = w := by
  go_enter Tryz.func57, Tryz.ntmps57
  go_wp2_with fail
  go_ret
  exact ⟨by simp, rfl⟩
set_option maxRecDepth 100000 in
set_option maxHeartbeats 800000 in
theorem compare_any (x y : Int) (w : World) : Calls Tryz.prog 32 #[.int .i64 x, .int .i64 y] w fun e w' => e = .returned (.int .i64 (cmpI x y)) ∧ w' = w := by
  go_enter Tryz.func32, Tryz.ntmps32
  go_wp2_with fail
  refine (isNaN_any x _).mono ?_
  rintro e w1 ⟨rfl, rfl⟩
  go_wp2_with fail
  refine (isNaN_any y _).mono ?_
  rintro e w1 ⟨rfl, rfl⟩
  by_cases h1 : x < y
  · have HC : Hid (cmpI x y = -1) := by unfold Hid cmpI; rw [if_pos h1]
    go_wp2_with fail
    go_ret
    exact ⟨by rw [HC.out]; rfl, rfl⟩
  · by_cases h2 : y < x
    · have HC : Hid (cmpI x y = 1) := by unfold Hid cmpI; rw [if_neg h1, if_pos h2]
      go_wp2_with fail
      go_ret
      exact ⟨by rw [HC.out]; rfl, rfl⟩
    · have HC : Hid (cmpI x y = 0) := by unfold Hid cmpI; rw [if_neg h1, if_neg h2]
      go_wp2_with fail
      go_ret
      exact ⟨by rw [HC.out]; rfl, rfl⟩
set_option maxRecDepth 100000 in
set_option maxHeartbeats 800000 in
theorem plan2_any (x y : Int) (a1 a2 a3 a4 a5 a6 b1 b2 b3 b4 b5 b6 : Value) (w : World) : Calls Tryz.prog 31 #[.agg #[.int .i64 x, a1, a2, a3, a4, a5, a6], .agg #[.int .i64 y, b1, b2, b3, b4, b5, b6]] w fun e w' => e = .returned (.int .i64 (cmpI x y)) ∧ ∃ q os, w' = grow (w.drewN q) os := by
  go_enter Tryz.func31, Tryz.ntmps31
  go_wp2_with fail
  refine (compare_any x y _).mono ?_
  rintro e w1 ⟨rfl, h1⟩
  subst h1
  go_wp2_with fail
  go_ret
  refine ⟨rfl, 0, #[.cells #[.int .i64 x, a1, a2, a3, a4, a5, a6] 32, .cells #[.int .i64 y, b1, b2, b3, b4, b5, b6] 32], ?_⟩
  rw [alloc_eq_grow, alloc_eq_grow, grow_grow]
  rfl
end Go.Proofs.YtlgmbljfjfcpoaaGreat.Wk
