/- Texts put together: WGe0, WGe1, WGd5, WGw0, WGw1, WGw2. -/
import Derived.Test.YtpfjlhpahmhkhaaGreatQf34
import Derived.Test.YtpfjlhpahmhkhaaGreatProg
import Derived.WalkKit
import Derived.Shelf.SlSortCmp.KitK
/- marlaw5.file; marref.Texts of any two lists. -/
namespace Go.Proofs.YtpfjlhpahmhkhaaGreat.Tx
open Go.RowKit Go.Maps Go.Proofs.YtpfjlhpahmhkhaaGreat.Sh

set_option maxRecDepth 100000 in
set_option maxHeartbeats 3200000 in
theorem file_any (m1 t1 m2 t2 : Int) (A A2 : Option Addr) (n n2 c c2 : Nat) (bs cs : List UInt8) (w : World) (hn : bs.length = n) (hn2 : cs.length = n2) (h1 : SlV w (.slice A n c) (bs.map bv)) (h2 : SlV w (.slice A2 n2 c2) (cs.map bv)) :
    Calls Tryz.prog 87 #[.agg #[.int .i64 m1, .slice A n c, .int .i64 t1], .agg #[.int .i64 m2, .slice A2 n2 c2, .int .i64 t2]] w fun e w' => e = .returned (.bool (decide (m1 = m2) && (decide (t1 = t2) && (bs == cs)))) ∧ Below w.heap.size w w' := by
  have hb1 := (Below.refl w.heap.size w).alloc (Nat.le_refl _) (.cells #[.int .i64 m1, .slice A n c, .int .i64 t1] 122)
  have hb2 := hb1.alloc hb1.size (.cells #[.int .i64 m2, .slice A2 n2 c2, .int .i64 t2] 155)
  have H1 := Lib.hid (h1.below hb2)
  have H2 := Lib.hid (h2.below hb2)
  have HB := Lib.hid hb2
  have HN := Lib.hid hn
  have HN2 := Lib.hid hn2
  clear h1 h2 hb1 hb2 hn hn2
  by_cases hm : m1 = m2
  · subst hm
    by_cases ht : t1 = t2
    · subst ht
      go_enter Tryz.func87, Tryz.ntmps87
      go_wp2_with fail
      refine (tbytes_any A A2 n n2 c c2 bs cs _ HN.out HN2.out H1.out H2.out (bs == cs) rfl).mono ?_
      rintro e wb ⟨rfl, rfl⟩
      go_wp2_with fail
      go_ret
      exact ⟨by simp, HB.out⟩
    · have e1 : (t1 == t2) = false := by rw [beq_eq_false_iff_ne]; exact ht
      go_enter Tryz.func87, Tryz.ntmps87
      go_wp2_with fail
      go_ret
      exact ⟨by simp [ht], HB.out⟩
  · have e1 : (m1 == m2) = false := by rw [beq_eq_false_iff_ne]; exact hm
    go_enter Tryz.func87, Tryz.ntmps87
    go_wp2_with fail
    go_ret
    exact ⟨by simp [hm], HB.out⟩

set_option maxRecDepth 100000 in
set_option maxHeartbeats 1600000 in
theorem texts_any (v v' : Value) (xs ys : List ByteArray) (w : World) (h : SlV w v (xs.map sv)) (h' : SlV w v' (ys.map sv)) : Calls Tryz.prog 38 #[v, v'] w fun e w' => ∃ t, e = .returned (.bool t) ∧ (t = true ↔ xs = ys) ∧ Below w.heap.size w w' := by
  obtain ⟨A, c, rfl, hlc, hcm, hR⟩ := h.len
  obtain ⟨A', c', rfl, hlc', hcm', hR'⟩ := h'.len
  rw [List.length_map] at hlc hR hlc' hR' ⊢
  rw [List.length_map]
  have HR := Lib.hid hR
  have HR' := Lib.hid hR'
  unfold maxLen at hcm hcm'
  obtain ⟨l, hl⟩ : ∃ l, xs.length = l := ⟨_, rfl⟩
  obtain ⟨l', hl'⟩ : ∃ l', ys.length = l' := ⟨_, rfl⟩
  rw [hl] at hlc ⊢
  rw [hl'] at hlc' ⊢
  have HL := Lib.hid hl
  have HL' := Lib.hid hl'
  clear h h' hR hR' hl hl'
  by_cases hll : l = l'
  · subst hll
    go_enter Tryz.func38, Tryz.ntmps38
    go_wp2
    go_loopw [5] (fun i wr => ∃ k : Nat, k ≤ l ∧ i = .int .i64 k ∧ xs.take k = ys.take k ∧ Below w.heap.size w wr) (fun i _ => l - (intOf i).toNat)
    case atStart => exact ⟨0, Nat.zero_le _, rfl, rfl, Below.refl _ _⟩
    case round =>
      obtain ⟨k, hk, rfl, htk, hb⟩ := hrel
      have HB := Lib.hid hb
      have HTK := Lib.hid htk
      clear hb htk
      by_cases hlt : k < l
      · have hkl : k < xs.length := by rw [HL.out]; exact hlt
        have hkl' : k < ys.length := by rw [HL'.out]; exact hlt
        obtain ⟨ad, rfl, hcell⟩ := texts_at ((HR.out.below HB.out).more HB.out.size) k hkl
        obtain ⟨ad', rfl, hcell'⟩ := texts_at ((HR'.out.below HB.out).more HB.out.size) k hkl'
        have HX := Lib.hid (show xs.take (k + 1) = xs.take k ++ [xs[k]] from List.take_succ_eq_append_getElem hkl)
        have HY := Lib.hid (show ys.take (k + 1) = ys.take k ++ [ys[k]] from List.take_succ_eq_append_getElem hkl')
        have HE : Hid (xs[k] ≠ ys[k] → xs ≠ ys) := fun h e => h (by subst e; rfl)
        generalize xs[k] = x at *
        generalize ys[k] = y at *
        clear hkl hkl'
        have z0 : (0 : Int) ≤ (k : Int) := by omega
        have z1 : (k : Int) < (l : Int) := by omega
        by_cases he : x = y
        · subst he
          go_wp2_with fail
          go_quiet (fail)
          go_wp2
          go_roundw
          case rel => exact ⟨k + 1, by omega, by go_num, by rw [HX.out, HY.out, HTK.out], below_drewN HB.out _⟩
          case measure => simp [intOf]; omega
        · have q1 := toList_ne he
          go_wp2_with fail
          go_quiet (fail)
          go_wp2
          go_ret
          exact ⟨_, rfl, by simpa using HE.out he, below_drewN HB.out _⟩
      · obtain rfl : k = l := by omega
        have HXY : Hid (xs = ys) := by
          have h1 := HTK.out
          rw [List.take_of_length_le (by rw [HL.out]; exact Nat.le_refl _), List.take_of_length_le (by rw [HL'.out]; exact Nat.le_refl _)] at h1
          exact h1
        go_wp2
        go_ret
        exact ⟨_, rfl, by simpa using HXY.out, HB.out⟩
  · have e1 : ((l : Int) == (l' : Int)) = false := by rw [beq_eq_false_iff_ne]; omega
    go_enter Tryz.func38, Tryz.ntmps38
    go_wp2_with fail
    go_ret
    exact ⟨_, rfl, ⟨fun h => by simp at h, fun h => (hll (by rw [← HL.out, ← HL'.out, h])).elim⟩, Below.refl _ _⟩
end Go.Proofs.YtpfjlhpahmhkhaaGreat.Tx
/- One call of either file system, one behind the other. -/
namespace Go.Proofs.YtpfjlhpahmhkhaaGreat.Tx
open Go.RowKit Go.Maps Go.Proofs.YtpfjlhpahmhkhaaGreat.Sh

set_option maxRecDepth 100000 in
set_option maxHeartbeats 400000 in
theorem rcopyb_big (v : Value) (bs : List UInt8) (w : World) (h : SlV w v (bs.map bv)) (hn : bs.length ≤ 140737488355328) : Calls Tryz.prog 21 #[v] w fun e w' => ∃ v', e = .returned v' ∧ OwnV 5 w' w.heap.size v' (bs.map bv) ∧ Below w.heap.size w w' := by
  obtain ⟨A, c, rfl, hlc, hcm, hR⟩ := (h.below ((Below.refl w.heap.size w).alloc (Nat.le_refl _) (.cells #[] 5))).len
  rw [List.length_map] at hlc hR ⊢
  have hown : OwnV 5 (w.alloc (.cells #[] 5)) w.heap.size (.slice (some ⟨w.heap.size, 0, none⟩) 0 0) (([] : List UInt8).map bv) := World.ownsRow_made w #[] 0 (Nat.le_refl _) (by unfold maxLen; omega) rfl
  obtain ⟨l, hl⟩ : ∃ l, bs.length = l := ⟨_, rfl⟩
  rw [hl] at hR hn ⊢
  have hsm : ([] : List UInt8).length + l ≤ 140737488355328 := by simp; omega
  have hz : w.heap.size ≤ (w.alloc (.cells #[] 5)).heap.size := by simp
  have HR := Lib.hid hR
  have HOWN := Lib.hid hown
  clear hR hown hl h hlc hcm
  go_enter Tryz.func21, Tryz.ntmps21
  go_wp2_with (at_builtin; refine append_bytes rfl (.tmp 3) (.tmp 4) rfl _ w.heap.size (.slice (some ⟨w.heap.size, 0, none⟩) 0 0) [] rfl HOWN.out _ A l c bs rfl HR.out hsm hz ?_; intro v3 w3 ho3 hb3; have HO := Lib.hid ho3; have HB := Lib.hid hb3; clear ho3 hb3)
  go_ret
  refine ⟨v3, rfl, ?_, ((Below.refl _ _).alloc (Nat.le_refl _) _).trans HB.out⟩
  simpa using HO.out
section
variable {F M Mf Mx G : Nat → Prop} {w w1 w2 : World} {b d : Nat} {c c' : CSt} {s s' : FSM}
theorem TwoX.later (h : TwoX F w b c d s Mf Mx) (hp : FcPost F Mf w b c' w1) : RefAt F w1 d s Mx := by
  obtain ⟨M1, _, h2, _⟩ := hp
  exact h.x.only h2 (fun k hk => h.f.apart_ k hk) (fun k hk hf => h.apart k hf hk)
theorem FsPost.then_below (h : FsPost F M w d s' w1) (hb : Below w1.heap.size w1 w2) : FsPost F M w d s' w2 := by
  obtain ⟨M2, h1, h3, h4⟩ := h
  exact FsPost.trans h3 h4 (FsPost.of_below hb (FsPost.refl (h1.below hb)))
theorem two_both (h : TwoX F w b c d s Mf Mx) (hM : ∀ k, M k ↔ Mf k ∨ Mx k) (hp : FcPost F Mf w b c' w1) (hq : FsPost F Mx w1 d s' w2) : TwoPost F M w b c' d s' w2 := by
  obtain ⟨M1, h1, h2, h3⟩ := hp
  obtain ⟨M2, h4, h5, h6⟩ := hq
  have z1 := h2.size
  have z2 := h5.size
  have hxl := h.x.mlt
  have hs : ∀ k, M1 k ∨ M2 k → M k ∨ w.heap.size ≤ k := fun k hk => by
    rcases hk with hk | hk
    · exact (h3 k hk).imp (fun h => (hM k).2 (.inl h)) id
    · exact (h6 k hk).imp (fun h => (hM k).2 (.inr h)) (fun h => by omega)
  have hap : ∀ k, F k → ¬ M k := fun k hk hm => by
    rcases (hM k).1 hm with h9 | h9
    · exact h.f.apart_ k hk h9
    · exact h.x.apart_ k hk h9
  have hga := grow_apart (w' := w2) hap h.f.low hs
  have hgl := grow_lt (w := w) (w' := w2) (M' := fun k => M1 k ∨ M2 k) h.f.low (by omega)
  refine ⟨fun k => M1 k ∨ M2 k, ⟨M1, M2, ⟨?_, ?_, fun k hk hx => ?_⟩, fun _ => Iff.rfl⟩, (h2.more (fun k _ hk => (hM k).2 (.inl hk))).trans h5 (fun k hk => .inl ((hM k).2 (.inr hk))), hs⟩
  · refine (h1.only h5 (fun k hk hx => ?_) (fun k hk hx => ?_)).mono_ (fun k hk => ?_) (fun k hk hm => hga k hk (.inl hm)) hgl
    · rcases hk with hk | ⟨g1, _, _⟩
      · exact h.x.apart_ k hk hx
      · have := hxl k hx; omega
    · rcases h3 k hk with h9 | h9
      · exact h.apart k h9 hx
      · have := hxl k hx; omega
    · rcases hk with hk | ⟨g1, g2, g3⟩
      · exact .inl hk
      · refine .inr ⟨g1, by omega, fun h9 => ?_⟩
        rcases h9 with h9 | h9
        · exact g3 h9
        · rcases h6 k h9 with h8 | h8
          · have := hxl k h8; omega
          · omega
  · refine h4.mono_ (fun k hk => ?_) (fun k hk hm => hga k hk (.inr hm)) hgl
    rcases hk with hk | ⟨g1, g2, g3⟩
    · exact .inl hk
    · refine .inr ⟨by omega, g2, fun h9 => ?_⟩
      rcases h9 with h9 | h9
      · have := h1.lt k h9; omega
      · exact g3 h9
  · rcases h6 k hx with h9 | h9
    · rcases h3 k hk with h8 | h8
      · exact h.apart k h8 h9
      · have := hxl k h9; omega
    · have := h1.lt k hk; omega
end
end Go.Proofs.YtpfjlhpahmhkhaaGreat.Tx
/- marlaw5.Does. -/
namespace Go.Proofs.YtpfjlhpahmhkhaaGreat.Tx
open Go.RowKit Go.Maps Go.Proofs.YtpfjlhpahmhkhaaGreat.Sh

def opV (o : LOp) (dv pv : Value) : Value := .agg #[.int .i64 o.kind, .int .i64 o.mode, .int .i64 o.keep, .int .i64 o.torn, .string (str o.path), .string (str o.dest), dv, pv]
end Go.Proofs.YtpfjlhpahmhkhaaGreat.Tx
/- slices.swapRangeCmpFunc at structs, over any program that bears its body: it exchanges two runs of a row. -/
namespace Go.Proofs.YtpfjlhpahmhkhaaGreat.Wk
open Go.Shelf Go.RowKit Go.Lib Go.Sort

/-- n exchanges: a + i with b + i. -/
def swapN {α : Type} [Inhabited α] (d : Array α) (a b : Nat) : Nat → Array α
  | 0 => d
  | n + 1 => swp (swapN d a b n) (a + n) (b + n)
theorem swapN_size {α : Type} [Inhabited α] (d : Array α) (a b n : Nat) : (swapN d a b n).size = d.size := by
  induction n with
  | zero => rfl
  | succ n ih => rw [swapN, size_swp, ih]
/-- What a program says of the types that the sort's bodies name. -/
structure TypesAs (P : Program) (k : Nat) : Prop where
  mixed : P.follows .mixedOrders = true
  t3 : P.underlying 3 = some (TypeDesc.int IntKind.i64)
  a3 : ∀ w, (isAgg 3).run P w = .ok false w
  z3 : ∀ w, (Go.sizeOf 3).run P w = .ok 1 w
  t4 : P.underlying 4 = some TypeDesc.bool
  a4 : ∀ w, (isAgg 4).run P w = .ok false w
  z4 : ∀ w, (Go.sizeOf 4).run P w = .ok 1 w
  t33 : P.underlying 33 = some (TypeDesc.slice 143)
  a33 : ∀ w, (isAgg 33).run P w = .ok false w
  z33 : ∀ w, (Go.sizeOf 33).run P w = .ok 1 w
  tU : P.underlying 337 = some (TypeDesc.int IntKind.u64)
  aU : ∀ w, (isAgg 337).run P w = .ok false w
  zU : ∀ w, (Go.sizeOf 337).run P w = .ok 1 w
  aE : ∀ w, (isAgg 143).run P w = .ok true w
  zE : ∀ w, (Go.sizeOf 143).run P w = .ok k w
set_option maxHeartbeats 4000000 in
set_option maxRecDepth 1000000 in
theorem swapRange_o {P : Program} {α : Type} [Inhabited α] {k : Nat} (T : TypesAs P k) (FG : P.funcs[373]? = some Tryz.f373) (enc : α → List Value) (fv : Value) (blk off cap a b n : Nat) (d0 d : Array α) (w0 w : World)
    (R : RowK enc k w0 blk off d0) (hs : d.size = d0.size) (S : SWK enc k w0 blk off d w) (ha : a + n ≤ d.size) (hb : b + n ≤ d.size) (hsz : d.size < 4611686018427387904) :
    Calls P 373 #[.slice (some ⟨blk, off, none⟩) d.size cap, .int .i64 a, .int .i64 b, .int .i64 n, fv] w fun e w' => e = .returned (.tuple #[]) ∧ SWK enc k w0 blk off (swapN d a b n) w' := by
  have mixed := T.mixed; have t3 := T.t3; have a3 := T.a3; have z3 := T.z3; have t4 := T.t4; have a4 := T.a4; have z4 := T.z4; have t33 := T.t33; have a33 := T.a33; have z33 := T.z33; have aE := T.aE; have zE := T.zE
  clear T
  have S0 : Aside (SWK enc k w0 blk off d w) := S
  clear S
  go_enter FG, Tryz.ntmps373
  go_wp2
  go_loopg [10] n (fun kx s wr => ∃ i : Nat, s = .int .i64 i ∧ i ≤ n ∧ n - i ≤ kx ∧ Aside (SWK enc k w0 blk off (swapN d a b i) wr))
  case atStart => exact ⟨0, rfl, Nat.zero_le _, by omega, S0⟩
  case round =>
    clear S0
    obtain ⟨i, rfl, hi, hkx, S1⟩ := hrel
    by_cases hlt : i < n
    · have hlt' : (i : Int) < (n : Int) := by omega
      go_wp2_with fail
      obtain ⟨D, hD⟩ : ∃ D, swapN d a b i = D := ⟨_, rfl⟩
      have hDs : D.size = d.size := by rw [← hD, swapN_size]
      obtain ⟨x, hx⟩ : ∃ x, a + i = x := ⟨_, rfl⟩
      obtain ⟨y, hy⟩ : ∃ y, b + i = y := ⟨_, rfl⟩
      have hnx : swapN d a b (i + 1) = swp D x y := by rw [swapN, hD, hx, hy]
      rw [hD] at S1
      have hxD : x < D.size := by omega
      have hyD : y < D.size := by omega
      have hxi : (a : Int) + (i : Int) = (x : Int) := by omega
      have hyi : (b : Int) + (i : Int) = (y : Int) := by omega
      have ea44 : ((x : Int)).toNat = x := by omega
      have pa44 : (0 : Int) ≤ (x : Int) := by omega
      have ba44 : (x : Int) < (d.size : Int) := by omega
      have ra44 : IntKind.i64.wrap ((x : Int)) = (x : Int) := by rw [IntKind.wrap_i64]; omega
      have ec44 : ((y : Int)).toNat = y := by omega
      have pc44 : (0 : Int) ≤ (y : Int) := by omega
      have bc44 : (y : Int) < (d.size : Int) := by omega
      have rc44 : IntKind.i64.wrap ((y : Int)) = (y : Int) := by rw [IntKind.wrap_i64]; omega
      have S2 : Aside (SWK enc k w0 blk off (swp D x y) ((wr.drew.setCells blk (off + x * k) (enc D[y]!)).setCells blk (off + y * k) (enc D[x]!))) := S1.out.swapped R x y hxD hyD
      have l44a := S1.out.ld1 R (by omega) P x hxD
      have l44b := S1.out.ld1 R (by omega) P y hyD
      have s44a := S1.out.st1 R (by omega) P x hxD D[y]!
      have s44b := S1.out.st2 R (by omega) P x y hxD hyD D[y]! D[x]!
      have n44a : (enc D[x]!).length = k := R.hk _
      have n44b : (enc D[y]!).length = k := R.hk _
      generalize enc D[x]! = cI44 at S2 l44a s44b n44a
      generalize enc D[y]! = cJ44 at S2 l44b s44a s44b n44b
      have HNX : Aside (swapN d a b (i + 1) = swp D x y) := hnx
      clear S1 hD hDs hx hy hnx hxD hyD
      go_big_region_o
      clear l44a l44b s44a s44b
      generalize (wr.drew.setCells blk (off + x * k) cJ44).setCells blk (off + y * k) cI44 = w2 at S2 ⊢
      go_wp2
      go_roundg (n - (i + 1))
      case measure => omega
      case rel => exact ⟨i + 1, by simp, by omega, Nat.le_refl _, by rw [HNX.out]; exact S2⟩
    · have hlt' : ¬ (i : Int) < (n : Int) := by omega
      obtain rfl : i = n := by omega
      go_wp2
      go_end0
      exact ⟨rfl, S1.out⟩
end Go.Proofs.YtpfjlhpahmhkhaaGreat.Wk
/- slices.rotateCmpFunc at structs, over any program that bears its body: the rows are those that were there. -/
namespace Go.Proofs.YtpfjlhpahmhkhaaGreat.Wk
open Go.Shelf Go.RowKit Go.Lib Go.Sort

/-- The same number of rows, each of them one that was there. -/
def Moved {α : Type} [Inhabited α] (d d' : Array α) : Prop := d'.size = d.size ∧ ∀ i, i < d.size → ∃ j, j < d.size ∧ d'[i]! = d[j]!
section
variable {α : Type} [Inhabited α]
theorem Moved.refl (d : Array α) : Moved d d := ⟨rfl, fun i hi => ⟨i, hi, rfl⟩⟩
theorem Moved.trans {d d' d2 : Array α} (h : Moved d d') (h2 : Moved d' d2) : Moved d d2 := by
  refine ⟨h2.1.trans h.1, fun i hi => ?_⟩
  obtain ⟨j, hj, e⟩ := h2.2 i (by rw [h.1]; exact hi)
  obtain ⟨q, hq, e2⟩ := h.2 j (by rw [← h.1]; exact hj)
  exact ⟨q, hq, e.trans e2⟩
theorem Moved.swp (d : Array α) {i j : Nat} (hi : i < d.size) (hj : j < d.size) : Moved d (Go.Sort.swp d i j) := by
  refine ⟨size_swp d i j, fun k hk => ?_⟩
  by_cases h1 : k = i
  · subst h1
    by_cases h2 : k = j
    · subst h2
      exact ⟨k, hk, swp_right d k k hj⟩
    · exact ⟨j, hj, swp_left d k j hk h2⟩
  · by_cases h2 : k = j
    · subst h2
      exact ⟨i, hi, swp_right d i k hk⟩
    · exact ⟨k, hk, swp_other d i j k h1 h2⟩
theorem Moved.swapN (d : Array α) (a b n : Nat) (ha : a + n ≤ d.size) (hb : b + n ≤ d.size) : Moved d (Wk.swapN d a b n) := by
  induction n with
  | zero => exact Moved.refl d
  | succ n ih =>
    have h := ih (by omega) (by omega)
    exact h.trans (Moved.swp _ (by rw [h.1]; omega) (by rw [h.1]; omega))
end
/-- What a step of the sort leaves: a world of the sort's, its rows moved. -/
def StepPost {α : Type} [Inhabited α] (enc : α → List Value) (k : Nat) (w0 : World) (blk off : Nat) (d : Array α) (e : Ending) (w' : World) : Prop := e = .returned (.tuple #[]) ∧ ∃ d', Moved d d' ∧ SWK enc k w0 blk off d' w'
section
variable {P : Program} {α : Type} [Inhabited α] {k : Nat}
end
end Go.Proofs.YtpfjlhpahmhkhaaGreat.Wk
/- fsim.Plan's comparison of events by their call: what the sort asks of it. -/
namespace Go.Proofs.YtpfjlhpahmhkhaaGreat.Wk
open Go.Shelf Go.RowKit Go.Lib Go.Sort

def cmpI (x y : Int) : Int := if x < y then -1 else if y < x then 1 else 0
set_option maxRecDepth 100000 in
set_option maxHeartbeats 400000 in
theorem isNaN_any (x : Int) (w : World) : Calls Tryz.prog 239 #[.int .i64 x] w fun e w' => e = .returned (.bool false) ∧ w' = w := by
  go_enter Tryz.func239, Tryz.ntmps239
  go_wp2_with fail
  go_ret
  exact ⟨by simp, rfl⟩
set_option maxRecDepth 100000 in
set_option maxHeartbeats 800000 in
theorem compare_any (x y : Int) (w : World) : Calls Tryz.prog 176 #[.int .i64 x, .int .i64 y] w fun e w' => e = .returned (.int .i64 (cmpI x y)) ∧ w' = w := by
  go_enter Tryz.func176, Tryz.ntmps176
  go_wp2_with fail
  refine (isNaN_any x _).mono ?_
  rintro e w1 ⟨rfl, rfl⟩
  go_wp2_with fail
  refine (isNaN_any y _).mono ?_
  rintro e w1 ⟨rfl, rfl⟩
  by_cases h1 : x < y
  · have HC : Hid (cmpI x y = -1) := by unfold Hid cmpI; rw [if_pos h1]
    go_wp2_with fail
    go_ret
    exact ⟨by rw [HC.out]; rfl, rfl⟩
  · by_cases h2 : y < x
    · have HC : Hid (cmpI x y = 1) := by unfold Hid cmpI; rw [if_neg h1, if_pos h2]
      go_wp2_with fail
      go_ret
      exact ⟨by rw [HC.out]; rfl, rfl⟩
    · have HC : Hid (cmpI x y = 0) := by unfold Hid cmpI; rw [if_neg h1, if_neg h2]
      go_wp2_with fail
      go_ret
      exact ⟨by rw [HC.out]; rfl, rfl⟩
set_option maxRecDepth 100000 in
set_option maxHeartbeats 800000 in
theorem plan2_any (x y : Int) (a1 a2 a3 a4 a5 a6 b1 b2 b3 b4 b5 b6 : Value) (w : World) : Calls Tryz.prog 175 #[.agg #[.int .i64 x, a1, a2, a3, a4, a5, a6], .agg #[.int .i64 y, b1, b2, b3, b4, b5, b6]] w fun e w' => e = .returned (.int .i64 (cmpI x y)) ∧ ∃ q os, w' = grow (w.drewN q) os := by
  go_enter Tryz.func175, Tryz.ntmps175
  go_wp2_with fail
  refine (compare_any x y _).mono ?_
  rintro e w1 ⟨rfl, h1⟩
  subst h1
  go_wp2_with fail
  go_ret
  refine ⟨rfl, 0, #[.cells #[.int .i64 x, a1, a2, a3, a4, a5, a6] 143, .cells #[.int .i64 y, b1, b2, b3, b4, b5, b6] 143], ?_⟩
  rw [alloc_eq_grow, alloc_eq_grow, grow_grow]
  rfl
end Go.Proofs.YtpfjlhpahmhkhaaGreat.Wk
