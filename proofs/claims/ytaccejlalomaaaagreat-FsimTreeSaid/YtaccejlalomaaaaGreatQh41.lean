/- Texts put together: Gw0, Gw1, Gw2. -/
import Derived.Test.YtaccejlalomaaaaGreatProg
import Derived.WalkKit
import Derived.Shelf.SlSortCmp.KitK
/- slices.swapRangeCmpFunc at structs, over any program that bears its body: it exchanges two runs of a row. -/
namespace Go.Proofs.YtaccejlalomaaaaGreat.Wk
open Go.Shelf Go.RowKit Go.Lib Go.Sort

/-- n exchanges: a + i with b + i. -/
def swapN {α : Type} [Inhabited α] (d : Array α) (a b : Nat) : Nat → Array α
  | 0 => d
  | n + 1 => swp (swapN d a b n) (a + n) (b + n)
theorem swapN_size {α : Type} [Inhabited α] (d : Array α) (a b n : Nat) : (swapN d a b n).size = d.size := by
  induction n with
  | zero => rfl
  | succ n ih => rw [swapN, size_swp, ih]
/-- What a program says of the types that the sort's bodies name. -/
structure TypesAs (P : Program) (k : Nat) : Prop where
  mixed : P.follows .mixedOrders = true
  t3 : P.underlying 3 = some (TypeDesc.int IntKind.i64)
  a3 : ∀ w, (isAgg 3).run P w = .ok false w
  z3 : ∀ w, (Go.sizeOf 3).run P w = .ok 1 w
  t4 : P.underlying 4 = some TypeDesc.bool
  a4 : ∀ w, (isAgg 4).run P w = .ok false w
  z4 : ∀ w, (Go.sizeOf 4).run P w = .ok 1 w
  t33 : P.underlying 33 = some (TypeDesc.slice 64)
  a33 : ∀ w, (isAgg 33).run P w = .ok false w
  z33 : ∀ w, (Go.sizeOf 33).run P w = .ok 1 w
  tU : P.underlying 192 = some (TypeDesc.int IntKind.u64)
  aU : ∀ w, (isAgg 192).run P w = .ok false w
  zU : ∀ w, (Go.sizeOf 192).run P w = .ok 1 w
  aE : ∀ w, (isAgg 64).run P w = .ok true w
  zE : ∀ w, (Go.sizeOf 64).run P w = .ok k w
set_option maxHeartbeats 4000000 in
set_option maxRecDepth 1000000 in
theorem swapRange_o {P : Program} {α : Type} [Inhabited α] {k : Nat} (T : TypesAs P k) (FG : P.funcs[200]? = some Tryz.f200) (enc : α → List Value) (fv : Value) (blk off cap a b n : Nat) (d0 d : Array α) (w0 w : World)
    (R : RowK enc k w0 blk off d0) (hs : d.size = d0.size) (S : SWK enc k w0 blk off d w) (ha : a + n ≤ d.size) (hb : b + n ≤ d.size) (hsz : d.size < 4611686018427387904) :
    Calls P 200 #[.slice (some ⟨blk, off, none⟩) d.size cap, .int .i64 a, .int .i64 b, .int .i64 n, fv] w fun e w' => e = .returned (.tuple #[]) ∧ SWK enc k w0 blk off (swapN d a b n) w' := by
  have mixed := T.mixed; have t3 := T.t3; have a3 := T.a3; have z3 := T.z3; have t4 := T.t4; have a4 := T.a4; have z4 := T.z4; have t33 := T.t33; have a33 := T.a33; have z33 := T.z33; have aE := T.aE; have zE := T.zE
  clear T
  have S0 : Aside (SWK enc k w0 blk off d w) := S
  clear S
  go_enter FG, Tryz.ntmps200
  go_wp2
  go_loopg [10] n (fun kx s wr => ∃ i : Nat, s = .int .i64 i ∧ i ≤ n ∧ n - i ≤ kx ∧ Aside (SWK enc k w0 blk off (swapN d a b i) wr))
  case atStart => exact ⟨0, rfl, Nat.zero_le _, by omega, S0⟩
  case round =>
    clear S0
    obtain ⟨i, rfl, hi, hkx, S1⟩ := hrel
    by_cases hlt : i < n
    · have hlt' : (i : Int) < (n : Int) := by omega
      go_wp2_with fail
      obtain ⟨D, hD⟩ : ∃ D, swapN d a b i = D := ⟨_, rfl⟩
      have hDs : D.size = d.size := by rw [← hD, swapN_size]
      obtain ⟨x, hx⟩ : ∃ x, a + i = x := ⟨_, rfl⟩
      obtain ⟨y, hy⟩ : ∃ y, b + i = y := ⟨_, rfl⟩
      have hnx : swapN d a b (i + 1) = swp D x y := by rw [swapN, hD, hx, hy]
      rw [hD] at S1
      have hxD : x < D.size := by omega
      have hyD : y < D.size := by omega
      have hxi : (a : Int) + (i : Int) = (x : Int) := by omega
      have hyi : (b : Int) + (i : Int) = (y : Int) := by omega
      have ea44 : ((x : Int)).toNat = x := by omega
      have pa44 : (0 : Int) ≤ (x : Int) := by omega
      have ba44 : (x : Int) < (d.size : Int) := by omega
      have ra44 : IntKind.i64.wrap ((x : Int)) = (x : Int) := by rw [IntKind.wrap_i64]; omega
      have ec44 : ((y : Int)).toNat = y := by omega
      have pc44 : (0 : Int) ≤ (y : Int) := by omega
      have bc44 : (y : Int) < (d.size : Int) := by omega
      have rc44 : IntKind.i64.wrap ((y : Int)) = (y : Int) := by rw [IntKind.wrap_i64]; omega
      have S2 : Aside (SWK enc k w0 blk off (swp D x y) ((wr.drew.setCells blk (off + x * k) (enc D[y]!)).setCells blk (off + y * k) (enc D[x]!))) := S1.out.swapped R x y hxD hyD
      have l44a := S1.out.ld1 R (by omega) P x hxD
      have l44b := S1.out.ld1 R (by omega) P y hyD
      have s44a := S1.out.st1 R (by omega) P x hxD D[y]!
      have s44b := S1.out.st2 R (by omega) P x y hxD hyD D[y]! D[x]!
      have n44a : (enc D[x]!).length = k := R.hk _
      have n44b : (enc D[y]!).length = k := R.hk _
      generalize enc D[x]! = cI44 at S2 l44a s44b n44a
      generalize enc D[y]! = cJ44 at S2 l44b s44a s44b n44b
      have HNX : Aside (swapN d a b (i + 1) = swp D x y) := hnx
      clear S1 hD hDs hx hy hnx hxD hyD
      go_big_region_o
      clear l44a l44b s44a s44b
      generalize (wr.drew.setCells blk (off + x * k) cJ44).setCells blk (off + y * k) cI44 = w2 at S2 ⊢
      go_wp2
      go_roundg (n - (i + 1))
      case measure => omega
      case rel => exact ⟨i + 1, by simp, by omega, Nat.le_refl _, by rw [HNX.out]; exact S2⟩
    · have hlt' : ¬ (i : Int) < (n : Int) := by omega
      obtain rfl : i = n := by omega
      go_wp2
      go_end0
      exact ⟨rfl, S1.out⟩
end Go.Proofs.YtaccejlalomaaaaGreat.Wk
/- slices.rotateCmpFunc at structs, over any program that bears its body: the rows are those that were there. -/
namespace Go.Proofs.YtaccejlalomaaaaGreat.Wk
open Go.Shelf Go.RowKit Go.Lib Go.Sort

/-- The same number of rows, each of them one that was there. -/
def Moved {α : Type} [Inhabited α] (d d' : Array α) : Prop := d'.size = d.size ∧ ∀ i, i < d.size → ∃ j, j < d.size ∧ d'[i]! = d[j]!
section
variable {α : Type} [Inhabited α]
theorem Moved.refl (d : Array α) : Moved d d := ⟨rfl, fun i hi => ⟨i, hi, rfl⟩⟩
theorem Moved.trans {d d' d2 : Array α} (h : Moved d d') (h2 : Moved d' d2) : Moved d d2 := by
  refine ⟨h2.1.trans h.1, fun i hi => ?_⟩
  obtain ⟨j, hj, e⟩ := h2.2 i (by rw [h.1]; exact hi)
  obtain ⟨q, hq, e2⟩ := h.2 j (by rw [← h.1]; exact hj)
  exact ⟨q, hq, e.trans e2⟩
theorem Moved.swp (d : Array α) {i j : Nat} (hi : i < d.size) (hj : j < d.size) : Moved d (Go.Sort.swp d i j) := by
  refine ⟨size_swp d i j, fun k hk => ?_⟩
  by_cases h1 : k = i
  · subst h1
    by_cases h2 : k = j
    · subst h2
      exact ⟨k, hk, swp_right d k k hj⟩
    · exact ⟨j, hj, swp_left d k j hk h2⟩
  · by_cases h2 : k = j
    · subst h2
      exact ⟨i, hi, swp_right d i k hk⟩
    · exact ⟨k, hk, swp_other d i j k h1 h2⟩
theorem Moved.swapN (d : Array α) (a b n : Nat) (ha : a + n ≤ d.size) (hb : b + n ≤ d.size) : Moved d (Wk.swapN d a b n) := by
  induction n with
  | zero => exact Moved.refl d
  | succ n ih =>
    have h := ih (by omega) (by omega)
    exact h.trans (Moved.swp _ (by rw [h.1]; omega) (by rw [h.1]; omega))
end
/-- What a step of the sort leaves: a world of the sort's, its rows moved. -/
def StepPost {α : Type} [Inhabited α] (enc : α → List Value) (k : Nat) (w0 : World) (blk off : Nat) (d : Array α) (e : Ending) (w' : World) : Prop := e = .returned (.tuple #[]) ∧ ∃ d', Moved d d' ∧ SWK enc k w0 blk off d' w'
section
variable {P : Program} {α : Type} [Inhabited α] {k : Nat}
theorem swapRange_w (T : TypesAs P k) (FG : P.funcs[200]? = some Tryz.f200) (enc : α → List Value) (fv : Value) (blk off N cap a b n : Nat) (d0 d : Array α) (w0 w : World)
    (R : RowK enc k w0 blk off d0) (hs : d.size = d0.size) (S : SWK enc k w0 blk off d w) (hN : d.size = N) (ha : a + n ≤ N) (hb : b + n ≤ N) (hsz : N < 4611686018427387904) :
    Calls P 200 #[.slice (some ⟨blk, off, none⟩) N cap, .int .i64 a, .int .i64 b, .int .i64 n, fv] w (StepPost enc k w0 blk off d) := by
  subst hN
  exact (swapRange_o T FG enc fv blk off cap a b n d0 d w0 w R hs S ha hb hsz).mono fun e w' ⟨he, h⟩ => ⟨he, _, Moved.swapN d a b n ha hb, h⟩
set_option maxHeartbeats 4000000 in
set_option maxRecDepth 1000000 in
theorem rotate_w (T : TypesAs P k) (FS : P.funcs[200]? = some Tryz.f200) (FG : P.funcs[183]? = some Tryz.f183) (enc : α → List Value) (fv : Value) (blk off N cap a m b : Nat) (d0 d : Array α) (w0 w : World)
    (R : RowK enc k w0 blk off d0) (hs : d.size = d0.size) (S : SWK enc k w0 blk off d w) (hN : d.size = N) (ham : a < m) (hmb : m < b) (hb : b ≤ N) (hsz : N < 4611686018427387904) :
    Calls P 183 #[.slice (some ⟨blk, off, none⟩) N cap, .int .i64 a, .int .i64 m, .int .i64 b, fv] w (StepPost enc k w0 blk off d) := by
  have T0 : Aside (TypesAs P k) := T
  have mixed := T.mixed; have t3 := T.t3; have a3 := T.a3; have z3 := T.z3; have t4 := T.t4; have a4 := T.a4; have z4 := T.z4; have t33 := T.t33; have a33 := T.a33; have z33 := T.z33; have aE := T.aE; have zE := T.zE
  clear T
  have FS0 : Aside (P.funcs[200]? = some Tryz.f200) := FS
  have eS : ∀ args w, (callFunc 200 args).run P w = .ok (.enter 200 args) w := enters_of FS (by kernel_rfl) rfl
  have S0 : Aside (SWK enc k w0 blk off d w) := S
  have R0 : Aside (RowK enc k w0 blk off d0) := R
  have hN0 : Aside (d.size = N) := hN
  have hs0 : Aside (d.size = d0.size) := hs
  clear S FS R hN hs
  obtain ⟨i0, hi0⟩ : ∃ i, m - a = i := ⟨_, rfl⟩
  obtain ⟨j0, hj0⟩ : ∃ j, b - m = j := ⟨_, rfl⟩
  have hi1 : (m : Int) - (a : Int) = (i0 : Int) := by omega
  have hj1 : (b : Int) - (m : Int) = (j0 : Int) := by omega
  have wi1 : IntKind.i64.wrap (i0 : Int) = (i0 : Int) := by rw [IntKind.wrap_i64]; omega
  have wj1 : IntKind.i64.wrap (j0 : Int) = (j0 : Int) := by rw [IntKind.wrap_i64]; omega
  go_enter FG, Tryz.ntmps183
  go_wp2
  go_loopg [10, 11] (i0 + j0) (fun kx s t wr => ∃ (i j : Nat) (D : Array α), s = .int .i64 i ∧ t = .int .i64 j ∧ 0 < i ∧ 0 < j ∧ i ≤ m ∧ m + j ≤ N ∧ i + j ≤ kx ∧ Aside (Moved d D ∧ SWK enc k w0 blk off D wr))
  case atStart => exact ⟨i0, j0, d, rfl, rfl, by omega, by omega, by omega, by omega, by omega, Moved.refl d, S0.out⟩
  case round =>
    clear S0
    obtain ⟨i, j, D, rfl, rfl, hip, hjp, him, hjn, hkx, S1⟩ := hrel
    have hDs : D.size = N := S1.out.1.1.trans hN0.out
    obtain ⟨x, hx⟩ : ∃ x, m - i = x := ⟨_, rfl⟩
    have hxi : (m : Int) - (i : Int) = (x : Int) := by omega
    have wx : IntKind.i64.wrap (x : Int) = (x : Int) := by rw [IntKind.wrap_i64]; omega
    by_cases heq : i = j
    · subst heq
      go_wp2_with fail
      refine (swapRange_w T0.out FS0.out enc fv blk off N cap x m i d0 D w0 wr R0.out (by rw [S1.out.1.1]; exact hs0.out) S1.out.2 hDs (by omega) (by omega) hsz).mono ?_
      rintro e w1 ⟨rfl, D1, hm1, hS1⟩
      go_wp2
      go_end0
      exact ⟨rfl, D1, S1.out.1.trans hm1, hS1⟩
    · have e1 : ((i : Int) == (j : Int)) = false := beq_eq_false_iff_ne.2 (by omega)
      have e2 : ((i : Int) != (j : Int)) = true := bne_iff_ne.2 (by omega)
      by_cases hgt : j < i
      · have g1 : (j : Int) < (i : Int) := by omega
        obtain ⟨y, hy⟩ : ∃ y, i - j = y := ⟨_, rfl⟩
        have hyi : (i : Int) - (j : Int) = (y : Int) := by omega
        have wy : IntKind.i64.wrap (y : Int) = (y : Int) := by rw [IntKind.wrap_i64]; omega
        go_wp2_with fail
        refine (swapRange_w T0.out FS0.out enc fv blk off N cap x m j d0 D w0 wr R0.out (by rw [S1.out.1.1]; exact hs0.out) S1.out.2 hDs (by omega) (by omega) hsz).mono ?_
        rintro e w1 ⟨rfl, D1, hm1, hS1⟩
        have S2 : Aside (Moved d D1 ∧ SWK enc k w0 blk off D1 w1) := ⟨S1.out.1.trans hm1, hS1⟩
        clear hm1 hS1
        go_wp2
        go_roundg (y + j)
        case measure => omega
        case rel => exact ⟨y, j, D1, by simp, by simp, by omega, hjp, by omega, hjn, Nat.le_refl _, S2⟩
      · have g1 : ¬ (j : Int) < (i : Int) := by omega
        obtain ⟨y, hy⟩ : ∃ y, j - i = y := ⟨_, rfl⟩
        have hyi : (j : Int) - (i : Int) = (y : Int) := by omega
        have wy : IntKind.i64.wrap (y : Int) = (y : Int) := by rw [IntKind.wrap_i64]; omega
        obtain ⟨u, hu⟩ : ∃ u, m + j = u := ⟨_, rfl⟩
        have hui : (m : Int) + (j : Int) = (u : Int) := by omega
        have wu : IntKind.i64.wrap (u : Int) = (u : Int) := by rw [IntKind.wrap_i64]; omega
        obtain ⟨v, hv⟩ : ∃ v, u - i = v := ⟨_, rfl⟩
        have hvi : (u : Int) - (i : Int) = (v : Int) := by omega
        have wv : IntKind.i64.wrap (v : Int) = (v : Int) := by rw [IntKind.wrap_i64]; omega
        go_wp2_with fail
        refine (swapRange_w T0.out FS0.out enc fv blk off N cap x v i d0 D w0 wr R0.out (by rw [S1.out.1.1]; exact hs0.out) S1.out.2 hDs (by omega) (by omega) hsz).mono ?_
        rintro e w1 ⟨rfl, D1, hm1, hS1⟩
        have S2 : Aside (Moved d D1 ∧ SWK enc k w0 blk off D1 w1) := ⟨S1.out.1.trans hm1, hS1⟩
        clear hm1 hS1
        go_wp2
        go_roundg (i + y)
        case measure => omega
        case rel => exact ⟨i, y, D1, by simp, by simp, hip, by omega, him, by omega, Nat.le_refl _, S2⟩
end
end Go.Proofs.YtaccejlalomaaaaGreat.Wk
/- fsim.Plan's comparison of events by their call: what the sort asks of it. -/
namespace Go.Proofs.YtaccejlalomaaaaGreat.Wk
open Go.Shelf Go.RowKit Go.Lib Go.Sort

def cmpI (x y : Int) : Int := if x < y then -1 else if y < x then 1 else 0
set_option maxRecDepth 100000 in
set_option maxHeartbeats 400000 in
theorem isNaN_any (x : Int) (w : World) : Calls Tryz.prog 151 #[.int .i64 x] w fun e w' => e = .returned (.bool false) ∧ w' = w := by
  go_enter Tryz.func151, Tryz.ntmps151
  go_wp2_with fail
  go_ret
  exact ⟨by simp, rfl⟩
set_option maxRecDepth 100000 in
set_option maxHeartbeats 800000 in
theorem compare_any (x y : Int) (w : World) : Calls Tryz.prog 110 #[.int .i64 x, .int .i64 y] w fun e w' => e = .returned (.int .i64 (cmpI x y)) ∧ w' = w := by
  go_enter Tryz.func110, Tryz.ntmps110
  go_wp2_with fail
  refine (isNaN_any x _).mono ?_
  rintro e w1 ⟨rfl, rfl⟩
  go_wp2_with fail
  refine (isNaN_any y _).mono ?_
  rintro e w1 ⟨rfl, rfl⟩
  by_cases h1 : x < y
  · have HC : Hid (cmpI x y = -1) := by unfold Hid cmpI; rw [if_pos h1]
    go_wp2_with fail
    go_ret
    exact ⟨by rw [HC.out]; rfl, rfl⟩
  · by_cases h2 : y < x
    · have HC : Hid (cmpI x y = 1) := by unfold Hid cmpI; rw [if_neg h1, if_pos h2]
      go_wp2_with fail
      go_ret
      exact ⟨by rw [HC.out]; rfl, rfl⟩
    · have HC : Hid (cmpI x y = 0) := by unfold Hid cmpI; rw [if_neg h1, if_neg h2]
      go_wp2_with fail
      go_ret
      exact ⟨by rw [HC.out]; rfl, rfl⟩
set_option maxRecDepth 100000 in
set_option maxHeartbeats 800000 in
theorem plan2_any (x y : Int) (a1 a2 a3 a4 a5 a6 b1 b2 b3 b4 b5 b6 : Value) (w : World) : Calls Tryz.prog 109 #[.agg #[.int .i64 x, a1, a2, a3, a4, a5, a6], .agg #[.int .i64 y, b1, b2, b3, b4, b5, b6]] w fun e w' => e = .returned (.int .i64 (cmpI x y)) ∧ ∃ q os, w' = grow (w.drewN q) os := by
  go_enter Tryz.func109, Tryz.ntmps109
  go_wp2_with fail
  refine (compare_any x y _).mono ?_
  rintro e w1 ⟨rfl, h1⟩
  subst h1
  go_wp2_with fail
  go_ret
  refine ⟨rfl, 0, #[.cells #[.int .i64 x, a1, a2, a3, a4, a5, a6] 64, .cells #[.int .i64 y, b1, b2, b3, b4, b5, b6] 64], ?_⟩
  rw [alloc_eq_grow, alloc_eq_grow, grow_grow]
  rfl
end Go.Proofs.YtaccejlalomaaaaGreat.Wk
