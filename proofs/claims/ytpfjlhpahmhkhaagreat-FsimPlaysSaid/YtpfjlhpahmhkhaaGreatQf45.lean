/- Texts put together: WGx6, WGx4. -/
import Derived.Test.YtpfjlhpahmhkhaaGreatQf44
/- symMerge, stable, as plain data: the search for the cut, what is exchanged, the halves. (No Go in it.) -/
set_option linter.unusedVariables false
set_option linter.unusedSimpArgs false
namespace Go.Proofs.YtpfjlhpahmhkhaaGreat.Wk
open Go.Shelf Go.RowKit Go.Lib Go.Sort

section
variable {β : Type} [Inhabited β] {tag : β → Nat} {key : β → Int} {dt d D E : Array β} {a m b i j p lo hi st mi en : Nat}
/-- The search. -/
structure LookC (key : β → Int) (d D : Array β) (p lo hi i j : Nat) : Prop where
  same : D = d
  lo : ∀ t, lo ≤ t → t < i → ¬ key d[p - t]! < key d[t]!
  hi : ∀ t, j ≤ t → t < hi → key d[p - t]! < key d[t]!
/-- Where it may look. -/
structure Span (a m b p lo hi : Nat) : Prop where
  alo : a ≤ lo
  him : hi ≤ m
  up : ∀ t, t < hi → m ≤ p - t
  dn : ∀ t, lo ≤ t → p - t < b
  mono : ∀ t u, t ≤ u → u < hi → p - u ≤ p - t
theorem LookC.start (key : β → Int) (d : Array β) (p lo hi : Nat) : LookC key d d p lo hi lo hi := ⟨rfl, fun t h1 h2 => by omega, fun t h1 h2 => by omega⟩
theorem LookC.up (h : LookC key d D p lo hi i j) (hp : PreM tag key dt d a m b) (hs : Span a m b p lo hi) {x : Nat} (h1 : lo ≤ x) (h2 : x < hi) (hk : ¬ key D[p - x]! < key D[x]!) : LookC key d D p lo hi (x + 1) j := by
  have e := h.same
  subst e
  refine ⟨rfl, fun t t1 t2 => ?_, h.hi⟩
  have g1 := hp.one.key_le (show a ≤ t from Nat.le_trans hs.alo t1) (show t ≤ x by omega) (show x < m from Nat.lt_of_lt_of_le h2 hs.him)
  have g2 := hp.two.key_le (hs.up x h2) (hs.mono t x (by omega) h2) (hs.dn t t1)
  omega
theorem LookC.down (h : LookC key d D p lo hi i j) (hp : PreM tag key dt d a m b) (hs : Span a m b p lo hi) {x : Nat} (h1 : lo ≤ x) (hk : key D[p - x]! < key D[x]!) : LookC key d D p lo hi i x := by
  have e := h.same
  subst e
  refine ⟨rfl, h.lo, fun t t1 t2 => ?_⟩
  have g1 := hp.one.key_le (show a ≤ x from Nat.le_trans hs.alo h1) t1 (show t < m from Nat.lt_of_lt_of_le t2 hs.him)
  have g2 := hp.two.key_le (hs.up t t2) (hs.mono x t t1 t2) (hs.dn x h1)
  omega
/-- The cut that it finds. -/
structure Cut (tag : β → Nat) (key : β → Int) (d : Array β) (a m b st mi en : Nat) : Prop where
  le : a ≤ st ∧ st ≤ m ∧ m ≤ en ∧ en ≤ b ∧ mi + m = st + en
  far : ∀ t u, a ≤ t → t < st → en ≤ u → u < b → tlt tag key d[t]! d[u]!
  near : ∀ t u, st ≤ t → t < m → m ≤ u → u < en → tlt tag key d[u]! d[t]!
theorem LookC.cut (h : LookC key d D p lo hi st st) (hp : PreM tag key dt d a m b) (hs : Span a m b p lo hi) (hlo : lo ≤ st) (hhi : st ≤ hi) (hen : st + en = p + 1) (hle : a ≤ st ∧ st ≤ m ∧ m ≤ en ∧ en ≤ b ∧ mi + m = st + en) (h1 : lo = a ∨ lo = st → lo = a ∨ en = b) (h2 : hi = st → st = m ∨ en = m) : Cut tag key d a m b st mi en := by
  refine ⟨hle, fun t u t1 t2 u1 u2 => ?_, fun t u t1 t2 u1 u2 => ?_⟩
  · have hlt : lo < st := by
      by_cases e : lo = st
      · rcases h1 (.inr e) with h3 | h3 <;> omega
      · omega
    have g1 := hp.one.key_le t1 (show t ≤ st - 1 by omega) (show st - 1 < m by omega)
    have g2 := hp.two.key_le (show m ≤ en by omega) u1 u2
    have g3 := h.lo (st - 1) (by omega) (by omega)
    rw [show p - (st - 1) = en by omega] at g3
    exact hp.join t1 (by omega) (by omega) u2 (by omega)
  · have hlt : st < hi := by
      by_cases e : hi = st
      · rcases h2 e with h3 | h3 <;> omega
      · omega
    have g1 := hp.one.key_le (show a ≤ st by omega) t1 t2
    have g2 := hp.two.key_le u1 (show u ≤ en - 1 by omega) (show en - 1 < b by omega)
    have g3 := h.hi st (Nat.le_refl _) hlt
    rw [show p - st = en - 1 by omega] at g3
    exact .inl (by omega)
theorem Rot.same {x m y : Nat} (d : Array β) (h : x = m ∨ m = y) (h1 : x ≤ m) (h2 : m ≤ y) : Rot x m y d d := by
  refine ⟨rfl, fun _ _ => rfl, fun t t1 t2 => ?_, fun t t1 t2 => ?_⟩
  · congr 1; omega
  · congr 1; omega
/-- What is exchanged: two halves, each to be merged. -/
structure Half (tag : β → Nat) (key : β → Int) (dt d E : Array β) (a b st mi en : Nat) : Prop where
  win : Within a b d E
  one : PreM tag key dt E a st mi
  two : PreM tag key dt E mi en b
  far : ∀ t u, a ≤ t → t < mi → mi ≤ u → u < b → tlt tag key E[t]! E[u]!
theorem Cut.half (h : Cut tag key d a m b st mi en) (hp : PreM tag key dt d a m b) (ht : TagOk tag dt E) (hr : Rot st m en d E) : Half tag key dt d E a b st mi en := by
  obtain ⟨l1, l2, l3, l4, l5⟩ := h.le
  have e1 : ∀ t, t < st → E[t]! = d[t]! := fun t h => hr.out t (.inl h)
  have e2 : ∀ t, st ≤ t → t < mi → E[t]! = d[t + (m - st)]! := fun t h1 h2 => hr.lo t h1 (by omega)
  have e3 : ∀ t, mi ≤ t → t < en → E[t]! = d[t - (en - m)]! := fun t h1 h2 => hr.hi t (by omega) h2
  have e4 : ∀ t, en ≤ t → E[t]! = d[t]! := fun t h => hr.out t (.inr h)
  refine ⟨⟨hr.size, fun t ht => ?_, fun t h1 h2 => ?_⟩, ⟨ht, fun x y h1 h2 h3 => ?_, fun x y h1 h2 h3 => ?_, fun x y h1 h2 h3 h4 => ?_⟩, ⟨ht, fun x y h1 h2 h3 => ?_, fun x y h1 h2 h3 => ?_, fun x y h1 h2 h3 h4 => ?_⟩, fun x y h1 h2 h3 h4 => ?_⟩
  · exact hr.out t (by omega)
  · by_cases c1 : t < st
    · exact ⟨t, h1, h2, e1 t c1⟩
    · by_cases c2 : t < mi
      · exact ⟨_, by omega, by omega, e2 t (by omega) c2⟩
      · by_cases c3 : t < en
        · exact ⟨_, by omega, by omega, e3 t (by omega) c3⟩
        · exact ⟨t, h1, h2, e4 t (by omega)⟩
  · rw [e1 x (by omega), e1 y h3]; exact hp.one _ _ h1 h2 (by omega)
  · rw [e2 x h1 (by omega), e2 y (by omega) h3]; exact hp.two _ _ (by omega) (by omega) (by omega)
  · rw [e1 x h2, e2 y h3 h4]; exact hp.less _ _ h1 (by omega) (by omega) (by omega)
  · rw [e3 x h1 (by omega), e3 y (by omega) h3]; exact hp.one _ _ (by omega) (by omega) (by omega)
  · rw [e4 x h1, e4 y (by omega)]; exact hp.two _ _ (by omega) h2 h3
  · rw [e3 x h1 h2, e4 y h3]; exact hp.less _ _ (by omega) (by omega) (by omega) h4
  · by_cases c1 : x < st
    · rw [e1 x c1]
      by_cases c2 : y < en
      · rw [e3 y h3 c2]; exact hp.one _ _ h1 (by omega) (by omega)
      · rw [e4 y (by omega)]; exact h.far _ _ h1 c1 (by omega) h4
    · rw [e2 x (by omega) h2]
      by_cases c2 : y < en
      · rw [e3 y h3 c2]; exact h.near _ _ (by omega) (by omega) (by omega) (by omega)
      · rw [e4 y (by omega)]; exact hp.two _ _ (by omega) (by omega) h4
/-- The first half is merged. -/
structure Half1 (tag : β → Nat) (key : β → Int) (dt d E : Array β) (a b mi en : Nat) : Prop where
  win : Within a b d E
  srt : SrtT tag key E a mi
  two : PreM tag key dt E mi en b
  far : ∀ t u, a ≤ t → t < mi → mi ≤ u → u < b → tlt tag key E[t]! E[u]!
theorem Half.merged (h : Half tag key dt d E a b st mi en) {E1 : Array β} (hp : PostM tag key dt E E1 a mi) (hle : a ≤ mi ∧ mi ≤ en ∧ en ≤ b) : Half1 tag key dt d E1 a b mi en := by
  have ho : ∀ t, mi ≤ t → E1[t]! = E[t]! := fun t ht => hp.win.out t (.inr ht)
  refine ⟨h.win.trans (hp.win.more (Nat.le_refl _) (by omega)), hp.srt, ⟨hp.tags, fun x y h1 h2 h3 => ?_, fun x y h1 h2 h3 => ?_, fun x y h1 h2 h3 h4 => ?_⟩, fun x y h1 h2 h3 h4 => ?_⟩
  · rw [ho x h1, ho y (by omega)]; exact h.two.one _ _ h1 h2 h3
  · rw [ho x (by omega), ho y (by omega)]; exact h.two.two _ _ h1 h2 h3
  · rw [ho x h1, ho y (by omega)]; exact h.two.less _ _ h1 h2 h3 h4
  · obtain ⟨z, z1, z2, z3⟩ := hp.win.ins x h1 h2
    rw [z3, ho y h3]
    exact h.far _ _ z1 z2 h3 h4
theorem Half.left (h : Half tag key dt d E a b st mi en) (hno : ¬ (a < st ∧ st < mi)) (h1 : a ≤ st) (h2 : st ≤ mi) : Half1 tag key dt d E a b mi en := by
  refine ⟨h.win, ?_, h.two, h.far⟩
  by_cases e : a = st
  · rw [e]; exact h.one.two
  · have : st = mi := by omega
    rw [← this]; exact h.one.one
theorem Half1.join (h : Half1 tag key dt d E a b mi en) {E2 : Array β} (hp : PostM tag key dt E E2 mi b) (hle : a ≤ mi) : PostM tag key dt d E2 a b := by
  have ho : ∀ t, t < mi → E2[t]! = E[t]! := fun t ht => hp.win.out t (.inl ht)
  refine ⟨hp.tags, h.win.trans (hp.win.more hle (Nat.le_refl _)), fun x y h1 h2 h3 => ?_⟩
  by_cases c1 : y < mi
  · rw [ho x (by omega), ho y c1]; exact h.srt _ _ h1 h2 c1
  · by_cases c2 : x < mi
    · obtain ⟨z, z1, z2, z3⟩ := hp.win.ins y (by omega) h3
      rw [ho x c2, z3]
      exact h.far _ _ h1 c2 z1 z2
    · exact hp.srt _ _ (by omega) h2 h3
theorem Half1.right (h : Half1 tag key dt d E a b mi en) (hno : ¬ (mi < en ∧ en < b)) (h1 : mi ≤ en) (h2 : en ≤ b) (hle : a ≤ mi) : PostM tag key dt d E a b := by
  have hs : SrtT tag key E mi b := by
    by_cases e : mi = en
    · rw [e]; exact h.two.two
    · have : en = b := by omega
      rw [← this]; exact h.two.one
  exact h.join ⟨h.two.tags, Within.refl _ _ _, hs⟩ hle
end
end Go.Proofs.YtpfjlhpahmhkhaaGreat.Wk
/- slices.rotateCmpFunc at structs, over any program that bears its body: exactly. -/
set_option linter.unusedVariables false
set_option linter.unusedSimpArgs false
namespace Go.Proofs.YtpfjlhpahmhkhaaGreat.Wk
open Go.Shelf Go.RowKit Go.Lib Go.Sort

section
variable {P : Program} {α : Type} [Inhabited α] {k : Nat}
theorem swapRange_x (T : TypesAs P k) (FG : P.funcs[373]? = some Tryz.f373) (enc : α → List Value) (fv : Value) (blk off N cap a b n : Nat) (d0 d : Array α) (w0 w : World)
    (R : RowK enc k w0 blk off d0) (hs : d.size = d0.size) (S : SWK enc k w0 blk off d w) (hN : d.size = N) (ha : a + n ≤ N) (hb : b + n ≤ N) (hsz : N < 4611686018427387904) :
    Calls P 373 #[.slice (some ⟨blk, off, none⟩) N cap, .int .i64 a, .int .i64 b, .int .i64 n, fv] w fun e w' => e = .returned (.tuple #[]) ∧ SWK enc k w0 blk off (swapN d a b n) w' := by
  subst hN
  exact swapRange_o T FG enc fv blk off cap a b n d0 d w0 w R hs S ha hb hsz
set_option maxHeartbeats 4000000 in
set_option maxRecDepth 1000000 in
theorem rotate_x (T : TypesAs P k) (FS : P.funcs[373]? = some Tryz.f373) (FG : P.funcs[337]? = some Tryz.f337) (enc : α → List Value) (fv : Value) (blk off N cap a m b : Nat) (d0 dt d : Array α) (w0 w : World) (tag : α → Nat) (htg : TagOk tag dt d)
    (R : RowK enc k w0 blk off d0) (hs : d.size = d0.size) (S : SWK enc k w0 blk off d w) (hN : d.size = N) (ham : a < m) (hmb : m < b) (hb : b ≤ N) (hsz : N < 4611686018427387904) :
    Calls P 337 #[.slice (some ⟨blk, off, none⟩) N cap, .int .i64 a, .int .i64 m, .int .i64 b, fv] w fun e w' => e = .returned (.tuple #[]) ∧ ∃ d', (TagOk tag dt d' ∧ Rot a m b d d') ∧ SWK enc k w0 blk off d' w' := by
  have T0 : Aside (TypesAs P k) := T
  have mixed := T.mixed; have t3 := T.t3; have a3 := T.a3; have z3 := T.z3; have t4 := T.t4; have a4 := T.a4; have z4 := T.z4; have t33 := T.t33; have a33 := T.a33; have z33 := T.z33; have aE := T.aE; have zE := T.zE
  clear T
  have FS0 : Aside (P.funcs[373]? = some Tryz.f373) := FS
  have eS : ∀ args w, (callFunc 373 args).run P w = .ok (.enter 373 args) w := enters_of FS (by kernel_rfl) rfl
  have S0 : Aside (SWK enc k w0 blk off d w) := S
  have R0 : Aside (RowK enc k w0 blk off d0) := R
  have hN0 : Aside (d.size = N) := hN
  have hs0 : Aside (d.size = d0.size) := hs
  have HT : Aside (TagOk tag dt d) := htg
  clear S FS R hN hs htg
  obtain ⟨i0, hi0⟩ : ∃ i, m - a = i := ⟨_, rfl⟩
  obtain ⟨j0, hj0⟩ : ∃ j, b - m = j := ⟨_, rfl⟩
  have hi1 : (m : Int) - (a : Int) = (i0 : Int) := by omega
  have hj1 : (b : Int) - (m : Int) = (j0 : Int) := by omega
  have wi1 : IntKind.i64.wrap (i0 : Int) = (i0 : Int) := by rw [IntKind.wrap_i64]; omega
  have wj1 : IntKind.i64.wrap (j0 : Int) = (j0 : Int) := by rw [IntKind.wrap_i64]; omega
  go_enter FG, Tryz.ntmps337
  go_wp2
  go_loopg [10, 11] (i0 + j0) (fun kx s t wr => ∃ (i j : Nat) (D : Array α), s = .int .i64 i ∧ t = .int .i64 j ∧ 0 < i ∧ 0 < j ∧ i ≤ m ∧ m + j ≤ N ∧ i + j ≤ kx ∧ Aside ((TagOk tag dt D ∧ D.size = N ∧ ∀ E, Rot (m - i) m (m + j) D E → Rot a m b d E) ∧ SWK enc k w0 blk off D wr))
  case atStart => exact ⟨i0, j0, d, rfl, rfl, by omega, by omega, by omega, by omega, by omega, ⟨HT.out, hN0.out, fun E h => (by
    rw [show m - i0 = a by omega, show m + j0 = b by omega] at h
    exact h)⟩, S0.out⟩
  case round =>
    clear S0
    obtain ⟨i, j, D, rfl, rfl, hip, hjp, him, hjn, hkx, S1⟩ := hrel
    have hDs : D.size = N := S1.out.1.2.1
    obtain ⟨x, hx⟩ : ∃ x, m - i = x := ⟨_, rfl⟩
    have hxi : (m : Int) - (i : Int) = (x : Int) := by omega
    have wx : IntKind.i64.wrap (x : Int) = (x : Int) := by rw [IntKind.wrap_i64]; omega
    by_cases heq : i = j
    · subst heq
      go_wp2_with fail
      refine (swapRange_x T0.out FS0.out enc fv blk off N cap x m i d0 D w0 wr R0.out (by rw [hDs, ← hN0.out]; exact hs0.out) S1.out.2 hDs (by omega) (by omega) hsz).mono ?_
      rintro e w1 ⟨rfl, hS1⟩
      have HS1 : Aside (SWK enc k w0 blk off (swapN D x m i) w1) := hS1
      clear hS1
      go_wp2
      go_end0
      refine ⟨rfl, _, ⟨S1.out.1.1.swapN (by omega) (by omega), S1.out.1.2.2 _ ?_⟩, HS1.out⟩
      rw [← hx]
      exact Rot.all (by omega) (by omega)
    · have e1 : ((i : Int) == (j : Int)) = false := beq_eq_false_iff_ne.2 (by omega)
      have e2 : ((i : Int) != (j : Int)) = true := bne_iff_ne.2 (by omega)
      by_cases hgt : j < i
      · have g1 : (j : Int) < (i : Int) := by omega
        obtain ⟨y, hy⟩ : ∃ y, i - j = y := ⟨_, rfl⟩
        have hyi : (i : Int) - (j : Int) = (y : Int) := by omega
        have wy : IntKind.i64.wrap (y : Int) = (y : Int) := by rw [IntKind.wrap_i64]; omega
        go_wp2_with fail
        refine (swapRange_x T0.out FS0.out enc fv blk off N cap x m j d0 D w0 wr R0.out (by rw [hDs, ← hN0.out]; exact hs0.out) S1.out.2 hDs (by omega) (by omega) hsz).mono ?_
        rintro e w1 ⟨rfl, hS1⟩
        have hR1 : ∀ E, Rot (m - y) m (m + j) (swapN D x m j) E → Rot a m b d E := fun E h => S1.out.1.2.2 E (Rot.left (by omega) hgt (by omega) (by rw [← hx, ← hy] at h; exact h))
        have S2 : Aside ((TagOk tag dt (swapN D x m j) ∧ (swapN D x m j).size = N ∧ ∀ E, Rot (m - y) m (m + j) (swapN D x m j) E → Rot a m b d E) ∧ SWK enc k w0 blk off (swapN D x m j) w1) := ⟨⟨S1.out.1.1.swapN (by omega) (by omega), by rw [swapN_size]; exact hDs, hR1⟩, hS1⟩
        clear hR1 hS1
        go_wp2
        go_roundg (y + j)
        case measure => omega
        case rel => exact ⟨y, j, _, by simp, by simp, by omega, hjp, by omega, hjn, Nat.le_refl _, S2⟩
      · have g1 : ¬ (j : Int) < (i : Int) := by omega
        obtain ⟨y, hy⟩ : ∃ y, j - i = y := ⟨_, rfl⟩
        have hyi : (j : Int) - (i : Int) = (y : Int) := by omega
        have wy : IntKind.i64.wrap (y : Int) = (y : Int) := by rw [IntKind.wrap_i64]; omega
        obtain ⟨u, hu⟩ : ∃ u, m + j = u := ⟨_, rfl⟩
        have hui : (m : Int) + (j : Int) = (u : Int) := by omega
        have wu : IntKind.i64.wrap (u : Int) = (u : Int) := by rw [IntKind.wrap_i64]; omega
        obtain ⟨v, hv⟩ : ∃ v, u - i = v := ⟨_, rfl⟩
        have hvi : (u : Int) - (i : Int) = (v : Int) := by omega
        have wv : IntKind.i64.wrap (v : Int) = (v : Int) := by rw [IntKind.wrap_i64]; omega
        go_wp2_with fail
        refine (swapRange_x T0.out FS0.out enc fv blk off N cap x v i d0 D w0 wr R0.out (by rw [hDs, ← hN0.out]; exact hs0.out) S1.out.2 hDs (by omega) (by omega) hsz).mono ?_
        rintro e w1 ⟨rfl, hS1⟩
        have hR1 : ∀ E, Rot (m - i) m (m + y) (swapN D x v i) E → Rot a m b d E := fun E h => S1.out.1.2.2 E (Rot.right (by omega) (by omega) (by omega) (by rw [← hx, ← hv, ← hu, ← hy] at h; exact h))
        have S2 : Aside ((TagOk tag dt (swapN D x v i) ∧ (swapN D x v i).size = N ∧ ∀ E, Rot (m - i) m (m + y) (swapN D x v i) E → Rot a m b d E) ∧ SWK enc k w0 blk off (swapN D x v i) w1) := ⟨⟨S1.out.1.1.swapN (by omega) (by omega), by rw [swapN_size]; exact hDs, hR1⟩, hS1⟩
        clear hR1 hS1
        go_wp2
        go_roundg (i + y)
        case measure => omega
        case rel => exact ⟨i, y, _, by simp, by simp, hip, by omega, him, by omega, Nat.le_refl _, S2⟩
end
end Go.Proofs.YtpfjlhpahmhkhaaGreat.Wk
