/- Texts put together: WGx8, WGx9. -/
import Derived.Test.YtpfjlhpahmhkhaaGreatQf45
import Derived.Test.YtpfjlhpahmhkhaaGreatQf44
import Derived.Test.YtpfjlhpahmhkhaaGreatQf46
/- stable, as plain data: runs of one length, sorted each; runs of twice that length. (No Go in it.) -/
set_option linter.unusedVariables false
set_option linter.unusedSimpArgs false
namespace Go.Proofs.YtpfjlhpahmhkhaaGreat.Wk
open Go.Shelf Go.RowKit Go.Lib Go.Sort

section
variable {β : Type} [Inhabited β] {tag : β → Nat} {key : β → Int} {dt d D E : Array β} {z q0 N a b : Nat}
theorem mul_up {q p z : Nat} (h : q < p) : q * z + z ≤ p * z := by
  have := Nat.mul_le_mul_right z (show q + 1 ≤ p from h)
  rw [Nat.add_mul, Nat.one_mul] at this
  exact this
/-- Runs of z are sorted below q0 * z; what is behind stands as it stood. -/
structure Run1 (tag : β → Nat) (key : β → Int) (dt D : Array β) (z q0 : Nat) : Prop where
  tags : TagOk tag dt D
  srt : ∀ q, q < q0 → SrtT tag key D (q * z) (q * z + z)
  tin : ∀ q t, q < q0 → q * z ≤ t → t < q * z + z → q * z ≤ tag D[t]! ∧ tag D[t]! < q * z + z
  rest : ∀ t, q0 * z ≤ t → t < D.size → tag D[t]! = t
/-- All runs of z are sorted; each has what came in it. -/
structure Runs (tag : β → Nat) (key : β → Int) (dt D : Array β) (z : Nat) : Prop where
  tags : TagOk tag dt D
  srt : ∀ q, SrtT tag key D (q * z) (min (q * z + z) D.size)
  tin : ∀ q t, q * z ≤ t → t < q * z + z → t < D.size → q * z ≤ tag D[t]! ∧ tag D[t]! < q * z + z
theorem Run1.start (h : ∀ i, i < d.size → tag d[i]! = i) (z : Nat) : Run1 tag key d d z 0 :=
  ⟨TagOk.refl h, fun q hq => by omega, fun q t hq => by omega, fun t _ ht => h t ht⟩
theorem Run1.inc (h : Run1 tag key dt D z q0) (hb : b ≤ D.size) : TagInc tag D (q0 * z) b := fun i j h1 h2 h3 => by
  rw [h.rest i h1 (by omega), h.rest j (by omega) (by omega)]
  exact h2
theorem Run1.step (h : Run1 tag key dt D z q0) (ht : TagOk tag dt E) (hw : Within (q0 * z) (q0 * z + z) D E) (hs : SrtT tag key E (q0 * z) (q0 * z + z)) (hb : q0 * z + z ≤ D.size) : Run1 tag key dt E z (q0 + 1) := by
  have hq1 : (q0 + 1) * z = q0 * z + z := by rw [Nat.add_mul, Nat.one_mul]
  refine ⟨ht, fun q hq => ?_, fun q t hq t1 t2 => ?_, fun t t1 t2 => ?_⟩
  · by_cases e : q = q0
    · rw [e]; exact hs
    · have hu := mul_up (z := z) (show q < q0 by omega)
      intro i j h1 h2 h3
      rw [hw.out i (.inl (by omega)), hw.out j (.inl (by omega))]
      exact h.srt q (by omega) i j h1 h2 h3
  · by_cases e : q = q0
    · subst e
      obtain ⟨j, j1, j2, j3⟩ := hw.ins t t1 t2
      rw [j3, h.rest j j1 (by omega)]
      exact ⟨j1, j2⟩
    · have hu := mul_up (z := z) (show q < q0 by omega)
      rw [hw.out t (.inl (by omega))]
      exact h.tin q t (by omega) t1 t2
  · rw [hq1] at t1
    rw [hw.out t (.inr t1)]
    exact h.rest t (by omega) (by rw [← hw.size]; exact t2)
theorem Run1.done (h : Run1 tag key dt D z q0) (ht : TagOk tag dt E) (hw : Within (q0 * z) D.size D E) (hs : SrtT tag key E (q0 * z) D.size) (hb : D.size < q0 * z + z) (ha : q0 * z ≤ D.size) : Runs tag key dt E z := by
  refine ⟨ht, fun q => ?_, fun q t t1 t2 t3 => ?_⟩
  · rw [hw.size]
    intro i j h1 h2 h3
    by_cases e : q < q0
    · have hu := mul_up (z := z) e
      rw [hw.out i (.inl (by omega)), hw.out j (.inl (by omega))]
      exact h.srt q e i j h1 h2 (by omega)
    · by_cases e2 : q = q0
      · subst e2; exact hs i j h1 h2 (by omega)
      · have hu := mul_up (z := z) (show q0 < q by omega)
        omega
  · rw [hw.size] at t3
    by_cases e : q < q0
    · have hu := mul_up (z := z) e
      rw [hw.out t (.inl (by omega))]
      exact h.tin q t e t1 t2
    · by_cases e2 : q = q0
      · subst e2
        obtain ⟨j, j1, j2, j3⟩ := hw.ins t t1 (by omega)
        rw [j3, h.rest j j1 j2]
        exact ⟨j1, by omega⟩
      · have hu := mul_up (z := z) (show q0 < q by omega)
        omega
/-- Runs of 2 z are sorted below q0 * (2 z), runs of z behind. -/
structure Run2 (tag : β → Nat) (key : β → Int) (dt D : Array β) (z q0 : Nat) : Prop where
  tags : TagOk tag dt D
  srt : ∀ q, q < q0 → SrtT tag key D (q * (2 * z)) (q * (2 * z) + 2 * z)
  tin : ∀ q t, q < q0 → q * (2 * z) ≤ t → t < q * (2 * z) + 2 * z → q * (2 * z) ≤ tag D[t]! ∧ tag D[t]! < q * (2 * z) + 2 * z
  srt1 : ∀ q, 2 * q0 ≤ q → SrtT tag key D (q * z) (min (q * z + z) D.size)
  tin1 : ∀ q t, 2 * q0 ≤ q → q * z ≤ t → t < q * z + z → t < D.size → q * z ≤ tag D[t]! ∧ tag D[t]! < q * z + z
theorem Runs.start (h : Runs tag key dt D z) : Run2 tag key dt D z 0 :=
  ⟨h.tags, fun q hq => by omega, fun q t hq => by omega, fun q _ => h.srt q, fun q t _ => h.tin q t⟩
theorem two_mul_ (q z : Nat) : (2 * q) * z = q * (2 * z) ∧ (2 * q + 1) * z = q * (2 * z) + z := by
  have h1 : (2 * q) * z = q * (2 * z) := by rw [Nat.mul_comm 2 q, Nat.mul_assoc]
  exact ⟨h1, by rw [Nat.add_mul, Nat.one_mul, h1]⟩
theorem Run2.pre (h : Run2 tag key dt D z q0) (hz : 0 < z) {m : Nat} (hm : q0 * (2 * z) + z = m) (hmN : m ≤ D.size) (hb : b ≤ D.size) (hbz : b ≤ m + z) : PreM tag key dt D (q0 * (2 * z)) m b := by
  obtain ⟨e1, e2⟩ := two_mul_ q0 z
  have s1 := h.srt1 (2 * q0) (Nat.le_refl _)
  have s2 := h.srt1 (2 * q0 + 1) (by omega)
  have t1 := h.tin1 (2 * q0)
  have t2 := h.tin1 (2 * q0 + 1)
  rw [e1] at s1 t1
  rw [e2] at s2 t2
  refine ⟨h.tags, fun i j h1 h2 h3 => s1 i j h1 h2 (by omega), fun i j h1 h2 h3 => s2 i j (by omega) h2 (by omega), fun i j h1 h2 h3 h4 => ?_⟩
  have g1 := t1 i (Nat.le_refl _) h1 (by omega) (by omega)
  have g2 := t2 j (by omega) (by omega) (by omega) (by omega)
  omega
theorem Run2.step (h : Run2 tag key dt D z q0) (hz : 0 < z) (hp : PostM tag key dt D E (q0 * (2 * z)) (q0 * (2 * z) + 2 * z)) (hb : q0 * (2 * z) + 2 * z ≤ D.size) : Run2 tag key dt E z (q0 + 1) := by
  have hw := hp.win
  obtain ⟨e1, e2⟩ := two_mul_ q0 z
  have t1 := h.tin1 (2 * q0)
  have t2 := h.tin1 (2 * q0 + 1)
  rw [e1] at t1
  rw [e2] at t2
  have hge : ∀ q, 2 * (q0 + 1) ≤ q → q0 * (2 * z) + 2 * z ≤ q * z := fun q hq => by
    have := Nat.mul_le_mul_right z hq
    rw [(two_mul_ (q0 + 1) z).1, Nat.add_mul, Nat.one_mul] at this
    exact this
  refine ⟨hp.tags, fun q hq => ?_, fun q t hq g1 g2 => ?_, fun q hq i j h1 h2 h3 => ?_, fun q t hq g1 g2 g3 => ?_⟩
  · by_cases e : q = q0
    · rw [e]; exact hp.srt
    · have hu := mul_up (z := 2 * z) (show q < q0 by omega)
      intro i j h1 h2 h3
      rw [hw.out i (.inl (by omega)), hw.out j (.inl (by omega))]
      exact h.srt q (by omega) i j h1 h2 h3
  · by_cases e : q = q0
    · subst e
      obtain ⟨j, j1, j2, j3⟩ := hw.ins t g1 g2
      rw [j3]
      by_cases c : j < q * (2 * z) + z
      · have := t1 j (Nat.le_refl _) j1 c (by omega); omega
      · have := t2 j (by omega) (by omega) (by omega) (by omega); omega
    · have hu := mul_up (z := 2 * z) (show q < q0 by omega)
      rw [hw.out t (.inl (by omega))]
      exact h.tin q t (by omega) g1 g2
  · have := hge q hq
    rw [hw.size] at h3
    rw [hw.out i (.inr (by omega)), hw.out j (.inr (by omega))]
    exact h.srt1 q (by omega) i j h1 h2 h3
  · have := hge q hq
    rw [hw.size] at g3
    rw [hw.out t (.inr (by omega))]
    exact h.tin1 q t (by omega) g1 g2 g3
/-- The last two runs. -/
theorem Run2.done (h : Run2 tag key dt D z q0) (hz : 0 < z) (hp : PostM tag key dt D E (q0 * (2 * z)) D.size) (hb : D.size < q0 * (2 * z) + 2 * z) : Runs tag key dt E (2 * z) := by
  have hw := hp.win
  obtain ⟨e1, e2⟩ := two_mul_ q0 z
  have t1 := h.tin1 (2 * q0)
  have t2 := h.tin1 (2 * q0 + 1)
  rw [e1] at t1
  rw [e2] at t2
  refine ⟨hp.tags, fun q i j h1 h2 h3 => ?_, fun q t g1 g2 g3 => ?_⟩
  · rw [hw.size] at h3
    by_cases e : q < q0
    · have hu := mul_up (z := 2 * z) e
      by_cases hs : q0 * (2 * z) ≤ D.size
      · rw [hw.out i (.inl (by omega)), hw.out j (.inl (by omega))]
        exact h.srt q e i j h1 h2 (by omega)
      · rw [hw.out i (.inl (by omega)), hw.out j (.inl (by omega))]
        exact h.srt q e i j h1 h2 (by omega)
    · by_cases e2 : q = q0
      · subst e2; exact hp.srt i j h1 h2 (by omega)
      · have hu := mul_up (z := 2 * z) (show q0 < q by omega)
        omega
  · rw [hw.size] at g3
    by_cases e : q < q0
    · have hu := mul_up (z := 2 * z) e
      rw [hw.out t (.inl (by omega))]
      exact h.tin q t e g1 g2
    · by_cases e2 : q = q0
      · subst e2
        obtain ⟨j, j1, j2, j3⟩ := hw.ins t g1 (by omega)
        rw [j3]
        by_cases c : j < q * (2 * z) + z
        · have := t1 j (Nat.le_refl _) j1 c (by omega); omega
        · have := t2 j (by omega) (by omega) (by omega) (by omega); omega
      · have hu := mul_up (z := 2 * z) (show q0 < q by omega)
        omega
theorem Run2.lone (h : Run2 tag key dt D z q0) (hz : 0 < z) (hm : D.size ≤ q0 * (2 * z) + z) : Runs tag key dt D (2 * z) := by
  obtain ⟨e1, e2⟩ := two_mul_ q0 z
  have s1 := h.srt1 (2 * q0) (Nat.le_refl _)
  rw [e1] at s1
  exact h.done hz ⟨h.tags, Within.refl _ _ _, fun i j h1 h2 h3 => s1 i j h1 h2 (by omega)⟩ (by omega)
theorem Runs.all (h : Runs tag key dt D z) (hz : D.size ≤ z) : SrtT tag key D 0 D.size := fun i j h1 h2 h3 => h.srt 0 i j (by omega) h2 (by omega)
end
end Go.Proofs.YtpfjlhpahmhkhaaGreat.Wk
/- slices.SortStableFunc at structs, over any program that bears its body: it sorts, and what is alike stays as it stood. -/
set_option linter.unusedVariables false
set_option linter.unusedSimpArgs false
namespace Go.Proofs.YtpfjlhpahmhkhaaGreat.Wk
open Go.Shelf Go.RowKit Go.Lib Go.Sort

/-- What the sort leaves: sorted, each that was there once, by where it was. -/
def StepS {α : Type} [Inhabited α] (tag : α → Nat) (key : α → Int) (enc : α → List Value) (k : Nat) (w0 : World) (blk off : Nat) (d : Array α) (e : Ending) (w' : World) : Prop :=
  e = .returned (.tuple #[]) ∧ ∃ d', (TagOk tag d d' ∧ SrtT tag key d' 0 d'.size) ∧ SWK enc k w0 blk off d' w'
section
variable {P : Program} {α : Type} [Inhabited α] {k : Nat}
set_option maxHeartbeats 8000000 in
set_option maxRecDepth 1000000 in
theorem stable_x (T : TypesAs P k) (FR : P.funcs[337]? = some Tryz.f337) (FS : P.funcs[373]? = some Tryz.f373) (FM : P.funcs[289]? = some Tryz.f289) (FI : P.funcs[288]? = some Tryz.f288) (FG : P.funcs[238]? = some Tryz.f238) (enc : α → List Value) (g : Nat) (cb : Array Value) (cf : α → α → Int) (blk off N cap : Nat) (d0 d : Array α) (w0 w : World) (tag : α → Nat) (key : α → Int) (hcf : ∀ x y, cf x y < 0 ↔ key x < key y) (h0 : ∀ i, i < d.size → tag d[i]! = i)
    (eg : ∀ args w, (callFunc g args).run P w = .ok (.enter g args) w) (hcmp : CmpLays P g cb enc k cf blk off N w0)
    (R : RowK enc k w0 blk off d0) (hN0 : d0.size = N) (hdN : d.size = N) (S : SWK enc k w0 blk off d w) (hsz : N < 1000000000000000000) :
    Calls P 238 #[.slice (some ⟨blk, off, none⟩) N cap, .int .i64 N, .func (.func g) #[] cb] w (StepS tag key enc k w0 blk off d) := by
  have T0 : Aside (TypesAs P k) := T
  have mixed := T.mixed; have t3 := T.t3; have a3 := T.a3; have z3 := T.z3; have t4 := T.t4; have a4 := T.a4; have z4 := T.z4; have t33 := T.t33; have a33 := T.a33; have z33 := T.z33; have aE := T.aE; have zE := T.zE
  clear T
  have S0 : Aside (SWK enc k w0 blk off d w) := S
  have R0 : Aside (RowK enc k w0 blk off d0) := R
  have C0 : Aside (CmpLays P g cb enc k cf blk off N w0) := hcmp
  have FR0 := id (show Aside (P.funcs[337]? = some Tryz.f337) from FR)
  have FS0 := id (show Aside (P.funcs[373]? = some Tryz.f373) from FS)
  have FM0 := id (show Aside (P.funcs[289]? = some Tryz.f289) from FM)
  have FI0 := id (show Aside (P.funcs[288]? = some Tryz.f288) from FI)
  have eM : ∀ args w, (callFunc 289 args).run P w = .ok (.enter 289 args) w := enters_of FM (by kernel_rfl) rfl
  have eI : ∀ args w, (callFunc 288 args).run P w = .ok (.enter 288 args) w := enters_of FI (by kernel_rfl) rfl
  have hsz : N < 4611686018427387904 := by omega
  have HCF := Aside.mk' hcf
  have HT0 := Aside.mk' h0
  clear S R hcmp FR FS FM FI hcf h0
  go_enter FG, Tryz.ntmps238
  go_wp2
  go_loopg [7, 8] N (fun kx s t wr => ∃ (a : Nat) (D : Array α), s = .int .i64 a ∧ t = .int .i64 ((a + 20 : Nat) : Int) ∧ a ≤ N ∧ N - a ≤ kx ∧ Aside ((∃ q, a = q * 20 ∧ Run1 tag key d D 20 q) ∧ SWK enc k w0 blk off D wr))
  case atStart => exact ⟨0, d, rfl, rfl, by omega, by omega, ⟨0, by simp, Run1.start HT0.out 20⟩, S0.out⟩
  case round =>
    clear S0
    obtain ⟨a, D, rfl, rfl, haN, hkx, S1⟩ := hrel
    obtain ⟨q, hq, hr⟩ := S1.out.1
    have HR := Aside.mk' hr
    have HQ := Aside.mk' hq
    have hDs : D.size = N := hr.tags.size.trans hdN
    clear hr hq
    obtain ⟨b, hb⟩ : ∃ b, a + 20 = b := ⟨_, rfl⟩
    rw [hb]
    obtain ⟨b2, hb2⟩ : ∃ q, b + 20 = q := ⟨_, rfl⟩
    have hbi : (b : Int) + 20 = (b2 : Int) := by omega
    by_cases hlt : b ≤ N
    · have hlt' : (b : Int) ≤ (N : Int) := by omega
      have wb20 : IntKind.i64.wrap (b2 : Int) = (b2 : Int) := by rw [IntKind.wrap_i64]; omega
      go_wp2_with fail
      refine (insertion_x T0.out FI0.out enc g cb cf blk off N cap a b d0 d D w0 _ tag key HCF.out HR.out.tags (by have h9 := HQ.out; rw [h9]; exact HR.out.inc (by omega)) eg C0.out R0.out hN0 hDs S1.out.2 (by omega) (by omega) hsz).mono ?_
      rintro e w1 ⟨rfl, D1, ⟨ht1, hw1, hs1⟩, hS1⟩
      have hq20 := HQ.out
      have hb9 : b = q * 20 + 20 := by omega
      rw [hq20, hb9] at hw1 hs1
      have S2 := Aside.mk' (show (∃ q, b = q * 20 ∧ Run1 tag key d D1 20 q) ∧ SWK enc k w0 blk off D1 w1 from ⟨⟨q + 1, by omega, HR.out.step ht1 hw1 hs1 (by omega)⟩, hS1⟩)
      clear ht1 hw1 hs1 hS1 hb9 hq20
      go_wp2
      go_roundg (N - b)
      case measure => omega
      case rel => exact ⟨b, D1, by simp, by rw [hb2], by omega, Nat.le_refl _, S2⟩
    · have hlt' : ¬ (b : Int) ≤ (N : Int) := by omega
      go_wp2_with fail
      refine (insertion_x T0.out FI0.out enc g cb cf blk off N cap a N d0 d D w0 _ tag key HCF.out HR.out.tags (by have h9 := HQ.out; rw [h9]; exact HR.out.inc (by omega)) eg C0.out R0.out hN0 hDs S1.out.2 (by omega) (by omega) hsz).mono ?_
      rintro e w1 ⟨rfl, D1, ⟨ht1, hw1, hs1⟩, hS1⟩
      have hq20 := HQ.out
      rw [hq20, ← hDs] at hw1 hs1
      have S2 := Aside.mk' (show Runs tag key d D1 20 ∧ SWK enc k w0 blk off D1 w1 from ⟨HR.out.done ht1 hw1 hs1 (by omega) (by omega), hS1⟩)
      clear ht1 hw1 hs1 hS1 S1 hb hbi hlt hlt' hkx haN hq20 HQ HR hDs
      go_wp2
      go_loopg [6] N (fun kx s wr => ∃ (z : Nat) (D : Array α), s = .int .i64 z ∧ 0 < z ∧ z < 4000000000000000000 ∧ N - z ≤ kx ∧ Aside (Runs tag key d D z ∧ SWK enc k w0 blk off D wr))
      case atStart => exact ⟨20, D1, rfl, by omega, by omega, by omega, S2⟩
      case round =>
        clear S2
        obtain ⟨z, D, rfl, hz0, hz1, hkx, S1⟩ := hrel
        by_cases hzN : z < N
        · have hzN' : (z : Int) < (N : Int) := by omega
          obtain ⟨zz, hzz⟩ : ∃ q, 2 * z = q := ⟨_, rfl⟩
          have hzzi : 2 * (z : Int) = (zz : Int) := by omega
          have hzzj : (z : Int) * 2 = (zz : Int) := by omega
          have wzz : IntKind.i64.wrap (zz : Int) = (zz : Int) := by rw [IntKind.wrap_i64]; omega
          go_wp2
          go_loopg [7, 8] N (fun ky s t wr => ∃ (a : Nat) (D : Array α), s = .int .i64 a ∧ t = .int .i64 ((a + zz : Nat) : Int) ∧ a ≤ N ∧ N - a ≤ ky ∧ Aside ((∃ q, a = q * (2 * z) ∧ Run2 tag key d D z q) ∧ SWK enc k w0 blk off D wr))
          case atStart => exact ⟨0, D, rfl, by simp, by omega, by omega, ⟨0, by simp, S1.out.1.start⟩, S1.out.2⟩
          case round =>
            clear S1
            obtain ⟨a, D, rfl, rfl, haN, hky, S1⟩ := hrel
            obtain ⟨q, hq, hr⟩ := S1.out.1
            have HR := Aside.mk' hr
            have HQ := Aside.mk' hq
            have hDs : D.size = N := hr.tags.size.trans hdN
            clear hr hq
            obtain ⟨b, hb⟩ : ∃ b, a + zz = b := ⟨_, rfl⟩
            rw [hb]
            obtain ⟨m, hm⟩ : ∃ m, a + z = m := ⟨_, rfl⟩
            have hmi : (a : Int) + (z : Int) = (m : Int) := by omega
            have wm : IntKind.i64.wrap (m : Int) = (m : Int) := by rw [IntKind.wrap_i64]; omega
            by_cases hlt : b ≤ N
            · have hlt' : (b : Int) ≤ (N : Int) := by omega
              obtain ⟨b2, hb2⟩ : ∃ q, b + zz = q := ⟨_, rfl⟩
              have hbi : (b : Int) + (zz : Int) = (b2 : Int) := by omega
              have wbz : IntKind.i64.wrap (b2 : Int) = (b2 : Int) := by rw [IntKind.wrap_i64]; omega
              go_wp2_with fail
              refine (symMerge_x T0.out FR0.out FS0.out FM0.out enc g cb cf blk off N cap d0 w0 d tag key HCF.out eg C0.out R0.out hN0 hsz N a m b D _ (by omega) hDs (by have h9 := HQ.out; rw [h9]; exact HR.out.pre hz0 (by omega) (by omega) (by omega) (by omega)) S1.out.2 (by omega) (by omega) (by omega)).mono ?_
              rintro e w2 ⟨rfl, D2, hm2, hS2⟩
              have S2 := Aside.mk' (show (∃ q, b = q * (2 * z) ∧ Run2 tag key d D2 z q) ∧ SWK enc k w0 blk off D2 w2 from by
                have h9 := HQ.out
                have hb9 : b = q * (2 * z) + 2 * z := by omega
                rw [h9, hb9] at hm2
                exact ⟨⟨q + 1, by rw [Nat.add_mul, Nat.one_mul]; exact hb9, HR.out.step hz0 hm2 (by omega)⟩, hS2⟩)
              clear hm2 hS2
              go_wp2
              go_roundg (N - b)
              case measure => omega
              case rel => exact ⟨b, D2, by simp, by rw [hb2], by omega, Nat.le_refl _, S2⟩
            · have hlt' : ¬ (b : Int) ≤ (N : Int) := by omega
              by_cases hmN : m < N
              · have hmN' : (m : Int) < (N : Int) := by omega
                go_wp2_with fail
                refine (symMerge_x T0.out FR0.out FS0.out FM0.out enc g cb cf blk off N cap d0 w0 d tag key HCF.out eg C0.out R0.out hN0 hsz N a m N D _ (by omega) hDs (by have h9 := HQ.out; rw [h9]; exact HR.out.pre hz0 (by omega) (by omega) (by omega) (by omega)) S1.out.2 (by omega) (by omega) (by omega)).mono ?_
                rintro e w2 ⟨rfl, D2, hm2, hS2⟩
                have S2 := Aside.mk' (show Runs tag key d D2 zz ∧ SWK enc k w0 blk off D2 w2 from by
                  have h9 := HQ.out
                  rw [h9, ← hDs] at hm2
                  rw [← hzz]
                  exact ⟨HR.out.done hz0 hm2 (by omega), hS2⟩)
                clear hm2 hS2
                go_wp2
                go_roundg (N - zz)
                case measure => omega
                case rel => exact ⟨zz, D2, by simp, by omega, by omega, Nat.le_refl _, S2⟩
              · have hmN' : ¬ (m : Int) < (N : Int) := by omega
                have S3 := Aside.mk' (show Runs tag key d D zz ∧ SWK enc k w0 blk off D wr from by
                  have h9 := HQ.out
                  rw [← hzz]
                  exact ⟨HR.out.lone hz0 (by omega), S1.out.2⟩)
                go_wp2
                go_roundg (N - zz)
                case measure => omega
                case rel => exact ⟨zz, D, by simp, by omega, by omega, Nat.le_refl _, S3⟩
        · have hzN' : ¬ (z : Int) < (N : Int) := by omega
          go_wp2
          go_end0
          exact ⟨rfl, D, ⟨S1.out.1.tags, S1.out.1.all (by rw [S1.out.1.tags.size, hdN]; omega)⟩, S1.out.2⟩

set_option maxHeartbeats 8000000 in
set_option maxRecDepth 1000000 in
theorem sortStable_x (T : TypesAs P k) (FR : P.funcs[337]? = some Tryz.f337) (FS : P.funcs[373]? = some Tryz.f373) (FM : P.funcs[289]? = some Tryz.f289) (FI : P.funcs[288]? = some Tryz.f288) (FT : P.funcs[238]? = some Tryz.f238) (FG : P.funcs[174]? = some Tryz.f174) (enc : α → List Value) (g : Nat) (cb : Array Value) (cf : α → α → Int) (blk off N cap : Nat) (d0 : Array α) (w0 : World) (tag : α → Nat) (key : α → Int) (hcf : ∀ x y, cf x y < 0 ↔ key x < key y) (h0 : ∀ i, i < d0.size → tag d0[i]! = i)
    (eg : ∀ args w, (callFunc g args).run P w = .ok (.enter g args) w) (hcmp : CmpLays P g cb enc k cf blk off N w0)
    (R : RowK enc k w0 blk off d0) (hN0 : d0.size = N) (S : SWK enc k w0 blk off d0 w0) (hsz : N < 1000000000000000000) :
    Calls P 174 #[.slice (some ⟨blk, off, none⟩) N cap, .func (.func g) #[] cb] w0 (StepS tag key enc k w0 blk off d0) := by
  have T0 : Aside (TypesAs P k) := T
  have mixed := T.mixed; have t3 := T.t3; have a3 := T.a3; have z3 := T.z3; have t4 := T.t4; have a4 := T.a4; have z4 := T.z4; have t33 := T.t33; have a33 := T.a33; have z33 := T.z33; have aE := T.aE; have zE := T.zE
  clear T
  have S0 : Aside (SWK enc k w0 blk off d0 w0) := S
  have R0 : Aside (RowK enc k w0 blk off d0) := R
  have C0 : Aside (CmpLays P g cb enc k cf blk off N w0) := hcmp
  have FR0 := id (show Aside (P.funcs[337]? = some Tryz.f337) from FR)
  have FS0 := id (show Aside (P.funcs[373]? = some Tryz.f373) from FS)
  have FM0 := id (show Aside (P.funcs[289]? = some Tryz.f289) from FM)
  have FI0 := id (show Aside (P.funcs[288]? = some Tryz.f288) from FI)
  have FT0 := id (show Aside (P.funcs[238]? = some Tryz.f238) from FT)
  have eT : ∀ args w, (callFunc 238 args).run P w = .ok (.enter 238 args) w := enters_of FT (by kernel_rfl) rfl
  have HCF := Aside.mk' hcf
  have HT0 := Aside.mk' h0
  clear S R hcmp FR FS FM FI FT hcf h0
  go_enter FG, Tryz.ntmps174
  go_wp2_with fail
  refine (stable_x T0.out FR0.out FS0.out FM0.out FI0.out FT0.out enc g cb cf blk off N cap d0 d0 w0 w0 tag key HCF.out HT0.out eg C0.out R0.out hN0 hN0 S0.out hsz).mono ?_
  rintro e w1 ⟨rfl, D1, hm1, hS1⟩
  have S2 := Aside.mk' (show (TagOk tag d0 D1 ∧ SrtT tag key D1 0 D1.size) ∧ SWK enc k w0 blk off D1 w1 from ⟨hm1, hS1⟩)
  clear hm1 hS1
  go_wp2
  go_end0
  exact ⟨rfl, D1, S2.out⟩
end
end Go.Proofs.YtpfjlhpahmhkhaaGreat.Wk
