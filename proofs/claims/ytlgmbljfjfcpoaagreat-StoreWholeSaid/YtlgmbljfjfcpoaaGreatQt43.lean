/- Texts put together: YGw4. -/
import Derived.Test.YtlgmbljfjfcpoaaGreatQt42
/- slices.SortStableFunc at structs, over any program that bears its body: the rows are those that were there. -/
set_option linter.unusedVariables false
set_option linter.unusedSimpArgs false
namespace Go.Proofs.YtlgmbljfjfcpoaaGreat.Wk
open Go.Shelf Go.RowKit Go.Lib Go.Sort

section
variable {P : Program} {α : Type} [Inhabited α] {k : Nat}
set_option maxHeartbeats 8000000 in
set_option maxRecDepth 1000000 in
theorem insertion_w (T : TypesAs P k) (FG : P.funcs[83]? = some Tryz.f83) (enc : α → List Value) (g : Nat) (cb : Array Value) (cf : α → α → Int) (blk off N cap a b : Nat) (d0 d : Array α) (w0 w : World)
    (eg : ∀ args w, (callFunc g args).run P w = .ok (.enter g args) w) (hcmp : CmpLays P g cb enc k cf blk off N w0)
    (R : RowK enc k w0 blk off d0) (hN0 : d0.size = N) (hdN : d.size = N) (S : SWK enc k w0 blk off d w) (hab : a ≤ b) (hb : b ≤ N) (hsz : N < 4611686018427387904) :
    Calls P 83 #[.slice (some ⟨blk, off, none⟩) N cap, .int .i64 a, .int .i64 b, .func (.func g) #[] cb] w (StepPost enc k w0 blk off d) := by
  have T0 : Aside (TypesAs P k) := T
  have mixed := T.mixed; have t3 := T.t3; have a3 := T.a3; have z3 := T.z3; have t4 := T.t4; have a4 := T.a4; have z4 := T.z4; have t33 := T.t33; have a33 := T.a33; have z33 := T.z33; have aE := T.aE; have zE := T.zE
  clear T
  have S0 : Aside (SWK enc k w0 blk off d w) := S
  have R0 : Aside (RowK enc k w0 blk off d0) := R
  have C0 : Aside (CmpLays P g cb enc k cf blk off N w0) := hcmp
  clear S R hcmp
  have wa1 : IntKind.i64.wrap ((a : Int) + 1) = ((a + 1 : Nat) : Int) := by rw [IntKind.wrap_i64]; omega
  go_enter FG, Tryz.ntmps83
  go_wp2
  go_loopg [8] (b - a) (fun kx s wr => ∃ (i : Nat) (D : Array α), s = .int .i64 i ∧ a < i ∧ i ≤ b + 1 ∧ b - i ≤ kx ∧ Aside (Moved d D ∧ SWK enc k w0 blk off D wr))
  case atStart => exact ⟨a + 1, d, by simp, by omega, by omega, by omega, Moved.refl d, S0.out⟩
  case round =>
    clear S0
    obtain ⟨i, D, rfl, hai, hib, hkx, S1⟩ := hrel
    by_cases hlt : i < b
    · have hlt' : (i : Int) < (b : Int) := by omega
      have wi1 : IntKind.i64.wrap ((i : Int) + 1) = ((i + 1 : Nat) : Int) := by rw [IntKind.wrap_i64]; omega
      go_wp2
      go_loopg [9] i (fun ky s wr => ∃ (j : Nat) (D : Array α), s = .int .i64 j ∧ a ≤ j ∧ j ≤ i ∧ j ≤ ky ∧ Aside (Moved d D ∧ SWK enc k w0 blk off D wr))
      case atStart => exact ⟨i, D, rfl, by omega, Nat.le_refl _, Nat.le_refl _, S1⟩
      case round =>
        clear S1
        obtain ⟨j, D, rfl, haj, hji, hky, S1⟩ := hrel
        have hDs : D.size = N := S1.out.1.1.trans hdN
        by_cases hja : a < j
        · have hjaz : (a : Int) < (j : Int) := by omega
          have hjad : decide ((a : Int) < (j : Int)) = true := by simp; omega
          obtain ⟨y, hy⟩ : ∃ y, j - 1 = y := ⟨_, rfl⟩
          have hyi : (j : Int) - 1 = (y : Int) := by omega
          have hjN : j < N := by omega
          have hyN : y < N := by omega
          have bj : (j : Int) < (N : Int) := by omega
          have bj0 : (0 : Int) ≤ (j : Int) := by omega
          have ej0 : ((j : Int)).toNat = j := by omega
          have by' : (y : Int) < (N : Int) := by omega
          have by0 : (0 : Int) ≤ (y : Int) := by omega
          have ey0 : ((y : Int)).toNat = y := by omega
          have wy : IntKind.i64.wrap (y : Int) = (y : Int) := by rw [IntKind.wrap_i64]; omega
          obtain ⟨xp, hxp⟩ : ∃ x, D[j]! = x := ⟨_, rfl⟩
          obtain ⟨xq, hxq⟩ : ∃ x, D[y]! = x := ⟨_, rfl⟩
          have hDs0 : D.size = d0.size := hDs.trans hN0.symm
          have lp : ∀ n' os', Sem.run P (loadCellsFrom ⟨blk, off + j * k, none⟩ 0 k #[]) (grow (wr.drewN n') os') = .ok (enc xp).toArray (grow (wr.drewN n') os') := fun n' os' => by rw [← hxp]; exact S1.out.2.ld R0.out hDs0 P j (by omega) n' os'
          have lq : ∀ n' os', Sem.run P (loadCellsFrom ⟨blk, off + y * k, none⟩ 0 k #[]) (grow (wr.drewN n') os') = .ok (enc xq).toArray (grow (wr.drewN n') os') := fun n' os' => by rw [← hxq]; exact S1.out.2.ld R0.out hDs0 P y (by omega) n' os'
          have hcg := fun n' os' => S1.out.2.cmp C0.out hDs xp xq n' os'
          have SG : Aside (∀ n' os', SWK enc k w0 blk off D (grow (wr.drewN n') os')) := fun n' os' => S1.out.2.grown n' os'
          clear hxp hxq hDs0
          by_cases hlv : cf xp xq < 0
          · have hdv : decide (cf xp xq < 0) = true := by simp; omega
            go_wp2_with fail
            go_quiet_grown (first | (go_at_fn g; refine Calls.grown_of (hcg _ _)))
            go_wp2_with fail
            have S3 : Aside (Moved d D ∧ SWK enc k w0 blk off D (grow (wr.drewN nq) osq)) := ⟨S1.out.1, SG.out nq osq⟩
            clear lp lq hcg SG S1
            generalize grow (wr.drewN nq) osq = wr2 at S3 ⊢
            have hxD : j < D.size := by omega
            have hyD : y < D.size := by omega
            have ea44 : ((j : Int)).toNat = j := by omega
            have pa44 : (0 : Int) ≤ (j : Int) := by omega
            have ba44 : (j : Int) < (N : Int) := by omega
            have ra44 : IntKind.i64.wrap ((j : Int)) = (j : Int) := by rw [IntKind.wrap_i64]; omega
            have ec44 : ((y : Int)).toNat = y := by omega
            have pc44 : (0 : Int) ≤ (y : Int) := by omega
            have bc44 : (y : Int) < (N : Int) := by omega
            have rc44 : IntKind.i64.wrap ((y : Int)) = (y : Int) := by rw [IntKind.wrap_i64]; omega
            have hDs0 : D.size = d0.size := hDs.trans hN0.symm
            have S2 : Aside (Moved d (swp D j y) ∧ SWK enc k w0 blk off (swp D j y) ((wr2.drew.setCells blk (off + j * k) (enc D[y]!)).setCells blk (off + y * k) (enc D[j]!))) := ⟨S3.out.1.trans (Moved.swp D hxD hyD), S3.out.2.swapped R0.out j y hxD hyD⟩
            have l44a := S3.out.2.ld1 R0.out hDs0 P j hxD
            have l44b := S3.out.2.ld1 R0.out hDs0 P y hyD
            have s44a := S3.out.2.st1 R0.out hDs0 P j hxD D[y]!
            have s44b := S3.out.2.st2 R0.out hDs0 P j y hxD hyD D[y]! D[j]!
            have n44a : (enc D[j]!).length = k := R0.out.hk _
            have n44b : (enc D[y]!).length = k := R0.out.hk _
            generalize enc D[j]! = cI44 at S2 l44a s44b n44a
            generalize enc D[y]! = cJ44 at S2 l44b s44a s44b n44b
            clear S3 hxD hyD hDs hDs0
            go_big_region_o
            clear l44a l44b s44a s44b
            generalize (wr2.drew.setCells blk (off + j * k) cJ44).setCells blk (off + y * k) cI44 = w2 at S2 ⊢
            go_wp2
            go_roundg y
            case measure => omega
            case rel => exact ⟨y, _, by simp, by omega, by omega, Nat.le_refl _, S2⟩
          · have hdv : decide (cf xp xq < 0) = false := by simp; omega
            go_wp2_with fail
            go_quiet_grown (first | (go_at_fn g; refine Calls.grown_of (hcg _ _)))
            go_wp2
            go_roundg (b - (i + 1))
            case measure => omega
            case rel => exact ⟨i + 1, D, by simp, by omega, by omega, Nat.le_refl _, S1.out.1, SG.out _ _⟩
        · have hjaz : ¬ (a : Int) < (j : Int) := by omega
          have hjad : decide ((a : Int) < (j : Int)) = false := by simp; omega
          have SD : Aside (Moved d D ∧ SWK enc k w0 blk off D wr.drew) := ⟨S1.out.1, S1.out.2.drew⟩
          go_wp2_with fail
          go_big_region_o
          all_goals go_wp2
          go_roundg (b - (i + 1))
          case measure => omega
          case rel => exact ⟨i + 1, D, by simp, by omega, by omega, Nat.le_refl _, SD⟩
    · have hlt' : ¬ (i : Int) < (b : Int) := by omega
      go_wp2
      go_end0
      exact ⟨rfl, D, S1.out⟩

set_option maxHeartbeats 8000000 in
set_option maxRecDepth 1000000 in
theorem stable_w (T : TypesAs P k) (FR : P.funcs[104]? = some Tryz.f104) (FS : P.funcs[118]? = some Tryz.f118) (FM : P.funcs[84]? = some Tryz.f84) (FI : P.funcs[83]? = some Tryz.f83) (FG : P.funcs[56]? = some Tryz.f56) (enc : α → List Value) (g : Nat) (cb : Array Value) (cf : α → α → Int) (blk off N cap : Nat) (d0 d : Array α) (w0 w : World)
    (eg : ∀ args w, (callFunc g args).run P w = .ok (.enter g args) w) (hcmp : CmpLays P g cb enc k cf blk off N w0)
    (R : RowK enc k w0 blk off d0) (hN0 : d0.size = N) (hdN : d.size = N) (S : SWK enc k w0 blk off d w) (hsz : N < 1000000000000000000) :
    Calls P 56 #[.slice (some ⟨blk, off, none⟩) N cap, .int .i64 N, .func (.func g) #[] cb] w (StepPost enc k w0 blk off d) := by
  have T0 : Aside (TypesAs P k) := T
  have mixed := T.mixed; have t3 := T.t3; have a3 := T.a3; have z3 := T.z3; have t4 := T.t4; have a4 := T.a4; have z4 := T.z4; have t33 := T.t33; have a33 := T.a33; have z33 := T.z33; have aE := T.aE; have zE := T.zE
  clear T
  have S0 : Aside (SWK enc k w0 blk off d w) := S
  have R0 : Aside (RowK enc k w0 blk off d0) := R
  have C0 : Aside (CmpLays P g cb enc k cf blk off N w0) := hcmp
  have FR0 := id (show Aside (P.funcs[104]? = some Tryz.f104) from FR)
  have FS0 := id (show Aside (P.funcs[118]? = some Tryz.f118) from FS)
  have FM0 := id (show Aside (P.funcs[84]? = some Tryz.f84) from FM)
  have FI0 := id (show Aside (P.funcs[83]? = some Tryz.f83) from FI)
  have eM : ∀ args w, (callFunc 84 args).run P w = .ok (.enter 84 args) w := enters_of FM (by kernel_rfl) rfl
  have eI : ∀ args w, (callFunc 83 args).run P w = .ok (.enter 83 args) w := enters_of FI (by kernel_rfl) rfl
  have hsz : N < 4611686018427387904 := by omega
  clear S R hcmp FR FS FM FI
  go_enter FG, Tryz.ntmps56
  go_wp2
  go_loopg [7, 8] N (fun kx s t wr => ∃ (a : Nat) (D : Array α), s = .int .i64 a ∧ t = .int .i64 ((a + 20 : Nat) : Int) ∧ a ≤ N ∧ N - a ≤ kx ∧ Aside (Moved d D ∧ SWK enc k w0 blk off D wr))
  case atStart => exact ⟨0, d, rfl, rfl, by omega, by omega, Moved.refl d, S0.out⟩
  case round =>
    clear S0
    obtain ⟨a, D, rfl, rfl, haN, hkx, S1⟩ := hrel
    obtain ⟨b, hb⟩ : ∃ b, a + 20 = b := ⟨_, rfl⟩
    rw [hb]
    obtain ⟨b2, hb2⟩ : ∃ q, b + 20 = q := ⟨_, rfl⟩
    have hbi : (b : Int) + 20 = (b2 : Int) := by omega
    by_cases hlt : b ≤ N
    · have hlt' : (b : Int) ≤ (N : Int) := by omega
      have wb20 : IntKind.i64.wrap (b2 : Int) = (b2 : Int) := by rw [IntKind.wrap_i64]; omega
      go_wp2_with fail
      refine (insertion_w T0.out FI0.out enc g cb cf blk off N cap a b d0 D w0 _ eg C0.out R0.out hN0 (by rw [S1.out.1.1]; exact hdN) S1.out.2 (by omega) (by omega) hsz).mono ?_
      rintro e w1 ⟨rfl, D1, hm1, hS1⟩
      have S2 : Aside (Moved d D1 ∧ SWK enc k w0 blk off D1 w1) := ⟨S1.out.1.trans hm1, hS1⟩
      clear hm1 hS1
      go_wp2
      go_roundg (N - b)
      case measure => omega
      case rel => exact ⟨b, D1, by simp, by rw [hb2], by omega, Nat.le_refl _, S2⟩
    · have hlt' : ¬ (b : Int) ≤ (N : Int) := by omega
      go_wp2_with fail
      refine (insertion_w T0.out FI0.out enc g cb cf blk off N cap a N d0 D w0 _ eg C0.out R0.out hN0 (by rw [S1.out.1.1]; exact hdN) S1.out.2 (by omega) (by omega) hsz).mono ?_
      rintro e w1 ⟨rfl, D1, hm1, hS1⟩
      have S2 : Aside (Moved d D1 ∧ SWK enc k w0 blk off D1 w1) := ⟨S1.out.1.trans hm1, hS1⟩
      clear hm1 hS1 S1 hb hbi hlt hlt' hkx haN
      go_wp2
      go_loopg [6] N (fun kx s wr => ∃ (z : Nat) (D : Array α), s = .int .i64 z ∧ 0 < z ∧ z < 4000000000000000000 ∧ N - z ≤ kx ∧ Aside (Moved d D ∧ SWK enc k w0 blk off D wr))
      case atStart => exact ⟨20, D1, rfl, by omega, by omega, by omega, S2⟩
      case round =>
        clear S2
        obtain ⟨z, D, rfl, hz0, hz1, hkx, S1⟩ := hrel
        by_cases hzN : z < N
        · have hzN' : (z : Int) < (N : Int) := by omega
          obtain ⟨zz, hzz⟩ : ∃ q, 2 * z = q := ⟨_, rfl⟩
          have hzzi : 2 * (z : Int) = (zz : Int) := by omega
          have hzzj : (z : Int) * 2 = (zz : Int) := by omega
          have wzz : IntKind.i64.wrap (zz : Int) = (zz : Int) := by rw [IntKind.wrap_i64]; omega
          go_wp2
          go_loopg [7, 8] N (fun ky s t wr => ∃ (a : Nat) (D : Array α), s = .int .i64 a ∧ t = .int .i64 ((a + zz : Nat) : Int) ∧ a ≤ N ∧ N - a ≤ ky ∧ Aside (Moved d D ∧ SWK enc k w0 blk off D wr))
          case atStart => exact ⟨0, D, rfl, by simp, by omega, by omega, S1⟩
          case round =>
            clear S1
            obtain ⟨a, D, rfl, rfl, haN, hky, S1⟩ := hrel
            obtain ⟨b, hb⟩ : ∃ b, a + zz = b := ⟨_, rfl⟩
            rw [hb]
            obtain ⟨m, hm⟩ : ∃ m, a + z = m := ⟨_, rfl⟩
            have hmi : (a : Int) + (z : Int) = (m : Int) := by omega
            have wm : IntKind.i64.wrap (m : Int) = (m : Int) := by rw [IntKind.wrap_i64]; omega
            by_cases hlt : b ≤ N
            · have hlt' : (b : Int) ≤ (N : Int) := by omega
              obtain ⟨b2, hb2⟩ : ∃ q, b + zz = q := ⟨_, rfl⟩
              have hbi : (b : Int) + (zz : Int) = (b2 : Int) := by omega
              have wbz : IntKind.i64.wrap (b2 : Int) = (b2 : Int) := by rw [IntKind.wrap_i64]; omega
              go_wp2_with fail
              refine (symMerge_w T0.out FR0.out FS0.out FM0.out enc g cb cf blk off N cap d0 w0 eg C0.out R0.out hN0 hsz N a m b D _ (by omega) (by rw [S1.out.1.1]; exact hdN) S1.out.2 (by omega) (by omega) (by omega)).mono ?_
              rintro e w2 ⟨rfl, D2, hm2, hS2⟩
              have S2 : Aside (Moved d D2 ∧ SWK enc k w0 blk off D2 w2) := ⟨S1.out.1.trans hm2, hS2⟩
              clear hm2 hS2
              go_wp2
              go_roundg (N - b)
              case measure => omega
              case rel => exact ⟨b, D2, by simp, by rw [hb2], by omega, Nat.le_refl _, S2⟩
            · have hlt' : ¬ (b : Int) ≤ (N : Int) := by omega
              by_cases hmN : m < N
              · have hmN' : (m : Int) < (N : Int) := by omega
                go_wp2_with fail
                refine (symMerge_w T0.out FR0.out FS0.out FM0.out enc g cb cf blk off N cap d0 w0 eg C0.out R0.out hN0 hsz N a m N D _ (by omega) (by rw [S1.out.1.1]; exact hdN) S1.out.2 (by omega) (by omega) (by omega)).mono ?_
                rintro e w2 ⟨rfl, D2, hm2, hS2⟩
                have S2 : Aside (Moved d D2 ∧ SWK enc k w0 blk off D2 w2) := ⟨S1.out.1.trans hm2, hS2⟩
                clear hm2 hS2
                go_wp2
                go_roundg (N - zz)
                case measure => omega
                case rel => exact ⟨zz, D2, by simp, by omega, by omega, Nat.le_refl _, S2⟩
              · have hmN' : ¬ (m : Int) < (N : Int) := by omega
                go_wp2
                go_roundg (N - zz)
                case measure => omega
                case rel => exact ⟨zz, D, by simp, by omega, by omega, Nat.le_refl _, S1⟩
        · have hzN' : ¬ (z : Int) < (N : Int) := by omega
          go_wp2
          go_end0
          exact ⟨rfl, D, S1.out⟩

set_option maxHeartbeats 8000000 in
set_option maxRecDepth 1000000 in
theorem sortStable_w (T : TypesAs P k) (FR : P.funcs[104]? = some Tryz.f104) (FS : P.funcs[118]? = some Tryz.f118) (FM : P.funcs[84]? = some Tryz.f84) (FI : P.funcs[83]? = some Tryz.f83) (FT : P.funcs[56]? = some Tryz.f56) (FG : P.funcs[30]? = some Tryz.f30) (enc : α → List Value) (g : Nat) (cb : Array Value) (cf : α → α → Int) (blk off N cap : Nat) (d0 : Array α) (w0 : World)
    (eg : ∀ args w, (callFunc g args).run P w = .ok (.enter g args) w) (hcmp : CmpLays P g cb enc k cf blk off N w0)
    (R : RowK enc k w0 blk off d0) (hN0 : d0.size = N) (S : SWK enc k w0 blk off d0 w0) (hsz : N < 1000000000000000000) :
    Calls P 30 #[.slice (some ⟨blk, off, none⟩) N cap, .func (.func g) #[] cb] w0 (StepPost enc k w0 blk off d0) := by
  have T0 : Aside (TypesAs P k) := T
  have mixed := T.mixed; have t3 := T.t3; have a3 := T.a3; have z3 := T.z3; have t4 := T.t4; have a4 := T.a4; have z4 := T.z4; have t33 := T.t33; have a33 := T.a33; have z33 := T.z33; have aE := T.aE; have zE := T.zE
  clear T
  have S0 : Aside (SWK enc k w0 blk off d0 w0) := S
  have R0 : Aside (RowK enc k w0 blk off d0) := R
  have C0 : Aside (CmpLays P g cb enc k cf blk off N w0) := hcmp
  have FR0 := id (show Aside (P.funcs[104]? = some Tryz.f104) from FR)
  have FS0 := id (show Aside (P.funcs[118]? = some Tryz.f118) from FS)
  have FM0 := id (show Aside (P.funcs[84]? = some Tryz.f84) from FM)
  have FI0 := id (show Aside (P.funcs[83]? = some Tryz.f83) from FI)
  have FT0 := id (show Aside (P.funcs[56]? = some Tryz.f56) from FT)
  have eT : ∀ args w, (callFunc 56 args).run P w = .ok (.enter 56 args) w := enters_of FT (by kernel_rfl) rfl
  clear S R hcmp FR FS FM FI FT
  go_enter FG, Tryz.ntmps30
  go_wp2_with fail
  refine (stable_w T0.out FR0.out FS0.out FM0.out FI0.out FT0.out enc g cb cf blk off N cap d0 d0 w0 w0 eg C0.out R0.out hN0 hN0 S0.out hsz).mono ?_
  rintro e w1 ⟨rfl, D1, hm1, hS1⟩
  have S2 : Aside (Moved d0 D1 ∧ SWK enc k w0 blk off D1 w1) := ⟨hm1, hS1⟩
  clear hm1 hS1
  go_wp2
  go_end0
  exact ⟨rfl, D1, S2.out⟩
end
end Go.Proofs.YtlgmbljfjfcpoaaGreat.Wk
