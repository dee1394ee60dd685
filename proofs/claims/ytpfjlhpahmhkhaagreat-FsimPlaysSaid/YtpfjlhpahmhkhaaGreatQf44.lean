/- Texts put together: WGx2, WGx3, WGx5. -/
import Derived.Test.YtpfjlhpahmhkhaaGreatQf43
import Derived.Test.YtpfjlhpahmhkhaaGreatQf37
/- slices.insertionSortCmpFunc at structs, over any program that bears its body: it sorts, and what is alike stays as it stood. -/
set_option linter.unusedVariables false
set_option linter.unusedSimpArgs false
namespace Go.Proofs.YtpfjlhpahmhkhaaGreat.Wk
open Go.Shelf Go.RowKit Go.Lib Go.Sort

/-- What a step of the sort leaves, exactly: sorted from a to b, nothing else moved. -/
def StepX {α : Type} [Inhabited α] (tag : α → Nat) (key : α → Int) (dt : Array α) (enc : α → List Value) (k : Nat) (w0 : World) (blk off : Nat) (d : Array α) (a b : Nat) (e : Ending) (w' : World) : Prop :=
  e = .returned (.tuple #[]) ∧ ∃ d', (TagOk tag dt d' ∧ Within a b d d' ∧ SrtT tag key d' a b) ∧ SWK enc k w0 blk off d' w'
section
variable {P : Program} {α : Type} [Inhabited α] {k : Nat}
set_option maxHeartbeats 8000000 in
set_option maxRecDepth 1000000 in
theorem insertion_x (T : TypesAs P k) (FG : P.funcs[288]? = some Tryz.f288) (enc : α → List Value) (g : Nat) (cb : Array Value) (cf : α → α → Int) (blk off N cap a b : Nat) (d0 dt d : Array α) (w0 w : World) (tag : α → Nat) (key : α → Int) (hcf : ∀ x y, cf x y < 0 ↔ key x < key y) (htg : TagOk tag dt d) (hti : TagInc tag d a b)
    (eg : ∀ args w, (callFunc g args).run P w = .ok (.enter g args) w) (hcmp : CmpLays P g cb enc k cf blk off N w0)
    (R : RowK enc k w0 blk off d0) (hN0 : d0.size = N) (hdN : d.size = N) (S : SWK enc k w0 blk off d w) (hab : a ≤ b) (hb : b ≤ N) (hsz : N < 4611686018427387904) :
    Calls P 288 #[.slice (some ⟨blk, off, none⟩) N cap, .int .i64 a, .int .i64 b, .func (.func g) #[] cb] w (StepX tag key dt enc k w0 blk off d a b) := by
  have T0 : Aside (TypesAs P k) := T
  have mixed := T.mixed; have t3 := T.t3; have a3 := T.a3; have z3 := T.z3; have t4 := T.t4; have a4 := T.a4; have z4 := T.z4; have t33 := T.t33; have a33 := T.a33; have z33 := T.z33; have aE := T.aE; have zE := T.zE
  clear T
  have S0 : Aside (SWK enc k w0 blk off d w) := S
  have R0 : Aside (RowK enc k w0 blk off d0) := R
  have C0 : Aside (CmpLays P g cb enc k cf blk off N w0) := hcmp
  have HT : Aside (TagOk tag dt d) := htg
  have HI : Aside (TagInc tag d a b) := hti
  have HCF : Aside (∀ x y, cf x y < 0 ↔ key x < key y) := hcf
  clear S R hcmp htg hti hcf
  have wa1 : IntKind.i64.wrap ((a : Int) + 1) = ((a + 1 : Nat) : Int) := by rw [IntKind.wrap_i64]; omega
  go_enter FG, Tryz.ntmps288
  go_wp2
  go_loopg [8] (b - a) (fun kx s wr => ∃ (i : Nat) (D : Array α), s = .int .i64 i ∧ a < i ∧ i ≤ b + 1 ∧ b - i ≤ kx ∧ Aside (InsO tag key dt d D a b i ∧ SWK enc k w0 blk off D wr))
  case atStart => exact ⟨a + 1, d, by simp, by omega, by omega, by omega, InsO.start HT.out, S0.out⟩
  case round =>
    clear S0
    obtain ⟨i, D, rfl, hai, hib, hkx, S1⟩ := hrel
    by_cases hlt : i < b
    · have hlt' : (i : Int) < (b : Int) := by omega
      have wi1 : IntKind.i64.wrap ((i : Int) + 1) = ((i + 1 : Nat) : Int) := by rw [IntKind.wrap_i64]; omega
      go_wp2
      go_loopg [9] i (fun ky s wr => ∃ (j : Nat) (D : Array α), s = .int .i64 j ∧ a ≤ j ∧ j ≤ i ∧ j ≤ ky ∧ Aside (InsI tag key dt d D a i j ∧ SWK enc k w0 blk off D wr))
      case atStart => exact ⟨i, D, rfl, by omega, Nat.le_refl _, Nat.le_refl _, S1.out.1.inner HI.out hai hlt, S1.out.2⟩
      case round =>
        clear S1
        obtain ⟨j, D, rfl, haj, hji, hky, S1⟩ := hrel
        have hDs : D.size = N := S1.out.1.win.size.trans hdN
        by_cases hja : a < j
        · have hjaz : (a : Int) < (j : Int) := by omega
          have hjad : decide ((a : Int) < (j : Int)) = true := by simp; omega
          obtain ⟨y, hy⟩ : ∃ y, j - 1 = y := ⟨_, rfl⟩
          have hyi : (j : Int) - 1 = (y : Int) := by omega
          have hjN : j < N := by omega
          have hyN : y < N := by omega
          have bj : (j : Int) < (N : Int) := by omega
          have bj0 : (0 : Int) ≤ (j : Int) := by omega
          have ej0 : ((j : Int)).toNat = j := by omega
          have by' : (y : Int) < (N : Int) := by omega
          have by0 : (0 : Int) ≤ (y : Int) := by omega
          have ey0 : ((y : Int)).toNat = y := by omega
          have wy : IntKind.i64.wrap (y : Int) = (y : Int) := by rw [IntKind.wrap_i64]; omega
          obtain ⟨xp, hxp⟩ : ∃ x, D[j]! = x := ⟨_, rfl⟩
          obtain ⟨xq, hxq⟩ : ∃ x, D[y]! = x := ⟨_, rfl⟩
          have hDs0 : D.size = d0.size := hDs.trans hN0.symm
          have lp : ∀ n' os', Sem.run P (loadCellsFrom ⟨blk, off + j * k, none⟩ 0 k #[]) (grow (wr.drewN n') os') = .ok (enc xp).toArray (grow (wr.drewN n') os') := fun n' os' => by rw [← hxp]; exact S1.out.2.ld R0.out hDs0 P j (by omega) n' os'
          have lq : ∀ n' os', Sem.run P (loadCellsFrom ⟨blk, off + y * k, none⟩ 0 k #[]) (grow (wr.drewN n') os') = .ok (enc xq).toArray (grow (wr.drewN n') os') := fun n' os' => by rw [← hxq]; exact S1.out.2.ld R0.out hDs0 P y (by omega) n' os'
          have hcg := fun n' os' => S1.out.2.cmp C0.out hDs xp xq n' os'
          have SG : Aside (∀ n' os', SWK enc k w0 blk off D (grow (wr.drewN n') os')) := fun n' os' => S1.out.2.grown n' os'
          have HXP : Aside (D[j]! = xp) := hxp
          have HXQ : Aside (D[y]! = xq) := hxq
          clear hxp hxq hDs0
          by_cases hlv : cf xp xq < 0
          · have HK : Aside (key D[j]! < key D[y]!) := by show key D[j]! < key D[y]!; rw [HXP.out, HXQ.out]; exact (HCF.out xp xq).1 hlv
            have hdv : decide (cf xp xq < 0) = true := by simp; omega
            go_wp2_with fail
            go_quiet_grown (first | (go_at_fn g; refine Calls.grown_of (hcg _ _)))
            go_wp2_with fail
            have S3 : Aside (InsI tag key dt d D a i j ∧ SWK enc k w0 blk off D (grow (wr.drewN nq) osq)) := ⟨S1.out.1, SG.out nq osq⟩
            clear lp lq hcg SG S1
            generalize grow (wr.drewN nq) osq = wr2 at S3 ⊢
            have hxD : j < D.size := by omega
            have hyD : y < D.size := by omega
            have ea44 : ((j : Int)).toNat = j := by omega
            have pa44 : (0 : Int) ≤ (j : Int) := by omega
            have ba44 : (j : Int) < (N : Int) := by omega
            have ra44 : IntKind.i64.wrap ((j : Int)) = (j : Int) := by rw [IntKind.wrap_i64]; omega
            have ec44 : ((y : Int)).toNat = y := by omega
            have pc44 : (0 : Int) ≤ (y : Int) := by omega
            have bc44 : (y : Int) < (N : Int) := by omega
            have rc44 : IntKind.i64.wrap ((y : Int)) = (y : Int) := by rw [IntKind.wrap_i64]; omega
            have hDs0 : D.size = d0.size := hDs.trans hN0.symm
            have S2 : Aside (InsI tag key dt d (swp D j y) a i y ∧ SWK enc k w0 blk off (swp D j y) ((wr2.drew.setCells blk (off + j * k) (enc D[y]!)).setCells blk (off + y * k) (enc D[j]!))) := ⟨S3.out.1.step (by omega) (by omega) hji (by omega) HK.out, S3.out.2.swapped R0.out j y hxD hyD⟩
            have l44a := S3.out.2.ld1 R0.out hDs0 P j hxD
            have l44b := S3.out.2.ld1 R0.out hDs0 P y hyD
            have s44a := S3.out.2.st1 R0.out hDs0 P j hxD D[y]!
            have s44b := S3.out.2.st2 R0.out hDs0 P j y hxD hyD D[y]! D[j]!
            have n44a : (enc D[j]!).length = k := R0.out.hk _
            have n44b : (enc D[y]!).length = k := R0.out.hk _
            generalize enc D[j]! = cI44 at S2 l44a s44b n44a
            generalize enc D[y]! = cJ44 at S2 l44b s44a s44b n44b
            clear S3 hxD hyD hDs hDs0
            go_big_region_o
            clear l44a l44b s44a s44b
            generalize (wr2.drew.setCells blk (off + j * k) cJ44).setCells blk (off + y * k) cI44 = w2 at S2 ⊢
            go_wp2
            go_roundg y
            case measure => omega
            case rel => exact ⟨y, _, by simp, by omega, by omega, Nat.le_refl _, S2⟩
          · have HK : Aside (¬ key D[j]! < key D[j - 1]!) := by show ¬ key D[j]! < key D[j - 1]!; rw [hy, HXP.out, HXQ.out]; exact fun e => hlv ((HCF.out xp xq).2 e)
            have hdv : decide (cf xp xq < 0) = false := by simp; omega
            go_wp2_with fail
            go_quiet_grown (first | (go_at_fn g; refine Calls.grown_of (hcg _ _)))
            go_wp2
            go_roundg (b - (i + 1))
            case measure => omega
            case rel => exact ⟨i + 1, D, by simp, by omega, by omega, Nat.le_refl _, S1.out.1.here hja hji hlt (by have := HK.out; omega), SG.out _ _⟩
        · have hjaz : ¬ (a : Int) < (j : Int) := by omega
          have hjad : decide ((a : Int) < (j : Int)) = false := by simp; omega
          have SD : Aside (InsO tag key dt d D a b (i + 1) ∧ SWK enc k w0 blk off D wr.drew) := ⟨(by
            have e : j = a := by omega
            have h1 := S1.out.1
            rw [e] at h1
            exact h1.first hlt), S1.out.2.drew⟩
          go_wp2_with fail
          go_big_region_o
          all_goals go_wp2
          go_roundg (b - (i + 1))
          case measure => omega
          case rel => exact ⟨i + 1, D, by simp, by omega, by omega, Nat.le_refl _, SD⟩
    · have hlt' : ¬ (i : Int) < (b : Int) := by omega
      go_wp2
      go_end0
      exact ⟨rfl, D, S1.out.1.done (by omega), S1.out.2⟩
end
end Go.Proofs.YtpfjlhpahmhkhaaGreat.Wk
/- slices.rotateCmpFunc at structs, over any program that bears its body: it exchanges two runs that lie side by side, exactly. -/
set_option linter.unusedVariables false
set_option linter.unusedSimpArgs false
namespace Go.Proofs.YtpfjlhpahmhkhaaGreat.Wk
open Go.Shelf Go.RowKit Go.Lib Go.Sort

section
variable {β : Type} [Inhabited β]
theorem get_swapN (D : Array β) {x y n : Nat} (h1 : x + n ≤ y) (h2 : y + n ≤ D.size) : ∀ t, (swapN D x y n)[t]! = D[if x ≤ t ∧ t < x + n then y + (t - x) else if y ≤ t ∧ t < y + n then x + (t - y) else t]! := by
  induction n with
  | zero => intro t; rw [if_neg (by omega), if_neg (by omega)]; rfl
  | succ n ih =>
    intro t
    have hs : (swapN D x y n).size = D.size := swapN_size D x y n
    rw [swapN, get_swp _ (by omega) (by omega), ih (by omega) (by omega)]
    congr 1
    by_cases c1 : t = x + n
    · subst c1
      rw [if_pos rfl, if_neg (by omega), if_neg (by omega), if_pos (by omega)]
      omega
    · rw [if_neg c1]
      by_cases c2 : t = y + n
      · subst c2
        rw [if_pos rfl, if_neg (by omega), if_neg (by omega), if_neg (by omega), if_pos (by omega)]
        omega
      · rw [if_neg c2]
        by_cases c3 : x ≤ t ∧ t < x + n
        · rw [if_pos c3, if_pos (by omega)]
        · rw [if_neg c3, if_neg (show ¬ (x ≤ t ∧ t < x + (n + 1)) by omega)]
          by_cases c4 : y ≤ t ∧ t < y + n
          · rw [if_pos c4, if_pos (by omega)]
          · rw [if_neg c4, if_neg (show ¬ (y ≤ t ∧ t < y + (n + 1)) by omega)]
/-- What stands from x on, below m, and from m on, below y, have changed places. -/
structure Rot (x m y : Nat) (D E : Array β) : Prop where
  size : E.size = D.size
  out : ∀ t, t < x ∨ y ≤ t → E[t]! = D[t]!
  lo : ∀ t, x ≤ t → t < x + (y - m) → E[t]! = D[t + (m - x)]!
  hi : ∀ t, x + (y - m) ≤ t → t < y → E[t]! = D[t - (y - m)]!
theorem Rot.all {D : Array β} {m i : Nat} (hi : i ≤ m) (hs : m + i ≤ D.size) : Rot (m - i) m (m + i) D (swapN D (m - i) m i) := by
  have g := get_swapN D (x := m - i) (y := m) (n := i) (by omega) hs
  refine ⟨swapN_size D _ _ _, fun t ht => ?_, fun t h1 h2 => ?_, fun t h1 h2 => ?_⟩
  · rw [g, if_neg (by omega), if_neg (by omega)]
  · rw [g, if_pos (by omega)]
    congr 1
    omega
  · rw [g, if_neg (by omega), if_pos (by omega)]
    congr 1
    omega
theorem Rot.left {D E : Array β} {m i j : Nat} (hi : i ≤ m) (hji : j < i) (hs : m + j ≤ D.size) (h : Rot (m - (i - j)) m (m + j) (swapN D (m - i) m j) E) : Rot (m - i) m (m + j) D E := by
  have g := get_swapN D (x := m - i) (y := m) (n := j) (by omega) hs
  refine ⟨h.size.trans (swapN_size D _ _ _), fun t ht => ?_, fun t h1 h2 => ?_, fun t h1 h2 => ?_⟩
  · rw [h.out t (by omega), g, if_neg (by omega), if_neg (by omega)]
  · rw [h.out t (by omega), g, if_pos (by omega)]
    congr 1
    omega
  · by_cases c : t < m - (i - j) + (m + j - m)
    · rw [h.lo t (by omega) c, g, if_neg (by omega), if_pos (by omega)]
      congr 1
      omega
    · rw [h.hi t (by omega) h2, g, if_neg (by omega), if_neg (by omega)]
theorem Rot.right {D E : Array β} {m i j : Nat} (hi : i ≤ m) (hij : i < j) (hs : m + j ≤ D.size) (h : Rot (m - i) m (m + (j - i)) (swapN D (m - i) (m + j - i) i) E) : Rot (m - i) m (m + j) D E := by
  have g := get_swapN D (x := m - i) (y := m + j - i) (n := i) (by omega) (by omega)
  refine ⟨h.size.trans (swapN_size D _ _ _), fun t ht => ?_, fun t h1 h2 => ?_, fun t h1 h2 => ?_⟩
  · rw [h.out t (by omega), g, if_neg (by omega), if_neg (by omega)]
  · by_cases c : t < m - i + (m + (j - i) - m)
    · rw [h.lo t (by omega) c, g]
      by_cases c2 : t + (m - (m - i)) < m
      · omega
      · rw [if_neg (by omega), if_neg (by omega)]
    · rw [h.hi t (by omega) (by omega), g, if_pos (by omega)]
      congr 1
      omega
  · rw [h.out t (by omega), g, if_neg (by omega), if_pos (by omega)]
    congr 1
    omega
variable {tag : β → Nat} {dt : Array β}
theorem TagOk.swapN {D : Array β} (h : TagOk tag dt D) {x y n : Nat} (h1 : x + n ≤ D.size) (h2 : y + n ≤ D.size) : TagOk tag dt (swapN D x y n) := by
  induction n with
  | zero => exact h
  | succ n ih =>
    have hs : (Wk.swapN D x y n).size = D.size := swapN_size D x y n
    exact (ih (by omega) (by omega)).swp (by omega) (by omega)
end
end Go.Proofs.YtpfjlhpahmhkhaaGreat.Wk
/- symMerge, stable, as plain data: what its loops keep, how its halves join. (No Go in it.) -/
set_option linter.unusedVariables false
set_option linter.unusedSimpArgs false
namespace Go.Proofs.YtpfjlhpahmhkhaaGreat.Wk
open Go.Shelf Go.RowKit Go.Lib Go.Sort

section
variable {β : Type} [Inhabited β]
/-- Two runs, each sorted; what is in the first was ahead of what is in the second. -/
structure PreM (tag : β → Nat) (key : β → Int) (dt d : Array β) (a m b : Nat) : Prop where
  tags : TagOk tag dt d
  one : SrtT tag key d a m
  two : SrtT tag key d m b
  less : ∀ i j, a ≤ i → i < m → m ≤ j → j < b → tag d[i]! < tag d[j]!
structure PostM (tag : β → Nat) (key : β → Int) (dt d D : Array β) (a b : Nat) : Prop where
  tags : TagOk tag dt D
  win : Within a b d D
  srt : SrtT tag key D a b
variable {tag : β → Nat} {key : β → Int} {dt d D : Array β} {a m b i j c q : Nat}
theorem SrtT.key_le (h : SrtT tag key d a b) (h1 : a ≤ i) (h2 : i ≤ j) (h3 : j < b) : key d[i]! ≤ key d[j]! := by
  by_cases e : i = j
  · rw [e]; exact Int.le_refl _
  · exact (h i j h1 (by omega) h3).le
theorem PreM.join (h : PreM tag key dt d a m b) (h1 : a ≤ i) (h2 : i < m) (h3 : m ≤ j) (h4 : j < b) (hk : key d[i]! ≤ key d[j]!) : tlt tag key d[i]! d[j]! := by
  by_cases e : key d[i]! = key d[j]!
  · exact .inr ⟨e, h.less i j h1 h2 h3 h4⟩
  · exact .inl (by omega)
/-- One ahead of a run: where it goes. -/
structure LookA (key : β → Int) (d D : Array β) (a m b i j : Nat) : Prop where
  same : D = d
  lo : ∀ t, m ≤ t → t < i → key d[t]! < key d[a]!
  hi : ∀ t, j ≤ t → t < b → ¬ key d[t]! < key d[a]!
theorem LookA.start (key : β → Int) (d : Array β) (a m b : Nat) : LookA key d d a m b m b := ⟨rfl, fun t h1 h2 => by omega, fun t h1 h2 => by omega⟩
theorem LookA.up (h : LookA key d D a m b i j) (hp : PreM tag key dt d a m b) {x : Nat} (h1 : m ≤ x) (h2 : x < b) (hk : key D[x]! < key D[a]!) : LookA key d D a m b (x + 1) j := by
  have e := h.same
  subst e
  refine ⟨rfl, fun t t1 t2 => ?_, h.hi⟩
  have := hp.two.key_le t1 (show t ≤ x by omega) h2
  omega
theorem LookA.down (h : LookA key d D a m b i j) (hp : PreM tag key dt d a m b) {x : Nat} (h1 : m ≤ x) (hk : ¬ key D[x]! < key D[a]!) : LookA key d D a m b i x := by
  have e := h.same
  subst e
  refine ⟨rfl, h.lo, fun t t1 t2 => ?_⟩
  have := hp.two.key_le h1 t1 t2
  omega
/-- It goes up to c. -/
structure GoesA (tag : β → Nat) (key : β → Int) (dt d D : Array β) (a b q c : Nat) : Prop where
  tags : TagOk tag dt D
  size : D.size = d.size
  le : a ≤ c ∧ c ≤ q
  out : ∀ t, t < a ∨ c < t → D[t]! = d[t]!
  ins : ∀ t, a ≤ t → t < c → D[t]! = d[t + 1]!
  at_ : D[c]! = d[a]!
theorem LookA.goes (h : LookA key d D a m b (q + 1) j) (hp : PreM tag key dt d a m b) (haq : a ≤ q) : GoesA tag key dt d D a b q a := by
  have e := h.same
  subst e
  exact ⟨hp.tags, rfl, ⟨Nat.le_refl _, haq⟩, fun _ _ => rfl, fun t h1 h2 => by omega, rfl⟩
theorem GoesA.step (h : GoesA tag key dt d D a b q c) {y : Nat} (hy : c + 1 = y) (hq : c < q) (hs : y < D.size) : GoesA tag key dt d (swp D c y) a b q y := by
  have hc : c < D.size := by omega
  have hle := h.le
  refine ⟨h.tags.swp hc hs, by rw [size_swp]; exact h.size, ⟨by omega, by omega⟩, fun t ht => ?_, fun t h1 h2 => ?_, ?_⟩
  · rw [get_swp D hc hs, if_neg (by omega), if_neg (by omega)]
    exact h.out t (by omega)
  · rw [get_swp D hc hs]
    by_cases e : t = c
    · rw [if_pos e, h.out y (by omega), e, hy]
    · rw [if_neg e, if_neg (by omega)]
      exact h.ins t h1 (by omega)
  · rw [get_swp D hc hs, if_neg (by omega), if_pos rfl]
    exact h.at_
theorem GoesA.done (h : GoesA tag key dt d D a b q q) (hp : PreM tag key dt d a m b) (hma : m = a + 1) (hqb : q < b) (hlo : ∀ t, m ≤ t → t < q + 1 → key d[t]! < key d[a]!) (hhi : ∀ t, q + 1 ≤ t → t < b → ¬ key d[t]! < key d[a]!) : PostM tag key dt d D a b := by
  have hle := h.le
  refine ⟨h.tags, ⟨h.size, fun t ht => h.out t (by omega), fun t h1 h2 => ?_⟩, fun x y h1 h2 h3 => ?_⟩
  · by_cases c1 : t < q
    · exact ⟨t + 1, by omega, by omega, h.ins t h1 c1⟩
    · by_cases c2 : t = q
      · exact ⟨a, by omega, by omega, by rw [c2]; exact h.at_⟩
      · exact ⟨t, h1, h2, h.out t (by omega)⟩
  · by_cases c1 : y < q
    · rw [h.ins x h1 (by omega), h.ins y (by omega) c1]
      exact hp.two _ _ (by omega) (by omega) (by omega)
    · by_cases c2 : y = q
      · rw [c2, h.at_, h.ins x h1 (by omega)]
        exact .inl (hlo _ (by omega) (by omega))
      · rw [h.out y (by omega)]
        by_cases c3 : x < q
        · rw [h.ins x h1 c3]
          exact hp.two _ _ (by omega) (by omega) h3
        · by_cases c4 : x = q
          · rw [c4, h.at_]
            exact hp.join (Nat.le_refl _) (by omega) (by omega) h3 (by have := hhi y (by omega) h3; omega)
          · rw [h.out x (by omega)]
            exact hp.two _ _ (by omega) h2 h3
/-- One behind a run: where it goes. -/
structure LookB (key : β → Int) (d D : Array β) (a m i j : Nat) : Prop where
  same : D = d
  lo : ∀ t, a ≤ t → t < i → ¬ key d[m]! < key d[t]!
  hi : ∀ t, j ≤ t → t < m → key d[m]! < key d[t]!
theorem LookB.start (key : β → Int) (d : Array β) (a m : Nat) : LookB key d d a m a m := ⟨rfl, fun t h1 h2 => by omega, fun t h1 h2 => by omega⟩
theorem LookB.up (h : LookB key d D a m i j) (hp : PreM tag key dt d a m b) {x : Nat} (h2 : x < m) (hk : ¬ key D[m]! < key D[x]!) : LookB key d D a m (x + 1) j := by
  have e := h.same
  subst e
  refine ⟨rfl, fun t t1 t2 => ?_, h.hi⟩
  have := hp.one.key_le t1 (show t ≤ x by omega) h2
  omega
theorem LookB.down (h : LookB key d D a m i j) (hp : PreM tag key dt d a m b) {x : Nat} (h1 : a ≤ x) (hk : key D[m]! < key D[x]!) : LookB key d D a m i x := by
  have e := h.same
  subst e
  refine ⟨rfl, h.lo, fun t t1 t2 => ?_⟩
  have := hp.one.key_le h1 t1 t2
  omega
/-- It goes down to c. -/
structure GoesB (tag : β → Nat) (dt d D : Array β) (m q c : Nat) : Prop where
  tags : TagOk tag dt D
  size : D.size = d.size
  le : q ≤ c ∧ c ≤ m
  out : ∀ t, t < c ∨ m < t → D[t]! = d[t]!
  ins : ∀ t, c < t → t ≤ m → D[t]! = d[t - 1]!
  at_ : D[c]! = d[m]!
theorem LookB.goes (h : LookB key d D a m q j) (hp : PreM tag key dt d a m b) (hq : q ≤ m) : GoesB tag dt d D m q m := by
  have e := h.same
  subst e
  exact ⟨hp.tags, rfl, ⟨hq, Nat.le_refl _⟩, fun _ _ => rfl, fun t h1 h2 => by omega, rfl⟩
theorem GoesB.step (h : GoesB tag dt d D m q c) {y : Nat} (hy : c - 1 = y) (hq : q < c) (hs : c < D.size) : GoesB tag dt d (swp D c y) m q y := by
  have hc : y < D.size := by omega
  have hle := h.le
  refine ⟨h.tags.swp hs hc, by rw [size_swp]; exact h.size, ⟨by omega, by omega⟩, fun t ht => ?_, fun t h1 h2 => ?_, ?_⟩
  · rw [get_swp D hs hc, if_neg (by omega), if_neg (by omega)]
    exact h.out t (by omega)
  · rw [get_swp D hs hc]
    by_cases e : t = c
    · rw [if_pos e, h.out y (by omega), e, hy]
    · rw [if_neg e, if_neg (by omega)]
      exact h.ins t (by omega) h2
  · rw [get_swp D hs hc, if_neg (by omega), if_pos rfl]
    exact h.at_
theorem GoesB.done (h : GoesB tag dt d D m q q) (hp : PreM tag key dt d a m b) (hmb : b = m + 1) (haq : a ≤ q) (ham : a < m) (hlo : ∀ t, a ≤ t → t < q → ¬ key d[m]! < key d[t]!) (hhi : ∀ t, q ≤ t → t < m → key d[m]! < key d[t]!) : PostM tag key dt d D a b := by
  have hle := h.le
  refine ⟨h.tags, ⟨h.size, fun t ht => h.out t (by omega), fun t h1 h2 => ?_⟩, fun x y h1 h2 h3 => ?_⟩
  · by_cases c1 : t < q
    · exact ⟨t, h1, h2, h.out t (by omega)⟩
    · by_cases c2 : t = q
      · exact ⟨m, by omega, by omega, by rw [c2]; exact h.at_⟩
      · exact ⟨t - 1, by omega, by omega, h.ins t (by omega) (by omega)⟩
  · by_cases c1 : y < q
    · rw [h.out x (by omega), h.out y (by omega)]
      exact hp.one _ _ h1 h2 (by omega)
    · by_cases c2 : y = q
      · rw [c2, h.at_, h.out x (by omega)]
        exact hp.join h1 (by omega) (Nat.le_refl _) (by omega) (by have := hlo x h1 (by omega); omega)
      · rw [h.ins y (by omega) (by omega)]
        by_cases c3 : x < q
        · rw [h.out x (by omega)]
          exact hp.one _ _ h1 (by omega) (by omega)
        · by_cases c4 : x = q
          · rw [c4, h.at_]
            exact .inl (hhi _ (by omega) (by omega))
          · rw [h.ins x (by omega) (by omega)]
            exact hp.one _ _ (by omega) (by omega) (by omega)
end
end Go.Proofs.YtpfjlhpahmhkhaaGreat.Wk
