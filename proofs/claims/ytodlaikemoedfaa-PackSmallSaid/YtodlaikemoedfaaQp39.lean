/- Texts put together: YShN4, YShDl1, YShAf0, YShDm1, YShDm2. -/
import Derived.Test.YtodlaikemoedfaaQp17
import Derived.Test.YtodlaikemoedfaaQp02
import Derived.Test.YtodlaikemoedfaaQp37
import Derived.Test.YtodlaikemoedfaaQp14
import Derived.Deep.QuietTactic
import Derived.Test.YtodlaikemoedfaaQp03
/- The reference's Get. -/
namespace Go.Proofs.Ytodlaikemoedfaa.Sh
open Go.RowKit

/-- What is asked of the bytes ahead of the walk: b stands at k .. k+m behind which it ends or a byte below 128 stands. -/
def Run (bs : List UInt8) (k m : Nat) : Prop := k + m ≤ bs.length ∧ ∀ j, j < m → 128 ≤ (bs.getD (k + j) 0).toNat
end Go.Proofs.Ytodlaikemoedfaa.Sh
/- Cuts of slices; the two numbers at a delta's head, its steps, both sides. -/
set_option linter.unusedVariables false
set_option linter.unusedSimpArgs false
namespace Go.Proofs.Ytodlaikemoedfaa.Sh
open Go.RowKit

theorem d_size5 (w : World) : (sizeOf (Try.prog.elem 25)).run Try.prog w = .ok 1 w := by kernel_rfl
set_option maxRecDepth 100000 in
theorem d_back (A : Option Addr) (l c k : Nat) (n : Int) (hn : n = (k : Int)) (hkl : k ≤ l) (w : World) :
    (Instr.slice 25 (.slice A l c) (some (.int .i64 n)) none none).run Try.prog w = .ok (.slice (if c = k then A else A.map (·.add k)) (l - k) (c - k)) w := by
  subst hn
  rw [run_slice_l w 25 A l c Try.underlying25 .i64 k (by omega) (by omega), d_size5]
  show Result.ok (Value.slice (if c = k then A else A.map (·.add (k * 1))) _ _) _ = _
  rw [Nat.mul_one]
  rfl
set_option maxRecDepth 100000 in
theorem d_mid (A : Option Addr) (l c lo hi : Nat) (n m : Int) (hn : n = (lo : Int)) (hm : m = (hi : Int)) (h1 : lo ≤ hi) (h2 : hi ≤ c) (w : World) :
    (Instr.slice 25 (.slice A l c) (some (.int .i64 n)) (some (.int .i64 m)) none).run Try.prog w = .ok (.slice (if c = lo then A else A.map (·.add lo)) (hi - lo) (c - lo)) w := by
  subst hn hm
  rw [run_slice_lh w 25 A l c Try.underlying25 .i64 .i64 lo hi (by omega) (by omega) (by omega), d_size5]
  show Result.ok (Value.slice (if c = lo then A else A.map (·.add (lo * 1))) _ _) _ = _
  rw [Nat.mul_one]
  rfl
theorem In.drop_ {w : World} {A : Option Addr} {bs : List UInt8} (h : In w A bs) (k : Nat) : In w (A.map (·.add k)) (bs.drop k) := h.cut k _ (fun _ ad hA => by rw [hA]; rfl)
theorem Sl.mid {w : World} {A : Option Addr} {c : Nat} {bs : List UInt8} {l : Nat} (h : Sl w (.slice A l c) bs) (lo hi : Nat) (h1 : lo ≤ hi) (h2 : hi ≤ bs.length) :
    Sl w (.slice (if c = lo then A else A.map (·.add lo)) (hi - lo) (c - lo)) ((bs.drop lo).take (hi - lo)) := by
  obtain ⟨A', c', he, hl, hm, hi', hn⟩ := h
  injection he with e1 e2 e3
  subst e1 e3
  have hlk : ((bs.drop lo).take (hi - lo)).length = hi - lo := by simp; omega
  by_cases h0 : c = lo
  · rw [if_pos h0]
    have h3 : (bs.drop lo).take (hi - lo) = [] := List.eq_nil_of_length_eq_zero (by omega)
    refine ⟨A, c - lo, by rw [hlk], by omega, by omega, by rw [h3]; exact In.nil w A, fun _ => h3⟩
  · rw [if_neg h0]
    refine ⟨A.map (·.add lo), c - lo, by rw [hlk], by omega, by omega, (hi'.drop_ lo).take _, fun h => ?_⟩
    cases A with
    | none => rw [hn rfl]; simp
    | some x => cases h
theorem Sl.back {w : World} {A : Option Addr} {c : Nat} {bs : List UInt8} {l : Nat} (h : Sl w (.slice A l c) bs) (k : Nat) (hk : k ≤ bs.length) : Sl w (.slice (if c = k then A else A.map (·.add k)) (bs.length - k) (c - k)) (bs.drop k) := by
  have := h.mid k bs.length hk (Nat.le_refl _)
  rwa [List.take_of_length_le (by simp)] at this

/-- What a step's reading leaves: the world, the piece, its end, what is wrong. -/
def StepPost (w : World) (s : List UInt8 × Int × Int) (e : Ending) (w' : World) : Prop := ∃ v, e = .returned (.tuple #[v, .int .i64 s.2.1, .int .i64 s.2.2]) ∧ Sl w v s.1 ∧ w = w'

theorem bi1 : bi 1 = 1 := by unfold bi; rfl
theorem bi2 : bi 2 = 2 := by unfold bi; rfl

end Go.Proofs.Ytodlaikemoedfaa.Sh
/- A region that draws its order, whose operations only read, and whose callees lay blocks of their own: walked once. -/
set_option linter.unusedVariables false
set_option linter.unusedSimpArgs false
namespace Go.Proofs.Ytodlaikemoedfaa.Sh
open Go.RowKit

/-- A world in which all that lay in w lies as it did. -/
structure Aft (w : World) where
  w' : World
  h : Below w.heap.size w w'
instance (w : World) : Inhabited (Aft w) := ⟨⟨w, Below.refl _ _⟩⟩
theorem aft_quiet {P : Program} {id : Nat} {Q : Exit → Act → World → Prop} {a : Act} {w : World} {l : List Oper} (hm : P.follows .mixedOrders = true) (hB : Region.lexB .any l.toArray = true)
    (h : wpQuiet P l.toArray (fun w' => ∃ p : Aft w, w' = p.w') (fun a' => ∀ w', (∃ p : Aft w, w' = p.w') → Q .normal a' w') l a) : (Code.region id l.toArray true).wp P Q a w :=
  wp_region_quiet (C := fun w' => ∃ p : Aft w, w' = p.w') hm hB ⟨⟨w.drew, (Below.refl _ _).drew⟩, rfl⟩ (by simpa using h)
theorem Calls.aft_of {P : Program} {f : FuncId} {args : Array Value} {w : World} {p : Aft w} {v : Value} (h : Calls P f args p.w' fun e w' => e = .returned v ∧ Below p.w'.heap.size p.w' w') : Calls P f args p.w' fun e w'' => e = .returned v ∧ ∃ q : Aft w, w'' = q.w' :=
  h.mono fun _ w'' ⟨he, hb⟩ => ⟨he, ⟨w'', p.h.trans (hb.mono p.h.size)⟩, rfl⟩
end Go.Proofs.Ytodlaikemoedfaa.Sh
/- What two slices have in common; the slot of a piece. -/
set_option linter.unusedVariables false
set_option linter.unusedSimpArgs false
namespace Go.Proofs.Ytodlaikemoedfaa.Sh
open Go.RowKit

set_option maxRecDepth 100000 in
set_option maxHeartbeats 1600000 in
theorem common_any (va vb : Value) (a b : List UInt8) (w : World) (ha : Sl w va a) (hb : Sl w vb b) :
    Calls Try.prog 32 #[va, vb] w fun e w' => e = .returned (.int .i64 ((lcp a b : Nat) : Int)) ∧ Below w.heap.size w w' := by
  obtain ⟨A, c, rfl, hl, hcm, hI⟩ := ha.len
  obtain ⟨B, cb, rfl, hlb, hcmb, hIb⟩ := hb.len
  unfold maxLen at hcm hcmb
  obtain ⟨hm1, hm2⟩ := lcp_le a b
  have HAT := Lib.hid (fun i (h : i < lcp a b) => lcp_at h)
  have HEND := Lib.hid (lcp_end a b)
  obtain ⟨m, hM⟩ : ∃ m, lcp a b = m := ⟨_, rfl⟩
  obtain ⟨la, hLA⟩ : ∃ l, a.length = l := ⟨_, rfl⟩
  obtain ⟨lb, hLB⟩ : ∃ l, b.length = l := ⟨_, rfl⟩
  rw [hM] at hm1 hm2 HAT HEND ⊢
  rw [hLA] at hl hm1 HEND ⊢
  rw [hLB] at hlb hm2 HEND ⊢
  have HI := Lib.hid hI
  have HIB := Lib.hid hIb
  have HLA := Lib.hid hLA
  have HLB := Lib.hid hLB
  clear hI hIb hLA hLB ha hb hM
  go_enter Try.func32, Try.ntmps32
  go_wp2
  case inr =>
    have hbl : la ≤ la ∧ la ≤ lb := by omega
    obtain ⟨hb1, hb2⟩ := hbl
    have hmb : m ≤ la := by omega
    have HEN : Hid (m < la → a.getD m 0 ≠ b.getD m 0) := fun h => HEND.out (by omega) (by omega)
    go_loopw [6, 13] (fun _ i wr => ∃ k : Nat, k ≤ m ∧ i = .int .i64 k ∧ Below w.heap.size w wr) (fun _ i _ => la - (intOf i).toNat)
    case atStart => exact ⟨0, Nat.zero_le _, rfl, Below.refl _ _⟩
    case round =>
      obtain ⟨k, hk, rfl, hbw⟩ := hrel
      have HBW := Lib.hid hbw
      clear hbw
      by_cases hkb : k < la
      · have hkb2 : (k : Int) < (la : Int) := by omega
        have hk0 : (0 : Int) ≤ (k : Int) := by omega
        have hka2 : (k : Int) < (la : Int) := by omega
        have hkb3 : (k : Int) < (lb : Int) := by omega
        obtain ⟨ad, rfl, hcell⟩ := (HI.out.below HBW.out).at_ k (by rw [HLA.out]; omega)
        obtain ⟨ad2, rfl, hcell2⟩ := (HIB.out.below HBW.out).at_ k (by rw [HLB.out]; omega)
        by_cases hkm : k < m
        · rw [HAT.out k hkm] at hcell
          generalize bi (b.getD k 0) = x at *
          have hne : (x != x) = false := bne_self_eq_false x
          clear hk hb1 hb2
          go_wp2_with fail
          go_quiet (fail)
          go_wp2
          go_roundw
          case rel => exact ⟨k + 1, by omega, by go_num, below_drewN HBW.out _⟩
          case measure => simp [intOf]; omega
        · have hke : k = m := by omega
          have hne : (bi (a.getD k 0) != bi (b.getD k 0)) = true := by
            rw [bne_iff_ne]
            intro e
            exact HEN.out (by omega) (by rw [← hke]; exact bi_inj e)
          generalize bi (a.getD k 0) = x at *
          generalize bi (b.getD k 0) = y at *
          have HKE := Lib.hid hke
          clear hk hkm hb1 hb2 hke
          go_wp2_with fail
          go_quiet (fail)
          go_wp2
          go_ret
          exact ⟨by rw [← HKE.out]; rfl, below_drewN HBW.out _⟩
      · have hkb2 : (la : Int) ≤ (k : Int) := by omega
        have hke : la = m := by omega
        have HKE := Lib.hid hke
        clear hk hkb hb1 hb2 hke
        go_wp2
        go_ret
        exact ⟨by rw [← HKE.out]; rfl, HBW.out⟩
  case inl =>
    have hbl : lb ≤ la ∧ lb ≤ lb := by omega
    obtain ⟨hb1, hb2⟩ := hbl
    have hmb : m ≤ lb := by omega
    have HEN : Hid (m < lb → a.getD m 0 ≠ b.getD m 0) := fun h => HEND.out (by omega) (by omega)
    go_loopw [6, 13] (fun _ i wr => ∃ k : Nat, k ≤ m ∧ i = .int .i64 k ∧ Below w.heap.size w wr) (fun _ i _ => lb - (intOf i).toNat)
    case atStart => exact ⟨0, Nat.zero_le _, rfl, Below.refl _ _⟩
    case round =>
      obtain ⟨k, hk, rfl, hbw⟩ := hrel
      have HBW := Lib.hid hbw
      clear hbw
      by_cases hkb : k < lb
      · have hkb2 : (k : Int) < (lb : Int) := by omega
        have hk0 : (0 : Int) ≤ (k : Int) := by omega
        have hka2 : (k : Int) < (la : Int) := by omega
        have hkb3 : (k : Int) < (lb : Int) := by omega
        obtain ⟨ad, rfl, hcell⟩ := (HI.out.below HBW.out).at_ k (by rw [HLA.out]; omega)
        obtain ⟨ad2, rfl, hcell2⟩ := (HIB.out.below HBW.out).at_ k (by rw [HLB.out]; omega)
        by_cases hkm : k < m
        · rw [HAT.out k hkm] at hcell
          generalize bi (b.getD k 0) = x at *
          have hne : (x != x) = false := bne_self_eq_false x
          clear hk hb1 hb2
          go_wp2_with fail
          go_quiet (fail)
          go_wp2
          go_roundw
          case rel => exact ⟨k + 1, by omega, by go_num, below_drewN HBW.out _⟩
          case measure => simp [intOf]; omega
        · have hke : k = m := by omega
          have hne : (bi (a.getD k 0) != bi (b.getD k 0)) = true := by
            rw [bne_iff_ne]
            intro e
            exact HEN.out (by omega) (by rw [← hke]; exact bi_inj e)
          generalize bi (a.getD k 0) = x at *
          generalize bi (b.getD k 0) = y at *
          have HKE := Lib.hid hke
          clear hk hkm hb1 hb2 hke
          go_wp2_with fail
          go_quiet (fail)
          go_wp2
          go_ret
          exact ⟨by rw [← HKE.out]; rfl, below_drewN HBW.out _⟩
      · have hkb2 : (lb : Int) ≤ (k : Int) := by omega
        have hke : lb = m := by omega
        have HKE := Lib.hid hke
        clear hk hkb hb1 hb2 hke
        go_wp2
        go_ret
        exact ⟨by rw [← HKE.out]; rfl, HBW.out⟩

/-- The slots: FNV-1a over 8 bytes. -/
def mixF (s : Int) (c : UInt8) : Int := IntKind.u64.wrap (bits .xor .u64 s (bi c) * 1099511628211)
def hashF (t : List UInt8) : Int := (t.take 8).foldl mixF 14695981039346656037
def slotF (L : Nat) (t : List UInt8) : Nat := (hashF t % (L : Int)).toNat
theorem mixF_pos (s : Int) (c : UInt8) : 0 ≤ mixF s c ∧ mixF s c ≤ 18446744073709551615 := by
  unfold mixF
  rw [IntKind.wrap_u64]
  omega
theorem fold_pos : ∀ (l : List UInt8) (s : Int), 0 ≤ s → s ≤ 18446744073709551615 → 0 ≤ l.foldl mixF s ∧ l.foldl mixF s ≤ 18446744073709551615
  | [], s, h1, h2 => ⟨h1, h2⟩
  | c :: l, s, _, _ => fold_pos l (mixF s c) (mixF_pos s c).1 (mixF_pos s c).2
theorem slotF_lt {L : Nat} (h : 0 < L) (t : List UInt8) : slotF L t < L := by
  unfold slotF
  have := Int.emod_lt_of_pos (hashF t) (show (0 : Int) < (L : Int) by omega)
  have := Int.emod_nonneg (hashF t) (show (L : Int) ≠ 0 by omega)
  omega
theorem slotF_cast {L : Nat} (h : 0 < L) (t : List UInt8) : ((slotF L t : Nat) : Int) = hashF t % (L : Int) := by
  unfold slotF
  have := Int.emod_nonneg (hashF t) (show (L : Int) ≠ 0 by omega)
  omega
theorem slotF_same {L : Nat} {a b : List UInt8} (h : 8 ≤ lcp a b) : slotF L a = slotF L b := by unfold slotF hashF; rw [lcp_take8 h]
end Go.Proofs.Ytodlaikemoedfaa.Sh
/- The slot of a piece in an index. -/
set_option linter.unusedVariables false
set_option linter.unusedSimpArgs false
namespace Go.Proofs.Ytodlaikemoedfaa.Sh
open Go.RowKit

set_option maxRecDepth 100000 in
theorem d_front (A : Option Addr) (l c k : Nat) (n : Int) (hn : n = (k : Int)) (hkc : k ≤ c) (w : World) :
    (Instr.slice 25 (.slice A l c) none (some (.int .i64 n)) none).run Try.prog w = .ok (.slice (if c = 0 then A else A.map (·.add 0)) k c) w := by
  subst hn
  rw [run_slice_h w 25 A l c Try.underlying25 .i64 k (by omega) (by omega), d_size5]
  rfl
theorem In.front {w : World} {A : Option Addr} {bs : List UInt8} (h : In w A bs) (c k : Nat) (hk : k ≤ bs.length) : In w (if c = 0 then A else A.map (·.add 0)) (bs.take k) := by
  have hA0 : (if c = 0 then A else A.map (·.add 0)) = A := by
    split
    · rfl
    · cases A with
      | none => rfl
      | some x => show some (x.add 0) = some x; simp [Addr.add]
  rw [hA0]
  exact h.take k

theorem conv_u64 (c : UInt8) : IntKind.u64.wrap (bi c) = bi c := by
  have := bi_lt c
  rw [IntKind.wrap_u64]
  omega
theorem fold_step (t : List UInt8) (k : Nat) (hk : k < t.length) (s : Int) : (t.take (k + 1)).foldl mixF s = IntKind.u64.wrap (bits .xor .u64 ((t.take k).foldl mixF s) (bi (t.getD k 0)) * 1099511628211) := by
  rw [List.take_succ_eq_append_getElem hk, List.foldl_append, List.getD_eq_getElem?_getD, List.getElem?_eq_getElem hk]
  rfl

set_option maxRecDepth 100000 in
set_option maxHeartbeats 1600000 in
theorem slot_any (vb vf vn vt : Value) (fs : List Int) (t : List UInt8) (w : World) (hf : SlV w vf (fs.map iv)) (ht : Sl w vt t) (h8 : 8 ≤ t.length) (h0 : 0 < fs.length) (hfl : fs.length ≤ 1000000) :
    Calls Try.prog 31 #[.agg #[vb, vf, vn], vt] w fun e w' => e = .returned (.int .i64 ((slotF fs.length t : Nat) : Int)) ∧ Below w.heap.size w w' := by
  obtain ⟨F, cf, rfl, hlf, hcf, hRf⟩ := hf.len
  obtain ⟨T, c, rfl, hl, hcm, hI⟩ := ht.len
  unfold maxLen at hcm hcf
  have hfr := fun W => d_front T t.length c 8 8 rfl (by omega) W
  have hIF := hI.front c 8 h8
  obtain ⟨T', hT'⟩ : ∃ T', (if c = 0 then T else T.map (·.add 0)) = T' := ⟨_, rfl⟩
  rw [hT'] at hfr hIF
  have htk : (t.take 8).length = 8 := by rw [List.length_take]; omega
  have HSC := Lib.hid (slotF_cast h0 t)
  have HSL := Lib.hid (slotF_lt h0 t)
  have hfp := fold_pos (t.take 8) 14695981039346656037 (by decide) (by decide)
  unfold hashF at HSC
  obtain ⟨q, hq⟩ : ∃ q, t.take 8 = q := ⟨_, rfl⟩
  rw [hq] at htk hIF HSC hfp
  have HI := Lib.hid hIF
  have HTK := Lib.hid htk
  rw [List.length_map] at hlf ⊢
  obtain ⟨L, hL⟩ : ∃ L, fs.length = L := ⟨_, rfl⟩
  obtain ⟨l, hl'⟩ : ∃ l, t.length = l := ⟨_, rfl⟩
  rw [hL] at HSC HSL hlf h0 hfl ⊢
  rw [hl'] at hfr hl h8 ⊢
  obtain ⟨sl, hsl⟩ : ∃ s, slotF L t = s := ⟨_, rfl⟩
  rw [hsl] at HSC HSL ⊢
  have HBX := Lib.hid ((Below.refl w.heap.size w).alloc (Nat.le_refl _) (.cells #[vb, .slice F L cf, vn] 52))
  clear hIF htk hL hl' hq hsl hI hRf hf ht hT'
  go_enter Try.func31, Try.ntmps31
  go_wp2
  go_loop [5, 7, 11] (fun s _ i => ∃ k : Nat, k ≤ 8 ∧ i = .int .i64 k ∧ s = .int .u64 ((q.take k).foldl mixF 14695981039346656037)) (fun _ _ i => 8 - (intOf i).toNat)
  case atStart => exact ⟨0, by omega, rfl, rfl⟩
  case round =>
    obtain ⟨k, hk, rfl, rfl⟩ := hrel
    by_cases hlt : k < 8
    · obtain ⟨ad, rfl, hcell⟩ := (HI.out.below HBX.out).at_ k (by rw [HTK.out]; exact hlt)
      have hcv := conv_u64 (q.getD k 0)
      have HFS := Lib.hid (fold_step q k (by rw [HTK.out]; exact hlt) 14695981039346656037)
      generalize bi (q.getD k 0) = x at *
      generalize (q.take k).foldl mixF 14695981039346656037 = s at *
      have hk2 : (k : Int) < 8 := by omega
      have hk0 : (0 : Int) ≤ (k : Int) := by omega
      go_wp2
      go_round
      case rel => exact ⟨k + 1, by omega, by go_num, by rw [HFS.out]⟩
      case measure => simp [intOf]; omega
    · obtain rfl : k = 8 := by omega
      rw [List.take_of_length_le (by rw [HTK.out]; exact Nat.le_refl _)]
      obtain ⟨S, hS⟩ : ∃ S, q.foldl mixF 14695981039346656037 = S := ⟨_, rfl⟩
      rw [hS] at HSC hfp ⊢
      obtain ⟨hS0, hS1⟩ := hfp
      have e0 : IntKind.u64.wrap (L : Int) = (L : Int) := by rw [IntKind.wrap_u64]; omega
      have e1 : S.tmod (L : Int) = (sl : Int) := by rw [Int.tmod_eq_emod_of_nonneg hS0]; exact HSC.out.symm
      have e2 : S % (L : Int) = (sl : Int) := HSC.out.symm
      have e3 : IntKind.i64.wrap (sl : Int) = (sl : Int) := IntWalk.i64_in _ (by have := HSL.out; omega)
      have e4 : IntKind.u64.wrap (sl : Int) = (sl : Int) := by rw [IntKind.wrap_u64]; have := HSL.out; omega
      have e5 : ((L : Int) == 0) = false := beq_eq_false_iff_ne.2 (by omega)
      have e6 : (0 : Int) < (L : Int) := by omega
      clear hS
      go_wp2
      go_ret
      exact ⟨rfl, HBX.out⟩
end Go.Proofs.Ytodlaikemoedfaa.Sh
