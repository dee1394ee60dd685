/- What two slices have in common; the slot of a piece. -/
import Derived.Test.YthphplmcojdpeaaDm0
import Derived.Test.YthphplmcojdpeaaDl1
import Derived.Test.YthphplmcojdpeaaAf0
set_option linter.unusedVariables false
set_option linter.unusedSimpArgs false
namespace Go.Proofs.Ythphplmcojdpeaa
open Go.RowKit

set_option maxRecDepth 100000 in
set_option maxHeartbeats 1600000 in
theorem common_any (va vb : Value) (a b : List UInt8) (w : World) (ha : Sl w va a) (hb : Sl w vb b) :
    Calls Try.prog 33 #[va, vb] w fun e w' => e = .returned (.int .i64 ((lcp a b : Nat) : Int)) ∧ Below w.heap.size w w' := by
  obtain ⟨A, c, rfl, hl, hcm, hI⟩ := ha.len
  obtain ⟨B, cb, rfl, hlb, hcmb, hIb⟩ := hb.len
  unfold maxLen at hcm hcmb
  obtain ⟨hm1, hm2⟩ := lcp_le a b
  have HAT := Lib.hid (fun i (h : i < lcp a b) => lcp_at h)
  have HEND := Lib.hid (lcp_end a b)
  obtain ⟨m, hM⟩ : ∃ m, lcp a b = m := ⟨_, rfl⟩
  obtain ⟨la, hLA⟩ : ∃ l, a.length = l := ⟨_, rfl⟩
  obtain ⟨lb, hLB⟩ : ∃ l, b.length = l := ⟨_, rfl⟩
  rw [hM] at hm1 hm2 HAT HEND ⊢
  rw [hLA] at hl hm1 HEND ⊢
  rw [hLB] at hlb hm2 HEND ⊢
  have HI := Lib.hid hI
  have HIB := Lib.hid hIb
  have HLA := Lib.hid hLA
  have HLB := Lib.hid hLB
  clear hI hIb hLA hLB ha hb hM
  go_enter Try.func33, Try.ntmps33
  go_wp2
  case inr =>
    have hbl : la ≤ la ∧ la ≤ lb := by omega
    obtain ⟨hb1, hb2⟩ := hbl
    have hmb : m ≤ la := by omega
    have HEN : Hid (m < la → a.getD m 0 ≠ b.getD m 0) := fun h => HEND.out (by omega) (by omega)
    go_loopw [6, 13] (fun _ i wr => ∃ k : Nat, k ≤ m ∧ i = .int .i64 k ∧ Below w.heap.size w wr) (fun _ i _ => la - (intOf i).toNat)
    case atStart => exact ⟨0, Nat.zero_le _, rfl, Below.refl _ _⟩
    case round =>
      obtain ⟨k, hk, rfl, hbw⟩ := hrel
      have HBW := Lib.hid hbw
      clear hbw
      by_cases hkb : k < la
      · have hkb2 : (k : Int) < (la : Int) := by omega
        have hk0 : (0 : Int) ≤ (k : Int) := by omega
        have hka2 : (k : Int) < (la : Int) := by omega
        have hkb3 : (k : Int) < (lb : Int) := by omega
        obtain ⟨ad, rfl, hcell⟩ := (HI.out.below HBW.out).at_ k (by rw [HLA.out]; omega)
        obtain ⟨ad2, rfl, hcell2⟩ := (HIB.out.below HBW.out).at_ k (by rw [HLB.out]; omega)
        by_cases hkm : k < m
        · rw [HAT.out k hkm] at hcell
          generalize bi (b.getD k 0) = x at *
          have hne : (x != x) = false := bne_self_eq_false x
          clear hk hb1 hb2
          go_wp2_with fail
          go_quiet (fail)
          go_wp2
          go_roundw
          case rel => exact ⟨k + 1, by omega, by go_num, below_drewN HBW.out _⟩
          case measure => simp [intOf]; omega
        · have hke : k = m := by omega
          have hne : (bi (a.getD k 0) != bi (b.getD k 0)) = true := by
            rw [bne_iff_ne]
            intro e
            exact HEN.out (by omega) (by rw [← hke]; exact bi_inj e)
          generalize bi (a.getD k 0) = x at *
          generalize bi (b.getD k 0) = y at *
          have HKE := Lib.hid hke
          clear hk hkm hb1 hb2 hke
          go_wp2_with fail
          go_quiet (fail)
          go_wp2
          go_ret
          exact ⟨by rw [← HKE.out]; rfl, below_drewN HBW.out _⟩
      · have hkb2 : (la : Int) ≤ (k : Int) := by omega
        have hke : la = m := by omega
        have HKE := Lib.hid hke
        clear hk hkb hb1 hb2 hke
        go_wp2
        go_ret
        exact ⟨by rw [← HKE.out]; rfl, HBW.out⟩
  case inl =>
    have hbl : lb ≤ la ∧ lb ≤ lb := by omega
    obtain ⟨hb1, hb2⟩ := hbl
    have hmb : m ≤ lb := by omega
    have HEN : Hid (m < lb → a.getD m 0 ≠ b.getD m 0) := fun h => HEND.out (by omega) (by omega)
    go_loopw [6, 13] (fun _ i wr => ∃ k : Nat, k ≤ m ∧ i = .int .i64 k ∧ Below w.heap.size w wr) (fun _ i _ => lb - (intOf i).toNat)
    case atStart => exact ⟨0, Nat.zero_le _, rfl, Below.refl _ _⟩
    case round =>
      obtain ⟨k, hk, rfl, hbw⟩ := hrel
      have HBW := Lib.hid hbw
      clear hbw
      by_cases hkb : k < lb
      · have hkb2 : (k : Int) < (lb : Int) := by omega
        have hk0 : (0 : Int) ≤ (k : Int) := by omega
        have hka2 : (k : Int) < (la : Int) := by omega
        have hkb3 : (k : Int) < (lb : Int) := by omega
        obtain ⟨ad, rfl, hcell⟩ := (HI.out.below HBW.out).at_ k (by rw [HLA.out]; omega)
        obtain ⟨ad2, rfl, hcell2⟩ := (HIB.out.below HBW.out).at_ k (by rw [HLB.out]; omega)
        by_cases hkm : k < m
        · rw [HAT.out k hkm] at hcell
          generalize bi (b.getD k 0) = x at *
          have hne : (x != x) = false := bne_self_eq_false x
          clear hk hb1 hb2
          go_wp2_with fail
          go_quiet (fail)
          go_wp2
          go_roundw
          case rel => exact ⟨k + 1, by omega, by go_num, below_drewN HBW.out _⟩
          case measure => simp [intOf]; omega
        · have hke : k = m := by omega
          have hne : (bi (a.getD k 0) != bi (b.getD k 0)) = true := by
            rw [bne_iff_ne]
            intro e
            exact HEN.out (by omega) (by rw [← hke]; exact bi_inj e)
          generalize bi (a.getD k 0) = x at *
          generalize bi (b.getD k 0) = y at *
          have HKE := Lib.hid hke
          clear hk hkm hb1 hb2 hke
          go_wp2_with fail
          go_quiet (fail)
          go_wp2
          go_ret
          exact ⟨by rw [← HKE.out]; rfl, below_drewN HBW.out _⟩
      · have hkb2 : (lb : Int) ≤ (k : Int) := by omega
        have hke : lb = m := by omega
        have HKE := Lib.hid hke
        clear hk hkb hb1 hb2 hke
        go_wp2
        go_ret
        exact ⟨by rw [← HKE.out]; rfl, HBW.out⟩

/-- The slots: FNV-1a over 8 bytes. -/
def mixF (s : Int) (c : UInt8) : Int := IntKind.u64.wrap (bits .xor .u64 s (bi c) * 1099511628211)
def hashF (t : List UInt8) : Int := (t.take 8).foldl mixF 14695981039346656037
def slotF (L : Nat) (t : List UInt8) : Nat := (hashF t % (L : Int)).toNat
theorem mixF_pos (s : Int) (c : UInt8) : 0 ≤ mixF s c ∧ mixF s c ≤ 18446744073709551615 := by
  unfold mixF
  rw [IntKind.wrap_u64]
  omega
theorem fold_pos : ∀ (l : List UInt8) (s : Int), 0 ≤ s → s ≤ 18446744073709551615 → 0 ≤ l.foldl mixF s ∧ l.foldl mixF s ≤ 18446744073709551615
  | [], s, h1, h2 => ⟨h1, h2⟩
  | c :: l, s, _, _ => fold_pos l (mixF s c) (mixF_pos s c).1 (mixF_pos s c).2
theorem slotF_lt {L : Nat} (h : 0 < L) (t : List UInt8) : slotF L t < L := by
  unfold slotF
  have := Int.emod_lt_of_pos (hashF t) (show (0 : Int) < (L : Int) by omega)
  have := Int.emod_nonneg (hashF t) (show (L : Int) ≠ 0 by omega)
  omega
theorem slotF_cast {L : Nat} (h : 0 < L) (t : List UInt8) : ((slotF L t : Nat) : Int) = hashF t % (L : Int) := by
  unfold slotF
  have := Int.emod_nonneg (hashF t) (show (L : Int) ≠ 0 by omega)
  omega
theorem slotF_same {L : Nat} {a b : List UInt8} (h : 8 ≤ lcp a b) : slotF L a = slotF L b := by unfold slotF hashF; rw [lcp_take8 h]
end Go.Proofs.Ythphplmcojdpeaa
