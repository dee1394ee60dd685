/- The slot of a piece in an index. -/
import Derived.Test.YthphplmcojdpeaaDm1
set_option linter.unusedVariables false
set_option linter.unusedSimpArgs false
namespace Go.Proofs.Ythphplmcojdpeaa
open Go.RowKit

theorem d_front (A : Option Addr) (l c k : Nat) (n : Int) (hn : n = (k : Int)) (hkc : k ≤ c) (w : World) :
    (Instr.slice 22 (.slice A l c) none (some (.int .i64 n)) none).run Try.prog w = .ok (.slice (if c = 0 then A else A.map (·.add 0)) k c) w := by
  subst hn
  rw [run_slice_h w 22 A l c Try.underlying22 .i64 k (by omega) (by omega), d_size5]
  rfl
theorem In.front {w : World} {A : Option Addr} {bs : List UInt8} (h : In w A bs) (c k : Nat) (hk : k ≤ bs.length) : In w (if c = 0 then A else A.map (·.add 0)) (bs.take k) := by
  have hA0 : (if c = 0 then A else A.map (·.add 0)) = A := by
    split
    · rfl
    · cases A with
      | none => rfl
      | some x => show some (x.add 0) = some x; simp [Addr.add]
  rw [hA0]
  exact h.take k

theorem conv_u64 (c : UInt8) : IntKind.u64.wrap (bi c) = bi c := by
  have := bi_lt c
  rw [IntKind.wrap_u64]
  omega
theorem fold_step (t : List UInt8) (k : Nat) (hk : k < t.length) (s : Int) : (t.take (k + 1)).foldl mixF s = IntKind.u64.wrap (bits .xor .u64 ((t.take k).foldl mixF s) (bi (t.getD k 0)) * 1099511628211) := by
  rw [List.take_succ_eq_append_getElem hk, List.foldl_append, List.getD_eq_getElem?_getD, List.getElem?_eq_getElem hk]
  rfl

set_option maxRecDepth 100000 in
set_option maxHeartbeats 1600000 in
theorem slot_any (vb vf vn vt : Value) (fs : List Int) (t : List UInt8) (w : World) (hf : SlV w vf (fs.map iv)) (ht : Sl w vt t) (h8 : 8 ≤ t.length) (h0 : 0 < fs.length) (hfl : fs.length ≤ 1000000) :
    Calls Try.prog 31 #[.agg #[vb, vf, vn], vt] w fun e w' => e = .returned (.int .i64 ((slotF fs.length t : Nat) : Int)) ∧ Below w.heap.size w w' := by
  obtain ⟨F, cf, rfl, hlf, hcf, hRf⟩ := hf.len
  obtain ⟨T, c, rfl, hl, hcm, hI⟩ := ht.len
  unfold maxLen at hcm hcf
  have hfr := fun W => d_front T t.length c 8 8 rfl (by omega) W
  have hIF := hI.front c 8 h8
  obtain ⟨T', hT'⟩ : ∃ T', (if c = 0 then T else T.map (·.add 0)) = T' := ⟨_, rfl⟩
  rw [hT'] at hfr hIF
  have htk : (t.take 8).length = 8 := by rw [List.length_take]; omega
  have HSC := Lib.hid (slotF_cast h0 t)
  have HSL := Lib.hid (slotF_lt h0 t)
  have hfp := fold_pos (t.take 8) 14695981039346656037 (by decide) (by decide)
  unfold hashF at HSC
  obtain ⟨q, hq⟩ : ∃ q, t.take 8 = q := ⟨_, rfl⟩
  rw [hq] at htk hIF HSC hfp
  have HI := Lib.hid hIF
  have HTK := Lib.hid htk
  rw [List.length_map] at hlf ⊢
  obtain ⟨L, hL⟩ : ∃ L, fs.length = L := ⟨_, rfl⟩
  obtain ⟨l, hl'⟩ : ∃ l, t.length = l := ⟨_, rfl⟩
  rw [hL] at HSC HSL hlf h0 hfl ⊢
  rw [hl'] at hfr hl h8 ⊢
  obtain ⟨sl, hsl⟩ : ∃ s, slotF L t = s := ⟨_, rfl⟩
  rw [hsl] at HSC HSL ⊢
  have HBX := Lib.hid ((Below.refl w.heap.size w).alloc (Nat.le_refl _) (.cells #[vb, .slice F L cf, vn] 38))
  clear hIF htk hL hl' hq hsl hI hRf hf ht hT'
  go_enter Try.func31, Try.ntmps31
  go_wp2
  go_loop [5, 7, 11] (fun s _ i => ∃ k : Nat, k ≤ 8 ∧ i = .int .i64 k ∧ s = .int .u64 ((q.take k).foldl mixF 14695981039346656037)) (fun _ _ i => 8 - (intOf i).toNat)
  case atStart => exact ⟨0, by omega, rfl, rfl⟩
  case round =>
    obtain ⟨k, hk, rfl, rfl⟩ := hrel
    by_cases hlt : k < 8
    · obtain ⟨ad, rfl, hcell⟩ := (HI.out.below HBX.out).at_ k (by rw [HTK.out]; exact hlt)
      have hcv := conv_u64 (q.getD k 0)
      have HFS := Lib.hid (fold_step q k (by rw [HTK.out]; exact hlt) 14695981039346656037)
      generalize bi (q.getD k 0) = x at *
      generalize (q.take k).foldl mixF 14695981039346656037 = s at *
      have hk2 : (k : Int) < 8 := by omega
      have hk0 : (0 : Int) ≤ (k : Int) := by omega
      go_wp2
      go_round
      case rel => exact ⟨k + 1, by omega, by go_num, by rw [HFS.out]⟩
      case measure => simp [intOf]; omega
    · obtain rfl : k = 8 := by omega
      rw [List.take_of_length_le (by rw [HTK.out]; exact Nat.le_refl _)]
      obtain ⟨S, hS⟩ : ∃ S, q.foldl mixF 14695981039346656037 = S := ⟨_, rfl⟩
      rw [hS] at HSC hfp ⊢
      obtain ⟨hS0, hS1⟩ := hfp
      have e0 : IntKind.u64.wrap (L : Int) = (L : Int) := by rw [IntKind.wrap_u64]; omega
      have e1 : S.tmod (L : Int) = (sl : Int) := by rw [Int.tmod_eq_emod_of_nonneg hS0]; exact HSC.out.symm
      have e2 : S % (L : Int) = (sl : Int) := HSC.out.symm
      have e3 : IntKind.i64.wrap (sl : Int) = (sl : Int) := IntWalk.i64_in _ (by have := HSL.out; omega)
      have e4 : IntKind.u64.wrap (sl : Int) = (sl : Int) := by rw [IntKind.wrap_u64]; have := HSL.out; omega
      have e5 : ((L : Int) == 0) = false := beq_eq_false_iff_ne.2 (by omega)
      have e6 : (0 : Int) < (L : Int) := by omega
      clear hS
      go_wp2
      go_ret
      exact ⟨rfl, HBX.out⟩
end Go.Proofs.Ythphplmcojdpeaa
