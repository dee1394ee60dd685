/- wire's Crc, Compare. -/
import Derived.Test.YthopfbkkjfnhkaaW6
namespace Go.Proofs.Ythopfbkkjfnhkaa
open Go.RowKit

set_option maxRecDepth 100000 in
set_option maxHeartbeats 800000 in
theorem crc_any (v : Value) (bs : List UInt8) (w : World) (h : Sl w v bs) : Calls Try.prog 18 #[v] w fun e w' => e = .returned (.int .u32 (wi (crcL bs))) ∧ Below w.heap.size w w' := by
  obtain ⟨A, c, rfl, hlc, hcm, hI⟩ := h.len
  unfold maxLen at hcm
  obtain ⟨l, hl⟩ : ∃ l, bs.length = l := ⟨_, rfl⟩
  rw [hl] at hlc ⊢
  have HL := Lib.hid hl
  have HI := Lib.hid hI
  clear hl hI h
  go_enter Try.func18, Try.ntmps18
  go_wp2_with fail
  refine (half_any _).mono ?_
  rintro e w1 ⟨rfl, hb1⟩
  have HB1 := Lib.hid hb1
  clear hb1
  go_wp2_with (refine wpList_store_row rfl 52 (.tmp 3) (.tmp 7) rfl w1.heap.size tabA rfl rfl 52 zer16 (Blk.new _ _ _) info52' (by rw [tabA_size]; rfl) tabA_one ?_)
  have hbt : Blk ((w1.alloc (.cells zer16 52)).setRow w1.heap.size tabA) w1.heap.size 52 tabA := Blk.row (Blk.new _ _ _) _
  have hb2 : Below w.heap.size w ((w1.alloc (.cells zer16 52)).setRow w1.heap.size tabA) := below_setRow (HB1.out.alloc HB1.out.size _) HB1.out.size _
  have HB2 := Lib.hid hb2
  have HBT := Lib.hid hbt
  clear hb2 hbt
  generalize (w1.alloc (.cells zer16 52)).setRow w1.heap.size tabA = w2 at *
  generalize w1.heap.size = g at *
  rw [wi_ones]
  go_loop [4, 6, 10] (fun s _ i => ∃ k : Nat, k ≤ l ∧ i = .int .i64 k ∧ s = .int .u32 (wi (crcF 4294967295 (bs.take k)))) (fun _ _ i => l - (intOf i).toNat)
  case atStart => exact ⟨0, Nat.zero_le _, rfl, rfl⟩
  case round =>
    obtain ⟨k, hk, rfl, rfl⟩ := hrel
    by_cases hlt : k < l
    · obtain ⟨ad, rfl, hcell⟩ := (HI.out.below HB2.out).at_ k (by rw [HL.out]; exact hlt)
      have hnext := Lib.hid (crcF_take 4294967295 bs k (by rw [HL.out]; exact hlt))
      rw [wbyte'] at hcell
      generalize crcF 4294967295 (bs.take k) = s at *
      generalize bs.getD k 0 = x at *
      have hx := wxor s x.toUInt32
      have hxw := wi_lt x.toUInt32
      have hx0 := hxw.1
      have hx1 := hxw.2
      have c1 : (k : Int) < (l : Int) := by omega
      obtain ⟨s0, hs0⟩ : ∃ s0, s ^^^ x.toUInt32 = s0 := ⟨_, rfl⟩
      rw [hs0] at hx
      have hcs : cstep s x = cb4 (cb4 s0) := by rw [← hs0]; rfl
      have HCS := Lib.hid hcs
      clear hxw hs0 hcs
      obtain ⟨s1, hs1⟩ : ∃ s1, cb4 s0 = s1 := ⟨_, rfl⟩
      have hsp0 := cb4_split s0
      have hsp1 := cb4_split s1
      rw [hs1] at hsp0
      have HS1 := Lib.hid hs1
      have g0 : (wi s0).tmod 16 = ((s0.toNat % 16 : Nat) : Int) := by rw [Int.tmod_eq_emod_of_nonneg (wi_lt s0).1]; unfold wi; omega
      have g1 : (wi s1).tmod 16 = ((s1.toNat % 16 : Nat) : Int) := by rw [Int.tmod_eq_emod_of_nonneg (wi_lt s1).1]; unfold wi; omega
      have t0 : w2.cell? ⟨g, s0.toNat % 16, none⟩ = some (tv (s0.toNat % 16)) := by rw [HBT.out.cell, tabA_at _ (by omega)]
      have t1 : w2.cell? ⟨g, s1.toNat % 16, none⟩ = some (tv (s1.toNat % 16)) := by rw [HBT.out.cell, tabA_at _ (by omega)]
      unfold tv at t0 t1
      have x0 := wxor (cb4 (UInt32.ofNat (s0.toNat % 16))) (shrw s0 4)
      have x1 := wxor (cb4 (UInt32.ofNat (s1.toNat % 16))) (shrw s1 4)
      rw [← hsp0] at x0
      rw [← hsp1] at x1
      have m0 : s0.toNat % 16 < 16 := by omega
      have m1 : s1.toNat % 16 < 16 := by omega
      have HSP := Lib.hid hsp1
      clear hsp0 hsp1 hs1
      generalize UInt32.ofNat (s0.toNat % 16) = y0 at *
      generalize UInt32.ofNat (s1.toNat % 16) = y1 at *
      generalize s0.toNat % 16 = q0 at *
      generalize s1.toNat % 16 = q1 at *
      generalize cb4 y0 = z0 at *
      generalize cb4 y1 = z1 at *
      have h0 := wi_16th s0
      have h1 := wi_16th s1
      have n0 : (q0 : Int) < 16 := by omega
      have n1 : (q1 : Int) < 16 := by omega
      have n2 : (0 : Int) ≤ (q0 : Int) := by omega
      have n3 : (0 : Int) ≤ (q1 : Int) := by omega
      clear m0 m1
      go_wp2
      go_round
      case rel => exact ⟨k + 1, by omega, by go_num, by rw [hnext.out, HCS.out, HS1.out, HSP.out]⟩
      case measure => simp [intOf]; omega
    · obtain rfl : k = l := by omega
      rw [List.take_of_length_le (by rw [HL.out]; omega)]
      have hn := wnot (crcF 4294967295 bs)
      go_wp2
      go_ret
      exact ⟨rfl, HB2.out⟩
end Go.Proofs.Ythopfbkkjfnhkaa
