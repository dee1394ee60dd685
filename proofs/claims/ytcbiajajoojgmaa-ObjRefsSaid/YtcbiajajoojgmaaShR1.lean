/- The reference: Hex, Unhex, Valid. -/
import Derived.Test.YtcbiajajoojgmaaShR0
namespace Go.Proofs.Ytcbiajajoojgmaa.Sh
open Go.RowKit

theorem Own.nil_ (w : World) (B : Nat) : Own w B (.slice none 0 0) [] := World.ownsRow_nil w B 5 1

set_option maxRecDepth 100000 in
set_option maxHeartbeats 800000 in
theorem rhex_any (v : Value) (bs : List UInt8) (w : World) (h : Sl w v bs) (hn : bs.length ≤ 1000000) : Calls Try.prog 36 #[v] w (StrPost w (hexL bs)) := by
  obtain ⟨A, c, rfl, hlc, hcm, hI, hA⟩ := h
  unfold maxLen at hcm
  obtain ⟨l, hl⟩ : ∃ l, bs.length = l := ⟨_, rfl⟩
  rw [hl] at hlc hn ⊢
  have HL := Lib.hid hl
  have HI := Lib.hid hI
  have HA := Lib.hid hA
  clear hl hI hA
  go_enter Try.func36, Try.ntmps36
  go_wp2_with fail
  go_loopw [4, 5] (fun v i wr => ∃ k : Nat, k ≤ l ∧ i = .int .i64 k ∧ Own wr w.heap.size v (hexL (bs.take k)) ∧ Below w.heap.size w wr) (fun _ i _ => l - (intOf i).toNat)
  case atStart =>
    exact ⟨0, by omega, rfl, by rw [List.take_zero]; exact Own.nil_ _ _, Below.refl _ _⟩
  case round =>
    obtain ⟨k, hk, rfl, ho, hbw⟩ := hrel
    have hsz := hbw.size
    by_cases hlt : k < l
    · obtain ⟨adr, hA1, hlt2, hcell⟩ := HI.out (by rw [HL.out]; omega)
      subst hA1
      have hcw : wr.cell? (adr.add k) = some (.int .u8 (bi (bs.getD k 0))) := (hbw.cell (p := adr.add k) (by rw [block_of_add]; exact hlt2)).trans (hcell k (by rw [HL.out]; omega))
      have hcl2 : (adr.add k).block < wr.heap.size := by rw [block_of_add]; omega
      have hsn : Hid (bs.take (k + 1) = bs.take k ++ [bs.getD k 0]) := by
        unfold Hid
        rw [List.take_add_one, List.getElem?_eq_getElem (by rw [HL.out]; exact hlt), List.getD_eq_getElem?_getD, List.getElem?_eq_getElem (by rw [HL.out]; exact hlt)]
        rfl
      generalize bs.getD k 0 = x at *
      have hj1 : (0 : Int) ≤ (k : Int) := by omega
      have hj2 : (k : Int) < (l : Int) := by omega
      have HO := Lib.hid ho
      have HBW := Lib.hid hbw
      clear ho hbw hcell
      have p1 := bi_hi4 x
      have p2 := bi_lo4 x
      have p3 := index_digit (hi4 x) (hi4_lt x)
      have p4 := index_digit (lo4 x) (lo4_lt x)
      have hxl : (hexL (bs.take k)).length + 2 ≤ 140737488355328 := by rw [hexL_length, List.length_take]; omega
      obtain ⟨i0, hi, hz0, hz1, hz2⟩ := info_parts info5
      go_wp2_with fail
      go_region_held3 (fun w' => w'.cell? (adr.add k) = some (.int .u8 (bi x))) (first | exact hcw | exact (World.cell?_alloc_lt _ _ (adr.add k) hcl2).trans hcw | exact hcw1)
        (first | (refine step_append_any _ rfl (.tmp 12) (.tmp 27) 22 rfl w.heap.size 5 i0 (.int .u8 0) 1 1 Try.underlying22 hi hz0 hz1 hz2 rfl (by decide) u4 (hexL (bs.take k)).length _ rfl (HO.out.drew.alloc _) (wr.heap.size + 1) (some ⟨wr.heap.size, 0, none⟩) 2 2 ((hex2 x).map bv) rfl (reads_new wr.drew (hex2 x) _ rfl 2 rfl) (bv_one _) (by unfold maxLen; omega) (by omega) (by simp; omega) ?_; intro v1 w1 hown1 hgrow1 hblk1; have hcw1 : w1.cell? (adr.add k) = some (.int .u8 (bi x)) := ((((Below.refl w.heap.size wr.drew).alloc hsz _).grown hgrow1 (by simp; omega) (fun k hk => (World.ownsRow.lt HO.out k hk).1)).cell (p := adr.add k) (by rw [block_of_add]; exact hlt2)).trans hcw))
      all_goals
        have ho1 : Own w1 w.heap.size v1 (hexL (bs.take (k + 1))) := by
          rw [hsn.out, hexL_snoc]
          unfold Own
          rw [List.length_append, List.map_append]
          exact hown1
        have hb1 : Below w.heap.size w w1 := ((HBW.out.drew).alloc hsz _).grown hgrow1 (by simp; omega) (fun k hk => (World.ownsRow.lt HO.out k hk).1)
        have HO1 := Lib.hid ho1
        have HB1 := Lib.hid hb1
        clear ho1 hb1 hown1 hgrow1 hblk1 p1 p2 p3 p4
        go_wp2
        go_roundw
        case rel => exact ⟨k + 1, by omega, by go_num, HO1.out, HB1.out⟩
        case measure => simp [intOf]; omega
    · obtain rfl : k = l := by omega
      rw [List.take_of_length_le (by rw [HL.out]; omega)] at ho
      obtain ⟨A3, c3, hv3, hA3, hA4, hI3, hA5⟩ := ho.sl
      subst hv3
      have hcs := conv_str wr A3 (hexL bs) c3 hI3 hA5
      have HBW := Lib.hid hbw
      clear ho hI3 hA5 hbw
      obtain ⟨m, hm⟩ : ∃ m, (hexL bs).length = m := ⟨_, rfl⟩
      rw [hm] at hcs ⊢
      clear hm
      go_wp2
      go_ret
      exact ⟨rfl, HBW.out⟩
end Go.Proofs.Ytcbiajajoojgmaa.Sh
