/- The walk of CellAfter. -/
import Derived.Test.YtepgbpfnamaooaaCAf0
import Derived.Test.YtepgbpfnamaooaaCTakes
import Derived.Test.YtepgbpfnamaooaaShR5
import Derived.Deep.RegionHeld3
namespace Go.Proofs.Ytepgbpfnamaooaa.Ce
open Go.RowKit Go.Proofs.Ytepgbpfnamaooaa.Sh

theorem lid_t (B b : Nat) (bs : List UInt8) (q : Bool) (t : ByteArray) (ht : idOf bs = t) (w : World) (h : LZ w B b bs q) (hn : bs.length ≤ 140737488351232) :
    Calls Try.prog 13 #[.pointer (some ⟨b, 0, none⟩)] w fun e w' => e = .returned (.string t) ∧ LZ w' B b bs true ∧ w.grownBy w' (some b) := by
  subst ht; exact lid_any B b bs q w h hn
theorem rid_t (v : Value) (bs : List UInt8) (t : ByteArray) (ht : idOf bs = t) (w : World) (h : Sl w v bs) (hn : bs.length ≤ 140737488351232) :
    Calls Try.prog 12 #[v] w fun e w' => e = .returned (.string t) ∧ Below w.heap.size w w' := by
  subst ht; exact rid_any v bs w h hn
theorem times_t (b : Nat) (y : Int) (w : World) (hc : w.cell? ⟨b, 5, none⟩ = some (.int .i64 y)) : Calls Try.prog 11 #[.pointer (some ⟨b, 0, none⟩)] w fun e w' => e = .returned (.int .i64 y) ∧ w' = w := by
  have HL := Lib.hid (load64 ⟨b, 5, none⟩ y w hc)
  clear hc
  go_enter Try.func11, Try.ntmps11
  go_wp2_with (go_at_call 25; refine HL.out.mono ?_; rintro e w' ⟨rfl, rfl⟩)
  go_ret
  exact ⟨rfl, rfl⟩
theorem make_ints (k : Nat) (hk : k ≤ 2000000) (w : World) : (Instr.makeSlice 50 (.int .i64 (k : Int)) (.int .i64 (k : Int))).run Try.prog w = .ok (.slice (some ⟨w.heap.size, 0, none⟩) k k) (w.alloc (.cells (madeCells #[.int .i64 0] k) 3)) := by
  obtain ⟨i0, hi, hz0, hz1, hz2⟩ := info_parts info_int
  have hr := run_make (P := Try.prog) w 50 3 i0 (.int .i64 0) Try.underlying50 hi hz0 .i64 .i64 k k (by omega) (by omega) (by rw [hz2]; omega) (by omega)
  rw [hz1] at hr
  simpa [Value.cells] using hr
theorem own_made_ints (w : World) (B k : Nat) (hB : B ≤ w.heap.size) (hk : k ≤ 2000000) : OwnV 3 (w.alloc (.cells (madeCells #[.int .i64 0] k) 3)) B (.slice (some ⟨w.heap.size, 0, none⟩) k k) ((List.replicate k (0 : Int)).map iv) := by
  have e : k = ((List.replicate k (0 : Int)).map iv).length := by simp
  have h := OwnV.mk (E := 3) (vs := (List.replicate k (0 : Int)).map iv) (c := k) (B := B) hB (heap_alloc_new w (.cells (madeCells #[.int .i64 0] k) 3)) (by rw [← e]; exact Nat.le_refl _) (by unfold maxLen; omega) (by rw [size_madeCells]) (by rw [toList_madeCells_one, List.take_of_length_le (by simp)]; simp [iv])
  rwa [← e] at h
theorem LZ.times {w : World} {B b : Nat} {bs : List UInt8} {q : Bool} (h : LZ w B b bs q) : w.cell? ⟨b, 5, none⟩ = some (.int .i64 (LTimes q)) := by
  obtain ⟨_, k, _, h2⟩ := h
  cases q <;> exact LB.tm_ h2

set_option maxRecDepth 100000 in
set_option maxHeartbeats 12800000 in
theorem after_any (a0 : Option Addr) (len0 cap0 : Nat) (A : Nat → Option Addr) (L C : Nat → Nat) (R : Nat → List UInt8) (w : World) (h : RowsAt w a0 A L C R len0) (hl : len0 ≤ maxLen) (hrb : ∀ r, r < len0 → L r ≤ 140737488351232)
    (a1 : Option Addr) (len1 cap1 : Nat) (zs1 : List Int) (h1 : IsRow .i64 w a1 len1 cap1 zs1) (hl1 : len1 ≤ maxLen) :
    Calls Try.prog 6 #[.slice a0 len0 cap0, .slice a1 len1 cap1] w (Yes w) := by
  have HR := Lib.hid h
  have HI := Lib.hid h1
  have HRB := Lib.hid hrb
  unfold maxLen at hl hl1
  clear h h1 hrb
  go_enter Try.func6, Try.ntmps6
  go_wp2_with fail
  refine (first_then (Below.refl _ _)).mono ?_
  rintro e w1 ⟨rfl, hb1⟩
  have HB1 := Lib.hid hb1
  clear hb1
  go_wp2_with fail
  go_loopw [5, 6] (fun n i wr => ∃ (k : Nat) (m : Int), k ≤ len0 ∧ k ≤ 20 ∧ i = .int .i64 k ∧ n = .int .i64 m ∧ Below w.heap.size w wr) (fun _ i _ => len0 - (intOf i).toNat)
  case atStart => exact ⟨0, 0, by omega, by omega, rfl, rfl, HB1.out⟩
  case round =>
    obtain ⟨k, m, hk, hk2, rfl, rfl, hB⟩ := hrel
    have HB := Lib.hid hB
    clear hB
    have z0 : (0 : Int) ≤ (k : Int) := by omega
    by_cases hlt : k < len0
    · have z1 : (k : Int) < (len0 : Int) := by omega
      by_cases h20 : k < 20
      · have z2 : (k : Int) < 20 := by omega
        obtain ⟨x, rfl, hx2, hx3, _, _⟩ := (HR.out.below HB.out) k hlt
        generalize L k = Lk at *
        by_cases hm : Lk ≤ 6000
        · have hm1 : (Lk : Int) ≤ 6000 := by omega
          go_wp2_with fail
          all_goals
            go_roundw
            case rel => exact ⟨k + 1, _, by omega, by omega, by go_num, rfl, HB.out⟩
            case measure => simp [intOf]; omega
        · have hm1 : (6000 : Int) < (Lk : Int) := by omega
          go_wp2_with fail
          all_goals
            go_roundw
            case rel => exact ⟨k + 1, _, by omega, by omega, by go_num, rfl, HB.out⟩
            case measure => simp [intOf]; omega
      · obtain rfl : k = 20 := by omega
        have z3 : (20 : Int) < (len0 : Int) := by omega
        rw [show ((20 : Nat) : Int) = 20 from rfl]
        go_wp2_with fail
        refine (first_then HB.out).mono ?_
        rintro e w2 ⟨rfl, hb2⟩
        have HB2 := Lib.hid hb2
        clear hb2
        go_wp2_with fail
        go_ret
        exact ⟨rfl, HB2.out⟩
    · obtain rfl : k = len0 := by omega
      have z3 : (k : Int) ≤ 20 := by omega
      have hcase : 6000 < m ∨ (m ≤ 6000 ∧ (60 : Int) < (len1 : Int)) ∨ (m ≤ 6000 ∧ (len1 : Int) ≤ 60) := by omega
      rcases hcase with hm | ⟨hm, hm2⟩ | ⟨hm, hm2⟩
      · go_wp2_with fail
        refine (first_then HB.out).mono ?_
        rintro e w2 ⟨rfl, hb2⟩
        have HB2 := Lib.hid hb2
        clear hb2
        go_wp2_with fail
        go_ret
        exact ⟨rfl, HB2.out⟩
      · go_wp2_with fail
        refine (first_then HB.out).mono ?_
        rintro e w2 ⟨rfl, hb2⟩
        have HB2 := Lib.hid hb2
        clear hb2
        go_wp2_with fail
        go_ret
        exact ⟨rfl, HB2.out⟩
      · have hmk := make_ints k (by omega)
        obtain ⟨wo, hwo⟩ : ∃ wo, wo = wr := ⟨_, rfl⟩
        subst hwo
        go_wp2_with fail
        have hwz := HB.out.size
        obtain ⟨G, hG⟩ : ∃ G, wo.heap.size = G := ⟨_, rfl⟩
        have hW2 : G < (wo.alloc (.cells (madeCells #[.int .i64 0] k) 3)).heap.size := by simp [hG]
        have hB2 : Below w.heap.size w (wo.alloc (.cells (madeCells #[.int .i64 0] k) 3)) := HB.out.alloc hwz _
        have hO2 : OwnV 3 (wo.alloc (.cells (madeCells #[.int .i64 0] k) 3)) w.heap.size (.slice (some ⟨G, 0, none⟩) k k) ((List.replicate k (0 : Int)).map iv) := by
          rw [← hG]; exact own_made_ints wo w.heap.size k hwz (by omega)
        rw [hG] at hwz ⊢
        generalize wo.alloc (.cells (madeCells #[.int .i64 0] k) 3) = w2 at *
        have HB2 := Lib.hid hB2
        have HO2 := Lib.hid hO2
        clear hB2 hO2 hmk hG HB HB1
        go_loopw [7, 9] (fun v i wr => ∃ (j : Nat) (bs : List Nat), j ≤ k ∧ i = .int .i64 j ∧ bs.length = j ∧ OwnV 25 wr w.heap.size v (bs.map pv) ∧ AZ wr G bs R (List.replicate k (0 : Int)) ∧
          OwnV 3 wr w.heap.size (.slice (some ⟨G, 0, none⟩) k k) ((List.replicate k (0 : Int)).map iv) ∧ Below w.heap.size w wr ∧ G < wr.heap.size) (fun _ i _ => k - (intOf i).toNat)
        case atStart => exact ⟨0, [], by omega, rfl, rfl, OwnV.nil_ _ _, AZ.nil_, HO2.out, HB2.out, hW2⟩
        case round =>
          clear HB2 HO2 hW2
          obtain ⟨j, bs, hj, rfl, hbl, hv, hz, ho, hb, hg⟩ := hrel
          have HV := Lib.hid hv
          have HZ := Lib.hid hz
          have HO := Lib.hid ho
          have HB := Lib.hid hb
          have HBL := Lib.hid hbl
          clear hv hz ho hb hbl
          have j0 : (0 : Int) ≤ (j : Int) := by omega
          by_cases hlt : j < k
          · have j1 : (j : Int) < (k : Int) := by omega
            obtain ⟨x, rfl, hx2, hx3, hx4, hx5⟩ := (HR.out.below HB.out) j hlt
            have hrl : (R j).length ≤ 140737488351232 := by have := HRB.out j hlt; omega
            have HX := Lib.hid hx5
            clear hx4 hx5
            go_wp2_with fail
            refine (newl_any _ (R j) _ HX.out hrl).mono ?_
            rintro e w3 ⟨b, rfl, hL3, hb3⟩
            have hwr := HB.out.size
            have hnew : b ∉ bs := fun hm => by have h1 := HZ.out.lt hm; have h2 := hL3.1; omega
            have hZ3 : AZ w3 G (bs ++ [b]) R (List.replicate k (0 : Int)) := by
              refine (HZ.out.below hb3).snoc hg (by rw [HBL.out]; exact hL3) ?_ hnew
              rw [List.getD_eq_getElem?_getD]
              rcases Nat.lt_or_ge bs.length k with h | h
              · rw [List.getElem?_replicate_of_lt h]; rfl
              · rw [List.getElem?_eq_none (by simpa using h)]; rfl
            have HZ3 := Lib.hid hZ3
            have HV3 := Lib.hid (HV.out.below hb3)
            have HO3 := Lib.hid (HO.out.below hb3)
            have HB3 := Lib.hid (HB.out.trans (hb3.mono hwr))
            have hg3 : G < w3.heap.size := by have := hb3.size; omega
            have hsm : bs.length + 1 ≤ 2000000 := by rw [HBL.out]; omega
            have hwz3 := HB3.out.size
            clear hL3 hb3 hnew hZ3 HV HZ HO HB HX
            go_wp2_with (at_builtin; refine append_lazy rfl (.tmp 64) (.tmp 66) rfl w3 w.heap.size u7 bs rfl HV3.out b rfl hsm hwz3 ?_; intro v4 w4 hv4 hg4; have HV4 := Lib.hid hv4; have HG4 := Lib.hid hg4; clear hv4 hg4)
            have hZ4 := HZ3.out.grown HG4.out (alien_own HV3.out (by decide) (by decide))
            have hO4 := HO3.out.kept HG4.out (HO3.out.unlike HV3.out (by decide))
            have hB4 : Below w.heap.size w w4 := HB3.out.grown HG4.out hwz3 (fun g hg => (HV3.out.lt g hg).1)
            have hg4 : G < w4.heap.size := by have := HG4.out.size; omega
            have hl4 : Hid ((bs ++ [b]).length = j + 1) := by unfold Hid; rw [List.length_append, HBL.out]; rfl
            have HZ4 := Lib.hid hZ4
            have HO4 := Lib.hid hO4
            have HB4 := Lib.hid hB4
            clear hZ4 hO4 hB4 HZ3 HO3 HB3 HV3 HG4 hsm hwz3 hg3
            go_wp2
            go_roundw
            case rel => exact ⟨j + 1, bs ++ [b], by omega, by go_num, hl4.out, HV4.out, HZ4.out, HO4.out, HB4.out, hg4⟩
            case measure => simp [intOf]; omega
          · obtain rfl : j = k := by omega
            obtain ⟨wo3, hwo3⟩ : ∃ wo3, wo3 = wr := ⟨_, rfl⟩
            subst hwo3
            obtain ⟨Av, cv, hve, hvc, hvm⟩ := HV.out.length
            rw [List.length_map, HBL.out] at hve hvc
            unfold maxLen at hvm
            subst hve
            go_wp2_with fail
            go_loopw [11] (fun i wr => ∃ (q : Nat) (zs : List Int), q ≤ len1 ∧ i = .int .i64 q ∧ zs.length = j ∧ (∀ p, zs.getD p 0 = 0 ∨ zs.getD p 0 = 1) ∧ OwnV 25 wr w.heap.size (.slice Av j cv) (bs.map pv) ∧ AZ wr G bs R zs ∧
              OwnV 3 wr w.heap.size (.slice (some ⟨G, 0, none⟩) j j) (zs.map iv) ∧ Below w.heap.size w wr ∧ G < wr.heap.size) (fun i _ => len1 - (intOf i).toNat)
            case atStart => exact ⟨0, List.replicate j 0, by omega, rfl, by simp, fun p => by
              left
              rw [List.getD_eq_getElem?_getD]
              rcases Nat.lt_or_ge p j with h | h
              · rw [List.getElem?_replicate_of_lt h]; rfl
              · rw [List.getElem?_eq_none (by simpa using h)]; rfl, HV.out, HZ.out, HO.out, HB.out, hg⟩
            case round =>
              clear HV HZ HO HB hg
              obtain ⟨q, zs, hq, rfl, hzl, h01, hv, hz, ho, hb, hg⟩ := hrel
              have HV := Lib.hid hv
              have HZ := Lib.hid hz
              have HO := Lib.hid ho
              have HB := Lib.hid hb
              have HZL := Lib.hid hzl
              have H01 := Lib.hid h01
              clear hv hz ho hb hzl h01
              have q0 : (0 : Int) ≤ (q : Int) := by omega
              by_cases hlt : q < len1
              · have q1 : (q : Int) < (len1 : Int) := by omega
                obtain ⟨ad, rfl, had, hcell, hz1, hz2⟩ := ints_at HI.out q hlt
                have hcw : wr.cell? (ad.add q) = some (.int .i64 (zs1.getD q 0)) := (HB.out.cell (p := ad.add q) (by rw [block_of_add]; exact had)).trans hcell
                generalize zs1.getD q 0 = z at *
                clear hcell
                have hcase : z < 0 ∨ (0 ≤ z ∧ (j : Int) ≤ z) ∨ (0 ≤ z ∧ z < (j : Int)) := by omega
                rcases hcase with hc | ⟨hc, hc2⟩ | ⟨hc, hc2⟩
                · go_wp2_with fail
                  go_roundw
                  case rel => exact ⟨q + 1, zs, by omega, by go_num, HZL.out, H01.out, HV.out, HZ.out, HO.out, HB.out, hg⟩
                  case measure => simp [intOf]; omega
                · go_wp2_with fail
                  go_roundw
                  case rel => exact ⟨q + 1, zs, by omega, by go_num, HZL.out, H01.out, HV.out, HZ.out, HO.out, HB.out, hg⟩
                  case measure => simp [intOf]; omega
                · obtain ⟨kk, rfl⟩ : ∃ kk : Nat, z = (kk : Int) := ⟨z.toNat, by omega⟩
                  have hkk : kk < j := by omega
                  have hkb : kk < bs.length := by rw [HBL.out]; exact hkk
                  have hkz : kk < zs.length := by rw [HZL.out]; exact hkk
                  obtain ⟨hc1, hf1⟩ := HO.out.cellAt kk (iv (zs[kk])) (by rw [List.getElem?_map, List.getElem?_eq_getElem hkz]; rfl)
                  have hc1' : wr.cell? ⟨G, kk, none⟩ = some (.int .i64 zs[kk]) := hc1
                  obtain ⟨ga, hAv, hga, hbA⟩ : ∃ ga, Av = some ⟨ga, 0, none⟩ ∧ w.heap.size ≤ ga ∧ ∃ cur, Blk wr ga 25 cur := by
                    rcases HV.out.blk with ⟨_, he⟩ | ⟨g, c, cur, he, h2, _, h4, _⟩
                    · have h0 : bs = [] := List.map_eq_nil_iff.1 he
                      rw [h0] at hkb
                      simp at hkb
                    · injection he with e1
                      exact ⟨g, e1, h2, cur, h4⟩
                  subst hAv
                  -- behind the store
                  have hV2 := HV.out.apart (p := ⟨G, kk, none⟩) (by
                    rcases HV.out.unlike HO.out (by decide) with h | h
                    · rw [h]; simp
                    · exact h) (.int .i64 1)
                  have hZ2 := HZ.out.far (p := ⟨G, kk, none⟩) (Nat.le_refl G) (.int .i64 1)
                  have hO2 := HO.out.setAt kk (.int .i64 1)
                  have hB2 := HB.out.setCell (p := ⟨G, kk, none⟩) (by simpa using hwz) (.int .i64 1)
                  have hg2 : G < (wr.setCell ⟨G, kk, none⟩ (.int .i64 1)).heap.size := by simpa [World.setCell] using hg
                  have hx := (HR.out.below hB2) kk hkk
                  have HW2 := Lib.hid (⟨hV2, hZ2, hO2, hB2, hg2, hx⟩ : _ ∧ _ ∧ _ ∧ _ ∧ _ ∧ _)
                  clear hV2 hZ2 hO2 hB2 hg2 hx hc1 hbA
                  go_wp2_with fail
                  generalize wr.setCell ⟨G, kk, none⟩ (.int .i64 1) = ws at *
                  obtain ⟨hV2, hZ2, hO2, hB2, hg2, hx⟩ := HW2.out
                  obtain ⟨x, hxa, _, hxc, hxl, _⟩ := hx
                  obtain ⟨x', hxa', hxb, _, _, hxs⟩ := HR.out kk hkk
                  obtain rfl : x = x' := by rw [hxa] at hxa'; injection hxa'
                  subst hxa
                  have hrl : (R kk).length ≤ 140737488351232 := by have := HRB.out kk hkk; omega
                  obtain ⟨b, hb⟩ : ∃ b, bs[kk] = b := ⟨_, rfl⟩
                  have hcb : ws.cell? ⟨ga, kk, none⟩ = some (.pointer (some ⟨b, 0, none⟩)) := (hV2.cellAt kk (pv b) (by rw [List.getElem?_map, List.getElem?_eq_getElem hkb, hb]; rfl)).1
                  obtain ⟨B, hGB, hLZ⟩ := hZ2.1 kk hkb
                  rw [hb] at hLZ
                  obtain ⟨csb, hcsb⟩ := hLZ.blk
                  have hbl : b < ws.heap.size := hLZ.lt
                  have hGb : G < b := by have := hLZ.1; omega
                  have hgaw : ga < ws.heap.size := World.block_lt_of_cell? ws _ hcb
                  have hgab : ga ≠ b := by
                    rcases hV2.blk with ⟨he, _⟩ | ⟨g, c, cur, he, _, _, h4, _⟩
                    · cases he
                    · injection he with e1
                      injection e1 with e1
                      injection e1 with e1 _ _
                      subst e1
                      exact Blk.ne_ h4 hcsb (by decide)
                  have hxw : (x.add kk).block < ws.heap.size := by rw [block_of_add]; have := hB2.size; omega
                  have hxnb : (x.add kk).block ≠ b := by rw [block_of_add]; omega
                  obtain ⟨f, hf⟩ : ∃ f, decide (zs.getD kk 0 = 1) = f := ⟨_, rfl⟩
                  rw [hf] at hLZ
                  obtain ⟨t, ht⟩ : ∃ t, idOf (R kk) = t := ⟨_, rfl⟩
                  have e1 := bytes_same t
                  have HT := Lib.hid ht
                  have HLZ := Lib.hid hLZ
                  have HSW := Lib.hid hxs
                  have HB2 := Lib.hid hB2
                  have HCS := Lib.hid hcsb
                  have HXC := Lib.hid hxc
                  have HCB := Lib.hid hcb
                  have HBK := Lib.hid hb
                  have hwb : w.heap.size ≤ b := by omega
                  have hwsz : w.heap.size ≤ ws.heap.size := hB2.size
                  have HW3 := Lib.hid (⟨hV2, hZ2, hO2, hg2⟩ : _ ∧ _ ∧ _ ∧ _)
                  clear hV2 hZ2 hO2 hg2 hB2 hxs hLZ ht hf hb hcsb HW2 hxl HV HZ HO HB
                  go_region_held3 (fun w' => w'.cell? ⟨ga, kk, none⟩ = some (.pointer (some ⟨b, 0, none⟩)) ∧ w'.cell? (x.add kk) = some (.slice (A kk) (L kk) (C kk)))
                    (first | exact ⟨hcb6, hxc6⟩ | exact ⟨hcb5, hxc5⟩ | exact ⟨hcb, hxc⟩)
                    (first
                      | (have _ := N5; go_at_call 12; refine (rid_t _ (R kk) t HT.out _ (by exact HS5.out) hrl).mono ?_; rintro e w6 ⟨rfl, hb6⟩; have hcb6 := (hb6.cell (p := ⟨ga, kk, none⟩) (by exact hga5)).trans hcb5; have hxc6 := (hb6.cell (p := x.add kk) (by exact hx5)).trans hxc5; have HB6 := Lib.hid hb6; clear hb6)
                      | (go_at_call 13; refine (lid_t B b (R kk) f t HT.out _ (by first | exact HLZ.out | exact HLZ.out.drew) hrl).mono ?_; rintro e w5 ⟨rfl, hz5, hg5⟩; have N5 : True := trivial; have hcb5 := (only_cell hg5 (p := ⟨ga, kk, none⟩) (by exact hgaw) (by exact hgab)).trans hcb; have hxc5 := (only_cell hg5 (p := x.add kk) (by exact hxw) (by exact hxnb)).trans hxc; have hga5 : ga < w5.heap.size := Nat.lt_of_lt_of_le hgaw hg5.size; have hx5 : (x.add kk).block < w5.heap.size := Nat.lt_of_lt_of_le hxw hg5.size; have HS5 := Lib.hid (HSW.out.below (HB2.out.trans (below_of_only (a := ws) ⟨hg5.os, hg5.tape, hg5.output, hg5.size, hg5.block⟩ hwb hwsz))); have HZ5 := Lib.hid hz5; have HG5 := Lib.hid (show ws.grownBy w5 (some b) from ⟨hg5.os, hg5.tape, hg5.output, hg5.size, hg5.block⟩); clear hz5 hg5))
                  obtain ⟨hV3, hZ3, hO3, hg3⟩ := HW3.out
                  have hV6 := (Ce.OwnV.lazy hV3 (by decide) HCS.out HG5.out).below HB6.out
                  have hO6 := (Ce.OwnV.lazy hO3 (by decide) HCS.out HG5.out).below HB6.out
                  have hZ6 := (hZ3.asked hkb hkz (by rw [HBK.out]; exact HG5.out) ⟨B, hGB, by rw [HBK.out]; exact HZ5.out⟩).below HB6.out
                  have hB6 : Below w.heap.size w w6 := (HB2.out.trans (below_of_only HG5.out hwb hwsz)).trans (HB6.out.mono (Nat.le_trans hwsz HG5.out.size))
                  have hg6 : G < w6.heap.size := Nat.lt_of_lt_of_le hg3 (Nat.le_trans HG5.out.size HB6.out.size)
                  rw [show (Value.int .i64 1) = iv 1 from rfl, ← List.map_set] at hO6
                  have h016 : ∀ p, (zs.set kk 1).getD p 0 = 0 ∨ (zs.set kk 1).getD p 0 = 1 := by
                    intro p
                    rw [List.getD_eq_getElem?_getD]
                    by_cases e : kk = p
                    · subst e
                      right
                      rw [List.getElem?_set_self hkz]
                      rfl
                    · rw [List.getElem?_set_ne e, ← List.getD_eq_getElem?_getD]
                      exact H01.out p
                  have HF6 := Lib.hid (⟨h016, hV6, hZ6, hO6, hB6, hg6⟩ : _ ∧ _ ∧ _ ∧ _ ∧ _ ∧ _)
                  have hl6 : Hid ((zs.set kk 1).length = j) := by unfold Hid; rw [List.length_set]; exact HZL.out
                  clear hV3 hZ3 hO3 hg3 hV6 hO6 hZ6 hB6 hg6 h016 hcb hxc hcb5 hxc5 hcb6 hxc6 hga5 hx5
                  go_wp2
                  go_roundw
                  case rel => exact ⟨q + 1, zs.set kk 1, by omega, by go_num, hl6.out, HF6.out.1, HF6.out.2.1, HF6.out.2.2.1, HF6.out.2.2.2.1, HF6.out.2.2.2.2.1, HF6.out.2.2.2.2.2⟩
                  case measure => simp [intOf]; omega
              · obtain rfl : q = len1 := by omega
                go_wp2_with fail
                go_loopw [13] (fun i wr => ∃ p : Nat, p ≤ j ∧ i = .int .i64 p ∧ OwnV 25 wr w.heap.size (.slice Av j cv) (bs.map pv) ∧ AZ wr G bs R zs ∧
                  OwnV 3 wr w.heap.size (.slice (some ⟨G, 0, none⟩) j j) (zs.map iv) ∧ Below w.heap.size w wr) (fun i _ => j - (intOf i).toNat)
                case atStart => exact ⟨0, by omega, rfl, HV.out, HZ.out, HO.out, HB.out⟩
                case round =>
                  clear HV HZ HO HB hg
                  obtain ⟨p, hp, rfl, hv, hz, ho, hb⟩ := hrel
                  have p0 : (0 : Int) ≤ (p : Int) := by omega
                  by_cases hlt : p < j
                  · have p1 : (p : Int) < (j : Int) := by omega
                    have hpb : p < bs.length := by rw [HBL.out]; exact hlt
                    have hpz : p < zs.length := by rw [HZL.out]; exact hlt
                    obtain ⟨ga, hAv⟩ : ∃ ga, Av = some ⟨ga, 0, none⟩ := by
                      rcases hv.blk with ⟨_, he⟩ | ⟨g, c, cur, he, _⟩
                      · have h0 : bs = [] := List.map_eq_nil_iff.1 he
                        rw [h0] at hpb
                        simp at hpb
                      · injection he with e1
                        exact ⟨g, e1⟩
                    subst hAv
                    obtain ⟨b, hbe⟩ : ∃ b, bs[p] = b := ⟨_, rfl⟩
                    have hcb : wr.cell? ⟨ga, p, none⟩ = some (.pointer (some ⟨b, 0, none⟩)) := (hv.cellAt p (pv b) (by rw [List.getElem?_map, List.getElem?_eq_getElem hpb, hbe]; rfl)).1
                    obtain ⟨B, hGB, hLZ⟩ := hz.1 p hpb
                    rw [hbe] at hLZ
                    have hy : zs.getD p 0 = zs[p] := by rw [List.getD_eq_getElem?_getD, List.getElem?_eq_getElem hpz]; rfl
                    have h01p := H01.out p
                    rw [hy] at h01p hLZ
                    have ht : LTimes (decide (zs[p] = 1)) = zs[p] := by
                      rcases h01p with h | h <;> rw [h] <;> rfl
                    have hct := hLZ.times
                    rw [ht] at hct
                    have hca : wr.cell? ⟨G, p, none⟩ = some (.int .i64 zs[p]) := (ho.cellAt p (iv zs[p]) (by rw [List.getElem?_map, List.getElem?_eq_getElem hpz]; rfl)).1
                    generalize zs[p] = y at *
                    have HV := Lib.hid hv
                    have HZ := Lib.hid hz
                    have HO := Lib.hid ho
                    have HB := Lib.hid hb
                    have HCT := Lib.hid hct
                    clear hv hz ho hb hbe hLZ hy h01p ht hct
                    go_wp2_with fail
                    go_quiet ((go_at_call 11; exact Calls.quiet_of_same (times_t b y _ (by exact HCT.out))))
                    go_wp2
                    go_roundw
                    case rel => exact ⟨p + 1, by omega, by go_num, HV.out.drewN _, HZ.out.below (below_drewN (Below.refl _ _) _), HO.out.drewN _, below_drewN HB.out _⟩
                    case measure => simp [intOf]; omega
                  · obtain rfl : p = j := by omega
                    have HB := Lib.hid hb
                    clear hv hz ho hb
                    go_wp2_with fail
                    refine (first_then HB.out).mono ?_
                    rintro e w7 ⟨rfl, hb7⟩
                    have HB7 := Lib.hid hb7
                    clear hb7
                    go_wp2_with fail
                    go_ret
                    exact ⟨rfl, HB7.out⟩
end Go.Proofs.Ytepgbpfnamaooaa.Ce
