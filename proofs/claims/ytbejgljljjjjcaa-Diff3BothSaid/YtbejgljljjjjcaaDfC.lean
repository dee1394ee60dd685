/- marlaw15: first; DiffMerges. -/
import Derived.Test.YtbejgljljjjjcaaDfA
import Derived.Test.YtbejgljljjjjcaaLnR
import Derived.Lib.SlBytesConst
set_option linter.unusedVariables false
set_option linter.unusedSimpArgs false
namespace Go.Proofs.Ytbejgljljjjjcaa.Ln
open Go.RowKit Go.Proofs.Ytbejgljljjjjcaa.Sh Go.Proofs.Ytbejgljljjjjcaa.Tx

theorem first_k1 : mOkM [49, 10, 50, 10, 51, 10] [49, 10, 120, 10, 51, 10] [49, 10, 50, 10, 51, 10, 52, 10] = true := by decide +kernel
theorem first_k2 : mBsM [49, 10, 50, 10, 51, 10] [49, 10, 120, 10, 51, 10] [49, 10, 50, 10, 51, 10, 52, 10] = [49, 10, 120, 10, 51, 10, 52, 10] := by decide +kernel
theorem first_k3 : mErrM [49, 10, 50, 10, 51, 10] [49, 10, 120, 10, 51, 10] [49, 10, 50, 10, 51, 10, 52, 10] = 0 := by decide +kernel
theorem first_k4 : mOkM [49, 10, 50, 10, 51, 10] [49, 10, 120, 10, 51, 10] [49, 10, 121, 10, 51, 10] = false := by decide +kernel
theorem first_k5 : mErrM [49, 10, 50, 10, 51, 10] [49, 10, 120, 10, 51, 10] [49, 10, 121, 10, 51, 10] = 0 := by decide +kernel
/-- Bytes just laid, of a constant text. -/
theorem bytes_new (w : World) (l : List UInt8) (hl : l.length ≤ 100) : SlV (w.alloc (.cells (l.map bv).toArray 5 (l.length, l.length + 1))) (.slice (some ⟨w.heap.size, 0, none⟩) l.length l.length) (l.map bv) := by
  refine ⟨some ⟨w.heap.size, 0, none⟩, l.length, by rw [List.length_map], by rw [List.length_map]; exact Nat.le_refl _, by unfold maxLen; omega, ⟨by simp, fun _ => ⟨_, rfl, by simp, fun j u hu => ?_⟩⟩, fun e => by cases e⟩
  rw [Addr.add_mid, Nat.zero_add, cell_of_row _ _ _ _ 5 (l.length, l.length + 1) (heap_alloc_new w _), ← hu]
  simp
def oM : List UInt8 := [49, 10, 50, 10, 51, 10]
def aM : List UInt8 := [49, 10, 120, 10, 51, 10]
def bM : List UInt8 := [49, 10, 50, 10, 51, 10, 52, 10]
def cM : List UInt8 := [49, 10, 121, 10, 51, 10]
theorem cells_o : (oM.map bv).toArray = #[.int .u8 49, .int .u8 10, .int .u8 50, .int .u8 10, .int .u8 51, .int .u8 10] := by kernel_rfl
theorem cells_a : (aM.map bv).toArray = #[.int .u8 49, .int .u8 10, .int .u8 120, .int .u8 10, .int .u8 51, .int .u8 10] := by kernel_rfl
theorem cells_b : (bM.map bv).toArray = #[.int .u8 49, .int .u8 10, .int .u8 50, .int .u8 10, .int .u8 51, .int .u8 10, .int .u8 52, .int .u8 10] := by kernel_rfl
theorem cells_c : (cM.map bv).toArray = #[.int .u8 49, .int .u8 10, .int .u8 121, .int .u8 10, .int .u8 51, .int .u8 10] := by kernel_rfl
set_option maxRecDepth 100000 in
set_option maxHeartbeats 3200000 in
theorem dfirst_any (w : World) : Calls Try.prog 9 #[] w (Yes w) := by
  obtain ⟨w1, hw1⟩ : ∃ W, w.alloc (.cells #[.int .u8 49, .int .u8 10, .int .u8 50, .int .u8 10, .int .u8 51, .int .u8 10] 5 (6, 7)) = W := ⟨_, rfl⟩
  obtain ⟨w2, hw2⟩ : ∃ W, w1.alloc (.cells #[.int .u8 49, .int .u8 10, .int .u8 120, .int .u8 10, .int .u8 51, .int .u8 10] 5 (6, 7)) = W := ⟨_, rfl⟩
  obtain ⟨w3, hw3⟩ : ∃ W, w2.alloc (.cells #[.int .u8 49, .int .u8 10, .int .u8 50, .int .u8 10, .int .u8 51, .int .u8 10, .int .u8 52, .int .u8 10] 5 (8, 9)) = W := ⟨_, rfl⟩
  have hb1 : Below w.heap.size w w1 := by rw [← hw1]; exact (Below.refl _ _).alloc (Nat.le_refl _) _
  have hb2 : Below w1.heap.size w1 w2 := by rw [← hw2]; exact (Below.refl _ _).alloc (Nat.le_refl _) _
  have hb3 : Below w2.heap.size w2 w3 := by rw [← hw3]; exact (Below.refl _ _).alloc (Nat.le_refl _) _
  have t1 : SlV w1 (.slice (some ⟨w.heap.size, 0, none⟩) 6 6) (oM.map bv) := by have h := bytes_new w oM (by decide); rw [cells_o] at h; rw [← hw1]; exact h
  have t2 : SlV w2 (.slice (some ⟨w1.heap.size, 0, none⟩) 6 6) (aM.map bv) := by have h := bytes_new w1 aM (by decide); rw [cells_a] at h; rw [← hw2]; exact h
  have t3 : SlV w3 (.slice (some ⟨w2.heap.size, 0, none⟩) 8 8) (bM.map bv) := by have h := bytes_new w2 bM (by decide); rw [cells_b] at h; rw [← hw3]; exact h
  have z1 : w1.heap.size = w.heap.size + 1 := by rw [← hw1]; simp
  have z2 : w2.heap.size = w.heap.size + 2 := by rw [← hw2]; simp [z1]
  have hm := merge_any _ _ _ oM aM bM w3 ((t1.below hb2).below hb3) (t2.below hb3) t3 (by decide)
  unfold MrgP at hm
  rw [show mOkM oM aM bM = true from first_k1, show mBsM oM aM bM = _ from first_k2, show mErrM oM aM bM = 0 from first_k3] at hm
  have HM := Lib.hid hm
  have HB3 := Lib.hid (hb1.trans ((hb2.trans (hb3.mono hb2.size)).mono hb1.size))
  have HT1 := Lib.hid (fun W (hW : Below w3.heap.size w3 W) => ((t1.below hb2).below hb3).below hW)
  have HT2 := Lib.hid (fun W (hW : Below w3.heap.size w3 W) => (t2.below hb3).below hW)
  have HD : Hid (∀ W, Below w3.heap.size w3 W → Calls Try.prog 16 #[.slice (some ⟨w.heap.size, 0, none⟩) 6 6, .slice (some ⟨w1.heap.size, 0, none⟩) 6 6, .slice (some ⟨W.heap.size, 0, none⟩) 6 6] (W.alloc (.cells #[.int .u8 49, .int .u8 10, .int .u8 121, .int .u8 10, .int .u8 51, .int .u8 10] 5 (6, 7))) fun e w' => ∃ v, e = .returned (.tuple #[v, .bool false, .int .i64 0]) ∧ Below W.heap.size W w') := by
    intro W hW
    have hb4 : Below W.heap.size W (W.alloc (.cells #[.int .u8 49, .int .u8 10, .int .u8 121, .int .u8 10, .int .u8 51, .int .u8 10] 5 (6, 7))) := (Below.refl _ _).alloc (Nat.le_refl _) _
    have t4 : SlV (W.alloc (.cells #[.int .u8 49, .int .u8 10, .int .u8 121, .int .u8 10, .int .u8 51, .int .u8 10] 5 (6, 7))) (.slice (some ⟨W.heap.size, 0, none⟩) 6 6) (cM.map bv) := by have h := bytes_new W cM (by decide); rw [cells_c] at h; exact h
    have hd := merge_any _ _ _ oM aM cM _ ((HT1.out W hW).below hb4) ((HT2.out W hW).below hb4) t4 (by decide)
    unfold MrgP at hd
    rw [show mOkM oM aM cM = false from first_k4, show mErrM oM aM cM = 0 from first_k5] at hd
    refine hd.mono ?_
    rintro e w' ⟨v, rfl, _, h2⟩
    exact ⟨v, rfl, hb4.trans (h2.mono hb4.size)⟩
  rw [z1] at HD HM
  rw [z2] at HM
  have hcv : ∀ (W : World) (C : Array Value) (n c : Nat), (convert 36 36 (.slice (some ⟨W.heap.size, 0, none⟩) n c)).run Try.prog (W.alloc (.cells C 5)) = .ok (.slice (some ⟨W.heap.size, 0, none⟩) n c) (W.alloc (.cells C 5 (C.size, C.size + 1))) := fun W C n c => Lib.run_convert_bytes_const (P := Try.prog) W 36 5 C n c Try.underlying36 Try.underlying5
  have q1 := hcv w #[.int .u8 49, .int .u8 10, .int .u8 50, .int .u8 10, .int .u8 51, .int .u8 10] 6 6
  have q2 := hcv w1 #[.int .u8 49, .int .u8 10, .int .u8 120, .int .u8 10, .int .u8 51, .int .u8 10] 6 6
  have q3 := hcv w2 #[.int .u8 49, .int .u8 10, .int .u8 50, .int .u8 10, .int .u8 51, .int .u8 10, .int .u8 52, .int .u8 10] 8 8
  have q4 := fun W => hcv W #[.int .u8 49, .int .u8 10, .int .u8 121, .int .u8 10, .int .u8 51, .int .u8 10] 6 6
  simp only [List.size_toArray, List.length_cons, List.length_nil, Nat.zero_add, Nat.reduceAdd, z1, z2] at q1 q2 q3 q4
  rw [hw1] at q1
  rw [hw2] at q2
  rw [hw3] at q3
  clear hcv
  clear hm t1 t2 t3 hb1 hb2 hb3 HT1 HT2
  go_enter Try.func9, Try.ntmps9
  go_wp2_with fail
  refine HM.out.mono ?_
  rintro e w4 ⟨v4, rfl, ho4, hb4⟩
  obtain ⟨A4, c4, rfl, _, _, _⟩ := ho4.slv.len
  rw [List.length_map] at ho4
  have HO4 := Lib.hid ho4.slv
  have HB4 := Lib.hid (HB3.out.trans (hb4.mono HB3.out.size))
  have HDD := HD.out w4 hb4
  clear ho4 hb4 HD
  rw [List.length_map]
  go_wp2_with fail
  refine HDD.mono ?_
  rintro e w5 ⟨v5, rfl, hb5⟩
  have HB5 := Lib.hid (HB4.out.trans (hb5.mono HB4.out.size))
  have hcs := conv_str w5 A4 [49, 10, 120, 10, 51, 10, 52, 10] 8 c4 rfl (HO4.out.below hb5)
  rw [show Tx.str [49, 10, 120, 10, 51, 10, 52, 10] = ⟨#[49, 10, 120, 10, 51, 10, 52, 10]⟩ by kernel_rfl] at hcs
  clear hb5 HDD
  go_wp2_with fail
  go_ret
  exact ⟨rfl, HB5.out⟩
set_option maxRecDepth 100000 in
set_option maxHeartbeats 3200000 in
theorem merges_in (v1 v2 v3 : Value) (o a b : List UInt8) (w : World) (h1 : SlV w v1 (o.map bv)) (h2 : SlV w v2 (a.map bv)) (h3 : SlV w v3 (b.map bv)) : Calls Try.prog 4 #[v1, v2, v3] w (Yes w) := by
  have H1 := Lib.hid (fun W (hW : Below w.heap.size w W) => h1.below hW)
  have H2 := Lib.hid (fun W (hW : Below w.heap.size w W) => h2.below hW)
  have H3 := Lib.hid (fun W (hW : Below w.heap.size w W) => h3.below hW)
  obtain ⟨A1, c1, rfl, _, hm1, _⟩ := h1.len
  obtain ⟨A2, c2, rfl, _, hm2, _⟩ := h2.len
  obtain ⟨A3, c3, rfl, _, hm3, _⟩ := h3.len
  simp only [List.length_map] at H1 H2 H3 hm1 hm2 hm3 ⊢
  clear h1 h2 h3
  have HF := Lib.hid (fun W => dfirst_any W)
  unfold Yes at HF
  have hk : ∀ n : Nat, (n : Int) ≤ 4000 ∨ 4000 < (n : Int) := fun n => by omega
  by_cases hs : o.length ≤ 4000 ∧ a.length ≤ 4000 ∧ b.length ≤ 4000
  · have y1 : ¬ 4000 < (o.length : Int) := by omega
    have y2 : ¬ 4000 < (a.length : Int) := by omega
    have y3 : ¬ 4000 < (b.length : Int) := by omega
    have HP : Hid (∀ W, Below w.heap.size w W → Calls Try.prog 16 #[.slice A1 o.length c1, .slice A2 a.length c2, .slice A3 b.length c3] W (MrgP W o a b)) := fun W hW => merge_any _ _ _ o a b W (H1.out W hW) (H2.out W hW) (H3.out W hW) (by omega)
    have HD : Hid (∀ W, Below w.heap.size w W → Calls Try.prog 17 #[.slice A1 o.length c1, .slice A2 a.length c2, .slice A3 b.length c3] W (MrgP W o a b)) := fun W hW => rmerge_any _ _ _ o a b W (H1.out W hW) (H2.out W hW) (H3.out W hW) (by omega)
    unfold MrgP at HP HD
    obtain ⟨ok, hok⟩ : ∃ x, mOkM o a b = x := ⟨_, rfl⟩
    obtain ⟨er, her⟩ : ∃ x, mErrM o a b = x := ⟨_, rfl⟩
    obtain ⟨ms, hms⟩ : ∃ x, mBsM o a b = x := ⟨_, rfl⟩
    rw [hok, her, hms] at HP HD
    clear hok her hms hs hk H1 H2 H3
    go_enter Try.func4, Try.ntmps4
    go_wp2_with fail
    refine (HF.out w).mono ?_
    rintro e w1 ⟨rfl, hb1⟩
    have HB1 := Lib.hid hb1
    clear hb1
    go_wp2_with fail
    refine (HP.out w1 HB1.out).mono ?_
    rintro e w2 ⟨p1, rfl, ho1, hb2⟩
    have HO1 := Lib.hid ho1.slv
    have HB2 := Lib.hid (HB1.out.trans (hb2.mono HB1.out.size))
    clear ho1 hb2
    go_wp2_with fail
    refine (HD.out w2 HB2.out).mono ?_
    rintro e w3 ⟨p2, rfl, ho2, hb3⟩
    have HO1' := Lib.hid (HO1.out.below hb3)
    have HO2 := Lib.hid ho2.slv
    have HB3 := Lib.hid (HB2.out.trans (hb3.mono HB2.out.size))
    clear ho2 hb3
    go_wp2_with fail
    refine (HF.out w3).mono ?_
    rintro e w4 ⟨rfl, hb4⟩
    have HB4 := Lib.hid (HB3.out.trans (hb4.mono HB3.out.size))
    have HY : Hid (Calls Try.prog 18 #[p1, p2] w4 fun e w' => e = .returned (.bool (ms == ms)) ∧ w4 = w') := bytes_any p1 p2 ms ms w4 (HO1'.out.below hb4) (HO2.out.below hb4)
    rw [beq_self_eq_true] at HY
    clear hb4
    go_wp2_with fail
    refine HY.out.mono ?_
    rintro e w5 ⟨rfl, rfl⟩
    cases ok <;>
    · go_wp2_with fail
      go_ret
      exact ⟨rfl, HB4.out⟩
  · go_enter Try.func4, Try.ntmps4
    go_wp2_with fail
    refine (HF.out w).mono ?_
    rintro e w1 ⟨rfl, hb1⟩
    have HB1 := Lib.hid hb1
    clear hb1
    by_cases y1 : 4000 < (o.length : Int)
    · go_wp2_with fail
      refine (HF.out w1).mono ?_
      rintro e w2 ⟨rfl, hb2⟩
      have HB2 := Lib.hid (HB1.out.trans (hb2.mono HB1.out.size))
      go_wp2_with fail
      go_ret
      exact ⟨rfl, HB2.out⟩
    · by_cases y2 : 4000 < (a.length : Int)
      · go_wp2_with fail
        refine (HF.out w1).mono ?_
        rintro e w2 ⟨rfl, hb2⟩
        have HB2 := Lib.hid (HB1.out.trans (hb2.mono HB1.out.size))
        go_wp2_with fail
        go_ret
        exact ⟨rfl, HB2.out⟩
      · have y3 : 4000 < (b.length : Int) := by omega
        go_wp2_with fail
        refine (HF.out w1).mono ?_
        rintro e w2 ⟨rfl, hb2⟩
        have HB2 := Lib.hid (HB1.out.trans (hb2.mono HB1.out.size))
        go_wp2_with fail
        go_ret
        exact ⟨rfl, HB2.out⟩
theorem diff3Merges_walk (a0 : Option Addr) (len0 cap0 : Nat) (z0 : List Int) (a1 : Option Addr) (len1 cap1 : Nat) (z1 : List Int) (a2 : Option Addr) (len2 cap2 : Nat) (z2 : List Int) (w : World) (w0 : IsRow .u8 w a0 len0 cap0 z0) (w1 : IsRow .u8 w a1 len1 cap1 z1) (w2 : IsRow .u8 w a2 len2 cap2 z2) : Calls Try.prog 4 #[.slice a0 len0 cap0, .slice a1 len1 cap1, .slice a2 len2 cap2] w (Yes w) := by
  obtain ⟨o, _, h0⟩ := w0.bytes
  obtain ⟨a, _, h1⟩ := w1.bytes
  obtain ⟨b, _, h2⟩ := w2.bytes
  exact merges_in _ _ _ o a b w h0 h1 h2
end Go.Proofs.Ytbejgljljjjjcaa.Ln
