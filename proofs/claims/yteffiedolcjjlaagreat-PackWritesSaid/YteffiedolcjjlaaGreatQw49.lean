/- Texts put together: YPkZ. -/
import Derived.Test.YteffiedolcjjlaaGreatQw46
import Derived.Test.YteffiedolcjjlaaGreatQw48
/- marlaw10.PackWrites: the walk. -/
set_option linter.unusedVariables false
set_option linter.unusedSimpArgs false
namespace Go.Proofs.YteffiedolcjjlaaGreat.Ob
open Go.RowKit Go.Proofs.YteffiedolcjjlaaGreat.Sh
open Go.Proofs.YteffiedolcjjlaaGreat.Tx (Shape InL TmpL OwnL Typed Only By Rd Datas list_appendL step_appendL)

/-- A list of copies, while it grows: its row, and what lies behind it. -/
def CopL (w0 w : World) (v : Value) (l : List (List UInt8)) : Prop := ∃ F : Nat → Prop, OwnL lstK 51 F w w0.heap.size v l ∧ (∀ k, F k → w0.heap.size ≤ k ∧ k < w.heap.size) ∧ Below w0.heap.size w0 w
theorem CopL.ls {w0 w : World} {v : Value} {l : List (List UInt8)} (h : CopL w0 w v l) : LsV w v l := by
  obtain ⟨F, h1, _, _⟩ := h
  obtain ⟨ds, h2, h3⟩ := h1.tmp
  exact ⟨ds, h2, h3.mono (fun _ _ _ => trivial)⟩
set_option maxRecDepth 100000 in
set_option maxHeartbeats 6400000 in
theorem pwrites_any (v : Value) (l : List (List UInt8)) (w : World) (h : LsV w v l) : Calls Tryz.prog 4 #[v] w (YesP w) := by
  have H := Lib.hid h
  obtain ⟨A, c, rfl, hlc, hcm⟩ := h.slice
  unfold maxLen at hcm
  obtain ⟨n, hn⟩ : ∃ n, l.length = n := ⟨_, rfl⟩
  rw [hn] at H hlc ⊢
  have HN := Lib.hid hn
  clear h hn
  go_enter Tryz.func4, Tryz.ntmps4
  go_wp2_with fail
  refine (first_any w).mono ?_
  rintro e w1 ⟨rfl, hb1⟩
  have HB1 := Lib.hid hb1
  clear hb1
  go_wp2_with fail
  refine (pfew_any _ l w1 (H.out.below HB1.out)).mono ?_
  rintro e w2 ⟨t, rfl, ht, hb2⟩
  have HB2 := Lib.hid (HB1.out.trans (hb2.mono HB1.out.size))
  have HT := Lib.hid ht
  clear ht hb2
  cases t with
  | false =>
    go_wp2_with fail
    refine (first_then HB2.out HB2.out.size).mono ?_
    rintro e w3 ⟨rfl, hb3⟩
    have HB3 := Lib.hid hb3
    clear hb3
    go_wp2_with fail
    go_ret
    exact ⟨rfl, HB3.out⟩
  | true =>
  obtain ⟨hl40, hl15⟩ := HT.out rfl
  have HL40 := Lib.hid hl40
  have HL15 := Lib.hid hl15
  have hn40 : n ≤ 40 := by rw [← HN.out]; exact hl40
  clear hl40 hl15
  go_wp2_with fail
  go_loopw [3, 4] (fun v3 x wr => ∃ i : Nat, i ≤ n ∧ x = .int .i64 (i : Int) ∧ CopL w2 wr v3 (l.take i)) (fun _ x _ => n - (intOf x).toNat)
  case atStart => exact ⟨0, Nat.zero_le _, rfl, fun _ => False, OwnL.nil_ lstK _ _ _ _, fun k h => h.elim, Below.refl _ _⟩
  case round =>
    obtain ⟨i, hi, rfl, hco⟩ := hrel
    have HCO := Lib.hid hco
    obtain ⟨F, hown, hF, hbw⟩ := hco
    have HBW := Lib.hid hbw
    have HF := Lib.hid hF
    have hli : (l.take i).length = i := by rw [List.length_take]; have := HN.out; omega
    obtain ⟨A3, c3, hv3, _, _⟩ := TmpL.slice (K := lstK) hown.tmp
    have hv3' := hv3.trans (congrArg (fun m => Value.slice A3 m c3) hli)
    clear hv3
    subst hv3'
    have HO := Lib.hid hown
    clear hown hF hbw
    have z0 : (0 : Int) ≤ (i : Int) := by omega
    by_cases hlt : i < n
    · have z1 : (i : Int) < (n : Int) := by omega
      obtain ⟨o, ho⟩ : ∃ o, l[i]? = some o := ⟨_, List.getElem?_eq_getElem (by have := HN.out; omega)⟩
      have HOL : Hid (o.length ≤ 1500) := HL15.out o (List.mem_of_getElem? ho)
      obtain ⟨ad, A7, c7, rfl, y0, _, _, hsl⟩ := (H.out.below (HB2.out.trans (HBW.out.mono HB2.out.size))).at_ i o ho
      have HSL := Lib.hid hsl
      have HTK : Hid (l.take (i + 1) = l.take i ++ [o]) := by unfold Hid; rw [List.take_add_one, ho]; rfl
      obtain ⟨ol, hol⟩ : ∃ m, o.length = m := ⟨_, rfl⟩
      rw [hol] at y0 HSL
      clear ho hsl
      go_wp2_with fail
      refine (copyb_any _ o wr HSL.out (by have := HOL.out; omega)).mono ?_
      rintro e w4 ⟨v4, rfl, ho4, hb4⟩
      obtain ⟨A4, c4, rfl, _, _⟩ := ho4.length
      have HB4 := Lib.hid (HBW.out.trans (hb4.mono HBW.out.size))
      have hz4 : w2.heap.size ≤ wr.heap.size := HBW.out.size
      have hz5 : wr.heap.size ≤ w4.heap.size := hb4.size
      have hlo : ∀ k, (Value.slice A4 o.length c4).ownBlock = some k → wr.heap.size ≤ k ∧ k < w4.heap.size := fun k hk => World.ownsRow.lt ho4 k hk
      have hvn : ∀ k, (Value.slice A3 i c3).ownBlock = some k → ¬ (F k ∨ (Value.slice A4 o.length c4).ownBlock = some k) := fun k hk hf => by
        have h1 := HO.out.lt k hk
        rcases hf with hf | hf
        · exact HO.out.2 k hk hf
        · have := (hlo k hf).1; omega
      have hO4 : OwnL lstK 51 (fun k => F k ∨ (Value.slice A4 o.length c4).ownBlock = some k) w4 w2.heap.size (.slice A3 i c3) (l.take i) :=
        (HO.out.only (Only.of_below (M := fun _ => False) hb4) (fun _ _ => id) (fun _ _ => id)).mono (fun _ _ hk => .inl hk) hvn
      have hby : By (fun k => F k ∨ (Value.slice A4 o.length c4).ownBlock = some k) w4 (.slice A4 o.length c4) o := own_by ho4 (fun k hk => .inr hk)
      rw [hol] at hO4 hby hlo hvn
      rw [hol]
      have HOA : Hid (OwnL lstK 51 (fun k => F k ∨ (Value.slice A4 ol c4).ownBlock = some k) (w4.alloc (.cells #[.slice A4 ol c4] 51)) w2.heap.size (.slice A3 i c3) (l.take i)) := hO4.alloc _
      have HTA : Hid (TmpL lstK (fun k => F k ∨ (Value.slice A4 ol c4).ownBlock = some k) (w4.alloc (.cells #[.slice A4 ol c4] 51)) (.slice (some ⟨w4.heap.size, 0, none⟩) 1 1) [o]) :=
        TmpL.one (K := lstK) (a := o) (d := .slice A4 ol c4) (Blk.new _ 51 #[.slice A4 ol c4]) rfl (hby.only ((Only.refl (fun _ => False) w4).alloc _) (fun _ _ => id))
      have s1 : Hid ((l.take i).length + [o].length ≤ 2000000) := by unfold Hid; rw [hli]; simp; omega
      have HZ : Hid (w2.heap.size ≤ (w4.alloc (.cells #[.slice A4 ol c4] 51)).heap.size) := by unfold Hid; simp; omega
      have HFZ : Hid (∀ k, (F k ∨ (Value.slice A4 ol c4).ownBlock = some k) → w2.heap.size ≤ k ∧ k < (w4.alloc (.cells #[.slice A4 ol c4] 51)).heap.size) := fun k hk => by
        simp
        rcases hk with hk | hk
        · have := HF.out k hk; omega
        · have := hlo k hk; omega
      have HBB : Hid (Below w2.heap.size w2 (w4.alloc (.cells #[.slice A4 ol c4] 51))) := HB4.out.alloc HB4.out.size _
      have HVB : Hid (∀ k, (Value.slice A3 i c3).ownBlock = some k → w2.heap.size ≤ k) := fun k hk => (HO.out.lt k hk).1
      clear ho4 hb4 hz4 hz5 hlo hvn hO4 hby hli hol
      go_wp2_with (at_builtin; refine list_appendL typed_lst (v := .slice A3 i c3) (ex := .slice (some ⟨w4.heap.size, 0, none⟩) 1 1) (l2 := [o]) rfl (.tmp 21) (.tmp 27) rfl (by exact HOA.out) (by exact HTA.out) (by rfl) (by rfl) s1.out (by exact HZ.out) (by intro j hj; exact (HFZ.out j hj).2) ?_; intro v5 w5 ho5 hg5 hk5; have HO5 := Lib.hid ho5; have HG5 := Lib.hid hg5; clear ho5 hg5 hk5)
      go_roundw
      case rel =>
        have hfin : CopL w2 w5 v5 (l.take i ++ [o]) := ⟨_, HO5.out, fun k hk => ⟨(HFZ.out k hk).1, Nat.lt_of_lt_of_le (HFZ.out k hk).2 HG5.out.size⟩, HBB.out.grown HG5.out HZ.out HVB.out⟩
        have hfin2 : CopL w2 w5 v5 (l.take (i + 1)) := by rw [HTK.out]; exact hfin
        first
          | exact ⟨i + 1, by omega, by go_num, hfin2⟩
          | exact ⟨_, _, _, _, _, _, _, _, _, _, _, ⟨i + 1, by omega, by go_num, hfin2⟩, rfl⟩
      case measure => simp [intOf]; omega
    · obtain rfl : i = n := by omega
      have hta : l.take i = l := List.take_of_length_le (by rw [HN.out]; exact Nat.le_refl _)
      have hls := HCO.out.ls
      rw [hta] at hls
      have HLS := Lib.hid hls
      have HB5 := Lib.hid (HB2.out.trans (HBW.out.mono HB2.out.size))
      have HLW := Lib.hid (H.out.below HB5.out)
      obtain ⟨wo, hwo⟩ : ∃ W, W = wr := ⟨_, rfl⟩
      subst hwo
      have HW1 := Lib.hid (write_any _ l wo HLS.out (by have := HL40.out; omega))
      have HW2 : Hid (∀ W, Below wo.heap.size wo W → Calls Tryz.prog 23 #[.slice A i c] W (WritePost l W)) := fun W hW => rwrite_any _ l W (HLW.out.below hW) (by have := HL40.out; omega)
      obtain ⟨P, hP⟩ : ∃ P, writeP l = P := ⟨_, rfl⟩
      unfold WritePost at HW1 HW2
      rw [hP] at HW1 HW2
      clear hta hls hP hlt
      go_wp2_with fail
      refine HW1.out.mono ?_
      rintro e w6 ⟨A6, m6, c6, rfl, hb6, ho6⟩
      have HB6 := Lib.hid hb6
      have HO6 := Lib.hid ho6
      clear hb6 ho6
      go_wp2_with fail
      refine (HW2.out w6 HB6.out).mono ?_
      rintro e w7 ⟨A7, m7, c7, rfl, hb7, ho7⟩
      have HB7 := Lib.hid (HB6.out.trans (hb7.mono HB6.out.size))
      have HO67 := Lib.hid (HO6.out.below hb7)
      have HO7 := Lib.hid ho7
      clear hb7 ho7
      go_wp2_with fail
      refine (first_any w7).mono ?_
      rintro e w8 ⟨rfl, hb8⟩
      have HB8 := Lib.hid (HB7.out.trans (hb8.mono HB7.out.size))
      have HO68 := Lib.hid (HO67.out.below hb8)
      have HO78 := Lib.hid (HO7.out.below hb8)
      clear hb8
      go_wp2_with fail
      refine (rbytes_any _ _ P.2 P.2 w8 HO68.out.sl HO78.out.sl).mono ?_
      rw [beq_self_eq_true]
      rintro e w' ⟨rfl, rfl⟩
      have zb : (P.1 == P.1) = true := beq_self_eq_true _
      go_wp2_with fail
      refine (lists_any _ _ l w8 (HLS.out.below HB8.out) (HLW.out.below HB8.out)).mono ?_
      rintro e w9 ⟨rfl, hb9⟩
      have HB9 := Lib.hid (HB5.out.trans ((HB8.out.trans (hb9.mono HB8.out.size)).mono HB5.out.size))
      clear hb9
      go_wp2_with fail
      go_ret
      exact ⟨rfl, HB9.out⟩
end Go.Proofs.YteffiedolcjjlaaGreat.Ob
