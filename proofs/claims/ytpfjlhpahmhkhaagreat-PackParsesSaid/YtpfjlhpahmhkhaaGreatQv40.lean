/- Texts put together: VPkE. -/
import Derived.Test.YtpfjlhpahmhkhaaGreatQv39
/- Package pack: Index. -/
set_option linter.unusedVariables false
set_option linter.unusedSimpArgs false
namespace Go.Proofs.YtpfjlhpahmhkhaaGreat.Ob
open Go.RowKit Go.Proofs.YtpfjlhpahmhkhaaGreat.Sh
open Go.Proofs.YtpfjlhpahmhkhaaGreat.Tx (Shape InL TmpL OwnL Typed Only By Rd Datas list_appendL step_appendL step_enter)
def IndexPost (r : Int × List EntM) (w : World) (e : Ending) (w' : World) : Prop :=
 ∃ A c, e = .returned (.tuple #[.slice A (if r.1 = 0 then r.2 else []).length c, .int .i64 r.1]) ∧ Below w.heap.size w w' ∧ RwV w' (.slice A (if r.1 = 0 then r.2 else []).length c) (if r.1 = 0 then r.2 else [])
set_option maxRecDepth 100000 in
set_option maxHeartbeats 6400000 in
theorem index_any {v fv : Value} {bs : List UInt8} {base : BaseM} {w : World} (h : PrIn w v fv bs base) (hfv : ∃ fn f1 f2, fv = .func fn f1 f2) (hr5 : (readP bs base).2.length ≤ 100000) (hr6 : ∀ e ∈ (readP bs base).2, e.data.length ≤ 1000000) : Calls Tryz.prog 26 #[v, fv] w (IndexPost (readP bs base) w) := by
 have HRP := Lib.hid (readPack_any h hfv)
 obtain ⟨fn, f1, f2, rfl⟩ := hfv
 obtain ⟨A, c, rfl, hlc, hcm, _⟩ := h.sl.len
 obtain ⟨l, hl⟩ : ∃ l, bs.length = l := ⟨_, rfl⟩
 rw [hl] at HRP ⊢
 obtain ⟨R, hR⟩ : ∃ R, readP bs base = R := ⟨_, rfl⟩
 rw [hR] at HRP hr5 hr6 ⊢
 have HR6 := Lib.hid hr6
 clear h hl hR hlc hcm hr6
 obtain ⟨r1, hr1⟩ : ∃ r, R.1 = r := ⟨_, rfl⟩
 obtain ⟨n, hn⟩ : ∃ n, R.2.length = n := ⟨_, rfl⟩
 have HR1 := Lib.hid hr1
 have HN := Lib.hid hn
 rw [hn] at hr5
 unfold ReadPost at HRP
 rw [hn, hr1] at HRP
 by_cases h0 : r1 = 0
 ·subst h0
  have hmk := fun W => make_rws n (by omega) W
  have hP : IndexPost R w = fun e w' => ∃ A c, e = .returned (.tuple #[.slice A n c, .int .i64 0]) ∧ Below w.heap.size w w' ∧ RwV w' (.slice A n c) R.2 := by
   unfold IndexPost
   rw [hr1, if_pos rfl, HN.out]
  rw [hP]
  clear hP hr1 hn
  go_enter Tryz.func26, Tryz.ntmps26
  go_wp2_with fail
  refine HRP.out.mono ?_
  rintro y w1 ⟨A1, c1, rfl, hb1, hlc1, hcm1, hen⟩
  have HB1 := Lib.hid hb1
  have HEN := Lib.hid hen
  unfold maxLen at hcm1
  clear hb1 hen
  have hba := (Below.refl w1.heap.size w1).alloc (Nat.le_refl _) (.cells (madeCells #[.string ⟨#[]⟩, .int .i64 0, .int .i64 0] (n * 3)) 64)
  have HOW : Hid (OwnL rowK 64 (fun k => k < w1.heap.size) (w1.alloc (.cells (madeCells #[.string ⟨#[]⟩, .int .i64 0, .int .i64 0] (n * 3)) 64)) w1.heap.size (.slice (some ⟨w1.heap.size, 0, none⟩) 0 n) []) := own_mk rowK _ _ w1 _ n _ (by unfold maxLen; omega) (by rw [size_madeCells]; rfl) (Nat.lt_irrefl _)
  have HBA := Lib.hid hba
  clear hba
  go_wp2_with fail
  go_loopw [8, 25] (fun v9 x wr => ∃ (i : Nat), i ≤ n ∧ x = .int .i64 (i : Int) ∧ Below w1.heap.size w1 wr ∧ OwnL rowK 64 (fun k => k < w1.heap.size) wr w1.heap.size v9 (R.2.take i)) (fun _ x _ => n - (intOf x).toNat)
  case atStart => exact ⟨0, Nat.zero_le _, rfl, HBA.out, HOW.out⟩
  case round =>
   obtain ⟨i, hi, rfl, hb, ho⟩ := hrel
   have HB := Lib.hid hb
   obtain ⟨A9, c9, hv9, _, _⟩ := TmpL.slice (K := rowK) ho.tmp
   have hli : (R.2.take i).length = i := by rw [List.length_take]; have := HN.out; omega
   have hv8 : (Value.slice A9 (R.2.take i).length c9) = .slice A9 i c9 := congrArg (fun m => Value.slice A9 m c9) hli
   have hv9' := hv9.trans hv8
   clear hv9 hv8
   subst hv9'
   have HO := Lib.hid ho
   clear hb ho
   have z0 : (0 : Int) ≤ (i : Int) := by omega
   by_cases hlt : i < n
   ·have z1 : (i : Int) < (n : Int) := by omega
    have hgi : R.2[i]? = some (R.2[i]'(by have := HN.out; omega)) := List.getElem?_eq_getElem _
    obtain ⟨a, ha⟩ : ∃ a, (R.2[i]'(by have := HN.out; omega)) = a := ⟨_, rfl⟩
    rw [ha] at hgi
    obtain ⟨ad, A2, c2, rfl, x0, x1, x2, hby⟩ := HEN.out.at_ i a hgi
    have y0 := (HB.out.cell (World.block_lt_of_cell? w1 _ x0)).trans x0
    have y1 := (HB.out.cell (World.block_lt_of_cell? w1 _ x1)).trans x1
    have y2 := (HB.out.cell (World.block_lt_of_cell? w1 _ x2)).trans x2
    have hed : R.2.take (i + 1) = R.2.take i ++ [a] := by rw [List.take_add_one, hgi]; rfl
    have HED := Lib.hid hed
    have HAL : Hid (a.data.length ≤ 1000000) := HR6.out a (List.mem_of_getElem? hgi)
    have HSL : Hid (∀ W, Below w1.heap.size w1 W → Sl W (.slice A2 a.data.length c2) a.data) := fun W hW => (by_sl hby).below hW
    have hzr := HB.out.size
    obtain ⟨wg, hwg⟩ : ∃ W, wr.alloc (.cells #[.slice A2 a.data.length c2, .int .i64 (a.place : Int), .int .i64 (a.depth : Int)] 176) = W := ⟨_, rfl⟩
    have HWG := Lib.hid hwg
    have hbg : Below w1.heap.size w1 wg := by rw [← hwg]; exact HB.out.alloc hzr _
    have hkg : Blk wg wr.heap.size 176 #[.slice A2 a.data.length c2, .int .i64 (a.place : Int), .int .i64 (a.depth : Int)] := by rw [← hwg]; exact Blk.new _ _ _
    have HOG : Hid (OwnL rowK 64 (fun k => k < w1.heap.size) wg w1.heap.size (.slice A9 i c9) (R.2.take i)) := by rw [← hwg]; exact HO.out.alloc _
    have HBG := Lib.hid hbg
    have HKG := Lib.hid hkg
    have q0 := hkg.cell 0
    have q1 := hkg.cell 1
    have q2 := hkg.cell 2
    have s1 : Hid ((R.2.take i).length + [a].length ≤ 2000000) := by unfold Hid; rw [hli]; simp; omega
    have HOL : Hid (∀ j, (Value.slice A9 i c9).ownBlock = some j → w1.heap.size ≤ j) := fun j hj => (HO.out.lt j hj).1
    have HLI := Lib.hid hli
    have HLT := Lib.hid hlt
    obtain ⟨al, hal⟩ : ∃ l, a.data.length = l := ⟨_, rfl⟩
    obtain ⟨ap, hap⟩ : ∃ l, a.place = l := ⟨_, rfl⟩
    obtain ⟨ae, hae⟩ : ∃ l, a.depth = l := ⟨_, rfl⟩
    rw [hal] at y0 q0 HSL HWG HKG
    rw [hap] at y1 q1 HWG HKG
    rw [hae] at y2 q2 HWG HKG
    have HAP := Lib.hid hap
    have HAE := Lib.hid hae
    clear hgi ha x0 x1 x2 hby hed hli hlt hwg hbg hkg hal hap hae
    go_upto_region 8 with (fail)
    rw [HWG.out]
    go_region_law (first
     | (refine step_enter rfl 117 #[.slice A2 al c2] (by go_simp) (id_any _ a.data _ (by first | exact HSL.out _ HBG.out | exact HSL.out _ HBG.out.drew) (by have := HAL.out; omega)) ?_; rintro e w4 ⟨rfl, hb4⟩; refine ⟨_, rfl, ?_⟩; have hb4' : Below wg.heap.size wg w4 := ⟨hb4.os, hb4.tape, hb4.output, hb4.size, hb4.block⟩; have HB4 := Lib.hid hb4'; have hk4 := HKG.out.below hb4' HKG.out.lt; have q0 := hk4.cell 0; have q1 := hk4.cell 1; have q2 := hk4.cell 2; have hba4 := (Below.refl w4.heap.size w4).alloc (Nat.le_refl _) (.cells #[.string (str (hexL (sumOf a.data))), .int .i64 (ap : Int), .int .i64 (ae : Int)] 64); have HOA : Hid (OwnL rowK 64 (fun k => k < w1.heap.size) (w4.alloc (.cells #[.string (str (hexL (sumOf a.data))), .int .i64 (ap : Int), .int .i64 (ae : Int)] 64)) w1.heap.size (.slice A9 i c9) (R.2.take i)) := (HOG.out.only (M := fun _ => False) (Only.of_below hb4') (fun _ _ h9 => h9) (fun _ _ h9 => h9)).alloc _; have HTA : Hid (TmpL rowK (fun k => k < w1.heap.size) (w4.alloc (.cells #[.string (str (hexL (sumOf a.data))), .int .i64 (ap : Int), .int .i64 (ae : Int)] 64)) (.slice (some ⟨w4.heap.size, 0, none⟩) 1 1) [a]) := TmpL.one (K := rowK) (a := a) (d := .slice none 0 0) (Blk.new w4 64 #[.string (str (hexL (sumOf a.data))), .int .i64 (ap : Int), .int .i64 (ae : Int)]) (by rw [← HAP.out, ← HAE.out]; rfl) (Rd.nil_ _ _ _); have HZ : Hid (w1.heap.size ≤ (w4.alloc (.cells #[.string (str (hexL (sumOf a.data))), .int .i64 (ap : Int), .int .i64 (ae : Int)] 64)).heap.size) := (by have h1 := HBG.out.size; have h2 := hb4'.size; unfold Hid; simp; omega); have HBX : Hid (Below w1.heap.size w1 (w4.alloc (.cells #[.string (str (hexL (sumOf a.data))), .int .i64 (ap : Int), .int .i64 (ae : Int)] 64))) := (HBG.out.trans (hb4'.mono HBG.out.size)).alloc (by have h1 := HBG.out.size; have h2 := hb4'.size; omega) _; clear hb4 hb4' hk4 hba4)
     | (refine step_appendL typed_row (v := .slice A9 i c9) (ex := .slice (some ⟨w4.heap.size, 0, none⟩) 1 1) (l2 := [a]) rfl (.tmp 29) (.tmp 38) rfl (by first | exact HOA.out | exact HOA.out.drew) (by first | exact HTA.out | exact HTA.out.drew) (by rfl) (by rfl) s1.out (by exact HZ.out) (by intro j hj; exact Nat.lt_of_lt_of_le hj HZ.out) ?_; intro v5 w5 ho5 hg5 hk5; have HO5 := Lib.hid ho5; have HG5 := Lib.hid hg5; clear ho5 hg5 hk5))
    all_goals
     go_wp2_with fail
     go_roundw
     case rel => exact ⟨i + 1, by have := HLT.out; omega, by go_num, by first | exact HBX.out.grown HG5.out HZ.out (fun j hj => HOL.out j hj) | exact HBX.out.drew.grown HG5.out HZ.out (fun j hj => HOL.out j hj), Eq.mpr (congrArg (fun L : List EntM => OwnL rowK 64 (fun k => k < w1.heap.size) w5 w1.heap.size v5 L) HED.out) HO5.out⟩
     case measure => have := HLT.out; simp [intOf]; omega
   ·obtain rfl : i = n := by omega
    have hall : R.2.take i = R.2 := List.take_of_length_le (by rw [HN.out]; exact Nat.le_refl _)
    have HO2 : Hid (OwnL rowK 64 (fun k => k < w1.heap.size) wr w1.heap.size (.slice A9 i c9) R.2) := Eq.mp (congrArg (fun L : List EntM => Hid (OwnL rowK 64 (fun k => k < w1.heap.size) wr w1.heap.size (.slice A9 i c9) L)) hall) HO
    have HLS : Hid (RwV wr (.slice A9 i c9) R.2) := by
     obtain ⟨ds, h1, h2⟩ := HO2.out.tmp
     exact ⟨ds, h1, h2.mono (fun _ _ _ => trivial)⟩
    clear hall hli hlt
    go_wp2_with fail
    go_ret2
    exact ⟨A9, c9, rfl, HB1.out.trans (HB.out.mono HB1.out.size), HLS.out⟩
 ·have z : (r1 != 0) = true := by rw [bne_iff_ne]; exact h0
  have hP : IndexPost R w = fun e w' => ∃ A c, e = .returned (.tuple #[.slice A 0 c, .int .i64 r1]) ∧ Below w.heap.size w w' ∧ RwV w' (.slice A 0 c) [] := by
   unfold IndexPost
   rw [hr1, if_neg h0]
   rfl
  rw [hP]
  clear hP hr1 h0 hn
  go_enter Tryz.func26, Tryz.ntmps26
  go_wp2_with fail
  refine HRP.out.mono ?_
  rintro y w1 ⟨A1, c1, rfl, hb1, hlc1, hcm1, hen⟩
  have HB1 := Lib.hid hb1
  clear hb1 hen
  go_wp2_with fail
  go_ret2
  exact ⟨none, 0, rfl, HB1.out, RwV.nil_ _⟩
end Go.Proofs.YtpfjlhpahmhkhaaGreat.Ob
