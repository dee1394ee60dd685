/- Texts put together: YPkD. -/
import Derived.Test.YtodlaikemoedfaaGreatQp45
/- Package pack: Parse, Index. -/
set_option linter.unusedVariables false
set_option linter.unusedSimpArgs false
namespace Go.Proofs.YtodlaikemoedfaaGreat.Ob
open Go.RowKit Go.Proofs.YtodlaikemoedfaaGreat.Sh
open Go.Proofs.YtodlaikemoedfaaGreat.Tx (Shape InL TmpL OwnL Typed Only By Rd Datas list_appendL step_appendL)

theorem EnV.at_ {w : World} {A : Option Addr} {n c : Nat} {l : List EntM} (h : EnV w (.slice A n c) l) (i : Nat) (a : EntM) (hk : l[i]? = some a) : ∃ (ad : Addr) (A2 : Option Addr) (c2 : Nat), A = some ad ∧ w.cell? (ad.add (i * 3)) = some (.slice A2 a.data.length c2) ∧
    w.cell? ⟨(ad.add (i * 3)).block, (ad.add (i * 3)).off + 1, none⟩ = some (.int .i64 (a.place : Int)) ∧ w.cell? ⟨(ad.add (i * 3)).block, (ad.add (i * 3)).off + 2, none⟩ = some (.int .i64 (a.depth : Int)) ∧ By (fun k => k < w.heap.size) w (.slice A2 a.data.length c2) a.data := by
  obtain ⟨ad, d, hA, hby, hc⟩ := TmpL.at_ (K := entK) h i a hk
  obtain ⟨A2, c2, e2, h1, h2⟩ := Tx.By.slice hby
  have e3 : d = .slice A2 a.data.length c2 := e2
  subst e3
  refine ⟨ad, A2, c2, hA, hc 0 _ rfl, ?_, ?_, hby⟩
  · have := hc 1 _ rfl
    rw [show entK.m = 3 from rfl, Tx.add_field _ _ 1 (by omega)] at this
    exact this
  · have := hc 2 _ rfl
    rw [show entK.m = 3 from rfl, Tx.add_field _ _ 2 (by omega)] at this
    exact this
theorem make_lst (n : Nat) (hn : n ≤ 2000000) (w : World) :
    (Instr.makeSlice 22 (.int .i64 0) (.int .i64 (n : Int))).run Tryz.prog w = .ok (.slice (some ⟨w.heap.size, 0, none⟩) 0 n) (w.alloc (.cells (madeCells #[.slice none 0 0] n) 25)) := by
  obtain ⟨i0, hi, hz0, hz1, hz2⟩ := info_parts typed_lst.info
  have hr := run_make (P := Tryz.prog) w 22 25 i0 (.slice none 0 0) Tryz.underlying22 hi hz0 .i64 .i64 0 n (by omega) (by omega) (by rw [hz2]; omega) (by omega)
  rw [hz1, show lstK.m = 1 from rfl, Nat.mul_one] at hr
  simpa [Value.cells] using hr
theorem make_rws (n : Nat) (hn : n ≤ 2000000) (w : World) :
    (Instr.makeSlice 42 (.int .i64 0) (.int .i64 (n : Int))).run Tryz.prog w = .ok (.slice (some ⟨w.heap.size, 0, none⟩) 0 n) (w.alloc (.cells (madeCells #[.string ⟨#[]⟩, .int .i64 0, .int .i64 0] (n * 3)) 49)) := by
  obtain ⟨i0, hi, hz0, hz1, hz2⟩ := info_parts typed_row.info
  have hr := run_make (P := Tryz.prog) w 42 49 i0 (.agg #[.string ⟨#[]⟩, .int .i64 0, .int .i64 0]) Tryz.underlying42 hi hz0 .i64 .i64 0 n (by omega) (by omega) (by rw [hz2]; omega) (by omega)
  rw [hz1, show rowK.m = 3 from rfl] at hr
  simpa [Value.cells] using hr
theorem own_mk (K : Shape) (T : TypeId) (F : Nat → Prop) (w : World) (cs : Array Value) (n N : Nat) (hn : n ≤ maxLen) (hs : (madeCells cs N).size = n * K.m) (hF : ¬ F w.heap.size) :
    OwnL K T F (w.alloc (.cells (madeCells cs N) T)) w.heap.size (.slice (some ⟨w.heap.size, 0, none⟩) 0 n) [] :=
  ⟨⟨[], ⟨by simp [Tx.ShC], .inr ⟨w.heap.size, n, madeCells cs N, rfl, Nat.le_refl _, heap_alloc_new w _, Nat.zero_le _, hn, hs, by simp [Tx.ShC]⟩⟩, Datas.nil_⟩, fun k hk hf => by
    have e : w.heap.size = k := by simpa [Value.ownBlock] using hk
    exact hF (by rw [e]; exact hf)⟩
/-- What Parse leaves. -/
def ParsePost (r : Int × List EntM) (w : World) (e : Ending) (w' : World) : Prop :=
  ∃ A c, e = .returned (.tuple #[.slice A (if r.1 = 0 then r.2.map (fun e => e.data) else []).length c, .int .i64 (r.2.length : Int), .int .i64 r.1]) ∧ Below w.heap.size w w' ∧ LsV w' (.slice A (if r.1 = 0 then r.2.map (fun e => e.data) else []).length c) (if r.1 = 0 then r.2.map (fun e => e.data) else [])
theorem ents_data (l : List EntM) (i : Nat) (a : EntM) (h : l[i]? = some a) : (l.take (i + 1)).map (fun e => e.data) = (l.take i).map (fun e => e.data) ++ [a.data] := by
  rw [List.take_add_one, h, List.map_append]; rfl
set_option maxRecDepth 100000 in
set_option maxHeartbeats 6400000 in
theorem parse_any {v fv : Value} {bs : List UInt8} {base : BaseM} {w : World} (h : PrIn w v fv bs base) (hfv : ∃ fn f1 f2, fv = .func fn f1 f2) (hr5 : (readP bs base).2.length ≤ 100000) : Calls Tryz.prog 13 #[v, fv] w (ParsePost (readP bs base) w) := by
  have HRP := Lib.hid (readPack_any h hfv)
  obtain ⟨fn, f1, f2, rfl⟩ := hfv
  obtain ⟨A, c, rfl, hlc, hcm, _⟩ := h.sl.len
  obtain ⟨l, hl⟩ : ∃ l, bs.length = l := ⟨_, rfl⟩
  rw [hl] at HRP ⊢
  obtain ⟨R, hR⟩ : ∃ R, readP bs base = R := ⟨_, rfl⟩
  rw [hR] at HRP hr5 ⊢
  clear h hl hR hlc hcm
  obtain ⟨r1, hr1⟩ : ∃ r, R.1 = r := ⟨_, rfl⟩
  obtain ⟨n, hn⟩ : ∃ n, R.2.length = n := ⟨_, rfl⟩
  have HR1 := Lib.hid hr1
  have HN := Lib.hid hn
  rw [hn] at hr5
  unfold ReadPost at HRP
  rw [hn, hr1] at HRP
  by_cases h0 : r1 = 0
  · subst h0
    have hmk := fun W => make_lst n (by omega) W
    have hP : ParsePost R w = fun e w' => ∃ A c, e = .returned (.tuple #[.slice A n c, .int .i64 (n : Int), .int .i64 0]) ∧ Below w.heap.size w w' ∧ LsV w' (.slice A n c) (R.2.map (fun e => e.data)) := by
      unfold ParsePost
      rw [hr1, if_pos rfl, List.length_map, HN.out]
    rw [hP]
    clear hP hr1 hn
    go_enter Tryz.func13, Tryz.ntmps13
    go_wp2_with fail
    refine HRP.out.mono ?_
    rintro y w1 ⟨A1, c1, rfl, hb1, hlc1, hcm1, hen⟩
    have HB1 := Lib.hid hb1
    have HEN := Lib.hid hen
    unfold maxLen at hcm1
    clear hb1 hen
    have hba := (Below.refl w1.heap.size w1).alloc (Nat.le_refl _) (.cells (madeCells #[.slice none 0 0] n) 25)
    have HOW : Hid (OwnL lstK 25 (fun k => k < w1.heap.size) (w1.alloc (.cells (madeCells #[.slice none 0 0] n) 25)) w1.heap.size (.slice (some ⟨w1.heap.size, 0, none⟩) 0 n) []) := own_mk lstK _ _ w1 _ n _ (by unfold maxLen; omega) (by rw [size_madeCells]; exact (Nat.mul_one n).symm) (Nat.lt_irrefl _)
    have HBA := Lib.hid hba
    clear hba
    go_wp2_with fail
    go_loopw [9, 28] (fun v9 x wr => ∃ (i : Nat), i ≤ n ∧ x = .int .i64 (i : Int) ∧ Below w1.heap.size w1 wr ∧ OwnL lstK 25 (fun k => k < w1.heap.size) wr w1.heap.size v9 ((R.2.take i).map (fun e => e.data))) (fun _ x _ => n - (intOf x).toNat)
    case atStart => exact ⟨0, Nat.zero_le _, rfl, HBA.out, by rw [List.take_zero]; exact HOW.out⟩
    case round =>
      obtain ⟨i, hi, rfl, hb, ho⟩ := hrel
      have HB := Lib.hid hb
      obtain ⟨A9, c9, hv9, _, _⟩ := TmpL.slice (K := lstK) ho.tmp
      have hli : ((R.2.take i).map (fun e => e.data)).length = i := by rw [List.length_map, List.length_take]; have := HN.out; omega
      have hv8 : (Value.slice A9 ((R.2.take i).map (fun e => e.data)).length c9) = .slice A9 i c9 := congrArg (fun m => Value.slice A9 m c9) hli
      have hv9' := hv9.trans hv8
      clear hv9 hv8
      subst hv9'
      have HO := Lib.hid ho
      clear hb ho
      have z0 : (0 : Int) ≤ (i : Int) := by omega
      by_cases hlt : i < n
      · have z1 : (i : Int) < (n : Int) := by omega
        have hgi : R.2[i]? = some (R.2[i]'(by have := HN.out; omega)) := List.getElem?_eq_getElem _
        obtain ⟨a, ha⟩ : ∃ a, (R.2[i]'(by have := HN.out; omega)) = a := ⟨_, rfl⟩
        rw [ha] at hgi
        obtain ⟨ad, A2, c2, rfl, x0, x1, x2, hby⟩ := HEN.out.at_ i a hgi
        have y0 := (HB.out.cell (World.block_lt_of_cell? w1 _ x0)).trans x0
        have y1 := (HB.out.cell (World.block_lt_of_cell? w1 _ x1)).trans x1
        have y2 := (HB.out.cell (World.block_lt_of_cell? w1 _ x2)).trans x2
        have hed := ents_data R.2 i a hgi
        have HED := Lib.hid hed
        have hzr := HB.out.size
        have HOA : Hid (OwnL lstK 25 (fun k => k < w1.heap.size) ((wr.alloc (.cells #[.slice A2 a.data.length c2, .int .i64 (a.place : Int), .int .i64 (a.depth : Int)] 69)).alloc (.cells #[.slice A2 a.data.length c2] 25)) w1.heap.size (.slice A9 i c9) ((R.2.take i).map (fun e => e.data))) := (HO.out.alloc _).alloc _
        have HTA : Hid (TmpL lstK (fun k => k < w1.heap.size) ((wr.alloc (.cells #[.slice A2 a.data.length c2, .int .i64 (a.place : Int), .int .i64 (a.depth : Int)] 69)).alloc (.cells #[.slice A2 a.data.length c2] 25)) (.slice (some ⟨(wr.alloc (.cells #[.slice A2 a.data.length c2, .int .i64 (a.place : Int), .int .i64 (a.depth : Int)] 69)).heap.size, 0, none⟩) 1 1) [a.data]) :=
          TmpL.one (K := lstK) (a := a.data) (d := .slice A2 a.data.length c2) (Blk.new _ 25 #[.slice A2 a.data.length c2]) rfl (hby.only (Only.of_below (M := fun _ => False) ((HB.out.alloc hzr _).alloc (by simp; omega) _)) (fun _ _ h9 => h9))
        have hsz : (wr.alloc (.cells #[.slice A2 a.data.length c2, .int .i64 (a.place : Int), .int .i64 (a.depth : Int)] 69)).heap.size = wr.heap.size + 1 := by simp
        rw [hsz] at HTA
        have s1 : Hid (((R.2.take i).map (fun e => e.data)).length + [a.data].length ≤ 2000000) := by unfold Hid; rw [hli]; simp; omega
        have HZ : Hid (w1.heap.size ≤ ((wr.alloc (.cells #[.slice A2 a.data.length c2, .int .i64 (a.place : Int), .int .i64 (a.depth : Int)] 69)).alloc (.cells #[.slice A2 a.data.length c2] 25)).heap.size) := by unfold Hid; simp; omega
        have HBB : Hid (Below w1.heap.size w1 ((wr.alloc (.cells #[.slice A2 a.data.length c2, .int .i64 (a.place : Int), .int .i64 (a.depth : Int)] 69)).alloc (.cells #[.slice A2 a.data.length c2] 25))) := (HB.out.alloc hzr _).alloc (by simp; omega) _
        have HOL : Hid (∀ j, (Value.slice A9 i c9).ownBlock = some j → w1.heap.size ≤ j) := fun j hj => (HO.out.lt j hj).1
        have HLI := Lib.hid hli
        have HLT := Lib.hid hlt
        clear hgi ha x0 x1 x2 hby hed hsz hli hlt
        go_wp2_with (at_builtin; refine list_appendL typed_lst (v := .slice A9 i c9) (ex := .slice (some ⟨wr.heap.size + 1, 0, none⟩) 1 1) (l2 := [a.data]) rfl (.tmp 32) (.tmp 35) rfl (by exact HOA.out) (by exact HTA.out) (by rfl) (by rfl) s1.out (by exact HZ.out) (by intro j hj; exact Nat.lt_of_lt_of_le hj HZ.out) ?_; intro v5 w5 ho5 hg5 hk5; have HO5 := Lib.hid ho5; have HG5 := Lib.hid hg5; clear ho5 hg5 hk5)
        go_roundw
        case rel => exact ⟨i + 1, by have := HLT.out; omega, by go_num, HBB.out.grown HG5.out HZ.out (fun j hj => HOL.out j hj), Eq.mpr (congrArg (fun L : List (List UInt8) => OwnL lstK 25 (fun k => k < w1.heap.size) w5 w1.heap.size v5 L) HED.out) HO5.out⟩
        case measure => have := HLT.out; simp [intOf]; omega
      · obtain rfl : i = n := by omega
        have hall : R.2.take i = R.2 := List.take_of_length_le (by rw [HN.out]; exact Nat.le_refl _)
        rw [hall] at HO
        have HLS : Hid (LsV wr (.slice A9 i c9) (R.2.map (fun e => e.data))) := by
          obtain ⟨ds, h1, h2⟩ := HO.out.tmp
          exact ⟨ds, h1, h2.mono (fun _ _ _ => trivial)⟩
        clear hall hli hlt
        go_wp2_with fail
        go_ret3
        exact ⟨A9, c9, rfl, HB1.out.trans (HB.out.mono HB1.out.size), HLS.out⟩
  · have z : (r1 != 0) = true := by rw [bne_iff_ne]; exact h0
    have hP : ParsePost R w = fun e w' => ∃ A c, e = .returned (.tuple #[.slice A 0 c, .int .i64 (n : Int), .int .i64 r1]) ∧ Below w.heap.size w w' ∧ LsV w' (.slice A 0 c) [] := by
      unfold ParsePost
      rw [hr1, if_neg h0, HN.out]
      rfl
    rw [hP]
    clear hP hr1 h0 hn
    go_enter Tryz.func13, Tryz.ntmps13
    go_wp2_with fail
    refine HRP.out.mono ?_
    rintro y w1 ⟨A1, c1, rfl, hb1, hlc1, hcm1, hen⟩
    have HB1 := Lib.hid hb1
    clear hb1 hen
    go_wp2_with fail
    go_ret3
    exact ⟨none, 0, rfl, HB1.out, LsV.nil_ _⟩
end Go.Proofs.YtodlaikemoedfaaGreat.Ob
