/- Texts put together: YPkD, YPkE, YPkL, YPkM. -/
import Derived.Test.YteffiedolcjjlaaGreatQw47
import Derived.Test.YteffiedolcjjlaaGreatQw35
import Derived.Defers
import Derived.Recover
import Derived.Deep.CutBlock
import Derived.Deep.DeepCutAuto
/- Package pack: Parse, Index. -/
set_option linter.unusedVariables false
set_option linter.unusedSimpArgs false
namespace Go.Proofs.YteffiedolcjjlaaGreat.Ob
open Go.RowKit Go.Proofs.YteffiedolcjjlaaGreat.Sh
open Go.Proofs.YteffiedolcjjlaaGreat.Tx (Shape InL TmpL OwnL Typed Only By Rd Datas list_appendL step_appendL)

theorem EnV.at_ {w : World} {A : Option Addr} {n c : Nat} {l : List EntM} (h : EnV w (.slice A n c) l) (i : Nat) (a : EntM) (hk : l[i]? = some a) : ∃ (ad : Addr) (A2 : Option Addr) (c2 : Nat), A = some ad ∧ w.cell? (ad.add (i * 3)) = some (.slice A2 a.data.length c2) ∧
    w.cell? ⟨(ad.add (i * 3)).block, (ad.add (i * 3)).off + 1, none⟩ = some (.int .i64 (a.place : Int)) ∧ w.cell? ⟨(ad.add (i * 3)).block, (ad.add (i * 3)).off + 2, none⟩ = some (.int .i64 (a.depth : Int)) ∧ By (fun k => k < w.heap.size) w (.slice A2 a.data.length c2) a.data := by
  obtain ⟨ad, d, hA, hby, hc⟩ := TmpL.at_ (K := entK) h i a hk
  obtain ⟨A2, c2, e2, h1, h2⟩ := Tx.By.slice hby
  have e3 : d = .slice A2 a.data.length c2 := e2
  subst e3
  refine ⟨ad, A2, c2, hA, hc 0 _ rfl, ?_, ?_, hby⟩
  · have := hc 1 _ rfl
    rw [show entK.m = 3 from rfl, Tx.add_field _ _ 1 (by omega)] at this
    exact this
  · have := hc 2 _ rfl
    rw [show entK.m = 3 from rfl, Tx.add_field _ _ 2 (by omega)] at this
    exact this
theorem make_rws (n : Nat) (hn : n ≤ 2000000) (w : World) :
    (Instr.makeSlice 60 (.int .i64 0) (.int .i64 (n : Int))).run Tryz.prog w = .ok (.slice (some ⟨w.heap.size, 0, none⟩) 0 n) (w.alloc (.cells (madeCells #[.string ⟨#[]⟩, .int .i64 0, .int .i64 0] (n * 3)) 67)) := by
  obtain ⟨i0, hi, hz0, hz1, hz2⟩ := info_parts typed_row.info
  have hr := run_make (P := Tryz.prog) w 60 67 i0 (.agg #[.string ⟨#[]⟩, .int .i64 0, .int .i64 0]) Tryz.underlying60 hi hz0 .i64 .i64 0 n (by omega) (by omega) (by rw [hz2]; omega) (by omega)
  rw [hz1, show rowK.m = 3 from rfl] at hr
  simpa [Value.cells] using hr
theorem own_mk (K : Shape) (T : TypeId) (F : Nat → Prop) (w : World) (cs : Array Value) (n N : Nat) (hn : n ≤ maxLen) (hs : (madeCells cs N).size = n * K.m) (hF : ¬ F w.heap.size) :
    OwnL K T F (w.alloc (.cells (madeCells cs N) T)) w.heap.size (.slice (some ⟨w.heap.size, 0, none⟩) 0 n) [] :=
  ⟨⟨[], ⟨by simp [Tx.ShC], .inr ⟨w.heap.size, n, madeCells cs N, rfl, Nat.le_refl _, heap_alloc_new w _, Nat.zero_le _, hn, hs, by simp [Tx.ShC]⟩⟩, Datas.nil_⟩, fun k hk hf => by
    have e : w.heap.size = k := by simpa [Value.ownBlock] using hk
    exact hF (by rw [e]; exact hf)⟩
/-- What Parse leaves. -/
def ParsePost (r : Int × List EntM) (w : World) (e : Ending) (w' : World) : Prop :=
  ∃ A c, e = .returned (.tuple #[.slice A (if r.1 = 0 then r.2.map (fun e => e.data) else []).length c, .int .i64 (r.2.length : Int), .int .i64 r.1]) ∧ Below w.heap.size w w' ∧ LsV w' (.slice A (if r.1 = 0 then r.2.map (fun e => e.data) else []).length c) (if r.1 = 0 then r.2.map (fun e => e.data) else [])
end Go.Proofs.YteffiedolcjjlaaGreat.Ob
/- Package pack: Index. -/
set_option linter.unusedVariables false
set_option linter.unusedSimpArgs false
namespace Go.Proofs.YteffiedolcjjlaaGreat.Ob
open Go.RowKit Go.Proofs.YteffiedolcjjlaaGreat.Sh
open Go.Proofs.YteffiedolcjjlaaGreat.Tx (Shape InL TmpL OwnL Typed Only By Rd Datas list_appendL step_appendL step_enter)

/-- What Index leaves. -/
def IndexPost (r : Int × List EntM) (w : World) (e : Ending) (w' : World) : Prop :=
  ∃ A c, e = .returned (.tuple #[.slice A (if r.1 = 0 then r.2 else []).length c, .int .i64 r.1]) ∧ Below w.heap.size w w' ∧ RwV w' (.slice A (if r.1 = 0 then r.2 else []).length c) (if r.1 = 0 then r.2 else [])
set_option maxRecDepth 100000 in
set_option maxHeartbeats 6400000 in
theorem index_any {v fv : Value} {bs : List UInt8} {base : BaseM} {w : World} (h : PrIn w v fv bs base) (hfv : ∃ fn f1 f2, fv = .func fn f1 f2) (hr5 : (readP bs base).2.length ≤ 100000) (hr6 : ∀ e ∈ (readP bs base).2, e.data.length ≤ 1000000) : Calls Tryz.prog 28 #[v, fv] w (IndexPost (readP bs base) w) := by
  have HRP := Lib.hid (readPack_any h hfv)
  obtain ⟨fn, f1, f2, rfl⟩ := hfv
  obtain ⟨A, c, rfl, hlc, hcm, _⟩ := h.sl.len
  obtain ⟨l, hl⟩ : ∃ l, bs.length = l := ⟨_, rfl⟩
  rw [hl] at HRP ⊢
  obtain ⟨R, hR⟩ : ∃ R, readP bs base = R := ⟨_, rfl⟩
  rw [hR] at HRP hr5 hr6 ⊢
  have HR6 := Lib.hid hr6
  clear h hl hR hlc hcm hr6
  obtain ⟨r1, hr1⟩ : ∃ r, R.1 = r := ⟨_, rfl⟩
  obtain ⟨n, hn⟩ : ∃ n, R.2.length = n := ⟨_, rfl⟩
  have HR1 := Lib.hid hr1
  have HN := Lib.hid hn
  rw [hn] at hr5
  unfold ReadPost at HRP
  rw [hn, hr1] at HRP
  by_cases h0 : r1 = 0
  · subst h0
    have hmk := fun W => make_rws n (by omega) W
    have hP : IndexPost R w = fun e w' => ∃ A c, e = .returned (.tuple #[.slice A n c, .int .i64 0]) ∧ Below w.heap.size w w' ∧ RwV w' (.slice A n c) R.2 := by
      unfold IndexPost
      rw [hr1, if_pos rfl, HN.out]
    rw [hP]
    clear hP hr1 hn
    go_enter Tryz.func28, Tryz.ntmps28
    go_wp2_with fail
    refine HRP.out.mono ?_
    rintro y w1 ⟨A1, c1, rfl, hb1, hlc1, hcm1, hen⟩
    have HB1 := Lib.hid hb1
    have HEN := Lib.hid hen
    unfold maxLen at hcm1
    clear hb1 hen
    have hba := (Below.refl w1.heap.size w1).alloc (Nat.le_refl _) (.cells (madeCells #[.string ⟨#[]⟩, .int .i64 0, .int .i64 0] (n * 3)) 67)
    have HOW : Hid (OwnL rowK 67 (fun k => k < w1.heap.size) (w1.alloc (.cells (madeCells #[.string ⟨#[]⟩, .int .i64 0, .int .i64 0] (n * 3)) 67)) w1.heap.size (.slice (some ⟨w1.heap.size, 0, none⟩) 0 n) []) := own_mk rowK _ _ w1 _ n _ (by unfold maxLen; omega) (by rw [size_madeCells]; rfl) (Nat.lt_irrefl _)
    have HBA := Lib.hid hba
    clear hba
    go_wp2_with fail
    go_loopw [8, 25] (fun v9 x wr => ∃ (i : Nat), i ≤ n ∧ x = .int .i64 (i : Int) ∧ Below w1.heap.size w1 wr ∧ OwnL rowK 67 (fun k => k < w1.heap.size) wr w1.heap.size v9 (R.2.take i)) (fun _ x _ => n - (intOf x).toNat)
    case atStart => exact ⟨0, Nat.zero_le _, rfl, HBA.out, HOW.out⟩
    case round =>
      obtain ⟨i, hi, rfl, hb, ho⟩ := hrel
      have HB := Lib.hid hb
      obtain ⟨A9, c9, hv9, _, _⟩ := TmpL.slice (K := rowK) ho.tmp
      have hli : (R.2.take i).length = i := by rw [List.length_take]; have := HN.out; omega
      have hv8 : (Value.slice A9 (R.2.take i).length c9) = .slice A9 i c9 := congrArg (fun m => Value.slice A9 m c9) hli
      have hv9' := hv9.trans hv8
      clear hv9 hv8
      subst hv9'
      have HO := Lib.hid ho
      clear hb ho
      have z0 : (0 : Int) ≤ (i : Int) := by omega
      by_cases hlt : i < n
      · have z1 : (i : Int) < (n : Int) := by omega
        have hgi : R.2[i]? = some (R.2[i]'(by have := HN.out; omega)) := List.getElem?_eq_getElem _
        obtain ⟨a, ha⟩ : ∃ a, (R.2[i]'(by have := HN.out; omega)) = a := ⟨_, rfl⟩
        rw [ha] at hgi
        obtain ⟨ad, A2, c2, rfl, x0, x1, x2, hby⟩ := HEN.out.at_ i a hgi
        have y0 := (HB.out.cell (World.block_lt_of_cell? w1 _ x0)).trans x0
        have y1 := (HB.out.cell (World.block_lt_of_cell? w1 _ x1)).trans x1
        have y2 := (HB.out.cell (World.block_lt_of_cell? w1 _ x2)).trans x2
        have hed : R.2.take (i + 1) = R.2.take i ++ [a] := by rw [List.take_add_one, hgi]; rfl
        have HED := Lib.hid hed
        have HAL : Hid (a.data.length ≤ 1000000) := HR6.out a (List.mem_of_getElem? hgi)
        have HSL : Hid (∀ W, Below w1.heap.size w1 W → Sl W (.slice A2 a.data.length c2) a.data) := fun W hW => (by_sl hby).below hW
        have hzr := HB.out.size
        obtain ⟨wg, hwg⟩ : ∃ W, wr.alloc (.cells #[.slice A2 a.data.length c2, .int .i64 (a.place : Int), .int .i64 (a.depth : Int)] 114) = W := ⟨_, rfl⟩
        have HWG := Lib.hid hwg
        have hbg : Below w1.heap.size w1 wg := by rw [← hwg]; exact HB.out.alloc hzr _
        have hkg : Blk wg wr.heap.size 114 #[.slice A2 a.data.length c2, .int .i64 (a.place : Int), .int .i64 (a.depth : Int)] := by rw [← hwg]; exact Blk.new _ _ _
        have HOG : Hid (OwnL rowK 67 (fun k => k < w1.heap.size) wg w1.heap.size (.slice A9 i c9) (R.2.take i)) := by rw [← hwg]; exact HO.out.alloc _
        have HBG := Lib.hid hbg
        have HKG := Lib.hid hkg
        have q0 := hkg.cell 0
        have q1 := hkg.cell 1
        have q2 := hkg.cell 2
        have s1 : Hid ((R.2.take i).length + [a].length ≤ 2000000) := by unfold Hid; rw [hli]; simp; omega
        have HOL : Hid (∀ j, (Value.slice A9 i c9).ownBlock = some j → w1.heap.size ≤ j) := fun j hj => (HO.out.lt j hj).1
        have HLI := Lib.hid hli
        have HLT := Lib.hid hlt
        obtain ⟨al, hal⟩ : ∃ l, a.data.length = l := ⟨_, rfl⟩
        obtain ⟨ap, hap⟩ : ∃ l, a.place = l := ⟨_, rfl⟩
        obtain ⟨ae, hae⟩ : ∃ l, a.depth = l := ⟨_, rfl⟩
        rw [hal] at y0 q0 HSL HWG HKG
        rw [hap] at y1 q1 HWG HKG
        rw [hae] at y2 q2 HWG HKG
        have HAP := Lib.hid hap
        have HAE := Lib.hid hae
        clear hgi ha x0 x1 x2 hby hed hli hlt hwg hbg hkg hal hap hae
        go_upto_region 8 with (fail)
        rw [HWG.out]
        go_region_law (first
          | (refine step_enter rfl 56 #[.slice A2 al c2] (by go_simp) (id_any _ a.data _ (by first | exact HSL.out _ HBG.out | exact HSL.out _ HBG.out.drew) (by have := HAL.out; omega)) ?_; rintro e w4 ⟨rfl, hb4⟩; refine ⟨_, rfl, ?_⟩; have hb4' : Below wg.heap.size wg w4 := ⟨hb4.os, hb4.tape, hb4.output, hb4.size, hb4.block⟩; have HB4 := Lib.hid hb4'; have hk4 := HKG.out.below hb4' HKG.out.lt; have q0 := hk4.cell 0; have q1 := hk4.cell 1; have q2 := hk4.cell 2; have hba4 := (Below.refl w4.heap.size w4).alloc (Nat.le_refl _) (.cells #[.string (str (hexL (sumOf a.data))), .int .i64 (ap : Int), .int .i64 (ae : Int)] 67); have HOA : Hid (OwnL rowK 67 (fun k => k < w1.heap.size) (w4.alloc (.cells #[.string (str (hexL (sumOf a.data))), .int .i64 (ap : Int), .int .i64 (ae : Int)] 67)) w1.heap.size (.slice A9 i c9) (R.2.take i)) := (HOG.out.only (M := fun _ => False) (Only.of_below hb4') (fun _ _ h9 => h9) (fun _ _ h9 => h9)).alloc _; have HTA : Hid (TmpL rowK (fun k => k < w1.heap.size) (w4.alloc (.cells #[.string (str (hexL (sumOf a.data))), .int .i64 (ap : Int), .int .i64 (ae : Int)] 67)) (.slice (some ⟨w4.heap.size, 0, none⟩) 1 1) [a]) := TmpL.one (K := rowK) (a := a) (d := .slice none 0 0) (Blk.new w4 67 #[.string (str (hexL (sumOf a.data))), .int .i64 (ap : Int), .int .i64 (ae : Int)]) (by rw [← HAP.out, ← HAE.out]; rfl) (Rd.nil_ _ _ _); have HZ : Hid (w1.heap.size ≤ (w4.alloc (.cells #[.string (str (hexL (sumOf a.data))), .int .i64 (ap : Int), .int .i64 (ae : Int)] 67)).heap.size) := (by have h1 := HBG.out.size; have h2 := hb4'.size; unfold Hid; simp; omega); have HBX : Hid (Below w1.heap.size w1 (w4.alloc (.cells #[.string (str (hexL (sumOf a.data))), .int .i64 (ap : Int), .int .i64 (ae : Int)] 67))) := (HBG.out.trans (hb4'.mono HBG.out.size)).alloc (by have h1 := HBG.out.size; have h2 := hb4'.size; omega) _; clear hb4 hb4' hk4 hba4)
          | (refine step_appendL typed_row (v := .slice A9 i c9) (ex := .slice (some ⟨w4.heap.size, 0, none⟩) 1 1) (l2 := [a]) rfl (.tmp 29) (.tmp 38) rfl (by first | exact HOA.out | exact HOA.out.drew) (by first | exact HTA.out | exact HTA.out.drew) (by rfl) (by rfl) s1.out (by exact HZ.out) (by intro j hj; exact Nat.lt_of_lt_of_le hj HZ.out) ?_; intro v5 w5 ho5 hg5 hk5; have HO5 := Lib.hid ho5; have HG5 := Lib.hid hg5; clear ho5 hg5 hk5))
        all_goals
          go_wp2_with fail
          go_roundw
          case rel => exact ⟨i + 1, by have := HLT.out; omega, by go_num, by first | exact HBX.out.grown HG5.out HZ.out (fun j hj => HOL.out j hj) | exact HBX.out.drew.grown HG5.out HZ.out (fun j hj => HOL.out j hj), Eq.mpr (congrArg (fun L : List EntM => OwnL rowK 67 (fun k => k < w1.heap.size) w5 w1.heap.size v5 L) HED.out) HO5.out⟩
          case measure => have := HLT.out; simp [intOf]; omega
      · obtain rfl : i = n := by omega
        have hall : R.2.take i = R.2 := List.take_of_length_le (by rw [HN.out]; exact Nat.le_refl _)
        have HO2 : Hid (OwnL rowK 67 (fun k => k < w1.heap.size) wr w1.heap.size (.slice A9 i c9) R.2) := Eq.mp (congrArg (fun L : List EntM => Hid (OwnL rowK 67 (fun k => k < w1.heap.size) wr w1.heap.size (.slice A9 i c9) L)) hall) HO
        have HLS : Hid (RwV wr (.slice A9 i c9) R.2) := by
          obtain ⟨ds, h1, h2⟩ := HO2.out.tmp
          exact ⟨ds, h1, h2.mono (fun _ _ _ => trivial)⟩
        clear hall hli hlt
        go_wp2_with fail
        go_ret2
        exact ⟨A9, c9, rfl, HB1.out.trans (HB.out.mono HB1.out.size), HLS.out⟩
  · have z : (r1 != 0) = true := by rw [bne_iff_ne]; exact h0
    have hP : IndexPost R w = fun e w' => ∃ A c, e = .returned (.tuple #[.slice A 0 c, .int .i64 r1]) ∧ Below w.heap.size w w' ∧ RwV w' (.slice A 0 c) [] := by
      unfold IndexPost
      rw [hr1, if_neg h0]
      rfl
    rw [hP]
    clear hP hr1 h0 hn
    go_enter Tryz.func28, Tryz.ntmps28
    go_wp2_with fail
    refine HRP.out.mono ?_
    rintro y w1 ⟨A1, c1, rfl, hb1, hlc1, hcm1, hen⟩
    have HB1 := Lib.hid hb1
    clear hb1 hen
    go_wp2_with fail
    go_ret2
    exact ⟨none, 0, rfl, HB1.out, RwV.nil_ _⟩
end Go.Proofs.YteffiedolcjjlaaGreat.Ob
/- What the laws of packs share: a base that has nothing, first, Few, Lists. -/
set_option linter.unusedVariables false
set_option linter.unusedSimpArgs false
namespace Go.Proofs.YteffiedolcjjlaaGreat.Ob
open Go.RowKit Go.Proofs.YteffiedolcjjlaaGreat.Sh
open Go.Proofs.YteffiedolcjjlaaGreat.Tx (Shape InL TmpL OwnL Typed Only By Rd Datas list_appendL step_appendL)

def YesP (w : World) (e : Ending) (w' : World) : Prop := e = .returned (.bool true) ∧ Below w.heap.size w w'
set_option maxRecDepth 100000 in
set_option maxHeartbeats 800000 in
theorem first_any (w : World) : Calls Tryz.prog 20 #[] w (YesP w) := by
  have HW := Lib.hid (write_any (.slice none 0 0) [] w (LsV.nil_ w) (by simp))
  have hw : writeP [] = (0, [77, 80, 49, 0] ++ sumOf [77, 80, 49, 0]) := by
    rw [write_ok (by simp) (fun o h => by cases h) (fun o h => by cases h)]
    have e : (writesP [] ([] : List (List UInt8)).length).1 = [77, 80, 49, 0] := by
      show markL ++ putL 0 = _
      rw [putL_lt (by omega)]; rfl
    rw [e]
  unfold WritePost at HW
  rw [hw] at HW
  have hl36 : ([77, 80, 49, 0] ++ sumOf [77, 80, 49, 0]).length = 36 := by rw [List.length_append, sumOf_length]; rfl
  have ht4 : ([77, 80, 49, 0] ++ sumOf [77, 80, 49, 0]).take 4 = [77, 80, 49, 0] := List.take_left' rfl
  obtain ⟨B, hB⟩ : ∃ B : List UInt8, [77, 80, 49, 0] ++ sumOf [77, 80, 49, 0] = B := ⟨_, rfl⟩
  rw [hB] at HW hl36 ht4
  have HL := Lib.hid hl36
  have HT := Lib.hid ht4
  clear hw hB hl36 ht4
  go_enter Tryz.func20, Tryz.ntmps20
  go_wp2_with fail
  refine HW.out.mono ?_
  rintro e w1 ⟨A, m, c, rfl, hb, ho⟩
  obtain ⟨_, _, e1, h1, h2⟩ := ho.length
  injection e1 with e1 e2 e3
  subst e1 e3
  rw [HL.out] at e2
  subst e2
  rw [HL.out] at h1
  have HB := Lib.hid hb
  have ks := fun W => run_front A 36 c 4 (by omega) W
  obtain ⟨T, hT⟩ : ∃ T, (if c = 0 then A else A.map (·.add 0)) = T := ⟨_, rfl⟩
  have hsf := sl_front (show Sl w1 (.slice A B.length c) B by rw [HL.out]; exact ho.sl) 4 (by rw [HL.out]; omega)
  rw [hT, HT.out] at hsf
  rw [hT] at ks
  rw [show ((4 : Nat) : Int) = 4 from rfl] at ks
  obtain ⟨A', c', e9, g1, g2, g3, g4⟩ := hsf
  injection e9 with e9 _ e8
  subst e9 e8
  have kc : (convert 51 9 (.slice T 4 c)).run Tryz.prog w1 = .ok (.string (str [77, 80, 49, 0])) w1 := conv_str w1 T [77, 80, 49, 0] c g3 g4
  have hs : ((str [77, 80, 49, 0]).toList == [77, 80, 49, 0]) = true := by rw [str_toList]; decide
  clear g1 g2 g3 g4 hb ho hT h1 h2
  go_wp2_with fail
  go_ret
  exact ⟨rfl, HB.out⟩
theorem first_then {w : World} {B : Nat} {w1 : World} (h : Below B w w1) (hB : B ≤ w1.heap.size) : Calls Tryz.prog 20 #[] w1 fun e w' => e = .returned (.bool true) ∧ Below B w w' :=
  (first_any w1).mono fun _ _ ⟨he, hb⟩ => ⟨he, h.trans (hb.mono hB)⟩
end Go.Proofs.YteffiedolcjjlaaGreat.Ob
/- What the laws of packs share: Few, Bytes, Lists. -/
set_option linter.unusedVariables false
set_option linter.unusedSimpArgs false
namespace Go.Proofs.YteffiedolcjjlaaGreat.Ob
open Go.RowKit Go.Proofs.YteffiedolcjjlaaGreat.Sh
open Go.Proofs.YteffiedolcjjlaaGreat.Tx (Shape InL TmpL OwnL Typed Only By Rd Datas list_appendL step_appendL)

set_option maxRecDepth 100000 in
set_option maxHeartbeats 1600000 in
theorem lists_any (v1 v2 : Value) (l : List (List UInt8)) (w : World) (h1 : LsV w v1 l) (h2 : LsV w v2 l) : Calls Tryz.prog 25 #[v1, v2] w (YesP w) := by
  obtain ⟨A1, c1, rfl, hl1, hm1⟩ := h1.slice
  obtain ⟨A2, c2, rfl, hl2, hm2⟩ := h2.slice
  unfold maxLen at hm1 hm2
  have H1 := Lib.hid h1
  have H2 := Lib.hid h2
  obtain ⟨n, hn⟩ : ∃ n, l.length = n := ⟨_, rfl⟩
  rw [hn] at H1 H2 hl1 hl2 ⊢
  have HN := Lib.hid hn
  have zb : ((n : Int) != (n : Int)) = false := bne_self_eq_false _
  clear h1 h2 hn
  go_enter Tryz.func25, Tryz.ntmps25
  go_wp2_with fail
  go_loopw [5] (fun x wr => ∃ (i : Nat), i ≤ n ∧ x = .int .i64 (i : Int) ∧ Below w.heap.size w wr) (fun x _ => n - (intOf x).toNat)
  case atStart => exact ⟨0, Nat.zero_le _, rfl, Below.refl _ _⟩
  case round =>
    obtain ⟨i, hi, rfl, hb⟩ := hrel
    have HB := Lib.hid hb
    clear hb
    have z0 : (0 : Int) ≤ (i : Int) := by omega
    by_cases hlt : i < n
    · have z1 : (i : Int) < (n : Int) := by omega
      have hgi : l[i]? = some (l[i]'(by have := HN.out; omega)) := List.getElem?_eq_getElem _
      obtain ⟨o, ho⟩ : ∃ o, (l[i]'(by have := HN.out; omega)) = o := ⟨_, rfl⟩
      rw [ho] at hgi
      obtain ⟨ad, A3, c3, rfl, y0, _, _, hs3⟩ := (H1.out.below HB.out).at_ i o hgi
      obtain ⟨ad4, A4, c4, rfl, y1, _, _, hs4⟩ := (H2.out.below HB.out).at_ i o hgi
      have HC := Lib.hid (rbytes_any _ _ o o wr hs3 hs4)
      have HS3 := Lib.hid hs3
      have HS4 := Lib.hid hs4
      rw [show (o == o) = true from beq_self_eq_true _] at HC
      obtain ⟨ol, hol⟩ : ∃ m, o.length = m := ⟨_, rfl⟩
      rw [hol] at y0 y1 HS3 HS4
      clear hgi ho hs3 hs4 hol
      go_upto_region 6 with (fail)
      go_quiet ((go_at_call 24; exact Calls.quiet_of_same ((rbytes_any _ _ o o _ (by exact HS3.out) (by exact HS4.out)).mono fun _ _ h => ⟨h.1.trans (by rw [beq_self_eq_true]), h.2.symm⟩)))
      go_wp2_with fail
      go_roundw
      case rel => exact ⟨i + 1, by omega, by go_num, below_drewN HB.out _⟩
      case measure => simp [intOf]; omega
    · obtain rfl : i = n := by omega
      go_wp2_with fail
      go_ret
      exact ⟨rfl, HB.out⟩
end Go.Proofs.YteffiedolcjjlaaGreat.Ob
