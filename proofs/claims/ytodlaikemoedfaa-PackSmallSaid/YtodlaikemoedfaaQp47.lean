/- Texts put together: YPkB, YPkC, YPkD, YPkE, YPkL, YPkM. -/
import Derived.Test.YtodlaikemoedfaaQp45
import Derived.Test.YtodlaikemoedfaaQp46
import Derived.Defers
import Derived.Recover
import Derived.Deep.CutBlock
import Derived.Deep.DeepCutAuto
/- Package pack's reader: getObject. -/
set_option linter.unusedVariables false
set_option linter.unusedSimpArgs false
namespace Go.Proofs.Ytodlaikemoedfaa.Ob
open Go.RowKit Go.Proofs.Ytodlaikemoedfaa.Sh
open Go.Proofs.Ytodlaikemoedfaa.Tx (Shape InL TmpL OwnL Typed Only By Rd Datas list_appendL step_appendL)

section
variable {w0 w w' : World} {F M : Nat → Prop} {p : Nat} {vb fv vr : Value} {k : Nat} {read : List EntM} {b : List UInt8}
end
end Go.Proofs.Ytodlaikemoedfaa.Ob
/- Package pack: readPack. -/
set_option linter.unusedVariables false
set_option linter.unusedSimpArgs false
namespace Go.Proofs.Ytodlaikemoedfaa.Ob
open Go.RowKit Go.Proofs.Ytodlaikemoedfaa.Sh
open Go.Proofs.Ytodlaikemoedfaa.Tx (Shape InL TmpL OwnL Typed Only By Rd Datas list_appendL step_appendL)

/-- v reads as the objects l, that were read. -/
def EnV (w : World) (v : Value) (l : List EntM) : Prop := TmpL entK (fun k => k < w.heap.size) w v l
theorem EnV.nil_ (w : World) : EnV w (.slice none 0 0) [] := ⟨[], Rd.nil_ _ w _, Datas.nil_⟩
theorem EnV.below {w w' : World} {v : Value} {l : List EntM} (h : EnV w v l) (hb : Below w.heap.size w w') : EnV w' v l := by
  obtain ⟨ds, h1, h2⟩ := TmpL.below (K := entK) h hb
  exact ⟨ds, h1, h2.mono (fun k _ hk => Nat.lt_of_lt_of_le hk hb.size)⟩
/-- What readPack leaves. -/
def ReadPost (r : Int × List EntM) (w : World) (e : Ending) (w' : World) : Prop :=
  ∃ A c, e = .returned (.tuple #[.slice A r.2.length c, .int .i64 r.1]) ∧ Below w.heap.size w w' ∧ r.2.length ≤ c ∧ c ≤ maxLen ∧ EnV w' (.slice A r.2.length c) r.2
theorem ReadPost.mk {r : Int × List EntM} {w w' : World} {v : Value} (hb : Below w.heap.size w w') (h : EnV w' v r.2) : ReadPost r w (.returned (.tuple #[v, .int .i64 r.1])) w' := by
  obtain ⟨A, c, hv, h1, h2⟩ := TmpL.slice (K := entK) h
  subst hv
  exact ⟨A, c, rfl, hb, h1, h2, h⟩
theorem ReadPost.none_ {w w' : World} (k : Int) (hb : Below w.heap.size w w') : ReadPost (k, []) w (.returned (.tuple #[.slice none 0 0, .int .i64 k])) w' := ReadPost.mk hb (EnV.nil_ w')
end Go.Proofs.Ytodlaikemoedfaa.Ob
/- Package pack: Parse, Index. -/
set_option linter.unusedVariables false
set_option linter.unusedSimpArgs false
namespace Go.Proofs.Ytodlaikemoedfaa.Ob
open Go.RowKit Go.Proofs.Ytodlaikemoedfaa.Sh
open Go.Proofs.Ytodlaikemoedfaa.Tx (Shape InL TmpL OwnL Typed Only By Rd Datas list_appendL step_appendL)

theorem EnV.at_ {w : World} {A : Option Addr} {n c : Nat} {l : List EntM} (h : EnV w (.slice A n c) l) (i : Nat) (a : EntM) (hk : l[i]? = some a) : ∃ (ad : Addr) (A2 : Option Addr) (c2 : Nat), A = some ad ∧ w.cell? (ad.add (i * 3)) = some (.slice A2 a.data.length c2) ∧
    w.cell? ⟨(ad.add (i * 3)).block, (ad.add (i * 3)).off + 1, none⟩ = some (.int .i64 (a.place : Int)) ∧ w.cell? ⟨(ad.add (i * 3)).block, (ad.add (i * 3)).off + 2, none⟩ = some (.int .i64 (a.depth : Int)) ∧ By (fun k => k < w.heap.size) w (.slice A2 a.data.length c2) a.data := by
  obtain ⟨ad, d, hA, hby, hc⟩ := TmpL.at_ (K := entK) h i a hk
  obtain ⟨A2, c2, e2, h1, h2⟩ := Tx.By.slice hby
  have e3 : d = .slice A2 a.data.length c2 := e2
  subst e3
  refine ⟨ad, A2, c2, hA, hc 0 _ rfl, ?_, ?_, hby⟩
  · have := hc 1 _ rfl
    rw [show entK.m = 3 from rfl, Tx.add_field _ _ 1 (by omega)] at this
    exact this
  · have := hc 2 _ rfl
    rw [show entK.m = 3 from rfl, Tx.add_field _ _ 2 (by omega)] at this
    exact this
/-- What Parse leaves. -/
def ParsePost (r : Int × List EntM) (w : World) (e : Ending) (w' : World) : Prop :=
  ∃ A c, e = .returned (.tuple #[.slice A (if r.1 = 0 then r.2.map (fun e => e.data) else []).length c, .int .i64 (r.2.length : Int), .int .i64 r.1]) ∧ Below w.heap.size w w' ∧ LsV w' (.slice A (if r.1 = 0 then r.2.map (fun e => e.data) else []).length c) (if r.1 = 0 then r.2.map (fun e => e.data) else [])
end Go.Proofs.Ytodlaikemoedfaa.Ob
/- Package pack: Index. -/
set_option linter.unusedVariables false
set_option linter.unusedSimpArgs false
namespace Go.Proofs.Ytodlaikemoedfaa.Ob
open Go.RowKit Go.Proofs.Ytodlaikemoedfaa.Sh
open Go.Proofs.Ytodlaikemoedfaa.Tx (Shape InL TmpL OwnL Typed Only By Rd Datas list_appendL step_appendL step_enter)

/-- What Index leaves. -/
def IndexPost (r : Int × List EntM) (w : World) (e : Ending) (w' : World) : Prop :=
  ∃ A c, e = .returned (.tuple #[.slice A (if r.1 = 0 then r.2 else []).length c, .int .i64 r.1]) ∧ Below w.heap.size w w' ∧ RwV w' (.slice A (if r.1 = 0 then r.2 else []).length c) (if r.1 = 0 then r.2 else [])
end Go.Proofs.Ytodlaikemoedfaa.Ob
/- What the laws of packs share: a base that has nothing, first, Few, Lists. -/
set_option linter.unusedVariables false
set_option linter.unusedSimpArgs false
namespace Go.Proofs.Ytodlaikemoedfaa.Ob
open Go.RowKit Go.Proofs.Ytodlaikemoedfaa.Sh
open Go.Proofs.Ytodlaikemoedfaa.Tx (Shape InL TmpL OwnL Typed Only By Rd Datas list_appendL step_appendL)

def YesP (w : World) (e : Ending) (w' : World) : Prop := e = .returned (.bool true) ∧ Below w.heap.size w w'
set_option maxRecDepth 100000 in
set_option maxHeartbeats 800000 in
theorem first_any (w : World) : Calls Try.prog 4 #[] w (YesP w) := by
  have HW := Lib.hid (write_any (.slice none 0 0) [] w (LsV.nil_ w) (by simp))
  have hw : writeP [] = (0, [77, 80, 49, 0] ++ sumOf [77, 80, 49, 0]) := by
    rw [write_ok (by simp) (fun o h => by cases h) (fun o h => by cases h)]
    have e : (writesP [] ([] : List (List UInt8)).length).1 = [77, 80, 49, 0] := by
      show markL ++ putL 0 = _
      rw [putL_lt (by omega)]; rfl
    rw [e]
  unfold WritePost at HW
  rw [hw] at HW
  have hl36 : ([77, 80, 49, 0] ++ sumOf [77, 80, 49, 0]).length = 36 := by rw [List.length_append, sumOf_length]; rfl
  have ht4 : ([77, 80, 49, 0] ++ sumOf [77, 80, 49, 0]).take 4 = [77, 80, 49, 0] := List.take_left' rfl
  obtain ⟨B, hB⟩ : ∃ B : List UInt8, [77, 80, 49, 0] ++ sumOf [77, 80, 49, 0] = B := ⟨_, rfl⟩
  rw [hB] at HW hl36 ht4
  have HL := Lib.hid hl36
  have HT := Lib.hid ht4
  clear hw hB hl36 ht4
  go_enter Try.func4, Try.ntmps4
  go_wp2_with fail
  refine HW.out.mono ?_
  rintro e w1 ⟨A, m, c, rfl, hb, ho⟩
  obtain ⟨_, _, e1, h1, h2⟩ := ho.length
  injection e1 with e1 e2 e3
  subst e1 e3
  rw [HL.out] at e2
  subst e2
  rw [HL.out] at h1
  have HB := Lib.hid hb
  have ks := fun W => run_front A 36 c 4 (by omega) W
  obtain ⟨T, hT⟩ : ∃ T, (if c = 0 then A else A.map (·.add 0)) = T := ⟨_, rfl⟩
  have hsf := sl_front (show Sl w1 (.slice A B.length c) B by rw [HL.out]; exact ho.sl) 4 (by rw [HL.out]; omega)
  rw [hT, HT.out] at hsf
  rw [hT] at ks
  rw [show ((4 : Nat) : Int) = 4 from rfl] at ks
  obtain ⟨A', c', e9, g1, g2, g3, g4⟩ := hsf
  injection e9 with e9 _ e8
  subst e9 e8
  have kc : (convert 25 9 (.slice T 4 c)).run Try.prog w1 = .ok (.string (str [77, 80, 49, 0])) w1 := conv_str w1 T [77, 80, 49, 0] c g3 g4
  have hs : ((str [77, 80, 49, 0]).toList == [77, 80, 49, 0]) = true := by rw [str_toList]; decide
  clear g1 g2 g3 g4 hb ho hT h1 h2
  go_wp2_with fail
  go_ret
  exact ⟨rfl, HB.out⟩
theorem first_then {w : World} {B : Nat} {w1 : World} (h : Below B w w1) (hB : B ≤ w1.heap.size) : Calls Try.prog 4 #[] w1 fun e w' => e = .returned (.bool true) ∧ Below B w w' :=
  (first_any w1).mono fun _ _ ⟨he, hb⟩ => ⟨he, h.trans (hb.mono hB)⟩
end Go.Proofs.Ytodlaikemoedfaa.Ob
/- What the laws of packs share: Few, Bytes, Lists. -/
set_option linter.unusedVariables false
set_option linter.unusedSimpArgs false
namespace Go.Proofs.Ytodlaikemoedfaa.Ob
open Go.RowKit Go.Proofs.Ytodlaikemoedfaa.Sh
open Go.Proofs.Ytodlaikemoedfaa.Tx (Shape InL TmpL OwnL Typed Only By Rd Datas list_appendL step_appendL)

def PFewPost (l : List (List UInt8)) (w : World) (e : Ending) (w' : World) : Prop := ∃ t, e = .returned (.bool t) ∧ (t = true → l.length ≤ 40 ∧ ∀ o ∈ l, o.length ≤ 1500) ∧ Below w.heap.size w w'
set_option maxRecDepth 100000 in
set_option maxHeartbeats 3200000 in
theorem pfew_any (v : Value) (l : List (List UInt8)) (w : World) (h : LsV w v l) : Calls Try.prog 5 #[v] w (PFewPost l w) := by
  obtain ⟨A, c, rfl, hlc, hcm⟩ := h.slice
  unfold maxLen at hcm
  have HL := Lib.hid h
  obtain ⟨n, hn⟩ : ∃ n, l.length = n := ⟨_, rfl⟩
  rw [hn] at HL hlc ⊢
  have HN := Lib.hid hn
  clear h hn
  go_enter Try.func5, Try.ntmps5
  go_wp2_with fail
  go_loopw [3, 4] (fun a x wr => ∃ (i : Nat) (s : Int), i ≤ n ∧ i ≤ 40 ∧ x = .int .i64 (i : Int) ∧ a = .int .i64 s ∧ 0 ≤ s ∧ s ≤ 24000 ∧ Below w.heap.size w wr ∧ ∀ (j : Nat) (o : List UInt8), j < i → l[j]? = some o → o.length ≤ 1500) (fun _ x _ => 41 - (intOf x).toNat)
  case atStart => exact ⟨0, 0, Nat.zero_le _, Nat.zero_le _, rfl, rfl, by omega, by omega, Below.refl _ _, fun j o hj => by omega⟩
  case round =>
    obtain ⟨i, s, hi, hi4, rfl, rfl, hs0, hs1, hb, hall⟩ := hrel
    have HB := Lib.hid hb
    have HALL := Lib.hid hall
    clear hb hall
    have z0 : (0 : Int) ≤ (i : Int) := by omega
    by_cases hlt : i < n
    · have z1 : (i : Int) < (n : Int) := by omega
      by_cases h40 : i < 40
      · have z2 : (i : Int) < 40 := by omega
        have hgi : l[i]? = some (l[i]'(by have := HN.out; omega)) := List.getElem?_eq_getElem _
        obtain ⟨o, ho⟩ : ∃ o, (l[i]'(by have := HN.out; omega)) = o := ⟨_, rfl⟩
        rw [ho] at hgi
        obtain ⟨ad, A2, c2, rfl, y0, _, _, hsl⟩ := (HL.out.below HB.out).at_ i o hgi
        have HGI := Lib.hid hgi
        obtain ⟨ol, hol⟩ : ∃ m, o.length = m := ⟨_, rfl⟩
        rw [hol] at y0
        have HOL := Lib.hid hol
        have z5 : (0 : Int) ≤ (ol : Int) := by omega
        clear hgi ho hsl hol
        go_upto_region 5 with (fail)
        go_cut [3] (fun a wx => ∃ s2 : Int, a = .int .i64 s2 ∧ 0 ≤ s2 ∧ s2 ≤ 24000 ∧ wx = wr)
        case first =>
          go_wp2_with fail
          all_goals
            go_meet
            exact ⟨_, rfl, by first | omega | (rw [IntKind.wrap_i64]; omega), by first | omega | (rw [IntKind.wrap_i64]; omega), rfl⟩
        case rest =>
          obtain ⟨s2, rfl, hs2, hs3, rfl⟩ := hcut
          by_cases h15 : ol ≤ 1500
          · have z3 : (ol : Int) ≤ 1500 := by omega
            go_wp2_with fail
            go_roundw
            case rel => exact ⟨i + 1, s2, by omega, by omega, by go_num, rfl, hs2, hs3, HB.out, fun j o' hj ho' => by
              by_cases e : j = i
              · subst e
                have : o' = o := by have := HGI.out; rw [this] at ho'; injection ho' with ho'; exact ho'.symm
                rw [this, HOL.out]; exact h15
              · exact HALL.out j o' (by omega) ho'⟩
            case measure => simp [intOf]; omega
          · have z3 : (1500 : Int) < (ol : Int) := by omega
            go_wp2_with fail
            go_ret
            exact ⟨false, rfl, (fun e => by cases e), HB.out⟩
      · have hi40 : i = 40 := by omega
        have z2 : (40 : Int) ≤ (i : Int) := by omega
        have z3 : (40 : Int) < (n : Int) := by omega
        go_wp2_with fail
        go_ret
        exact ⟨false, rfl, (fun e => by cases e), HB.out⟩
    · obtain rfl : i = n := by omega
      have z1 : (i : Int) ≤ 40 := by omega
      have hfin : l.length ≤ 40 ∧ ∀ o ∈ l, o.length ≤ 1500 := ⟨by rw [HN.out]; exact hi4, fun o ho => by
        obtain ⟨j, hj, e⟩ := List.getElem_of_mem ho
        exact HALL.out j o (by rw [← HN.out]; exact hj) (by rw [List.getElem?_eq_getElem hj, e])⟩
      have HF := Lib.hid hfin
      clear hfin hlt
      go_wp2_with fail
      go_ret
      exact ⟨_, rfl, fun _ => HF.out, HB.out⟩
end Go.Proofs.Ytodlaikemoedfaa.Ob
