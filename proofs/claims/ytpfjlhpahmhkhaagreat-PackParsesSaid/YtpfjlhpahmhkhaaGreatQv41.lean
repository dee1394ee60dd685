/- Texts put together: VPkL. -/
import Derived.Test.YtpfjlhpahmhkhaaGreatQv38
import Derived.Test.YtpfjlhpahmhkhaaGreatQv40
import Derived.Defers
import Derived.Recover
/- What the laws of packs share: a base that has nothing, first, Few, Lists. -/
set_option linter.unusedVariables false
set_option linter.unusedSimpArgs false
namespace Go.Proofs.YtpfjlhpahmhkhaaGreat.Ob
open Go.RowKit Go.Proofs.YtpfjlhpahmhkhaaGreat.Sh
open Go.Proofs.YtpfjlhpahmhkhaaGreat.Tx (Shape InL TmpL OwnL Typed Only By Rd Datas list_appendL step_appendL)
def YesP (w : World) (e : Ending) (w' : World) : Prop := e = .returned (.bool true) ∧ Below w.heap.size w w'
theorem ask1_idle (p q : Addr) (w : World) : CallsD Tryz.prog 379 #[.pointer (some p), .pointer (some q)] .returning w fun e u' w' => e = .returned (.tuple #[]) ∧ u' = .returning ∧ w' = w := by
 refine callsD_of_wpS Tryz.func379 rfl fun c₀ cs hu => ?_
 apply wpS_seq
 apply wpS_region
 simp [wpOpsS, go_sem, recoverD, hu, Tryz.ntmps379, Exit.thenS]
 refine wpS_cond (t := false) (by simp [Act.eval, Array.replicate]) ?_
 simp only [Bool.false_eq_true, if_false]
 refine wpS_of_wp (wp_skip ?_)
 cases c₀
 simp_all [bodyPostS, results, Tryz.results379]
set_option maxRecDepth 100000 in
set_option maxHeartbeats 800000 in
theorem first_any (w : World) : Calls Tryz.prog 19 #[] w (YesP w) := by
 have HW := Lib.hid (write_any (.slice none 0 0) [] w (LsV.nil_ w) (by simp))
 have hw : writeP [] = (0, [77, 80, 49, 0] ++ sumOf [77, 80, 49, 0]) := by
  rw [write_ok (by simp) (fun o h => by cases h) (fun o h => by cases h)]
  have e : (writesP [] ([] : List (List UInt8)).length).1 = [77, 80, 49, 0] := by
   show markL ++ putL 0 = _
   rw [putL_lt (by omega)]; rfl
  rw [e]
 unfold WritePost at HW
 rw [hw] at HW
 have hl36 : ([77, 80, 49, 0] ++ sumOf [77, 80, 49, 0]).length = 36 := by rw [List.length_append, sumOf_length]; rfl
 have ht4 : ([77, 80, 49, 0] ++ sumOf [77, 80, 49, 0]).take 4 = [77, 80, 49, 0] := List.take_left' rfl
 obtain ⟨B, hB⟩ : ∃ B : List UInt8, [77, 80, 49, 0] ++ sumOf [77, 80, 49, 0] = B := ⟨_, rfl⟩
 rw [hB] at HW hl36 ht4
 have HL := Lib.hid hl36
 have HT := Lib.hid ht4
 clear hw hB hl36 ht4
 go_enter Tryz.func19, Tryz.ntmps19
 go_wp2_with fail
 refine HW.out.mono ?_
 rintro e w1 ⟨A, m, c, rfl, hb, ho⟩
 obtain ⟨_, _, e1, h1, h2⟩ := ho.length
 injection e1 with e1 e2 e3
 subst e1 e3
 rw [HL.out] at e2
 subst e2
 rw [HL.out] at h1
 have HB := Lib.hid hb
 have ks := fun W => run_front A 36 c 4 (by omega) W
 obtain ⟨T, hT⟩ : ∃ T, (if c = 0 then A else A.map (·.add 0)) = T := ⟨_, rfl⟩
 have hsf := sl_front (show Sl w1 (.slice A B.length c) B by rw [HL.out]; exact ho.sl) 4 (by rw [HL.out]; omega)
 rw [hT, HT.out] at hsf
 rw [hT] at ks
 rw [show ((4 : Nat) : Int) = 4 from rfl] at ks
 obtain ⟨A', c', e9, g1, g2, g3, g4⟩ := hsf
 injection e9 with e9 _ e8
 subst e9 e8
 have kc : (convert 32 9 (.slice T 4 c)).run Tryz.prog w1 = .ok (.string (str [77, 80, 49, 0])) w1 := conv_str w1 T [77, 80, 49, 0] c g3 g4
 have hs : ((str [77, 80, 49, 0]).toList == [77, 80, 49, 0]) = true := by rw [str_toList]; decide
 clear g1 g2 g3 g4 hb ho hT h1 h2
 go_wp2_with fail
 go_ret
 exact ⟨rfl, HB.out⟩
theorem first_then {w : World} {B : Nat} {w1 : World} (h : Below B w w1) (hB : B ≤ w1.heap.size) : Calls Tryz.prog 19 #[] w1 fun e w' => e = .returned (.bool true) ∧ Below B w w' :=
 (first_any w1).mono fun _ _ ⟨he, hb⟩ => ⟨he, h.trans (hb.mono hB)⟩
end Go.Proofs.YtpfjlhpahmhkhaaGreat.Ob
