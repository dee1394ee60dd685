/- Texts put together: YPkL, YPkM, YPk2. -/
import Derived.Test.YtodlaikemoedfaaGreatQp44
import Derived.Test.YtodlaikemoedfaaGreatQp47
import Derived.Defers
import Derived.Recover
import Derived.Deep.CutBlock
import Derived.Deep.DeepCutAuto
import Derived.Test.YtodlaikemoedfaaGreatQp22
/- What the laws of packs share: a base that has nothing, first, Few, Lists. -/
set_option linter.unusedVariables false
set_option linter.unusedSimpArgs false
namespace Go.Proofs.YtodlaikemoedfaaGreat.Ob
open Go.RowKit Go.Proofs.YtodlaikemoedfaaGreat.Sh
open Go.Proofs.YtodlaikemoedfaaGreat.Tx (Shape InL TmpL OwnL Typed Only By Rd Datas list_appendL step_appendL)

def YesP (w : World) (e : Ending) (w' : World) : Prop := e = .returned (.bool true) ∧ Below w.heap.size w w'
theorem ask1_idle (p q : Addr) (w : World) : CallsD Tryz.prog 131 #[.pointer (some p), .pointer (some q)] .returning w fun e u' w' => e = .returned (.tuple #[]) ∧ u' = .returning ∧ w' = w := by
  refine callsD_of_wpS Tryz.func131 rfl fun c₀ cs hu => ?_
  apply wpS_seq
  apply wpS_region
  simp [wpOpsS, go_sem, recoverD, hu, Tryz.ntmps131, Exit.thenS]
  refine wpS_cond (t := false) (by simp [Act.eval, Array.replicate]) ?_
  simp only [Bool.false_eq_true, if_false]
  refine wpS_of_wp (wp_skip ?_)
  cases c₀
  simp_all [bodyPostS, results, Tryz.results131]
theorem none_call (id : List UInt8) (w : World) : Calls Tryz.prog 19 #[.string (str id)] w fun e w' => e = .returned (.tuple #[.slice none 0 0, .bool false]) ∧ w = w' := by
  go_enter Tryz.func19, Tryz.ntmps19
  go_wp2
  go_ret2
  exact ⟨rfl, rfl⟩
set_option maxRecDepth 100000 in
theorem ask_none (id : List UInt8) (w : World) : Calls Tryz.prog 115 #[.func (.func 19) #[] #[], .string (str id)] w (AskPost (fun _ => none) id w) := by
  have hmf : ∀ (fn : Fn) (first cap : Array Value) (w : World), (Instr.makeFunc fn first cap).run Tryz.prog w = .ok (.func fn first cap) w := fun _ _ _ _ => rfl
  have HB : Hid (Below w.heap.size w ((w.alloc (.cells #[.slice none 0 0] 25)).alloc (.cells #[.bool false] 4))) := ((Below.refl _ _).alloc (Nat.le_refl _) _).alloc (by simp) _
  go_enter_defers Tryz.func115, Tryz.ntmps115
  go_wp2_with (go_at_call 19; refine (none_call id _).mono ?_; rintro e w' ⟨rfl, rfl⟩)
  refine leaves_cons (f := 131) (args := #[.pointer (some ⟨w.heap.size, 0, none⟩), .pointer (some ⟨w.heap.size + 1, 0, none⟩)]) (by simp) (by simp [go_sem]) ?_
  refine (ask1_idle _ _ _).mono ?_
  rintro e u' w'' ⟨rfl, rfl, rfl⟩
  simp [Leaves, settle, results, Tryz.results115, go_sem]
  exact ⟨none, 0, 0, false, rfl, HB.out, .inl ⟨rfl, rfl⟩⟩
/-- A base that has nothing. -/
theorem in_none {w : World} {v : Value} {b : List UInt8} (h : Sl w v b) (hb : b.length ≤ 1000000) : PrIn w v (.func (.func 19) #[] #[]) b (fun _ => none) := ⟨h, hb, fun W id _ _ => ask_none id W⟩
set_option maxRecDepth 100000 in
set_option maxHeartbeats 800000 in
theorem first_any (w : World) : Calls Tryz.prog 6 #[] w (YesP w) := by
  have HW := Lib.hid (write_any (.slice none 0 0) [] w (LsV.nil_ w) (by simp))
  have hw : writeP [] = (0, [77, 80, 49, 0] ++ sumOf [77, 80, 49, 0]) := by
    rw [write_ok (by simp) (fun o h => by cases h) (fun o h => by cases h)]
    have e : (writesP [] ([] : List (List UInt8)).length).1 = [77, 80, 49, 0] := by
      show markL ++ putL 0 = _
      rw [putL_lt (by omega)]; rfl
    rw [e]
  unfold WritePost at HW
  rw [hw] at HW
  have hl36 : ([77, 80, 49, 0] ++ sumOf [77, 80, 49, 0]).length = 36 := by rw [List.length_append, sumOf_length]; rfl
  have ht4 : ([77, 80, 49, 0] ++ sumOf [77, 80, 49, 0]).take 4 = [77, 80, 49, 0] := List.take_left' rfl
  obtain ⟨B, hB⟩ : ∃ B : List UInt8, [77, 80, 49, 0] ++ sumOf [77, 80, 49, 0] = B := ⟨_, rfl⟩
  rw [hB] at HW hl36 ht4
  have HL := Lib.hid hl36
  have HT := Lib.hid ht4
  clear hw hB hl36 ht4
  go_enter Tryz.func6, Tryz.ntmps6
  go_wp2_with fail
  refine HW.out.mono ?_
  rintro e w1 ⟨A, m, c, rfl, hb, ho⟩
  obtain ⟨_, _, e1, h1, h2⟩ := ho.length
  injection e1 with e1 e2 e3
  subst e1 e3
  rw [HL.out] at e2
  subst e2
  rw [HL.out] at h1
  have HB := Lib.hid hb
  have ks := fun W => run_front A 36 c 4 (by omega) W
  obtain ⟨T, hT⟩ : ∃ T, (if c = 0 then A else A.map (·.add 0)) = T := ⟨_, rfl⟩
  have hsf := sl_front (show Sl w1 (.slice A B.length c) B by rw [HL.out]; exact ho.sl) 4 (by rw [HL.out]; omega)
  rw [hT, HT.out] at hsf
  rw [hT] at ks
  rw [show ((4 : Nat) : Int) = 4 from rfl] at ks
  obtain ⟨A', c', e9, g1, g2, g3, g4⟩ := hsf
  injection e9 with e9 _ e8
  subst e9 e8
  have kc : (convert 25 9 (.slice T 4 c)).run Tryz.prog w1 = .ok (.string (str [77, 80, 49, 0])) w1 := conv_str w1 T [77, 80, 49, 0] c g3 g4
  have hs : ((str [77, 80, 49, 0]).toList == [77, 80, 49, 0]) = true := by rw [str_toList]; decide
  clear g1 g2 g3 g4 hb ho hT h1 h2
  go_wp2_with fail
  go_ret
  exact ⟨rfl, HB.out⟩
theorem first_then {w : World} {B : Nat} {w1 : World} (h : Below B w w1) (hB : B ≤ w1.heap.size) : Calls Tryz.prog 6 #[] w1 fun e w' => e = .returned (.bool true) ∧ Below B w w' :=
  (first_any w1).mono fun _ _ ⟨he, hb⟩ => ⟨he, h.trans (hb.mono hB)⟩
end Go.Proofs.YtodlaikemoedfaaGreat.Ob
/- What the laws of packs share: Few, Bytes, Lists. -/
set_option linter.unusedVariables false
set_option linter.unusedSimpArgs false
namespace Go.Proofs.YtodlaikemoedfaaGreat.Ob
open Go.RowKit Go.Proofs.YtodlaikemoedfaaGreat.Sh
open Go.Proofs.YtodlaikemoedfaaGreat.Tx (Shape InL TmpL OwnL Typed Only By Rd Datas list_appendL step_appendL)

def PFewPost (l : List (List UInt8)) (w : World) (e : Ending) (w' : World) : Prop := ∃ t, e = .returned (.bool t) ∧ (t = true → l.length ≤ 40 ∧ ∀ o ∈ l, o.length ≤ 1500) ∧ Below w.heap.size w w'
set_option maxRecDepth 100000 in
set_option maxHeartbeats 3200000 in
theorem pfew_any (v : Value) (l : List (List UInt8)) (w : World) (h : LsV w v l) : Calls Tryz.prog 7 #[v] w (PFewPost l w) := by
  obtain ⟨A, c, rfl, hlc, hcm⟩ := h.slice
  unfold maxLen at hcm
  have HL := Lib.hid h
  obtain ⟨n, hn⟩ : ∃ n, l.length = n := ⟨_, rfl⟩
  rw [hn] at HL hlc ⊢
  have HN := Lib.hid hn
  clear h hn
  go_enter Tryz.func7, Tryz.ntmps7
  go_wp2_with fail
  go_loopw [3, 4] (fun a x wr => ∃ (i : Nat) (s : Int), i ≤ n ∧ i ≤ 40 ∧ x = .int .i64 (i : Int) ∧ a = .int .i64 s ∧ 0 ≤ s ∧ s ≤ 24000 ∧ Below w.heap.size w wr ∧ ∀ (j : Nat) (o : List UInt8), j < i → l[j]? = some o → o.length ≤ 1500) (fun _ x _ => 41 - (intOf x).toNat)
  case atStart => exact ⟨0, 0, Nat.zero_le _, Nat.zero_le _, rfl, rfl, by omega, by omega, Below.refl _ _, fun j o hj => by omega⟩
  case round =>
    obtain ⟨i, s, hi, hi4, rfl, rfl, hs0, hs1, hb, hall⟩ := hrel
    have HB := Lib.hid hb
    have HALL := Lib.hid hall
    clear hb hall
    have z0 : (0 : Int) ≤ (i : Int) := by omega
    by_cases hlt : i < n
    · have z1 : (i : Int) < (n : Int) := by omega
      by_cases h40 : i < 40
      · have z2 : (i : Int) < 40 := by omega
        have hgi : l[i]? = some (l[i]'(by have := HN.out; omega)) := List.getElem?_eq_getElem _
        obtain ⟨o, ho⟩ : ∃ o, (l[i]'(by have := HN.out; omega)) = o := ⟨_, rfl⟩
        rw [ho] at hgi
        obtain ⟨ad, A2, c2, rfl, y0, _, _, hsl⟩ := (HL.out.below HB.out).at_ i o hgi
        have HGI := Lib.hid hgi
        obtain ⟨ol, hol⟩ : ∃ m, o.length = m := ⟨_, rfl⟩
        rw [hol] at y0
        have HOL := Lib.hid hol
        have z5 : (0 : Int) ≤ (ol : Int) := by omega
        clear hgi ho hsl hol
        go_upto_region 5 with (fail)
        go_cut [3] (fun a wx => ∃ s2 : Int, a = .int .i64 s2 ∧ 0 ≤ s2 ∧ s2 ≤ 24000 ∧ wx = wr)
        case first =>
          go_wp2_with fail
          all_goals
            go_meet
            exact ⟨_, rfl, by first | omega | (rw [IntKind.wrap_i64]; omega), by first | omega | (rw [IntKind.wrap_i64]; omega), rfl⟩
        case rest =>
          obtain ⟨s2, rfl, hs2, hs3, rfl⟩ := hcut
          by_cases h15 : ol ≤ 1500
          · have z3 : (ol : Int) ≤ 1500 := by omega
            go_wp2_with fail
            go_roundw
            case rel => exact ⟨i + 1, s2, by omega, by omega, by go_num, rfl, hs2, hs3, HB.out, fun j o' hj ho' => by
              by_cases e : j = i
              · subst e
                have : o' = o := by have := HGI.out; rw [this] at ho'; injection ho' with ho'; exact ho'.symm
                rw [this, HOL.out]; exact h15
              · exact HALL.out j o' (by omega) ho'⟩
            case measure => simp [intOf]; omega
          · have z3 : (1500 : Int) < (ol : Int) := by omega
            go_wp2_with fail
            go_ret
            exact ⟨false, rfl, (fun e => by cases e), HB.out⟩
      · have hi40 : i = 40 := by omega
        have z2 : (40 : Int) ≤ (i : Int) := by omega
        have z3 : (40 : Int) < (n : Int) := by omega
        go_wp2_with fail
        go_ret
        exact ⟨false, rfl, (fun e => by cases e), HB.out⟩
    · obtain rfl : i = n := by omega
      have z1 : (i : Int) ≤ 40 := by omega
      have hfin : l.length ≤ 40 ∧ ∀ o ∈ l, o.length ≤ 1500 := ⟨by rw [HN.out]; exact hi4, fun o ho => by
        obtain ⟨j, hj, e⟩ := List.getElem_of_mem ho
        exact HALL.out j o (by rw [← HN.out]; exact hj) (by rw [List.getElem?_eq_getElem hj, e])⟩
      have HF := Lib.hid hfin
      clear hfin hlt
      go_wp2_with fail
      go_ret
      exact ⟨_, rfl, fun _ => HF.out, HB.out⟩
set_option maxRecDepth 100000 in
set_option maxHeartbeats 400000 in
theorem rbytes_any (v1 v2 : Value) (d1 d2 : List UInt8) (w : World) (h1 : Sl w v1 d1) (h2 : Sl w v2 d2) : Calls Tryz.prog 11 #[v1, v2] w fun e w' => e = .returned (.bool (d1 == d2)) ∧ w = w' := by
  obtain ⟨A1, c1, rfl, _, _, i1, n1⟩ := h1
  obtain ⟨A2, c2, rfl, _, _, i2, n2⟩ := h2
  have k1 := conv_str w A1 d1 c1 i1 n1
  have k2 := conv_str w A2 d2 c2 i2 n2
  obtain ⟨l1, e1⟩ : ∃ l, d1.length = l := ⟨_, rfl⟩
  obtain ⟨l2, e2⟩ : ∃ l, d2.length = l := ⟨_, rfl⟩
  rw [e1] at k1 ⊢
  rw [e2] at k2 ⊢
  clear e1 e2 i1 n1 i2 n2
  go_enter Tryz.func11, Tryz.ntmps11
  go_wp2_with fail
  go_ret
  refine ⟨?_, rfl⟩
  show Ending.returned (.bool ((str d1).toList == (str d2).toList)) = _
  rw [str_toList, str_toList]
set_option maxRecDepth 100000 in
set_option maxHeartbeats 1600000 in
theorem lists_any (v1 v2 : Value) (l : List (List UInt8)) (w : World) (h1 : LsV w v1 l) (h2 : LsV w v2 l) : Calls Tryz.prog 12 #[v1, v2] w (YesP w) := by
  obtain ⟨A1, c1, rfl, hl1, hm1⟩ := h1.slice
  obtain ⟨A2, c2, rfl, hl2, hm2⟩ := h2.slice
  unfold maxLen at hm1 hm2
  have H1 := Lib.hid h1
  have H2 := Lib.hid h2
  obtain ⟨n, hn⟩ : ∃ n, l.length = n := ⟨_, rfl⟩
  rw [hn] at H1 H2 hl1 hl2 ⊢
  have HN := Lib.hid hn
  have zb : ((n : Int) != (n : Int)) = false := bne_self_eq_false _
  clear h1 h2 hn
  go_enter Tryz.func12, Tryz.ntmps12
  go_wp2_with fail
  go_loopw [5] (fun x wr => ∃ (i : Nat), i ≤ n ∧ x = .int .i64 (i : Int) ∧ Below w.heap.size w wr) (fun x _ => n - (intOf x).toNat)
  case atStart => exact ⟨0, Nat.zero_le _, rfl, Below.refl _ _⟩
  case round =>
    obtain ⟨i, hi, rfl, hb⟩ := hrel
    have HB := Lib.hid hb
    clear hb
    have z0 : (0 : Int) ≤ (i : Int) := by omega
    by_cases hlt : i < n
    · have z1 : (i : Int) < (n : Int) := by omega
      have hgi : l[i]? = some (l[i]'(by have := HN.out; omega)) := List.getElem?_eq_getElem _
      obtain ⟨o, ho⟩ : ∃ o, (l[i]'(by have := HN.out; omega)) = o := ⟨_, rfl⟩
      rw [ho] at hgi
      obtain ⟨ad, A3, c3, rfl, y0, _, _, hs3⟩ := (H1.out.below HB.out).at_ i o hgi
      obtain ⟨ad4, A4, c4, rfl, y1, _, _, hs4⟩ := (H2.out.below HB.out).at_ i o hgi
      have HC := Lib.hid (rbytes_any _ _ o o wr hs3 hs4)
      have HS3 := Lib.hid hs3
      have HS4 := Lib.hid hs4
      rw [show (o == o) = true from beq_self_eq_true _] at HC
      obtain ⟨ol, hol⟩ : ∃ m, o.length = m := ⟨_, rfl⟩
      rw [hol] at y0 y1 HS3 HS4
      clear hgi ho hs3 hs4 hol
      go_upto_region 6 with (fail)
      go_quiet ((go_at_call 11; exact Calls.quiet_of_same ((rbytes_any _ _ o o _ (by exact HS3.out) (by exact HS4.out)).mono fun _ _ h => ⟨h.1.trans (by rw [beq_self_eq_true]), h.2.symm⟩)))
      go_wp2_with fail
      go_roundw
      case rel => exact ⟨i + 1, by omega, by go_num, below_drewN HB.out _⟩
      case measure => simp [intOf]; omega
    · obtain rfl : i = n := by omega
      go_wp2_with fail
      go_ret
      exact ⟨rfl, HB.out⟩
end Go.Proofs.YtodlaikemoedfaaGreat.Ob
/- How long packs are: plain lists, no Go in it. -/
set_option linter.unusedVariables false
set_option linter.unusedSimpArgs false
namespace Go.Proofs.YtodlaikemoedfaaGreat.Ob
open Go.Proofs.YtodlaikemoedfaaGreat.Sh

theorem putL_l2 {n : Nat} (h : n < 16384) : (putL n).length ≤ 2 := putL_len 1 n (by simpa using h)
theorem putL_l1 {n : Nat} (h : n < 128) : (putL n).length = 1 := by rw [putL_lt h]; rfl
def sumN (l : List (List UInt8)) : Nat → Nat
  | 0 => 0
  | i + 1 => sumN l i + (l.getD i []).length
theorem put_size (l : List (List UInt8)) (ds : List Nat) (i : Nat) (hl : ∀ o ∈ l, o.length ≤ 1500) (hi : i < 100) (hi2 : i < l.length) : (putP l ds i).1.length ≤ (l.getD i []).length + 3 := by
  have hgi : l.getD i [] = l[i] := by rw [List.getD_eq_getElem?_getD, List.getElem?_eq_getElem hi2]; rfl
  have hlo : (l.getD i []).length ≤ 1500 := hl _ (by rw [hgi]; exact List.getElem_mem hi2)
  have h2 := putL_l2 (show (l.getD i []).length < 16384 by omega)
  cases hn : nearP l ds (l.getD i []) i with
  | none => rw [put_none hn]; simp only [wholeE, List.length_cons, List.length_append]; omega
  | some k =>
    by_cases hlt : (makeD (l.getD k []) (l.getD i [])).length < (l.getD i []).length
    · rw [put_ahead hn hlt]
      have h1 := putL_l1 (show i - k < 128 by omega)
      have h3 := putL_l2 (show (makeD (l.getD k []) (l.getD i [])).length < 16384 by omega)
      simp only [aheadE, List.length_cons, List.length_append, h1]
      omega
    · rw [put_whole hn hlt]; simp only [wholeE, List.length_cons, List.length_append]; omega
theorem writes_size (l : List (List UInt8)) (hl : ∀ o ∈ l, o.length ≤ 1500) (hll : l.length ≤ 40) : ∀ i, i ≤ l.length → (writesP l i).1.length ≤ 4 + 3 * i + sumN l i
  | 0 => fun _ => by
    show (markL ++ putL l.length).length ≤ _
    rw [List.length_append, putL_l1 (by omega)]
    exact Nat.le_refl _
  | i + 1 => fun h => by
    have ih := writes_size l hl hll i (by omega)
    have hp := put_size l (writesP l i).2 i hl (by omega) (by omega)
    show ((_ : List UInt8) ++ _).length ≤ _
    rw [List.length_append]
    show _ ≤ 4 + 3 * (i + 1) + (sumN l i + (l.getD i []).length)
    omega
/-- What PackSmall asks. -/
theorem small_one (l : List (List UInt8)) (hl : ∀ o ∈ l, o.length ≤ 1500) (hll : l.length ≤ 40) : ((writesP l l.length).1 ++ sumOf (writesP l l.length).1).length ≤ 37 + 4 * l.length + sumN l l.length := by
  have := writes_size l hl hll l.length (Nat.le_refl _)
  rw [List.length_append, sumOf_length]
  omega
end Go.Proofs.YtodlaikemoedfaaGreat.Ob
