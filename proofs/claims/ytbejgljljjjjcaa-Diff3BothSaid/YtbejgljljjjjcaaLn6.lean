/- Chapter 14: Join of both sides; what the laws call: copies and comparisons of bytes; Few. -/
import Derived.Test.YtbejgljljjjjcaaLn5
set_option linter.unusedVariables false
set_option linter.unusedSimpArgs false
namespace Go.Proofs.Ytbejgljljjjjcaa.Ln
open Go.RowKit Go.Proofs.Ytbejgljljjjjcaa.Sh Go.Proofs.Ytbejgljljjjjcaa.Tx

set_option maxRecDepth 100000 in
set_option maxHeartbeats 400000 in
theorem bytes_any (v1 v2 : Value) (d1 d2 : List UInt8) (w : World) (h1 : SlV w v1 (d1.map bv)) (h2 : SlV w v2 (d2.map bv)) : Calls Try.prog 18 #[v1, v2] w fun e w' => e = .returned (.bool (d1 == d2)) ∧ w = w' := by
  obtain ⟨A1, c1, rfl, _⟩ := h1.len
  obtain ⟨A2, c2, rfl, _⟩ := h2.len
  rw [List.length_map] at h1 h2 ⊢
  rw [List.length_map]
  have k1 := conv_str w A1 d1 _ c1 rfl h1
  have k2 := conv_str w A2 d2 _ c2 rfl h2
  obtain ⟨l1, e1⟩ : ∃ l, d1.length = l := ⟨_, rfl⟩
  obtain ⟨l2, e2⟩ : ∃ l, d2.length = l := ⟨_, rfl⟩
  rw [e1] at k1 ⊢
  rw [e2] at k2 ⊢
  clear e1 e2 h1 h2
  go_enter Try.func18, Try.ntmps18
  go_wp2_with fail
  go_ret
  refine ⟨?_, rfl⟩
  show Ending.returned (.bool ((str d1).toList == (str d2).toList)) = _
  rw [str_toList, str_toList]

def joinB (ls : List ByteArray) : List UInt8 := (ls.map ByteArray.toList).flatten
theorem str_of (s : ByteArray) : s = str s.toList := ba_ext (by rw [str_toList])
theorem join_next {ls : List ByteArray} {i : Nat} {x : ByteArray} (h : ls[i]? = some x) : joinB (ls.take (i + 1)) = joinB (ls.take i) ++ x.toList := by
  unfold joinB
  rw [List.take_add_one, h, List.map_append, List.flatten_append]
  simp
theorem join_le (ls : List ByteArray) (i : Nat) : (joinB (ls.take i)).length ≤ (joinB ls).length := by
  have h : joinB ls = joinB (ls.take i) ++ joinB (ls.drop i) := by
    unfold joinB
    rw [← List.flatten_append, ← List.map_append, List.take_append_drop]
  rw [h, List.length_append]
  omega
def BytesP (w : World) (bs : List UInt8) (e : Ending) (w' : World) : Prop := ∃ v, e = .returned v ∧ OwnV 5 w' w.heap.size v (bs.map bv) ∧ Below w.heap.size w w'
set_option maxRecDepth 100000 in
set_option maxHeartbeats 800000 in
theorem join_any (v : Value) (ls : List ByteArray) (w : World) (h : SlV w v (ls.map sv)) (hn : (joinB ls).length ≤ 140737488355328) : Calls Try.prog 31 #[v] w (BytesP w (joinB ls)) := by
  obtain ⟨A, c, rfl, hlc, hcm, _⟩ := h.len
  rw [List.length_map] at hlc ⊢
  have HS := Lib.hid h
  obtain ⟨l, hl⟩ : ∃ l, ls.length = l := ⟨_, rfl⟩
  rw [List.length_map, hl] at HS
  rw [hl] at hlc ⊢
  have HL := Lib.hid hl
  have HN := Lib.hid hn
  unfold maxLen at hcm
  clear h hl hn
  go_enter Try.func31, Try.ntmps31
  go_wp2_with fail
  go_loopw [3, 8] (fun v3 x wr => ∃ i : Nat, i ≤ l ∧ x = .int .i64 (i : Int) ∧ OwnV 5 wr w.heap.size v3 ((joinB (ls.take i)).map bv) ∧ Below w.heap.size w wr) (fun _ x _ => l - (intOf x).toNat)
  case atStart => exact ⟨0, Nat.zero_le _, rfl, OwnV.nil_ _ _, Below.refl _ _⟩
  case round =>
    obtain ⟨i, hi, rfl, ho, hb⟩ := hrel
    have HO := Lib.hid ho
    have HB := Lib.hid hb
    have hwz := hb.size
    clear ho hb
    have z0 : (0 : Int) ≤ (i : Int) := by omega
    by_cases hlt : i < l
    · have z1 : (i : Int) < (l : Int) := by omega
      have hil : i < ls.length := by rw [HL.out]; exact hlt
      obtain ⟨A2, c2, he, _, _, hR⟩ := (HS.out.below HB.out).len
      injection he with he1 he2 he3
      subst he1
      clear he2 he3
      rw [List.length_map] at hR
      obtain ⟨ad, rfl, hcell⟩ := texts_at hR i hil
      obtain ⟨x, hx⟩ : ∃ x, ls[i] = x := ⟨_, rfl⟩
      rw [hx] at hcell
      have HX := Lib.hid (join_next (ls := ls) (i := i) (x := x) (by rw [List.getElem?_eq_getElem hil, hx]))
      have HSM : Hid ((joinB (ls.take i)).length + x.toList.length ≤ 140737488355328) := by
        have h1 := join_le ls (i + 1)
        rw [HX.out, List.length_append] at h1
        have := HN.out
        unfold Hid
        omega
      obtain ⟨xs, hxs⟩ : ∃ xs, x.toList = xs := ⟨_, rfl⟩
      have e := str_of x
      rw [hxs] at e HX HSM
      subst e
      clear hR hil hx hxs
      go_wp2_with (at_builtin; refine append_str rfl (.tmp 12) (.tmp 13) rfl wr w.heap.size u3 _ rfl HO.out xs rfl HSM.out hwz ?_; intro v4 w4 ho4 hb4; have HO4 := Lib.hid ho4; have HB4 := Lib.hid hb4; clear ho4 hb4)
      go_roundw
      case rel => exact ⟨i + 1, by omega, by go_num, by rw [HX.out]; exact HO4.out, HB.out.trans HB4.out⟩
      case measure => simp [intOf]; omega
    · obtain rfl : i = l := by omega
      have HT : Hid (ls.take i = ls) := List.take_of_length_le (by rw [HL.out]; exact Nat.le_refl _)
      go_wp2_with fail
      go_ret
      exact ⟨_, rfl, by have := HO.out; rwa [HT.out] at this, HB.out⟩
set_option maxRecDepth 100000 in
set_option maxHeartbeats 800000 in
/-- Few. -/
def fewL (ls : List ByteArray) : Nat := ls.foldl (fun n s => min (n + min s.size 6001) 24000) 0
def fewB (ls : List ByteArray) : Bool := decide (ls.length ≤ 220) && decide (fewL (ls.take 220) ≤ 6000)
theorem fewL_next {ls : List ByteArray} {i : Nat} {x : ByteArray} (h : ls[i]? = some x) : fewL (ls.take (i + 1)) = min (fewL (ls.take i) + min x.size 6001) 24000 := by
  unfold fewL
  rw [List.take_add_one, h, List.foldl_append]
  rfl
set_option maxRecDepth 100000 in
set_option maxHeartbeats 800000 in
theorem few_any (v : Value) (ls : List ByteArray) (w : World) (h : SlV w v (ls.map sv)) (hm : ∀ s ∈ ls, s.size ≤ maxLen) : Calls Try.prog 10 #[v] w fun e w' => e = .returned (.bool (fewB ls)) ∧ w = w' := by
  obtain ⟨A, c, rfl, hlc, hcm, hR⟩ := h.len
  rw [List.length_map] at hlc hR ⊢
  obtain ⟨l, hl⟩ : ∃ l, ls.length = l := ⟨_, rfl⟩
  have HR := Lib.hid hR
  rw [hl] at hlc ⊢
  have HL := Lib.hid hl
  have HM := Lib.hid hm
  unfold maxLen at hcm
  obtain ⟨t, ht⟩ : ∃ t, fewB ls = t := ⟨_, rfl⟩
  rw [ht]
  have HT := Lib.hid ht
  clear h hl hR hm ht
  go_enter Try.func10, Try.ntmps10
  go_wp2_with fail
  go_loop [3, 4] (fun n x => ∃ i q : Nat, i ≤ l ∧ i ≤ 220 ∧ x = .int .i64 (i : Int) ∧ n = .int .i64 (q : Int) ∧ q = fewL (ls.take i) ∧ q ≤ 24000) (fun _ x => 220 - (intOf x).toNat)
  case atStart => exact ⟨0, 0, Nat.zero_le _, Nat.zero_le _, rfl, rfl, rfl, by omega⟩
  case round =>
    obtain ⟨i, q, hi, hi2, rfl, rfl, hq, hq2⟩ := hrel
    have HQ := Lib.hid hq
    clear hq
    have z0 : (0 : Int) ≤ (i : Int) := by omega
    by_cases hlt : i < l
    · have z1 : (i : Int) < (l : Int) := by omega
      by_cases h2 : i < 220
      · have z2 : (i : Int) < 220 := by omega
        have hil : i < ls.length := by rw [HL.out]; exact hlt
        obtain ⟨ad, rfl, hcell⟩ := texts_at HR.out i hil
        obtain ⟨x, hx⟩ : ∃ x, ls[i] = x := ⟨_, rfl⟩
        rw [hx] at hcell
        have HX := Lib.hid (fewL_next (ls := ls) (i := i) (x := x) (by rw [List.getElem?_eq_getElem hil, hx]))
        have hxm := HM.out x (by rw [← hx]; exact List.getElem_mem hil)
        unfold maxLen at hxm
        clear hil hx
        go_wp2_with fail
        go_round
        case rel => exact ⟨i + 1, min (q + min x.size 6001) 24000, by omega, by omega, by go_num, by go_num, by rw [HX.out, HQ.out], by omega⟩
        case measure => simp [intOf]; omega
      · obtain rfl : i = 220 := by omega
        have z2 : ¬ ((220 : Nat) : Int) < 220 := by omega
        have z3 : ¬ (l : Int) ≤ 220 := by omega
        have htf : t = false := by
          rw [← HT.out]
          unfold fewB
          rw [decide_eq_false (by rw [HL.out]; omega)]
          rfl
        subst htf
        go_wp2_with fail
        go_ret
        exact ⟨rfl, rfl⟩
    · obtain rfl : i = l := by omega
      have z3 : (i : Int) ≤ 220 := by omega
      have htv : t = decide ((q : Int) ≤ 6000) := by
        rw [← HT.out]
        unfold fewB
        rw [decide_eq_true (by rw [HL.out]; exact hi2), Bool.true_and]
        have := HQ.out
        rw [show ls.take i = ls.take 220 by rw [List.take_of_length_le (by rw [HL.out]; exact Nat.le_refl _), List.take_of_length_le (by rw [HL.out]; exact hi2)]] at this
        rw [← this]
        exact decide_eq_decide.2 (by omega)
      by_cases h6 : (q : Int) ≤ 6000
      · rw [decide_eq_true h6] at htv
        subst htv
        go_wp2_with fail
        go_ret
        exact ⟨rfl, rfl⟩
      · rw [decide_eq_false h6] at htv
        subst htv
        go_wp2_with fail
        go_ret
        exact ⟨rfl, rfl⟩
end Go.Proofs.Ytbejgljljjjjcaa.Ln
