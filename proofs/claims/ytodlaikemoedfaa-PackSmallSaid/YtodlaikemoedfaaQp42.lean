/- Texts put together: YShDm5. -/
import Derived.Test.YtodlaikemoedfaaQp41
/- Numbers, inserts, copies put behind a delta. -/
set_option linter.unusedVariables false
set_option linter.unusedSimpArgs false
namespace Go.Proofs.Ytodlaikemoedfaa.Sh
open Go.RowKit

theorem encs_flush (p : List UInt8) : encs (flushS p) = if p = [] then [] else 2 :: (putL p.length ++ p) := by
  unfold flushS
  split
  · rfl
  · simp [encs, encS]
/-- A slice that lies below whatever grows. -/
def Firm (w : World) (B : Nat) (v : Value) (p : List UInt8) : Prop := ∀ W, Below B w W → Sl W v p
/-- What is put leaves bytes of one's own, grown. -/
def GrowPost (w : World) (B : Nat) (bs : List UInt8) (e : Ending) (w' : World) : Prop := ∃ v, e = .returned v ∧ Own w' B v bs ∧ Below B w w'

set_option maxRecDepth 100000 in
set_option maxHeartbeats 800000 in
theorem putnum_any (B : Nat) (v : Value) (bs : List UInt8) (n : Nat) (w : World) (ho : Own w B v bs) (hB : B ≤ w.heap.size) (hn : n ≤ 72057594037927936) (hsm : bs.length ≤ 100000000) :
    Calls Try.prog 21 #[v, .int .i64 (n : Int)] w (GrowPost w B (bs ++ putL n)) := by
  have HP := Lib.hid (put_any n w hn)
  have HO := Lib.hid ho
  have h9 := putL_len9 hn
  clear ho hn
  go_enter Try.func21, Try.ntmps21
  go_wp2_with fail
  refine HP.out.mono ?_
  rintro e w1 ⟨v1, rfl, ho1, hb1⟩
  have HO1 := Lib.hid (HO.out.below hb1)
  obtain ⟨A1, c1, rfl, hl1, hm1, hI1, _⟩ := ho1.sl
  have HR := Lib.hid hI1.reads
  have HB1 := Lib.hid (hb1.mono hB)
  have hz : B ≤ w1.heap.size := Nat.le_trans hB hb1.size
  obtain ⟨l, hl⟩ : ∃ l, (putL n).length = l := ⟨_, rfl⟩
  rw [hl] at h9 hl1 HR ⊢
  have hs : bs.length + l ≤ 140737488355328 := by omega
  clear ho1 hI1 hb1 hl
  go_wp2_with (at_builtin; refine append_bytes rfl (.tmp 12) (.tmp 13) rfl w1 B v bs rfl HO1.out _ A1 l c1 (putL n) rfl HR.out hs hz ?_; intro v3 w3 ho3 hb3; have HO3 := Lib.hid ho3; have HB3 := Lib.hid hb3; clear ho3 hb3)
  go_ret
  exact ⟨v3, rfl, HO3.out, HB1.out.trans HB3.out⟩

set_option maxRecDepth 100000 in
set_option maxHeartbeats 800000 in
theorem putcopy_any (B : Nat) (v : Value) (bs : List UInt8) (p n : Nat) (w : World) (ho : Own w B v bs) (hB : B ≤ w.heap.size) (hp : p ≤ 72057594037927936) (hn : n ≤ 72057594037927936) (hsm : bs.length ≤ 50000000) :
    Calls Try.prog 24 #[v, .int .i64 (p : Int), .int .i64 (n : Int)] w (GrowPost w B (bs ++ encS (.cop p n))) := by
  have HO := Lib.hid ho
  have h9 := putL_len9 hp
  have hs : bs.length + 1 ≤ 140737488355328 := by omega
  have HN1 := Lib.hid (fun W v (h : Own W B v (bs ++ [1])) (hz : B ≤ W.heap.size) => putnum_any B v (bs ++ [1]) p W h hz hp (by simp; omega))
  have HN2 := Lib.hid (fun W v (h : Own W B v (bs ++ [1] ++ putL p)) (hz : B ≤ W.heap.size) => putnum_any B v (bs ++ [1] ++ putL p) n W h hz hn (by simp; omega))
  clear ho hp hn h9
  go_enter Try.func24, Try.ntmps24
  go_wp2_with (at_builtin; refine append_byte rfl (.tmp 7) (.tmp 8) rfl w B v bs rfl HO.out _ 1 bi1 rfl hs hB ?_; intro v3 w3 ho3 hb3; have HO3 := Lib.hid ho3; have HB3 := Lib.hid hb3; clear ho3 hb3)
  refine (HN1.out w3 v3 HO3.out (Nat.le_trans hB HB3.out.size)).mono ?_
  rintro e w4 ⟨v4, rfl, ho4, hb4⟩
  have HO4 := Lib.hid ho4
  have HB4 := Lib.hid (HB3.out.trans hb4)
  clear ho4 hb4
  go_wp2_with fail
  refine (HN2.out w4 v4 HO4.out (Nat.le_trans hB HB4.out.size)).mono ?_
  rintro e w5 ⟨v5, rfl, ho5, hb5⟩
  have HO5 := Lib.hid ho5
  have HB5 := Lib.hid (HB4.out.trans hb5)
  clear ho5 hb5
  go_wp2_with fail
  go_ret
  refine ⟨v5, rfl, ?_, HB5.out⟩
  have e : bs ++ encS (.cop p n) = bs ++ [1] ++ putL p ++ putL n := by simp [encS]
  rw [e]
  exact HO5.out

set_option maxRecDepth 100000 in
set_option maxHeartbeats 800000 in
theorem putins_any (B : Nat) (v vp : Value) (bs p : List UInt8) (w : World) (ho : Own w B v bs) (hB : B ≤ w.heap.size) (hp : Firm w B vp p) (hpl : p.length ≤ 100000) (hsm : bs.length ≤ 50000000) :
    Calls Try.prog 23 #[v, vp] w (GrowPost w B (bs ++ encs (flushS p))) := by
  obtain ⟨A, c, rfl, hl, hcm, _⟩ := (hp w (Below.refl _ _)).len
  unfold maxLen at hcm
  have HO := Lib.hid ho
  have HP := Lib.hid hp
  obtain ⟨l, hL⟩ : ∃ l, p.length = l := ⟨_, rfl⟩
  rw [hL] at hl hpl HP ⊢
  have HL := Lib.hid hL
  rw [encs_flush]
  by_cases h0 : l = 0
  · subst h0
    rw [if_pos (List.eq_nil_of_length_eq_zero hL), List.append_nil]
    clear ho hp hL
    go_enter Try.func23, Try.ntmps23
    go_wp2
    go_ret
    exact ⟨v, rfl, HO.out, Below.refl _ _⟩
  · have hne : p ≠ [] := fun e => h0 (by rw [← hL, e]; rfl)
    rw [if_neg hne]
    have hz : ((l : Int) == 0) = false := beq_eq_false_iff_ne.2 (by omega)
    have hs : bs.length + 1 ≤ 140737488355328 := by omega
    have hs2 : (bs ++ [2] ++ putL l).length + l ≤ 140737488355328 := by
      have := putL_len9 (show l ≤ 72057594037927936 by omega)
      simp; omega
    have HN1 := Lib.hid (fun W v (h : Own W B v (bs ++ [2])) (hz : B ≤ W.heap.size) => putnum_any B v (bs ++ [2]) l W h hz (by omega) (by simp; omega))
    clear ho hp hL hne h0
    go_enter Try.func23, Try.ntmps23
    go_wp2_with (at_builtin; refine append_byte rfl (.tmp 9) (.tmp 10) rfl w B v bs rfl HO.out _ 2 bi2 rfl hs hB ?_; intro v3 w3 ho3 hb3; have HO3 := Lib.hid ho3; have HB3 := Lib.hid hb3; clear ho3 hb3)
    refine (HN1.out w3 v3 HO3.out (Nat.le_trans hB HB3.out.size)).mono ?_
    rintro e w4 ⟨v4, rfl, ho4, hb4⟩
    have HO4 := Lib.hid ho4
    have HB4 := Lib.hid (HB3.out.trans hb4)
    have hz4 : B ≤ w4.heap.size := Nat.le_trans hB HB4.out.size
    have hr := HP.out w4 HB4.out
    obtain ⟨A', c', he, _, _, hI, _⟩ := hr
    injection he with e1 e2 e3
    subst e1 e3
    have hrd := hI.reads
    rw [HL.out] at hrd
    have HR := Lib.hid hrd
    clear ho4 hb4 hI hrd e2
    go_wp2_with (at_builtin; refine append_bytes rfl (.tmp 16) (.tmp 17) rfl w4 B v4 _ rfl HO4.out _ A l c p rfl HR.out hs2 hz4 ?_; intro v5 w5 ho5 hb5; have HO5 := Lib.hid ho5; have HB5 := Lib.hid hb5; clear ho5 hb5)
    go_ret
    refine ⟨v5, rfl, ?_, HB4.out.trans HB5.out⟩
    have e : bs ++ 2 :: (putL p.length ++ p) = bs ++ [2] ++ putL l ++ p := by rw [HL.out]; simp
    rw [e]
    exact HO5.out

/-- How long a delta may be. -/
theorem flush_len (p : List UInt8) (h : p.length ≤ 72057594037927936) : (encs (flushS p)).length ≤ 11 * p.length := by
  rw [encs_flush]
  split
  · simp
  · rename_i hne
    have := putL_len9 h
    have : 0 < p.length := List.length_pos_iff.2 hne
    simp; omega
theorem steps_len (base : List UInt8) (hb : base.length ≤ 72057594037927936) : ∀ (f : Nat) (t ins : List UInt8), ins.length + t.length ≤ 72057594037927936 → (encs (stepsD (m8 base) f t ins)).length ≤ 30 * (ins.length + t.length) := by
  intro f
  induction f with
  | zero => intro t ins h; have := flush_len ins (by omega); show (encs (flushS ins)).length ≤ _; omega
  | succ f ih =>
    intro t ins h
    rcases Nat.eq_zero_or_pos t.length with h0 | h0
    · have : t = [] := List.eq_nil_of_length_eq_zero h0
      subst this
      rw [steps_end]
      have := flush_len ins (by omega)
      omega
    · rcases m8_ok base t with hm | ⟨h1, h2, h3, h4⟩
      · rw [steps_in h0 (by rw [hm])]
        have := ih (t.drop 1) (ins ++ t.take 1) (by simp; omega)
        have e1 : (ins ++ t.take 1).length + (t.drop 1).length = ins.length + t.length := by simp; omega
        rw [e1] at this
        exact this
      · rw [steps_cop h0 (by omega), encs_append, encs_cons, List.length_append, List.length_append]
        have a1 := flush_len ins (by omega)
        have a2 := ih (t.drop (m8 base t).2) [] (by simp; omega)
        have a3 := putL_len9 (show (m8 base t).1 ≤ 72057594037927936 by omega)
        have a4 := putL_len9 (show (m8 base t).2 ≤ 72057594037927936 by omega)
        have a5 : (encS (.cop (m8 base t).1 (m8 base t).2)).length = 1 + (putL (m8 base t).1).length + (putL (m8 base t).2).length := by simp [encS]; omega
        simp at a2
        omega
theorem make_len (base target : List UInt8) (hb : base.length ≤ 20000) (ht : target.length ≤ 20000) : (makeD base target).length ≤ 700000 := by
  have a1 := steps_len base (by omega) target.length target [] (by simp; omega)
  have a2 := putL_len9 (show base.length ≤ 72057594037927936 by omega)
  have a3 := putL_len9 (show target.length ≤ 72057594037927936 by omega)
  unfold makeD headD
  simp at a1 ⊢
  omega
theorem take_more {t : List UInt8} {a k : Nat} (h : a ≤ k) : (t.take k).drop a ++ (t.drop k).take 1 = (t.take (k + 1)).drop a := by
  by_cases hk : k < t.length
  · rw [List.take_succ_eq_append_getElem hk, List.drop_append_of_le_length (by rw [List.length_take]; omega)]
    congr 1
    rw [List.drop_eq_getElem_cons hk]
    rfl
  · have e1 : t.drop k = [] := List.drop_of_length_le (by omega)
    have e2 : t.take k = t := List.take_of_length_le (by omega)
    have e3 : t.take (k + 1) = t := List.take_of_length_le (by omega)
    rw [e1, e2, e3]
    simp
end Go.Proofs.Ytodlaikemoedfaa.Sh
