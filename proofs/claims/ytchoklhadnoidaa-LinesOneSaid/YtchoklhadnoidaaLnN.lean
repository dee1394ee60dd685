/- Chapter 14, plain: what a line is; Patch of Diff, by edits of any numbers; lines put in at one place. -/
import Derived.Test.YtchoklhadnoidaaLnG
import Derived.Test.YtchoklhadnoidaaLnL
set_option linter.unusedVariables false
set_option linter.unusedSimpArgs false
namespace Go.Proofs.Ytchoklhadnoidaa.Ln
open Go.RowKit Go.Proofs.Ytchoklhadnoidaa.Sh Go.Proofs.Ytchoklhadnoidaa.Tx

/-- A line: not empty; its end, but for the last one's, at its end alone. -/
theorem spl_line : ∀ (bs : List UInt8) (i : Nat) (l : List UInt8), (splL bs)[i]? = some l → l ≠ [] ∧ (10 : UInt8) ∉ l.take (l.length - 1) ∧ (i + 1 < (splL bs).length → l[l.length - 1]? = some 10)
  | [], i, l, h => by simp [splL] at h
  | c :: cs, i, l, h => by
    have ih := spl_line cs
    unfold splL at h ⊢
    by_cases hc : c = 10
    · rw [if_pos hc] at h ⊢
      cases i with
      | zero =>
        simp at h
        subst h
        exact ⟨by simp, by simp, fun _ => rfl⟩
      | succ i =>
        have := ih i l (by simpa using h)
        refine ⟨this.1, this.2.1, fun hi => this.2.2 ?_⟩
        rw [List.length_cons] at hi
        omega
    · rw [if_neg hc] at h ⊢
      cases hs : splL cs with
      | nil =>
        rw [hs] at h
        cases i with
        | zero =>
          simp at h
          subst h
          exact ⟨by simp, by simp, fun hi => by simp at hi⟩
        | succ i => simp at h
      | cons l0 ls =>
        rw [hs] at h ih
        cases i with
        | zero =>
          simp at h
          subst h
          obtain ⟨h1, h2, h3⟩ := ih 0 l0 rfl
          have hl0 : 0 < l0.length := List.length_pos_iff.2 h1
          refine ⟨by simp, ?_, fun hi => ?_⟩
          · rw [List.length_cons, Nat.add_sub_cancel, show l0.length = (l0.length - 1) + 1 by omega, List.take_succ_cons]
            intro hm
            rcases List.mem_cons.1 hm with hm | hm
            · exact hc hm.symm
            · exact h2 hm
          · rw [List.length_cons, Nat.add_sub_cancel, show l0.length = (l0.length - 1) + 1 by omega, List.getElem?_cons_succ]
            exact h3 (by simpa using hi)
        | succ i =>
          have := ih (i + 1) l (by simpa using h)
          exact ⟨this.1, this.2.1, fun hi => this.2.2 (by simpa using hi)⟩
theorem okI_of {m : Nat} : ∀ {l : List (Ed ByteArray)} {i : Nat}, OkL m i l → okI m i (l.map ofEd) = true
  | [], _, _ => rfl
  | e :: l, i, h => by
    obtain ⟨h1, h2, h3⟩ := h
    rw [List.map_cons, okI_cons]
    have c : (i : Int) ≤ (ofEd e).at_ ∧ 0 ≤ (ofEd e).del ∧ (ofEd e).del ≤ (m : Int) - (ofEd e).at_ := by
      show (i : Int) ≤ (e.at_ : Int) ∧ 0 ≤ (e.del : Int) ∧ (e.del : Int) ≤ (m : Int) - (e.at_ : Int)
      omega
    rw [if_pos c]
    have : ((ofEd e).at_ + (ofEd e).del).toNat = e.at_ + e.del := by
      show ((e.at_ : Int) + (e.del : Int)).toNat = _
      omega
    rw [this]
    exact okI_of h3
theorem patI_of (a : List ByteArray) : ∀ (l : List (Ed ByteArray)) (i : Nat), patI a i (l.map ofEd) = patL a i l
  | [], _ => rfl
  | e :: l, i => by
    show (a.drop i).take ((e.at_ : Int).toNat - i) ++ e.ins ++ patI a ((e.at_ : Int) + (e.del : Int)).toNat (l.map ofEd) = (a.drop i).take (e.at_ - i) ++ e.ins ++ patL a (e.at_ + e.del) l
    rw [show (e.at_ : Int).toNat = e.at_ by omega, show ((e.at_ : Int) + (e.del : Int)).toNat = e.at_ + e.del by omega, patI_of a l]
theorem insN_of (a : List ByteArray) : ∀ (l : List (Ed ByteArray)) (i : Nat), insN (l.map ofEd) ≤ (patL a i l).length
  | [], _ => Nat.zero_le _
  | e :: l, i => by
    have ih := insN_of a l (e.at_ + e.del)
    show (e.ins.length :: ((l.map ofEd).map fun e => e.ins.length)).sum ≤ ((a.drop i).take (e.at_ - i) ++ e.ins ++ patL a (e.at_ + e.del) l).length
    rw [List.sum_cons, List.length_append, List.length_append]
    have h : insN (l.map ofEd) = ((l.map ofEd).map fun e => e.ins.length).sum := rfl
    omega
theorem wf_of {m : Nat} (hm : m ≤ 1000000) : ∀ {l : List (Ed ByteArray)} {i : Nat}, OkL m i l → ∀ e ∈ l.map ofEd, WfE e
  | [], _, _, e, he => by cases he
  | x :: l, i, h, e, he => by
    rcases List.mem_cons.1 (by simpa using he : e ∈ ofEd x :: l.map ofEd) with rfl | he
    · have h2 := h.2.1
      show -9223372036854775808 ≤ (x.at_ : Int) ∧ (x.at_ : Int) ≤ 9223372036854775807 ∧ -9223372036854775808 ≤ (x.del : Int) ∧ (x.del : Int) ≤ 9223372036854775807
      omega
    · exact wf_of hm h.2.2 e he
/-- Patch of Diff, and that it may be done. -/
theorem back_eds {a b : List ByteArray} (ha : a.length ≤ 200) (hb : b.length ≤ 200) : pErr a (dEds a b) = 0 ∧ pRes a (dEds a b) = b ∧ (∀ e ∈ dEds a b, WfE e) ∧ insN (dEds a b) ≤ 200 := by
  have e : dEds a b = (difL a.length b 0 0 (prsL 0 0 a b)).map ofEd := if_pos ⟨ha, hb⟩
  obtain ⟨h1, h2⟩ := back_all a b
  rw [e]
  have hok := okI_of h1
  have hin := insN_of a (difL a.length b 0 0 (prsL 0 0 a b)) 0
  rw [h2] at hin
  exact ⟨if_pos hok, by unfold pRes; rw [if_pos hok, patI_of, h2], wf_of (by omega) h1, by omega⟩
theorem dEds_self {a : List ByteArray} (ha : a.length ≤ 200) : dEds a a = [] := by
  have e : dEds a a = (difL a.length a 0 0 (prsL 0 0 a a)).map ofEd := if_pos ⟨ha, ha⟩
  rw [e, dif_self a.length a rfl (Nat.zero_add _)]
  rfl
section
variable {α : Type} [DecidableEq α]
theorem dif_same (m : Nat) (B : List α) : ∀ {a : List α} {i j : Nat}, i + a.length = m → j + a.length = B.length → difL m B i j (prsL i j a a) = []
  | [], i, j, h, h2 => by
    rw [prsL_nil]
    show gapL B i j m B.length = []
    unfold gapL
    rw [if_pos ⟨by simpa using h.symm, by simpa using h2.symm⟩]
  | x :: a, i, j, h, h2 => by
    rw [prsL_cons, if_pos rfl]
    show gapL B i j i j ++ difL m B (i + 1) (j + 1) (prsL (i + 1) (j + 1) a a) = []
    have hg : gapL B i j i j = [] := if_pos ⟨rfl, rfl⟩
    rw [List.length_cons] at h h2
    rw [hg, dif_same m B (by omega) (by omega)]
    rfl
theorem dif_pre (m : Nat) (B : List α) : ∀ (pre a b : List α) (i j : Nat), difL m B i j (prsL i j (pre ++ a) (pre ++ b)) = difL m B (i + pre.length) (j + pre.length) (prsL (i + pre.length) (j + pre.length) a b)
  | [], a, b, i, j => rfl
  | x :: pre, a, b, i, j => by
    rw [List.cons_append, List.cons_append, prsL_cons, if_pos rfl]
    show gapL B i j i j ++ difL m B (i + 1) (j + 1) (prsL (i + 1) (j + 1) (pre ++ a) (pre ++ b)) = _
    have hg : gapL B i j i j = [] := if_pos ⟨rfl, rfl⟩
    rw [hg, List.nil_append, dif_pre m B pre, List.length_cons]
    congr 1
    · omega
    · omega
    · congr 1 <;> omega
theorem lenL_self (a b : List α) (h : a.Sublist b) : lenL a b = a.length := by
  have h1 := sub_le _ (Nat.le_refl _) (List.Sublist.refl a) h
  have h2 := lenL_le _ a b (Nat.le_refl _)
  omega
theorem prs_skipB (post : List α) : ∀ (ins : List α) (i j : Nat), (∀ y ∈ ins, y ∉ post) → prsL i j post (ins ++ post) = prsL i (j + ins.length) post post
  | [], i, j, _ => rfl
  | y :: ins, i, j, h => by
    cases post with
    | nil => rw [prsL_nil, prsL_nil]
    | cons x t =>
      have hy : ¬ x = y := fun e => h y List.mem_cons_self (by rw [e]; exact List.mem_cons_self)
      have h1 := lenL_self (x :: t) (ins ++ x :: t) (List.sublist_append_right _ _)
      have h2 := lenL_le _ t (y :: (ins ++ x :: t)) (Nat.le_refl _)
      rw [List.cons_append, prsL_cons, if_neg hy, if_neg (by rw [h1, List.length_cons]; omega), prs_skipB (x :: t) ins i (j + 1) (fun z hz => h z (List.mem_cons_of_mem _ hz)), List.length_cons]
      congr 1
      omega
theorem prs_skipA (post : List α) : ∀ (ins : List α) (i j : Nat), (∀ y ∈ ins, y ∉ post) → prsL i j (ins ++ post) post = prsL (i + ins.length) j post post
  | [], i, j, _ => rfl
  | y :: ins, i, j, h => by
    cases post with
    | nil => rw [prsL_nil', prsL_nil']
    | cons x t =>
      have hy : ¬ y = x := fun e => h y List.mem_cons_self (by rw [e]; exact List.mem_cons_self)
      have h1 : lenL (ins ++ x :: t) (x :: t) = t.length + 1 := by rw [lenL_comm _ (Nat.le_refl _), lenL_self (x :: t) (ins ++ x :: t) (List.sublist_append_right _ _), List.length_cons]
      have h2 : lenL (y :: (ins ++ x :: t)) t ≤ t.length := by rw [lenL_comm _ (Nat.le_refl _)]; exact lenL_le _ _ _ (Nat.le_refl _)
      rw [List.cons_append, prsL_cons, if_neg hy, if_pos (by rw [h1]; omega), prs_skipA (x :: t) ins (i + 1) j (fun z hz => h z (List.mem_cons_of_mem _ hz)), List.length_cons]
      congr 1
      omega
/-- Lines put in: what differs is just that. -/
theorem dif_ins {pre ins post : List α} (hn : ins ≠ []) (h : ∀ y ∈ ins, y ∉ post) : difL (pre ++ post).length (pre ++ (ins ++ post)) 0 0 (prsL 0 0 (pre ++ post) (pre ++ (ins ++ post))) = [⟨pre.length, 0, ins⟩] := by
  have hl := List.length_pos_iff.2 hn
  rw [dif_pre, Nat.zero_add, prs_skipB post ins _ _ h]
  have hins : ((pre ++ (ins ++ post)).drop pre.length).take ins.length = ins := by rw [List.drop_left, List.take_left]
  cases post with
  | nil =>
    rw [prsL_nil]
    show gapL _ _ _ _ _ = _
    unfold gapL
    rw [if_neg (by simp; omega), List.append_nil, List.append_nil, Nat.sub_self]
    rw [List.append_nil] at hins
    rw [show (pre ++ ins).length - pre.length = ins.length by rw [List.length_append]; omega, hins]
  | cons x t =>
    rw [prsL_cons, if_pos rfl]
    show gapL _ _ _ _ _ ++ difL _ _ _ _ _ = _
    have hg : gapL (pre ++ (ins ++ x :: t)) pre.length pre.length pre.length (pre.length + ins.length) = [⟨pre.length, 0, ins⟩] := by
      unfold gapL
      rw [if_neg (by omega), Nat.sub_self, show pre.length + ins.length - pre.length = ins.length by omega, hins]
    rw [hg, dif_same _ _ (by simp; omega) (by simp; omega)]
    rfl
theorem dif_del {pre ins post : List α} (hn : ins ≠ []) (h : ∀ y ∈ ins, y ∉ post) : difL (pre ++ (ins ++ post)).length (pre ++ post) 0 0 (prsL 0 0 (pre ++ (ins ++ post)) (pre ++ post)) = [⟨pre.length, ins.length, []⟩] := by
  have hl := List.length_pos_iff.2 hn
  rw [dif_pre, Nat.zero_add, prs_skipA post ins _ _ h]
  cases post with
  | nil =>
    rw [prsL_nil]
    show gapL _ _ _ _ _ = _
    unfold gapL
    rw [if_neg (by simp; omega), List.append_nil, List.append_nil, Nat.sub_self, List.take_zero, show (pre ++ ins).length - pre.length = ins.length by rw [List.length_append]; omega]
  | cons x t =>
    rw [prsL_cons, if_pos rfl]
    show gapL _ _ _ _ _ ++ difL _ _ _ _ _ = _
    have hg : gapL (pre ++ x :: t) pre.length pre.length (pre.length + ins.length) pre.length = [⟨pre.length, ins.length, []⟩] := by
      unfold gapL
      rw [if_neg (by omega), Nat.sub_self, List.take_zero, show pre.length + ins.length - pre.length = ins.length by omega]
    rw [hg, dif_same _ _ (by simp; omega) (by simp; omega)]
    rfl
end
theorem one_eds {pre ins post : List ByteArray} (hn : ins ≠ []) (h : ∀ y ∈ ins, y ∉ post) (hl : pre.length + ins.length + post.length ≤ 200) :
    dEds (pre ++ post) (pre ++ (ins ++ post)) = [⟨(pre.length : Int), 0, ins⟩] ∧ dEds (pre ++ (ins ++ post)) (pre ++ post) = [⟨(pre.length : Int), (ins.length : Int), []⟩] ∧ mErr (pre ++ post) (pre ++ (ins ++ post)) = 0 ∧ mErr (pre ++ (ins ++ post)) (pre ++ post) = 0 := by
  have l1 : (pre ++ post).length ≤ 200 := by rw [List.length_append]; omega
  have l2 : (pre ++ (ins ++ post)).length ≤ 200 := by rw [List.length_append, List.length_append]; omega
  refine ⟨?_, ?_, if_pos ⟨l1, l2⟩, if_pos ⟨l2, l1⟩⟩
  · unfold dEds
    rw [if_pos ⟨l1, l2⟩, dif_ins hn h]
    rfl
  · unfold dEds
    rw [if_pos ⟨l2, l1⟩, dif_del hn h]
    rfl
end Go.Proofs.Ytchoklhadnoidaa.Ln
