/- Texts put together: Tq1, Tq3, Fm0. -/
import Derived.Test.YtaccejlalomaaaaGreatQh05
import Derived.Test.YtaccejlalomaaaaGreatQh04
import GoSem.Op.String
/- Names and paths: what follows of their definitions. Plain lists. -/
namespace Go.Proofs.YtaccejlalomaaaaGreat.Tx

theorem splitL_app (g : UInt8) : ∀ (a b : List UInt8), splitL g (a ++ g :: b) = splitL g a ++ splitL g b
  | [], b => splitL_sign g b
  | c :: r, b => by
    by_cases hc : c = g
    · subst hc
      rw [List.cons_append, splitL_sign, splitL_sign, splitL_app c r b]
      rfl
    · obtain ⟨p, ps, e1, e2⟩ := splitL_cons_ne hc (r ++ g :: b)
      obtain ⟨q, qs, e3, e4⟩ := splitL_cons_ne hc r
      rw [splitL_app g r b, e3] at e1
      injection e1 with e5 e6
      rw [List.cons_append, e2, e4, ← e5, ← e6]
      rfl
theorem pathB_iff (s : List UInt8) : pathB s = true ↔ s.length ≤ 200 ∧ (∀ p ∈ splitL 47 s, nameB p = true) ∧ (splitL 47 s).length ≤ 8 := by
  unfold pathB
  simp [and_assoc]
theorem nameB_sign {p : List UInt8} (h : nameB p = true) : 47 ∉ p := by
  intro hm
  rw [nameB_eq] at h
  simp only [Bool.and_eq_true, List.all_eq_true] at h
  have := h.2 47 hm
  exact absurd this (by decide)
theorem nameB_one {p : List UInt8} (h : nameB p = true) : 1 ≤ p.length := by
  rw [nameB_eq] at h
  simp only [Bool.and_eq_true, decide_eq_true_eq] at h
  exact h.1.1.1.1
theorem joinOk_split {s : List UInt8} (h : pathB s = true) : joinOk (splitL 47 s) = true := by
  unfold joinOk
  rw [joinL_splitL, h]
  cases hs : splitL 47 s with
  | nil => exact absurd hs (splitL_ne _ _)
  | cons p ps => simp
theorem join_split {s : List UInt8} (h : pathB s = true) : joinT (splitL 47 s) = s ∧ joinE (splitL 47 s) = 0 := by
  obtain ⟨h1, h2⟩ := joined_yes (joinOk_split h)
  exact ⟨by rw [h1, joinL_splitL], h2⟩
theorem count_joinL {g : UInt8} : ∀ {l : List (List UInt8)}, l ≠ [] → (joinL g l).count g + 1 = l.length + (l.map fun p => p.count g).sum
  | [], h => absurd rfl h
  | [p], _ => by simp [joinL]; omega
  | p :: q :: r, _ => by
    have := count_joinL (g := g) (l := q :: r) (by simp)
    rw [joinL_cons (by simp), List.count_append, List.count_cons_self]
    simp only [List.length_cons, List.map_cons, List.sum_cons] at this ⊢
    omega
theorem sum_zero : ∀ {l : List Nat}, l.sum = 0 → ∀ x ∈ l, x = 0
  | [], _, x, hx => by cases hx
  | y :: r, h, x, hx => by
    rw [List.sum_cons] at h
    rcases List.mem_cons.1 hx with rfl | hx
    · omega
    · exact sum_zero (by omega) x hx
theorem joinOk_eq (l : List (List UInt8)) : joinOk l = (decide (1 ≤ l.length) && decide (l.length ≤ 8) && l.all nameB && decide ((joinL 47 l).length ≤ 200)) := by
  rw [Bool.eq_iff_iff]
  constructor
  · intro h
    unfold joinOk at h
    simp only [Bool.and_eq_true, beq_iff_eq, Bool.not_eq_true', List.isEmpty_eq_false_iff] at h
    obtain ⟨⟨h0, h1⟩, h2⟩ := h
    have hc := count_joinL (g := 47) h0
    rw [splitL_length] at h1
    have hs : (l.map fun p => p.count (47 : UInt8)).sum = 0 := by omega
    have hno : ∀ p ∈ l, (47 : UInt8) ∉ p := fun p hp => by
      have := sum_zero hs (p.count 47) (List.mem_map.2 ⟨p, hp, rfl⟩)
      exact List.count_eq_zero.1 this
    have he := splitL_joinL hno h0
    obtain ⟨g1, g2, g3⟩ := (pathB_iff _).1 h2
    rw [he] at g2 g3
    have hl : 1 ≤ l.length := by
      cases l with
      | nil => exact absurd rfl h0
      | cons p r => simp
    simp only [Bool.and_eq_true, decide_eq_true_eq, List.all_eq_true]
    exact ⟨⟨⟨hl, g3⟩, g2⟩, g1⟩
  · intro h
    simp only [Bool.and_eq_true, decide_eq_true_eq, List.all_eq_true] at h
    obtain ⟨⟨⟨hl, h8⟩, hn⟩, h200⟩ := h
    have h0 : l ≠ [] := by rintro rfl; simp at hl
    have he := splitL_joinL (g := 47) (fun p hp => nameB_sign (hn p hp)) h0
    unfold joinOk
    rw [he]
    have hp : pathB (joinL 47 l) = true := (pathB_iff _).2 ⟨h200, by rw [he]; exact hn, by rw [he]; exact h8⟩
    rw [hp]
    cases l with
    | nil => exact absurd rfl h0
    | cons p r => simp
theorem joined_split {l : List (List UInt8)} (h : joinOk l = true) : pathB (joinT l) = true ∧ namesL (joinT l) = l := by
  obtain ⟨h1, _⟩ := joined_yes h
  rw [joinOk_eq] at h
  simp only [Bool.and_eq_true, decide_eq_true_eq, List.all_eq_true] at h
  obtain ⟨⟨⟨hl, h8⟩, hn⟩, h200⟩ := h
  have h0 : l ≠ [] := by rintro rfl; simp at hl
  have he := splitL_joinL (g := 47) (fun p hp => nameB_sign (hn p hp)) h0
  have hp : pathB (joinL 47 l) = true := (pathB_iff _).2 ⟨h200, by rw [he]; exact hn, by rw [he]; exact h8⟩
  rw [h1]
  exact ⟨hp, by unfold namesL; rw [if_pos hp, he]⟩
theorem joinL_length {g : UInt8} : ∀ {l : List (List UInt8)}, l ≠ [] → (joinL g l).length + 1 = l.length + (l.map List.length).sum
  | [], h => absurd rfl h
  | [p], _ => by simp [joinL]; omega
  | p :: q :: r, _ => by
    have := joinL_length (g := g) (l := q :: r) (by simp)
    rw [joinL_cons (by simp), List.length_append, List.length_cons]
    simp only [List.length_cons, List.map_cons, List.sum_cons] at this ⊢
    omega

/-! Parents. -/
theorem parP_mem {s x : List UInt8} : ∀ {n : Nat}, x ∈ parP s n ↔ ∃ k, k < n ∧ s[k]? = some 47 ∧ x = s.take k
  | 0 => by simp [parP]
  | n + 1 => by
    unfold parP
    split
    · rename_i h
      rw [List.mem_append, parP_mem, List.mem_singleton]
      constructor
      · rintro (⟨k, h1, h2, h3⟩ | h3)
        · exact ⟨k, by omega, h2, h3⟩
        · exact ⟨n, by omega, h, h3⟩
      · rintro ⟨k, h1, h2, h3⟩
        by_cases e : k = n
        · subst e; exact .inr h3
        · exact .inl ⟨k, by omega, h2, h3⟩
    · rename_i h
      rw [parP_mem]
      constructor
      · rintro ⟨k, h1, h2, h3⟩; exact ⟨k, by omega, h2, h3⟩
      · rintro ⟨k, h1, h2, h3⟩
        by_cases e : k = n
        · subst e; exact absurd h2 h
        · exact ⟨k, by omega, h2, h3⟩
theorem cut_at {s : List UInt8} {k : Nat} (h : s[k]? = some 47) : s = s.take k ++ 47 :: s.drop (k + 1) := by
  obtain ⟨hk, e⟩ := List.getElem?_eq_some_iff.1 h
  rw [← e, ← List.drop_eq_getElem_cons hk, List.take_append_drop]
theorem cut_split {s : List UInt8} {k : Nat} (h : s[k]? = some 47) : splitL 47 s = splitL 47 (s.take k) ++ splitL 47 (s.drop (k + 1)) := by
  conv => lhs; rw [cut_at h]
  exact splitL_app 47 _ _
theorem pathB_cut {s : List UInt8} {k : Nat} (hp : pathB s = true) (h : s[k]? = some 47) : pathB (s.take k) = true ∧ k + 1 < s.length := by
  obtain ⟨h1, h2, h3⟩ := (pathB_iff s).1 hp
  have hs := cut_split h
  obtain ⟨hk, _⟩ := List.getElem?_eq_some_iff.1 h
  refine ⟨(pathB_iff _).2 ⟨by rw [List.length_take]; omega, fun p hp => h2 p (by rw [hs]; exact List.mem_append_left _ hp), by rw [hs, List.length_append] at h3; omega⟩, ?_⟩
  rcases Nat.lt_or_ge (k + 1) s.length with e | e
  · exact e
  · have hd : s.drop (k + 1) = [] := List.drop_eq_nil_of_le e
    have := h2 [] (by rw [hs, hd]; exact List.mem_append_right _ (by simp [splitL]))
    exact absurd this (by decide)
theorem under_iff (t s : List UInt8) : underB t s = true ↔ t ∈ parentsL s := by
  unfold parentsL
  constructor
  · intro h
    unfold underB at h
    simp only [Bool.and_eq_true, decide_eq_true_eq, beq_iff_eq] at h
    obtain ⟨⟨⟨⟨_, h2⟩, h3⟩, h4⟩, h5⟩ := h
    rw [if_pos h2, parP_mem]
    exact ⟨t.length, by omega, h5, h4.symm⟩
  · intro h
    split at h
    · rename_i hp
      obtain ⟨k, h1, h2, h3⟩ := parP_mem.1 h
      obtain ⟨g1, g2⟩ := pathB_cut hp h2
      have hl : t.length = k := by rw [h3, List.length_take]; omega
      unfold underB
      simp only [Bool.and_eq_true, decide_eq_true_eq, beq_iff_eq]
      rw [hl]
      exact ⟨⟨⟨⟨by rw [h3]; exact g1, hp⟩, g2⟩, h3.symm⟩, h2⟩
    · cases h
theorem under_self (s : List UInt8) : underB s s = false := by
  unfold underB
  simp
theorem parents_path {s x : List UInt8} (h : x ∈ parentsL s) : pathB x = true := by
  have := (under_iff x s).2 h
  unfold underB at this
  simp only [Bool.and_eq_true] at this
  exact this.1.1.1.1
theorem parP_take {s : List UInt8} {k : Nat} : ∀ {n : Nat}, n ≤ k → parP (s.take k) n = parP s n
  | 0, _ => rfl
  | n + 1, h => by
    unfold parP
    have e : (s.take k)[n]? = s[n]? := by rw [List.getElem?_take, if_pos (by omega)]
    rw [parP_take (n := n) (by omega), e, List.take_take, show min n k = n from by omega]
theorem parP_at {s : List UInt8} : ∀ {n i : Nat} (hi : i < (parP s n).length), ∃ k, k < n ∧ s[k]? = some 47 ∧ (parP s n)[i] = s.take k ∧ parP s k = (parP s n).take i
  | 0, i, hi => by simp [parP] at hi
  | n + 1, i, hi => by
    by_cases h : s[n]? = some 47
    · have e : parP s (n + 1) = parP s n ++ [s.take n] := by rw [parP, if_pos h]
      by_cases hl : i < (parP s n).length
      · obtain ⟨k, h1, h2, h3, h4⟩ := parP_at hl
        refine ⟨k, by omega, h2, ?_, ?_⟩
        · rw [List.getElem_of_eq e, List.getElem_append_left hl]; exact h3
        · rw [e, List.take_append_of_le_length (by omega)]; exact h4
      · have hi' : i = (parP s n).length := by
          have : (parP s (n + 1)).length = (parP s n).length + 1 := by rw [e]; simp
          omega
        subst hi'
        refine ⟨n, by omega, h, ?_, ?_⟩
        · rw [List.getElem_of_eq e, List.getElem_append_right (Nat.le_refl _)]; simp
        · rw [e, List.take_left']
          rfl
    · have e : parP s (n + 1) = parP s n := by rw [parP, if_neg h]
      have hl : i < (parP s n).length := by rw [← e]; exact hi
      obtain ⟨k, h1, h2, h3, h4⟩ := parP_at hl
      exact ⟨k, by omega, h2, by rw [List.getElem_of_eq e]; exact h3, by rw [e]; exact h4⟩
theorem parents_of {s : List UInt8} {i : Nat} (hi : i < (parentsL s).length) : parentsL (parentsL s)[i] = (parentsL s).take i := by
  by_cases hp : pathB s = true
  · have e : parentsL s = parP s s.length := by unfold parentsL; rw [if_pos hp]
    have hi' : i < (parP s s.length).length := by rw [← e]; exact hi
    obtain ⟨k, h1, h2, h3, h4⟩ := parP_at hi'
    have hx : (parentsL s)[i] = s.take k := by rw [List.getElem_of_eq e]; exact h3
    rw [hx, e, ← h4]
    unfold parentsL
    rw [if_pos (pathB_cut hp h2).1, List.length_take, Nat.min_eq_left (by omega), parP_take (Nat.le_refl _)]
  · have e : parentsL s = [] := by unfold parentsL; rw [if_neg hp]
    rw [e] at hi
    simp at hi
theorem parents_chain {s : List UInt8} {i : Nat} (h0 : 0 < i) (hi : i < (parentsL s).length) : underB ((parentsL s)[i - 1]'(by omega)) (parentsL s)[i] = true := by
  rw [under_iff, parents_of hi, List.mem_iff_getElem]
  exact ⟨i - 1, by simp; omega, by rw [List.getElem_take]⟩
theorem parP_count (s : List UInt8) : ∀ n, n ≤ s.length → (parP s n).length = (s.take n).count 47
  | 0, _ => by simp [parP]
  | n + 1, h => by
    have ih := parP_count s n (by omega)
    rw [List.take_succ_eq_append_getElem (by omega), List.count_append]
    by_cases e : s[n]? = some 47
    · have e2 : s[n] = 47 := by rw [List.getElem?_eq_getElem (by omega)] at e; injection e
      rw [parP, if_pos e, List.length_append, ih, e2]
      rfl
    · have e2 : s[n] ≠ 47 := fun h => e (by rw [List.getElem?_eq_getElem (by omega), h])
      rw [parP, if_neg e, ih, List.count_cons_of_ne e2]
      rfl
theorem parents_len {s : List UInt8} (hp : pathB s = true) : (parentsL s).length + 1 = (namesL s).length := by
  unfold parentsL namesL
  rw [if_pos hp, if_pos hp, splitL_length, parP_count s _ (Nat.le_refl _), List.take_length]
end Go.Proofs.YtaccejlalomaaaaGreat.Tx
/- Texts in order: plain lists. -/
namespace Go.Proofs.YtaccejlalomaaaaGreat.Tx

/-- Does a stand before b? -/
abbrev bl (a b : List UInt8) : Bool := Op.bytesLess a b
theorem bl_nil (b : List UInt8) : bl b [] = false := by cases b <;> rfl
theorem bl_cons (x y : UInt8) (a b : List UInt8) : bl (x :: a) (y :: b) = (decide (x < y) || (x == y && bl a b)) := by
  show Op.bytesLess _ _ = _
  rw [Op.bytesLess]
theorem bl_irr (a : List UInt8) : bl a a = false := by
  induction a with
  | nil => rfl
  | cons x a ih => rw [bl_cons, ih]; simp
theorem u8_tri (x y : UInt8) : x < y ∨ x = y ∨ y < x := by
  rcases Nat.lt_trichotomy x.toNat y.toNat with h | h | h
  · exact .inl h
  · exact .inr (.inl (UInt8.toNat_inj.1 h))
  · exact .inr (.inr h)
theorem u8_nlt {x y : UInt8} (h : x < y) : ¬ y < x ∧ x ≠ y := by
  have h' : x.toNat < y.toNat := h
  exact ⟨fun h2 => by have : y.toNat < x.toNat := h2; omega, fun e => by subst e; omega⟩
theorem bl_tri (a : List UInt8) : ∀ b : List UInt8, bl a b = true ∨ a = b ∨ bl b a = true := by
  induction a with
  | nil => intro b; cases b with | nil => exact .inr (.inl rfl) | cons y b => exact .inl rfl
  | cons x a ih =>
    intro b
    cases b with
    | nil => exact .inr (.inr rfl)
    | cons y b =>
      rw [bl_cons, bl_cons]
      rcases u8_tri x y with h | h | h
      · left; simp [h]
      · subst h
        rcases ih b with h | h | h
        · left; rw [h]; simp
        · right; left; rw [h]
        · right; right; rw [h]; simp
      · right; right; simp [h]
theorem bl_asymm (a : List UInt8) : ∀ b : List UInt8, bl a b = true → bl b a = false := by
  induction a with
  | nil => intro b _; exact bl_nil b
  | cons x a ih =>
    intro b h
    cases b with
    | nil => rw [bl_nil] at h; cases h
    | cons y b =>
      rw [bl_cons] at h ⊢
      rcases u8_tri x y with h1 | h1 | h1
      · have := u8_nlt h1
        simp [this.1]
        intro e; exact absurd e.symm this.2
      · subst h1
        have hb : bl a b = true := by simpa using h
        rw [ih b hb]
        simp
      · have := u8_nlt h1
        simp [this.1, this.2.symm] at h
theorem bl_trans (a : List UInt8) : ∀ b c : List UInt8, bl a b = true → bl b c = true → bl a c = true := by
  induction a with
  | nil =>
    intro b c h1 h2
    cases c with
    | nil => rw [bl_nil] at h2; cases h2
    | cons z c => rfl
  | cons x a ih =>
    intro b c h1 h2
    cases b with
    | nil => rw [bl_nil] at h1; cases h1
    | cons y b =>
      cases c with
      | nil => rw [bl_nil] at h2; cases h2
      | cons z c =>
        rw [bl_cons] at h1 h2 ⊢
        rcases u8_tri x y with g1 | g1 | g1
        · rcases u8_tri y z with g2 | g2 | g2
          · have : x < z := by have a1 : x.toNat < y.toNat := g1; have a2 : y.toNat < z.toNat := g2; show x.toNat < z.toNat; omega
            simp [this]
          · subst g2; simp [g1]
          · have := u8_nlt g2
            simp [this.1, this.2.symm] at h2
        · subst g1
          rcases u8_tri x z with g2 | g2 | g2
          · simp [g2]
          · subst g2
            have hb1 : bl a b = true := by simpa using h1
            have hb2 : bl b c = true := by simpa using h2
            rw [ih b c hb1 hb2]
            simp
          · have := u8_nlt g2
            simp [this.1, this.2.symm] at h2
        · have := u8_nlt g1
          simp [this.1, this.2.symm] at h1
/-- Compare. -/
def cmpL (a b : List UInt8) : Int := if bl a b then -1 else if a = b then 0 else 1
theorem cmpL_lt {a b : List UInt8} (h : bl a b = true) : cmpL a b = -1 := by unfold cmpL; rw [if_pos h]
theorem cmpL_eq (a : List UInt8) : cmpL a a = 0 := by unfold cmpL; rw [if_neg (by rw [bl_irr]; decide), if_pos rfl]
theorem cmpL_gt {a b : List UInt8} (h : bl b a = true) : cmpL a b = 1 := by
  unfold cmpL
  rw [if_neg (by rw [bl_asymm b a h]; decide), if_neg (by rintro rfl; rw [bl_irr] at h; cases h)]
theorem cmpL_neg (a b : List UInt8) : cmpL b a = - cmpL a b := by
  rcases bl_tri a b with h | h | h
  · rw [cmpL_lt h, cmpL_gt h]; rfl
  · subst h; rw [cmpL_eq]; rfl
  · rw [cmpL_lt h, cmpL_gt h]
theorem cmpL_cases (a b : List UInt8) : (Op.bytesLess a b = true ∧ cmpL a b = -1) ∨ (Op.bytesLess a b = false ∧ (a == b) = true ∧ cmpL a b = 0) ∨ (Op.bytesLess a b = false ∧ (a == b) = false ∧ cmpL a b = 1) := by
  rcases bl_tri a b with h | h | h
  · exact .inl ⟨h, cmpL_lt h⟩
  · subst h; exact .inr (.inl ⟨bl_irr a, beq_self_eq_true a, cmpL_eq a⟩)
  · refine .inr (.inr ⟨bl_asymm b a h, ?_, cmpL_gt h⟩)
    rw [beq_eq_false_iff_ne]; rintro rfl; rw [bl_irr] at h; cases h
end Go.Proofs.YtaccejlalomaaaaGreat.Tx
/- A file system that falls, as plain data: what the document's own answer does. (No Go in it.) -/
namespace Go.Proofs.YtaccejlalomaaaaGreat.Tx

/-- A file; a row: a file at a path; a change; an event; all there is. -/
structure FileM where
  mode : Int
  data : List UInt8
  time : Int
structure RowM where
  path : List UInt8
  f : FileM
structure OpM where
  kind : Int
  fr : List UInt8
  to : List UInt8
  f : FileM
structure EvM where
  at_ : Int
  kind : Int
  mode : Int
  keep : Int
  torn : Int
  path : List UInt8
  data : List UInt8
structure FSM where
  room : Int
  now : List RowM
  sure : List RowM
  pending : List OpM
  plan : List EvM
  calls : Int
  time : Int
  down : Bool
  user : List EvM

def findM (l : List RowM) (p : List UInt8) : Option Nat := l.findIdx? fun r => r.path == p
def withoutM (l : List RowM) (p : List UInt8) : List RowM := l.filter fun r => !(r.path == p)
/-- How many rows at the front stand ahead of p. -/
def headM (l : List RowM) (p : List UInt8) : Nat := (l.takeWhile fun r => bl r.path p).length
def withM (l : List RowM) (p : List UInt8) (f : FileM) : List RowM :=
  let m := withoutM l p
  m.take (headM m p) ++ [⟨p, f⟩] ++ m.drop (headM m p)
def mayM (l : List RowM) (p : List UInt8) : Bool := l.all fun r => !(underB p r.path || underB r.path p)
def usedM (l : List RowM) : Nat := (l.map fun r => r.f.data.length).sum
def applyM (l : List RowM) (o : OpM) : List RowM :=
  if o.kind = 1 then withM l o.to o.f
  else if o.kind = 2 then
    match findM l o.fr with
    | none => l
    | some i => match l[i]? with
      | none => l
      | some r => withM (withoutM l o.fr) o.to r.f
  else withoutM l o.fr
end Go.Proofs.YtaccejlalomaaaaGreat.Tx
