/- Texts put together: YPk1. -/
import Derived.Test.YtodlaikemoedfaaGreatQp21
/- Packs that are written: plain lists, no Go in it. -/
set_option linter.unusedVariables false
set_option linter.unusedSimpArgs false
namespace Go.Proofs.YtodlaikemoedfaaGreat.Ob
open Go.Proofs.YtodlaikemoedfaaGreat.Sh

/-- The nearest one below i by which o may be told. -/
def nearP (l : List (List UInt8)) (ds : List Nat) (o : List UInt8) : Nat → Option Nat
  | 0 => none
  | i + 1 => if (l.getD i []).getD 0 0 = o.getD 0 0 ∧ ds.getD i 0 < 8 then some i else nearP l ds o i
theorem near_hit {l : List (List UInt8)} {ds : List Nat} {o : List UInt8} {i : Nat} (h : (l.getD i []).getD 0 0 = o.getD 0 0) (hd : ds.getD i 0 < 8) : nearP l ds o (i + 1) = some i := by rw [nearP, if_pos ⟨h, hd⟩]
theorem near_miss {l : List (List UInt8)} {ds : List Nat} {o : List UInt8} {i : Nat} (h : ¬ ((l.getD i []).getD 0 0 = o.getD 0 0 ∧ ds.getD i 0 < 8)) : nearP l ds o (i + 1) = nearP l ds o i := by rw [nearP, if_neg h]
theorem near_some {l : List (List UInt8)} {ds : List Nat} {o : List UInt8} : ∀ {i k : Nat}, nearP l ds o i = some k → k < i ∧ (l.getD k []).getD 0 0 = o.getD 0 0 ∧ ds.getD k 0 < 8
  | 0, k, h => by cases h
  | i + 1, k, h => by
    rw [nearP] at h
    split at h
    · rename_i hh
      injection h with h
      subst h
      exact ⟨by omega, hh.1, hh.2⟩
    · have := near_some h
      exact ⟨by omega, this.2⟩
def wholeE (o : List UInt8) : List UInt8 := 0 :: (putL o.length ++ o)
def aheadE (back : Nat) (d : List UInt8) : List UInt8 := 1 :: (putL back ++ (putL d.length ++ d))
/-- Object i, behind those ahead of it, whose depths are ds: its bytes, its depth. -/
def putP (l : List (List UInt8)) (ds : List Nat) (i : Nat) : List UInt8 × Nat :=
  match nearP l ds (l.getD i []) i with
  | none => (wholeE (l.getD i []), 0)
  | some k => if (makeD (l.getD k []) (l.getD i [])).length < (l.getD i []).length then (aheadE (i - k) (makeD (l.getD k []) (l.getD i [])), ds.getD k 0 + 1) else (wholeE (l.getD i []), 0)
theorem put_none {l : List (List UInt8)} {ds : List Nat} {i : Nat} (h : nearP l ds (l.getD i []) i = none) : putP l ds i = (wholeE (l.getD i []), 0) := by unfold putP; rw [h]
theorem put_ahead {l : List (List UInt8)} {ds : List Nat} {i k : Nat} (h : nearP l ds (l.getD i []) i = some k) (hl : (makeD (l.getD k []) (l.getD i [])).length < (l.getD i []).length) :
    putP l ds i = (aheadE (i - k) (makeD (l.getD k []) (l.getD i [])), ds.getD k 0 + 1) := by unfold putP; rw [h]; exact if_pos hl
theorem put_whole {l : List (List UInt8)} {ds : List Nat} {i k : Nat} (h : nearP l ds (l.getD i []) i = some k) (hl : ¬ (makeD (l.getD k []) (l.getD i [])).length < (l.getD i []).length) :
    putP l ds i = (wholeE (l.getD i []), 0) := by unfold putP; rw [h]; exact if_neg hl
/-- The first i objects, behind the head; their depths. -/
def writesP (l : List (List UInt8)) : Nat → List UInt8 × List Nat
  | 0 => (markL ++ putL l.length, [])
  | i + 1 => ((writesP l i).1 ++ (putP l (writesP l i).2 i).1, (writesP l i).2 ++ [(putP l (writesP l i).2 i).2])
theorem writes_depths (l : List (List UInt8)) : ∀ i, (writesP l i).2.length = i
  | 0 => rfl
  | i + 1 => by show ((_ : List Nat) ++ _).length = _; rw [List.length_append, writes_depths l i]; rfl
/-- Write: what is wrong, the pack. -/
def writeP (l : List (List UInt8)) : Int × List UInt8 :=
  if 512 < l.length then (14, []) else if ∃ o ∈ l, 20000 < o.length then (3, []) else if ∃ o ∈ l, decB o = false then (4, []) else (0, (writesP l l.length).1 ++ sumOf (writesP l l.length).1)
theorem write_limit {l : List (List UInt8)} (h : 512 < l.length) : writeP l = (14, []) := by unfold writeP; exact if_pos h
theorem write_long {l : List (List UInt8)} (h : l.length ≤ 512) (hl : ∃ o ∈ l, 20000 < o.length) : writeP l = (3, []) := by unfold writeP; rw [if_neg (by omega)]; exact if_pos hl
theorem write_form {l : List (List UInt8)} (h : l.length ≤ 512) (hl : ∀ o ∈ l, o.length ≤ 20000) (hf : ∃ o ∈ l, decB o = false) : writeP l = (4, []) := by
  unfold writeP; rw [if_neg (by omega), if_neg (by rintro ⟨o, ho, h2⟩; have := hl o ho; omega)]; exact if_pos hf
theorem write_ok {l : List (List UInt8)} (h : l.length ≤ 512) (hl : ∀ o ∈ l, o.length ≤ 20000) (hf : ∀ o ∈ l, decB o = true) : writeP l = (0, (writesP l l.length).1 ++ sumOf (writesP l l.length).1) := by
  unfold writeP
  rw [if_neg (by omega), if_neg (by rintro ⟨o, ho, h2⟩; have := hl o ho; omega), if_neg (by rintro ⟨o, ho, h2⟩; rw [hf o ho] at h2; cases h2)]
theorem write_cases (l : List (List UInt8)) : 512 < l.length ∧ writeP l = (14, []) ∨ (l.length ≤ 512 ∧ (∃ o ∈ l, 20000 < o.length) ∧ writeP l = (3, [])) ∨
    (l.length ≤ 512 ∧ (∀ o ∈ l, o.length ≤ 20000) ∧ (∃ o ∈ l, decB o = false) ∧ writeP l = (4, [])) ∨
    (l.length ≤ 512 ∧ (∀ o ∈ l, o.length ≤ 20000) ∧ (∀ o ∈ l, decB o = true) ∧ writeP l = (0, (writesP l l.length).1 ++ sumOf (writesP l l.length).1)) := by
  by_cases h : 512 < l.length
  · exact .inl ⟨h, write_limit h⟩
  · by_cases hl : ∃ o ∈ l, 20000 < o.length
    · exact .inr (.inl ⟨by omega, hl, write_long (by omega) hl⟩)
    · have hl' : ∀ o ∈ l, o.length ≤ 20000 := fun o ho => Nat.le_of_not_lt fun h2 => hl ⟨o, ho, h2⟩
      by_cases hf : ∃ o ∈ l, decB o = false
      · exact .inr (.inr (.inl ⟨by omega, hl', hf, write_form (by omega) hl' hf⟩))
      · have hf' : ∀ o ∈ l, decB o = true := fun o ho => by
          cases hd : decB o with
          | true => rfl
          | false => exact absurd ⟨o, ho, hd⟩ hf
        exact .inr (.inr (.inr ⟨by omega, hl', hf', write_ok (by omega) hl' hf'⟩))

/-- Depths stay within bounds, one for each object. -/
theorem put_depth (l : List (List UInt8)) (ds : List Nat) (i : Nat) : (putP l ds i).2 ≤ 8 := by
  cases hn : nearP l ds (l.getD i []) i with
  | none => rw [put_none hn]; simp
  | some k =>
    by_cases hl : (makeD (l.getD k []) (l.getD i [])).length < (l.getD i []).length
    · rw [put_ahead hn hl]; have := (near_some hn).2.2; simp only; omega
    · rw [put_whole hn hl]; simp
/-- The entries of the first i objects. -/
def entsP (l : List (List UInt8)) : Nat → List EntM
  | 0 => []
  | i + 1 => entsP l i ++ [⟨l.getD i [], (writesP l i).1.length, (putP l (writesP l i).2 i).2⟩]
theorem ents_length (l : List (List UInt8)) : ∀ i, (entsP l i).length = i
  | 0 => rfl
  | i + 1 => by show ((_ : List EntM) ++ _).length = _; rw [List.length_append, ents_length l i]; rfl
theorem ents_at (l : List (List UInt8)) : ∀ i k, k < i → (entsP l i)[k]? = some ⟨l.getD k [], (writesP l k).1.length, (putP l (writesP l k).2 k).2⟩
  | 0, k, h => by omega
  | i + 1, k, h => by
    show (entsP l i ++ _)[k]? = _
    by_cases e : k = i
    · subst e
      rw [List.getElem?_append_right (by rw [ents_length]; exact Nat.le_refl _), ents_length, Nat.sub_self]; rfl
    · rw [List.getElem?_append_left (by rw [ents_length]; omega)]
      exact ents_at l i k (by omega)
theorem depths_at (l : List (List UInt8)) : ∀ i k, k < i → (writesP l i).2.getD k 0 = (putP l (writesP l k).2 k).2
  | 0, k, h => by omega
  | i + 1, k, h => by
    show ((writesP l i).2 ++ _).getD k 0 = _
    by_cases e : k = i
    · subst e
      rw [List.getD_eq_getElem?_getD, List.getElem?_append_right (by rw [writes_depths]; exact Nat.le_refl _), writes_depths, Nat.sub_self]; rfl
    · rw [List.getD_eq_getElem?_getD, List.getElem?_append_left (by rw [writes_depths]; omega), ← List.getD_eq_getElem?_getD]
      exact depths_at l i k (by omega)

theorem getR_head {n : Nat} (h : n ≤ 72057594037927936) (pre : List UInt8) (c : UInt8) (r : List UInt8) : getR (pre ++ (c :: (putL n ++ r))) ((pre.length + 1 : Nat) : Int) = ((n : Int), ((pre.length + 1 + (putL n).length : Nat) : Int), 0) := by
  have := getR_mid h (pre ++ [c]) r (pre.length + 1) (by simp)
  rw [← this]
  congr 1
  simp
/-- What was written is read again. -/
theorem one_put (l : List (List UInt8)) (base : BaseM) (i : Nat) (hi : i < l.length) (hl : ∀ o ∈ l, o.length ≤ 20000) (hf : ∀ o ∈ l, decB o = true) (pre rest : List UInt8) (hll : l.length ≤ 512) :
    oneP (pre ++ ((putP l (writesP l i).2 i).1 ++ rest)) base (entsP l i) pre.length = (0, l.getD i [], (putP l (writesP l i).2 i).2, pre.length + (putP l (writesP l i).2 i).1.length) := by
  have hgi : l.getD i [] = l[i] := by rw [List.getD_eq_getElem?_getD, List.getElem?_eq_getElem hi]; rfl
  have hmem : l.getD i [] ∈ l := by rw [hgi]; exact List.getElem_mem hi
  have hlo := hl _ hmem
  have hdo := hf _ hmem
  obtain ⟨o, ho⟩ : ∃ o, l.getD i [] = o := ⟨_, rfl⟩
  rw [ho] at hlo hdo ⊢
  have hwhole : putP l (writesP l i).2 i = (wholeE o, 0) → oneP (pre ++ ((putP l (writesP l i).2 i).1 ++ rest)) base (entsP l i) pre.length = (0, o, (putP l (writesP l i).2 i).2, pre.length + (putP l (writesP l i).2 i).1.length) := by
    intro hp
    rw [hp]
    have hb : bytesP (pre ++ (wholeE o ++ rest)) base (entsP l i) pre.length = (0, o, 0, pre.length + (wholeE o).length) := by
      have hd0 : (pre ++ (wholeE o ++ rest)).getD pre.length 0 = 0 := getD_mid pre 0 _
      rw [bytes_0 (by simp [wholeE]) hd0]
      have hg : getR (pre ++ (wholeE o ++ rest)) ((pre.length + 1 : Nat) : Int) = ((o.length : Int), ((pre.length + 1 + (putL o.length).length : Nat) : Int), 0) := by
        have := getR_head (show o.length ≤ 72057594037927936 by omega) pre 0 (o ++ rest)
        rw [← this]; congr 1; simp [wholeE]
      rw [whole_ok hg hlo (by simp [wholeE]; omega)]
      have e : pre ++ (wholeE o ++ rest) = (pre ++ 0 :: putL o.length) ++ (o ++ rest) := by simp [wholeE]
      rw [e, show pre.length + 1 + (putL o.length).length = (pre ++ 0 :: putL o.length).length from by simp; omega, List.drop_left, List.take_left]
      congr 3
      simp [wholeE]; omega
    rw [one_ok (by rw [hb]) (by rw [hb]; exact hdo), hb]
  cases hn : nearP l (writesP l i).2 (l.getD i []) i with
  | none => exact hwhole (by rw [put_none hn, ho])
  | some k =>
    by_cases hlt : (makeD (l.getD k []) (l.getD i [])).length < (l.getD i []).length
    · have hp := put_ahead hn hlt
      rw [hp, ho]
      rw [ho] at hlt
      obtain ⟨hk, _, hdk⟩ := near_some hn
      have hkm : l.getD k [] ∈ l := by rw [List.getD_eq_getElem?_getD, List.getElem?_eq_getElem (by omega)]; exact List.getElem_mem _
      have hlk := hl _ hkm
      obtain ⟨x, hx⟩ : ∃ x, l.getD k [] = x := ⟨_, rfl⟩
      rw [hx] at hlk hlt ⊢
      have ham := apply_make x o hlk hlo
      obtain ⟨d, hd⟩ : ∃ d, makeD x o = d := ⟨_, rfl⟩
      rw [hd] at ham hlt ⊢
      have hb : bytesP (pre ++ (aheadE (i - k) d ++ rest)) base (entsP l i) pre.length = (0, o, (writesP l i).2.getD k 0 + 1, pre.length + (aheadE (i - k) d).length) := by
        have hd1 : (pre ++ (aheadE (i - k) d ++ rest)).getD pre.length 0 = 1 := getD_mid pre 1 _
        rw [bytes_1 (by simp [aheadE]) hd1]
        have hg : getR (pre ++ (aheadE (i - k) d ++ rest)) ((pre.length + 1 : Nat) : Int) = (((i - k : Nat) : Int), ((pre.length + 1 + (putL (i - k)).length : Nat) : Int), 0) := by
          have := getR_head (show i - k ≤ 72057594037927936 by omega) pre 1 (putL d.length ++ d ++ rest)
          rw [← this]; congr 1; simp [aheadE]
        have hxe : (entsP l i)[(entsP l i).length - (i - k)]? = some ⟨x, (writesP l k).1.length, (putP l (writesP l k).2 k).2⟩ := by
          rw [ents_length, show i - (i - k) = k from by omega, ents_at l i k hk, hx]
        rw [depths_at l i k hk] at hdk ⊢
        rw [ahead_by hg (by omega) (by rw [ents_length]; omega) hxe hdk]
        have hg2 : getR (pre ++ (aheadE (i - k) d ++ rest)) ((pre.length + 1 + (putL (i - k)).length : Nat) : Int) = ((d.length : Int), ((pre.length + 1 + (putL (i - k)).length + (putL d.length).length : Nat) : Int), 0) := by
          have := getR_mid (show d.length ≤ 72057594037927936 by omega) (pre ++ 1 :: putL (i - k)) (d ++ rest) (pre.length + 1 + (putL (i - k)).length) (by simp; omega)
          rw [← this]; congr 1; simp [aheadE]
        rw [by_ok hg2 (by simp [aheadE]; omega)]
        have e : pre ++ (aheadE (i - k) d ++ rest) = (pre ++ 1 :: (putL (i - k) ++ putL d.length)) ++ (d ++ rest) := by simp [aheadE]
        rw [e, show pre.length + 1 + (putL (i - k)).length + (putL d.length).length = (pre ++ 1 :: (putL (i - k) ++ putL d.length)).length from by simp; omega, List.drop_left, List.take_left, ham]
        show (_, _, _, _) = (_, _, _, _)
        congr 3
        simp [aheadE]; omega
      rw [one_ok (by rw [hb]) (by rw [hb]; exact hdo), hb]
    · exact hwhole (by rw [put_whole hn hlt, ho])
theorem loop_put (l : List (List UInt8)) (base : BaseM) (hl : ∀ o ∈ l, o.length ≤ 20000) (hf : ∀ o ∈ l, decB o = true) (hll : l.length ≤ 512) : ∀ n i, i + n = l.length →
    loopP (writesP l l.length).1 base n (entsP l i) (writesP l i).1.length = (0, entsP l l.length) := by
  have hpre : ∀ n i, i + n = l.length → ∃ rest, (writesP l l.length).1 = (writesP l i).1 ++ rest := by
    intro n
    induction n with
    | zero => intro i h; exact ⟨[], by rw [List.append_nil, show i = l.length from by omega]⟩
    | succ n ih =>
      intro i h
      obtain ⟨rest, hr⟩ := ih (i + 1) (by omega)
      exact ⟨(putP l (writesP l i).2 i).1 ++ rest, by rw [hr]; show ((writesP l i).1 ++ _) ++ rest = _; rw [List.append_assoc]⟩
  intro n
  induction n with
  | zero =>
    intro i h
    have e : i = l.length := by omega
    rw [e, loop_end, if_neg (by omega)]
  | succ n ih =>
    intro i h
    obtain ⟨rest, hr⟩ := hpre n (i + 1) (by omega)
    have hr' : (writesP l l.length).1 = (writesP l i).1 ++ ((putP l (writesP l i).2 i).1 ++ rest) := by rw [hr]; show ((writesP l i).1 ++ _) ++ rest = _; rw [List.append_assoc]
    have h1 := one_put l base i (by omega) hl hf (writesP l i).1 rest hll
    rw [← hr'] at h1
    rw [loop_on (by rw [h1]), h1]
    have := ih (i + 1) (by omega)
    have e2 : (writesP l (i + 1)).1.length = (writesP l i).1.length + (putP l (writesP l i).2 i).1.length := by show ((_ : List UInt8) ++ _).length = _; rw [List.length_append]
    rw [e2] at this
    exact this
theorem writes_head (l : List (List UInt8)) : ∀ i, ∃ r, (writesP l i).1 = markL ++ (putL l.length ++ r)
  | 0 => ⟨[], by show markL ++ putL l.length = _; rw [List.append_nil]⟩
  | i + 1 => by
    obtain ⟨r, hr⟩ := writes_head l i
    exact ⟨r ++ (putP l (writesP l i).2 i).1, by show (writesP l i).1 ++ _ = _; rw [hr]; simp⟩
/-- Parse of Write. -/
theorem read_write (l : List (List UInt8)) (base : BaseM) (hl : ∀ o ∈ l, o.length ≤ 20000) (hf : ∀ o ∈ l, decB o = true) (hll : l.length ≤ 512) :
    readP ((writesP l l.length).1 ++ sumOf (writesP l l.length).1) base = (0, entsP l l.length) := by
  obtain ⟨r, hr⟩ := writes_head l l.length
  have hs := sumOf_length (writesP l l.length).1
  have hp := putL_pos l.length
  have hlen : 4 ≤ (writesP l l.length).1.length := by rw [hr]; simp [markL]; omega
  have hsub : ((writesP l l.length).1 ++ sumOf (writesP l l.length).1).length - 32 = (writesP l l.length).1.length := by rw [List.length_append, hs]; omega
  rw [read_body (by rw [List.length_append, hs]; omega) (by rw [hsub, List.drop_left, List.take_left]), hsub, List.take_left]
  have hg : getR (writesP l l.length).1 3 = ((l.length : Int), ((3 + (putL l.length).length : Nat) : Int), 0) := by
    have := getR_mid (show l.length ≤ 72057594037927936 by omega) markL r 3 rfl
    rw [hr]
    exact this
  rw [body_loop (by rw [hr]; rfl) hg hll]
  have := loop_put l base hl hf hll l.length 0 (by omega)
  have e : (writesP l 0).1.length = 3 + (putL l.length).length := by show (markL ++ _).length = _; rw [List.length_append]; rfl
  rw [e] at this
  exact this
theorem places_rise (l : List (List UInt8)) (i : Nat) : (writesP l i).1.length < (writesP l (i + 1)).1.length := by
  show _ < ((_ : List UInt8) ++ _).length
  rw [List.length_append]
  have : 0 < (putP l (writesP l i).2 i).1.length := by
    cases hn : nearP l (writesP l i).2 (l.getD i []) i with
    | none => rw [put_none hn]; simp [wholeE]
    | some k =>
      by_cases hlt : (makeD (l.getD k []) (l.getD i [])).length < (l.getD i []).length
      · rw [put_ahead hn hlt]; simp [aheadE]
      · rw [put_whole hn hlt]; simp [wholeE]
  omega
theorem place_four (l : List (List UInt8)) (i : Nat) : 4 ≤ (writesP l i).1.length := by
  obtain ⟨r, hr⟩ := writes_head l i
  have := putL_pos l.length
  rw [hr]; simp [markL]; omega
end Go.Proofs.YtodlaikemoedfaaGreat.Ob
