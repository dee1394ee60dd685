/- Texts put together: YShR5, YTn3, YTs0, YTs1. -/
import Derived.Test.YteffiedolcjjlaaQa13
import Derived.Test.YteffiedolcjjlaaQa02
import Derived.Test.YteffiedolcjjlaaQa04
import Derived.Laws.BytesString
/- The reference's ID. -/
namespace Go.Proofs.Yteffiedolcjjlaa.Sh
open Go.RowKit

set_option maxHeartbeats 400000 in
theorem rid_any (v : Value) (bs : List UInt8) (w : World) (h : Sl w v bs) (hn : bs.length ≤ 140737488351232) : Calls Try.prog 45 #[v] w (StrPost w (hexL (sumOf bs))) := by
  have H := Lib.hid h
  clear h
  go_enter Try.func45, Try.ntmps45
  go_wp2_with fail
  refine (rsum_any v bs _ H.out hn).mono ?_
  rintro e w1 ⟨v1, rfl, ho, hb⟩
  have HS := Lib.hid ho.sl
  have HB := Lib.hid hb
  clear ho hb
  go_wp2_with fail
  refine (rhex_any v1 (sumOf bs) _ HS.out (by rw [sumOf_length]; omega)).mono ?_
  rintro e w2 ⟨rfl, hb2⟩
  have hz := HB.out.size
  have HB2 := Lib.hid (HB.out.trans (hb2.mono hz))
  clear hb2
  go_wp2_with fail
  go_ret
  exact ⟨rfl, HB2.out⟩
end Go.Proofs.Yteffiedolcjjlaa.Sh
/- marref: Has, Texts, CopyTexts. -/
namespace Go.Proofs.Yteffiedolcjjlaa.Tx
open Go.RowKit Go.Proofs.Yteffiedolcjjlaa.Sh

/-- What a law's call leaves. -/
def Yes (w : World) (e : Ending) (w' : World) : Prop := e = .returned (.bool true) ∧ Below w.heap.size w w'
theorem ba_ext {s t : ByteArray} (h : s.toList = t.toList) : s = t := by
  rw [ByteArray.toList_eq, ByteArray.toList_eq] at h
  exact ByteArray.ext (Array.toList_inj.1 h)
def hasT (xs : List ByteArray) (s : ByteArray) : Bool := xs.any (fun t => t.toList == s.toList)
theorem hasT_yes {xs : List ByteArray} {s : ByteArray} (h : s ∈ xs) : hasT xs s = true := List.any_eq_true.2 ⟨s, h, beq_self_eq_true _⟩
theorem hasT_no {xs : List ByteArray} {s : ByteArray} (h : s ∉ xs) : hasT xs s = false := by
  unfold hasT
  rw [List.any_eq_false]
  intro t ht e
  exact h (by rw [← ba_ext (beq_iff_eq.1 e)]; exact ht)
theorem hasT_iff {xs : List ByteArray} {s : ByteArray} : hasT xs s = true ↔ s ∈ xs := by
  constructor
  · intro h
    rcases Classical.em (s ∈ xs) with h1 | h1
    · exact h1
    · rw [hasT_no h1] at h; cases h
  · exact hasT_yes
theorem toList_ne {s t : ByteArray} (h : t ≠ s) : (t.toList == s.toList) = false := by rw [beq_eq_false_iff_ne]; exact fun e => h (ba_ext e)
set_option maxRecDepth 100000 in
set_option maxHeartbeats 400000 in
theorem rhas_any (v : Value) (xs : List ByteArray) (s : ByteArray) (w : World) (h : SlV w v (xs.map sv)) : Calls Try.prog 15 #[v, .string s] w fun e w' => e = .returned (.bool (hasT xs s)) ∧ w = w' := by
  obtain ⟨A, c, rfl, hlc, hcm, hR⟩ := h.len
  rw [List.length_map] at hlc hR ⊢
  have HR := Lib.hid hR
  unfold maxLen at hcm
  obtain ⟨l, hl⟩ : ∃ l, xs.length = l := ⟨_, rfl⟩
  rw [hl] at hlc ⊢
  have HL := Lib.hid hl
  obtain ⟨t, ht⟩ : ∃ t, hasT xs s = t := ⟨_, rfl⟩
  rw [ht]
  have HT := Lib.hid ht
  clear h hR hl ht
  go_enter Try.func15, Try.ntmps15
  go_wp2
  go_loop [5] (fun i => ∃ k : Nat, k ≤ l ∧ i = .int .i64 k ∧ s ∉ xs.take k) (fun i => l - (intOf i).toNat)
  case atStart => exact ⟨0, Nat.zero_le _, rfl, by simp⟩
  case round =>
    obtain ⟨k, hk, rfl, hno⟩ := hrel
    have HNO := Lib.hid hno
    clear hno
    by_cases hlt : k < l
    · have hkl : k < xs.length := by rw [HL.out]; exact hlt
      obtain ⟨ad, rfl, hcell⟩ := texts_at HR.out k hkl
      have HX := Lib.hid (show xs.take (k + 1) = xs.take k ++ [xs[k]] from List.take_succ_eq_append_getElem hkl)
      have HMEM := Lib.hid (show xs[k] ∈ xs from List.getElem_mem hkl)
      generalize xs[k] = x at *
      clear hkl
      by_cases he : x = s
      · subst he
        have htt : t = true := by rw [← HT.out]; exact hasT_yes HMEM.out
        subst htt
        go_wp2
        go_ret
        exact ⟨rfl, rfl⟩
      · have hne := toList_ne he
        go_wp2
        go_round
        case rel =>
          refine ⟨k + 1, by omega, by go_num, ?_⟩
          rw [HX.out, List.mem_append, List.mem_singleton]
          rintro (hh | hh)
          · exact HNO.out hh
          · exact he hh.symm
        case measure => simp [intOf]; omega
    · have htt : t = false := by
        rw [← HT.out]
        have := HNO.out
        rw [List.take_of_length_le (by rw [HL.out]; omega)] at this
        exact hasT_no this
      subst htt
      go_wp2
      go_ret
      exact ⟨rfl, rfl⟩

set_option maxRecDepth 100000 in
set_option maxHeartbeats 400000 in
theorem texts_same (v v' : Value) (xs : List ByteArray) (w : World) (h : SlV w v (xs.map sv)) (h' : SlV w v' (xs.map sv)) : Calls Try.prog 20 #[v, v'] w (Yes w) := by
  obtain ⟨A, c, rfl, hlc, hcm, hR⟩ := h.len
  obtain ⟨A', c', rfl, hlc', hcm', hR'⟩ := h'.len
  rw [List.length_map] at hlc hR hlc' hR' ⊢
  have HR := Lib.hid hR
  have HR' := Lib.hid hR'
  unfold maxLen at hcm hcm'
  obtain ⟨l, hl⟩ : ∃ l, xs.length = l := ⟨_, rfl⟩
  rw [hl] at hlc hlc' ⊢
  have HL := Lib.hid hl
  clear h h' hR hR' hl
  go_enter Try.func20, Try.ntmps20
  go_wp2
  go_loopw [5] (fun i wr => ∃ k : Nat, k ≤ l ∧ i = .int .i64 k ∧ Below w.heap.size w wr) (fun i _ => l - (intOf i).toNat)
  case atStart => exact ⟨0, Nat.zero_le _, rfl, Below.refl _ _⟩
  case round =>
    obtain ⟨k, hk, rfl, hb⟩ := hrel
    have HB := Lib.hid hb
    clear hb
    by_cases hlt : k < l
    · have hkl : k < xs.length := by rw [HL.out]; exact hlt
      obtain ⟨ad, rfl, hcell⟩ := texts_at ((HR.out.below HB.out).more HB.out.size) k hkl
      obtain ⟨ad', rfl, hcell'⟩ := texts_at ((HR'.out.below HB.out).more HB.out.size) k hkl
      generalize xs[k] = x at *
      clear hkl
      have z0 : (0 : Int) ≤ (k : Int) := by omega
      have z1 : (k : Int) < (l : Int) := by omega
      go_wp2_with fail
      go_quiet (fail)
      go_wp2
      go_roundw
      case rel => exact ⟨k + 1, by omega, by go_num, below_drewN HB.out _⟩
      case measure => simp [intOf]; omega
    · go_wp2
      go_ret
      exact ⟨rfl, HB.out⟩

set_option maxRecDepth 100000 in
set_option maxHeartbeats 400000 in
theorem copyt_any (v : Value) (xs : List ByteArray) (w : World) (h : SlV w v (xs.map sv)) (hn : xs.length ≤ 2000000) : Calls Try.prog 12 #[v] w (TextsPost w xs) := by
  obtain ⟨A, c, rfl, hlc, hcm, hR⟩ := (h.below ((Below.refl w.heap.size w).alloc (Nat.le_refl _) (.cells #[] 9))).len
  rw [List.length_map] at hlc hR ⊢
  have hown : OwnV 9 (w.alloc (.cells #[] 9)) w.heap.size (.slice (some ⟨w.heap.size, 0, none⟩) 0 0) ([].map sv) := World.ownsRow_made w #[] 0 (Nat.le_refl _) (by unfold maxLen; omega) rfl
  obtain ⟨l, hl⟩ : ∃ l, xs.length = l := ⟨_, rfl⟩
  rw [hl] at hR hn ⊢
  have hsm : ([] : List ByteArray).length + l ≤ 2000000 := by simpa using hn
  have hz : w.heap.size ≤ (w.alloc (.cells #[] 9)).heap.size := by simp
  have HR := Lib.hid hR
  have HOWN := Lib.hid hown
  clear hR hown hl h hlc hcm
  go_enter Try.func12, Try.ntmps12
  go_wp2_with (at_builtin; refine append_texts rfl (.tmp 3) (.tmp 4) rfl _ w.heap.size (.slice (some ⟨w.heap.size, 0, none⟩) 0 0) [] rfl HOWN.out _ A l c xs rfl HR.out hsm hz ?_; intro v3 w3 ho3 hb3; have HO := Lib.hid ho3; have HB := Lib.hid hb3; clear ho3 hb3)
  go_ret
  refine ⟨v3, rfl, ?_, ((Below.refl _ _).alloc (Nat.le_refl _) _).trans HB.out⟩
  simpa using HO.out

end Go.Proofs.Yteffiedolcjjlaa.Tx
/- Texts sorted and merged: plain lists. -/
namespace Go.Proofs.Yteffiedolcjjlaa.Tx
open Go.Proofs.Yteffiedolcjjlaa.Sh

/-- Does s stand at t or ahead of it? -/
def tle (s t : ByteArray) : Bool := Op.bytesLess s.toList t.toList || s.toList == t.toList
theorem tle_refl (s : ByteArray) : tle s s = true := by unfold tle; simp
theorem tle_cases {s t : ByteArray} (h : tle s t = true) : bl s.toList t.toList = true ∨ s = t := by
  unfold tle at h
  rw [Bool.or_eq_true] at h
  rcases h with h | h
  · exact .inl h
  · exact .inr (ba_ext (by simpa using h))
theorem tle_of_lt {s t : ByteArray} (h : bl s.toList t.toList = true) : tle s t = true := by unfold tle; rw [show Op.bytesLess s.toList t.toList = true from h]; rfl
theorem tle_trans {s t u : ByteArray} (h1 : tle s t = true) (h2 : tle t u = true) : tle s u = true := by
  rcases tle_cases h1 with h1 | rfl
  · rcases tle_cases h2 with h2 | rfl
    · exact tle_of_lt (bl_trans _ _ _ h1 h2)
    · exact tle_of_lt h1
  · exact h2
theorem tle_antisymm {s t : ByteArray} (h1 : tle s t = true) (h2 : tle t s = true) : s = t := by
  rcases tle_cases h1 with h1 | h1
  · rcases tle_cases h2 with h2 | h2
    · have := bl_asymm _ _ h1
      rw [h2] at this
      cases this
    · exact h2.symm
  · exact h1
theorem tle_not {s t : ByteArray} (h : tle s t = false) : bl t.toList s.toList = true ∧ tle t s = true := by
  have : bl t.toList s.toList = true := by
    rcases bl_tri s.toList t.toList with h1 | h1 | h1
    · rw [tle_of_lt h1] at h; cases h
    · rw [ba_ext h1, tle_refl] at h; cases h
    · exact h1
  exact ⟨this, tle_of_lt this⟩
abbrev Sorted (l : List ByteArray) : Prop := l.Pairwise (fun a b => tle a b = true)

/-- Two rising lists of the same texts are one. -/
theorem sorted_perm (a : List ByteArray) : ∀ b : List ByteArray, Sorted a → Sorted b → a.Perm b → a = b := by
  induction a with
  | nil => intro b _ _ h; exact (List.nil_perm.1 h).symm
  | cons x a ih =>
    intro b ha hb h
    cases b with
    | nil => exact absurd (h.length_eq) (by simp)
    | cons y b =>
      obtain ⟨hxa, ha'⟩ := List.pairwise_cons.1 ha
      obtain ⟨hyb, hb'⟩ := List.pairwise_cons.1 hb
      have e : x = y := by
        have hx : x ∈ y :: b := h.mem_iff.1 (List.mem_cons_self)
        have hy : y ∈ x :: a := h.mem_iff.2 (List.mem_cons_self)
        rcases List.mem_cons.1 hx with e | hx
        · exact e
        · rcases List.mem_cons.1 hy with e | hy
          · exact e.symm
          · exact tle_antisymm (hxa y hy) (hyb x hx)
      subst e
      rw [ih b ha' hb' (List.Perm.cons_inv h)]

/-- A text put where it belongs: behind those that are not greater. -/
def insT (x : ByteArray) : List ByteArray → List ByteArray
  | [] => [x]
  | y :: l => if tle y x then y :: insT x l else x :: y :: l
def sortT (l : List ByteArray) : List ByteArray := l.foldl (fun acc x => insT x acc) []
theorem insT_perm (x : ByteArray) (l : List ByteArray) : (insT x l).Perm (x :: l) := by
  induction l with
  | nil => exact List.Perm.refl _
  | cons y l ih =>
    unfold insT
    by_cases h : tle y x = true
    · rw [if_pos h]; exact (List.Perm.cons y ih).trans (List.Perm.swap x y l)
    · rw [if_neg h]
theorem insT_sorted (x : ByteArray) (l : List ByteArray) (h : Sorted l) : Sorted (insT x l) := by
  induction l with
  | nil => exact List.pairwise_singleton _ _
  | cons y l ih =>
    obtain ⟨h1, h2⟩ := List.pairwise_cons.1 h
    unfold insT
    by_cases hy : tle y x = true
    · rw [if_pos hy]
      refine List.pairwise_cons.2 ⟨fun z hz => ?_, ih h2⟩
      rcases List.mem_cons.1 ((insT_perm x l).mem_iff.1 hz) with rfl | hz
      · exact hy
      · exact h1 z hz
    · rw [if_neg hy]
      have hxy : tle x y = true := (tle_not (by simpa using hy)).2
      refine List.pairwise_cons.2 ⟨fun z hz => ?_, h⟩
      rcases List.mem_cons.1 hz with rfl | hz
      · exact hxy
      · exact tle_trans hxy (h1 z hz)
theorem fold_perm (l : List ByteArray) : ∀ acc : List ByteArray, (l.foldl (fun acc x => insT x acc) acc).Perm (acc ++ l) ∧ (Sorted acc → Sorted (l.foldl (fun acc x => insT x acc) acc)) := by
  induction l with
  | nil => intro acc; exact ⟨by simp, fun h => h⟩
  | cons x l ih =>
    intro acc
    obtain ⟨h1, h2⟩ := ih (insT x acc)
    refine ⟨h1.trans ?_, fun h => h2 (insT_sorted x acc h)⟩
    exact ((insT_perm x acc).append_right l).trans (by simpa using (List.perm_middle (a := x) (l₁ := acc) (l₂ := l)).symm)
theorem sortT_perm (l : List ByteArray) : (sortT l).Perm l := (fold_perm l []).1
theorem sortT_sorted (l : List ByteArray) : Sorted (sortT l) := (fold_perm l []).2 List.Pairwise.nil
theorem sortT_eq {a l : List ByteArray} (h : Sorted a) (hp : a.Perm l) : a = sortT l := sorted_perm a _ h (sortT_sorted l) (hp.trans (sortT_perm l).symm)
theorem sortT_length (l : List ByteArray) : (sortT l).length = l.length := (sortT_perm l).length_eq

/-- Two rising lists merged. -/
def mergeL : List ByteArray → List ByteArray → List ByteArray
  | [], b => b
  | x :: a, [] => x :: a
  | x :: a, y :: b => if tle x y then x :: mergeL a (y :: b) else y :: mergeL (x :: a) b
termination_by a b => a.length + b.length
theorem mergeL_nil (a : List ByteArray) : mergeL a [] = a := by cases a <;> simp [mergeL]
theorem mergeL_left {x y : ByteArray} {a b : List ByteArray} (h : tle x y = true) : mergeL (x :: a) (y :: b) = x :: mergeL a (y :: b) := by rw [mergeL, if_pos h]
theorem mergeL_right {x y : ByteArray} {a b : List ByteArray} (h : tle x y = false) : mergeL (x :: a) (y :: b) = y :: mergeL (x :: a) b := by rw [mergeL, if_neg (by rw [h]; decide)]
theorem mergeL_perm (a : List ByteArray) : ∀ b : List ByteArray, (mergeL a b).Perm (a ++ b) := by
  induction a with
  | nil => intro b; simp [mergeL]
  | cons x a ih =>
    intro b
    induction b with
    | nil => rw [mergeL_nil]; simp
    | cons y b ihb =>
      cases h : tle x y with
      | true => rw [mergeL_left h]; exact List.Perm.cons x (ih (y :: b))
      | false =>
        rw [mergeL_right h]
        exact (List.Perm.cons y ihb).trans (List.perm_middle (a := y) (l₁ := x :: a) (l₂ := b)).symm
theorem mergeL_length (a b : List ByteArray) : (mergeL a b).length = a.length + b.length := by rw [(mergeL_perm a b).length_eq, List.length_append]
theorem mergeL_sorted (a : List ByteArray) : ∀ b : List ByteArray, Sorted a → Sorted b → Sorted (mergeL a b) := by
  induction a with
  | nil => intro b _ hb; simpa [mergeL] using hb
  | cons x a ih =>
    intro b ha hb
    induction b with
    | nil => rw [mergeL_nil]; exact ha
    | cons y b ihb =>
      obtain ⟨hxa, ha'⟩ := List.pairwise_cons.1 ha
      obtain ⟨hyb, hb'⟩ := List.pairwise_cons.1 hb
      cases h : tle x y with
      | true =>
        rw [mergeL_left h]
        refine List.pairwise_cons.2 ⟨fun z hz => ?_, ih (y :: b) ha' hb⟩
        rcases List.mem_append.1 ((mergeL_perm a (y :: b)).mem_iff.1 hz) with hz | hz
        · exact hxa z hz
        · rcases List.mem_cons.1 hz with rfl | hz
          · exact h
          · exact tle_trans h (hyb z hz)
      | false =>
        rw [mergeL_right h]
        have hyx := (tle_not h).2
        refine List.pairwise_cons.2 ⟨fun z hz => ?_, ihb hb'⟩
        rcases List.mem_append.1 ((mergeL_perm (x :: a) b).mem_iff.1 hz) with hz | hz
        · rcases List.mem_cons.1 hz with rfl | hz
          · exact hyx
          · exact tle_trans hyx (hxa z hz)
        · exact hyb z hz

/-- Runs of s merged by twos. -/
def passL (s : Nat) (xs : List ByteArray) : List ByteArray :=
  if _h : xs = [] ∨ s = 0 then xs else mergeL (xs.take s) ((xs.drop s).take s) ++ passL s (xs.drop (2 * s))
termination_by xs.length
decreasing_by
  have : 0 < xs.length := List.length_pos_iff.2 (fun e => _h (.inl e))
  rw [List.length_drop]
  have : s ≠ 0 := fun e => _h (.inr e)
  omega
theorem passL_nil (s : Nat) : passL s [] = [] := by rw [passL, dif_pos (.inl rfl)]
theorem passL_cons {s : Nat} {xs : List ByteArray} (hx : 0 < xs.length) (hs : 0 < s) : passL s xs = mergeL (xs.take s) ((xs.drop s).take s) ++ passL s (xs.drop (2 * s)) := by
  rw [passL, dif_neg (fun h => by
    rcases h with h | h
    · rw [h] at hx; cases hx
    · omega)]
theorem passL_ind {s : Nat} (hs : 0 < s) {P : List ByteArray → Prop} (h0 : P []) (h1 : ∀ xs, 0 < xs.length → P (xs.drop (2 * s)) → P xs) (xs : List ByteArray) : P xs := by
  obtain ⟨n, hn⟩ : ∃ n, xs.length = n := ⟨_, rfl⟩
  induction n using Nat.strongRecOn generalizing xs with
  | ind n ih =>
    by_cases hx : xs.length = 0
    · rw [List.eq_nil_of_length_eq_zero hx]; exact h0
    · exact h1 xs (by omega) (ih (xs.drop (2 * s)).length (by rw [List.length_drop]; omega) _ rfl)
theorem take2 (s : Nat) (xs : List ByteArray) : xs.take s ++ (xs.drop s).take s = xs.take (2 * s) := by rw [← List.take_add, Nat.two_mul]
theorem passL_perm {s : Nat} (hs : 0 < s) (xs : List ByteArray) : (passL s xs).Perm xs := by
  refine passL_ind hs (P := fun xs => (passL s xs).Perm xs) (by rw [passL_nil]) (fun xs hx ih => ?_) xs
  rw [passL_cons hx hs]
  have := (mergeL_perm (xs.take s) ((xs.drop s).take s)).append ih
  rw [take2, List.take_append_drop] at this
  exact this
/-- Each run of s rises. -/
def Runs (s : Nat) (xs : List ByteArray) : Prop := ∀ i, Sorted ((xs.drop (i * s)).take s)
theorem runs_one (xs : List ByteArray) : Runs 1 xs := by
  intro i
  cases h : xs.drop (i * 1) with
  | nil => simp
  | cons x r => simp
theorem runs_all {s : Nat} {xs : List ByteArray} (h : Runs s xs) (hs : xs.length ≤ s) : Sorted xs := by
  have := h 0
  rwa [Nat.zero_mul, List.drop_zero, List.take_of_length_le hs] at this
theorem runs_pass {s : Nat} (hs : 0 < s) (xs : List ByteArray) : Runs s xs → Runs (2 * s) (passL s xs) := by
  refine passL_ind hs (P := fun xs => Runs s xs → Runs (2 * s) (passL s xs)) (fun _ i => by rw [passL_nil]; simp) (fun xs hx ih hr => ?_) xs
  have hl : (mergeL (xs.take s) ((xs.drop s).take s)).length = min (2 * s) xs.length := by
    rw [mergeL_length, List.length_take, List.length_take, List.length_drop]; omega
  have hm : Sorted (mergeL (xs.take s) ((xs.drop s).take s)) := by
    refine mergeL_sorted _ _ ?_ ?_
    · have := hr 0; rwa [Nat.zero_mul, List.drop_zero] at this
    · have := hr 1; rwa [Nat.one_mul] at this
  have hd : Runs s (xs.drop (2 * s)) := fun i => by
    have := hr (i + 2)
    rw [List.drop_drop]
    rwa [show (i + 2) * s = 2 * s + i * s by rw [Nat.add_mul, Nat.add_comm]] at this
  have ih' := ih hd
  rw [passL_cons hx hs]
  intro i
  by_cases hlen : 2 * s ≤ xs.length
  · cases i with
    | zero =>
      rw [Nat.zero_mul, List.drop_zero, List.take_append_of_le_length (by omega), List.take_of_length_le (by omega)]
      exact hm
    | succ i =>
      have e : (i + 1) * (2 * s) = (mergeL (xs.take s) ((xs.drop s).take s)).length + i * (2 * s) := by rw [hl, Nat.add_mul]; omega
      rw [e, ← List.drop_drop, List.drop_left]
      exact ih' i
  · have hn : xs.drop (2 * s) = [] := List.drop_of_length_le (by omega)
    rw [hn, passL_nil, List.append_nil]
    cases i with
    | zero => rw [Nat.zero_mul, List.drop_zero, List.take_of_length_le (by omega)]; exact hm
    | succ i => rw [List.drop_of_length_le (by rw [hl, Nat.add_mul]; omega)]; simp
end Go.Proofs.Yteffiedolcjjlaa.Tx
/- Each text once: plain lists. -/
namespace Go.Proofs.Yteffiedolcjjlaa.Tx
open Go.Proofs.Yteffiedolcjjlaa.Sh

/-- Rising, each once. -/
abbrev Strict (l : List ByteArray) : Prop := l.Pairwise (fun a b => bl a.toList b.toList = true)
theorem strict_ext (a : List ByteArray) : ∀ b : List ByteArray, Strict a → Strict b → (∀ x, x ∈ a ↔ x ∈ b) → a = b := by
  induction a with
  | nil =>
    intro b _ _ h
    cases b with
    | nil => rfl
    | cons y b => exact absurd ((h y).2 List.mem_cons_self) (by simp)
  | cons x a ih =>
    intro b ha hb h
    cases b with
    | nil => exact absurd ((h x).1 List.mem_cons_self) (by simp)
    | cons y b =>
      obtain ⟨hxa, ha'⟩ := List.pairwise_cons.1 ha
      obtain ⟨hyb, hb'⟩ := List.pairwise_cons.1 hb
      have e : x = y := by
        rcases List.mem_cons.1 ((h x).1 List.mem_cons_self) with e | hx
        · exact e
        · rcases List.mem_cons.1 ((h y).2 List.mem_cons_self) with e | hy
          · exact e.symm
          · have h1 := hxa y hy
            have h2 := bl_asymm _ _ (hyb x hx)
            rw [h1] at h2; cases h2
      subst e
      have hno1 : x ∉ a := fun hm => by have := hxa x hm; rw [bl_irr] at this; cases this
      have hno2 : x ∉ b := fun hm => by have := hyb x hm; rw [bl_irr] at this; cases this
      rw [ih b ha' hb' (fun z => ⟨fun hz => by
        rcases List.mem_cons.1 ((h z).1 (List.mem_cons_of_mem _ hz)) with e | hz'
        · subst e; exact absurd hz hno1
        · exact hz', fun hz => by
        rcases List.mem_cons.1 ((h z).2 (List.mem_cons_of_mem _ hz)) with e | hz'
        · subst e; exact absurd hz hno2
        · exact hz'⟩)]
/-- The first k of a rising list, each once. -/
def ddN (ts : List ByteArray) : Nat → List ByteArray
  | 0 => []
  | k + 1 => if k = 0 ∨ (ts[k]?.map (·.toList) == ts[k - 1]?.map (·.toList)) = false then ddN ts k ++ (ts[k]?.toList) else ddN ts k
def uniqT (xs : List ByteArray) : List ByteArray := ddN (sortT xs) (sortT xs).length
theorem ddN_first (ts : List ByteArray) (h : 0 < ts.length) : ddN ts 1 = ddN ts 0 ++ [ts[0]] := by
  show (if 0 = 0 ∨ _ then _ else _) = _
  rw [if_pos (.inl rfl), List.getElem?_eq_getElem h]; rfl
theorem ddN_skip (ts : List ByteArray) (j : Nat) (h : j + 1 < ts.length) (e : ts[j + 1] = ts[j]) : ddN ts (j + 1 + 1) = ddN ts (j + 1) := by
  rw [ddN, if_neg]
  rintro (h1 | h1)
  · omega
  · rw [Nat.add_sub_cancel, List.getElem?_eq_getElem h, List.getElem?_eq_getElem (by omega), e] at h1
    simp at h1
theorem ddN_more (ts : List ByteArray) (j : Nat) (h : j + 1 < ts.length) (e : ts[j + 1] ≠ ts[j]) : ddN ts (j + 1 + 1) = ddN ts (j + 1) ++ [ts[j + 1]] := by
  rw [ddN, if_pos, List.getElem?_eq_getElem h]
  · rfl
  · right
    rw [Nat.add_sub_cancel, List.getElem?_eq_getElem h, List.getElem?_eq_getElem (by omega), beq_eq_false_iff_ne]
    intro h1
    exact e (ba_ext (by simpa using h1))
theorem ddN_len (ts : List ByteArray) (k : Nat) : (ddN ts k).length ≤ k := by
  induction k with
  | zero => simp [ddN]
  | succ k ih =>
    rw [ddN]
    split
    · rw [List.length_append]
      have : (ts[k]?.toList).length ≤ 1 := by cases ts[k]? <;> simp
      omega
    · omega
/-- It rises, its last text is the k-th, and it has just the first k. -/
theorem ddN_spec {ts : List ByteArray} (hs : Sorted ts) : ∀ k, k ≤ ts.length → Strict (ddN ts k) ∧ (∀ x, x ∈ ddN ts k ↔ x ∈ ts.take k) := by
  intro k
  induction k with
  | zero => intro _; exact ⟨List.Pairwise.nil, by simp [ddN]⟩
  | succ k ih =>
    intro hk
    obtain ⟨h1, h2⟩ := ih (by omega)
    have htk : ts.take (k + 1) = ts.take k ++ [ts[k]] := List.take_succ_eq_append_getElem (by omega)
    have hle : ∀ j (hj : j < k), tle (ts[j]'(by omega)) (ts[k]'(by omega)) = true := fun j hj => List.pairwise_iff_getElem.1 hs j k (by omega) (by omega) hj
    cases k with
    | zero =>
      rw [ddN_first ts (by omega), htk]
      exact ⟨by simp [ddN], by simp [ddN]⟩
    | succ j =>
      by_cases e : ts[j + 1] = ts[j]
      · rw [ddN_skip ts j (by omega) e]
        refine ⟨h1, fun x => ?_⟩
        rw [h2, htk, List.mem_append, List.mem_singleton]
        constructor
        · exact .inl
        · rintro (h | h)
          · exact h
          · rw [h, e, List.take_succ_eq_append_getElem (by omega)]
            exact List.mem_append_right _ (List.mem_singleton.2 rfl)
      · rw [ddN_more ts j (by omega) e]
        have hlast : bl ts[j].toList ts[j + 1].toList = true := by
          rcases tle_cases (hle j (by omega)) with h | h
          · exact h
          · exact absurd h.symm e
        refine ⟨List.pairwise_append.2 ⟨h1, List.pairwise_singleton _ _, fun y hy z hz => ?_⟩, fun x => ?_⟩
        · obtain rfl := List.mem_singleton.1 hz
          obtain ⟨i, hi, rfl⟩ := List.mem_iff_getElem.1 ((h2 y).1 hy)
          rw [List.length_take] at hi
          rw [List.getElem_take]
          rcases Nat.lt_or_ge i j with hij | hij
          · rcases tle_cases (List.pairwise_iff_getElem.1 hs i j (by omega) (by omega) hij) with h | h
            · exact bl_trans _ _ _ h hlast
            · rw [h]; exact hlast
          · obtain rfl : i = j := by omega
            exact hlast
        · rw [List.mem_append, h2, htk, List.mem_append]
theorem uniqT_spec (xs : List ByteArray) : Strict (uniqT xs) ∧ ∀ x, x ∈ uniqT xs ↔ x ∈ xs := by
  obtain ⟨h1, h2⟩ := ddN_spec (sortT_sorted xs) _ (Nat.le_refl _)
  refine ⟨h1, fun x => ?_⟩
  have := h2 x
  rw [List.take_length] at this
  exact this.trans (sortT_perm xs).mem_iff
theorem uniqT_eq {a xs : List ByteArray} (h : Strict a) (hm : ∀ x, x ∈ a ↔ x ∈ xs) : a = uniqT xs :=
  strict_ext a _ h (uniqT_spec xs).1 (fun x => (hm x).trans ((uniqT_spec xs).2 x).symm)
theorem uniqT_len (xs : List ByteArray) : (uniqT xs).length ≤ xs.length := by
  have := ddN_len (sortT xs) (sortT xs).length
  rw [sortT_length] at this
  unfold uniqT
  rw [sortT_length]
  exact this
end Go.Proofs.Yteffiedolcjjlaa.Tx
