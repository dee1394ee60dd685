/- Texts put together: UTs0, UTs2, UTs3. -/
import Derived.Test.YtbenkmihkbjgeaaGreatQu03
import Derived.Test.YtbenkmihkbjgeaaGreatQu06
import Derived.Laws.BytesString
import Derived.Test.YtbenkmihkbjgeaaGreatQu01
import Derived.WalkLawsBesides
import Derived.IntWalk
/- Texts sorted and merged: plain lists. -/
namespace Go.Proofs.YtbenkmihkbjgeaaGreat.Tx
open Go.Proofs.YtbenkmihkbjgeaaGreat.Sh
def tle (s t : ByteArray) : Bool := Op.bytesLess s.toList t.toList || s.toList == t.toList
theorem tle_refl (s : ByteArray) : tle s s = true := by unfold tle; simp
theorem tle_cases {s t : ByteArray} (h : tle s t = true) : bl s.toList t.toList = true ∨ s = t := by
 unfold tle at h
 rw [Bool.or_eq_true] at h
 rcases h with h | h
 ·exact .inl h
 ·exact .inr (ba_ext (by simpa using h))
theorem tle_of_lt {s t : ByteArray} (h : bl s.toList t.toList = true) : tle s t = true := by unfold tle; rw [show Op.bytesLess s.toList t.toList = true from h]; rfl
theorem tle_trans {s t u : ByteArray} (h1 : tle s t = true) (h2 : tle t u = true) : tle s u = true := by
 rcases tle_cases h1 with h1 | rfl
 ·rcases tle_cases h2 with h2 | rfl
  ·exact tle_of_lt (bl_trans _ _ _ h1 h2)
  ·exact tle_of_lt h1
 ·exact h2
theorem tle_antisymm {s t : ByteArray} (h1 : tle s t = true) (h2 : tle t s = true) : s = t := by
 rcases tle_cases h1 with h1 | h1
 ·rcases tle_cases h2 with h2 | h2
  ·have := bl_asymm _ _ h1
   rw [h2] at this
   cases this
  ·exact h2.symm
 ·exact h1
theorem tle_not {s t : ByteArray} (h : tle s t = false) : bl t.toList s.toList = true ∧ tle t s = true := by
 have : bl t.toList s.toList = true := by
  rcases bl_tri s.toList t.toList with h1 | h1 | h1
  ·rw [tle_of_lt h1] at h; cases h
  ·rw [ba_ext h1, tle_refl] at h; cases h
  ·exact h1
 exact ⟨this, tle_of_lt this⟩
abbrev Sorted (l : List ByteArray) : Prop := l.Pairwise (fun a b => tle a b = true)
theorem sorted_perm (a : List ByteArray) : ∀ b : List ByteArray, Sorted a → Sorted b → a.Perm b → a = b := by
 induction a with
 | nil => intro b _ _ h; exact (List.nil_perm.1 h).symm
 | cons x a ih =>
  intro b ha hb h
  cases b with
  | nil => exact absurd (h.length_eq) (by simp)
  | cons y b =>
   obtain ⟨hxa, ha'⟩ := List.pairwise_cons.1 ha
   obtain ⟨hyb, hb'⟩ := List.pairwise_cons.1 hb
   have e : x = y := by
    have hx : x ∈ y :: b := h.mem_iff.1 (List.mem_cons_self)
    have hy : y ∈ x :: a := h.mem_iff.2 (List.mem_cons_self)
    rcases List.mem_cons.1 hx with e | hx
    ·exact e
    ·rcases List.mem_cons.1 hy with e | hy
     ·exact e.symm
     ·exact tle_antisymm (hxa y hy) (hyb x hx)
   subst e
   rw [ih b ha' hb' (List.Perm.cons_inv h)]
def insT (x : ByteArray) : List ByteArray → List ByteArray
 | [] => [x]
 | y :: l => if tle y x then y :: insT x l else x :: y :: l
def sortT (l : List ByteArray) : List ByteArray := l.foldl (fun acc x => insT x acc) []
theorem insT_perm (x : ByteArray) (l : List ByteArray) : (insT x l).Perm (x :: l) := by
 induction l with
 | nil => exact List.Perm.refl _
 | cons y l ih =>
  unfold insT
  by_cases h : tle y x = true
  ·rw [if_pos h]; exact (List.Perm.cons y ih).trans (List.Perm.swap x y l)
  ·rw [if_neg h]
theorem insT_sorted (x : ByteArray) (l : List ByteArray) (h : Sorted l) : Sorted (insT x l) := by
 induction l with
 | nil => exact List.pairwise_singleton _ _
 | cons y l ih =>
  obtain ⟨h1, h2⟩ := List.pairwise_cons.1 h
  unfold insT
  by_cases hy : tle y x = true
  ·rw [if_pos hy]
   refine List.pairwise_cons.2 ⟨fun z hz => ?_, ih h2⟩
   rcases List.mem_cons.1 ((insT_perm x l).mem_iff.1 hz) with rfl | hz
   ·exact hy
   ·exact h1 z hz
  ·rw [if_neg hy]
   have hxy : tle x y = true := (tle_not (by simpa using hy)).2
   refine List.pairwise_cons.2 ⟨fun z hz => ?_, h⟩
   rcases List.mem_cons.1 hz with rfl | hz
   ·exact hxy
   ·exact tle_trans hxy (h1 z hz)
theorem fold_perm (l : List ByteArray) : ∀ acc : List ByteArray, (l.foldl (fun acc x => insT x acc) acc).Perm (acc ++ l) ∧ (Sorted acc → Sorted (l.foldl (fun acc x => insT x acc) acc)) := by
 induction l with
 | nil => intro acc; exact ⟨by simp, fun h => h⟩
 | cons x l ih =>
  intro acc
  obtain ⟨h1, h2⟩ := ih (insT x acc)
  refine ⟨h1.trans ?_, fun h => h2 (insT_sorted x acc h)⟩
  exact ((insT_perm x acc).append_right l).trans (by simpa using (List.perm_middle (a := x) (l₁ := acc) (l₂ := l)).symm)
theorem sortT_perm (l : List ByteArray) : (sortT l).Perm l := (fold_perm l []).1
theorem sortT_sorted (l : List ByteArray) : Sorted (sortT l) := (fold_perm l []).2 List.Pairwise.nil
theorem sortT_eq {a l : List ByteArray} (h : Sorted a) (hp : a.Perm l) : a = sortT l := sorted_perm a _ h (sortT_sorted l) (hp.trans (sortT_perm l).symm)
theorem sortT_length (l : List ByteArray) : (sortT l).length = l.length := (sortT_perm l).length_eq
def mergeL : List ByteArray → List ByteArray → List ByteArray
 | [], b => b
 | x :: a, [] => x :: a
 | x :: a, y :: b => if tle x y then x :: mergeL a (y :: b) else y :: mergeL (x :: a) b
termination_by a b => a.length + b.length
theorem mergeL_nil (a : List ByteArray) : mergeL a [] = a := by cases a <;> simp [mergeL]
theorem mergeL_left {x y : ByteArray} {a b : List ByteArray} (h : tle x y = true) : mergeL (x :: a) (y :: b) = x :: mergeL a (y :: b) := by rw [mergeL, if_pos h]
theorem mergeL_right {x y : ByteArray} {a b : List ByteArray} (h : tle x y = false) : mergeL (x :: a) (y :: b) = y :: mergeL (x :: a) b := by rw [mergeL, if_neg (by rw [h]; decide)]
theorem mergeL_perm (a : List ByteArray) : ∀ b : List ByteArray, (mergeL a b).Perm (a ++ b) := by
 induction a with
 | nil => intro b; simp [mergeL]
 | cons x a ih =>
  intro b
  induction b with
  | nil => rw [mergeL_nil]; simp
  | cons y b ihb =>
   cases h : tle x y with
   | true => rw [mergeL_left h]; exact List.Perm.cons x (ih (y :: b))
   | false =>
    rw [mergeL_right h]
    exact (List.Perm.cons y ihb).trans (List.perm_middle (a := y) (l₁ := x :: a) (l₂ := b)).symm
theorem mergeL_length (a b : List ByteArray) : (mergeL a b).length = a.length + b.length := by rw [(mergeL_perm a b).length_eq, List.length_append]
theorem mergeL_sorted (a : List ByteArray) : ∀ b : List ByteArray, Sorted a → Sorted b → Sorted (mergeL a b) := by
 induction a with
 | nil => intro b _ hb; simpa [mergeL] using hb
 | cons x a ih =>
  intro b ha hb
  induction b with
  | nil => rw [mergeL_nil]; exact ha
  | cons y b ihb =>
   obtain ⟨hxa, ha'⟩ := List.pairwise_cons.1 ha
   obtain ⟨hyb, hb'⟩ := List.pairwise_cons.1 hb
   cases h : tle x y with
   | true =>
    rw [mergeL_left h]
    refine List.pairwise_cons.2 ⟨fun z hz => ?_, ih (y :: b) ha' hb⟩
    rcases List.mem_append.1 ((mergeL_perm a (y :: b)).mem_iff.1 hz) with hz | hz
    ·exact hxa z hz
    ·rcases List.mem_cons.1 hz with rfl | hz
     ·exact h
     ·exact tle_trans h (hyb z hz)
   | false =>
    rw [mergeL_right h]
    have hyx := (tle_not h).2
    refine List.pairwise_cons.2 ⟨fun z hz => ?_, ihb hb'⟩
    rcases List.mem_append.1 ((mergeL_perm (x :: a) b).mem_iff.1 hz) with hz | hz
    ·rcases List.mem_cons.1 hz with rfl | hz
     ·exact hyx
     ·exact tle_trans hyx (hxa z hz)
    ·exact hyb z hz
def passL (s : Nat) (xs : List ByteArray) : List ByteArray :=
 if _h : xs = [] ∨ s = 0 then xs else mergeL (xs.take s) ((xs.drop s).take s) ++ passL s (xs.drop (2 * s))
termination_by xs.length
decreasing_by
 have : 0 < xs.length := List.length_pos_iff.2 (fun e => _h (.inl e))
 rw [List.length_drop]
 have : s ≠ 0 := fun e => _h (.inr e)
 omega
theorem passL_nil (s : Nat) : passL s [] = [] := by rw [passL, dif_pos (.inl rfl)]
theorem passL_cons {s : Nat} {xs : List ByteArray} (hx : 0 < xs.length) (hs : 0 < s) : passL s xs = mergeL (xs.take s) ((xs.drop s).take s) ++ passL s (xs.drop (2 * s)) := by
 rw [passL, dif_neg (fun h => by
  rcases h with h | h
  ·rw [h] at hx; cases hx
  ·omega)]
theorem passL_ind {s : Nat} (hs : 0 < s) {P : List ByteArray → Prop} (h0 : P []) (h1 : ∀ xs, 0 < xs.length → P (xs.drop (2 * s)) → P xs) (xs : List ByteArray) : P xs := by
 obtain ⟨n, hn⟩ : ∃ n, xs.length = n := ⟨_, rfl⟩
 induction n using Nat.strongRecOn generalizing xs with
 | ind n ih =>
  by_cases hx : xs.length = 0
  ·rw [List.eq_nil_of_length_eq_zero hx]; exact h0
  ·exact h1 xs (by omega) (ih (xs.drop (2 * s)).length (by rw [List.length_drop]; omega) _ rfl)
theorem take2 (s : Nat) (xs : List ByteArray) : xs.take s ++ (xs.drop s).take s = xs.take (2 * s) := by rw [← List.take_add, Nat.two_mul]
theorem passL_perm {s : Nat} (hs : 0 < s) (xs : List ByteArray) : (passL s xs).Perm xs := by
 refine passL_ind hs (P := fun xs => (passL s xs).Perm xs) (by rw [passL_nil]) (fun xs hx ih => ?_) xs
 rw [passL_cons hx hs]
 have := (mergeL_perm (xs.take s) ((xs.drop s).take s)).append ih
 rw [take2, List.take_append_drop] at this
 exact this
def Runs (s : Nat) (xs : List ByteArray) : Prop := ∀ i, Sorted ((xs.drop (i * s)).take s)
theorem runs_one (xs : List ByteArray) : Runs 1 xs := by
 intro i
 cases h : xs.drop (i * 1) with
 | nil => simp
 | cons x r => simp
theorem runs_all {s : Nat} {xs : List ByteArray} (h : Runs s xs) (hs : xs.length ≤ s) : Sorted xs := by
 have := h 0
 rwa [Nat.zero_mul, List.drop_zero, List.take_of_length_le hs] at this
theorem runs_pass {s : Nat} (hs : 0 < s) (xs : List ByteArray) : Runs s xs → Runs (2 * s) (passL s xs) := by
 refine passL_ind hs (P := fun xs => Runs s xs → Runs (2 * s) (passL s xs)) (fun _ i => by rw [passL_nil]; simp) (fun xs hx ih hr => ?_) xs
 have hl : (mergeL (xs.take s) ((xs.drop s).take s)).length = min (2 * s) xs.length := by
  rw [mergeL_length, List.length_take, List.length_take, List.length_drop]; omega
 have hm : Sorted (mergeL (xs.take s) ((xs.drop s).take s)) := by
  refine mergeL_sorted _ _ ?_ ?_
  ·have := hr 0; rwa [Nat.zero_mul, List.drop_zero] at this
  ·have := hr 1; rwa [Nat.one_mul] at this
 have hd : Runs s (xs.drop (2 * s)) := fun i => by
  have := hr (i + 2)
  rw [List.drop_drop]
  rwa [show (i + 2) * s = 2 * s + i * s by rw [Nat.add_mul, Nat.add_comm]] at this
 have ih' := ih hd
 rw [passL_cons hx hs]
 intro i
 by_cases hlen : 2 * s ≤ xs.length
 ·cases i with
  | zero =>
   rw [Nat.zero_mul, List.drop_zero, List.take_append_of_le_length (by omega), List.take_of_length_le (by omega)]
   exact hm
  | succ i =>
   have e : (i + 1) * (2 * s) = (mergeL (xs.take s) ((xs.drop s).take s)).length + i * (2 * s) := by rw [hl, Nat.add_mul]; omega
   rw [e, ← List.drop_drop, List.drop_left]
   exact ih' i
 ·have hn : xs.drop (2 * s) = [] := List.drop_of_length_le (by omega)
  rw [hn, passL_nil, List.append_nil]
  cases i with
  | zero => rw [Nat.zero_mul, List.drop_zero, List.take_of_length_le (by omega)]; exact hm
  | succ i => rw [List.drop_of_length_le (by rw [hl, Nat.add_mul]; omega)]; simp
end Go.Proofs.YtbenkmihkbjgeaaGreat.Tx
/- mergeRuns: what it is told of memory. -/
namespace Go.Proofs.YtbenkmihkbjgeaaGreat.Tx
open Go.RowKit Go.Proofs.YtbenkmihkbjgeaaGreat.Sh
def BlkL (w : World) (g : Nat) (L : List Value) : Prop := Blk w g 9 L.toArray
section
variable {w w' : World} {g : Nat} {L : List Value}
theorem BlkL.cell (h : BlkL w g L) (i : Nat) (u : Value) (hu : L[i]? = some u) : w.cell? ⟨g, i, none⟩ = some u := by
 have := Blk.cell h i
 rw [this, List.getElem?_toArray, hu]
theorem BlkL.frozen (h : BlkL w g L) (i : Nat) : w.frozen? ⟨g, i, none⟩ = false := Blk.frozen h i
theorem BlkL.set (h : BlkL w g L) (i : Nat) (u : Value) : BlkL (w.setCell ⟨g, i, none⟩ u) g (L.set i u) := by
 have := Blk.set_ h i u
 unfold BlkL
 rw [← List.setIfInBounds_toArray]
 exact this
theorem BlkL.far (h : BlkL w g L) {p : Addr} (hp : g ≠ p.block) (u : Value) : BlkL (w.setCell p u) g L := Blk.far h hp u
theorem BlkL.drew (h : BlkL w g L) : BlkL w.drew g L := h
theorem BlkL.drewN (h : BlkL w g L) (n : Nat) : BlkL (w.drewN n) g L := h
theorem BlkL.lt (h : BlkL w g L) : g < w.heap.size := Blk.lt h
end
def At (F : List Value) (o : Nat) (xs : List ByteArray) : Prop := ∀ j s, xs[j]? = some s → F[o + j]? = some (sv s)
theorem At.head {F : List Value} {o : Nat} {x : ByteArray} {xs : List ByteArray} (h : At F o (x :: xs)) : F[o]? = some (sv x) := h 0 x rfl
theorem At.tail {F : List Value} {o : Nat} {x : ByteArray} {xs : List ByteArray} (h : At F o (x :: xs)) : At F (o + 1) xs := fun j s hs => by
 have := h (j + 1) s hs
 rwa [show o + (j + 1) = o + 1 + j by omega] at this
theorem set_mid (P S : List Value) (done : List ByteArray) (old : List Value) (k : Nat) (x : ByteArray) (hd : done.length = k) (hk : k < old.length) :
  (P ++ (done.map sv ++ old.drop k) ++ S).set (P.length + k) (sv x) = P ++ ((done ++ [x]).map sv ++ old.drop (k + 1)) ++ S := by
 rw [List.append_assoc, List.set_append_right _ _ (by omega), Nat.add_sub_cancel_left, List.append_assoc, List.set_append_right _ _ (by rw [List.length_map]; omega), List.length_map, hd, Nat.sub_self, List.drop_eq_getElem_cons hk, List.cons_append, List.set_cons_zero, List.map_append]
 simp
theorem get_mid (P S : List Value) (done : List ByteArray) (old : List Value) (k : Nat) (hd : done.length = k) (hk : k < old.length) : (P ++ (done.map sv ++ old.drop k) ++ S)[P.length + k]? = some old[k] := by
 rw [List.append_assoc, List.getElem?_append_right (by omega), Nat.add_sub_cancel_left, List.append_assoc, List.getElem?_append_right (by rw [List.length_map]; omega), List.length_map, hd, Nat.sub_self, List.drop_eq_getElem_cons hk]
 rfl
def MR (w : World) (gt gf n : Nat) (P old S F : List Value) (m0 : List ByteArray) (va vb i : Value) (wr : World) : Prop :=
 ∃ (k : Nat) (xa xb done : List ByteArray) (pa pb : Addr) (oa ob ca cb : Nat), k ≤ n ∧ i = .int .i64 k ∧ va = .slice (some pa) xa.length ca ∧ vb = .slice (some pb) xb.length cb ∧ xa.length ≤ ca ∧ ca ≤ maxLen ∧ xb.length ≤ cb ∧ cb ≤ maxLen ∧
  (0 < xa.length → pa = ⟨gf, oa, none⟩) ∧ (0 < xb.length → pb = ⟨gf, ob, none⟩) ∧ At F oa xa ∧ At F ob xb ∧ done.length = k ∧ k + xa.length + xb.length = n ∧ done ++ mergeL xa xb = m0 ∧
  BlkL wr gf F ∧ BlkL wr gt (P ++ (done.map sv ++ old.drop k) ++ S) ∧ w.grownBy wr (some gt)
theorem MR.left {w wr wr' : World} {gt gf n k oa ob ca ca' cb : Nat} {P old S F : List Value} {m0 xa xb done : List ByteArray} {x : ByteArray} {pa' pb : Addr} (hk : k < n) (h1 : xa.length + 1 ≤ ca) (hca : ca ≤ maxLen) (h2 : xb.length ≤ cb) (hcb : cb ≤ maxLen)
  (hpa : 0 < xa.length → pa' = ⟨gf, oa + 1, none⟩) (hca' : ca' = ca - 1) (hpb : 0 < xb.length → pb = ⟨gf, ob, none⟩) (hA : At F oa (x :: xa)) (hB : At F ob xb) (hd : done.length = k) (hn : k + (xa.length + 1) + xb.length = n) (hm : done ++ mergeL (x :: xa) xb = m0) (hmx : mergeL (x :: xa) xb = x :: mergeL xa xb)
  (hF : BlkL wr' gf F) (hT : BlkL wr gt (P ++ (done.map sv ++ old.drop k) ++ S)) (ho : old.length = n) (hT' : ∀ L, BlkL wr gt L → BlkL wr' gt (L.set (P.length + k) (sv x))) (hg : w.grownBy wr' (some gt)) :
  MR w gt gf n P old S F m0 (.slice (some pa') xa.length ca') (.slice (some pb) xb.length cb) (.int .i64 ((k + 1 : Nat) : Int)) wr' := by
 refine ⟨k + 1, xa, xb, done ++ [x], pa', pb, oa + 1, ob, ca', cb, by omega, rfl, rfl, rfl, by omega, by omega, h2, hcb, hpa, hpb, hA.tail, hB, by simp [hd], by omega, ?_, hF, ?_, hg⟩
 ·rw [← hm, hmx, List.append_assoc]; rfl
 ·rw [← set_mid P S done old k x hd (by omega)]
  exact hT' _ hT
theorem MR.right {w wr wr' : World} {gt gf n k oa ob ca cb cb' : Nat} {P old S F : List Value} {m0 xa xb done : List ByteArray} {x : ByteArray} {pa pb' : Addr} (hk : k < n) (h1 : xa.length ≤ ca) (hca : ca ≤ maxLen) (h2 : xb.length + 1 ≤ cb) (hcb : cb ≤ maxLen)
  (hpa : 0 < xa.length → pa = ⟨gf, oa, none⟩) (hcb' : cb' = cb - 1) (hpb : 0 < xb.length → pb' = ⟨gf, ob + 1, none⟩) (hA : At F oa xa) (hB : At F ob (x :: xb)) (hd : done.length = k) (hn : k + xa.length + (xb.length + 1) = n) (hm : done ++ mergeL xa (x :: xb) = m0) (hmx : mergeL xa (x :: xb) = x :: mergeL xa xb)
  (hF : BlkL wr' gf F) (hT : BlkL wr gt (P ++ (done.map sv ++ old.drop k) ++ S)) (ho : old.length = n) (hT' : ∀ L, BlkL wr gt L → BlkL wr' gt (L.set (P.length + k) (sv x))) (hg : w.grownBy wr' (some gt)) :
  MR w gt gf n P old S F m0 (.slice (some pa) xa.length ca) (.slice (some pb') xb.length cb') (.int .i64 ((k + 1 : Nat) : Int)) wr' := by
 refine ⟨k + 1, xa, xb, done ++ [x], pa, pb', oa, ob + 1, ca, cb', by omega, rfl, rfl, rfl, h1, hca, by omega, by omega, hpa, hpb, hA, hB.tail, by simp [hd], by omega, ?_, hF, ?_, hg⟩
 ·rw [← hm, hmx, List.append_assoc]; rfl
 ·rw [← set_mid P S done old k x hd (by omega)]
  exact hT' _ hT
end Go.Proofs.YtbenkmihkbjgeaaGreat.Tx
/- mergeRuns. -/
namespace Go.Proofs.YtbenkmihkbjgeaaGreat.Tx
open Go.RowKit Go.Proofs.YtbenkmihkbjgeaaGreat.Sh
set_option maxRecDepth 100000 in
set_option maxHeartbeats 3200000 in
theorem mruns_any (gt gf n ot oa ob ca cb ct : Nat) (pa pb : Addr) (P old S F : List Value) (xa xb : List ByteArray) (w : World) (hne : gt ≠ gf) (hot : P.length = ot) (ho : old.length = n) (hn : xa.length + xb.length = n) (hct : n ≤ ct) (hcm : ct ≤ maxLen)
  (h1 : xa.length ≤ ca) (h1m : ca ≤ maxLen) (h2 : xb.length ≤ cb) (h2m : cb ≤ maxLen) (hpa : 0 < xa.length → pa = ⟨gf, oa, none⟩) (hpb : 0 < xb.length → pb = ⟨gf, ob, none⟩) (hA : At F oa xa) (hB : At F ob xb) (hF : BlkL w gf F) (hT : BlkL w gt (P ++ old ++ S)) :
  Calls Tryz.prog 232 #[.slice (some ⟨gt, ot, none⟩) n ct, .slice (some pa) xa.length ca, .slice (some pb) xb.length cb] w fun e w' => e = .returned (.tuple #[]) ∧ BlkL w' gf F ∧ BlkL w' gt (P ++ (mergeL xa xb).map sv ++ S) ∧ w.grownBy w' (some gt) := by
 have hstart : MR w gt gf n P old S F (mergeL xa xb) (.slice (some pa) xa.length ca) (.slice (some pb) xb.length cb) (.int .i64 ((0 : Nat) : Int)) w :=
  ⟨0, xa, xb, [], pa, pb, oa, ob, ca, cb, Nat.zero_le _, rfl, rfl, rfl, h1, h1m, h2, h2m, hpa, hpb, hA, hB, rfl, by omega, rfl, hF, by simpa using hT, World.grownBy.refl w _⟩
 have HST := Lib.hid hstart
 obtain ⟨m0, hm0⟩ : ∃ m0, mergeL xa xb = m0 := ⟨_, rfl⟩
 rw [hm0] at HST ⊢
 have HOT := Lib.hid hot
 have HO := Lib.hid ho
 have HNE := Lib.hid hne
 unfold maxLen at hcm
 obtain ⟨na, hna⟩ : ∃ na, xa.length = na := ⟨_, rfl⟩
 obtain ⟨nb, hnb⟩ : ∃ nb, xb.length = nb := ⟨_, rfl⟩
 rw [hna, hnb] at HST ⊢
 clear hstart hm0 hot ho hne hn h1 h1m h2 h2m hpa hpb hA hB hF hT hna hnb
 go_enter Tryz.func232, Tryz.ntmps232
 go_wp2_with fail
 go_loopw [1, 2, 9] (fun va vb i wr => MR w gt gf n P old S F m0 va vb i wr) (fun _ _ i _ => n - (intOf i).toNat)
 case atStart => exact HST.out
 case round =>
  clear HST
  obtain ⟨k, xa, xb, done, pa, pb, oa, ob, ca, cb, hk, rfl, rfl, rfl, h1, h1m, h2, h2m, hpa, hpb, hA, hB, hd, hsum, hm, hF, hT, hg⟩ := hrel
  unfold maxLen at h1m h2m
  by_cases hlt : k < n
  ·have hgm := get_mid P S done old k hd (by rw [HO.out]; exact hlt)
   rw [HOT.out] at hgm
   have hcell := hT.cell (ot + k) _ hgm
   have hfro := hT.frozen (ot + k)
   generalize old[k]'(by rw [HO.out]; exact hlt) = u at *
   have k0 : (0 : Int) ≤ (k : Int) := by omega
   have k1 : (k : Int) < (n : Int) := by omega
   have hcases : (∃ x xa', xa = x :: xa' ∧ mergeL (x :: xa') xb = x :: mergeL xa' xb ∧ (xb = [] ∨ ∃ y xb', xb = y :: xb' ∧ tle x y = true)) ∨ (∃ y xb', xb = y :: xb' ∧ mergeL xa (y :: xb') = y :: mergeL xa xb' ∧ (xa = [] ∨ ∃ x xa', xa = x :: xa' ∧ tle x y = false)) := by
    cases xb with
    | nil =>
     cases xa with
     | nil => simp at hsum; omega
     | cons x xa => exact .inl ⟨x, xa, rfl, by rw [mergeL_nil, mergeL_nil], .inl rfl⟩
    | cons y xb =>
     cases xa with
     | nil => exact .inr ⟨y, xb, rfl, by simp [mergeL], .inl rfl⟩
     | cons x xa =>
      cases hxy : tle x y with
      | true => exact .inl ⟨x, xa, rfl, mergeL_left hxy, .inr ⟨y, xb, rfl, hxy⟩⟩
      | false => exact .inr ⟨y, xb, rfl, mergeL_right hxy, .inr ⟨x, xa, rfl, hxy⟩⟩
   have HG := Lib.hid hg
   have HF := Lib.hid hF
   have HT := Lib.hid hT
   have HD := Lib.hid hd
   have HM := Lib.hid hm
   have HA := Lib.hid hA
   have HB := Lib.hid hB
   have HSUM := Lib.hid hsum
   clear hg hT hd hm hgm hsum
   rcases hcases with ⟨x, xa', rfl, hmx, hb⟩ | ⟨y, xb', rfl, hmx, ha⟩
   ·obtain rfl := hpa (by simp)
    have hca := hF.cell oa _ hA.head
    unfold sv at hca
    have HMX := Lib.hid hmx
    have HPB := Lib.hid hpb
    clear hF hA hB hmx hpa
    obtain ⟨na, hna⟩ : ∃ na, xa'.length = na := ⟨_, rfl⟩
    have hxl : (x :: xa').length = na + 1 := by rw [List.length_cons, hna]
    rw [hxl] at h1 ⊢
    have HNA := Lib.hid hna
    clear hxl hna
    rcases hb with rfl | ⟨y, xb', rfl, hxy⟩
    ·rw [List.length_nil]
     clear h2
     go_wp2_with fail
     go_quiet (fail)
     by_cases hc1 : ca = 1
     ·go_wp2_with fail
      go_region
      all_goals
       go_wp2
       go_roundw
       case rel =>
        have hmr := MR.left (w := w) (wr := wr) (ca' := 0) (pa' := ⟨gf, oa, none⟩) (k := k) (old := old) (S := S) (m0 := m0) (xa := xa') (xb := []) (x := x) (pb := pb) hlt (by rw [HNA.out]; exact h1) (by unfold maxLen; omega) (show ([] : List ByteArray).length ≤ cb from Nat.zero_le _) (by unfold maxLen; omega) (fun h0 => by first | rfl | (rw [HNA.out] at h0; omega)) (by omega) (fun h0 => by simp at h0) HA.out HB.out HD.out (by have := HSUM.out; simpa using this) HM.out HMX.out ((HF.out.drewN (nq + 1)).far (Ne.symm HNE.out) _) HT.out HO.out (fun L hL => by rw [HOT.out]; exact (hL.drewN (nq + 1)).set (ot + k) (sv x)) (only_setCell (only_drewN HG.out (nq + 1)) (.inl rfl) (sv x))
        rw [HNA.out, List.length_nil] at hmr
        exact hmr
       case measure => simp [intOf]; omega
     ·go_wp2_with fail
      go_region
      all_goals
       go_wp2
       go_roundw
       case rel =>
        have hmr := MR.left (w := w) (wr := wr) (ca' := (ca - 1)) (pa' := ⟨gf, oa + 1, none⟩) (k := k) (old := old) (S := S) (m0 := m0) (xa := xa') (xb := []) (x := x) (pb := pb) hlt (by rw [HNA.out]; exact h1) (by unfold maxLen; omega) (show ([] : List ByteArray).length ≤ cb from Nat.zero_le _) (by unfold maxLen; omega) (fun h0 => by first | rfl | (rw [HNA.out] at h0; omega)) (by omega) (fun h0 => by simp at h0) HA.out HB.out HD.out (by have := HSUM.out; simpa using this) HM.out HMX.out ((HF.out.drewN (nq + 1)).far (Ne.symm HNE.out) _) HT.out HO.out (fun L hL => by rw [HOT.out]; exact (hL.drewN (nq + 1)).set (ot + k) (sv x)) (only_setCell (only_drewN HG.out (nq + 1)) (.inl rfl) (sv x))
        rw [HNA.out, List.length_nil] at hmr
        exact hmr
       case measure => simp [intOf]; omega
    ·obtain rfl := HPB.out (by simp)
     have hcb := HF.out.cell ob _ HB.out.head
     unfold sv at hcb
     unfold tle at hxy
     obtain ⟨nb, hnb⟩ : ∃ nb, xb'.length = nb := ⟨_, rfl⟩
     have hyl : (y :: xb').length = nb + 1 := by rw [List.length_cons, hnb]
     rw [hyl] at h2 ⊢
     have HYL := Lib.hid hyl
     clear hyl hnb
     go_wp2_with fail
     go_quiet (fail)
     by_cases hc1 : ca = 1
     ·go_wp2_with fail
      go_region
      all_goals
       go_wp2
       go_roundw
       case rel =>
        have hmr := MR.left (w := w) (wr := wr) (ca' := 0) (pa' := ⟨gf, oa, none⟩) (k := k) (old := old) (S := S) (m0 := m0) (xa := xa') (xb := (y :: xb')) (x := x) (pb := ⟨gf, ob, none⟩) hlt (by rw [HNA.out]; exact h1) (by unfold maxLen; omega) (show ((y :: xb') : List ByteArray).length ≤ cb from by rw [HYL.out]; exact h2) (by unfold maxLen; omega) (fun h0 => by first | rfl | (rw [HNA.out] at h0; omega)) (by omega) (fun _ => rfl) HA.out HB.out HD.out (by have := HSUM.out; simpa using this) HM.out HMX.out ((HF.out.drewN (nq + 1)).far (Ne.symm HNE.out) _) HT.out HO.out (fun L hL => by rw [HOT.out]; exact (hL.drewN (nq + 1)).set (ot + k) (sv x)) (only_setCell (only_drewN HG.out (nq + 1)) (.inl rfl) (sv x))
        rw [HNA.out, HYL.out] at hmr
        exact hmr
       case measure => simp [intOf]; omega
     ·go_wp2_with fail
      go_region
      all_goals
       go_wp2
       go_roundw
       case rel =>
        have hmr := MR.left (w := w) (wr := wr) (ca' := (ca - 1)) (pa' := ⟨gf, oa + 1, none⟩) (k := k) (old := old) (S := S) (m0 := m0) (xa := xa') (xb := (y :: xb')) (x := x) (pb := ⟨gf, ob, none⟩) hlt (by rw [HNA.out]; exact h1) (by unfold maxLen; omega) (show ((y :: xb') : List ByteArray).length ≤ cb from by rw [HYL.out]; exact h2) (by unfold maxLen; omega) (fun h0 => by first | rfl | (rw [HNA.out] at h0; omega)) (by omega) (fun _ => rfl) HA.out HB.out HD.out (by have := HSUM.out; simpa using this) HM.out HMX.out ((HF.out.drewN (nq + 1)).far (Ne.symm HNE.out) _) HT.out HO.out (fun L hL => by rw [HOT.out]; exact (hL.drewN (nq + 1)).set (ot + k) (sv x)) (only_setCell (only_drewN HG.out (nq + 1)) (.inl rfl) (sv x))
        rw [HNA.out, HYL.out] at hmr
        exact hmr
       case measure => simp [intOf]; omega
   ·obtain rfl := hpb (by simp)
    have hcb := hF.cell ob _ hB.head
    unfold sv at hcb
    have HMX := Lib.hid hmx
    have HPA := Lib.hid hpa
    clear hF hA hB hmx hpb
    obtain ⟨nb, hnb⟩ : ∃ nb, xb'.length = nb := ⟨_, rfl⟩
    have hyl : (y :: xb').length = nb + 1 := by rw [List.length_cons, hnb]
    rw [hyl] at h2 ⊢
    have HNB := Lib.hid hnb
    clear hyl hnb
    rcases ha with rfl | ⟨x, xa', rfl, hxy⟩
    ·rw [List.length_nil]
     clear h1
     go_wp2_with fail
     go_quiet (fail)
     by_cases hc1 : cb = 1
     ·go_wp2_with fail
      go_region
      all_goals
       go_wp2
       go_roundw
       case rel =>
        have hmr := MR.right (w := w) (wr := wr) (cb' := 0) (pb' := ⟨gf, ob, none⟩) (k := k) (old := old) (S := S) (m0 := m0) (xa := []) (xb := xb') (x := y) (pa := pa) hlt (show ([] : List ByteArray).length ≤ ca from Nat.zero_le _) (by unfold maxLen; omega) (by rw [HNB.out]; exact h2) (by unfold maxLen; omega) (fun h0 => by simp at h0) (by omega) (fun h0 => by first | rfl | (rw [HNB.out] at h0; omega)) HA.out HB.out HD.out (by have := HSUM.out; simpa using this) HM.out HMX.out ((HF.out.drewN (nq + 1)).far (Ne.symm HNE.out) _) HT.out HO.out (fun L hL => by rw [HOT.out]; exact (hL.drewN (nq + 1)).set (ot + k) (sv y)) (only_setCell (only_drewN HG.out (nq + 1)) (.inl rfl) (sv y))
        rw [HNB.out, List.length_nil] at hmr
        exact hmr
       case measure => simp [intOf]; omega
     ·go_wp2_with fail
      go_region
      all_goals
       go_wp2
       go_roundw
       case rel =>
        have hmr := MR.right (w := w) (wr := wr) (cb' := (cb - 1)) (pb' := ⟨gf, ob + 1, none⟩) (k := k) (old := old) (S := S) (m0 := m0) (xa := []) (xb := xb') (x := y) (pa := pa) hlt (show ([] : List ByteArray).length ≤ ca from Nat.zero_le _) (by unfold maxLen; omega) (by rw [HNB.out]; exact h2) (by unfold maxLen; omega) (fun h0 => by simp at h0) (by omega) (fun h0 => by first | rfl | (rw [HNB.out] at h0; omega)) HA.out HB.out HD.out (by have := HSUM.out; simpa using this) HM.out HMX.out ((HF.out.drewN (nq + 1)).far (Ne.symm HNE.out) _) HT.out HO.out (fun L hL => by rw [HOT.out]; exact (hL.drewN (nq + 1)).set (ot + k) (sv y)) (only_setCell (only_drewN HG.out (nq + 1)) (.inl rfl) (sv y))
        rw [HNB.out, List.length_nil] at hmr
        exact hmr
       case measure => simp [intOf]; omega
    ·obtain rfl := HPA.out (by simp)
     have hca := HF.out.cell oa _ HA.out.head
     unfold sv at hca
     unfold tle at hxy
     obtain ⟨na, hna⟩ : ∃ na, xa'.length = na := ⟨_, rfl⟩
     have hxl : (x :: xa').length = na + 1 := by rw [List.length_cons, hna]
     rw [hxl] at h1 ⊢
     have HXL := Lib.hid hxl
     clear hxl hna
     go_wp2_with fail
     go_quiet (fail)
     by_cases hc1 : cb = 1
     ·go_wp2_with fail
      go_region
      all_goals
       go_wp2
       go_roundw
       case rel =>
        have hmr := MR.right (w := w) (wr := wr) (cb' := 0) (pb' := ⟨gf, ob, none⟩) (k := k) (old := old) (S := S) (m0 := m0) (xa := (x :: xa')) (xb := xb') (x := y) (pa := ⟨gf, oa, none⟩) hlt (show ((x :: xa') : List ByteArray).length ≤ ca from by rw [HXL.out]; exact h1) (by unfold maxLen; omega) (by rw [HNB.out]; exact h2) (by unfold maxLen; omega) (fun _ => rfl) (by omega) (fun h0 => by first | rfl | (rw [HNB.out] at h0; omega)) HA.out HB.out HD.out (by have := HSUM.out; simpa using this) HM.out HMX.out ((HF.out.drewN (nq + 1)).far (Ne.symm HNE.out) _) HT.out HO.out (fun L hL => by rw [HOT.out]; exact (hL.drewN (nq + 1)).set (ot + k) (sv y)) (only_setCell (only_drewN HG.out (nq + 1)) (.inl rfl) (sv y))
        rw [HNB.out, HXL.out] at hmr
        exact hmr
       case measure => simp [intOf]; omega
     ·go_wp2_with fail
      go_region
      all_goals
       go_wp2
       go_roundw
       case rel =>
        have hmr := MR.right (w := w) (wr := wr) (cb' := (cb - 1)) (pb' := ⟨gf, ob + 1, none⟩) (k := k) (old := old) (S := S) (m0 := m0) (xa := (x :: xa')) (xb := xb') (x := y) (pa := ⟨gf, oa, none⟩) hlt (show ((x :: xa') : List ByteArray).length ≤ ca from by rw [HXL.out]; exact h1) (by unfold maxLen; omega) (by rw [HNB.out]; exact h2) (by unfold maxLen; omega) (fun _ => rfl) (by omega) (fun h0 => by first | rfl | (rw [HNB.out] at h0; omega)) HA.out HB.out HD.out (by have := HSUM.out; simpa using this) HM.out HMX.out ((HF.out.drewN (nq + 1)).far (Ne.symm HNE.out) _) HT.out HO.out (fun L hL => by rw [HOT.out]; exact (hL.drewN (nq + 1)).set (ot + k) (sv y)) (only_setCell (only_drewN HG.out (nq + 1)) (.inl rfl) (sv y))
        rw [HNB.out, HXL.out] at hmr
        exact hmr
       case measure => simp [intOf]; omega
  ·obtain rfl : k = n := by omega
   have hx0 : xa = [] := List.eq_nil_of_length_eq_zero (by omega)
   have hy0 : xb = [] := List.eq_nil_of_length_eq_zero (by omega)
   subst hx0 hy0
   have hm' : done = m0 := by rw [← hm]; simp [mergeL]
   have hTT : BlkL wr gt (P ++ m0.map sv ++ S) := by
    rw [← hm']
    rw [List.drop_of_length_le (by rw [HO.out]; exact Nat.le_refl _), List.append_nil] at hT
    exact hT
   have HTT := Lib.hid hTT
   have HF := Lib.hid hF
   have HG := Lib.hid hg
   clear hF hT hg hm hm' hTT hd hsum hA hB hpa hpb h1 h2
   go_wp2_with fail
   go_end0
   exact ⟨rfl, HF.out, HTT.out, HG.out⟩
end Go.Proofs.YtbenkmihkbjgeaaGreat.Tx
