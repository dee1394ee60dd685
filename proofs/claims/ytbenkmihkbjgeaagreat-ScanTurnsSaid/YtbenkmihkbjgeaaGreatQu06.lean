/- Texts put together: UFm3, UFm4, UFm5, UFx13, UFx14, UFm6, UFm7, UFm8, UGm0, UGt0, UTn3, UTq2, UNc1. -/
import Derived.Test.YtbenkmihkbjgeaaGreatQu05
import Derived.Maps.OwnSet
import Derived.Maps.OwnOps
import Derived.Maps.StringElems
import Derived.Sort.KeysCollected
import Derived.Test.YtbenkmihkbjgeaaGreatQu01
import Derived.Test.YtbenkmihkbjgeaaGreatQu03
/- A file system that falls, as plain data: its rows stand in order; what is in them. (No Go in it.) -/
namespace Go.Proofs.YtbenkmihkbjgeaaGreat.Tx
def Ord (R : List RowM) : Prop := R.Pairwise fun a b => bl a.path b.path = true
theorem mem_without {R : List RowM} {p : List UInt8} {r : RowM} : r ∈ withoutM R p ↔ r ∈ R ∧ r.path ≠ p := by
 unfold withoutM
 rw [List.mem_filter]
 simp
theorem without_ord {R : List RowM} (h : Ord R) (p : List UInt8) : Ord (withoutM R p) := List.Pairwise.filter _ h
theorem take_of {α : Type} {R A B : List α} (h : A ++ B = R) : R.take A.length = A ∧ R.drop A.length = B := by
 subst h
 exact ⟨List.take_left, List.drop_left⟩
theorem head_take (R : List RowM) (p : List UInt8) : R.take (headM R p) = R.takeWhile (fun r => bl r.path p) ∧ R.drop (headM R p) = R.dropWhile (fun r => bl r.path p) :=
 take_of (List.takeWhile_append_dropWhile (p := fun r : RowM => bl r.path p) (l := R))
theorem with_split (R : List RowM) (p : List UInt8) (f : FileM) : ∃ A B, withoutM R p = A ++ B ∧ withM R p f = A ++ ⟨p, f⟩ :: B ∧ A = (withoutM R p).takeWhile (fun r => bl r.path p) ∧ B = (withoutM R p).dropWhile (fun r => bl r.path p) := by
 refine ⟨_, _, (List.takeWhile_append_dropWhile (p := fun r : RowM => bl r.path p) (l := withoutM R p)).symm, ?_, rfl, rfl⟩
 unfold withM
 simp only [(head_take (withoutM R p) p).1, (head_take (withoutM R p) p).2, List.append_assoc, List.singleton_append]
theorem mem_with {R : List RowM} {p : List UInt8} {f : FileM} {r : RowM} : r ∈ withM R p f ↔ r = ⟨p, f⟩ ∨ (r ∈ R ∧ r.path ≠ p) := by
 obtain ⟨A, B, h1, h2, _, _⟩ := with_split R p f
 rw [h2, ← mem_without, h1, List.mem_append, List.mem_append, List.mem_cons]
 constructor
 ·rintro (h | h | h)
  ·exact .inr (.inl h)
  ·exact .inl h
  ·exact .inr (.inr h)
 ·rintro (h | h | h)
  ·exact .inr (.inl h)
  ·exact .inl h
  ·exact .inr (.inr h)
theorem drop_gt {p : List UInt8} : ∀ {m : List RowM}, Ord m → (∀ r ∈ m, r.path ≠ p) → ∀ r ∈ m.dropWhile (fun r => bl r.path p), bl p r.path = true
 | [], _, _, r, h => by cases h
 | a :: m, ho, hn, r, h => by
  rw [List.dropWhile_cons] at h
  have ho' := List.pairwise_cons.1 ho
  split at h
  ·exact drop_gt ho'.2 (fun x hx => hn x (List.mem_cons_of_mem _ hx)) r h
  ·rename_i hb
   have ha : bl p a.path = true := by
    rcases bl_tri a.path p with h1 | h1 | h1
    ·exact absurd h1 hb
    ·exact absurd h1 (hn a List.mem_cons_self)
    ·exact h1
   rcases List.mem_cons.1 h with rfl | h
   ·exact ha
   ·exact bl_trans _ _ _ ha (ho'.1 r h)
theorem take_lt {p : List UInt8} : ∀ {m : List RowM}, ∀ r ∈ m.takeWhile (fun r => bl r.path p), bl r.path p = true
 | [], r, h => by cases h
 | a :: m, r, h => by
  rw [List.takeWhile_cons] at h
  split at h
  ·rename_i hb
   rcases List.mem_cons.1 h with rfl | h
   ·exact hb
   ·exact take_lt r h
  ·cases h
theorem with_ord {R : List RowM} (h : Ord R) (p : List UInt8) (f : FileM) : Ord (withM R p f) := by
 obtain ⟨A, B, h1, h2, hA, hB⟩ := with_split R p f
 have hm := without_ord h p
 have hn : ∀ r ∈ withoutM R p, r.path ≠ p := fun r hr => (mem_without.1 hr).2
 have hlt : ∀ r ∈ A, bl r.path p = true := fun r hr => take_lt r (by rw [← hA]; exact hr)
 have hgt : ∀ r ∈ B, bl p r.path = true := fun r hr => drop_gt hm hn r (by rw [← hB]; exact hr)
 rw [h1] at hm
 obtain ⟨g1, g2, g3⟩ := List.pairwise_append.1 hm
 rw [h2]
 refine List.pairwise_append.2 ⟨g1, List.pairwise_cons.2 ⟨fun r hr => hgt r hr, g2⟩, fun a ha c hc => ?_⟩
 rcases List.mem_cons.1 hc with rfl | hc
 ·exact hlt a ha
 ·exact g3 a ha c hc
theorem ord_one {R : List RowM} (h : Ord R) {a c : RowM} (ha : a ∈ R) (hc : c ∈ R) (he : a.path = c.path) : a = c := by
 induction R with
 | nil => cases ha
 | cons x R ih =>
  have h' := List.pairwise_cons.1 h
  rcases List.mem_cons.1 ha with ea | ha
  ·rcases List.mem_cons.1 hc with ec | hc
   ·rw [ea, ec]
   ·have := h'.1 c hc; rw [← ea, he, bl_irr] at this; cases this
  ·rcases List.mem_cons.1 hc with ec | hc
   ·have := h'.1 a ha; rw [← ec, he, bl_irr] at this; cases this
   ·exact ih h'.2 ha hc
end Go.Proofs.YtbenkmihkbjgeaaGreat.Tx
/- A file system that falls, as plain data: no file stands under another. (No Go in it.) -/
namespace Go.Proofs.YtbenkmihkbjgeaaGreat.Tx
structure RowsOk (R : List RowM) (t : Int) : Prop where
 ord : Ord R
 row : ∀ r ∈ R, pathB r.path = true ∧ 1 ≤ r.f.mode ∧ r.f.mode ≤ 3 ∧ r.f.data.length ≤ 20000 ∧ r.f.time ≤ t
 tree : ∀ a ∈ R, ∀ c ∈ R, underB a.path c.path = false
theorem find_none_iff {R : List RowM} {p : List UInt8} : (findM R p).isNone = true ↔ ∀ r ∈ R, r.path ≠ p := by
 unfold findM
 rw [Option.isNone_iff_eq_none, List.findIdx?_eq_none_iff]
 constructor
 ·intro h r hr e
  have := h r hr
  simp [e] at this
 ·intro h r hr
  simpa using h r hr
end Go.Proofs.YtbenkmihkbjgeaaGreat.Tx
/- A file system that falls, as plain data: what holds of it whatever is called. (No Go in it.) -/
namespace Go.Proofs.YtbenkmihkbjgeaaGreat.Tx
def OpOk (R : List RowM) (o : OpM) (t : Int) : Prop := o.kind = 1 → pathB o.to = true ∧ (1 ≤ o.f.mode ∧ o.f.mode ≤ 3) ∧ o.f.data.length ≤ 20000 ∧ o.f.time ≤ t ∧ ((∃ r ∈ R, r.path = o.to) ∨ mayM R o.to = true)
structure Inv (st : FSM) : Prop where
 now : st.now = againM st st.pending.length
 ok : ∀ k, RowsOk (againM st k) st.time
 op : ∀ k o, st.pending[k]? = some o → OpOk (againM st k) o st.time
end Go.Proofs.YtbenkmihkbjgeaaGreat.Tx
/- The reference's file system: begin. -/
namespace Go.Proofs.YtbenkmihkbjgeaaGreat.Tx
open Go.RowKit Go.Proofs.YtbenkmihkbjgeaaGreat.Sh
def EvsTmp (F : Nat → Prop) (w : World) (v : Value) (l : List EvM) : Prop := TmpL evK F w v l
theorem ev_cells {F : Nat → Prop} {w : World} {A : Option Addr} {n c : Nat} {l : List EvM} (h : EvsTmp F w (.slice A n c) l) (k : Nat) (e : EvM) (hk : l[k]? = some e) :
  ∃ (ad : Addr) (dA : Option Addr) (dc : Nat), A = some ad ∧ By F w (.slice dA e.data.length dc) e.data ∧ w.cell? (ad.add (k * 7)) = some (.int .i64 e.at_) ∧ w.cell? ⟨(ad.add (k * 7)).block, (ad.add (k * 7)).off + 1, none⟩ = some (.int .i64 e.kind) ∧
   w.cell? ⟨(ad.add (k * 7)).block, (ad.add (k * 7)).off + 2, none⟩ = some (.int .i64 e.mode) ∧ w.cell? ⟨(ad.add (k * 7)).block, (ad.add (k * 7)).off + 3, none⟩ = some (.int .i64 e.keep) ∧ w.cell? ⟨(ad.add (k * 7)).block, (ad.add (k * 7)).off + 4, none⟩ = some (.int .i64 e.torn) ∧
   w.cell? ⟨(ad.add (k * 7)).block, (ad.add (k * 7)).off + 5, none⟩ = some (.string (str e.path)) ∧ w.cell? ⟨(ad.add (k * 7)).block, (ad.add (k * 7)).off + 6, none⟩ = some (.slice dA e.data.length dc) := by
 obtain ⟨ad, d, hA, hby, hc⟩ := TmpL.at_ h k e hk
 obtain ⟨dA, dc, rfl, _, _⟩ := By.slice (bs := e.data) hby
 have e' : ∀ j u, 0 < j → (evK.cells e (.slice dA e.data.length dc))[j]? = some u → w.cell? ⟨(ad.add (k * 7)).block, (ad.add (k * 7)).off + j, none⟩ = some u := fun j u hj hu => by
  rw [← add_field _ _ j hj]; exact hc j u hu
 exact ⟨ad, dA, dc, hA, hby, hc 0 _ rfl, e' 1 _ (by decide) rfl, e' 2 _ (by decide) rfl, e' 3 _ (by decide) rfl, e' 4 _ (by decide) rfl, e' 5 _ (by decide) rfl, e' 6 _ (by decide) rfl⟩
def BegAt (F M : Nat → Prop) (w : World) (b : Nat) (st : FSM) (k : Nat) (wr : World) : Prop := FsPost F M w b (begM st k).st wr
end Go.Proofs.YtbenkmihkbjgeaaGreat.Tx
/- The reference's file system: Move. -/
namespace Go.Proofs.YtbenkmihkbjgeaaGreat.Tx
open Go.RowKit Go.Proofs.YtbenkmihkbjgeaaGreat.Sh
structure Ready (st : FSM) (N : Nat) : Prop where
 fits : Fits st N
 big : N + 2 * st.plan.length ≤ 800000
 calls : 0 ≤ st.calls ∧ st.calls ≤ 4000000000000
 paths : ∀ e ∈ st.plan, e.path.length ≤ 1000000
structure Small (s : FSM) : Prop where
 now : s.now.length ≤ 900000
 pending : s.pending.length ≤ 900000
 sure : s.sure.length ≤ 900000
 user : s.user.length ≤ 900000
 time : 0 ≤ s.time ∧ s.time ≤ 4000000000000
 used : usedM s.now ≤ 4000000000000
 nrow : ∀ r ∈ s.now, r.path.length ≤ 1000000
 ndat : ∀ r ∈ s.now, r.f.data.length ≤ 1000000
 both : s.sure.length + s.pending.length ≤ 900000
 prow : ∀ o ∈ s.pending, o.f.data.length ≤ 1000000
def moveE0 (s : FSM) (fr tt : List UInt8) (only : Bool) : Int :=
 if pathB fr = false ∨ pathB tt = false then 6
 else if (findM s.now fr).isNone = true then 7
 else if only = true ∧ (findM s.now tt).isSome = true then 8
 else if fr = tt then 0
 else if (findM s.now tt).isNone = true ∧ mayM (withoutM s.now fr) tt = false then 9
 else 0
def moveM0 (s : FSM) (fr tt : List UInt8) (only : Bool) : FSM := if moveE0 s fr tt only = 0 ∧ fr ≠ tt then changeM s ⟨2, fr, tt, ⟨0, [], 0⟩⟩ else s
def moveE (st : FSM) (fr tt : List UInt8) (only : Bool) : Int := if beginE st = 0 then moveE0 (beginM st).st fr tt only else beginE st
def moveM (st : FSM) (fr tt : List UInt8) (only : Bool) : FSM := if beginE st = 0 then moveM0 (beginM st).st fr tt only else (beginM st).st
end Go.Proofs.YtbenkmihkbjgeaaGreat.Tx
/- A file system that falls, as plain data: each call keeps what holds. (No Go in it.) -/
namespace Go.Proofs.YtbenkmihkbjgeaaGreat.Tx
end Go.Proofs.YtbenkmihkbjgeaaGreat.Tx
/- A file system that falls, as plain data: how many bytes its rows hold. (No Go in it.) -/
namespace Go.Proofs.YtbenkmihkbjgeaaGreat.Tx
theorem used_app (A B : List RowM) : usedM (A ++ B) = usedM A + usedM B := by unfold usedM; rw [List.map_append, List.sum_append]
theorem used_cons (r : RowM) (R : List RowM) : usedM (r :: R) = r.f.data.length + usedM R := by unfold usedM; rw [List.map_cons, List.sum_cons]
theorem used_with (R : List RowM) (p : List UInt8) (f : FileM) : usedM (withM R p f) = usedM (withoutM R p) + f.data.length := by
 obtain ⟨A, B, h1, h2, _, _⟩ := with_split R p f
 rw [h1, h2, used_app, used_app, used_cons]
 show usedM A + (f.data.length + usedM B) = _
 omega
theorem without_cons (r : RowM) (R : List RowM) (p : List UInt8) : withoutM (r :: R) p = if r.path = p then withoutM R p else r :: withoutM R p := by
 unfold withoutM
 rw [List.filter_cons]
 by_cases h : r.path = p
 ·simp [h]
 ·simp [h]
theorem used_without_le (p : List UInt8) : ∀ R : List RowM, usedM (withoutM R p) ≤ usedM R
 | [] => Nat.le_refl _
 | r :: R => by
  have ih := used_without_le p R
  rw [without_cons, used_cons]
  split
  ·omega
  ·rw [used_cons]; omega
theorem old_cons (r : RowM) (R : List RowM) (p : List UInt8) : oldM (r :: R) p = if r.path = p then r.f.data.length else oldM R p := by
 unfold oldM findM
 rw [List.findIdx?_cons]
 by_cases h : r.path = p
 ·simp [h]
 ·simp [h]
  cases List.findIdx? (fun r => r.path == p) R <;> simp
theorem without_none {R : List RowM} {p : List UInt8} (h : ∀ r ∈ R, r.path ≠ p) : withoutM R p = R := by
 unfold withoutM
 rw [List.filter_eq_self]
 intro r hr
 simpa using h r hr
theorem used_without (p : List UInt8) : ∀ {R : List RowM}, Ord R → usedM (withoutM R p) + oldM R p = usedM R
 | [], _ => rfl
 | r :: R, h => by
  have h' := List.pairwise_cons.1 h
  have ih := used_without p h'.2
  rw [without_cons, old_cons, used_cons]
  split
  ·rename_i hp
   have hn : ∀ x ∈ R, x.path ≠ p := fun x hx e => by
    have := h'.1 x hx
    rw [e, hp, bl_irr] at this
    cases this
   rw [without_none hn]
   omega
  ·rw [used_cons]; omega
theorem used_row {R : List RowM} {r : RowM} {p : List UInt8} (h : r ∈ R) (hp : r.path = p) (ho : Ord R) : oldM R p = r.f.data.length := by
 induction R with
 | nil => cases h
 | cons x R ih =>
  have h' := List.pairwise_cons.1 ho
  rw [old_cons]
  rcases List.mem_cons.1 h with e | h
  ·rw [← e, if_pos hp]
  ·rw [if_neg (fun e => by have := h'.1 r h; rw [hp, e, bl_irr] at this; cases this)]
   exact ih h h'.2
end Go.Proofs.YtbenkmihkbjgeaaGreat.Tx
/- A file system that falls, as plain data: the room is kept but for what users write. (No Go in it.) -/
namespace Go.Proofs.YtbenkmihkbjgeaaGreat.Tx
def Kept (st : FSM) : Prop := st.user ≠ [] ∨ ∀ k, (usedM (againM st k) : Int) ≤ max st.room 0
end Go.Proofs.YtbenkmihkbjgeaaGreat.Tx
/- Rows with one more, with one less: how many stand under each directory. (No Go in it.) -/
namespace Go.Proofs.YtbenkmihkbjgeaaGreat.Tx
def dirsM (R : List RowM) : List (List UInt8) := R.flatMap fun r => parentsL r.path
def cntM (R : List RowM) (p : List UInt8) : Nat := (dirsM R).count p
def standsM (R : List RowM) (p : List UInt8) : Bool := R.any fun r => r.path == p
theorem stands_iff {R : List RowM} {p : List UInt8} : standsM R p = true ↔ ∃ r ∈ R, r.path = p := by
 unfold standsM
 rw [List.any_eq_true]
 constructor
 ·rintro ⟨r, h1, h2⟩; exact ⟨r, h1, beq_iff_eq.1 h2⟩
 ·rintro ⟨r, h1, h2⟩; exact ⟨r, h1, beq_iff_eq.2 h2⟩
theorem stands_no {R : List RowM} {p : List UInt8} : standsM R p = false ↔ ∀ r ∈ R, r.path ≠ p := by
 rw [← Bool.not_eq_true, stands_iff]
 constructor
 ·intro h r hr e; exact h ⟨r, hr, e⟩
 ·rintro h ⟨r, hr, e⟩; exact h r hr e
theorem stands_find {R : List RowM} {p : List UInt8} : standsM R p = (findM R p).isSome := by
 cases h : standsM R p with
 | false =>
  have := find_none_iff.2 (stands_no.1 h)
  cases hf : findM R p with
  | none => rfl
  | some i => rw [hf] at this; cases this
 | true =>
  cases hf : findM R p with
  | none =>
   have := find_none_iff.1 (by rw [hf]; rfl)
   obtain ⟨r, h1, h2⟩ := stands_iff.1 h
   exact absurd h2 (this r h1)
  | some i => rfl
theorem stands_with {R : List RowM} {p q : List UInt8} {f : FileM} : standsM (withM R p f) q = (decide (q = p) || standsM R q) := by
 by_cases h : q = p
 ·subst h
  rw [decide_eq_true rfl, Bool.true_or]
  exact stands_iff.2 ⟨⟨q, f⟩, mem_with.2 (.inl rfl), rfl⟩
 ·rw [decide_eq_false h, Bool.false_or]
  cases hs : standsM R q with
  | true =>
   obtain ⟨r, h1, h2⟩ := stands_iff.1 hs
   exact stands_iff.2 ⟨r, mem_with.2 (.inr ⟨h1, by rw [h2]; exact h⟩), h2⟩
  | false =>
   refine stands_no.2 fun r hr e => ?_
   rcases mem_with.1 hr with rfl | ⟨h1, _⟩
   ·exact h e.symm
   ·exact stands_no.1 hs r h1 e
theorem stands_without {R : List RowM} {p q : List UInt8} : standsM (withoutM R p) q = (!decide (q = p) && standsM R q) := by
 by_cases h : q = p
 ·subst h
  rw [decide_eq_true rfl, Bool.not_true, Bool.false_and]
  exact stands_no.2 fun r hr => (mem_without.1 hr).2
 ·rw [decide_eq_false h, Bool.not_false, Bool.true_and]
  cases hs : standsM R q with
  | true =>
   obtain ⟨r, h1, h2⟩ := stands_iff.1 hs
   exact stands_iff.2 ⟨r, mem_without.2 ⟨h1, by rw [h2]; exact h⟩, h2⟩
  | false => exact stands_no.2 fun r hr e => stands_no.1 hs r (mem_without.1 hr).1 e
theorem count_swap {α : Type} [BEq α] (A B C : List α) (q : α) : (A ++ (B ++ C)).count q = (A ++ C).count q + B.count q := by
 simp only [List.count_append]; omega
theorem dirs_app (A B : List RowM) : dirsM (A ++ B) = dirsM A ++ dirsM B := List.flatMap_append
theorem dirs_cons (r : RowM) (R : List RowM) : dirsM (r :: R) = parentsL r.path ++ dirsM R := List.flatMap_cons
theorem cnt_with (R : List RowM) (p : List UInt8) (f : FileM) (q : List UInt8) : cntM (withM R p f) q = cntM (withoutM R p) q + (parentsL p).count q := by
 obtain ⟨A, B, h1, h2, _, _⟩ := with_split R p f
 unfold cntM
 rw [h1, h2, dirs_app, dirs_app, dirs_cons, count_swap]
theorem without_mid {A B : List RowM} {r : RowM} (h : Ord (A ++ r :: B)) : withoutM (A ++ r :: B) r.path = A ++ B := by
 have hn : ∀ x ∈ A ++ B, x.path ≠ r.path := by
  intro x hx e
  obtain ⟨_, g2, g3⟩ := List.pairwise_append.1 h
  rcases List.mem_append.1 hx with hx | hx
  ·have := g3 x hx r List.mem_cons_self
   rw [e, bl_irr] at this; cases this
  ·have := (List.pairwise_cons.1 g2).1 x hx
   rw [e, bl_irr] at this; cases this
 unfold withoutM
 rw [List.filter_append, List.filter_cons, if_neg (by simp)]
 rw [← List.filter_append]
 exact List.filter_eq_self.2 fun x hx => by simpa using hn x hx
theorem cnt_without {R : List RowM} (h : Ord R) {r : RowM} (hr : r ∈ R) (q : List UInt8) : cntM R q = cntM (withoutM R r.path) q + (parentsL r.path).count q := by
 obtain ⟨A, B, rfl⟩ := List.append_of_mem hr
 rw [without_mid h]
 unfold cntM
 rw [dirs_app, dirs_app, dirs_cons, count_swap]
theorem parents_few (s : List UInt8) : (parentsL s).length ≤ 7 := by
 cases hp : pathB s with
 | false => unfold parentsL; rw [if_neg (by rw [hp]; decide)]; simp
 | true =>
  have h1 := parents_len hp
  have h2 := ((pathB_iff s).1 hp).2.2
  have h3 : (namesL s).length = (splitL 47 s).length := by unfold namesL; rw [if_pos hp]
  omega
theorem dirs_len : ∀ R : List RowM, (dirsM R).length ≤ 7 * R.length
 | [] => by simp [dirsM]
 | r :: R => by
  have h1 := parents_few r.path
  have h2 := dirs_len R
  rw [dirs_cons, List.length_append, List.length_cons]
  omega
theorem cnt_le (R : List RowM) (q : List UInt8) : cntM R q ≤ 7 * R.length := Nat.le_trans List.count_le_length (dirs_len R)
theorem nodup_within {α : Type} [BEq α] [LawfulBEq α] : ∀ {l m : List α}, l.Nodup → (∀ x ∈ l, x ∈ m) → l.length ≤ m.length
 | [], _, _, _ => Nat.zero_le _
 | x :: l, m, hn, hs => by
  have hn' := List.nodup_cons.1 hn
  have hx : x ∈ m := hs x List.mem_cons_self
  have := nodup_within (l := l) (m := m.erase x) hn'.2 (fun y hy => by
   have hne : y ≠ x := fun e => hn'.1 (e ▸ hy)
   exact (List.mem_erase_of_ne hne).2 (hs y (List.mem_cons_of_mem _ hy)))
  rw [List.length_erase_of_mem hx] at this
  have := List.length_pos_of_mem hx
  rw [List.length_cons]
  omega
end Go.Proofs.YtbenkmihkbjgeaaGreat.Tx
/- Package fsim: a tree of files in memory: two maps and a number. -/
namespace Go.Proofs.YtbenkmihkbjgeaaGreat.Tx
open Go.RowKit Go.Maps Go.Proofs.YtbenkmihkbjgeaaGreat.Sh
def hv (v : Value) : Option (DataW Value × List MemPlace) := some (.held v, [])
def fileV (f : FileM) (d : Value) : Value := .agg #[.int .i64 f.mode, d, .int .i64 f.time]
abbrev OwnF (w : World) (b : Nat) (D : DataW Value) : Prop := w.ownsMap Tryz.prog 9 hv b (Maps.size D) D
abbrev OwnU (w : World) (b : Nat) (D : DataW Unit) : Prop := w.ownsMap Tryz.prog 9 (plainElem Tryz.prog 3) b (Maps.size D) D
theorem lawS : Keyed Tryz.prog 9 := string_keyed Tryz.underlying9
theorem isK (p : List UInt8) : WideAt.IsKeyLit (.string p) := trivial
theorem key_str (p : List UInt8) (hp : p.length ≤ 1000000) : keyOf Tryz.prog 9 (.string (str p)) = some (.string p) := by
 have := Go.WideMaps.keyOf_string_mk (P := Tryz.prog) (s := str p) Tryz.underlying9 (by rw [str_size]; unfold maxLen; omega)
 rw [this]
 exact congrArg (fun l => some (Lit.string l)) (by simp [str] : (str p).data.toList = p)
section
variable {H : Type} {P : Program} {k : TypeId} {R : Value → Option (DataW H × List MemPlace)} {w w' : World} {b n : Nat} {D : DataW H}
theorem own_exact (h : w.ownsMap P k R b n D) : w.ownsMap P k R b (Maps.size D) D := by
 obtain ⟨es, clock, hb, F, hs, hD⟩ := h
 refine ⟨es, clock, hb, F, ?_, hD⟩
 rw [hD, Maps.size_eq, length_sorted]
 simp
theorem own_only {M : Nat → Prop} (h : w.ownsMap P k R b n D) (ho : Only M w w') (hn : ¬ M b) : w'.ownsMap P k R b n D := by
 have hlt := h.lt
 obtain ⟨es, clock, hb, F, hs, hD⟩ := h
 exact ⟨es, clock, (ho.block b hlt hn).trans hb, F, hs, hD⟩
end
theorem own_keys {H : Type} {R : Value → Option (DataW H × List MemPlace)} {w : World} {b n : Nat} {D : DataW H} (h : w.ownsMap Tryz.prog 9 R b n D) :
  ∃ es, D = .map es ∧ es.Pairwise (fun p q => p.1 ≠ q.1) ∧ ∀ e ∈ es, ∃ x, e.1 = .string x := by
 obtain ⟨es, rfl, hp⟩ := h.tidy lawS
 obtain ⟨es', he, hk⟩ := h.keysOf
 cases he
 refine ⟨es, rfl, hp, fun e he => ?_⟩
 obtain ⟨v, hv⟩ := hk e he
 obtain ⟨x, _, hx, _⟩ := Maps.keyOf_str Tryz.underlying9 hv
 exact ⟨x, hx⟩
theorem own_perm {H : Type} {R : Value → Option (DataW H × List MemPlace)} {w : World} {b n : Nat} {D : DataW H} (h : w.ownsMap Tryz.prog 9 R b n D) {ss : List (List UInt8)} (hn : ss.Nodup) (hm : ∀ x, x ∈ ss ↔ Maps.has D (.string x) = true) :
  ss.Perm (strKeys D) ∧ Maps.size D = ss.length := by
 obtain ⟨es, rfl, hp, hk⟩ := own_keys h
 have := perm_strKeys hp hk hn hm
 refine ⟨this, ?_⟩
 rw [this.length_eq, Maps.size_eq]
 exact (List.length_map _).symm
theorem own_within {H : Type} {R : Value → Option (DataW H × List MemPlace)} {w : World} {b n : Nat} {D : DataW H} (h : w.ownsMap Tryz.prog 9 R b n D) {ds : List (List UInt8)} (hm : ∀ x, Maps.has D (.string x) = true → x ∈ ds) : Maps.size D ≤ ds.length := by
 obtain ⟨es, rfl, hp, hk⟩ := own_keys h
 rw [Maps.size_eq]
 have hl : (es.map fun p => strOf p.1).length = es.length := List.length_map _
 rw [← hl]
 refine nodup_within (List.pairwise_map.2 (hp.imp_of_mem ?_)) (fun x hx => ?_)
 ·intro p q hp' hq' hne e
  refine hne ?_
  obtain ⟨a, ha⟩ := hk p hp'
  obtain ⟨c, hc⟩ := hk q hq'
  rw [ha, hc] at e ⊢
  exact congrArg _ e
 ·obtain ⟨p, hp', rfl⟩ := List.mem_map.1 hx
  obtain ⟨a, ha⟩ := hk p hp'
  refine hm _ (List.any_eq_true.2 ⟨p, hp', ?_⟩)
  rw [ha]
  exact beq_self_eq_true a
structure FilesOK (F : Nat → Prop) (w : World) (R : List RowM) (D : DataW Value) : Prop where
 has_ : ∀ p, Maps.has D (.string p) = standsM R p
 at_ : ∀ r ∈ R, ∃ d, By F w d r.f.data ∧ ∀ z, D.atKey (.string r.path) z = .held (fileV r.f d)
def UnderOK (c : List UInt8 → Nat) (D : DataW Unit) : Prop := ∀ p, Maps.has D (.string p) = decide (0 < c p) ∧ D.atKey (.string p) (.lit (.int .i64 0)) = .lit (.int .i64 (c p))
def treeM (t bf bu : Nat) : Nat → Prop := fun k => k = t ∨ k = bf ∨ k = bu
structure TreeX (F : Nat → Prop) (w : World) (t : Nat) (R : List RowM) (bf bu : Nat) : Prop where
 blk : Blk w t 166 #[.map (some bf), .map (some bu), .int .i64 (usedM R)]
 files : ∃ D, OwnF w bf D ∧ FilesOK F w R D
 under : ∃ D, OwnU w bu D ∧ UnderOK (cntM R) D
 ne : bf ≠ bu
 ord : Ord R
theorem FilesOK.only {F M : Nat → Prop} {w w' : World} {R : List RowM} {D : DataW Value} (h : FilesOK F w R D) (ho : Only M w w') (hF : ∀ k, F k → ¬ M k) : FilesOK F w' R D :=
 ⟨h.has_, fun r hr => by
  obtain ⟨d, h1, h2⟩ := h.at_ r hr
  exact ⟨d, h1.only ho hF, h2⟩⟩
theorem FilesOK.mono {F F' : Nat → Prop} {w : World} {R : List RowM} {D : DataW Value} (h : FilesOK F w R D) (hF : ∀ k, k < w.heap.size → F k → F' k) : FilesOK F' w R D :=
 ⟨h.has_, fun r hr => by
  obtain ⟨d, h1, h2⟩ := h.at_ r hr
  exact ⟨d, h1.mono hF, h2⟩⟩
section
variable {F F' M : Nat → Prop} {w w' : World} {t bf bu : Nat} {R : List RowM}
theorem TreeX.only (h : TreeX F w t R bf bu) (ho : Only M w w') (hF : ∀ k, F k → ¬ M k) (hM : ∀ k, treeM t bf bu k → ¬ M k) : TreeX F w' t R bf bu := by
 obtain ⟨D, h1, h2⟩ := h.files
 obtain ⟨E, h3, h4⟩ := h.under
 exact ⟨ho.blk h.blk (hM t (.inl rfl)), ⟨D, own_only h1 ho (hM bf (.inr (.inl rfl))), h2.only ho hF⟩, ⟨E, own_only h3 ho (hM bu (.inr (.inr rfl))), h4⟩, h.ne, h.ord⟩
theorem TreeX.below (h : TreeX F w t R bf bu) (hb : Below w.heap.size w w') : TreeX F w' t R bf bu := h.only (Only.of_below (M := fun _ => False) hb) (fun _ _ => id) (fun _ _ => id)
theorem TreeX.mono (h : TreeX F w t R bf bu) (hF : ∀ k, k < w.heap.size → F k → F' k) : TreeX F' w t R bf bu := by
 obtain ⟨D, h1, h2⟩ := h.files
 exact ⟨h.blk, ⟨D, h1, h2.mono hF⟩, h.under, h.ne, h.ord⟩
theorem TreeX.lt (h : TreeX F w t R bf bu) (k : Nat) (hk : treeM t bf bu k) : k < w.heap.size := by
 obtain ⟨D, h1, _⟩ := h.files
 obtain ⟨E, h3, _⟩ := h.under
 rcases hk with rfl | rfl | rfl
 ·exact h.blk.lt
 ·exact h1.lt
 ·exact h3.lt
theorem own_cells {H : Type} {P : Program} {k : TypeId} {Rr : Value → Option (DataW H × List MemPlace)} {w : World} {b n g : Nat} {D : DataW H} {T : TypeId} {cs : Array Value} (h : w.ownsMap P k Rr b n D) (hg : Blk w g T cs) : b ≠ g := by
 rintro rfl
 obtain ⟨es, clock, hb, _⟩ := h
 unfold Blk at hg
 rw [hb] at hg
 cases hg
theorem TreeX.f_ne (h : TreeX F w t R bf bu) : bf ≠ t := by
 obtain ⟨D, h1, _⟩ := h.files
 exact own_cells h1 h.blk
theorem TreeX.u_ne (h : TreeX F w t R bf bu) : bu ≠ t := by
 obtain ⟨E, h3, _⟩ := h.under
 exact own_cells h3 h.blk
end
theorem ord_nodup {R : List RowM} (h : Ord R) : (R.map fun r => r.path).Nodup := by
 refine List.pairwise_map.2 (h.imp fun {a c} hab e => ?_)
 rw [e, bl_irr] at hab
 cases hab
theorem FilesOK.keys {F : Nat → Prop} {w w2 : World} {b n : Nat} {R : List RowM} {D : DataW Value} (h : FilesOK F w R D) (hown : w2.ownsMap Tryz.prog 9 hv b n D) (ho : Ord R) : (R.map fun r => r.path).Perm (strKeys D) ∧ Maps.size D = R.length := by
 have := own_perm hown (ss := R.map fun r => r.path) (ord_nodup ho) (fun x => by
  rw [h.has_, stands_iff, List.mem_map])
 rw [List.length_map] at this
 exact this
theorem UnderOK.small {c : List UInt8 → Nat} {w : World} {b n : Nat} {D : DataW Unit} (h : UnderOK c D) (hown : w.ownsMap Tryz.prog 9 (plainElem Tryz.prog 3) b n D) {ds : List (List UInt8)} (hc : ∀ p, c p ≤ ds.count p) : Maps.size D ≤ ds.length :=
 own_within hown fun x hx => by
  rw [(h x).1] at hx
  have := hc x
  have h0 : 0 < c x := of_decide_eq_true hx
  exact List.count_pos_iff.1 (by omega)
theorem UnderOK.put {c c' : List UInt8 → Nat} {D : DataW Unit} (h : UnderOK c D) (hm : Maps.IsMap D) (q : List UInt8) (v : Nat) (hv : 0 < v) (hq : c' q = v) (hc : ∀ p, p ≠ q → c' p = c p) : UnderOK c' (D.put (.string q) (.lit (.int .i64 v))) := fun p => by
 by_cases e : p = q
 ·subst e
  rw [Maps.has_put_same hm (isK _), Maps.atKey_put_same hm (isK _), hq]
  exact ⟨(decide_eq_true hv).symm, rfl⟩
 ·have hne : Lit.string p ≠ Lit.string q := fun h => e (by injection h)
  rw [Maps.has_put_other hne, Maps.atKey_put_other hne, hc p e]
  exact h p
theorem UnderOK.del {c c' : List UInt8 → Nat} {D D0 : DataW Unit} (h : UnderOK c D0) (q : List UInt8) (v : DataW Unit) (hD : D = D0.put (.string q) v) (hq : c' q = 0) (hc : ∀ p, p ≠ q → c' p = c p) : UnderOK c' (D.del (.string q)) := fun p => by
 by_cases e : p = q
 ·subst e
  rw [Maps.has_del_same, Maps.atKey_del_same, hq]
  exact ⟨rfl, rfl⟩
 ·have hne : Lit.string p ≠ Lit.string q := fun h => e (by injection h)
  rw [Maps.has_del_other hne, Maps.atKey_del_other hne, hD, Maps.has_put_other hne, Maps.atKey_put_other hne, hc p e]
  exact h p
theorem FilesOK.put {F : Nat → Prop} {w : World} {R : List RowM} {D : DataW Value} (h : FilesOK F w R D) (hm : Maps.IsMap D) {p : List UInt8} {f : FileM} {d : Value} (hd : By F w d f.data) : FilesOK F w (withM R p f) (D.put (.string p) (.held (fileV f d))) := by
 refine ⟨fun q => ?_, fun r hr => ?_⟩
 ·rw [stands_with]
  by_cases e : q = p
  ·subst e
   rw [Maps.has_put_same hm (isK _), decide_eq_true rfl, Bool.true_or]
  ·have hne : Lit.string q ≠ Lit.string p := fun h => e (by injection h)
   rw [Maps.has_put_other hne, decide_eq_false e, Bool.false_or]
   exact h.has_ q
 ·rcases mem_with.1 hr with rfl | ⟨h1, h2⟩
  ·exact ⟨d, hd, fun z => Maps.atKey_put_same hm (isK _) _ z⟩
  ·obtain ⟨d', h3, h4⟩ := h.at_ r h1
   have hne : Lit.string r.path ≠ Lit.string p := fun h => h2 (by injection h)
   exact ⟨d', h3, fun z => by rw [Maps.atKey_put_other hne]; exact h4 z⟩
theorem FilesOK.del {F : Nat → Prop} {w : World} {R : List RowM} {D : DataW Value} (h : FilesOK F w R D) (p : List UInt8) : FilesOK F w (withoutM R p) (D.del (.string p)) := by
 refine ⟨fun q => ?_, fun r hr => ?_⟩
 ·rw [stands_without]
  by_cases e : q = p
  ·subst e
   rw [Maps.has_del_same, decide_eq_true rfl, Bool.not_true, Bool.false_and]
  ·have hne : Lit.string q ≠ Lit.string p := fun h => e (by injection h)
   rw [Maps.has_del_other hne, decide_eq_false e, Bool.not_false, Bool.true_and]
   exact h.has_ q
 ·obtain ⟨h1, h2⟩ := mem_without.1 hr
  obtain ⟨d', h3, h4⟩ := h.at_ r h1
  have hne : Lit.string r.path ≠ Lit.string p := fun h => h2 (by injection h)
  exact ⟨d', h3, fun z => by rw [Maps.atKey_del_other hne]; exact h4 z⟩
end Go.Proofs.YtbenkmihkbjgeaaGreat.Tx
/- marref: Has, Texts, CopyTexts. -/
namespace Go.Proofs.YtbenkmihkbjgeaaGreat.Tx
open Go.RowKit Go.Proofs.YtbenkmihkbjgeaaGreat.Sh
def Yes (w : World) (e : Ending) (w' : World) : Prop := e = .returned (.bool true) ∧ Below w.heap.size w w'
theorem ba_ext {s t : ByteArray} (h : s.toList = t.toList) : s = t := by
 rw [ByteArray.toList_eq, ByteArray.toList_eq] at h
 exact ByteArray.ext (Array.toList_inj.1 h)
def hasT (xs : List ByteArray) (s : ByteArray) : Bool := xs.any (fun t => t.toList == s.toList)
theorem hasT_yes {xs : List ByteArray} {s : ByteArray} (h : s ∈ xs) : hasT xs s = true := List.any_eq_true.2 ⟨s, h, beq_self_eq_true _⟩
theorem hasT_no {xs : List ByteArray} {s : ByteArray} (h : s ∉ xs) : hasT xs s = false := by
 unfold hasT
 rw [List.any_eq_false]
 intro t ht e
 exact h (by rw [← ba_ext (beq_iff_eq.1 e)]; exact ht)
theorem hasT_iff {xs : List ByteArray} {s : ByteArray} : hasT xs s = true ↔ s ∈ xs := by
 constructor
 ·intro h
  rcases Classical.em (s ∈ xs) with h1 | h1
  ·exact h1
  ·rw [hasT_no h1] at h; cases h
 ·exact hasT_yes
theorem toList_ne {s t : ByteArray} (h : t ≠ s) : (t.toList == s.toList) = false := by rw [beq_eq_false_iff_ne]; exact fun e => h (ba_ext e)
end Go.Proofs.YtbenkmihkbjgeaaGreat.Tx
/- Patterns: what follows of their definitions. Plain lists. -/
namespace Go.Proofs.YtbenkmihkbjgeaaGreat.Tx
end Go.Proofs.YtbenkmihkbjgeaaGreat.Tx
/- Package names: Name; wire.Has. -/
namespace Go.Proofs.YtbenkmihkbjgeaaGreat.Tx
open Go.RowKit Go.Proofs.YtbenkmihkbjgeaaGreat.Sh
set_option maxRecDepth 100000 in
set_option maxHeartbeats 1600000 in
theorem cname_any (cs : List UInt8) (w : World) (hn : cs.length ≤ 1000000) : Calls Tryz.prog 157 #[.string (str cs)] w fun e w' => e = .returned (.bool (nameB cs)) ∧ w = w' := by
 have hsz := str_size cs
 have htl := str_toList cs
 obtain ⟨l, hL⟩ : ∃ l, cs.length = l := ⟨_, rfl⟩
 rw [hL] at hsz hn
 have HL := Lib.hid hL
 have n0 : (0 : Int) ≤ (l : Int) := by omega
 clear hL
 rcases Nat.eq_zero_or_pos l with h1 | h1
 ·have HR : Hid (nameB cs = false) := by
   unfold Hid
   rw [nameB_eq, HL.out]
   simp [h1]
  have e0 : (str cs).toList.isEmpty = true := by
   have : cs = [] := List.eq_nil_of_length_eq_zero (by rw [HL.out]; exact h1)
   rw [htl, this]; rfl
  have e0' : ((str cs).toList == []) = true := by
   have : cs = [] := List.eq_nil_of_length_eq_zero (by rw [HL.out]; exact h1)
   rw [htl, this]; rfl
  clear htl h1 n0
  go_enter Tryz.func157, Tryz.ntmps157
  go_wp2
  go_ret
  exact ⟨by rw [HR.out]; rfl, rfl⟩
 ·obtain ⟨e0, e0'⟩ : (str cs).toList.isEmpty = false ∧ ((str cs).toList == []) = false := text_there (by rw [HL.out]; exact h1)
  have z1 : (1 : Int) ≤ (l : Int) := by omega
  by_cases h3 : cs = [46]
  ·have HR : Hid (nameB cs = false) := by subst h3; rfl
   have e1 : ((str cs).toList == [46]) = true := by rw [htl, h3]; rfl
   clear htl h3
   go_enter Tryz.func157, Tryz.ntmps157
   go_wp2
   go_ret
   exact ⟨by rw [HR.out]; rfl, rfl⟩
  ·have e1 : ((str cs).toList == [46]) = false := by rw [htl]; exact list_other h3
   by_cases h4 : cs = [46, 46]
   ·have HR : Hid (nameB cs = false) := by subst h4; rfl
    have e2 : ((str cs).toList == [46, 46]) = true := by rw [htl, h4]; rfl
    clear htl h3 h4
    go_enter Tryz.func157, Tryz.ntmps157
    go_wp2
    go_ret
    exact ⟨by rw [HR.out]; rfl, rfl⟩
   ·have e2 : ((str cs).toList == [46, 46]) = false := by rw [htl]; exact list_other h4
    have H3 := Lib.hid h3
    have H4 := Lib.hid h4
    clear htl h3 h4
    by_cases h2 : 64 < l
    ·have HR : Hid (nameB cs = false) := by
      unfold Hid
      rw [nameB_eq, HL.out]
      simp [show ¬ (l ≤ 64) from by omega]
     have z2 : (64 : Int) < (l : Int) := by omega
     go_enter Tryz.func157, Tryz.ntmps157
     go_wp2
     go_ret
     exact ⟨by rw [HR.out]; rfl, rfl⟩
    ·have z2 : (l : Int) ≤ 64 := by omega
     go_enter Tryz.func157, Tryz.ntmps157
     go_wp2
     clear e0 e0' e1 e2
     go_loop [21] (fun i => ∃ k : Nat, k ≤ l ∧ i = .int .i64 k ∧ ∀ (j : Nat) (c : UInt8), j < k → cs[j]? = some c → okc c = true) (fun i => l - (intOf i).toNat)
     case atStart => exact ⟨0, by omega, rfl, fun j c hj => by omega⟩
     case round =>
      obtain ⟨k, hk, rfl, hok⟩ := hrel
      have HOK := Lib.hid hok
      clear hok
      have k0 : (0 : Int) ≤ (k : Int) := by omega
      by_cases hlt : k < l
      ·have k1 : (k : Int) < (l : Int) := by omega
       have hkc : k < cs.length := by rw [HL.out]; exact hlt
       have hix := index_str cs k hkc
       obtain ⟨x, hx⟩ : ∃ x, cs.getD k 0 = x := ⟨_, rfl⟩
       have hx' : cs[k]? = some x := by rw [← hx, List.getD_eq_getElem?_getD, List.getElem?_eq_getElem hkc]; rfl
       rw [hx] at hix
       have HX := Lib.hid hx'
       clear hx hx' hkc
       rcases okc_cases x with ⟨ho, c1⟩ | ⟨ho, c1, c2⟩ | ⟨ho, c1, c2, c3⟩ | ⟨ho, c1, c2, c3⟩
       ·have HR : Hid (nameB cs = false) := nameB_bad HX.out ho
        clear ho
        generalize bi x = y at *
        go_wp2
        go_ret
        exact ⟨by rw [HR.out]; rfl, rfl⟩
       ·have HR : Hid (nameB cs = false) := nameB_bad HX.out ho
        clear ho
        generalize bi x = y at *
        go_wp2
        go_ret
        exact ⟨by rw [HR.out]; rfl, rfl⟩
       ·have HR : Hid (nameB cs = false) := nameB_bad HX.out ho
        have hy : bi x = 47 := by subst c3; unfold bi; rfl
        rw [hy] at hix c1 c2
        clear ho c3 hy
        go_wp2
        go_ret
        exact ⟨by rw [HR.out]; rfl, rfl⟩
       ·have HO := Lib.hid ho
        clear ho
        generalize bi x = y at *
        go_wp2
        go_round
        case rel =>
         refine ⟨k + 1, by omega, by go_num, fun j c hj hc => ?_⟩
         by_cases e : j = k
         ·subst e; rw [HX.out] at hc; injection hc with hc; subst hc; exact HO.out
         ·exact HOK.out j c (by omega) hc
        case measure => simp [intOf]; omega
      ·have HR : Hid (nameB cs = true) := by
        unfold Hid
        refine nameB_good (by rw [HL.out]; omega) (by rw [HL.out]; omega) (list_other H3.out) (list_other H4.out) (fun j c hc => HOK.out j c ?_ hc)
        have := (List.getElem?_eq_some_iff.1 hc).1
        rw [HL.out] at this
        omega
       obtain rfl : k = l := by omega
       go_wp2
       go_ret
       exact ⟨by rw [HR.out]; rfl, rfl⟩
set_option maxRecDepth 100000 in
set_option maxHeartbeats 400000 in
theorem whas_any (v : Value) (xs : List ByteArray) (s : ByteArray) (w : World) (h : SlV w v (xs.map sv)) : Calls Tryz.prog 213 #[v, .string s] w fun e w' => e = .returned (.bool (hasT xs s)) ∧ w = w' := by
 obtain ⟨A, c, rfl, hlc, hcm, hR⟩ := h.len
 rw [List.length_map] at hlc hR ⊢
 have HR := Lib.hid hR
 unfold maxLen at hcm
 obtain ⟨l, hl⟩ : ∃ l, xs.length = l := ⟨_, rfl⟩
 rw [hl] at hlc ⊢
 have HL := Lib.hid hl
 obtain ⟨t, ht⟩ : ∃ t, hasT xs s = t := ⟨_, rfl⟩
 rw [ht]
 have HT := Lib.hid ht
 clear h hR hl ht
 go_enter Tryz.func213, Tryz.ntmps213
 go_wp2
 go_loop [9] (fun i => ∃ k : Nat, k ≤ l ∧ i = .int .i64 k ∧ s ∉ xs.take k) (fun i => l - (intOf i).toNat)
 case atStart => exact ⟨0, Nat.zero_le _, rfl, by simp⟩
 case round =>
  obtain ⟨k, hk, rfl, hno⟩ := hrel
  have HNO := Lib.hid hno
  clear hno
  by_cases hlt : k < l
  ·have hkl : k < xs.length := by rw [HL.out]; exact hlt
   obtain ⟨ad, rfl, hcell⟩ := texts_at HR.out k hkl
   have HX := Lib.hid (show xs.take (k + 1) = xs.take k ++ [xs[k]] from List.take_succ_eq_append_getElem hkl)
   have HMEM := Lib.hid (show xs[k] ∈ xs from List.getElem_mem hkl)
   generalize xs[k] = x at *
   clear hkl
   by_cases he : x = s
   ·subst he
    have htt : t = true := by rw [← HT.out]; exact hasT_yes HMEM.out
    subst htt
    go_wp2
    go_ret
    exact ⟨rfl, rfl⟩
   ·have hne := toList_ne he
    go_wp2
    go_round
    case rel =>
     refine ⟨k + 1, by omega, by go_num, ?_⟩
     rw [HX.out, List.mem_append, List.mem_singleton]
     rintro (hh | hh)
     ·exact HNO.out hh
     ·exact he hh.symm
    case measure => simp [intOf]; omega
  ·have htt : t = false := by
    rw [← HT.out]
    have := HNO.out
    rw [List.take_of_length_le (by rw [HL.out]; omega)] at this
    exact hasT_no this
   subst htt
   go_wp2
   go_ret
   exact ⟨rfl, rfl⟩
end Go.Proofs.YtbenkmihkbjgeaaGreat.Tx
