/- Texts put together: Ry0, Rf7. -/
import Derived.Test.YtalnfiegkkkkgaaGreatQr39
/- marlaw8.RefsApart, as plain data. (No Go in it.) -/
set_option linter.unusedVariables false
set_option linter.unusedSimpArgs false
namespace Go.Proofs.YtalnfiegkkkkgaaGreat.Tx
open Go.RowKit Go.Proofs.YtalnfiegkkkkgaaGreat.Sh

abbrev Hav := List UInt8 → Option (List UInt8)
def Hav.set (H : Hav) (n id : List UInt8) : Hav := fun m => if m = n then some id else H m
/-- Refs of the names that H has, and a lock (where st). -/
structure ApS (st : Bool) (lk : List UInt8) (H : Hav) (c : CSt) : Prop where
  calm : Calm c
  room : c.room = 1048576
  ord : Ord c.here
  rows : ∀ r ∈ c.here, (∃ n id, nameB n = true ∧ H n = some id ∧ r.path = refP n ∧ r.f.data = id ++ [10]) ∨ (st = true ∧ r.path = lockP lk)
  refs : ∀ n id, H n = some id → nameB n = true ∧ validB id = true ∧ peekB c.here (refP n) = true
  lock : st = true → peekB c.here (lockP lk) = true ∧ pathB (lockP lk) = true
section
variable {st : Bool} {lk : List UInt8} {H : Hav} {c : CSt}
theorem ApS.to (h : ApS st lk H c) {c' : CSt} (hc : CalmTo c c' c.here) : ApS st lk H c' :=
  ⟨hc.calm, hc.room.trans h.room, by rw [hc.here]; exact h.ord, by rw [hc.here]; exact h.rows, by rw [hc.here]; exact h.refs, by rw [hc.here]; exact h.lock⟩
theorem ApS.data (h : ApS st lk H c) {n id : List UInt8} (hn : H n = some id) : (peekF c.here (refP n)).data = id ++ [10] := by
  rcases h.rows _ (peek_at (h.refs n id hn).2.2) with ⟨m, id', _, h1, h2, h3⟩ | ⟨_, h2⟩
  · have : m = n := (refP_inj h2).symm
    subst this
    rw [hn] at h1
    injection h1 with h1
    subst h1
    exact h3
  · exact absurd h2 (ref_lock _ _)
theorem ApS.none (h : ApS st lk H c) {n : List UInt8} (hn : H n = none) : peekB c.here (refP n) = false := by
  cases hs : peekB c.here (refP n) with
  | false => rfl
  | true =>
    rcases h.rows _ (peek_at hs) with ⟨m, id', _, h1, h2, _⟩ | ⟨_, h2⟩
    · have : m = n := (refP_inj h2).symm
      subst this
      rw [hn] at h1
      cases h1
    · exact absurd h2 (ref_lock _ _)
/-- Is the name kept by the lock? -/
def kept (st : Bool) (lk n : List UInt8) : Bool := st && (decide (n = lk) || (underB (lockP lk) (lockP n) || underB (lockP n) (lockP lk)))
theorem ApS.may_ref (h : ApS st lk H c) {n : List UInt8} (hn : nameB n = true) : mayM c.here (refP n) = true := by
  refine List.all_eq_true.2 fun r hr => ?_
  rcases h.rows r hr with ⟨m, id, h1, _, h2, _⟩ | ⟨_, h2⟩ <;> rw [h2]
  · rw [show underB (refP n) (refP m) = false from under_name h1, show underB (refP m) (refP n) = false from under_name hn]; rfl
  · rw [show underB (refP n) (lockP lk) = false from not_under (by decide), show underB (lockP lk) (refP n) = false from not_under (by decide)]; rfl
theorem ApS.may_lock (h : ApS st lk H c) {n : List UInt8} (hn : nameB n = true) (hk : kept st lk n = false) : mayM c.here (lockP n) = true := by
  refine List.all_eq_true.2 fun r hr => ?_
  rcases h.rows r hr with ⟨m, id, h1, _, h2, _⟩ | ⟨h1, h2⟩ <;> rw [h2]
  · rw [show underB (lockP n) (refP m) = false from not_under (by decide), show underB (refP m) (lockP n) = false from not_under (by decide)]; rfl
  · unfold kept at hk
    rw [h1] at hk
    simp at hk
    rw [hk.2.1, hk.2.2]; rfl
theorem ApS.free (h : ApS st lk H c) {n : List UInt8} (hk : kept st lk n = false) : peekB c.here (lockP n) = false := by
  cases hs : peekB c.here (lockP n) with
  | false => rfl
  | true =>
    rcases h.rows _ (peek_at hs) with ⟨m, id', _, h1, h2, _⟩ | ⟨h1, h2⟩
    · exact absurd h2.symm (ref_lock _ _)
    · have : n = lk := lockP_inj h2
      unfold kept at hk
      rw [h1, this] at hk
      simp at hk
theorem used_few {R : List RowM} (h : ∀ r ∈ R, ShortR r) {K : Nat} (hl : R.length ≤ K) : usedM R ≤ 20000 * K := by
  have h1 := used_bound (fun r hr => (h r hr).2)
  have h2 : R.length * 20000 ≤ K * 20000 := Nat.mul_le_mul_right _ hl
  omega
def oldOf (H : Hav) (n : List UInt8) : List UInt8 := (H n).getD []
/-- A Set of what is there. -/
theorem ApS.set_ (h : ApS st lk H c) (hs : ∀ r ∈ c.here, ShortR r) (hl : c.here.length ≤ 32) {n new : List UInt8} (hv : validB new = true) :
    (kept st lk n = true → setE c n (oldOf H n) new ≠ 0 ∧ ApS st lk H (setC c n (oldOf H n) new) ∧ (setC c n (oldOf H n) new).here.length ≤ c.here.length) ∧
    (kept st lk n = false → (setE c n (oldOf H n) new = 0 ↔ nameB n = true) ∧ (nameB n = true → ApS st lk (H.set n new) (setC c n (oldOf H n) new)) ∧ (nameB n = false → ApS st lk H (setC c n (oldOf H n) new)) ∧ (setC c n (oldOf H n) new).here.length ≤ c.here.length + 1) := by
  have hold : oldOf H n = [] ∨ validB (oldOf H n) = true := by
    unfold oldOf
    cases hn : H n with
    | none => exact .inl rfl
    | some id => exact .inr (h.refs n id hn).2.1
  cases hn : nameB n with
  | false =>
    obtain ⟨e1, e2⟩ := set_noname (c := c) hn (oldOf H n) new
    rw [e1, e2]
    exact ⟨fun _ => ⟨by decide, h, Nat.le_refl _⟩, fun _ => ⟨⟨fun x => absurd x (by decide), fun x => by cases x⟩, fun x => (by cases x), fun _ => h, by omega⟩⟩
  | true =>
    refine ⟨fun hk => ?_, fun hk => ?_⟩
    · unfold kept at hk
      simp only [Bool.and_eq_true, Bool.or_eq_true, decide_eq_true_eq] at hk
      obtain ⟨hst, hk⟩ := hk
      obtain ⟨l1, l2⟩ := h.lock hst
      obtain ⟨e1, e2⟩ := h.calm.set_locked hn hv hold (by
        rcases hk with hk | hk
        · left; rw [hk]; exact l1
        · exact .inr (may_no h.ord (peek_at l1) hk))
      exact ⟨e1, h.to e2, by rw [e2.here]; exact Nat.le_refl _⟩
    · have hroom : (usedM c.here : Int) + 65 ≤ c.room := by
        have := used_few hs hl
        rw [h.room]
        omega
      obtain ⟨e1, e2, _⟩ := h.calm.set_ok h.ord (old := oldOf H n) hn hv (h.free hk) (h.may_lock hn hk) hroom (h.may_ref hn) (by
        unfold oldOf
        cases hx : H n with
        | none => exact .inl ⟨rfl, h.none hx⟩
        | some id => exact .inr ⟨(h.refs n id hx).2.1, (h.refs n id hx).2.2, h.data hx⟩)
      refine ⟨⟨fun _ => rfl, fun _ => e1⟩, fun _ => ⟨e2.calm, e2.room.trans h.room, ?_, fun r hr => ?_, fun m id hm => ?_, fun hst => ?_⟩, fun x => (by cases x), ?_⟩
      · rw [e2.here]; exact with_ord h.ord _ _
      · rw [e2.here] at hr
        rcases mem_with.1 hr with rfl | ⟨hr, hne⟩
        · exact .inl ⟨n, new, hn, by unfold Hav.set; rw [if_pos rfl], rfl, rfl⟩
        · rcases h.rows r hr with ⟨m, id, h1, h2, h3, h4⟩ | h1
          · refine .inl ⟨m, id, h1, ?_, h3, h4⟩
            unfold Hav.set
            rw [if_neg (fun e => hne (by rw [h3, e])), h2]
          · exact .inr h1
      · unfold Hav.set at hm
        rw [e2.here, peek_with]
        by_cases e : m = n
        · rw [if_pos e] at hm
          injection hm with hm
          subst hm e
          exact ⟨hn, hv, by simp⟩
        · rw [if_neg e] at hm
          obtain ⟨g1, g2, g3⟩ := h.refs m id hm
          exact ⟨g1, g2, by rw [g3]; simp⟩
      · obtain ⟨l1, l2⟩ := h.lock hst
        exact ⟨by rw [e2.here, peek_with, l1]; simp, l2⟩
      · rw [e2.here]
        exact with_len _ _ _
theorem ApS.get_ (h : ApS st lk H c) (n : List UInt8) : getV c n = oldOf H n ∧ (getE c n = 0 ↔ (H n).isSome = true) ∧ ApS st lk H (getC c n) ∧ (getC c n).here = c.here := by
  unfold oldOf
  cases hx : H n with
  | none =>
    cases hn : nameB n with
    | false =>
      obtain ⟨e1, e2, e3⟩ := get_noname (c := c) hn
      rw [e1, e2, e3]
      exact ⟨rfl, ⟨fun x => absurd x (by decide), fun x => by cases x⟩, h, rfl⟩
    | true =>
      obtain ⟨e1, e2, e3⟩ := h.calm.get_none hn (h.none hx)
      rw [e1, e2]
      exact ⟨rfl, ⟨fun x => absurd x (by decide), fun x => by cases x⟩, h.to e3, e3.here⟩
  | some id =>
    obtain ⟨g1, g2, g3⟩ := h.refs n id hx
    obtain ⟨e1, e2, e3⟩ := h.calm.get_ok g1 g2 g3 (h.data hx)
    rw [e1, e2]
    exact ⟨rfl, ⟨fun _ => rfl, fun _ => rfl⟩, h.to e3, e3.here⟩
theorem nodup_one {α : Type} {a : α} : ∀ {l : List α}, l.Nodup → (∀ x ∈ l, x = a) → l = [] ∨ l = [a]
  | [], _, _ => .inl rfl
  | [x], _, h => .inr (by rw [h x List.mem_cons_self])
  | x :: y :: l, hn, h => by
    have h1 := h x List.mem_cons_self
    have h2 := h y (List.mem_cons_of_mem _ List.mem_cons_self)
    rw [List.nodup_cons] at hn
    exact absurd (by rw [h1, ← h2]; exact List.mem_cons_self) hn.1
theorem hit_ref (n : List UInt8) : hitC lockD (refP n) = false := by
  unfold hitC prefB lockD refP
  simp
theorem hit_lock (n : List UInt8) : hitC lockD (lockP n) = true := by
  unfold hitC prefB lockD lockP
  simp
theorem last_lock (n : List UInt8) : lastN lockD (lockP n) = n := by
  unfold lastN lockD lockP
  simp
theorem ApS.locks (h : ApS st lk H c) : rlsV c lockD = (if (st && nameB lk) = true then [lk] else []) := by
  obtain ⟨e1, e2⟩ := h.calm.lis (dir := lockD) (by decide)
  unfold rlsV
  rw [if_pos e1, e2]
  have hnd : (listC c.here lockD).Nodup := by
    unfold listC pathsM
    exact List.Nodup.sublist List.filter_sublist (ord_nodup h.ord)
  have hall : ∀ x ∈ listC c.here lockD, x = lockP lk := fun x hx => by
    obtain ⟨h1, h2⟩ := List.mem_filter.1 hx
    unfold pathsM at h1
    obtain ⟨r, hr, rfl⟩ := List.mem_map.1 h1
    rcases h.rows r hr with ⟨m, id, _, _, h3, _⟩ | ⟨_, h3⟩
    · rw [h3, hit_ref] at h2; cases h2
    · exact h3
  cases hst : st with
  | false =>
    have : listC c.here lockD = [] := by
      rcases nodup_one hnd hall with e | e
      · exact e
      · have hx : lockP lk ∈ listC c.here lockD := by rw [e]; exact List.mem_singleton.2 rfl
        obtain ⟨h1, h2⟩ := List.mem_filter.1 hx
        unfold pathsM at h1
        obtain ⟨r, hr, h3⟩ := List.mem_map.1 h1
        rcases h.rows r hr with ⟨m, id, _, _, h4, _⟩ | ⟨h4, _⟩
        · exact absurd (h4.symm.trans h3) (ref_lock _ _)
        · rw [hst] at h4; cases h4
    rw [this]
    rfl
  | true =>
    have : listC c.here lockD = [lockP lk] := by
      rcases nodup_one hnd hall with e | e
      · have h1 := peek_at (h.lock hst).1
        have h2 : lockP lk ∈ listC c.here lockD := List.mem_filter.2 ⟨List.mem_map.2 ⟨_, h1, rfl⟩, hit_lock _⟩
        rw [e] at h2
        cases h2
      · exact e
    rw [this]
    unfold nmsL
    rw [List.map_cons, List.map_nil, last_lock, List.filter_cons, List.filter_nil]
    rfl
theorem ApS.unlock (h : ApS st lk H c) : ulkE c = 0 ∧ ulkN c = (if (st && nameB lk) = true then 1 else 0) := by
  have hl := h.locks
  obtain ⟨e1, _⟩ := h.calm.lis (dir := lockD) (by decide)
  have he : ulkE c = 0 := by
    unfold ulkE
    rw [if_pos e1, hl]
    cases hx : (st && nameB lk) with
    | false => rfl
    | true =>
      rw [if_pos rfl]
      simp only [Bool.and_eq_true] at hx
      have h2 := h.calm.tick
      have h3 : remE (bgC c).c (lockP lk) = 0 := by
        rw [h.calm.bg.1, (h2.rem (lockP lk)).1]
        show rmE c (lockP lk) = 0
        unfold rmE
        rw [if_neg (by rw [(h.lock hx.1).2]; decide), if_neg (by rw [(h.lock hx.1).1]; decide)]
      show (if remE (bgC c).c (lockP lk) = 0 then unlE (remC (bgC c).c (lockP lk)) [] else remE (bgC c).c (lockP lk)) = 0
      rw [if_pos h3]
      rfl
  refine ⟨he, ?_⟩
  unfold ulkN
  rw [if_pos he, hl]
  cases hx : (st && nameB lk) <;> rfl
end
/-- The lock that a user lays. -/
theorem aps_user (lk : List UInt8) : ∃ st, (uwE (newC 1048576) (lockP lk) 1 [] = 0 ↔ st = true) ∧ ApS st lk (fun _ => none) (uwC (newC 1048576) (lockP lk) 1 []) ∧ (uwC (newC 1048576) (lockP lk) 1 []).here.length ≤ 1 := by
  have hw : wrE (newC 1048576) (lockP lk) 1 [] 9223372036854775807 false = (if pathB (lockP lk) = false then 6 else 0) := by
    unfold wrE
    by_cases hp : pathB (lockP lk) = false
    · rw [if_pos hp, if_pos hp]
    · have hm : mayC (newC 1048576).here (lockP lk) [] = true := may_to (R := []) rfl (under_nil _)
      have hu : (usedM (newC 1048576).here : Int) = 0 := rfl
      rw [if_neg hp, if_neg hp, if_neg (by omega), if_neg (by decide), if_neg (by simp), if_neg (by rw [hm]; decide), if_neg (by rw [hu]; simp only [List.length_nil]; omega)]
  have hu : uwE (newC 1048576) (lockP lk) 1 [] = (if pathB (lockP lk) = false then 6 else 0) := by
    unfold uwE
    rw [if_neg (by decide), hw]
  cases hp : pathB (lockP lk) with
  | false =>
    rw [hp, if_pos rfl] at hu hw
    refine ⟨false, ⟨fun x => absurd (hu.symm.trans x) (by decide), fun x => by cases x⟩, ?_⟩
    have : uwC (newC 1048576) (lockP lk) 1 [] = newC 1048576 := by unfold uwC; rw [if_neg (by rw [hu]; decide)]
    rw [this]
    exact ⟨⟨⟨rfl, rfl⟩, rfl, List.Pairwise.nil, fun r hr => (by cases hr), fun n id h => (by cases h), fun x => (by cases x)⟩, by decide⟩
  | true =>
    rw [hp, if_neg (by decide)] at hu hw
    refine ⟨true, ⟨fun _ => rfl, fun _ => hu⟩, ?_⟩
    have : uwC (newC 1048576) (lockP lk) 1 [] = noteC (doC (newC 1048576) ⟨[], lockP lk, ⟨1, [], 1⟩⟩) ⟨0, 4, 1, 0, 0, lockP lk, []⟩ := by
      unfold uwC
      rw [if_pos hu]
      unfold wrC
      rw [if_pos hw]
      rfl
    obtain ⟨c, hc⟩ : ∃ c, uwC (newC 1048576) (lockP lk) 1 [] = c := ⟨_, rfl⟩
    have hh : c.here = withM [] (lockP lk) ⟨1, [], 1⟩ := by
      rw [← hc, this]
      show applyC [] ⟨[], lockP lk, ⟨1, [], 1⟩⟩ = _
      rw [apply_put _ _ _ (lockP_ne lk)]
    have hh2 : c.here = [⟨lockP lk, ⟨1, [], 1⟩⟩] := hh
    rw [hc]
    refine ⟨⟨⟨by rw [← hc, this]; rfl, by rw [← hc, this]; rfl⟩, by rw [← hc, this]; rfl, by rw [hh2]; exact List.pairwise_singleton _ _, fun r hr => ?_, fun n id h => (by cases h), fun _ => ⟨by rw [hh, peek_with]; simp, hp⟩⟩, by rw [hh2]; exact Nat.le_refl _⟩
    rw [hh2, List.mem_singleton] at hr
    exact .inr ⟨rfl, by rw [hr]⟩
end Go.Proofs.YtalnfiegkkkkgaaGreat.Tx
/- A file system of one's own, and blocks beside it that its calls leave alone; a map of texts. -/
set_option linter.unusedVariables false
set_option linter.unusedSimpArgs false
namespace Go.Proofs.YtalnfiegkkkkgaaGreat.Tx
open Go.RowKit Go.Maps Go.Proofs.YtalnfiegkkkkgaaGreat.Sh

def MineP (w w1 : World) (b : Nat) (c : CSt) (Z : Nat → Prop) : Prop := ∃ F M, FcAt F w1 b c M ∧ (∀ k, M k → w.heap.size ≤ k) ∧ Below w.heap.size w w1 ∧ ∀ k, Z k → ¬ F k ∧ ¬ M k ∧ k < w1.heap.size
section
variable {w w1 w2 : World} {b g i : Nat} {c c' : CSt} {Z Z' : Nat → Prop}
theorem MineP.mine (h : MineP w w1 b c Z) : Mine w w1 b c := by
  obtain ⟨F, M, h1, h2, h3, _⟩ := h
  exact ⟨F, M, h1, h2, h3⟩
theorem MineP.bel (h : MineP w w1 b c Z) : Below w.heap.size w w1 := by
  obtain ⟨F, M, _, _, h3, _⟩ := h
  exact h3
theorem MineP.start (h : Mine w w1 b c) : MineP w w1 b c (fun _ => False) := by
  obtain ⟨F, M, h1, h2, h3⟩ := h
  exact ⟨F, M, h1, h2, h3, fun k hk => hk.elim⟩
theorem MineP.fewer (h : MineP w w1 b c Z) (hz : ∀ k, Z' k → Z k) : MineP w w1 b c Z' := by
  obtain ⟨F, M, h1, h2, h3, h4⟩ := h
  exact ⟨F, M, h1, h2, h3, fun k hk => h4 k (hz k hk)⟩
theorem MineP.below (h : MineP w w1 b c Z) (hb : Below w1.heap.size w1 w2) : MineP w w2 b c Z := by
  obtain ⟨F, M, h1, h2, h3, h4⟩ := h
  exact ⟨F, M, h1.below hb, h2, h3.trans (hb.mono h3.size), fun k hk => ⟨(h4 k hk).1, (h4 k hk).2.1, Nat.lt_of_lt_of_le (h4 k hk).2.2 hb.size⟩⟩
theorem MineP.add (h : MineP w w1 b c Z) (o : Obj) : MineP w (w1.alloc o) b c (fun k => Z k ∨ k = w1.heap.size) := by
  have hb : Below w1.heap.size w1 (w1.alloc o) := (Below.refl _ _).alloc (Nat.le_refl _) _
  obtain ⟨F, M, h1, h2, h3, h4⟩ := h
  refine ⟨F, M, h1.below hb, h2, h3.trans (hb.mono h3.size), fun k hk => ?_⟩
  rcases hk with hk | rfl
  · exact ⟨(h4 k hk).1, (h4 k hk).2.1, Nat.lt_of_lt_of_le (h4 k hk).2.2 hb.size⟩
  · refine ⟨fun hf => ?_, fun hm => ?_, by simp⟩
    · have := h1.low _ hf; omega
    · have := h1.lt _ hm; omega
/-- One of the blocks is written. -/
theorem MineP.upd (h : MineP w w1 b c Z) (ho : Only (fun k => k = g) w1 w2) (hg : Z g) (hgw : w.heap.size ≤ g) : MineP w w2 b c Z := by
  obtain ⟨F, M, h1, h2, h3, h4⟩ := h
  obtain ⟨g1, g2, g3⟩ := h4 g hg
  refine ⟨F, M, h1.only ho (fun k hk e => g1 (e ▸ hk)) (fun k hk e => g2 (e ▸ hk)), h2, ((Only.of_below (M := fun _ => False) h3).trans ho (fun k hk => .inr (by rw [hk]; exact hgw))).below, fun k hk => ⟨(h4 k hk).1, (h4 k hk).2.1, Nat.lt_of_lt_of_le (h4 k hk).2.2 ho.size⟩⟩
theorem MineP.of {F M : Nat → Prop} (hM : ∀ k, M k → w.heap.size ≤ k) (hb : Below w.heap.size w w1) (hz : ∀ k, Z k → ¬ F k ∧ ¬ M k ∧ k < w1.heap.size) (h : FcPost F M w1 b c' w2) : MineP w w2 b c' Z ∧ Only (fun k => ¬ Z k) w1 w2 := by
  obtain ⟨M', h1, h2, h3⟩ := h
  have hzz := hb.size
  refine ⟨⟨_, M', h1, fun k hk => ?_, ((Only.of_below (M := fun _ => False) hb).trans h2 (fun k hk => .inr (hM k hk))).below, fun k hk => ?_⟩, h2.more (fun k _ hm hk => (hz k hk).2.1 hm)⟩
  · rcases h3 k hk with h4 | h4
    · exact hM k h4
    · omega
  · obtain ⟨g1, g2, g3⟩ := hz k hk
    refine ⟨fun hf => ?_, fun hm => ?_, Nat.lt_of_lt_of_le g3 h2.size⟩
    · rcases hf with hf | ⟨h4, _⟩
      · exact g1 hf
      · omega
    · rcases h3 k hm with h4 | h4
      · exact g2 h4
      · omega
theorem set_p (n old new : List UInt8) (h : MineP w w1 b c Z) (hg : GoC c i) (hi : i ≤ 3800) (hn : n.length ≤ 900000) (hol : old.length ≤ 900000) (hnl : new.length ≤ 900000) :
    Calls Tryz.prog 43 #[.pointer (some ⟨b, 0, none⟩), .string (Tx.str n), .string (Tx.str old), .string (Tx.str new)] w1 fun e w' => e = .returned (.int .i64 (setE c n old new)) ∧ MineP w w' b (setC c n old new) Z ∧ Only (fun k => ¬ Z k) w1 w' := by
  obtain ⟨F, M, h1, h2, h3, h4⟩ := h
  exact (set_any F M b c i n old new w1 h1 hg hi hn hol hnl).mono fun e w' h => ⟨h.1, MineP.of h2 h3 h4 h.2⟩
theorem get_p (n : List UInt8) (h : MineP w w1 b c Z) (hg : GoC c i) (hi : i ≤ 3800) (hn : n.length ≤ 900000) :
    Calls Tryz.prog 41 #[.pointer (some ⟨b, 0, none⟩), .string (Tx.str n)] w1 fun e w' => e = .returned (.tuple #[.string (Tx.str (getV c n)), .int .i64 (getE c n)]) ∧ MineP w w' b (getC c n) Z ∧ Only (fun k => ¬ Z k) w1 w' := by
  obtain ⟨F, M, h1, h2, h3, h4⟩ := h
  exact (get_any F M b c _ n w1 h1 (hg.ready (by omega)) hn).mono fun e w' h => ⟨h.1, MineP.of h2 h3 h4 h.2⟩
end
/-- What a map of texts holds. -/
structure HavOK (H : List UInt8 → Option (List UInt8)) (D : DataW Value) : Prop where
  has_ : ∀ p, Maps.has D (.string p) = (H p).isSome
  at_ : ∀ p id, H p = some id → ∀ z, D.atKey (.string p) z = .held (.string (str id))
theorem zeroS (w : World) : (zeroValue 9).run Tryz.prog w = .ok (.string ⟨#[]⟩) w := by kernel_rfl
theorem HavOK.look {H : List UInt8 → Option (List UInt8)} {D : DataW Value} (h : HavOK H D) (p : List UInt8) : ∀ v ps, hv v = some (D.atKey (.string p) (.held (.string ⟨#[]⟩)), ps) → v = .string (str ((H p).getD [])) := by
  intro v ps hv'
  cases hp : H p with
  | none =>
    rw [Maps.atKey_of_not_has (by rw [h.has_, hp]; rfl)] at hv'
    unfold hv at hv'
    injection hv' with hv'
    injection hv' with h3 _
    injection h3
  | some id =>
    rw [h.at_ p id hp] at hv'
    unfold hv at hv'
    injection hv' with hv'
    injection hv' with h3 _
    injection h3
theorem HavOK.empty : HavOK (fun _ => none) (.map []) := ⟨fun p => rfl, fun p id h => by cases h⟩
theorem HavOK.put {H : List UInt8 → Option (List UInt8)} {D : DataW Value} (h : HavOK H D) (hm : Maps.IsMap D) (n id : List UInt8) : HavOK (fun m => if m = n then some id else H m) (D.put (.string n) (.held (.string (str id)))) := by
  refine ⟨fun p => ?_, fun p x hx z => ?_⟩
  · by_cases e : p = n
    · subst e
      rw [Maps.has_put_same hm (isK _), if_pos rfl]
      rfl
    · rw [Maps.has_put_other (fun x => e (by injection x)), if_neg e, h.has_]
  · by_cases e : p = n
    · subst e
      rw [if_pos rfl] at hx
      injection hx with hx
      subst hx
      exact Maps.atKey_put_same hm (isK _) _ _
    · rw [if_neg e] at hx
      rw [Maps.atKey_put_other (fun x => e (by injection x))]
      exact h.at_ p x hx z
theorem wpList_lookup_own {H : Type} {P : Program} (w : World) {ops : Array Oper} {rest : List Oper} {o : Oper} {a : Act} {Q : Exit → Act → World → Prop}
    (hg : o.guard = none) (m x : Operand) (t : TypeId) (hop : o.op = Op.lookup t m x false)
    (k e : TypeId) (K : Keyed P k) (ht : P.underlying t = some (.map k e)) (R : Value → Option (DataW H × List MemPlace)) {z : Value} (hz : (zeroValue e).run P w = .ok z w) (zd : DataW H) (zp : List MemPlace) (hzd : R z = some (zd, zp)) (b n : Nat) (D : DataW H)
    (hm : a.eval m = .map (some b)) (hown : w.ownsMap P k R b n D) (key : Value) (kl : Lit) (hx : a.eval x = key) (hkey : keyOf P k key = some kl)
    (hK : ∀ v ps, R v = some (D.atKey kl zd, ps) → wpList P ops Q rest (a.put o.dst v) w) :
    wpList P ops Q (o :: rest) a w := by
  refine wpList_plain hg fun K' hK' => ?_
  obtain ⟨v, ps, hrun, hv⟩ := hown.lookup K ht hz hzd hkey
  unfold Oper.wp
  simp [execOp, hop, hm, hx, hrun, Result.andThen]
  exact hK' _ _ (hK v ps hv)
/-- A file system, a map of texts, and (where there is one) a local struct, each apart. -/
structure ApW (w wx : World) (b : Nat) (cs : CSt) (mb : Nat) (Z : Nat → Prop) (H : List UInt8 → Option (List UInt8)) (N : Nat) : Prop where
  mine : MineP w wx b cs Z
  z : Z mb
  own : ∃ D n, wx.ownsMap Tryz.prog 9 hv mb n D ∧ HavOK H D ∧ n ≤ N
  mbw : w.heap.size ≤ mb
section
variable {w wx wy : World} {b mb : Nat} {cs c' : CSt} {Z : Nat → Prop} {H : List UInt8 → Option (List UInt8)} {N : Nat}
theorem ApW.step (h : ApW w wx b cs mb Z H N) (hm : MineP w wy b c' Z ∧ Only (fun k => ¬ Z k) wx wy) : ApW w wy b c' mb Z H N := by
  obtain ⟨D, n, h1, h2, h3⟩ := h.own
  exact ⟨hm.1, h.z, ⟨D, n, own_only h1 hm.2 (fun x => x h.z), h2, h3⟩, h.mbw⟩
theorem ApW.below (h : ApW w wx b cs mb Z H N) (hb : Below wx.heap.size wx wy) : ApW w wy b cs mb Z H N := by
  obtain ⟨D, n, h1, h2, h3⟩ := h.own
  exact ⟨h.mine.below hb, h.z, ⟨D, n, own_only h1 (Only.of_below (M := fun _ => False) hb) id, h2, h3⟩, h.mbw⟩
theorem ApW.box (h : ApW w wx b cs mb Z H N) (T : TypeId) (cl : Array Value) : ApW w (wx.alloc (.cells cl T)) b cs mb (fun k => Z k ∨ k = wx.heap.size) H N := by
  obtain ⟨D, n, h1, h2, h3⟩ := h.own
  exact ⟨h.mine.add _, .inl h.z, ⟨D, n, own_only h1 (Only.of_below (M := fun _ => False) ((Below.refl _ _).alloc (Nat.le_refl _) _)) id, h2, h3⟩, h.mbw⟩
theorem ApW.fewer {Z' : Nat → Prop} (h : ApW w wx b cs mb Z H N) (hz : ∀ k, Z' k → Z k) (hm : Z' mb) : ApW w wx b cs mb Z' H N := ⟨h.mine.fewer hz, hm, h.own, h.mbw⟩
theorem ApW.more {N' : Nat} (h : ApW w wx b cs mb Z H N) (hn : N ≤ N') : ApW w wx b cs mb Z H N' := by
  obtain ⟨D, n, h1, h2, h3⟩ := h.own
  exact ⟨h.mine, h.z, ⟨D, n, h1, h2, Nat.le_trans h3 hn⟩, h.mbw⟩
/-- The map has one more. -/
theorem ApW.put (h : ApW w wx b cs mb Z H N) {D : DataW Value} {n : Nat} (hD : HavOK H D) (hm : Maps.IsMap D) (hn : n ≤ N) (nm id : List UInt8) (ho : wy.ownsMap Tryz.prog 9 hv mb (n + 1) (D.put (.string nm) (.held (.string (str id))))) (hg : wx.grownBy wy (some mb)) :
    ApW w wy b cs mb Z (fun m => if m = nm then some id else H m) (N + 1) := by
  refine ⟨h.mine.upd (g := mb) ?_ h.z h.mbw, h.z, ⟨_, _, ho, hD.put hm nm id, by omega⟩, h.mbw⟩
  exact (Only.refl _ _).grown hg (fun g hg => by injection hg with hg; exact .inl hg.symm)
end
theorem own_map {w : World} {b n : Nat} {D : DataW Value} (h : w.ownsMap Tryz.prog 9 hv b n D) : Maps.IsMap D := by
  obtain ⟨es, rfl, _, _⟩ := own_keys h
  exact ⟨es, rfl⟩
end Go.Proofs.YtalnfiegkkkkgaaGreat.Tx
