/- Texts put together: ZRy0, ZRz0. -/
import Derived.Test.YtlgmbljfjfcpoaaGreatQs40
/- marlaw8.RefsApart, as plain data. (No Go in it.) -/
set_option linter.unusedVariables false
set_option linter.unusedSimpArgs false
namespace Go.Proofs.YtlgmbljfjfcpoaaGreat.Tx
open Go.RowKit Go.Proofs.YtlgmbljfjfcpoaaGreat.Sh

abbrev Hav := List UInt8 → Option (List UInt8)
def Hav.set (H : Hav) (n id : List UInt8) : Hav := fun m => if m = n then some id else H m
/-- Refs of the names that H has, and a lock (where st). -/
structure ApS (st : Bool) (lk : List UInt8) (H : Hav) (c : CSt) : Prop where
  calm : Calm c
  room : c.room = 1048576
  ord : Ord c.here
  rows : ∀ r ∈ c.here, (∃ n id, nameB n = true ∧ H n = some id ∧ r.path = refP n ∧ r.f.data = id ++ [10]) ∨ (st = true ∧ r.path = lockP lk)
  refs : ∀ n id, H n = some id → nameB n = true ∧ validB id = true ∧ peekB c.here (refP n) = true
  lock : st = true → peekB c.here (lockP lk) = true ∧ pathB (lockP lk) = true
section
variable {st : Bool} {lk : List UInt8} {H : Hav} {c : CSt}
theorem ApS.to (h : ApS st lk H c) {c' : CSt} (hc : CalmTo c c' c.here) : ApS st lk H c' :=
  ⟨hc.calm, hc.room.trans h.room, by rw [hc.here]; exact h.ord, by rw [hc.here]; exact h.rows, by rw [hc.here]; exact h.refs, by rw [hc.here]; exact h.lock⟩
theorem ApS.data (h : ApS st lk H c) {n id : List UInt8} (hn : H n = some id) : (peekF c.here (refP n)).data = id ++ [10] := by
  rcases h.rows _ (peek_at (h.refs n id hn).2.2) with ⟨m, id', _, h1, h2, h3⟩ | ⟨_, h2⟩
  · have : m = n := (refP_inj h2).symm
    subst this
    rw [hn] at h1
    injection h1 with h1
    subst h1
    exact h3
  · exact absurd h2 (ref_lock _ _)
theorem ApS.none (h : ApS st lk H c) {n : List UInt8} (hn : H n = none) : peekB c.here (refP n) = false := by
  cases hs : peekB c.here (refP n) with
  | false => rfl
  | true =>
    rcases h.rows _ (peek_at hs) with ⟨m, id', _, h1, h2, _⟩ | ⟨_, h2⟩
    · have : m = n := (refP_inj h2).symm
      subst this
      rw [hn] at h1
      cases h1
    · exact absurd h2 (ref_lock _ _)
/-- Is the name kept by the lock? -/
def kept (st : Bool) (lk n : List UInt8) : Bool := st && (decide (n = lk) || (underB (lockP lk) (lockP n) || underB (lockP n) (lockP lk)))
theorem ApS.may_ref (h : ApS st lk H c) {n : List UInt8} (hn : nameB n = true) : mayM c.here (refP n) = true := by
  refine List.all_eq_true.2 fun r hr => ?_
  rcases h.rows r hr with ⟨m, id, h1, _, h2, _⟩ | ⟨_, h2⟩ <;> rw [h2]
  · rw [show underB (refP n) (refP m) = false from under_name h1, show underB (refP m) (refP n) = false from under_name hn]; rfl
  · rw [show underB (refP n) (lockP lk) = false from not_under (by decide), show underB (lockP lk) (refP n) = false from not_under (by decide)]; rfl
theorem ApS.may_lock (h : ApS st lk H c) {n : List UInt8} (hn : nameB n = true) (hk : kept st lk n = false) : mayM c.here (lockP n) = true := by
  refine List.all_eq_true.2 fun r hr => ?_
  rcases h.rows r hr with ⟨m, id, h1, _, h2, _⟩ | ⟨h1, h2⟩ <;> rw [h2]
  · rw [show underB (lockP n) (refP m) = false from not_under (by decide), show underB (refP m) (lockP n) = false from not_under (by decide)]; rfl
  · unfold kept at hk
    rw [h1] at hk
    simp at hk
    rw [hk.2.1, hk.2.2]; rfl
theorem ApS.free (h : ApS st lk H c) {n : List UInt8} (hk : kept st lk n = false) : peekB c.here (lockP n) = false := by
  cases hs : peekB c.here (lockP n) with
  | false => rfl
  | true =>
    rcases h.rows _ (peek_at hs) with ⟨m, id', _, h1, h2, _⟩ | ⟨h1, h2⟩
    · exact absurd h2.symm (ref_lock _ _)
    · have : n = lk := lockP_inj h2
      unfold kept at hk
      rw [h1, this] at hk
      simp at hk
theorem used_few {R : List RowM} (h : ∀ r ∈ R, ShortR r) {K : Nat} (hl : R.length ≤ K) : usedM R ≤ 20000 * K := by
  have h1 := used_bound (fun r hr => (h r hr).2)
  have h2 : R.length * 20000 ≤ K * 20000 := Nat.mul_le_mul_right _ hl
  omega
def oldOf (H : Hav) (n : List UInt8) : List UInt8 := (H n).getD []
/-- A Set of what is there. -/
theorem ApS.set_ (h : ApS st lk H c) (hs : ∀ r ∈ c.here, ShortR r) (hl : c.here.length ≤ 32) {n new : List UInt8} (hv : validB new = true) :
    (kept st lk n = true → setE c n (oldOf H n) new ≠ 0 ∧ ApS st lk H (setC c n (oldOf H n) new) ∧ (setC c n (oldOf H n) new).here.length ≤ c.here.length) ∧
    (kept st lk n = false → (setE c n (oldOf H n) new = 0 ↔ nameB n = true) ∧ (nameB n = true → ApS st lk (H.set n new) (setC c n (oldOf H n) new)) ∧ (nameB n = false → ApS st lk H (setC c n (oldOf H n) new)) ∧ (setC c n (oldOf H n) new).here.length ≤ c.here.length + 1) := by
  have hold : oldOf H n = [] ∨ validB (oldOf H n) = true := by
    unfold oldOf
    cases hn : H n with
    | none => exact .inl rfl
    | some id => exact .inr (h.refs n id hn).2.1
  cases hn : nameB n with
  | false =>
    obtain ⟨e1, e2⟩ := set_noname (c := c) hn (oldOf H n) new
    rw [e1, e2]
    exact ⟨fun _ => ⟨by decide, h, Nat.le_refl _⟩, fun _ => ⟨⟨fun x => absurd x (by decide), fun x => by cases x⟩, fun x => (by cases x), fun _ => h, by omega⟩⟩
  | true =>
    refine ⟨fun hk => ?_, fun hk => ?_⟩
    · unfold kept at hk
      simp only [Bool.and_eq_true, Bool.or_eq_true, decide_eq_true_eq] at hk
      obtain ⟨hst, hk⟩ := hk
      obtain ⟨l1, l2⟩ := h.lock hst
      obtain ⟨e1, e2⟩ := h.calm.set_locked hn hv hold (by
        rcases hk with hk | hk
        · left; rw [hk]; exact l1
        · exact .inr (may_no h.ord (peek_at l1) hk))
      exact ⟨e1, h.to e2, by rw [e2.here]; exact Nat.le_refl _⟩
    · have hroom : (usedM c.here : Int) + 65 ≤ c.room := by
        have := used_few hs hl
        rw [h.room]
        omega
      obtain ⟨e1, e2, _⟩ := h.calm.set_ok h.ord (old := oldOf H n) hn hv (h.free hk) (h.may_lock hn hk) hroom (h.may_ref hn) (by
        unfold oldOf
        cases hx : H n with
        | none => exact .inl ⟨rfl, h.none hx⟩
        | some id => exact .inr ⟨(h.refs n id hx).2.1, (h.refs n id hx).2.2, h.data hx⟩)
      refine ⟨⟨fun _ => rfl, fun _ => e1⟩, fun _ => ⟨e2.calm, e2.room.trans h.room, ?_, fun r hr => ?_, fun m id hm => ?_, fun hst => ?_⟩, fun x => (by cases x), ?_⟩
      · rw [e2.here]; exact with_ord h.ord _ _
      · rw [e2.here] at hr
        rcases mem_with.1 hr with rfl | ⟨hr, hne⟩
        · exact .inl ⟨n, new, hn, by unfold Hav.set; rw [if_pos rfl], rfl, rfl⟩
        · rcases h.rows r hr with ⟨m, id, h1, h2, h3, h4⟩ | h1
          · refine .inl ⟨m, id, h1, ?_, h3, h4⟩
            unfold Hav.set
            rw [if_neg (fun e => hne (by rw [h3, e])), h2]
          · exact .inr h1
      · unfold Hav.set at hm
        rw [e2.here, peek_with]
        by_cases e : m = n
        · rw [if_pos e] at hm
          injection hm with hm
          subst hm e
          exact ⟨hn, hv, by simp⟩
        · rw [if_neg e] at hm
          obtain ⟨g1, g2, g3⟩ := h.refs m id hm
          exact ⟨g1, g2, by rw [g3]; simp⟩
      · obtain ⟨l1, l2⟩ := h.lock hst
        exact ⟨by rw [e2.here, peek_with, l1]; simp, l2⟩
      · rw [e2.here]
        exact with_len _ _ _
theorem nodup_one {α : Type} {a : α} : ∀ {l : List α}, l.Nodup → (∀ x ∈ l, x = a) → l = [] ∨ l = [a]
  | [], _, _ => .inl rfl
  | [x], _, h => .inr (by rw [h x List.mem_cons_self])
  | x :: y :: l, hn, h => by
    have h1 := h x List.mem_cons_self
    have h2 := h y (List.mem_cons_of_mem _ List.mem_cons_self)
    rw [List.nodup_cons] at hn
    exact absurd (by rw [h1, ← h2]; exact List.mem_cons_self) hn.1
theorem hit_ref (n : List UInt8) : hitC lockD (refP n) = false := by
  unfold hitC prefB lockD refP
  simp
theorem hit_lock (n : List UInt8) : hitC lockD (lockP n) = true := by
  unfold hitC prefB lockD lockP
  simp
theorem last_lock (n : List UInt8) : lastN lockD (lockP n) = n := by
  unfold lastN lockD lockP
  simp
theorem ApS.locks (h : ApS st lk H c) : rlsV c lockD = (if (st && nameB lk) = true then [lk] else []) := by
  obtain ⟨e1, e2⟩ := h.calm.lis (dir := lockD) (by decide)
  unfold rlsV
  rw [if_pos e1, e2]
  have hnd : (listC c.here lockD).Nodup := by
    unfold listC pathsM
    exact List.Nodup.sublist List.filter_sublist (ord_nodup h.ord)
  have hall : ∀ x ∈ listC c.here lockD, x = lockP lk := fun x hx => by
    obtain ⟨h1, h2⟩ := List.mem_filter.1 hx
    unfold pathsM at h1
    obtain ⟨r, hr, rfl⟩ := List.mem_map.1 h1
    rcases h.rows r hr with ⟨m, id, _, _, h3, _⟩ | ⟨_, h3⟩
    · rw [h3, hit_ref] at h2; cases h2
    · exact h3
  cases hst : st with
  | false =>
    have : listC c.here lockD = [] := by
      rcases nodup_one hnd hall with e | e
      · exact e
      · have hx : lockP lk ∈ listC c.here lockD := by rw [e]; exact List.mem_singleton.2 rfl
        obtain ⟨h1, h2⟩ := List.mem_filter.1 hx
        unfold pathsM at h1
        obtain ⟨r, hr, h3⟩ := List.mem_map.1 h1
        rcases h.rows r hr with ⟨m, id, _, _, h4, _⟩ | ⟨h4, _⟩
        · exact absurd (h4.symm.trans h3) (ref_lock _ _)
        · rw [hst] at h4; cases h4
    rw [this]
    rfl
  | true =>
    have : listC c.here lockD = [lockP lk] := by
      rcases nodup_one hnd hall with e | e
      · have h1 := peek_at (h.lock hst).1
        have h2 : lockP lk ∈ listC c.here lockD := List.mem_filter.2 ⟨List.mem_map.2 ⟨_, h1, rfl⟩, hit_lock _⟩
        rw [e] at h2
        cases h2
      · exact e
    rw [this]
    unfold nmsL
    rw [List.map_cons, List.map_nil, last_lock, List.filter_cons, List.filter_nil]
    rfl
theorem ApS.unlock (h : ApS st lk H c) : ulkE c = 0 ∧ ulkN c = (if (st && nameB lk) = true then 1 else 0) := by
  have hl := h.locks
  obtain ⟨e1, _⟩ := h.calm.lis (dir := lockD) (by decide)
  have he : ulkE c = 0 := by
    unfold ulkE
    rw [if_pos e1, hl]
    cases hx : (st && nameB lk) with
    | false => rfl
    | true =>
      rw [if_pos rfl]
      simp only [Bool.and_eq_true] at hx
      have h2 := h.calm.tick
      have h3 : remE (bgC c).c (lockP lk) = 0 := by
        rw [h.calm.bg.1, (h2.rem (lockP lk)).1]
        show rmE c (lockP lk) = 0
        unfold rmE
        rw [if_neg (by rw [(h.lock hx.1).2]; decide), if_neg (by rw [(h.lock hx.1).1]; decide)]
      show (if remE (bgC c).c (lockP lk) = 0 then unlE (remC (bgC c).c (lockP lk)) [] else remE (bgC c).c (lockP lk)) = 0
      rw [if_pos h3]
      rfl
  refine ⟨he, ?_⟩
  unfold ulkN
  rw [if_pos he, hl]
  cases hx : (st && nameB lk) <;> rfl
end
end Go.Proofs.YtlgmbljfjfcpoaaGreat.Tx
/- marlaw8.RefsEither, as plain data. (No Go in it.) -/
set_option linter.unusedVariables false
set_option linter.unusedSimpArgs false
namespace Go.Proofs.YtlgmbljfjfcpoaaGreat.Tx
open Go.RowKit Go.Proofs.YtlgmbljfjfcpoaaGreat.Sh

section
variable {c : CSt}
theorem bg_room (c : CSt) : (bgC c).c.room = c.room := (bgK_plan c _).2.2
theorem crt_room (c : CSt) (p : List UInt8) (mode : Int) (data : List UInt8) (create : Bool) : (crtC c p mode data create).room = c.room := by
  unfold crtC
  split
  · exact (wr_plan _ _ _ _ _ _).2.2.trans (bg_room c)
  · exact bg_room c
theorem mov_room (c : CSt) (fr tt : List UInt8) (create : Bool) : (movC c fr tt create).room = c.room := by
  unfold movC
  split
  · unfold mvC
    split
    · exact bg_room c
    · exact bg_room c
  · exact bg_room c
theorem rem_room (c : CSt) (p : List UInt8) : (remC c p).room = c.room := by
  unfold remC
  split
  · exact (rm_plan _ _).2.2.trans (bg_room c)
  · exact bg_room c
theorem syn_room (c : CSt) : (synC c).room = c.room := by
  unfold synC
  split <;> exact bg_room c
theorem prep_room (c : CSt) (n old : List UInt8) : (prepC c n old).room = c.room := by
  unfold prepC
  split
  · exact (syn_room _).trans (bg_room c)
  · exact bg_room c
theorem sl_room (c : CSt) (n old : List UInt8) : (slC c n old).room = c.room := by
  unfold slC
  split
  · split
    · exact (syn_room _).trans ((mov_room _ _ _ _).trans (prep_room c n old))
    · exact (mov_room _ _ _ _).trans (prep_room c n old)
  · exact (rem_room _ _).trans (prep_room c n old)
theorem set_room (c : CSt) (n old new : List UInt8) : (setC c n old new).room = c.room := by
  unfold setC
  split
  · rfl
  · split
    · rfl
    · split
      · exact (sl_room _ _ _).trans (crt_room c _ _ _ _)
      · exact crt_room c _ _ _ _
theorem InvC.prep (h : InvC c) (n old : List UInt8) : InvC (prepC c n old) := by
  unfold prepC
  split
  · exact h.bg.syn
  · exact h.bg
theorem InvC.sl (h : InvC c) (n old : List UInt8) : InvC (slC c n old) := by
  unfold slC
  split
  · split
    · exact ((h.prep n old).mov _ _ _).syn
    · exact (h.prep n old).mov _ _ _
  · exact (h.prep n old).rem _
theorem InvC.set_ (h : InvC c) (n old new : List UInt8) : InvC (setC c n old new) := by
  unfold setC
  split
  · exact h
  · split
    · exact h
    · split
      · exact (h.crt _ _ _ _).sl n old
      · exact h.crt _ _ _ _
theorem InvC.sure (h : InvC c) (hp : c.pending = []) : c.durable = c.here := by
  rw [h.here, hp]
  rfl
end
/-- What stands behind the first Sets. -/
structure EiS (a b o : List UInt8) (c : CSt) : Prop where
  calm : Calm c
  room : c.room = 1048576
  good : Good a b o c.here
  free : peekB c.here (lockP hdN) = false
  sure : c.durable = c.here
  pend : c.pending = []
theorem other_row {o : List UInt8} (ho : validB o = true) : setE (newC 1048576) otN [] o = 0 ∧ InvC (setC (newC 1048576) otN [] o) ∧ ∃ f : FileM, f.data = o ++ [10] ∧ CalmTo (newC 1048576) (setC (newC 1048576) otN [] o) [⟨refP otN, f⟩] ∧ (setC (newC 1048576) otN [] o).pending = [] := by
  have c0 : Calm (newC 1048576) := ⟨rfl, rfl⟩
  have o0 : Ord (newC 1048576).here := List.Pairwise.nil
  obtain ⟨h1, h2, h3⟩ := c0.set_ok o0 (n := otN) (old := []) (new := o) (by decide) ho rfl rfl (by show ((0 : Nat) : Int) + 65 ≤ 1048576; omega) rfl (.inl ⟨rfl, rfl⟩)
  exact ⟨h1, (InvC.new_ _).set_ _ _ _, _, rfl, h2, h3⟩
theorem good_one {b o : List UInt8} {f : FileM} (hf : f.data = o ++ [10]) : Good [] b o [⟨refP otN, f⟩] := by
  have hm : (⟨refP otN, f⟩ : RowM) ∈ [(⟨refP otN, f⟩ : RowM)] := List.mem_singleton.2 rfl
  refine ⟨List.pairwise_singleton _ _, fun r hr => ?_, peek_yes hm, fun h => absurd rfl h⟩
  rw [List.mem_singleton.1 hr]
  exact .inl ⟨rfl, hf⟩
theorem free_one (f : FileM) : peekB [(⟨refP otN, f⟩ : RowM)] (lockP hdN) = false ∧ peekB [(⟨refP otN, f⟩ : RowM)] (refP hdN) = false := by
  refine ⟨?_, ?_⟩
  · cases hs : peekB [(⟨refP otN, f⟩ : RowM)] (lockP hdN) with
    | false => rfl
    | true => exact absurd (congrArg RowM.path (List.mem_singleton.1 (peek_at hs))) (show ¬ (lockP hdN = refP otN) from by decide)
  · cases hs : peekB [(⟨refP otN, f⟩ : RowM)] (refP hdN) with
    | false => rfl
    | true => exact absurd (congrArg RowM.path (List.mem_singleton.1 (peek_at hs))) (show ¬ (refP hdN = refP otN) from by decide)
theorem may_one (f : FileM) : mayM [(⟨refP otN, f⟩ : RowM)] (lockP hdN) = true ∧ mayM [(⟨refP otN, f⟩ : RowM)] (refP hdN) = true := by
  refine ⟨?_, ?_⟩
  · show (!(underB (lockP hdN) (refP otN) || underB (refP otN) (lockP hdN)) && true) = true; decide
  · show (!(underB (refP hdN) (refP otN) || underB (refP otN) (refP hdN)) && true) = true; decide
theorem ei_none {b o : List UInt8} (ho : validB o = true) : EiS [] b o (setC (newC 1048576) otN [] o) := by
  obtain ⟨_, hi, f, hf, h2, h3⟩ := other_row ho
  refine ⟨h2.calm, h2.room, by rw [h2.here]; exact good_one hf, by rw [h2.here]; exact (free_one f).1, hi.sure h3, h3⟩
theorem ei_some {a b o : List UInt8} (ha : validB a = true) (ho : validB o = true) : setE (setC (newC 1048576) otN [] o) hdN [] a = 0 ∧ EiS a b o (setC (setC (newC 1048576) otN [] o) hdN [] a) := by
  obtain ⟨_, hi, f, hf, h2, h3⟩ := other_row ho
  generalize setC (newC 1048576) otN [] o = c1 at *
  have o1 : Ord c1.here := by rw [h2.here]; exact List.pairwise_singleton _ _
  have hg : Good [] a o c1.here := by rw [h2.here]; exact good_one hf
  obtain ⟨k1, k2, k3⟩ := h2.calm.set_ok o1 (n := hdN) (old := []) (new := a) (by decide) ha (by rw [h2.here]; exact (free_one f).1) (by rw [h2.here]; exact (may_one f).1) (by
    have := hg.few (by decide) (by rw [valid_len ha]; decide) (by rw [valid_len ho]; decide)
    rw [h2.room]
    show (usedM c1.here : Int) + 65 ≤ 1048576
    omega) (by rw [h2.here]; exact (may_one f).2) (.inl ⟨rfl, by rw [h2.here]; exact (free_one f).2⟩)
  have hi2 := hi.set_ hdN [] a
  refine ⟨k1, k2.calm, k2.room.trans h2.room, ?_, ?_, hi2.sure k3, k3⟩
  · rw [k2.here]
    refine ⟨with_ord o1 _ _, fun r hr => ?_, by rw [peek_with, hg.other]; simp, fun _ => by rw [peek_with]; simp⟩
    rcases mem_with.1 hr with rfl | ⟨hr, hne⟩
    · exact .inr (.inl ⟨rfl, .inl ⟨valid_ne ha, rfl⟩⟩)
    · rcases hg.rows r hr with h | ⟨h, _⟩ | h
      · exact .inl h
      · exact absurd h hne
      · exact .inr (.inr h)
  · rw [k2.here, peek_with, show peekB c1.here (lockP hdN) = false from by rw [h2.here]; exact (free_one f).1]
    decide
/-- The plan is laid. -/
theorem EiS.plan {a b o : List UInt8} {c : CSt} (h : EiS a b o c) {R : List EvM} (hR : ∀ e ∈ R, e.kind ≠ 4 ∧ e.kind ≠ 5) : JInv a b o { c with plan := R } := by
  refine ⟨by show Good a b o c.durable; rw [h.sure]; exact h.good, by show ∀ q ∈ c.pending, _; rw [h.pend]; exact fun q hq => (by cases hq), ?_, fun _ hs => ?_, hR⟩
  · show c.here = c.pending.foldl applyC c.durable
    rw [h.pend, ← h.sure]
    rfl
  · have : peekB c.here (lockP hdN) = true := hs
    rw [h.free] at this
    cases this
/-- Behind the crash: up again, nothing planned. -/
structure EiC (a b o : List UInt8) (c : CSt) : Prop where
  calm : Calm c
  room : c.room = 1048576
  good : Good a b o c.here
section
variable {a b o : List UInt8} {c : CSt}
theorem Good.may (h : Good a b o c.here) (hf : peekB c.here (lockP hdN) = false) : mayM c.here (lockP hdN) = true ∧ mayM c.here (refP hdN) = true := by
  have key : ∀ r ∈ c.here, r.path = refP otN ∨ r.path = refP hdN := fun r hr => by
    rcases h.rows r hr with ⟨e, _⟩ | ⟨e, _⟩ | ⟨e, _⟩
    · exact .inl e
    · exact .inr e
    · have := peek_yes hr
      rw [e, hf] at this
      cases this
  refine ⟨List.all_eq_true.2 fun r hr => ?_, List.all_eq_true.2 fun r hr => ?_⟩ <;> rcases key r hr with e | e <;> rw [e] <;> decide
theorem EiC.locks (h : EiC a b o c) : rlsV c lockD = (if peekB c.here (lockP hdN) = true then [hdN] else []) := by
  obtain ⟨e1, e2⟩ := h.calm.lis (dir := lockD) (by decide)
  unfold rlsV
  rw [if_pos e1, e2]
  have hnd : (listC c.here lockD).Nodup := by
    unfold listC pathsM
    exact List.Nodup.sublist List.filter_sublist (ord_nodup h.good.ord)
  have hall : ∀ x ∈ listC c.here lockD, x = lockP hdN := fun x hx => by
    obtain ⟨h1, h2⟩ := List.mem_filter.1 hx
    unfold pathsM at h1
    obtain ⟨r, hr, rfl⟩ := List.mem_map.1 h1
    rcases h.good.rows r hr with ⟨e, _⟩ | ⟨e, _⟩ | ⟨e, _⟩
    · rw [e, hit_ref] at h2; cases h2
    · rw [e, hit_ref] at h2; cases h2
    · exact e
  cases hst : peekB c.here (lockP hdN) with
  | false =>
    have : listC c.here lockD = [] := by
      rcases nodup_one hnd hall with e | e
      · exact e
      · have hx : lockP hdN ∈ listC c.here lockD := by rw [e]; exact List.mem_singleton.2 rfl
        obtain ⟨h1, h2⟩ := List.mem_filter.1 hx
        unfold pathsM at h1
        obtain ⟨r, hr, h3⟩ := List.mem_map.1 h1
        have := peek_yes hr
        rw [h3, hst] at this
        cases this
    rw [this]
    rfl
  | true =>
    have : listC c.here lockD = [lockP hdN] := by
      rcases nodup_one hnd hall with e | e
      · have h1 := peek_at hst
        have h2 : lockP hdN ∈ listC c.here lockD := List.mem_filter.2 ⟨List.mem_map.2 ⟨_, h1, rfl⟩, hit_lock _⟩
        rw [e] at h2
        cases h2
      · exact e
    rw [this]
    decide
theorem EiC.unlock (h : EiC a b o c) : ulkE c = 0 ∧ EiC a b o (ulkC c) ∧ peekB (ulkC c).here (lockP hdN) = false := by
  have hl := h.locks
  obtain ⟨e1, _⟩ := h.calm.lis (dir := lockD) (by decide)
  unfold ulkE ulkC
  rw [if_pos e1, if_pos e1, hl, h.calm.bg.1]
  cases hst : peekB c.here (lockP hdN) with
  | false => exact ⟨rfl, ⟨h.calm.tick, h.room, h.good⟩, hst⟩
  | true =>
    obtain ⟨m1, m2⟩ := h.calm.tick.rem (lockP hdN)
    have h3 : rmE (Tx.tick (Tx.tick c)) (lockP hdN) = 0 := by
      show rmE c (lockP hdN) = 0
      unfold rmE
      rw [if_neg (by decide), if_neg (by rw [hst]; decide)]
    have m1' : remE (Tx.tick c) (lockP hdN) = 0 := m1.trans h3
    rw [if_pos rfl]
    show (if remE (Tx.tick c) (lockP hdN) = 0 then unlE (remC (Tx.tick c) (lockP hdN)) [] else remE (Tx.tick c) (lockP hdN)) = 0 ∧ EiC a b o (if remE (Tx.tick c) (lockP hdN) = 0 then unlC (remC (Tx.tick c) (lockP hdN)) [] else remC (Tx.tick c) (lockP hdN)) ∧ peekB (if remE (Tx.tick c) (lockP hdN) = 0 then unlC (remC (Tx.tick c) (lockP hdN)) [] else remC (Tx.tick c) (lockP hdN)).here (lockP hdN) = false
    rw [if_pos m1', if_pos m1']
    have hc : unlC (remC (Tx.tick c) (lockP hdN)) [] = doC (Tx.tick (Tx.tick c)) ⟨lockP hdN, [], ⟨0, [], 0⟩⟩ := by
      show remC (Tx.tick c) (lockP hdN) = _
      rw [m2]
      unfold rmC
      rw [if_pos h3]
    have t := h.calm.same.tick.tick.do_ ⟨lockP hdN, [], ⟨0, [], 0⟩⟩
    rw [apply_drop _ _ _ (lockP_ne _)] at t
    rw [hc]
    exact ⟨rfl, ⟨t.calm, t.room.trans h.room, by rw [t.here]; exact h.good.drop⟩, by rw [t.here, peek_without]; simp⟩
/-- Set goes on. -/
theorem EiC.last (h : EiC a b o c) (hf : peekB c.here (lockP hdN) = false) (ha : a = [] ∨ validB a = true) (hb : validB b = true) (ho : validB o = true) :
    setE c hdN (if isB c.here hdN b = true then b else a) o = 0 ∧ isB (setC c hdN (if isB c.here hdN b = true then b else a) o).here hdN o = true := by
  obtain ⟨m1, m2⟩ := h.good.may hf
  have hal : a.length ≤ 64 := by
    rcases ha with e | e
    · rw [e]; decide
    · rw [valid_len e]; decide
  have hu := h.good.few hal (by rw [valid_len hb]; decide) (by rw [valid_len ho]; decide)
  have hnow : ((if isB c.here hdN b = true then b else a) = [] ∧ peekB c.here (refP hdN) = false) ∨ (validB (if isB c.here hdN b = true then b else a) = true ∧ peekB c.here (refP hdN) = true ∧ (peekF c.here (refP hdN)).data = (if isB c.here hdN b = true then b else a) ++ [10]) := by
    by_cases hb1 : isB c.here hdN b = true
    · rw [if_pos hb1]
      unfold isB at hb1
      rw [if_neg (valid_ne hb)] at hb1
      simp only [Bool.and_eq_true, decide_eq_true_eq] at hb1
      exact .inr ⟨hb, hb1.1, hb1.2⟩
    · rw [if_neg hb1]
      have h1 := h.good.either (valid_ne hb)
      have h2 : isB c.here hdN a = true := h1.resolve_right hb1
      unfold isB at h2
      rcases ha with e | e
      · rw [if_pos e] at h2
        exact .inl ⟨e, by simpa using h2⟩
      · rw [if_neg (valid_ne e)] at h2
        simp only [Bool.and_eq_true, decide_eq_true_eq] at h2
        exact .inr ⟨e, h2.1, h2.2⟩
  obtain ⟨k1, k2, _⟩ := h.calm.set_ok h.good.ord (n := hdN) (new := o) (by decide) ho hf m1 (by rw [h.room]; omega) m2 hnow
  refine ⟨k1, is_of (valid_ne ho) ?_ ?_⟩
  · rw [k2.here, peek_with]; simp
  · rw [k2.here, peekf_with h.good.ord]
end
end Go.Proofs.YtlgmbljfjfcpoaaGreat.Tx
