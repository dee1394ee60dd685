/- Texts put together: YFm6, YFm7, YFm8. -/
import Derived.Test.YtlgmbljfjfcpoaaGreatQt08
/- A file system that falls, as plain data: each call keeps what holds. (No Go in it.) -/
namespace Go.Proofs.YtlgmbljfjfcpoaaGreat.Tx

theorem Inv.of_rows {st : FSM} (hp : st.pending = []) (hs : st.sure = st.now) (hr : RowsOk st.now st.time) : Inv st := by
  have e : ∀ k, againM st k = st.now := fun k => by unfold againM; rw [hp, hs]; simp
  exact ⟨(e _).symm, fun k => by rw [e]; exact hr, fun k o ho => by rw [hp] at ho; cases ho⟩
theorem putE_ok {st : FSM} {p : List UInt8} {mode : Int} {data : List UInt8} {only full : Bool} {room : Int} (h : putE st p mode data only full room = 0) :
    pathB p = true ∧ (1 ≤ mode ∧ mode ≤ 3) ∧ data.length ≤ 20000 ∧ ((∃ r ∈ st.now, r.path = p) ∨ mayM st.now p = true) := by
  unfold putE at h
  split at h
  · cases h
  · rename_i h1
    split at h
    · cases h
    · rename_i h2
      split at h
      · cases h
      · rename_i h3
        split at h
        · cases h
        · split at h
          · cases h
          · rename_i h5
            refine ⟨by simpa using h1, by omega, by omega, ?_⟩
            cases hf : findM st.now p with
            | some i => exact .inl (find_some (by rw [hf]; rfl))
            | none =>
              right
              cases hm : mayM st.now p with
              | true => rfl
              | false => exact absurd ⟨by rw [hf]; rfl, hm⟩ h5
theorem Inv.put {st : FSM} (h : Inv st) (p : List UInt8) (mode : Int) (data : List UInt8) (only full : Bool) (room : Int) : Inv (putM st p mode data only full room) := by
  unfold putM
  split
  · rename_i he
    obtain ⟨a, b, c, d⟩ := putE_ok he
    refine h.change _ ?_ ?_
    · rw [opOf_yes rfl]
      exact (h.rows.later (by omega)).with_ (p := p) (f := ⟨mode, data, st.time + 1⟩) a b c (Int.le_refl _) d
    · rw [opOf_yes rfl]
      exact fun _ => ⟨a, b, c, Int.le_refl _, d⟩
  · exact h
theorem Inv.drop {st : FSM} (h : Inv st) (p : List UInt8) : Inv (dropM st p) := by
  unfold dropM
  split
  · refine h.change _ ?_ ?_
    · rw [opOf_no (show (3 : Int) ≠ 1 by decide)]
      exact (h.rows.later (by omega)).without p
    · rw [opOf_no (show (3 : Int) ≠ 1 by decide)]
      exact fun hk => absurd hk (show ¬ (3 : Int) = 1 by decide)
  · exact h
theorem Inv.move {st : FSM} (h : Inv st) (fr tt : List UInt8) (only : Bool) : Inv (moveM0 st fr tt only) := by
  unfold moveM0
  split
  · rename_i he
    obtain ⟨he, hne⟩ := he
    have hgo : pathB tt = true ∧ ((findM st.now tt).isNone = true → mayM (withoutM st.now fr) tt = true) := by
      unfold moveE0 at he
      split at he
      · cases he
      · rename_i h1
        split at he
        · cases he
        · split at he
          · cases he
          · split at he
            · cases he
            · rename_i h5
              refine ⟨?_, fun hn => ?_⟩
              · cases ht : pathB tt with
                | true => rfl
                | false => exact absurd (.inr ht) h1
              · cases hm : mayM (withoutM st.now fr) tt with
                | true => rfl
                | false => exact absurd ⟨hn, hm⟩ h5
    refine h.change _ ?_ ?_
    · rw [opOf_no (show (2 : Int) ≠ 1 by decide)]
      show RowsOk (applyM st.now ⟨2, fr, tt, ⟨0, [], 0⟩⟩) (st.time + 1)
      unfold applyM
      rw [if_neg (show ¬ (2 : Int) = 1 by decide), if_pos rfl]
      split
      · exact h.rows.later (by omega)
      · split
        · exact h.rows.later (by omega)
        · rename_i r hr
          have hrow := h.rows.row r (List.mem_of_getElem? hr)
          refine ((h.rows.later (by omega)).without fr).with_ hgo.1 ⟨hrow.2.1, hrow.2.2.1⟩ hrow.2.2.2.1 (by have := hrow.2.2.2.2; omega) ?_
          cases hn : (findM st.now tt).isNone with
          | true => exact .inr (hgo.2 hn)
          | false =>
            obtain ⟨c, hc, e⟩ := find_some (R := st.now) (p := tt) (by cases hf : findM st.now tt <;> simp_all)
            exact .inl ⟨c, mem_without.2 ⟨hc, by rw [e]; exact fun e2 => hne e2.symm⟩, e⟩
    · rw [opOf_no (show (2 : Int) ≠ 1 by decide)]
      exact fun hk => absurd hk (show ¬ (2 : Int) = 1 by decide)
  · exact h
theorem Inv.torn {st : FSM} (h : Inv st) (keep torn : Int) : RowsOk (tornM st keep torn) st.time := by
  unfold tornM
  split
  · exact h.ok _
  · rename_i o ho
    split
    · rename_i hk
      obtain ⟨a, b, c, d, e⟩ := h.op _ o ho hk.1
      show RowsOk (applyM (againM st (keepM st keep)) { o with f := { o.f with data := o.f.data.take torn.toNat } }) st.time
      unfold applyM
      rw [if_pos hk.1]
      exact (h.ok _).with_ (p := o.to) (f := { o.f with data := o.f.data.take torn.toNat }) a b (by show (o.f.data.take torn.toNat).length ≤ 20000; rw [List.length_take]; omega) d e
    · exact h.ok _
theorem Inv.crash {st : FSM} (h : Inv st) (keep torn : Int) : Inv (crashM st keep torn) := by
  cases hd : st.down with
  | true => rw [crash_down hd]; exact h
  | false =>
    rw [crash_up hd]
    exact Inv.of_rows rfl rfl (h.torn keep torn)
theorem Inv.userW {st : FSM} (h : Inv st) (p : List UInt8) (mode : Int) (data : List UInt8) : Inv (userWM st p mode data) := by
  unfold userWM
  split
  · have h1 := (h.put p mode data false false 1152921504606846976).safe
    exact ⟨h1.now, h1.ok, h1.op⟩
  · exact h
theorem Inv.userR {st : FSM} (h : Inv st) (p : List UInt8) : Inv (userRM st p) := by
  unfold userRM
  split
  · have h1 := (h.drop p).safe
    exact ⟨h1.now, h1.ok, h1.op⟩
  · exact h
theorem Inv.ev {s : BegM} (h : Inv s.st) (e : EvM) : Inv (evM s e).st := by
  unfold evM
  split
  · split
    · exact h.crash _ _
    · split
      · exact h
      · split
        · exact h
        · split
          · exact h.userW _ _ _
          · split
            · exact h.userR _
            · exact h
  · exact h
theorem Inv.beg {st : FSM} (h : Inv st) : ∀ k, Inv (begM st k).st
  | 0 => ⟨h.now, h.ok, h.op⟩
  | k + 1 => by
    cases he : st.plan[k]? with
    | none =>
      have hl : st.plan.length ≤ k := by simpa using he
      have e : begM st (k + 1) = begM st k := by
        unfold begM
        rw [List.take_of_length_le hl, List.take_of_length_le (by omega)]
      rw [e]; exact Inv.beg h k
    | some e =>
      rw [beg_next he]
      exact (Inv.beg h k).ev e
theorem Inv.begun {st : FSM} (h : Inv st) : Inv (beginM st).st := h.beg _
end Go.Proofs.YtlgmbljfjfcpoaaGreat.Tx
/- A file system that falls, as plain data: how many bytes its rows hold. (No Go in it.) -/
namespace Go.Proofs.YtlgmbljfjfcpoaaGreat.Tx

theorem used_app (A B : List RowM) : usedM (A ++ B) = usedM A + usedM B := by unfold usedM; rw [List.map_append, List.sum_append]
theorem used_cons (r : RowM) (R : List RowM) : usedM (r :: R) = r.f.data.length + usedM R := by unfold usedM; rw [List.map_cons, List.sum_cons]
theorem used_with (R : List RowM) (p : List UInt8) (f : FileM) : usedM (withM R p f) = usedM (withoutM R p) + f.data.length := by
  obtain ⟨A, B, h1, h2, _, _⟩ := with_split R p f
  rw [h1, h2, used_app, used_app, used_cons]
  show usedM A + (f.data.length + usedM B) = _
  omega
theorem without_cons (r : RowM) (R : List RowM) (p : List UInt8) : withoutM (r :: R) p = if r.path = p then withoutM R p else r :: withoutM R p := by
  unfold withoutM
  rw [List.filter_cons]
  by_cases h : r.path = p
  · simp [h]
  · simp [h]
theorem used_without_le (p : List UInt8) : ∀ R : List RowM, usedM (withoutM R p) ≤ usedM R
  | [] => Nat.le_refl _
  | r :: R => by
    have ih := used_without_le p R
    rw [without_cons, used_cons]
    split
    · omega
    · rw [used_cons]; omega
theorem old_cons (r : RowM) (R : List RowM) (p : List UInt8) : oldM (r :: R) p = if r.path = p then r.f.data.length else oldM R p := by
  unfold oldM findM
  rw [List.findIdx?_cons]
  by_cases h : r.path = p
  · simp [h]
  · simp [h]
    cases List.findIdx? (fun r => r.path == p) R <;> simp
theorem without_none {R : List RowM} {p : List UInt8} (h : ∀ r ∈ R, r.path ≠ p) : withoutM R p = R := by
  unfold withoutM
  rw [List.filter_eq_self]
  intro r hr
  simpa using h r hr
theorem used_without (p : List UInt8) : ∀ {R : List RowM}, Ord R → usedM (withoutM R p) + oldM R p = usedM R
  | [], _ => rfl
  | r :: R, h => by
    have h' := List.pairwise_cons.1 h
    have ih := used_without p h'.2
    rw [without_cons, old_cons, used_cons]
    split
    · rename_i hp
      have hn : ∀ x ∈ R, x.path ≠ p := fun x hx e => by
        have := h'.1 x hx
        rw [e, hp, bl_irr] at this
        cases this
      rw [without_none hn]
      omega
    · rw [used_cons]; omega
/-- What a change makes of the bytes: no more than a file that is put. -/
theorem used_put {R : List RowM} (h : Ord R) (p : List UInt8) (f : FileM) : (usedM (withM R p f) : Int) = (usedM R : Int) - oldM R p + f.data.length := by
  have h1 := used_with R p f
  have h2 := used_without p h
  omega
theorem used_row {R : List RowM} {r : RowM} {p : List UInt8} (h : r ∈ R) (hp : r.path = p) (ho : Ord R) : oldM R p = r.f.data.length := by
  induction R with
  | nil => cases h
  | cons x R ih =>
    have h' := List.pairwise_cons.1 ho
    rw [old_cons]
    rcases List.mem_cons.1 h with e | h
    · rw [← e, if_pos hp]
    · rw [if_neg (fun e => by have := h'.1 r h; rw [hp, e, bl_irr] at this; cases this)]
      exact ih h h'.2
theorem used_moved {R : List RowM} (h : Ord R) {fr tt : List UInt8} {i : Nat} {r : RowM} (hf : findM R fr = some i) (hr : R[i]? = some r) : usedM (withM (withoutM R fr) tt r.f) ≤ usedM R := by
  obtain ⟨r', hr', hp⟩ := find_at hf
  rw [hr] at hr'
  injection hr' with hr'
  subst hr'
  have h1 := used_with (withoutM R fr) tt r.f
  have h2 := used_without_le tt (withoutM R fr)
  have h3 := used_without fr h
  have h4 := used_row (List.mem_of_getElem? hr) hp h
  omega
theorem used_apply {R : List RowM} (h : Ord R) {o : OpM} (hk : o.kind ≠ 1) : usedM (applyM R o) ≤ usedM R := by
  unfold applyM
  rw [if_neg hk]
  split
  · split
    · exact Nat.le_refl _
    · rename_i i hi
      split
      · exact Nat.le_refl _
      · rename_i r hr
        exact used_moved h hi hr
  · exact used_without_le _ _
end Go.Proofs.YtlgmbljfjfcpoaaGreat.Tx
/- A file system that falls, as plain data: the room is kept but for what users write. (No Go in it.) -/
namespace Go.Proofs.YtlgmbljfjfcpoaaGreat.Tx

def Kept (st : FSM) : Prop := st.user ≠ [] ∨ ∀ k, (usedM (againM st k) : Int) ≤ max st.room 0
theorem Kept.now {st : FSM} (h : Kept st) (hi : Inv st) : st.user ≠ [] ∨ (usedM st.now : Int) ≤ max st.room 0 := by
  rcases h with h | h
  · exact .inl h
  · right; rw [hi.now]; exact h _
theorem Kept.new_ (room : Int) : Kept ⟨room, [], [], [], [], 0, 0, false, []⟩ := by
  right
  intro k
  have e : againM ⟨room, [], [], [], [], 0, 0, false, []⟩ k = [] := by unfold againM; simp
  rw [e]
  show ((0 : Nat) : Int) ≤ max room 0
  omega
theorem Kept.change {st : FSM} (h : Kept st) (hi : Inv st) (o : OpM) (ho : (usedM st.now : Int) ≤ max st.room 0 → (usedM (applyM st.now (opOf st o)) : Int) ≤ max st.room 0) : Kept (changeM st o) := by
  rcases h with h | h
  · exact .inl h
  · right
    intro k
    rw [again_change hi.now]
    show _ ≤ max st.room 0
    split
    · exact h k
    · exact ho (by rw [hi.now]; exact h _)
theorem Kept.of_rows {st : FSM} (hp : st.pending = []) (hs : st.sure = st.now) (hr : st.user ≠ [] ∨ (usedM st.now : Int) ≤ max st.room 0) : Kept st := by
  have e : ∀ k, againM st k = st.now := fun k => by unfold againM; rw [hp, hs]; simp
  rcases hr with hr | hr
  · exact .inl hr
  · exact .inr fun k => by rw [e]; exact hr
theorem Kept.safe {st : FSM} (h : Kept st) (hi : Inv st) : Kept (safeM st) := Kept.of_rows rfl rfl (h.now hi)
theorem putE_room {st : FSM} {p : List UInt8} {mode : Int} {data : List UInt8} {only full : Bool} {room : Int} (h : putE st p mode data only full room = 0) : (usedM st.now : Int) - oldM st.now p + data.length ≤ room := by
  unfold putE at h
  repeat (split at h; · cases h)
  rename_i h6
  have : ¬ room < (usedM st.now : Int) - oldM st.now p + data.length := fun e => h6 (.inr e)
  omega
theorem Kept.put {st : FSM} (h : Kept st) (hi : Inv st) (p : List UInt8) (mode : Int) (data : List UInt8) (only full : Bool) : Kept (putM st p mode data only full st.room) := by
  unfold putM
  split
  · rename_i he
    have hr := putE_room he
    refine h.change hi _ (fun _ => ?_)
    rw [opOf_yes rfl]
    have h1 := used_put hi.rows.ord p ⟨mode, data, st.time + 1⟩
    show (usedM (withM st.now p ⟨mode, data, st.time + 1⟩) : Int) ≤ _
    have h2 : ((⟨mode, data, st.time + 1⟩ : FileM).data.length : Int) = data.length := rfl
    omega
  · exact h
theorem Kept.other {st : FSM} (h : Kept st) (hi : Inv st) (o : OpM) (hk : o.kind ≠ 1) : Kept (changeM st o) := h.change hi o (fun hn => by
  rw [opOf_no hk]
  have := used_apply hi.rows.ord hk
  omega)
theorem Kept.drop {st : FSM} (h : Kept st) (hi : Inv st) (p : List UInt8) : Kept (dropM st p) := by
  unfold dropM
  split
  · exact h.other hi _ (show (3 : Int) ≠ 1 by decide)
  · exact h
theorem Kept.move {st : FSM} (h : Kept st) (hi : Inv st) (fr tt : List UInt8) (only : Bool) : Kept (moveM0 st fr tt only) := by
  unfold moveM0
  split
  · exact h.other hi _ (show (2 : Int) ≠ 1 by decide)
  · exact h
theorem torn_used (st : FSM) (keep torn : Int) : usedM (tornM st keep torn) ≤ usedM (againM st (keepM st keep)) ∨ usedM (tornM st keep torn) ≤ usedM (againM st (keepM st keep + 1)) := by
  unfold tornM
  split
  · exact .inl (Nat.le_refl _)
  · rename_i o ho
    split
    · rename_i hk
      right
      rw [again_next ho]
      have e1 : applyM (againM st (keepM st keep)) o = withM (againM st (keepM st keep)) o.to o.f := by unfold applyM; rw [if_pos hk.1]
      have e2 : applyM (againM st (keepM st keep)) { o with f := { o.f with data := o.f.data.take torn.toNat } } = withM (againM st (keepM st keep)) o.to { o.f with data := o.f.data.take torn.toNat } := by unfold applyM; rw [if_pos hk.1]
      rw [e1, e2, used_with, used_with]
      show _ + (o.f.data.take torn.toNat).length ≤ _
      rw [List.length_take]
      omega
    · exact .inl (Nat.le_refl _)
theorem Kept.crash {st : FSM} (h : Kept st) (keep torn : Int) : Kept (crashM st keep torn) := by
  cases hd : st.down with
  | true => rw [crash_down hd]; exact h
  | false =>
    rw [crash_up hd]
    refine Kept.of_rows rfl rfl ?_
    rcases h with h | h
    · exact .inl h
    · right
      show (usedM (tornM st keep torn) : Int) ≤ max st.room 0
      have h1 := h (keepM st keep)
      have h2 := h (keepM st keep + 1)
      rcases torn_used st keep torn with h3 | h3 <;> omega
theorem Kept.userW {st : FSM} (h : Kept st) (p : List UInt8) (mode : Int) (data : List UInt8) : Kept (userWM st p mode data) := by
  unfold userWM
  split
  · exact .inl (fun e => by
      have h1 := congrArg List.length e
      simp at h1)
  · exact h
theorem Kept.userR {st : FSM} (h : Kept st) (p : List UInt8) : Kept (userRM st p) := by
  unfold userRM
  split
  · exact .inl (fun e => by
      have h1 := congrArg List.length e
      simp at h1)
  · exact h
theorem Kept.ev {s : BegM} (h : Kept s.st) (e : EvM) : Kept (evM s e).st := by
  unfold evM
  split
  · split
    · exact h.crash _ _
    · split
      · exact h
      · split
        · exact h
        · split
          · exact h.userW _ _ _
          · split
            · exact h.userR _
            · exact h
  · exact h
theorem Kept.beg {st : FSM} (h : Kept st) : ∀ k, Kept (begM st k).st
  | 0 => h
  | k + 1 => by
    cases he : st.plan[k]? with
    | none =>
      have hl : st.plan.length ≤ k := by simpa using he
      have e : begM st (k + 1) = begM st k := by
        unfold begM
        rw [List.take_of_length_le hl, List.take_of_length_le (by omega)]
      rw [e]; exact Kept.beg h k
    | some e =>
      rw [beg_next he]
      exact (Kept.beg h k).ev e
theorem Kept.begun {st : FSM} (h : Kept st) : Kept (beginM st).st := h.beg _
end Go.Proofs.YtlgmbljfjfcpoaaGreat.Tx
