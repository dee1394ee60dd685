/- Texts put together: WFm2, WFm3, WFm4, WFm5. -/
import Derived.Test.YtpfjlhpahmhkhaaGreatQf12
/- A file system that falls, as plain data: how great it may grow; a call's beginning. (No Go in it.) -/
namespace Go.Proofs.YtpfjlhpahmhkhaaGreat.Tx

/-- Not too great for what follows. -/
structure Fits (st : FSM) (N : Nat) : Prop where
  now : st.now.length ≤ N
  both : st.sure.length + st.pending.length ≤ N
  user : st.user.length ≤ N
  time0 : 0 ≤ st.time
  time : st.time ≤ (N : Int)
  nrow : ∀ r ∈ st.now, r.path.length ≤ 1000 ∧ r.f.data.length ≤ 20000
  srow : ∀ r ∈ st.sure, r.path.length ≤ 1000 ∧ r.f.data.length ≤ 20000
  prow : ∀ o ∈ st.pending, o.to.length ≤ 1000 ∧ o.f.data.length ≤ 20000
theorem without_sub {R : List RowM} {p : List UInt8} {r : RowM} (h : r ∈ withoutM R p) : r ∈ R := (List.mem_filter.1 h).1
theorem with_mem {R : List RowM} {p : List UInt8} {f : FileM} {r : RowM} (h : r ∈ withM R p f) : r ∈ R ∨ r = ⟨p, f⟩ := by
  unfold withM at h
  simp only [List.append_assoc, List.mem_append, List.mem_singleton] at h
  rcases h with h | h | h
  · exact .inl (without_sub (List.mem_of_mem_take h))
  · exact .inr h
  · exact .inl (without_sub (List.mem_of_mem_drop h))
theorem apply_row {R : List RowM} {o : OpM} {a d : Nat} (hR : ∀ r ∈ R, r.path.length ≤ a ∧ r.f.data.length ≤ d) (ho : o.to.length ≤ a ∧ o.f.data.length ≤ d) : ∀ r ∈ applyM R o, r.path.length ≤ a ∧ r.f.data.length ≤ d := by
  intro r hr
  unfold applyM at hr
  split at hr
  · rcases with_mem hr with h | h
    · exact hR r h
    · rw [h]; exact ho
  · split at hr
    · split at hr
      · exact hR r hr
      · split at hr
        · exact hR r hr
        · rename_i r' hr'
          rcases with_mem hr with h | h
          · exact hR r (without_sub h)
          · rw [h]; exact ⟨ho.1, (hR r' (List.mem_of_getElem? hr')).2⟩
    · exact hR r (without_sub hr)
theorem used_bound : ∀ {R : List RowM} {d : Nat}, (∀ r ∈ R, r.f.data.length ≤ d) → usedM R ≤ R.length * d
  | [], d, _ => by simp [usedM]
  | r :: R, d, h => by
    have ih := used_bound (R := R) (d := d) (fun x hx => h x (List.mem_cons_of_mem _ hx))
    have h1 := h r List.mem_cons_self
    unfold usedM at ih ⊢
    rw [List.map_cons, List.sum_cons, List.length_cons, Nat.add_mul]
    omega
theorem Fits.used {st : FSM} {N : Nat} (h : Fits st N) (hN : N ≤ 1000000) : usedM st.now ≤ 4000000000000 := by
  have h1 := used_bound (fun r hr => (h.nrow r hr).2)
  have h2 : st.now.length * 20000 ≤ 1000000 * 20000 := Nat.mul_le_mul_right _ (Nat.le_trans h.now hN)
  omega
theorem Fits.more {st : FSM} {N N' : Nat} (h : Fits st N) (hN : N ≤ N') : Fits st N' := ⟨Nat.le_trans h.now hN, Nat.le_trans h.both hN, Nat.le_trans h.user hN, h.time0, by have := h.time; omega, h.nrow, h.srow, h.prow⟩
theorem Fits.change {st : FSM} {N : Nat} (h : Fits st N) {o : OpM} (ho : o.to.length ≤ 1000 ∧ o.f.data.length ≤ 20000) : Fits (changeM st o) (N + 1) := by
  have ho' : (opOf st o).to.length ≤ 1000 ∧ (opOf st o).f.data.length ≤ 20000 := by
    unfold opOf
    split
    · exact ho
    · exact ho
  have hb := h.both
  have hn := h.now
  have ht := h.time
  have ht0 := h.time0
  have e : changeM st o = { st with time := st.time + 1, now := applyM st.now (opOf st o), pending := st.pending ++ [opOf st o] } := rfl
  rw [e]
  refine ⟨Nat.le_trans (apply_len _ _) (by omega), ?_, Nat.le_trans h.user (by omega), ?_, ?_, apply_row h.nrow ho', h.srow, fun q hq => ?_⟩
  · simp only [List.length_append, List.length_singleton]; omega
  · show 0 ≤ st.time + 1
    omega
  · show st.time + 1 ≤ _
    omega
  · rcases List.mem_append.1 hq with hq | hq
    · exact h.prow q hq
    · rw [List.mem_singleton.1 hq]; exact ho'
theorem Fits.safe {st : FSM} {N : Nat} (h : Fits st N) : Fits (safeM st) N := ⟨h.now, by show st.now.length + 0 ≤ N; exact h.now, h.user, h.time0, h.time, h.nrow, h.nrow, fun o ho => by cases ho⟩
theorem Fits.noted {st : FSM} {N : Nat} (h : Fits st N) (e : EvM) : Fits { st with user := st.user ++ [e] } (N + 1) :=
  ⟨Nat.le_trans h.now (by omega), Nat.le_trans h.both (by omega), by have := h.user; simp only [List.length_append, List.length_singleton]; omega, h.time0, by have := h.time; show st.time ≤ _; omega, h.nrow, h.srow, h.prow⟩
theorem putE_path {st : FSM} {p : List UInt8} {mode : Int} {data : List UInt8} {only full : Bool} {room : Int} (h : putE st p mode data only full room = 0) : p.length ≤ 200 := by
  unfold putE at h
  split at h
  · cases h
  · rename_i hp
    exact pathB_len (by simpa using hp)
theorem Fits.put {st : FSM} {N : Nat} (h : Fits st N) (p : List UInt8) (mode : Int) (data : List UInt8) (only full : Bool) (room : Int) : Fits (putM st p mode data only full room) (N + 1) := by
  unfold putM
  split
  · rename_i he
    exact h.change ⟨by have := putE_path he; show p.length ≤ 1000; omega, putE_len he⟩
  · exact h.more (by omega)
theorem Fits.drop {st : FSM} {N : Nat} (h : Fits st N) (p : List UInt8) : Fits (dropM st p) (N + 1) := by
  unfold dropM
  split
  · exact h.change ⟨Nat.zero_le _, Nat.zero_le _⟩
  · exact h.more (by omega)
theorem Fits.userW {st : FSM} {N : Nat} (h : Fits st N) (p : List UInt8) (mode : Int) (data : List UInt8) : Fits (userWM st p mode data) (N + 2) := by
  unfold userWM
  split
  · exact ((h.put p mode data false false _).safe).noted _
  · exact h.more (by omega)
theorem Fits.userR {st : FSM} {N : Nat} (h : Fits st N) (p : List UInt8) : Fits (userRM st p) (N + 2) := by
  unfold userRM
  split
  · exact ((h.drop p).safe).noted _
  · exact h.more (by omega)
theorem again_row {st : FSM} {N : Nat} (h : Fits st N) : ∀ k, ∀ r ∈ againM st k, r.path.length ≤ 1000 ∧ r.f.data.length ≤ 20000
  | 0 => by simp only [againM, List.take_zero, List.foldl_nil]; exact h.srow
  | k + 1 => by
    cases ho : st.pending[k]? with
    | none =>
      have hl : st.pending.length ≤ k := by simpa using ho
      have e : againM st (k + 1) = againM st k := by
        unfold againM
        rw [List.take_of_length_le hl, List.take_of_length_le (by omega)]
      rw [e]; exact again_row h k
    | some o =>
      rw [again_next ho]
      exact apply_row (again_row h k) (h.prow o (List.mem_of_getElem? ho))
theorem Fits.crash {st : FSM} {N : Nat} (h : Fits st N) (keep torn : Int) : Fits (crashM st keep torn) (N + 1) := by
  cases hd : st.down with
  | true => rw [crash_down hd]; exact h.more (by omega)
  | false =>
    rw [crash_up hd]
    have hk : keepM st keep ≤ st.pending.length := by unfold keepM; omega
    have hb := h.both
    have hlen : (tornM st keep torn).length ≤ N + 1 := by
      have h1 := again_len st (keepM st keep)
      unfold tornM
      split
      · omega
      · split
        · rename_i o _ _
          have := apply_len (againM st (keepM st keep)) { o with f := { o.f with data := o.f.data.take torn.toNat } }
          omega
        · omega
    have hrow : ∀ r ∈ tornM st keep torn, r.path.length ≤ 1000 ∧ r.f.data.length ≤ 20000 := by
      unfold tornM
      split
      · exact again_row h _
      · rename_i o ho
        split
        · have hp := h.prow o (List.mem_of_getElem? ho)
          exact apply_row (again_row h _) ⟨hp.1, by show (o.f.data.take torn.toNat).length ≤ 20000; rw [List.length_take]; omega⟩
        · exact again_row h _
    exact ⟨hlen, by show (tornM st keep torn).length + 0 ≤ N + 1; exact hlen, Nat.le_trans h.user (by omega), h.time0, by have := h.time; show st.time ≤ _; omega, hrow, hrow, fun o ho => by cases ho⟩

/-- What a call's events have done: NoRoom, Broken, and what there is. -/
structure BegM where
  full : Bool
  broken : Bool
  st : FSM
def evM (s : BegM) (e : EvM) : BegM :=
  if e.at_ = s.st.calls then
    if e.kind = 1 then { s with st := crashM s.st e.keep e.torn }
    else if e.kind = 2 then { s with full := true }
    else if e.kind = 3 then { s with broken := true }
    else if e.kind = 4 then { s with st := userWM s.st e.path e.mode e.data }
    else if e.kind = 5 then { s with st := userRM s.st e.path }
    else s
  else s
def begM (st : FSM) (k : Nat) : BegM := (st.plan.take k).foldl evM ⟨false, false, { st with calls := st.calls + 1 }⟩
def beginM (st : FSM) : BegM := begM st st.plan.length
def beginE (st : FSM) : Int := if (beginM st).st.down = true then 12 else if (beginM st).broken = true then 11 else 0
theorem Fits.ev {s : BegM} {N : Nat} (h : Fits s.st N) (e : EvM) : Fits (evM s e).st (N + 2) := by
  unfold evM
  split
  · split
    · exact (h.crash _ _).more (by omega)
    · split
      · exact h.more (by omega)
      · split
        · exact h.more (by omega)
        · split
          · exact h.userW _ _ _
          · split
            · exact h.userR _
            · exact h.more (by omega)
  · exact h.more (by omega)
theorem beg_next {st : FSM} {k : Nat} {e : EvM} (h : st.plan[k]? = some e) : begM st (k + 1) = evM (begM st k) e := by
  unfold begM
  obtain ⟨hl, he⟩ := List.getElem?_eq_some_iff.1 h
  rw [List.take_succ_eq_append_getElem hl, List.foldl_append, he]
  rfl
theorem Fits.beg {st : FSM} {N : Nat} (h : Fits st N) : ∀ k, Fits (begM st k).st (N + 2 * k)
  | 0 => ⟨h.now, h.both, h.user, h.time0, h.time, h.nrow, h.srow, h.prow⟩
  | k + 1 => by
    cases he : st.plan[k]? with
    | none =>
      have hl : st.plan.length ≤ k := by simpa using he
      have e : begM st (k + 1) = begM st k := by
        unfold begM
        rw [List.take_of_length_le hl, List.take_of_length_le (by omega)]
      rw [e]; exact (Fits.beg h k).more (by omega)
    | some e =>
      rw [beg_next he]
      exact ((Fits.beg h k).ev e).more (by omega)
theorem put_keeps (st : FSM) (p : List UInt8) (mode : Int) (data : List UInt8) (only full : Bool) (room : Int) : (putM st p mode data only full room).plan = st.plan ∧ (putM st p mode data only full room).calls = st.calls ∧ (putM st p mode data only full room).room = st.room := by
  unfold putM; split <;> exact ⟨rfl, rfl, rfl⟩
theorem drop_keeps (st : FSM) (p : List UInt8) : (dropM st p).plan = st.plan ∧ (dropM st p).calls = st.calls ∧ (dropM st p).room = st.room := by
  unfold dropM; split <;> exact ⟨rfl, rfl, rfl⟩
theorem userW_keeps (st : FSM) (p : List UInt8) (mode : Int) (data : List UInt8) : (userWM st p mode data).plan = st.plan ∧ (userWM st p mode data).calls = st.calls ∧ (userWM st p mode data).room = st.room := by
  unfold userWM
  split
  · exact put_keeps st p mode data false false _
  · exact ⟨rfl, rfl, rfl⟩
theorem userR_keeps (st : FSM) (p : List UInt8) : (userRM st p).plan = st.plan ∧ (userRM st p).calls = st.calls ∧ (userRM st p).room = st.room := by
  unfold userRM
  split
  · exact drop_keeps st p
  · exact ⟨rfl, rfl, rfl⟩
theorem crash_keeps (st : FSM) (keep torn : Int) : (crashM st keep torn).plan = st.plan ∧ (crashM st keep torn).calls = st.calls ∧ (crashM st keep torn).room = st.room := by
  cases h : st.down with
  | true => rw [crash_down h]; exact ⟨rfl, rfl, rfl⟩
  | false => rw [crash_up h]; exact ⟨rfl, rfl, rfl⟩
theorem ev_keeps (s : BegM) (e : EvM) : (evM s e).st.plan = s.st.plan ∧ (evM s e).st.calls = s.st.calls ∧ (evM s e).st.room = s.st.room := by
  unfold evM
  split
  · split
    · exact crash_keeps _ _ _
    · split
      · exact ⟨rfl, rfl, rfl⟩
      · split
        · exact ⟨rfl, rfl, rfl⟩
        · split
          · exact userW_keeps _ _ _ _
          · split
            · exact userR_keeps _ _
            · exact ⟨rfl, rfl, rfl⟩
  · exact ⟨rfl, rfl, rfl⟩
theorem beg_keeps (st : FSM) : ∀ k, (begM st k).st.plan = st.plan ∧ (begM st k).st.calls = st.calls + 1 ∧ (begM st k).st.room = st.room
  | 0 => ⟨rfl, rfl, rfl⟩
  | k + 1 => by
    have ih := beg_keeps st k
    cases he : st.plan[k]? with
    | none =>
      have hl : st.plan.length ≤ k := by simpa using he
      have e : begM st (k + 1) = begM st k := by
        unfold begM
        rw [List.take_of_length_le hl, List.take_of_length_le (by omega)]
      rw [e]; exact ih
    | some e =>
      rw [beg_next he]
      have h := ev_keeps (begM st k) e
      exact ⟨h.1.trans ih.1, h.2.1.trans ih.2.1, h.2.2.trans ih.2.2⟩
end Go.Proofs.YtpfjlhpahmhkhaaGreat.Tx
/- A file system that falls, as plain data: its rows stand in order; what is in them. (No Go in it.) -/
namespace Go.Proofs.YtpfjlhpahmhkhaaGreat.Tx

def Ord (R : List RowM) : Prop := R.Pairwise fun a b => bl a.path b.path = true
theorem mem_without {R : List RowM} {p : List UInt8} {r : RowM} : r ∈ withoutM R p ↔ r ∈ R ∧ r.path ≠ p := by
  unfold withoutM
  rw [List.mem_filter]
  simp
theorem without_ord {R : List RowM} (h : Ord R) (p : List UInt8) : Ord (withoutM R p) := List.Pairwise.filter _ h
theorem take_of {α : Type} {R A B : List α} (h : A ++ B = R) : R.take A.length = A ∧ R.drop A.length = B := by
  subst h
  exact ⟨List.take_left, List.drop_left⟩
theorem head_take (R : List RowM) (p : List UInt8) : R.take (headM R p) = R.takeWhile (fun r => bl r.path p) ∧ R.drop (headM R p) = R.dropWhile (fun r => bl r.path p) :=
  take_of (List.takeWhile_append_dropWhile (p := fun r : RowM => bl r.path p) (l := R))
theorem with_split (R : List RowM) (p : List UInt8) (f : FileM) : ∃ A B, withoutM R p = A ++ B ∧ withM R p f = A ++ ⟨p, f⟩ :: B ∧ A = (withoutM R p).takeWhile (fun r => bl r.path p) ∧ B = (withoutM R p).dropWhile (fun r => bl r.path p) := by
  refine ⟨_, _, (List.takeWhile_append_dropWhile (p := fun r : RowM => bl r.path p) (l := withoutM R p)).symm, ?_, rfl, rfl⟩
  unfold withM
  simp only [(head_take (withoutM R p) p).1, (head_take (withoutM R p) p).2, List.append_assoc, List.singleton_append]
theorem mem_with {R : List RowM} {p : List UInt8} {f : FileM} {r : RowM} : r ∈ withM R p f ↔ r = ⟨p, f⟩ ∨ (r ∈ R ∧ r.path ≠ p) := by
  obtain ⟨A, B, h1, h2, _, _⟩ := with_split R p f
  rw [h2, ← mem_without, h1, List.mem_append, List.mem_append, List.mem_cons]
  constructor
  · rintro (h | h | h)
    · exact .inr (.inl h)
    · exact .inl h
    · exact .inr (.inr h)
  · rintro (h | h | h)
    · exact .inr (.inl h)
    · exact .inl h
    · exact .inr (.inr h)
theorem drop_gt {p : List UInt8} : ∀ {m : List RowM}, Ord m → (∀ r ∈ m, r.path ≠ p) → ∀ r ∈ m.dropWhile (fun r => bl r.path p), bl p r.path = true
  | [], _, _, r, h => by cases h
  | a :: m, ho, hn, r, h => by
    rw [List.dropWhile_cons] at h
    have ho' := List.pairwise_cons.1 ho
    split at h
    · exact drop_gt ho'.2 (fun x hx => hn x (List.mem_cons_of_mem _ hx)) r h
    · rename_i hb
      have ha : bl p a.path = true := by
        rcases bl_tri a.path p with h1 | h1 | h1
        · exact absurd h1 hb
        · exact absurd h1 (hn a List.mem_cons_self)
        · exact h1
      rcases List.mem_cons.1 h with rfl | h
      · exact ha
      · exact bl_trans _ _ _ ha (ho'.1 r h)
theorem take_lt {p : List UInt8} : ∀ {m : List RowM}, ∀ r ∈ m.takeWhile (fun r => bl r.path p), bl r.path p = true
  | [], r, h => by cases h
  | a :: m, r, h => by
    rw [List.takeWhile_cons] at h
    split at h
    · rename_i hb
      rcases List.mem_cons.1 h with rfl | h
      · exact hb
      · exact take_lt r h
    · cases h
theorem with_ord {R : List RowM} (h : Ord R) (p : List UInt8) (f : FileM) : Ord (withM R p f) := by
  obtain ⟨A, B, h1, h2, hA, hB⟩ := with_split R p f
  have hm := without_ord h p
  have hn : ∀ r ∈ withoutM R p, r.path ≠ p := fun r hr => (mem_without.1 hr).2
  have hlt : ∀ r ∈ A, bl r.path p = true := fun r hr => take_lt r (by rw [← hA]; exact hr)
  have hgt : ∀ r ∈ B, bl p r.path = true := fun r hr => drop_gt hm hn r (by rw [← hB]; exact hr)
  rw [h1] at hm
  obtain ⟨g1, g2, g3⟩ := List.pairwise_append.1 hm
  rw [h2]
  refine List.pairwise_append.2 ⟨g1, List.pairwise_cons.2 ⟨fun r hr => hgt r hr, g2⟩, fun a ha c hc => ?_⟩
  rcases List.mem_cons.1 hc with rfl | hc
  · exact hlt a ha
  · exact g3 a ha c hc
/-- A path stands in one row alone. -/
theorem ord_one {R : List RowM} (h : Ord R) {a c : RowM} (ha : a ∈ R) (hc : c ∈ R) (he : a.path = c.path) : a = c := by
  induction R with
  | nil => cases ha
  | cons x R ih =>
    have h' := List.pairwise_cons.1 h
    rcases List.mem_cons.1 ha with ea | ha
    · rcases List.mem_cons.1 hc with ec | hc
      · rw [ea, ec]
      · have := h'.1 c hc; rw [← ea, he, bl_irr] at this; cases this
    · rcases List.mem_cons.1 hc with ec | hc
      · have := h'.1 a ha; rw [← ec, he, bl_irr] at this; cases this
      · exact ih h'.2 ha hc
end Go.Proofs.YtpfjlhpahmhkhaaGreat.Tx
/- A file system that falls, as plain data: no file stands under another. (No Go in it.) -/
namespace Go.Proofs.YtpfjlhpahmhkhaaGreat.Tx

theorem under_irr (p : List UInt8) : underB p p = false := by
  unfold underB
  simp
/-- Rows as they may stand at a time. -/
structure RowsOk (R : List RowM) (t : Int) : Prop where
  ord : Ord R
  row : ∀ r ∈ R, pathB r.path = true ∧ 1 ≤ r.f.mode ∧ r.f.mode ≤ 3 ∧ r.f.data.length ≤ 20000 ∧ r.f.time ≤ t
  tree : ∀ a ∈ R, ∀ c ∈ R, underB a.path c.path = false
theorem RowsOk.nil_ (t : Int) : RowsOk [] t := ⟨List.Pairwise.nil, fun _ h => (List.not_mem_nil h).elim, fun _ h => (List.not_mem_nil h).elim⟩
theorem RowsOk.later {R : List RowM} {t t' : Int} (h : RowsOk R t) (ht : t ≤ t') : RowsOk R t' := ⟨h.ord, fun r hr => by have := h.row r hr; exact ⟨this.1, this.2.1, this.2.2.1, this.2.2.2.1, by omega⟩, h.tree⟩
theorem RowsOk.without {R : List RowM} {t : Int} (h : RowsOk R t) (p : List UInt8) : RowsOk (withoutM R p) t :=
  ⟨without_ord h.ord p, fun r hr => h.row r (mem_without.1 hr).1, fun a ha c hc => h.tree a (mem_without.1 ha).1 c (mem_without.1 hc).1⟩
theorem may_row {R : List RowM} {p : List UInt8} (h : mayM R p = true) {r : RowM} (hr : r ∈ R) : underB p r.path = false ∧ underB r.path p = false := by
  unfold mayM at h
  have := List.all_eq_true.1 h r hr
  simpa using this
theorem RowsOk.with_ {R : List RowM} {t : Int} (h : RowsOk R t) {p : List UInt8} {f : FileM} (hp : pathB p = true) (hm : 1 ≤ f.mode ∧ f.mode ≤ 3) (hd : f.data.length ≤ 20000) (ht : f.time ≤ t) (hw : (∃ r ∈ R, r.path = p) ∨ mayM R p = true) : RowsOk (withM R p f) t := by
  have hu : ∀ r ∈ R, underB p r.path = false ∧ underB r.path p = false := fun r hr => by
    rcases hw with ⟨r0, h0, e⟩ | hw
    · rw [← e]; exact ⟨h.tree r0 h0 r hr, h.tree r hr r0 h0⟩
    · exact may_row hw hr
  refine ⟨with_ord h.ord p f, fun r hr => ?_, fun a ha c hc => ?_⟩
  · rcases mem_with.1 hr with rfl | ⟨hr, _⟩
    · exact ⟨hp, hm.1, hm.2, hd, ht⟩
    · exact h.row r hr
  · rcases mem_with.1 ha with rfl | ⟨ha, _⟩
    · rcases mem_with.1 hc with rfl | ⟨hc, _⟩
      · exact under_irr p
      · exact (hu c hc).1
    · rcases mem_with.1 hc with rfl | ⟨hc, _⟩
      · exact (hu a ha).2
      · exact h.tree a ha c hc
theorem find_some {R : List RowM} {p : List UInt8} (h : (findM R p).isSome = true) : ∃ r ∈ R, r.path = p := by
  obtain ⟨i, hi⟩ := Option.isSome_iff_exists.1 h
  obtain ⟨r, hr, e⟩ := find_at hi
  exact ⟨r, List.mem_of_getElem? hr, e⟩
theorem find_none_iff {R : List RowM} {p : List UInt8} : (findM R p).isNone = true ↔ ∀ r ∈ R, r.path ≠ p := by
  unfold findM
  rw [Option.isNone_iff_eq_none, List.findIdx?_eq_none_iff]
  constructor
  · intro h r hr e
    have := h r hr
    simp [e] at this
  · intro h r hr
    simpa using h r hr
end Go.Proofs.YtpfjlhpahmhkhaaGreat.Tx
/- A file system that falls, as plain data: what holds of it whatever is called. (No Go in it.) -/
namespace Go.Proofs.YtpfjlhpahmhkhaaGreat.Tx

/-- An op that may be made on rows, at a time. -/
def OpOk (R : List RowM) (o : OpM) (t : Int) : Prop := o.kind = 1 → pathB o.to = true ∧ (1 ≤ o.f.mode ∧ o.f.mode ≤ 3) ∧ o.f.data.length ≤ 20000 ∧ o.f.time ≤ t ∧ ((∃ r ∈ R, r.path = o.to) ∨ mayM R o.to = true)
structure Inv (st : FSM) : Prop where
  now : st.now = againM st st.pending.length
  ok : ∀ k, RowsOk (againM st k) st.time
  op : ∀ k o, st.pending[k]? = some o → OpOk (againM st k) o st.time
theorem OpOk.later {R : List RowM} {o : OpM} {t t' : Int} (h : OpOk R o t) (ht : t ≤ t') : OpOk R o t' := fun hk => by
  obtain ⟨a, b, c, d, e⟩ := h hk
  exact ⟨a, b, c, by omega, e⟩
theorem again_change {st : FSM} (h : st.now = againM st st.pending.length) (o : OpM) (k : Nat) : againM (changeM st o) k = if k ≤ st.pending.length then againM st k else applyM st.now (opOf st o) := by
  have e : changeM st o = { st with time := st.time + 1, now := applyM st.now (opOf st o), pending := st.pending ++ [opOf st o] } := rfl
  rw [e]
  unfold againM
  show ((st.pending ++ [opOf st o]).take k).foldl applyM st.sure = _
  split
  · rename_i hk
    rw [List.take_append_of_le_length hk]
  · rename_i hk
    rw [List.take_of_length_le (by rw [List.length_append, List.length_singleton]; omega), List.foldl_append]
    show applyM (st.pending.foldl applyM st.sure) (opOf st o) = _
    rw [h]
    unfold againM
    rw [List.take_length]
theorem Inv.change {st : FSM} (h : Inv st) (o : OpM) (hk : RowsOk (applyM st.now (opOf st o)) (st.time + 1)) (ho : OpOk st.now (opOf st o) (st.time + 1)) : Inv (changeM st o) := by
  have hl : (changeM st o).pending.length = st.pending.length + 1 := by
    show (st.pending ++ [opOf st o]).length = _
    rw [List.length_append, List.length_singleton]
  have ht : (changeM st o).time = st.time + 1 := rfl
  refine ⟨?_, fun k => ?_, fun k q hq => ?_⟩
  · rw [hl, again_change h.now, if_neg (by omega)]; rfl
  · rw [again_change h.now, ht]
    split
    · exact (h.ok k).later (by omega)
    · exact hk
  · have hq' : (st.pending ++ [opOf st o])[k]? = some q := hq
    have hkl := (List.getElem?_eq_some_iff.1 hq').1
    rw [List.length_append, List.length_singleton] at hkl
    rw [again_change h.now, if_pos (by omega), ht]
    by_cases hkk : k < st.pending.length
    · rw [List.getElem?_append_left hkk] at hq'
      exact (h.op k q hq').later (by omega)
    · have e : k = st.pending.length := by omega
      subst e
      rw [List.getElem?_append_right (Nat.le_refl _), Nat.sub_self] at hq'
      injection hq' with hq'
      rw [← hq', ← h.now]
      exact ho
theorem Inv.safe {st : FSM} (h : Inv st) : Inv (safeM st) := by
  have hr : RowsOk st.now st.time := by rw [h.now]; exact h.ok _
  refine ⟨rfl, fun k => ?_, fun k o ho => by cases ho⟩
  have e : againM (safeM st) k = st.now := by unfold againM safeM; simp
  rw [e]
  exact hr
theorem Inv.rows {st : FSM} (h : Inv st) : RowsOk st.now st.time := by rw [h.now]; exact h.ok _
theorem Inv.new_ (room : Int) : Inv ⟨room, [], [], [], [], 0, 0, false, []⟩ := by
  refine ⟨rfl, fun k => ?_, fun k o ho => by cases ho⟩
  have e : againM ⟨room, [], [], [], [], 0, 0, false, []⟩ k = [] := by unfold againM; simp
  rw [e]
  exact RowsOk.nil_ _
end Go.Proofs.YtpfjlhpahmhkhaaGreat.Tx
