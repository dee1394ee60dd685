/- Texts put together: Hm0, Rf2. -/
import Derived.Test.YtalnfiegkkkkgaaGreatQr26
import Derived.Test.YtalnfiegkkkkgaaGreatQr32
/- Package fsim as the program keeps it, as plain data: what holds of it whatever is called. (No Go in it.) -/
set_option linter.unusedVariables false
set_option linter.unusedSimpArgs false
namespace Go.Proofs.YtalnfiegkkkkgaaGreat.Tx

theorem path_ne {p : List UInt8} (h : pathB p = true) : p ≠ [] := by
  rintro rfl
  revert h
  decide
theorem gone_nil (R : List RowM) : goneM R [] = R := if_pos rfl
theorem gone_some (R : List RowM) {p : List UInt8} (h : p ≠ []) : goneM R p = withoutM R p := if_neg h
theorem under_nil (p : List UInt8) : underB p [] = false := by
  cases h : underB p [] with
  | false => rfl
  | true =>
    unfold underB at h
    simp only [Bool.and_eq_true] at h
    exact absurd rfl (path_ne h.1.1.1.2)
/-- What may stand beside all but what goes. -/
theorem may_of {R : List RowM} {p wo : List UInt8} (ho : Ord R) (hw : wo = [] ∨ peekB R wo = true) (h : mayC R p wo = true) : mayM (goneM R wo) p = true := by
  unfold mayC at h
  rw [Bool.and_eq_true] at h
  obtain ⟨h1, h2⟩ := h
  have h2 := of_decide_eq_true h2
  have hz : cntM (goneM R wo) p = 0 := by
    rcases hw with rfl | hw
    · rw [under_nil, if_neg (by decide)] at h2
      rw [gone_nil]
      omega
    · unfold peekB at hw
      obtain ⟨r, hr, rfl⟩ := find_some hw
      by_cases hwo : r.path = []
      · rw [hwo, under_nil, if_neg (by decide)] at h2
        rw [hwo, gone_nil]
        omega
      · rw [gone_some R hwo]
        have h3 := cnt_without ho hr p
        rw [count_parents] at h3
        by_cases hu : underB p r.path = true
        · rw [if_pos hu] at h2 h3; omega
        · rw [if_neg hu] at h2 h3; omega
  unfold mayM
  refine List.all_eq_true.2 fun r hr => ?_
  have hu1 := cnt_zero.1 hz r hr
  have hu2 : underB r.path p = false := by
    cases hu : underB r.path p with
    | false => rfl
    | true =>
      have hm := (under_iff _ _).1 hu
      have hb : blockedC R (parentsL p) wo = false := by simpa using h1
      unfold blockedC at hb
      have hb := List.any_eq_false.1 hb _ hm
      have hs : standsM R r.path = true := stands_iff.2 ⟨r, gone_mem hr, rfl⟩
      have hne : r.path ≠ wo := by
        intro e
        by_cases hwo : wo = []
        · subst hwo
          have := (under_iff _ _).2 hm
          rw [e] at this
          unfold underB at this
          simp only [Bool.and_eq_true] at this
          exact absurd rfl (path_ne this.1.1.1.1)
        · rw [gone_some R hwo] at hr
          exact (mem_without.1 hr).2 e
      rw [hs] at hb
      simp [hne] at hb
  rw [hu1, hu2]
  rfl
theorem peek_none' {R : List RowM} {p : List UInt8} (h : peekB R p = false) : peekF R p = ⟨0, [], 0⟩ := (peek_none (by rw [stands_find]; exact h)).1
theorem peek_at {R : List RowM} {p : List UInt8} (h : peekB R p = true) : (⟨p, peekF R p⟩ : RowM) ∈ R := by
  unfold peekB at h
  obtain ⟨i, hi⟩ := Option.isSome_iff_exists.1 h
  obtain ⟨r, hr, e⟩ := find_at hi
  have hm := List.mem_of_getElem? hr
  have : peekF R p = r.f := by
    unfold peekF
    rw [hi]
    show rowF R i = r.f
    unfold rowF
    rw [hr]
  rw [this, ← e]
  exact hm
theorem peek_yes {R : List RowM} {r : RowM} (h : r ∈ R) : peekB R r.path = true := by
  unfold peekB
  rw [← stands_find]
  exact stands_iff.2 ⟨r, h, rfl⟩

/-- A change that may be made on rows, at a time. -/
def ChOk (R : List RowM) (q : ChM) (t : Int) : Prop := q.gone = [] → q.path ≠ [] → pathB q.path = true ∧ (1 ≤ q.f.mode ∧ q.f.mode ≤ 3) ∧ q.f.data.length ≤ 20000 ∧ q.f.time ≤ t ∧ mayM R q.path = true
theorem ChOk.later {R : List RowM} {q : ChM} {t t' : Int} (h : ChOk R q t) (ht : t ≤ t') : ChOk R q t' := fun h1 h2 => by
  obtain ⟨a, b, c, d, e⟩ := h h1 h2
  exact ⟨a, b, c, by omega, e⟩
structure InvC (c : CSt) : Prop where
  here : c.here = foldC c.durable c.pending c.pending.length
  ok : ∀ k, RowsOk (foldC c.durable c.pending k) c.time
  ch : ∀ k q, c.pending[k]? = some q → ChOk (foldC c.durable c.pending k) q c.time
theorem InvC.rows {c : CSt} (h : InvC c) : RowsOk c.here c.time := by rw [h.here]; exact h.ok _
theorem InvC.durable {c : CSt} (h : InvC c) : RowsOk c.durable c.time := h.ok 0
/-- All that the invariant reads is as it was. -/
theorem InvC.same {c c' : CSt} (h : InvC c) (h1 : c'.here = c.here) (h2 : c'.durable = c.durable) (h3 : c'.pending = c.pending) (h4 : c'.time = c.time) : InvC c' :=
  ⟨by rw [h1, h2, h3]; exact h.here, fun k => by rw [h2, h3, h4]; exact h.ok k, fun k q hq => by rw [h3] at hq; rw [h2, h3, h4]; exact h.ch k q hq⟩
theorem fold_zero (R : List RowM) (l : List ChM) : foldC R l 0 = R := rfl
theorem fold_do (c : CSt) (q : ChM) (h : c.here = foldC c.durable c.pending c.pending.length) (k : Nat) : foldC (doC c q).durable (doC c q).pending k = if k ≤ c.pending.length then foldC c.durable c.pending k else applyC c.here q := by
  show ((c.pending ++ [q]).take k).foldl applyC c.durable = _
  split
  · rename_i hk
    rw [List.take_append_of_le_length hk]
    rfl
  · rename_i hk
    rw [List.take_of_length_le (by rw [List.length_append, List.length_singleton]; omega), List.foldl_append, h, foldC_all _ _ (Nat.le_refl _)]
    rfl
theorem pend_do (c : CSt) (q : ChM) : (doC c q).pending.length = c.pending.length + 1 := by
  show (c.pending ++ [q]).length = _
  rw [List.length_append, List.length_singleton]
theorem InvC.do_ {c : CSt} (h : InvC c) (q : ChM) (hr : RowsOk (applyC c.here q) (c.time + 1)) (hq : ChOk c.here q (c.time + 1)) : InvC (doC c q) := by
  refine ⟨?_, fun k => ?_, fun k x hx => ?_⟩
  · rw [pend_do, fold_do c q h.here, if_neg (by omega)]; rfl
  · rw [fold_do c q h.here]
    show RowsOk _ (c.time + 1)
    split
    · exact (h.ok k).later (by omega)
    · exact hr
  · have hx' : (c.pending ++ [q])[k]? = some x := hx
    have hkl := (List.getElem?_eq_some_iff.1 hx').1
    rw [List.length_append, List.length_singleton] at hkl
    rw [fold_do c q h.here, if_pos (by omega)]
    show ChOk _ x (c.time + 1)
    by_cases hkk : k < c.pending.length
    · rw [List.getElem?_append_left hkk] at hx'
      exact (h.ch k x hx').later (by omega)
    · have e : k = c.pending.length := by omega
      subst e
      rw [List.getElem?_append_right (Nat.le_refl _), Nat.sub_self] at hx'
      injection hx' with hx'
      rw [← hx', ← h.here]
      exact hq
theorem InvC.of_rows {c : CSt} (hp : c.pending = []) (hs : c.here = c.durable) (hr : RowsOk c.here c.time) : InvC c := by
  have e : ∀ k, foldC c.durable c.pending k = c.here := fun k => by unfold foldC; rw [hp, hs]; simp
  exact ⟨(e _).symm, fun k => by rw [e]; exact hr, fun k q hq => by rw [hp] at hq; cases hq⟩
theorem InvC.settle {c : CSt} (h : InvC c) : InvC (settleC c) := by
  have e : c.here = c.pending.foldl applyC c.durable := by rw [← foldC_all _ _ (Nat.le_refl _)]; exact h.here
  exact InvC.of_rows rfl e h.rows
theorem InvC.new_ (room : Int) : InvC (newC room) := InvC.of_rows rfl rfl (RowsOk.nil_ _)
theorem wrE_ok {c : CSt} {p : List UInt8} {mode : Int} {data : List UInt8} {room : Int} {create : Bool} (h : wrE c p mode data room create = 0) :
    pathB p = true ∧ (1 ≤ mode ∧ mode ≤ 3) ∧ data.length ≤ 20000 ∧ mayC c.here p [] = true ∧ (usedM c.here : Int) - ((peekF c.here p).data.length : Int) + (data.length : Int) ≤ room ∧ ¬ (create = true ∧ peekB c.here p = true) := by
  unfold wrE at h
  split at h
  · cases h
  · rename_i h1
    split at h
    · cases h
    · rename_i h2
      split at h
      · cases h
      · rename_i h3
        split at h
        · cases h
        · rename_i h4
          split at h
          · cases h
          · rename_i h5
            split at h
            · cases h
            · exact ⟨by simpa using h1, by omega, by omega, by simpa using h5, by omega, h4⟩
theorem apply_put (R : List RowM) (p : List UInt8) (f : FileM) (h : p ≠ []) : applyC R ⟨[], p, f⟩ = withM R p f := by
  show (if p = [] then goneM R [] else withM (goneM R []) p f) = _
  rw [if_neg h, gone_nil]
theorem apply_move (R : List RowM) (fr p : List UInt8) (f : FileM) (hf : fr ≠ []) (h : p ≠ []) : applyC R ⟨fr, p, f⟩ = withM (withoutM R fr) p f := by
  show (if p = [] then goneM R fr else withM (goneM R fr) p f) = _
  rw [if_neg h, gone_some _ hf]
theorem apply_drop (R : List RowM) (p : List UInt8) (f : FileM) (h : p ≠ []) : applyC R ⟨p, [], f⟩ = withoutM R p := by
  show (if ([] : List UInt8) = [] then goneM R p else withM (goneM R p) [] f) = _
  rw [if_pos rfl, gone_some _ h]
theorem InvC.wr {c : CSt} (h : InvC c) (p : List UInt8) (mode : Int) (data : List UInt8) (room : Int) (create : Bool) : InvC (wrC c p mode data room create) := by
  unfold wrC
  split
  · rename_i he
    obtain ⟨a, b, d, m, _, _⟩ := wrE_ok he
    have hm := may_of h.rows.ord (.inl rfl) m
    rw [gone_nil] at hm
    refine h.do_ _ ?_ ?_
    · rw [apply_put _ _ _ (path_ne a)]
      exact (h.rows.later (by omega)).with_ (p := p) (f := ⟨mode, data, c.time + 1⟩) a b d (Int.le_refl _) (.inr hm)
    · exact fun _ _ => ⟨a, b, d, Int.le_refl _, hm⟩
  · exact h
theorem rmE_ok {c : CSt} {p : List UInt8} (h : rmE c p = 0) : pathB p = true ∧ peekB c.here p = true := by
  unfold rmE at h
  split at h
  · cases h
  · rename_i h1
    split at h
    · cases h
    · rename_i h2
      exact ⟨by simpa using h1, by simpa using h2⟩
theorem InvC.rm {c : CSt} (h : InvC c) (p : List UInt8) : InvC (rmC c p) := by
  unfold rmC
  split
  · rename_i he
    obtain ⟨a, _⟩ := rmE_ok he
    refine h.do_ _ ?_ ?_
    · rw [apply_drop _ _ _ (path_ne a)]
      exact (h.rows.later (by omega)).without p
    · exact fun _ h2 => absurd rfl h2
  · exact h
theorem mvE_ok {c : CSt} {fr tt : List UInt8} {create : Bool} (h : mvE c fr tt create = 0) : pathB fr = true ∧ pathB tt = true ∧ peekB c.here fr = true ∧ ¬ (create = true ∧ peekB c.here tt = true) ∧ (tt ≠ fr → mayC c.here tt fr = true) := by
  unfold mvE at h
  split at h
  · cases h
  · rename_i h1
    split at h
    · cases h
    · rename_i h2
      split at h
      · cases h
      · rename_i h3
        have hp : pathB fr = true ∧ pathB tt = true := by
          cases hf : pathB fr with
          | false => exact absurd (.inl hf) h1
          | true => cases ht : pathB tt with
            | false => exact absurd (.inr ht) h1
            | true => exact ⟨rfl, rfl⟩
        split at h
        · rename_i h4
          exact ⟨hp.1, hp.2, by simpa using h2, h3, fun hn => absurd h4 hn⟩
        · split at h
          · cases h
          · rename_i h5
            exact ⟨hp.1, hp.2, by simpa using h2, h3, fun _ => by simpa using h5⟩
theorem InvC.mv {c : CSt} (h : InvC c) (fr tt : List UInt8) (create : Bool) : InvC (mvC c fr tt create) := by
  unfold mvC
  split
  · rename_i he
    obtain ⟨he, hne⟩ := he
    obtain ⟨a, b, d, _, m⟩ := mvE_ok he
    have hm := may_of h.rows.ord (.inr d) (m hne)
    rw [gone_some _ (path_ne a)] at hm
    have hrow := h.rows.row _ (peek_at d)
    refine h.do_ _ ?_ ?_
    · rw [apply_move _ _ _ _ (path_ne a) (path_ne b)]
      exact ((h.rows.later (by omega)).without fr).with_ b ⟨hrow.2.1, hrow.2.2.1⟩ hrow.2.2.2.1 (by have := hrow.2.2.2.2; dsimp only at this ⊢; omega) (.inr hm)
    · exact fun h1 _ => absurd h1 (path_ne a)
  · exact h
theorem InvC.uw {c : CSt} (h : InvC c) (p : List UInt8) (mode : Int) (data : List UInt8) : InvC (uwC c p mode data) := by
  unfold uwC
  split
  · exact InvC.same (c := settleC (wrC c p mode data 9223372036854775807 false)) (h.wr _ _ _ _ _).settle rfl rfl rfl rfl
  · exact h
theorem InvC.ur {c : CSt} (h : InvC c) (p : List UInt8) : InvC (urC c p) := by
  unfold urC
  split
  · exact InvC.same (c := settleC (rmC c p)) (h.rm p).settle rfl rfl rfl rfl
  · exact h
/-- What a fall leaves. -/
theorem left_fold (c : CSt) (keep torn : Int) : (leftC c keep torn).foldl applyC c.durable = match c.pending[keepC c keep]? with
    | none => foldC c.durable c.pending (keepC c keep)
    | some q => if tearsB q torn = true then applyC (foldC c.durable c.pending (keepC c keep)) (partC q torn) else foldC c.durable c.pending (keepC c keep) := by
  unfold leftC
  rw [List.foldl_append]
  cases hq : c.pending[keepC c keep]? with
  | none => rfl
  | some q =>
    show (if tearsB q torn = true then [partC q torn] else []).foldl applyC (foldC c.durable c.pending (keepC c keep)) = _
    dsimp only
    split <;> rfl
theorem left_ok {c : CSt} (h : InvC c) (keep torn : Int) : RowsOk ((leftC c keep torn).foldl applyC c.durable) c.time := by
  rw [left_fold]
  split
  · exact h.ok _
  · rename_i q hq
    split
    · rename_i ht
      unfold tearsB at ht
      simp only [Bool.and_eq_true, decide_eq_true_eq] at ht
      unfold applyC partC
      dsimp only
      rw [ht.1, gone_nil]
      split
      · exact h.ok _
      · rename_i hp
        obtain ⟨a, b, d, e, m⟩ := h.ch _ q hq ht.1 hp
        exact (h.ok _).with_ (p := q.path) (f := { q.f with data := q.f.data.take torn.toNat }) a b (by show (q.f.data.take torn.toNat).length ≤ 20000; rw [List.length_take]; omega) e (.inr m)
    · exact h.ok _
theorem InvC.cr {c : CSt} (h : InvC c) (keep torn : Int) : InvC (crC c keep torn) := by
  unfold crC
  split
  · exact h
  · exact InvC.of_rows rfl rfl (left_ok h keep torn)
theorem InvC.ev {s : BgC} (h : InvC s.c) (e : EvM) : InvC (evC s e).c := by
  have h1 : InvC { s.c with plan := s.c.plan.tail } := h.same rfl rfl rfl rfl
  unfold evC
  split
  · exact h1.cr _ _
  · split
    · exact h1
    · split
      · exact h1
      · split
        · exact h1.uw _ _ _
        · split
          · exact h1.ur _
          · exact h1
theorem bgK_more {c : CSt} {k : Nat} (h : c.plan[k]? = none) : bgK c (k + 1) = bgK c k := by
  have hl : c.plan.length ≤ k := by simpa using h
  unfold bgK
  rw [List.take_of_length_le (by omega), List.take_of_length_le hl]
theorem InvC.bgk {c : CSt} (h : InvC c) : ∀ k, InvC (bgK c k).c
  | 0 => h.same rfl rfl rfl rfl
  | k + 1 => by
    cases he : c.plan[k]? with
    | none => rw [bgK_more he]; exact InvC.bgk h k
    | some e => rw [bgK_next he]; exact (InvC.bgk h k).ev e
theorem InvC.bg {c : CSt} (h : InvC c) : InvC (bgC c).c := h.bgk _
theorem InvC.crt {c : CSt} (h : InvC c) (p : List UInt8) (mode : Int) (data : List UInt8) (create : Bool) : InvC (crtC c p mode data create) := by
  unfold crtC
  split
  · exact h.bg.wr _ _ _ _ _
  · exact h.bg
theorem InvC.mov {c : CSt} (h : InvC c) (fr tt : List UInt8) (create : Bool) : InvC (movC c fr tt create) := by
  unfold movC
  split
  · exact h.bg.mv _ _ _
  · exact h.bg
theorem InvC.rem {c : CSt} (h : InvC c) (p : List UInt8) : InvC (remC c p) := by
  unfold remC
  split
  · exact h.bg.rm _
  · exact h.bg
theorem InvC.syn {c : CSt} (h : InvC c) : InvC (synC c) := by
  unfold synC
  split
  · exact h.bg.settle
  · exact h.bg
theorem InvC.does {c : CSt} (h : InvC c) (o : LOp) : InvC (doesC c o) := by
  refine doesC_at (P := InvC) c o (fun _ => h.crt _ _ _ _) (fun _ => h.crt _ _ _ _) (fun _ => h.mov _ _ _) (fun _ => h.mov _ _ _) (fun _ => h.rem _) (fun _ => h.syn) (fun _ => h.bg) (fun _ => h.bg) (fun _ => h.uw _ _ _) (fun _ => h.ur _) (fun _ => h.cr _ _) (fun _ => h.same rfl rfl rfl rfl) (fun _ => h.same rfl rfl rfl rfl) (fun _ => h)

/-! The room is kept but for what users write. -/
def KeptC (c : CSt) : Prop := c.users ≠ [] ∨ ∀ k, (usedM (foldC c.durable c.pending k) : Int) ≤ max c.room 0
theorem KeptC.now {c : CSt} (h : KeptC c) (hi : InvC c) : c.users ≠ [] ∨ (usedM c.here : Int) ≤ max c.room 0 := by
  rcases h with h | h
  · exact .inl h
  · right; rw [hi.here]; exact h _
theorem KeptC.same {c c' : CSt} (h : KeptC c) (h2 : c'.durable = c.durable) (h3 : c'.pending = c.pending) (h4 : c'.room = c.room) (h5 : c'.users = c.users) : KeptC c' := by
  unfold KeptC
  rw [h2, h3, h4, h5]
  exact h
theorem KeptC.do_ {c : CSt} (h : KeptC c) (hi : InvC c) (q : ChM) (ho : (usedM c.here : Int) ≤ max c.room 0 → (usedM (applyC c.here q) : Int) ≤ max c.room 0) : KeptC (doC c q) := by
  rcases h with h | h
  · exact .inl h
  · right
    intro k
    rw [fold_do c q hi.here]
    show _ ≤ max c.room 0
    split
    · exact h k
    · exact ho (by rw [hi.here]; exact h _)
theorem KeptC.of_rows {c : CSt} (hp : c.pending = []) (hr : c.users ≠ [] ∨ (usedM c.durable : Int) ≤ max c.room 0) : KeptC c := by
  have e : ∀ k, foldC c.durable c.pending k = c.durable := fun k => by unfold foldC; rw [hp]; simp
  rcases hr with hr | hr
  · exact .inl hr
  · exact .inr fun k => by rw [e]; exact hr
theorem KeptC.settle {c : CSt} (h : KeptC c) : KeptC (settleC c) := by
  refine KeptC.of_rows rfl ?_
  rcases h with h | h
  · exact .inl h
  · right
    have := h c.pending.length
    rw [foldC_all _ _ (Nat.le_refl _)] at this
    exact this
theorem KeptC.new_ (room : Int) : KeptC (newC room) := by
  refine KeptC.of_rows rfl (.inr ?_)
  show ((0 : Nat) : Int) ≤ max room 0
  omega
theorem old_peek (R : List RowM) (p : List UInt8) : oldM R p = (peekF R p).data.length := by
  unfold oldM peekF
  cases findM R p with
  | none => rfl
  | some i =>
    dsimp only
    unfold rowF
    cases R[i]? <;> rfl
theorem KeptC.wr {c : CSt} (h : KeptC c) (hi : InvC c) (p : List UInt8) (mode : Int) (data : List UInt8) (room : Int) (create : Bool) (hroom : room ≤ max c.room 0) : KeptC (wrC c p mode data room create) := by
  unfold wrC
  split
  · rename_i he
    obtain ⟨a, _, _, _, hr, _⟩ := wrE_ok he
    refine h.do_ hi _ (fun _ => ?_)
    rw [apply_put _ _ _ (path_ne a)]
    have h1 := used_put hi.rows.ord p ⟨mode, data, c.time + 1⟩
    rw [old_peek] at h1
    have h2 : ((⟨mode, data, c.time + 1⟩ : FileM).data.length : Int) = data.length := rfl
    omega
  · exact h
theorem KeptC.rm {c : CSt} (h : KeptC c) (hi : InvC c) (p : List UInt8) : KeptC (rmC c p) := by
  unfold rmC
  split
  · rename_i he
    refine h.do_ hi _ (fun hn => ?_)
    rw [apply_drop _ _ _ (path_ne (rmE_ok he).1)]
    have := used_without_le p c.here
    omega
  · exact h
theorem used_move {R : List RowM} (h : Ord R) {fr tt : List UInt8} (hf : peekB R fr = true) : usedM (withM (withoutM R fr) tt (peekF R fr)) ≤ usedM R := by
  have h1 := used_with (withoutM R fr) tt (peekF R fr)
  have h2 := used_without_le tt (withoutM R fr)
  have h3 := used_without fr h
  rw [old_peek] at h3
  omega
theorem KeptC.mv {c : CSt} (h : KeptC c) (hi : InvC c) (fr tt : List UInt8) (create : Bool) : KeptC (mvC c fr tt create) := by
  unfold mvC
  split
  · rename_i he
    obtain ⟨he, hne⟩ := he
    obtain ⟨a, b, d, _, m⟩ := mvE_ok he
    refine h.do_ hi _ (fun hn => ?_)
    rw [apply_move _ _ _ _ (path_ne a) (path_ne b)]
    have := used_move (tt := tt) hi.rows.ord d
    omega
  · exact h
theorem KeptC.uw {c : CSt} (h : KeptC c) (p : List UInt8) (mode : Int) (data : List UInt8) : KeptC (uwC c p mode data) := by
  unfold uwC
  split
  · exact .inl (fun e => by
      have h1 := congrArg List.length (show _ ++ [_] = [] from e)
      simp at h1)
  · exact h
theorem KeptC.ur {c : CSt} (h : KeptC c) (p : List UInt8) : KeptC (urC c p) := by
  unfold urC
  split
  · exact .inl (fun e => by
      have h1 := congrArg List.length (show _ ++ [_] = [] from e)
      simp at h1)
  · exact h
theorem left_used (c : CSt) (keep torn : Int) : usedM ((leftC c keep torn).foldl applyC c.durable) ≤ usedM (foldC c.durable c.pending (keepC c keep)) ∨ usedM ((leftC c keep torn).foldl applyC c.durable) ≤ usedM (foldC c.durable c.pending (keepC c keep + 1)) := by
  rw [left_fold]
  split
  · exact .inl (Nat.le_refl _)
  · rename_i q hq
    split
    · rename_i ht
      unfold tearsB at ht
      simp only [Bool.and_eq_true, decide_eq_true_eq] at ht
      rw [foldC_next hq]
      unfold applyC partC
      dsimp only
      split
      · exact .inr (Nat.le_refl _)
      · right
        rw [used_with, used_with]
        show _ + (q.f.data.take torn.toNat).length ≤ _
        rw [List.length_take]
        omega
    · exact .inl (Nat.le_refl _)
theorem KeptC.cr {c : CSt} (h : KeptC c) (keep torn : Int) : KeptC (crC c keep torn) := by
  unfold crC
  split
  · exact h
  · refine KeptC.of_rows rfl ?_
    rcases h with h | h
    · exact .inl h
    · right
      show (usedM ((leftC c keep torn).foldl applyC c.durable) : Int) ≤ max c.room 0
      have h1 := h (keepC c keep)
      have h2 := h (keepC c keep + 1)
      rcases left_used c keep torn with h3 | h3 <;> omega
theorem KeptC.ev {s : BgC} (h : KeptC s.c) (e : EvM) : KeptC (evC s e).c := by
  have h1 : KeptC { s.c with plan := s.c.plan.tail } := h.same rfl rfl rfl rfl
  unfold evC
  split
  · exact h1.cr _ _
  · split
    · exact h1
    · split
      · exact h1
      · split
        · exact h1.uw _ _ _
        · split
          · exact h1.ur _
          · exact h1
theorem ev_room (s : BgC) (e : EvM) (h : s.room ≤ max s.c.room 0) : (evC s e).room ≤ max (evC s e).c.room 0 := by
  rw [(ev_plan s e).2.2]
  unfold evC
  split
  · exact h
  · split
    · show (-1 : Int) ≤ _; omega
    · split
      · exact h
      · split
        · exact h
        · split
          · exact h
          · exact h
theorem KeptC.bgk {c : CSt} (h : KeptC c) : ∀ k, KeptC (bgK c k).c ∧ (bgK c k).room ≤ max (bgK c k).c.room 0
  | 0 => ⟨h.same rfl rfl rfl rfl, by show c.room ≤ max c.room 0; omega⟩
  | k + 1 => by
    cases he : c.plan[k]? with
    | none => rw [bgK_more he]; exact KeptC.bgk h k
    | some e => rw [bgK_next he]; exact ⟨(KeptC.bgk h k).1.ev e, ev_room _ e (KeptC.bgk h k).2⟩
theorem KeptC.bg {c : CSt} (h : KeptC c) : KeptC (bgC c).c ∧ (bgC c).room ≤ max (bgC c).c.room 0 := h.bgk _
theorem KeptC.does {c : CSt} (h : KeptC c) (hi : InvC c) (o : LOp) : KeptC (doesC c o) := by
  have hb := h.bg
  have hib := hi.bg
  have hcrt : ∀ create, KeptC (crtC c o.path o.mode o.data create) := fun create => by
    unfold crtC
    split
    · exact hb.1.wr hib _ _ _ _ _ hb.2
    · exact hb.1
  have hmov : ∀ create, KeptC (movC c o.path o.dest create) := fun create => by
    unfold movC
    split
    · exact hb.1.mv hib _ _ _
    · exact hb.1
  refine doesC_at (P := KeptC) c o (fun _ => hcrt _) (fun _ => hcrt _) (fun _ => hmov _) (fun _ => hmov _) (fun _ => ?_) (fun _ => ?_) (fun _ => hb.1) (fun _ => hb.1) (fun _ => h.uw _ _ _) (fun _ => h.ur _) (fun _ => h.cr _ _) (fun _ => h.same rfl rfl rfl rfl) (fun _ => h.same rfl rfl rfl rfl) (fun _ => h)
  · unfold remC
    split
    · exact hb.1.rm hib _
    · exact hb.1
  · unfold synC
    split
    · exact hb.1.settle
    · exact hb.1
/-- What Does may leave: its answer told, but for the order of what is planned. -/
structure PlanR (c : CSt) (l : List EvM) (R : List EvM) : Prop where
  len : R.length = (l.filter fun e => decide (c.calls < e.at_)).length
  mem : ∀ e ∈ R, e ∈ l ∧ c.calls < e.at_
def DoesR (c : CSt) (o : LOp) (c' : CSt) : Prop := (o.kind ≠ 12 → c' = doesC c o) ∧ (o.kind = 12 → ∃ R, PlanR c o.plan R ∧ c' = { c with plan := R })
theorem DoesR.keeps {P : CSt → Prop} {c c' : CSt} {o : LOp} (h : DoesR c o c') (h1 : P (doesC c o)) (h2 : ∀ R, PlanR c o.plan R → P { c with plan := R }) : P c' := by
  by_cases hk : o.kind = 12
  · obtain ⟨R, hR, rfl⟩ := h.2 hk
    exact h2 R hR
  · rw [h.1 hk]; exact h1
theorem GoC.doesR {c c' : CSt} {i : Nat} (h : GoC c i) {o : LOp} (ho : OpOK o) (hd : DoesR c o c') : GoC c' (i + 1) := by
  refine hd.keeps (P := fun c => GoC c (i + 1)) (h.does ho) (fun R hR => ?_)
  have h1 := h.calls
  refine ⟨(h.fits.plan _).more (by omega), ⟨h1.1, by show c.calls ≤ _; omega⟩, ?_, fun e he => ho.paths e (hR.mem e he).1⟩
  show R.length ≤ 60
  rw [hR.len]
  exact Nat.le_trans (List.length_filter_le _ _) ho.plan
theorem InvC.doesR {c c' : CSt} (h : InvC c) {o : LOp} (hd : DoesR c o c') : InvC c' := hd.keeps (h.does o) (fun _ _ => h.same rfl rfl rfl rfl)
theorem KeptC.doesR {c c' : CSt} (h : KeptC c) (hi : InvC c) {o : LOp} (hd : DoesR c o c') : KeptC c' := hd.keeps (h.does hi o) (fun _ _ => h.same rfl rfl rfl rfl)
end Go.Proofs.YtalnfiegkkkkgaaGreat.Tx
/- Package refs, as plain data: its places; calls where nothing is planned. (No Go in it.) -/
set_option linter.unusedVariables false
set_option linter.unusedSimpArgs false
namespace Go.Proofs.YtalnfiegkkkkgaaGreat.Tx
open Go.RowKit Go.Proofs.YtalnfiegkkkkgaaGreat.Sh

theorem nameB_le {n : List UInt8} (h : nameB n = true) : n.length ≤ 64 := by
  rw [nameB_eq] at h
  simp only [Bool.and_eq_true, decide_eq_true_eq] at h
  exact h.1.1.1.2
theorem place_split {x : UInt8} {n : List UInt8} (hx : x ≠ 47) (hn : 47 ∉ n) : splitL 47 (115 :: 47 :: x :: 47 :: n) = [[115], [x], n] := by
  have h1 : splitL 47 (115 :: 47 :: x :: 47 :: n) = [115] :: splitL 47 (x :: 47 :: n) := splitL_cut (g := 47) (a := [115]) (by decide) (x :: 47 :: n)
  have h2 : splitL 47 (x :: 47 :: n) = [x] :: splitL 47 n := splitL_cut (g := 47) (a := [x]) (by simp; exact fun e => hx e.symm) n
  rw [h1, h2, splitL_none hn]
theorem place_path {x : UInt8} (hx : nameB [x] = true) {n : List UInt8} (hn : nameB n = true) : pathB (115 :: 47 :: x :: 47 :: n) = true := by
  have hx' : x ≠ 47 := fun e => nameB_sign hx (by rw [e]; exact List.mem_cons_self)
  rw [pathB_iff, place_split hx' (nameB_sign hn)]
  refine ⟨?_, ?_, by simp⟩
  · have := nameB_le hn
    simp only [List.length_cons]
    omega
  · intro p hp
    simp only [List.mem_cons, List.not_mem_nil, or_false] at hp
    rcases hp with rfl | rfl | rfl
    · decide
    · exact hx
    · exact hn
theorem refP_path {n : List UInt8} (hn : nameB n = true) : pathB (refP n) = true := place_path (by decide) hn
theorem lockP_path {n : List UInt8} (hn : nameB n = true) : pathB (lockP n) = true := place_path (by decide) hn
theorem refP_inj {m n : List UInt8} (h : refP m = refP n) : m = n := by
  unfold refP at h
  simpa using h
theorem lockP_inj {m n : List UInt8} (h : lockP m = lockP n) : m = n := by
  unfold lockP at h
  simpa using h
theorem ref_lock (m n : List UInt8) : refP m ≠ lockP n := by
  unfold refP lockP
  simp
theorem refP_ne (n : List UInt8) : refP n ≠ [] := by unfold refP; simp
theorem lockP_ne (n : List UInt8) : lockP n ≠ [] := by unfold lockP; simp
theorem under_in {d s : List UInt8} (h : underB d s = true) : s.take d.length = d ∧ s[d.length]? = some 47 := by
  unfold underB at h
  simp only [Bool.and_eq_true, beq_iff_eq] at h
  exact ⟨h.1.2, h.2⟩
theorem not_under {x y : UInt8} {m n : List UInt8} (hxy : x ≠ y) : underB (115 :: 47 :: x :: 47 :: m) (115 :: 47 :: y :: 47 :: n) = false := by
  cases h : underB (115 :: 47 :: x :: 47 :: m) (115 :: 47 :: y :: 47 :: n) with
  | false => rfl
  | true =>
    have h1 := (under_in h).1
    simp only [List.length_cons, List.take_succ_cons, List.cons.injEq] at h1
    exact absurd h1.2.2.1.symm hxy
theorem under_name {x : UInt8} {m n : List UInt8} (hn : nameB n = true) : underB (115 :: 47 :: x :: 47 :: m) (115 :: 47 :: x :: 47 :: n) = false := by
  cases h : underB (115 :: 47 :: x :: 47 :: m) (115 :: 47 :: x :: 47 :: n) with
  | false => rfl
  | true =>
    have h1 := (under_in h).2
    simp only [List.length_cons, List.getElem?_cons_succ] at h1
    exact absurd (List.mem_of_getElem? h1) (nameB_sign hn)
theorem may_to {R : List RowM} {p wo : List UInt8} (hm : mayM R p = true) (hu : underB p wo = false) : mayC R p wo = true := by
  have hr : ∀ r ∈ R, underB p r.path = false ∧ underB r.path p = false := fun r hr => by
    have := List.all_eq_true.1 hm r hr
    simpa using this
  have h1 : blockedC R (parentsL p) wo = false := by
    unfold blockedC
    refine List.any_eq_false.2 fun d hd => ?_
    have hs : standsM R d = false := stands_no.2 fun r hr' e => by
      have h2 := (hr r hr').2
      rw [e, (under_iff d p).2 hd] at h2
      cases h2
    rw [hs]
    simp
  have h2 : cntM R p = 0 := cnt_zero.2 fun r hr' => (hr r hr').1
  unfold mayC
  rw [h1, h2, hu]
  decide
theorem may_no {R : List RowM} {p : List UInt8} (ho : Ord R) {r : RowM} (hr : r ∈ R) (h : underB r.path p = true ∨ underB p r.path = true) : mayC R p [] = false := by
  cases hm : mayC R p [] with
  | false => rfl
  | true =>
    have h1 := may_of ho (.inl rfl) hm
    rw [gone_nil] at h1
    have h2 := List.all_eq_true.1 h1 r hr
    rcases h with h | h <;> rw [h] at h2 <;> simp at h2
theorem peek_stands (R : List RowM) (p : List UInt8) : peekB R p = standsM R p := stands_find.symm
theorem peek_is {R : List RowM} (ho : Ord R) {r : RowM} (hr : r ∈ R) : peekF R r.path = r.f := by
  have h1 := peek_at (peek_yes hr)
  have h2 := ord_one ho h1 hr rfl
  exact congrArg RowM.f h2
theorem peek_with (R : List RowM) (p : List UInt8) (f : FileM) (q : List UInt8) : peekB (withM R p f) q = (decide (q = p) || peekB R q) := by
  rw [peek_stands, peek_stands, stands_with]
theorem peek_without (R : List RowM) (p q : List UInt8) : peekB (withoutM R p) q = (!decide (q = p) && peekB R q) := by
  rw [peek_stands, peek_stands, stands_without]
theorem peekf_with {R : List RowM} (ho : Ord R) (p : List UInt8) (f : FileM) : peekF (withM R p f) p = f := peek_is (r := ⟨p, f⟩) (with_ord ho p f) (mem_with.2 (.inl rfl))
theorem peekf_other {R : List RowM} (ho : Ord R) {p q : List UInt8} (f : FileM) (h : q ≠ p) : peekF (withM R p f) q = peekF R q := by
  cases hs : peekB R q with
  | true => exact peek_is (r := ⟨q, peekF R q⟩) (with_ord ho p f) (mem_with.2 (.inr ⟨peek_at hs, h⟩))
  | false =>
    rw [peek_none' hs]
    exact peek_none' (by rw [peek_with, hs]; simpa using h)
theorem peekf_without {R : List RowM} (ho : Ord R) {p q : List UInt8} (h : q ≠ p) : peekF (withoutM R p) q = peekF R q := by
  cases hs : peekB R q with
  | true => exact peek_is (r := ⟨q, peekF R q⟩) (without_ord ho p) (mem_without.2 ⟨peek_at hs, h⟩)
  | false =>
    rw [peek_none' hs]
    exact peek_none' (by rw [peek_without, hs]; simp)
theorem without_not {R : List RowM} {p : List UInt8} (h : peekB R p = false) : withoutM R p = R := by
  unfold withoutM
  rw [List.filter_eq_self]
  intro r hr
  have : r.path ≠ p := fun e => by
    have := peek_yes hr
    rw [e, h] at this
    cases this
  simpa using this
theorem without_with (R : List RowM) (p : List UInt8) (f : FileM) : withoutM (withM R p f) p = withoutM R p := by
  obtain ⟨A, B, h1, h2, _, _⟩ := with_split R p f
  have h3 : withoutM (withoutM R p) p = withoutM R p := by
    unfold withoutM
    rw [List.filter_filter]
    simp
  rw [h2]
  rw [h1] at h3 ⊢
  unfold withoutM at h3 ⊢
  rw [List.filter_append, List.filter_cons_of_neg (by simp), ← List.filter_append]
  exact h3
theorem may_with {R : List RowM} {p q : List UInt8} {f : FileM} (h : mayM R q = true) (h1 : underB p q = false) (h2 : underB q p = false) : mayM (withM R p f) q = true := by
  refine List.all_eq_true.2 fun r hr => ?_
  rcases mem_with.1 hr with rfl | ⟨hr, _⟩
  · rw [h1, h2]; rfl
  · exact List.all_eq_true.1 h r hr

/-- Nothing is planned; it is up. -/
structure Calm (c : CSt) : Prop where
  plan : c.plan = []
  down : c.down = false
def tick (c : CSt) : CSt := { c with calls := c.calls + 1 }
theorem Calm.tick {c : CSt} (h : Calm c) : Calm (tick c) := ⟨h.plan, h.down⟩
theorem Calm.bg {c : CSt} (h : Calm c) : (bgC c).c = Tx.tick c ∧ bgE c = 0 ∧ (bgC c).room = c.room := by
  have h1 := bg_none h.plan
  refine ⟨by rw [h1]; rfl, ?_, by rw [h1]; rfl⟩
  unfold bgE
  rw [h1]
  show (if c.down = true then (12 : Int) else 0) = 0
  rw [h.down]
  rfl
theorem Calm.crt {c : CSt} (h : Calm c) (p : List UInt8) (mode : Int) (data : List UInt8) (create : Bool) : crtE c p mode data create = wrE c p mode data c.room create ∧ crtC c p mode data create = wrC (Tx.tick c) p mode data c.room create := by
  obtain ⟨h1, h2, h3⟩ := h.bg
  unfold crtE crtC
  rw [if_pos h2, if_pos h2, h1, h3]
  exact ⟨rfl, rfl⟩
theorem Calm.mov {c : CSt} (h : Calm c) (fr tt : List UInt8) (create : Bool) : movE c fr tt create = mvE c fr tt create ∧ movC c fr tt create = mvC (Tx.tick c) fr tt create := by
  obtain ⟨h1, h2, _⟩ := h.bg
  unfold movE movC
  rw [if_pos h2, if_pos h2, h1]
  exact ⟨rfl, rfl⟩
theorem Calm.rem {c : CSt} (h : Calm c) (p : List UInt8) : remE c p = rmE c p ∧ remC c p = rmC (Tx.tick c) p := by
  obtain ⟨h1, h2, _⟩ := h.bg
  unfold remE remC
  rw [if_pos h2, if_pos h2, h1]
  exact ⟨rfl, rfl⟩
theorem Calm.syn {c : CSt} (h : Calm c) : synC c = settleC (Tx.tick c) := by
  obtain ⟨h1, h2, _⟩ := h.bg
  unfold synC
  rw [if_pos h2, h1]
theorem Calm.red {c : CSt} (h : Calm c) {p : List UInt8} (hp : pathB p = true) : redE c p = (if peekB c.here p = true then 0 else 7) ∧ redF c p = peekF c.here p := by
  obtain ⟨h1, h2, _⟩ := h.bg
  have h3 : redE c p = (if peekB c.here p = true then 0 else 7) := by
    unfold redE
    rw [if_pos h2, if_neg (by rw [hp]; decide), h1]
    rfl
  refine ⟨h3, ?_⟩
  unfold redF
  rw [h3, h1]
  cases hs : peekB c.here p with
  | true => rfl
  | false => exact (peek_none' hs).symm
theorem Calm.lis {c : CSt} (h : Calm c) {dir : List UInt8} (hp : pathB dir = true) : lisE c dir = 0 ∧ lisO c dir = listC c.here dir := by
  obtain ⟨h1, h2, _⟩ := h.bg
  have h3 : lisE c dir = 0 := by
    unfold lisE
    rw [if_pos h2, if_neg (fun h => by rw [hp] at h; exact absurd h.2 (by decide))]
  refine ⟨h3, ?_⟩
  unfold lisO
  rw [h3, if_pos rfl, h1]
  rfl
/-- What a call leaves where nothing is planned: the files as told. -/
structure CalmTo (c c' : CSt) (R : List RowM) : Prop where
  calm : Calm c'
  here : c'.here = R
  room : c'.room = c.room
  users : c'.users = c.users
theorem CalmTo.tick {c c' : CSt} {R : List RowM} (h : CalmTo c c' R) : CalmTo c (Tx.tick c') R := ⟨h.calm.tick, h.here, h.room, h.users⟩
theorem Calm.same {c : CSt} (h : Calm c) : CalmTo c c c.here := ⟨h, rfl, rfl, rfl⟩
theorem CalmTo.do_ {c c' : CSt} {R : List RowM} (h : CalmTo c c' R) (q : ChM) : CalmTo c (doC c' q) (applyC R q) := ⟨⟨h.calm.plan, h.calm.down⟩, by show applyC c'.here q = _; rw [h.here], h.room, h.users⟩
theorem CalmTo.settle {c c' : CSt} {R : List RowM} (h : CalmTo c c' R) : CalmTo c (settleC c') R := ⟨⟨h.calm.plan, h.calm.down⟩, h.here, h.room, h.users⟩

theorem Calm.get_ok {c : CSt} (h : Calm c) {n id : List UInt8} (hn : nameB n = true) (hv : validB id = true) (hs : peekB c.here (refP n) = true) (hd : (peekF c.here (refP n)).data = id ++ [10]) : getE c n = 0 ∧ getV c n = id ∧ CalmTo c (getC c n) c.here := by
  obtain ⟨h1, h2⟩ := h.red (refP_path hn)
  rw [if_pos hs] at h1
  have h3 : getE c n = 0 := by
    unfold getE
    rw [if_neg (by rw [hn]; decide), if_neg (by rw [h1]; decide), h2, hd, (hin_of hv).1]
    rfl
  refine ⟨h3, by unfold getV; rw [if_pos h3, h2, hd, (hin_of hv).2], ?_⟩
  unfold getC
  rw [if_neg (by rw [hn]; decide), h.bg.1]
  exact h.same.tick
theorem Calm.get_none {c : CSt} (h : Calm c) {n : List UInt8} (hn : nameB n = true) (hs : peekB c.here (refP n) = false) : getE c n = 7 ∧ getV c n = [] ∧ CalmTo c (getC c n) c.here := by
  obtain ⟨h1, h2⟩ := h.red (refP_path hn)
  rw [if_neg (by rw [hs]; decide)] at h1
  have h3 : getE c n = 7 := by
    unfold getE
    rw [if_neg (by rw [hn]; decide), if_pos (by rw [h1]; decide), h1]
  refine ⟨h3, by unfold getV; rw [h3]; rfl, ?_⟩
  unfold getC
  rw [if_neg (by rw [hn]; decide), h.bg.1]
  exact h.same.tick
theorem get_noname {c : CSt} {n : List UInt8} (hn : nameB n = false) : getE c n = 6 ∧ getV c n = [] ∧ getC c n = c := by
  have h3 : getE c n = 6 := by unfold getE; rw [if_pos hn]
  exact ⟨h3, by unfold getV; rw [h3]; rfl, by unfold getC; rw [if_pos hn]⟩
theorem set_noname {c : CSt} {n : List UInt8} (hn : nameB n = false) (old new : List UInt8) : setE c n old new = 6 ∧ setC c n old new = c := ⟨by unfold setE; rw [if_pos hn], by unfold setC; rw [if_pos hn]⟩
theorem set_range {c : CSt} {n old new : List UInt8} (hn : nameB n = true) (h : validB new = false ∨ (old ≠ [] ∧ validB old = false)) : setE c n old new = 1 ∧ setC c n old new = c :=
  ⟨by unfold setE; rw [if_neg (by rw [hn]; decide), if_pos h], by unfold setC; rw [if_neg (by rw [hn]; decide), if_pos h]⟩
/-- What Set does where its name and hashes may be. -/
theorem set_good {c : CSt} {n old new : List UInt8} (hn : nameB n = true) (hv : validB new = true) (ho : old = [] ∨ validB old = true) :
    setE c n old new = (if crtE c (lockP n) 1 (new ++ [10]) true = 0 then slE (crtC c (lockP n) 1 (new ++ [10]) true) n old else if crtE c (lockP n) 1 (new ++ [10]) true = 8 then 13 else crtE c (lockP n) 1 (new ++ [10]) true) ∧
    setC c n old new = (if crtE c (lockP n) 1 (new ++ [10]) true = 0 then slC (crtC c (lockP n) 1 (new ++ [10]) true) n old else crtC c (lockP n) 1 (new ++ [10]) true) := by
  have h1 : ¬ (nameB n = false) := by rw [hn]; decide
  have h2 : ¬ (validB new = false ∨ (old ≠ [] ∧ validB old = false)) := by
    rintro (h | ⟨h, h'⟩)
    · rw [hv] at h; cases h
    · rcases ho with ho | ho
      · exact h ho
      · rw [ho] at h'; cases h'
  unfold setE setC
  rw [if_neg h1, if_neg h2, if_neg h1, if_neg h2]
  exact ⟨rfl, rfl⟩
/-- The lock is made. -/
theorem Calm.lock_ok {c : CSt} (h : Calm c) {n new : List UInt8} (hn : nameB n = true) (hv : validB new = true) (hl : peekB c.here (lockP n) = false) (hm : mayC c.here (lockP n) [] = true) (hr : (usedM c.here : Int) + 65 ≤ c.room) :
    crtE c (lockP n) 1 (new ++ [10]) true = 0 ∧ crtC c (lockP n) 1 (new ++ [10]) true = doC (Tx.tick c) ⟨[], lockP n, ⟨1, new ++ [10], c.time + 1⟩⟩ := by
  obtain ⟨h1, h2⟩ := h.crt (lockP n) 1 (new ++ [10]) true
  have h65 : (new ++ [10]).length = 65 := by simp [valid_len hv]
  have h3 : wrE c (lockP n) 1 (new ++ [10]) c.room true = 0 := by
    unfold wrE
    rw [if_neg (by rw [lockP_path hn]; decide), if_neg (by omega), if_neg (by rw [h65]; decide), if_neg (by rw [hl]; decide), if_neg (by rw [hm]; decide), if_neg (by rw [h65]; omega)]
  refine ⟨h1.trans h3, h2.trans ?_⟩
  unfold wrC
  have h3' : wrE (Tx.tick c) (lockP n) 1 (new ++ [10]) c.room true = 0 := h3
  rw [if_pos h3']
  rfl
theorem Calm.set_ok {c : CSt} (h : Calm c) (hO : Ord c.here) {n old new : List UInt8} (hn : nameB n = true) (hv : validB new = true) (hl : peekB c.here (lockP n) = false) (hm : mayM c.here (lockP n) = true) (hr : (usedM c.here : Int) + 65 ≤ c.room)
    (hmr : mayM c.here (refP n) = true) (ho : (old = [] ∧ peekB c.here (refP n) = false) ∨ (validB old = true ∧ peekB c.here (refP n) = true ∧ (peekF c.here (refP n)).data = old ++ [10])) :
    setE c n old new = 0 ∧ CalmTo c (setC c n old new) (withM c.here (refP n) ⟨1, new ++ [10], c.time + 1⟩) ∧ (setC c n old new).pending = [] := by
  obtain ⟨e1, e2⟩ := set_good (c := c) (old := old) hn hv (ho.imp And.left And.left)
  obtain ⟨k1, k2⟩ := h.lock_ok hn hv hl (may_to hm (under_nil _)) hr
  rw [if_pos k1, k2] at e1 e2
  obtain ⟨f, hf⟩ : ∃ f : FileM, (⟨1, new ++ [10], c.time + 1⟩ : FileM) = f := ⟨_, rfl⟩
  rw [hf] at e1 e2 ⊢
  have t1 : CalmTo c (doC (Tx.tick c) ⟨[], lockP n, f⟩) (withM c.here (lockP n) f) := by
    have := h.same.tick.do_ ⟨[], lockP n, f⟩
    rwa [apply_put _ _ _ (lockP_ne n)] at this
  obtain ⟨c1, hc1⟩ : ∃ x, doC (Tx.tick c) ⟨[], lockP n, f⟩ = x := ⟨_, rfl⟩
  rw [hc1] at e1 e2 t1
  have hrl := ref_lock n n
  have p1 : peekB c1.here (refP n) = peekB c.here (refP n) := by rw [t1.here, peek_with]; simp [hrl]
  have p2 : peekF c1.here (refP n) = peekF c.here (refP n) := by rw [t1.here, peekf_other hO f hrl]
  obtain ⟨r1, r2⟩ := t1.calm.red (refP_path hn)
  have x1 : expE c1 n old = 0 := by
    unfold expE
    rw [r1, r2, p1, p2]
    rcases ho with ⟨rfl, hs⟩ | ⟨hvo, hs, hd⟩
    · simp [hs]
    · have hne : old ≠ [] := fun e => by rw [e] at hvo; exact absurd (valid_len hvo) (by decide)
      simp [hs, hd, hne]
  have t2 : CalmTo c (synC (Tx.tick c1)) (withM c.here (lockP n) f) := by
    rw [t1.calm.tick.syn]
    exact t1.tick.tick.settle
  have b1 : (bgC c1).c = Tx.tick c1 := t1.calm.bg.1
  have x2 : prepE c1 n old = 0 ∧ prepC c1 n old = synC (Tx.tick c1) := by
    unfold prepE prepC
    rw [if_pos x1, if_pos x1, b1]
    exact ⟨t1.calm.tick.bg.2.1, rfl⟩
  obtain ⟨c2, hc2⟩ : ∃ x, synC (Tx.tick c1) = x := ⟨_, rfl⟩
  rw [hc2] at t2 x2
  obtain ⟨m1, m2⟩ := t2.calm.mov (lockP n) (refP n) false
  have q1 : peekB c2.here (lockP n) = true := by rw [t2.here, peek_with]; simp
  have q2 : peekF c2.here (lockP n) = f := by rw [t2.here, peekf_with hO]
  have q3 : mayC c2.here (refP n) (lockP n) = true := by
    rw [t2.here]
    exact may_to (may_with hmr (not_under (by decide)) (not_under (by decide))) (not_under (by decide))
  have x3 : mvE c2 (lockP n) (refP n) false = 0 := by
    unfold mvE
    rw [if_neg (by rw [lockP_path hn, refP_path hn]; decide), if_neg (by rw [q1]; decide), if_neg (by simp), if_neg hrl, if_neg (by rw [q3]; decide)]
  have x3' : mvE (Tx.tick c2) (lockP n) (refP n) false = 0 := x3
  have m3 : movC c2 (lockP n) (refP n) false = doC (Tx.tick c2) ⟨lockP n, refP n, f⟩ := by
    rw [m2]
    unfold mvC
    rw [if_pos ⟨x3', hrl⟩]
    show doC (Tx.tick c2) ⟨lockP n, refP n, peekF c2.here (lockP n)⟩ = _
    rw [q2]
  have t3 : CalmTo c (doC (Tx.tick c2) ⟨lockP n, refP n, f⟩) (withM c.here (refP n) f) := by
    have := t2.tick.do_ ⟨lockP n, refP n, f⟩
    rwa [apply_move _ _ _ _ (lockP_ne n) (refP_ne n), without_with, without_not hl] at this
  obtain ⟨c3, hc3⟩ : ∃ x, doC (Tx.tick c2) ⟨lockP n, refP n, f⟩ = x := ⟨_, rfl⟩
  rw [hc3] at m3 t3
  have y1 : slE c1 n old = 0 := by
    unfold slE
    rw [x2.1, x2.2, if_pos rfl, m1, x3, if_pos rfl, m3]
    exact t3.calm.bg.2.1
  have y2 : slC c1 n old = synC c3 := by
    unfold slC
    rw [x2.1, x2.2, if_pos rfl, m1, x3, if_pos rfl, m3]
  rw [e1, e2, y1, y2, t3.calm.syn]
  exact ⟨rfl, t3.tick.settle, rfl⟩
/-- What is expected is not there: nothing is changed. -/
theorem Calm.set_wrong {c : CSt} (h : Calm c) (hO : Ord c.here) {n old new : List UInt8} (hn : nameB n = true) (hv : validB new = true) (hl : peekB c.here (lockP n) = false) (hm : mayM c.here (lockP n) = true) (hr : (usedM c.here : Int) + 65 ≤ c.room)
    (ho : (old = [] ∧ peekB c.here (refP n) = true) ∨ (validB old = true ∧ (peekB c.here (refP n) = true → (peekF c.here (refP n)).data ≠ old ++ [10]))) :
    setE c n old new = 13 ∧ CalmTo c (setC c n old new) c.here := by
  obtain ⟨e1, e2⟩ := set_good (c := c) (old := old) hn hv (ho.imp And.left And.left)
  obtain ⟨k1, k2⟩ := h.lock_ok hn hv hl (may_to hm (under_nil _)) hr
  rw [if_pos k1, k2] at e1 e2
  obtain ⟨f, hf⟩ : ∃ f : FileM, (⟨1, new ++ [10], c.time + 1⟩ : FileM) = f := ⟨_, rfl⟩
  rw [hf] at e1 e2
  have t1 : CalmTo c (doC (Tx.tick c) ⟨[], lockP n, f⟩) (withM c.here (lockP n) f) := by
    have := h.same.tick.do_ ⟨[], lockP n, f⟩
    rwa [apply_put _ _ _ (lockP_ne n)] at this
  obtain ⟨c1, hc1⟩ : ∃ x, doC (Tx.tick c) ⟨[], lockP n, f⟩ = x := ⟨_, rfl⟩
  rw [hc1] at e1 e2 t1
  have hrl := ref_lock n n
  have p1 : peekB c1.here (refP n) = peekB c.here (refP n) := by rw [t1.here, peek_with]; simp [hrl]
  have p2 : peekF c1.here (refP n) = peekF c.here (refP n) := by rw [t1.here, peekf_other hO f hrl]
  obtain ⟨r1, r2⟩ := t1.calm.red (refP_path hn)
  have x1 : expE c1 n old = 13 := by
    unfold expE
    rw [r1, r2, p1, p2]
    rcases ho with ⟨rfl, hs⟩ | ⟨hvo, hd⟩
    · simp [hs]
    · have hne : old ≠ [] := fun e => by rw [e] at hvo; exact absurd (valid_len hvo) (by decide)
      cases hs : peekB c.here (refP n) with
      | true => simp [hd hs]
      | false => simp [hne]
  have b1 : (bgC c1).c = Tx.tick c1 := t1.calm.bg.1
  have x2 : prepE c1 n old = 13 ∧ prepC c1 n old = Tx.tick c1 := by
    unfold prepE prepC
    rw [if_neg (by rw [x1]; decide), if_neg (by rw [x1]; decide), b1]
    exact ⟨x1, rfl⟩
  have y1 : slE c1 n old = 13 := by
    unfold slE
    rw [if_neg (by rw [x2.1]; decide)]
    exact x2.1
  have q1 : peekB c1.here (lockP n) = true := by rw [t1.here, peek_with]; simp
  have r3 : rmE (Tx.tick (Tx.tick c1)) (lockP n) = 0 := by
    show rmE c1 (lockP n) = 0
    unfold rmE
    rw [if_neg (by rw [lockP_path hn]; decide), if_neg (by rw [q1]; decide)]
  have y2 : slC c1 n old = doC (Tx.tick (Tx.tick c1)) ⟨lockP n, [], ⟨0, [], 0⟩⟩ := by
    unfold slC
    rw [if_neg (by rw [x2.1]; decide), x2.2, (t1.calm.tick.rem (lockP n)).2]
    unfold rmC
    rw [if_pos r3]
  have t4 := t1.tick.tick.do_ ⟨lockP n, [], ⟨0, [], 0⟩⟩
  rw [apply_drop _ _ _ (lockP_ne n), without_with, without_not hl] at t4
  rw [e1, e2, y1, y2]
  exact ⟨rfl, t4⟩
/-- The lock stands, or may not stand. -/
theorem Calm.set_locked {c : CSt} (h : Calm c) {n old new : List UInt8} (hn : nameB n = true) (hv : validB new = true) (ho : old = [] ∨ validB old = true) (hl : peekB c.here (lockP n) = true ∨ mayC c.here (lockP n) [] = false) :
    setE c n old new ≠ 0 ∧ CalmTo c (setC c n old new) c.here := by
  obtain ⟨e1, e2⟩ := set_good (c := c) (old := old) hn hv ho
  obtain ⟨h1, h2⟩ := h.crt (lockP n) 1 (new ++ [10]) true
  have h65 : (new ++ [10]).length = 65 := by simp [valid_len hv]
  have h3 : wrE c (lockP n) 1 (new ++ [10]) c.room true ≠ 0 := by
    unfold wrE
    rw [if_neg (by rw [lockP_path hn]; decide), if_neg (by omega), if_neg (by rw [h65]; decide)]
    split
    · decide
    · rename_i hx
      rcases hl with hl | hl
      · exact absurd ⟨rfl, hl⟩ hx
      · rw [if_pos hl]; decide
  have h4 : wrC (Tx.tick c) (lockP n) 1 (new ++ [10]) c.room true = Tx.tick c := by
    unfold wrC
    have h3' : wrE (Tx.tick c) (lockP n) 1 (new ++ [10]) c.room true ≠ 0 := h3
    rw [if_neg h3']
  rw [h1, h2, h4, if_neg h3] at e1 e2
  rw [e1, e2]
  refine ⟨?_, h.same.tick⟩
  split
  · decide
  · exact h3
theorem Calm.del_ok {c : CSt} (h : Calm c) {n old : List UInt8} (hn : nameB n = true) (hv : validB old = true) (hs : peekB c.here (refP n) = true) (hd : (peekF c.here (refP n)).data = old ++ [10]) :
    delE c n old = 0 ∧ CalmTo c (delC c n old) (withoutM c.here (refP n)) := by
  obtain ⟨r1, r2⟩ := h.red (refP_path hn)
  rw [if_pos hs] at r1
  have b1 : (bgC c).c = Tx.tick c := h.bg.1
  have r3 : rmE (Tx.tick (Tx.tick c)) (refP n) = 0 := by
    show rmE c (refP n) = 0
    unfold rmE
    rw [if_neg (by rw [refP_path hn]; decide), if_neg (by rw [hs]; decide)]
  obtain ⟨m1, m2⟩ := h.tick.rem (refP n)
  have m1' : remE (Tx.tick c) (refP n) = 0 := m1.trans r3
  have m3 : remC (Tx.tick c) (refP n) = doC (Tx.tick (Tx.tick c)) ⟨refP n, [], ⟨0, [], 0⟩⟩ := by
    rw [m2]
    unfold rmC
    rw [if_pos r3]
  have t1 := h.same.tick.tick.do_ ⟨refP n, [], ⟨0, [], 0⟩⟩
  rw [apply_drop _ _ _ (refP_ne n)] at t1
  have g1 : ¬ (nameB n = false) := by rw [hn]; decide
  have g2 : ¬ (validB old = false) := by rw [hv]; decide
  unfold delE delC
  rw [if_neg g1, if_neg g2, if_neg g1, if_neg g2, r1, r2, hd, b1, m1', m3, if_neg (by decide), if_neg (by simp), if_pos rfl, if_neg (by decide), if_neg (by simp), if_pos rfl, t1.calm.syn]
  exact ⟨t1.calm.bg.2.1, t1.tick.settle⟩
theorem Calm.del_wrong {c : CSt} (h : Calm c) {n old : List UInt8} (hn : nameB n = true) (hd : validB old = false ∨ peekB c.here (refP n) = false ∨ (peekF c.here (refP n)).data ≠ old ++ [10]) :
    delE c n old ≠ 0 ∧ CalmTo c (delC c n old) c.here := by
  obtain ⟨r1, r2⟩ := h.red (refP_path hn)
  have b1 : (bgC c).c = Tx.tick c := h.bg.1
  have g1 : ¬ (nameB n = false) := by rw [hn]; decide
  unfold delE delC
  rw [if_neg g1, if_neg g1]
  by_cases hv : validB old = false
  · rw [if_pos hv, if_pos hv]
    exact ⟨by decide, h.same⟩
  · rw [if_neg hv, if_neg hv, r1, r2, b1]
    cases hs : peekB c.here (refP n) with
    | false =>
      have x : (if false = true then (0 : Int) else 7) ≠ 0 := by decide
      rw [if_pos x, if_pos x]
      exact ⟨by decide, h.same.tick⟩
    | true =>
      have hd' : (peekF c.here (refP n)).data ≠ old ++ [10] := by
        rcases hd with hd | hd | hd
        · exact absurd hd hv
        · rw [hs] at hd; cases hd
        · exact hd
      have x : ¬ ((if true = true then (0 : Int) else 7) ≠ 0) := by decide
      rw [if_neg x, if_neg x, if_pos hd', if_pos hd']
      exact ⟨by decide, h.same.tick⟩
end Go.Proofs.YtalnfiegkkkkgaaGreat.Tx
