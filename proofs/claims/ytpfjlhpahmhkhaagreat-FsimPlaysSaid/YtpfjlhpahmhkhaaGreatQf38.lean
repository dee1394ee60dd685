/- Texts put together: WHm0. -/
import Derived.Test.YtpfjlhpahmhkhaaGreatQf34
/- Package fsim as the program keeps it, as plain data: what holds of it whatever is called. (No Go in it.) -/
set_option linter.unusedVariables false
set_option linter.unusedSimpArgs false
namespace Go.Proofs.YtpfjlhpahmhkhaaGreat.Tx

theorem path_ne {p : List UInt8} (h : pathB p = true) : p ≠ [] := by
  rintro rfl
  revert h
  decide
theorem gone_nil (R : List RowM) : goneM R [] = R := if_pos rfl
theorem gone_some (R : List RowM) {p : List UInt8} (h : p ≠ []) : goneM R p = withoutM R p := if_neg h
theorem under_nil (p : List UInt8) : underB p [] = false := by
  cases h : underB p [] with
  | false => rfl
  | true =>
    unfold underB at h
    simp only [Bool.and_eq_true] at h
    exact absurd rfl (path_ne h.1.1.1.2)
/-- What may stand beside all but what goes. -/
theorem may_of {R : List RowM} {p wo : List UInt8} (ho : Ord R) (hw : wo = [] ∨ peekB R wo = true) (h : mayC R p wo = true) : mayM (goneM R wo) p = true := by
  unfold mayC at h
  rw [Bool.and_eq_true] at h
  obtain ⟨h1, h2⟩ := h
  have h2 := of_decide_eq_true h2
  have hz : cntM (goneM R wo) p = 0 := by
    rcases hw with rfl | hw
    · rw [under_nil, if_neg (by decide)] at h2
      rw [gone_nil]
      omega
    · unfold peekB at hw
      obtain ⟨r, hr, rfl⟩ := find_some hw
      by_cases hwo : r.path = []
      · rw [hwo, under_nil, if_neg (by decide)] at h2
        rw [hwo, gone_nil]
        omega
      · rw [gone_some R hwo]
        have h3 := cnt_without ho hr p
        rw [count_parents] at h3
        by_cases hu : underB p r.path = true
        · rw [if_pos hu] at h2 h3; omega
        · rw [if_neg hu] at h2 h3; omega
  unfold mayM
  refine List.all_eq_true.2 fun r hr => ?_
  have hu1 := cnt_zero.1 hz r hr
  have hu2 : underB r.path p = false := by
    cases hu : underB r.path p with
    | false => rfl
    | true =>
      have hm := (under_iff _ _).1 hu
      have hb : blockedC R (parentsL p) wo = false := by simpa using h1
      unfold blockedC at hb
      have hb := List.any_eq_false.1 hb _ hm
      have hs : standsM R r.path = true := stands_iff.2 ⟨r, gone_mem hr, rfl⟩
      have hne : r.path ≠ wo := by
        intro e
        by_cases hwo : wo = []
        · subst hwo
          have := (under_iff _ _).2 hm
          rw [e] at this
          unfold underB at this
          simp only [Bool.and_eq_true] at this
          exact absurd rfl (path_ne this.1.1.1.1)
        · rw [gone_some R hwo] at hr
          exact (mem_without.1 hr).2 e
      rw [hs] at hb
      simp [hne] at hb
  rw [hu1, hu2]
  rfl
theorem peek_at {R : List RowM} {p : List UInt8} (h : peekB R p = true) : (⟨p, peekF R p⟩ : RowM) ∈ R := by
  unfold peekB at h
  obtain ⟨i, hi⟩ := Option.isSome_iff_exists.1 h
  obtain ⟨r, hr, e⟩ := find_at hi
  have hm := List.mem_of_getElem? hr
  have : peekF R p = r.f := by
    unfold peekF
    rw [hi]
    show rowF R i = r.f
    unfold rowF
    rw [hr]
  rw [this, ← e]
  exact hm
/-- A change that may be made on rows, at a time. -/
def ChOk (R : List RowM) (q : ChM) (t : Int) : Prop := q.gone = [] → q.path ≠ [] → pathB q.path = true ∧ (1 ≤ q.f.mode ∧ q.f.mode ≤ 3) ∧ q.f.data.length ≤ 20000 ∧ q.f.time ≤ t ∧ mayM R q.path = true
theorem ChOk.later {R : List RowM} {q : ChM} {t t' : Int} (h : ChOk R q t) (ht : t ≤ t') : ChOk R q t' := fun h1 h2 => by
  obtain ⟨a, b, c, d, e⟩ := h h1 h2
  exact ⟨a, b, c, by omega, e⟩
structure InvC (c : CSt) : Prop where
  here : c.here = foldC c.durable c.pending c.pending.length
  ok : ∀ k, RowsOk (foldC c.durable c.pending k) c.time
  ch : ∀ k q, c.pending[k]? = some q → ChOk (foldC c.durable c.pending k) q c.time
theorem InvC.rows {c : CSt} (h : InvC c) : RowsOk c.here c.time := by rw [h.here]; exact h.ok _
theorem InvC.durable {c : CSt} (h : InvC c) : RowsOk c.durable c.time := h.ok 0
/-- All that the invariant reads is as it was. -/
theorem InvC.same {c c' : CSt} (h : InvC c) (h1 : c'.here = c.here) (h2 : c'.durable = c.durable) (h3 : c'.pending = c.pending) (h4 : c'.time = c.time) : InvC c' :=
  ⟨by rw [h1, h2, h3]; exact h.here, fun k => by rw [h2, h3, h4]; exact h.ok k, fun k q hq => by rw [h3] at hq; rw [h2, h3, h4]; exact h.ch k q hq⟩
theorem fold_do (c : CSt) (q : ChM) (h : c.here = foldC c.durable c.pending c.pending.length) (k : Nat) : foldC (doC c q).durable (doC c q).pending k = if k ≤ c.pending.length then foldC c.durable c.pending k else applyC c.here q := by
  show ((c.pending ++ [q]).take k).foldl applyC c.durable = _
  split
  · rename_i hk
    rw [List.take_append_of_le_length hk]
    rfl
  · rename_i hk
    rw [List.take_of_length_le (by rw [List.length_append, List.length_singleton]; omega), List.foldl_append, h, foldC_all _ _ (Nat.le_refl _)]
    rfl
theorem pend_do (c : CSt) (q : ChM) : (doC c q).pending.length = c.pending.length + 1 := by
  show (c.pending ++ [q]).length = _
  rw [List.length_append, List.length_singleton]
theorem InvC.do_ {c : CSt} (h : InvC c) (q : ChM) (hr : RowsOk (applyC c.here q) (c.time + 1)) (hq : ChOk c.here q (c.time + 1)) : InvC (doC c q) := by
  refine ⟨?_, fun k => ?_, fun k x hx => ?_⟩
  · rw [pend_do, fold_do c q h.here, if_neg (by omega)]; rfl
  · rw [fold_do c q h.here]
    show RowsOk _ (c.time + 1)
    split
    · exact (h.ok k).later (by omega)
    · exact hr
  · have hx' : (c.pending ++ [q])[k]? = some x := hx
    have hkl := (List.getElem?_eq_some_iff.1 hx').1
    rw [List.length_append, List.length_singleton] at hkl
    rw [fold_do c q h.here, if_pos (by omega)]
    show ChOk _ x (c.time + 1)
    by_cases hkk : k < c.pending.length
    · rw [List.getElem?_append_left hkk] at hx'
      exact (h.ch k x hx').later (by omega)
    · have e : k = c.pending.length := by omega
      subst e
      rw [List.getElem?_append_right (Nat.le_refl _), Nat.sub_self] at hx'
      injection hx' with hx'
      rw [← hx', ← h.here]
      exact hq
theorem InvC.of_rows {c : CSt} (hp : c.pending = []) (hs : c.here = c.durable) (hr : RowsOk c.here c.time) : InvC c := by
  have e : ∀ k, foldC c.durable c.pending k = c.here := fun k => by unfold foldC; rw [hp, hs]; simp
  exact ⟨(e _).symm, fun k => by rw [e]; exact hr, fun k q hq => by rw [hp] at hq; cases hq⟩
theorem InvC.settle {c : CSt} (h : InvC c) : InvC (settleC c) := by
  have e : c.here = c.pending.foldl applyC c.durable := by rw [← foldC_all _ _ (Nat.le_refl _)]; exact h.here
  exact InvC.of_rows rfl e h.rows
theorem InvC.new_ (room : Int) : InvC (newC room) := InvC.of_rows rfl rfl (RowsOk.nil_ _)
theorem wrE_ok {c : CSt} {p : List UInt8} {mode : Int} {data : List UInt8} {room : Int} {create : Bool} (h : wrE c p mode data room create = 0) :
    pathB p = true ∧ (1 ≤ mode ∧ mode ≤ 3) ∧ data.length ≤ 20000 ∧ mayC c.here p [] = true ∧ (usedM c.here : Int) - ((peekF c.here p).data.length : Int) + (data.length : Int) ≤ room ∧ ¬ (create = true ∧ peekB c.here p = true) := by
  unfold wrE at h
  split at h
  · cases h
  · rename_i h1
    split at h
    · cases h
    · rename_i h2
      split at h
      · cases h
      · rename_i h3
        split at h
        · cases h
        · rename_i h4
          split at h
          · cases h
          · rename_i h5
            split at h
            · cases h
            · exact ⟨by simpa using h1, by omega, by omega, by simpa using h5, by omega, h4⟩
theorem apply_put (R : List RowM) (p : List UInt8) (f : FileM) (h : p ≠ []) : applyC R ⟨[], p, f⟩ = withM R p f := by
  show (if p = [] then goneM R [] else withM (goneM R []) p f) = _
  rw [if_neg h, gone_nil]
theorem apply_move (R : List RowM) (fr p : List UInt8) (f : FileM) (hf : fr ≠ []) (h : p ≠ []) : applyC R ⟨fr, p, f⟩ = withM (withoutM R fr) p f := by
  show (if p = [] then goneM R fr else withM (goneM R fr) p f) = _
  rw [if_neg h, gone_some _ hf]
theorem apply_drop (R : List RowM) (p : List UInt8) (f : FileM) (h : p ≠ []) : applyC R ⟨p, [], f⟩ = withoutM R p := by
  show (if ([] : List UInt8) = [] then goneM R p else withM (goneM R p) [] f) = _
  rw [if_pos rfl, gone_some _ h]
theorem InvC.wr {c : CSt} (h : InvC c) (p : List UInt8) (mode : Int) (data : List UInt8) (room : Int) (create : Bool) : InvC (wrC c p mode data room create) := by
  unfold wrC
  split
  · rename_i he
    obtain ⟨a, b, d, m, _, _⟩ := wrE_ok he
    have hm := may_of h.rows.ord (.inl rfl) m
    rw [gone_nil] at hm
    refine h.do_ _ ?_ ?_
    · rw [apply_put _ _ _ (path_ne a)]
      exact (h.rows.later (by omega)).with_ (p := p) (f := ⟨mode, data, c.time + 1⟩) a b d (Int.le_refl _) (.inr hm)
    · exact fun _ _ => ⟨a, b, d, Int.le_refl _, hm⟩
  · exact h
theorem rmE_ok {c : CSt} {p : List UInt8} (h : rmE c p = 0) : pathB p = true ∧ peekB c.here p = true := by
  unfold rmE at h
  split at h
  · cases h
  · rename_i h1
    split at h
    · cases h
    · rename_i h2
      exact ⟨by simpa using h1, by simpa using h2⟩
theorem InvC.rm {c : CSt} (h : InvC c) (p : List UInt8) : InvC (rmC c p) := by
  unfold rmC
  split
  · rename_i he
    obtain ⟨a, _⟩ := rmE_ok he
    refine h.do_ _ ?_ ?_
    · rw [apply_drop _ _ _ (path_ne a)]
      exact (h.rows.later (by omega)).without p
    · exact fun _ h2 => absurd rfl h2
  · exact h
theorem mvE_ok {c : CSt} {fr tt : List UInt8} {create : Bool} (h : mvE c fr tt create = 0) : pathB fr = true ∧ pathB tt = true ∧ peekB c.here fr = true ∧ ¬ (create = true ∧ peekB c.here tt = true) ∧ (tt ≠ fr → mayC c.here tt fr = true) := by
  unfold mvE at h
  split at h
  · cases h
  · rename_i h1
    split at h
    · cases h
    · rename_i h2
      split at h
      · cases h
      · rename_i h3
        have hp : pathB fr = true ∧ pathB tt = true := by
          cases hf : pathB fr with
          | false => exact absurd (.inl hf) h1
          | true => cases ht : pathB tt with
            | false => exact absurd (.inr ht) h1
            | true => exact ⟨rfl, rfl⟩
        split at h
        · rename_i h4
          exact ⟨hp.1, hp.2, by simpa using h2, h3, fun hn => absurd h4 hn⟩
        · split at h
          · cases h
          · rename_i h5
            exact ⟨hp.1, hp.2, by simpa using h2, h3, fun _ => by simpa using h5⟩
theorem InvC.mv {c : CSt} (h : InvC c) (fr tt : List UInt8) (create : Bool) : InvC (mvC c fr tt create) := by
  unfold mvC
  split
  · rename_i he
    obtain ⟨he, hne⟩ := he
    obtain ⟨a, b, d, _, m⟩ := mvE_ok he
    have hm := may_of h.rows.ord (.inr d) (m hne)
    rw [gone_some _ (path_ne a)] at hm
    have hrow := h.rows.row _ (peek_at d)
    refine h.do_ _ ?_ ?_
    · rw [apply_move _ _ _ _ (path_ne a) (path_ne b)]
      exact ((h.rows.later (by omega)).without fr).with_ b ⟨hrow.2.1, hrow.2.2.1⟩ hrow.2.2.2.1 (by have := hrow.2.2.2.2; dsimp only at this ⊢; omega) (.inr hm)
    · exact fun h1 _ => absurd h1 (path_ne a)
  · exact h
theorem InvC.uw {c : CSt} (h : InvC c) (p : List UInt8) (mode : Int) (data : List UInt8) : InvC (uwC c p mode data) := by
  unfold uwC
  split
  · exact InvC.same (c := settleC (wrC c p mode data 9223372036854775807 false)) (h.wr _ _ _ _ _).settle rfl rfl rfl rfl
  · exact h
theorem InvC.ur {c : CSt} (h : InvC c) (p : List UInt8) : InvC (urC c p) := by
  unfold urC
  split
  · exact InvC.same (c := settleC (rmC c p)) (h.rm p).settle rfl rfl rfl rfl
  · exact h
/-- What a fall leaves. -/
theorem left_fold (c : CSt) (keep torn : Int) : (leftC c keep torn).foldl applyC c.durable = match c.pending[keepC c keep]? with
    | none => foldC c.durable c.pending (keepC c keep)
    | some q => if tearsB q torn = true then applyC (foldC c.durable c.pending (keepC c keep)) (partC q torn) else foldC c.durable c.pending (keepC c keep) := by
  unfold leftC
  rw [List.foldl_append]
  cases hq : c.pending[keepC c keep]? with
  | none => rfl
  | some q =>
    show (if tearsB q torn = true then [partC q torn] else []).foldl applyC (foldC c.durable c.pending (keepC c keep)) = _
    dsimp only
    split <;> rfl
theorem left_ok {c : CSt} (h : InvC c) (keep torn : Int) : RowsOk ((leftC c keep torn).foldl applyC c.durable) c.time := by
  rw [left_fold]
  split
  · exact h.ok _
  · rename_i q hq
    split
    · rename_i ht
      unfold tearsB at ht
      simp only [Bool.and_eq_true, decide_eq_true_eq] at ht
      unfold applyC partC
      dsimp only
      rw [ht.1, gone_nil]
      split
      · exact h.ok _
      · rename_i hp
        obtain ⟨a, b, d, e, m⟩ := h.ch _ q hq ht.1 hp
        exact (h.ok _).with_ (p := q.path) (f := { q.f with data := q.f.data.take torn.toNat }) a b (by show (q.f.data.take torn.toNat).length ≤ 20000; rw [List.length_take]; omega) e (.inr m)
    · exact h.ok _
theorem InvC.cr {c : CSt} (h : InvC c) (keep torn : Int) : InvC (crC c keep torn) := by
  unfold crC
  split
  · exact h
  · exact InvC.of_rows rfl rfl (left_ok h keep torn)
theorem InvC.ev {s : BgC} (h : InvC s.c) (e : EvM) : InvC (evC s e).c := by
  have h1 : InvC { s.c with plan := s.c.plan.tail } := h.same rfl rfl rfl rfl
  unfold evC
  split
  · exact h1.cr _ _
  · split
    · exact h1
    · split
      · exact h1
      · split
        · exact h1.uw _ _ _
        · split
          · exact h1.ur _
          · exact h1
theorem bgK_more {c : CSt} {k : Nat} (h : c.plan[k]? = none) : bgK c (k + 1) = bgK c k := by
  have hl : c.plan.length ≤ k := by simpa using h
  unfold bgK
  rw [List.take_of_length_le (by omega), List.take_of_length_le hl]
theorem InvC.bgk {c : CSt} (h : InvC c) : ∀ k, InvC (bgK c k).c
  | 0 => h.same rfl rfl rfl rfl
  | k + 1 => by
    cases he : c.plan[k]? with
    | none => rw [bgK_more he]; exact InvC.bgk h k
    | some e => rw [bgK_next he]; exact (InvC.bgk h k).ev e
theorem InvC.bg {c : CSt} (h : InvC c) : InvC (bgC c).c := h.bgk _
theorem InvC.crt {c : CSt} (h : InvC c) (p : List UInt8) (mode : Int) (data : List UInt8) (create : Bool) : InvC (crtC c p mode data create) := by
  unfold crtC
  split
  · exact h.bg.wr _ _ _ _ _
  · exact h.bg
theorem InvC.mov {c : CSt} (h : InvC c) (fr tt : List UInt8) (create : Bool) : InvC (movC c fr tt create) := by
  unfold movC
  split
  · exact h.bg.mv _ _ _
  · exact h.bg
theorem InvC.rem {c : CSt} (h : InvC c) (p : List UInt8) : InvC (remC c p) := by
  unfold remC
  split
  · exact h.bg.rm _
  · exact h.bg
theorem InvC.syn {c : CSt} (h : InvC c) : InvC (synC c) := by
  unfold synC
  split
  · exact h.bg.settle
  · exact h.bg
theorem InvC.does {c : CSt} (h : InvC c) (o : LOp) : InvC (doesC c o) := by
  refine doesC_at (P := InvC) c o (fun _ => h.crt _ _ _ _) (fun _ => h.crt _ _ _ _) (fun _ => h.mov _ _ _) (fun _ => h.mov _ _ _) (fun _ => h.rem _) (fun _ => h.syn) (fun _ => h.bg) (fun _ => h.bg) (fun _ => h.uw _ _ _) (fun _ => h.ur _) (fun _ => h.cr _ _) (fun _ => h.same rfl rfl rfl rfl) (fun _ => h.same rfl rfl rfl rfl) (fun _ => h)

/-! The room is kept but for what users write. -/
def KeptC (c : CSt) : Prop := c.users ≠ [] ∨ ∀ k, (usedM (foldC c.durable c.pending k) : Int) ≤ max c.room 0
theorem KeptC.now {c : CSt} (h : KeptC c) (hi : InvC c) : c.users ≠ [] ∨ (usedM c.here : Int) ≤ max c.room 0 := by
  rcases h with h | h
  · exact .inl h
  · right; rw [hi.here]; exact h _
theorem KeptC.same {c c' : CSt} (h : KeptC c) (h2 : c'.durable = c.durable) (h3 : c'.pending = c.pending) (h4 : c'.room = c.room) (h5 : c'.users = c.users) : KeptC c' := by
  unfold KeptC
  rw [h2, h3, h4, h5]
  exact h
theorem KeptC.do_ {c : CSt} (h : KeptC c) (hi : InvC c) (q : ChM) (ho : (usedM c.here : Int) ≤ max c.room 0 → (usedM (applyC c.here q) : Int) ≤ max c.room 0) : KeptC (doC c q) := by
  rcases h with h | h
  · exact .inl h
  · right
    intro k
    rw [fold_do c q hi.here]
    show _ ≤ max c.room 0
    split
    · exact h k
    · exact ho (by rw [hi.here]; exact h _)
theorem KeptC.of_rows {c : CSt} (hp : c.pending = []) (hr : c.users ≠ [] ∨ (usedM c.durable : Int) ≤ max c.room 0) : KeptC c := by
  have e : ∀ k, foldC c.durable c.pending k = c.durable := fun k => by unfold foldC; rw [hp]; simp
  rcases hr with hr | hr
  · exact .inl hr
  · exact .inr fun k => by rw [e]; exact hr
theorem KeptC.settle {c : CSt} (h : KeptC c) : KeptC (settleC c) := by
  refine KeptC.of_rows rfl ?_
  rcases h with h | h
  · exact .inl h
  · right
    have := h c.pending.length
    rw [foldC_all _ _ (Nat.le_refl _)] at this
    exact this
theorem KeptC.new_ (room : Int) : KeptC (newC room) := by
  refine KeptC.of_rows rfl (.inr ?_)
  show ((0 : Nat) : Int) ≤ max room 0
  omega
theorem old_peek (R : List RowM) (p : List UInt8) : oldM R p = (peekF R p).data.length := by
  unfold oldM peekF
  cases findM R p with
  | none => rfl
  | some i =>
    dsimp only
    unfold rowF
    cases R[i]? <;> rfl
theorem KeptC.wr {c : CSt} (h : KeptC c) (hi : InvC c) (p : List UInt8) (mode : Int) (data : List UInt8) (room : Int) (create : Bool) (hroom : room ≤ max c.room 0) : KeptC (wrC c p mode data room create) := by
  unfold wrC
  split
  · rename_i he
    obtain ⟨a, _, _, _, hr, _⟩ := wrE_ok he
    refine h.do_ hi _ (fun _ => ?_)
    rw [apply_put _ _ _ (path_ne a)]
    have h1 := used_put hi.rows.ord p ⟨mode, data, c.time + 1⟩
    rw [old_peek] at h1
    have h2 : ((⟨mode, data, c.time + 1⟩ : FileM).data.length : Int) = data.length := rfl
    omega
  · exact h
theorem KeptC.rm {c : CSt} (h : KeptC c) (hi : InvC c) (p : List UInt8) : KeptC (rmC c p) := by
  unfold rmC
  split
  · rename_i he
    refine h.do_ hi _ (fun hn => ?_)
    rw [apply_drop _ _ _ (path_ne (rmE_ok he).1)]
    have := used_without_le p c.here
    omega
  · exact h
theorem used_move {R : List RowM} (h : Ord R) {fr tt : List UInt8} (hf : peekB R fr = true) : usedM (withM (withoutM R fr) tt (peekF R fr)) ≤ usedM R := by
  have h1 := used_with (withoutM R fr) tt (peekF R fr)
  have h2 := used_without_le tt (withoutM R fr)
  have h3 := used_without fr h
  rw [old_peek] at h3
  omega
theorem KeptC.mv {c : CSt} (h : KeptC c) (hi : InvC c) (fr tt : List UInt8) (create : Bool) : KeptC (mvC c fr tt create) := by
  unfold mvC
  split
  · rename_i he
    obtain ⟨he, hne⟩ := he
    obtain ⟨a, b, d, _, m⟩ := mvE_ok he
    refine h.do_ hi _ (fun hn => ?_)
    rw [apply_move _ _ _ _ (path_ne a) (path_ne b)]
    have := used_move (tt := tt) hi.rows.ord d
    omega
  · exact h
theorem KeptC.uw {c : CSt} (h : KeptC c) (p : List UInt8) (mode : Int) (data : List UInt8) : KeptC (uwC c p mode data) := by
  unfold uwC
  split
  · exact .inl (fun e => by
      have h1 := congrArg List.length (show _ ++ [_] = [] from e)
      simp at h1)
  · exact h
theorem KeptC.ur {c : CSt} (h : KeptC c) (p : List UInt8) : KeptC (urC c p) := by
  unfold urC
  split
  · exact .inl (fun e => by
      have h1 := congrArg List.length (show _ ++ [_] = [] from e)
      simp at h1)
  · exact h
theorem left_used (c : CSt) (keep torn : Int) : usedM ((leftC c keep torn).foldl applyC c.durable) ≤ usedM (foldC c.durable c.pending (keepC c keep)) ∨ usedM ((leftC c keep torn).foldl applyC c.durable) ≤ usedM (foldC c.durable c.pending (keepC c keep + 1)) := by
  rw [left_fold]
  split
  · exact .inl (Nat.le_refl _)
  · rename_i q hq
    split
    · rename_i ht
      unfold tearsB at ht
      simp only [Bool.and_eq_true, decide_eq_true_eq] at ht
      rw [foldC_next hq]
      unfold applyC partC
      dsimp only
      split
      · exact .inr (Nat.le_refl _)
      · right
        rw [used_with, used_with]
        show _ + (q.f.data.take torn.toNat).length ≤ _
        rw [List.length_take]
        omega
    · exact .inl (Nat.le_refl _)
theorem KeptC.cr {c : CSt} (h : KeptC c) (keep torn : Int) : KeptC (crC c keep torn) := by
  unfold crC
  split
  · exact h
  · refine KeptC.of_rows rfl ?_
    rcases h with h | h
    · exact .inl h
    · right
      show (usedM ((leftC c keep torn).foldl applyC c.durable) : Int) ≤ max c.room 0
      have h1 := h (keepC c keep)
      have h2 := h (keepC c keep + 1)
      rcases left_used c keep torn with h3 | h3 <;> omega
theorem KeptC.ev {s : BgC} (h : KeptC s.c) (e : EvM) : KeptC (evC s e).c := by
  have h1 : KeptC { s.c with plan := s.c.plan.tail } := h.same rfl rfl rfl rfl
  unfold evC
  split
  · exact h1.cr _ _
  · split
    · exact h1
    · split
      · exact h1
      · split
        · exact h1.uw _ _ _
        · split
          · exact h1.ur _
          · exact h1
theorem ev_room (s : BgC) (e : EvM) (h : s.room ≤ max s.c.room 0) : (evC s e).room ≤ max (evC s e).c.room 0 := by
  rw [(ev_plan s e).2.2]
  unfold evC
  split
  · exact h
  · split
    · show (-1 : Int) ≤ _; omega
    · split
      · exact h
      · split
        · exact h
        · split
          · exact h
          · exact h
theorem KeptC.bgk {c : CSt} (h : KeptC c) : ∀ k, KeptC (bgK c k).c ∧ (bgK c k).room ≤ max (bgK c k).c.room 0
  | 0 => ⟨h.same rfl rfl rfl rfl, by show c.room ≤ max c.room 0; omega⟩
  | k + 1 => by
    cases he : c.plan[k]? with
    | none => rw [bgK_more he]; exact KeptC.bgk h k
    | some e => rw [bgK_next he]; exact ⟨(KeptC.bgk h k).1.ev e, ev_room _ e (KeptC.bgk h k).2⟩
theorem KeptC.bg {c : CSt} (h : KeptC c) : KeptC (bgC c).c ∧ (bgC c).room ≤ max (bgC c).c.room 0 := h.bgk _
theorem KeptC.does {c : CSt} (h : KeptC c) (hi : InvC c) (o : LOp) : KeptC (doesC c o) := by
  have hb := h.bg
  have hib := hi.bg
  have hcrt : ∀ create, KeptC (crtC c o.path o.mode o.data create) := fun create => by
    unfold crtC
    split
    · exact hb.1.wr hib _ _ _ _ _ hb.2
    · exact hb.1
  have hmov : ∀ create, KeptC (movC c o.path o.dest create) := fun create => by
    unfold movC
    split
    · exact hb.1.mv hib _ _ _
    · exact hb.1
  refine doesC_at (P := KeptC) c o (fun _ => hcrt _) (fun _ => hcrt _) (fun _ => hmov _) (fun _ => hmov _) (fun _ => ?_) (fun _ => ?_) (fun _ => hb.1) (fun _ => hb.1) (fun _ => h.uw _ _ _) (fun _ => h.ur _) (fun _ => h.cr _ _) (fun _ => h.same rfl rfl rfl rfl) (fun _ => h.same rfl rfl rfl rfl) (fun _ => h)
  · unfold remC
    split
    · exact hb.1.rm hib _
    · exact hb.1
  · unfold synC
    split
    · exact hb.1.settle
    · exact hb.1
/-- What Does may leave: its answer told, but for the order of what is planned. -/
structure PlanR (c : CSt) (l : List EvM) (R : List EvM) : Prop where
  len : R.length = (l.filter fun e => decide (c.calls < e.at_)).length
  mem : ∀ e ∈ R, e ∈ l ∧ c.calls < e.at_
def DoesR (c : CSt) (o : LOp) (c' : CSt) : Prop := (o.kind ≠ 12 → c' = doesC c o) ∧ (o.kind = 12 → ∃ R, PlanR c o.plan R ∧ c' = { c with plan := R })
theorem DoesR.keeps {P : CSt → Prop} {c c' : CSt} {o : LOp} (h : DoesR c o c') (h1 : P (doesC c o)) (h2 : ∀ R, PlanR c o.plan R → P { c with plan := R }) : P c' := by
  by_cases hk : o.kind = 12
  · obtain ⟨R, hR, rfl⟩ := h.2 hk
    exact h2 R hR
  · rw [h.1 hk]; exact h1
theorem GoC.doesR {c c' : CSt} {i : Nat} (h : GoC c i) {o : LOp} (ho : OpOK o) (hd : DoesR c o c') : GoC c' (i + 1) := by
  refine hd.keeps (P := fun c => GoC c (i + 1)) (h.does ho) (fun R hR => ?_)
  have h1 := h.calls
  refine ⟨(h.fits.plan _).more (by omega), ⟨h1.1, by show c.calls ≤ _; omega⟩, ?_, fun e he => ho.paths e (hR.mem e he).1⟩
  show R.length ≤ 60
  rw [hR.len]
  exact Nat.le_trans (List.length_filter_le _ _) ho.plan
theorem InvC.doesR {c c' : CSt} (h : InvC c) {o : LOp} (hd : DoesR c o c') : InvC c' := hd.keeps (h.does o) (fun _ _ => h.same rfl rfl rfl rfl)
theorem KeptC.doesR {c c' : CSt} (h : KeptC c) (hi : InvC c) {o : LOp} (hd : DoesR c o c') : KeptC c' := hd.keeps (h.does hi o) (fun _ _ => h.same rfl rfl rfl rfl)
end Go.Proofs.YtpfjlhpahmhkhaaGreat.Tx
