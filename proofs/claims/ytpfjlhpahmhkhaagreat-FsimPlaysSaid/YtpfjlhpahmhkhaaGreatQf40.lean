/- Texts put together: WHm1, WHl0, WTi0, WTi1. -/
import Derived.Test.YtpfjlhpahmhkhaaGreatQf38
import Derived.Test.YtpfjlhpahmhkhaaGreatQf39
import Derived.Test.YtpfjlhpahmhkhaaGreatQf33
/- What users did, as plain data: their bytes are few. (No Go in it.) -/
set_option linter.unusedVariables false
set_option linter.unusedSimpArgs false
namespace Go.Proofs.YtpfjlhpahmhkhaaGreat.Tx

def UsrC (c : CSt) : Prop := ∀ e ∈ c.users, e.data.length ≤ 20000
theorem wr_users (c : CSt) (p : List UInt8) (mode : Int) (data : List UInt8) (room : Int) (create : Bool) : (wrC c p mode data room create).users = c.users := by
  unfold wrC
  split <;> rfl
theorem rm_users (c : CSt) (p : List UInt8) : (rmC c p).users = c.users := by
  unfold rmC
  split <;> rfl
theorem mv_users (c : CSt) (fr tt : List UInt8) (create : Bool) : (mvC c fr tt create).users = c.users := by
  unfold mvC
  split <;> rfl
theorem cr_users (c : CSt) (keep torn : Int) : (crC c keep torn).users = c.users := by
  unfold crC
  split <;> rfl
theorem UsrC.of_eq {c c' : CSt} (h : UsrC c) (e : c'.users = c.users) : UsrC c' := by unfold UsrC; rw [e]; exact h
theorem UsrC.note {c : CSt} (h : UsrC c) {e : EvM} (he : e.data.length ≤ 20000) : UsrC (noteC c e) := by
  intro x hx
  have hx' : x ∈ c.users ++ [{ e with at_ := c.calls }] := hx
  rcases List.mem_append.1 hx' with h1 | h1
  · exact h x h1
  · rw [List.mem_singleton.1 h1]; exact he
theorem UsrC.uw {c : CSt} (h : UsrC c) (p : List UInt8) (mode : Int) (data : List UInt8) : UsrC (uwC c p mode data) := by
  unfold uwC
  split
  · rename_i he
    have hd : data.length ≤ 20000 := by
      unfold uwE at he
      split at he
      · cases he
      · exact (wrE_ok he).2.2.1
    exact UsrC.note (h.of_eq (wr_users _ _ _ _ _ _)) hd
  · exact h
theorem UsrC.ur {c : CSt} (h : UsrC c) (p : List UInt8) : UsrC (urC c p) := by
  unfold urC
  split
  · exact UsrC.note (h.of_eq (rm_users _ _)) (Nat.zero_le _)
  · exact h
theorem UsrC.ev {s : BgC} (h : UsrC s.c) (e : EvM) : UsrC (evC s e).c := by
  have h1 : UsrC { s.c with plan := s.c.plan.tail } := h
  unfold evC
  split
  · exact h1.of_eq (cr_users _ _ _)
  · split
    · exact h1
    · split
      · exact h1
      · split
        · exact h1.uw _ _ _
        · split
          · exact h1.ur _
          · exact h1
theorem UsrC.bgk {c : CSt} (h : UsrC c) : ∀ k, UsrC (bgK c k).c
  | 0 => h
  | k + 1 => by
    cases he : c.plan[k]? with
    | none => rw [bgK_more he]; exact UsrC.bgk h k
    | some e => rw [bgK_next he]; exact (UsrC.bgk h k).ev e
theorem UsrC.bg {c : CSt} (h : UsrC c) : UsrC (bgC c).c := h.bgk _
theorem UsrC.does {c : CSt} (h : UsrC c) (o : LOp) : UsrC (doesC c o) := by
  have hb := h.bg
  have hcrt : ∀ create, UsrC (crtC c o.path o.mode o.data create) := fun create => by
    unfold crtC
    split
    · exact hb.of_eq (wr_users _ _ _ _ _ _)
    · exact hb
  have hmov : ∀ create, UsrC (movC c o.path o.dest create) := fun create => by
    unfold movC
    split
    · exact hb.of_eq (mv_users _ _ _ _)
    · exact hb
  refine doesC_at (P := UsrC) c o (fun _ => hcrt _) (fun _ => hcrt _) (fun _ => hmov _) (fun _ => hmov _) (fun _ => ?_) (fun _ => ?_) (fun _ => hb) (fun _ => hb) (fun _ => h.uw _ _ _) (fun _ => h.ur _) (fun _ => h.of_eq (cr_users _ _ _)) (fun _ => h) (fun _ => h) (fun _ => h)
  · unfold remC
    split
    · exact hb.of_eq (rm_users _ _)
    · exact hb
  · unfold synC
    split
    · exact hb
    · exact hb
/-- The room is kept but for what users write, and what they wrote is small. -/
def KeptU (c : CSt) : Prop := KeptC c ∧ UsrC c
theorem KeptU.new_ (room : Int) : KeptU (newC room) := ⟨KeptC.new_ room, fun e he => by cases he⟩
theorem KeptU.doesR {c c' : CSt} (h : KeptU c) (hi : InvC c) {o : LOp} (hd : DoesR c o c') : KeptU c' := ⟨h.1.doesR hi hd, hd.keeps (P := UsrC) (h.2.does o) (fun _ _ => h.2)⟩
end Go.Proofs.YtpfjlhpahmhkhaaGreat.Tx
/- marlaw5.Played: a file system behind any operations. -/
set_option linter.unusedVariables false
set_option linter.unusedSimpArgs false
namespace Go.Proofs.YtpfjlhpahmhkhaaGreat.Tx
open Go.RowKit Go.Maps Go.Proofs.YtpfjlhpahmhkhaaGreat.Sh

theorem doesR_room {c c' : CSt} {o : LOp} (h : DoesR c o c') : c'.room = c.room := by
  have hb : (bgC c).c.room = c.room := (bgK_plan c _).2.2
  have hmv : ∀ (s : CSt) fr tt create, (mvC s fr tt create).room = s.room := fun s fr tt create => by
    unfold mvC
    split <;> rfl
  refine h.keeps (P := fun x => x.room = c.room) ?_ (fun _ _ => rfl)
  have hcrt : ∀ create, (crtC c o.path o.mode o.data create).room = c.room := fun create => by
    unfold crtC
    split
    · exact (wr_plan _ _ _ _ _ _).2.2.trans hb
    · exact hb
  have hmov : ∀ create, (movC c o.path o.dest create).room = c.room := fun create => by
    unfold movC
    split
    · exact (hmv _ _ _ _).trans hb
    · exact hb
  refine doesC_at (P := fun x => x.room = c.room) c o (fun _ => hcrt _) (fun _ => hcrt _) (fun _ => hmov _) (fun _ => hmov _) (fun _ => ?_) (fun _ => ?_) (fun _ => hb) (fun _ => hb) (fun _ => (uw_plan c _ _ _).2.2) (fun _ => (ur_plan c _).2.2) (fun _ => (cr_plan c _ _).2.2) (fun _ => rfl) (fun _ => rfl) (fun _ => rfl)
  · unfold remC
    split
    · exact (rm_plan _ _).2.2.trans hb
    · exact hb
  · unfold synC
    split
    · exact hb
    · exact hb
theorem GoC.more {c : CSt} {i j : Nat} (h : GoC c i) (hij : i ≤ j) : GoC c j := ⟨h.fits.more (by omega), ⟨h.calls.1, by have := h.calls.2; omega⟩, h.plan, h.paths⟩
theorem GoM.more {s : FSM} {i j : Nat} (h : GoM s i) (hij : i ≤ j) : GoM s j := ⟨h.fits.more (by omega), ⟨h.calls.1, by have := h.calls.2; omega⟩, h.plan, h.paths⟩
structure PlayInv (G : Nat → Prop) (w : World) (v : Value) (l : List LOp) (room : Int) (b d k : Nat) (wr : World) (F M : Nat → Prop) (cs : CSt) (s : FSM) : Prop where
  two : TwoAt F wr b cs d s M
  sub : ∀ q, G q → F q
  goC : GoC cs k
  goM : GoM s k
  inv : InvC cs
  kept : KeptU cs
  room : cs.room = room
  ops : OpsF G wr v l
  low : ∀ q, M q → w.heap.size ≤ q
  below : Below w.heap.size w wr
theorem PlayInv.does {G : Nat → Prop} {w wr w2 : World} {v : Value} {l : List LOp} {room : Int} {b d k : Nat} {F M : Nat → Prop} {cs c' : CSt} {s : FSM} {o : LOp} (h : PlayInv G w v l room b d k wr F M cs s) (hd : DoesR cs o c') (hp : TwoPost F M wr b c' d (doesM s o) w2) (ho : OpOK o) : ∃ F' M', PlayInv G w v l room b d (k + 1) w2 F' M' c' (doesM s o) := by
  obtain ⟨M1, h1, h2, h3⟩ := hp
  have hz2 := h.below.size
  refine ⟨_, M1, ⟨h1, fun q hq => .inl (h.sub q hq), h.goC.doesR ho hd, h.goM.does ho, h.inv.doesR hd, h.kept.doesR h.inv hd, (doesR_room hd).trans h.room, h.ops.only h2 (fun q hq => h.two.apart_ q (h.sub q hq)), fun q hq => ?_, ?_⟩⟩
  · rcases h3 q hq with h4 | h4
    · exact h.low q h4
    · omega
  · exact h.below.trans ⟨h2.os, h2.tape, h2.output, h2.size, fun q hq => h2.block q (by omega) (fun hm => by have := h.low q hm; omega)⟩
/-- What Played leaves: nothing, or a file system of its own. -/
def PlayedAt (G : Nat → Prop) (room : Int) (w : World) (b : Nat) (F M : Nat → Prop) (c : CSt) (w' : World) : Prop :=
  (∀ q, G q → F q) ∧ FcAt F w' b c M ∧ (∀ q, M q → w.heap.size ≤ q) ∧ InvC c ∧ KeptU c ∧ c.room = room ∧ GoC c 100
def PlayedPost (G : Nat → Prop) (room : Int) (w : World) (e : Ending) (w' : World) : Prop :=
  Below w.heap.size w w' ∧ (e = .returned (.pointer none) ∨ ∃ b F M c, e = .returned (.pointer (some ⟨b, 0, none⟩)) ∧ PlayedAt G room w b F M c w')
end Go.Proofs.YtpfjlhpahmhkhaaGreat.Tx
/- The tie of the two file systems, the program's and the document's, as plain data: changes, crashes, users. (No Go in it.) -/
set_option linter.unusedVariables false
set_option linter.unusedSimpArgs false
namespace Go.Proofs.YtpfjlhpahmhkhaaGreat.Tx

theorem may_back {R : List RowM} {p wo : List UInt8} (ho : Ord R) (hw : wo = [] ∨ peekB R wo = true) (h : mayM (goneM R wo) p = true) : mayC R p wo = true := by
  unfold mayC
  rw [Bool.and_eq_true]
  constructor
  · rw [Bool.not_eq_true']
    unfold blockedC
    rw [List.any_eq_false]
    intro q hq hs
    simp only [Bool.and_eq_true, Bool.not_eq_true', beq_eq_false_iff_ne] at hs
    obtain ⟨hs, hne⟩ := hs
    obtain ⟨r, hr, rfl⟩ := stands_iff.1 hs
    have hm : r ∈ goneM R wo := by
      unfold goneM
      split
      · exact hr
      · exact mem_without.2 ⟨hr, hne⟩
    have h2 := (may_row h hm).2
    rw [(under_iff _ _).2 hq] at h2
    cases h2
  · refine decide_eq_true ?_
    have hz : cntM (goneM R wo) p = 0 := cnt_zero.2 fun r hr => (may_row h hr).1
    rcases hw with rfl | hw
    · rw [under_nil, if_neg (by decide)]
      rw [gone_nil] at hz
      omega
    · unfold peekB at hw
      obtain ⟨r, hr, rfl⟩ := find_some hw
      by_cases hwo : r.path = []
      · rw [hwo, under_nil, if_neg (by decide)]
        rw [hwo, gone_nil] at hz
        omega
      · rw [gone_some R hwo] at hz
        have h3 := cnt_without ho hr p
        rw [count_parents] at h3
        by_cases hu : underB p r.path = true
        · rw [if_pos hu] at h3 ⊢; omega
        · rw [if_neg hu] at h3 ⊢; omega
theorem may_iff {R : List RowM} {p wo : List UInt8} (ho : Ord R) (hw : wo = [] ∨ peekB R wo = true) : mayC R p wo = mayM (goneM R wo) p := by
  cases h : mayM (goneM R wo) p with
  | true => exact may_back ho hw h
  | false =>
    cases h2 : mayC R p wo with
    | false => rfl
    | true => rw [may_of ho hw h2] at h; cases h
theorem may_there {R : List RowM} {t : Int} {p : List UInt8} (h : RowsOk R t) (hp : peekB R p = true) : mayM R p = true := by
  have hm := peek_at hp
  refine List.all_eq_true.2 fun r hr => ?_
  have h1 := h.tree _ hm r hr
  have h2 := h.tree r hr _ hm
  rw [h1, h2]
  rfl
/-- A change of the one, an op of the other. -/
def Co (R : List RowM) (q : ChM) (o : OpM) : Prop :=
  (o.kind = 1 ∧ q = ⟨[], o.to, o.f⟩ ∧ o.to ≠ []) ∨ (o.kind = 2 ∧ o.fr ≠ [] ∧ o.to ≠ [] ∧ peekB R o.fr = true ∧ q = ⟨o.fr, o.to, peekF R o.fr⟩) ∨ (o.kind = 3 ∧ o.fr ≠ [] ∧ q = ⟨o.fr, [], q.f⟩)
theorem Co.apply {R : List RowM} {q : ChM} {o : OpM} (h : Co R q o) : applyC R q = applyM R o := by
  rcases h with ⟨h1, rfl, h3⟩ | ⟨h1, h2, h3, h4, rfl⟩ | ⟨h1, h2, h3⟩
  · rw [apply_put _ _ _ h3]
    unfold applyM
    rw [if_pos h1]
  · rw [apply_move _ _ _ _ h2 h3]
    unfold applyM
    rw [if_neg (by omega), if_pos h1]
    obtain ⟨i, hi⟩ := Option.isSome_iff_exists.1 (show (findM R o.fr).isSome = true from h4)
    obtain ⟨r, hr, _⟩ := find_at hi
    unfold peekF rowF
    simp only [hi, hr]
  · rw [h3, apply_drop _ _ _ h2]
    unfold applyM
    rw [if_neg (by omega), if_neg (by omega)]
theorem Co.tears {R : List RowM} {q : ChM} {o : OpM} (h : Co R q o) (torn : Int) : tearsB q torn = true ↔ (o.kind = 1 ∧ 0 ≤ torn ∧ torn < (o.f.data.length : Int)) := by
  unfold tearsB
  simp only [Bool.and_eq_true, decide_eq_true_eq]
  rcases h with ⟨h1, rfl, h3⟩ | ⟨h1, h2, h3, h4, rfl⟩ | ⟨h1, h2, h3⟩
  · exact ⟨fun h => ⟨h1, h.2⟩, fun h => ⟨rfl, h.2⟩⟩
  · exact ⟨fun h => absurd h.1 h2, fun h => by omega⟩
  · refine ⟨fun h => ?_, fun h => by omega⟩
    rw [h3] at h
    exact absurd h.1 h2
/-- The pending ones, side by side. -/
def PT : List RowM → List ChM → List OpM → Prop
  | _, [], [] => True
  | R, q :: l, o :: m => Co R q o ∧ PT (applyC R q) l m
  | _, _, _ => False
theorem PT.fold : ∀ {R : List RowM} {l : List ChM} {m : List OpM}, PT R l m → l.foldl applyC R = m.foldl applyM R
  | _, [], [], _ => rfl
  | R, q :: l, o :: m, h => by
    rw [List.foldl_cons, List.foldl_cons, h.2.fold, h.1.apply]
  | _, [], _ :: _, h => h.elim
  | _, _ :: _, [], h => h.elim
theorem PT.len : ∀ {R : List RowM} {l : List ChM} {m : List OpM}, PT R l m → l.length = m.length
  | _, [], [], _ => rfl
  | R, q :: l, o :: m, h => by rw [List.length_cons, List.length_cons, h.2.len]
  | _, [], _ :: _, h => h.elim
  | _, _ :: _, [], h => h.elim
theorem PT.take : ∀ {R : List RowM} {l : List ChM} {m : List OpM}, PT R l m → ∀ k, PT R (l.take k) (m.take k)
  | _, [], [], _, k => by rw [List.take_nil, List.take_nil]; trivial
  | R, q :: l, o :: m, h, 0 => trivial
  | R, q :: l, o :: m, h, k + 1 => ⟨h.1, h.2.take k⟩
  | _, [], _ :: _, h, _ => h.elim
  | _, _ :: _, [], h, _ => h.elim
theorem PT.snoc : ∀ {R : List RowM} {l : List ChM} {m : List OpM}, PT R l m → ∀ {q : ChM} {o : OpM}, Co (l.foldl applyC R) q o → PT R (l ++ [q]) (m ++ [o])
  | _, [], [], _, q, o, hc => ⟨hc, trivial⟩
  | R, x :: l, y :: m, h, q, o, hc => ⟨h.1, h.2.snoc hc⟩
  | _, [], _ :: _, h, _, _, _ => h.elim
  | _, _ :: _, [], h, _, _, _ => h.elim
theorem PT.get : ∀ {R : List RowM} {l : List ChM} {m : List OpM}, PT R l m → ∀ {k : Nat} {q : ChM}, l[k]? = some q → ∃ o, m[k]? = some o ∧ Co ((l.take k).foldl applyC R) q o
  | _, [], [], _, k, q, hq => by simp at hq
  | R, x :: l, y :: m, h, 0, q, hq => by
    have : x = q := by simpa using hq
    subst this
    exact ⟨y, rfl, h.1⟩
  | R, x :: l, y :: m, h, k + 1, q, hq => by
    obtain ⟨o, h1, h2⟩ := h.2.get (show l[k]? = some q by simpa using hq)
    exact ⟨o, by simpa using h1, h2⟩
  | _, [], _ :: _, h, _, _, _ => h.elim
  | _, _ :: _, [], h, _, _, _ => h.elim
/-- Both file systems, but for what is planned. -/
structure Tie (c : CSt) (s : FSM) : Prop where
  room : c.room = s.room
  calls : c.calls = s.calls
  time : c.time = s.time
  down : c.down = s.down
  users : c.users = s.user
  now : c.here = s.now
  sure : c.durable = s.sure
  fold : c.here = c.pending.foldl applyC c.durable
  pend : PT c.durable c.pending s.pending
section
variable {c : CSt} {s : FSM}
theorem Tie.new_ (room : Int) : Tie (newC room) (newM room) := ⟨rfl, rfl, rfl, rfl, rfl, rfl, rfl, rfl, trivial⟩
theorem Tie.planned (h : Tie c s) (P Q : List EvM) : Tie { c with plan := P } { s with plan := Q } := ⟨h.room, h.calls, h.time, h.down, h.users, h.now, h.sure, h.fold, h.pend⟩
theorem Tie.up (h : Tie c s) : Tie { c with down := false } { s with down := false } := ⟨h.room, h.calls, h.time, rfl, h.users, h.now, h.sure, h.fold, h.pend⟩
theorem Tie.call (h : Tie c s) : Tie { c with calls := c.calls + 1 } { s with calls := s.calls + 1 } := ⟨h.room, by rw [h.calls], h.time, h.down, h.users, h.now, h.sure, h.fold, h.pend⟩
theorem Tie.settle (h : Tie c s) : Tie (settleC c) (safeM s) :=
  ⟨h.room, h.calls, h.time, h.down, h.users, h.now, by show c.pending.foldl applyC c.durable = s.now; rw [← h.fold]; exact h.now, h.fold, trivial⟩
theorem Tie.do_ (h : Tie c s) {q : ChM} {o : OpM} (hc : Co c.here q (opOf s o)) : Tie (doC c q) (changeM s o) := by
  have hf : applyC c.here q = applyM s.now (opOf s o) := by rw [hc.apply, h.now]
  exact ⟨h.room, h.calls, by show c.time + 1 = s.time + 1; rw [h.time], h.down, h.users, hf, h.sure, by
    show applyC c.here q = (c.pending ++ [q]).foldl applyC c.durable
    rw [List.foldl_append, ← h.fold]
    rfl, h.pend.snoc (by rw [← h.fold]; exact hc)⟩
theorem Tie.noted (h : Tie c s) (k mo : Int) (p d : List UInt8) : Tie (noteC c ⟨0, k, mo, 0, 0, p, d⟩) { safeM s with user := s.user ++ [⟨s.calls, k, mo, 0, 0, p, d⟩] } := by
  have hs := h.settle
  refine ⟨hs.room, hs.calls, hs.time, hs.down, ?_, hs.now, hs.sure, hs.fold, hs.pend⟩
  show c.users ++ [⟨c.calls, k, mo, 0, 0, p, d⟩] = s.user ++ [⟨s.calls, k, mo, 0, 0, p, d⟩]
  rw [h.users, h.calls]
theorem Tie.crash (h : Tie c s) (keep torn : Int) : Tie (crC c keep torn) (crashM s keep torn) := by
  unfold crC crashM
  rw [h.down]
  split
  · exact h
  · have hn : keepC c keep = (min (max keep 0) (s.pending.length : Int)).toNat := by unfold keepC; rw [h.pend.len]
    have hrow : (leftC c keep torn).foldl applyC c.durable = (match s.pending[keepC c keep]? with
        | none => againM s (keepC c keep)
        | some o => if o.kind = 1 ∧ 0 ≤ torn ∧ torn < (o.f.data.length : Int) then applyM (againM s (keepC c keep)) { o with f := { o.f with data := o.f.data.take torn.toNat } } else againM s (keepC c keep)) := by
      have hb : (c.pending.take (keepC c keep)).foldl applyC c.durable = againM s (keepC c keep) := by
        rw [(h.pend.take _).fold, h.sure]; rfl
      unfold leftC
      rw [List.foldl_append, hb]
      cases hq : c.pending[keepC c keep]? with
      | none =>
        have : s.pending[keepC c keep]? = none := by
          rw [List.getElem?_eq_none_iff] at hq ⊢
          rw [← h.pend.len]; exact hq
        rw [this]
        rfl
      | some q =>
        obtain ⟨o, ho, hc⟩ := h.pend.get hq
        rw [ho]
        rw [hb] at hc
        show (if tearsB q torn = true then [partC q torn] else []).foldl applyC _ = _
        by_cases ht : tearsB q torn = true
        · have h3 := (hc.tears torn).1 ht
          rw [if_pos ht]
          simp only [h3, and_self, if_true]
          rcases hc with ⟨h1, rfl, h4⟩ | ⟨h1, _⟩ | ⟨h1, _⟩
          · show applyC _ ⟨[], o.to, ⟨o.f.mode, o.f.data.take torn.toNat, o.f.time⟩⟩ = _
            rw [apply_put _ _ _ h4]
            unfold applyM
            rw [if_pos rfl]
          · omega
          · omega
        · rw [if_neg ht]
          have h3 : ¬ (o.kind = 1 ∧ 0 ≤ torn ∧ torn < (o.f.data.length : Int)) := fun e => ht ((hc.tears torn).2 e)
          simp only [h3, if_false]
          rfl
    rw [hn] at hrow
    refine ⟨h.room, h.calls, h.time, rfl, h.users, ?_, ?_, rfl, trivial⟩
    · exact hrow
    · exact hrow
end
end Go.Proofs.YtpfjlhpahmhkhaaGreat.Tx
/- The tie of the two file systems, as plain data: what a call does; how it begins. (No Go in it.) -/
set_option linter.unusedVariables false
set_option linter.unusedSimpArgs false
namespace Go.Proofs.YtpfjlhpahmhkhaaGreat.Tx

section
variable {c : CSt} {s : FSM}
theorem Tie.peek (h : Tie c s) (p : List UInt8) : peekB c.here p = (findM s.now p).isSome := by rw [h.now]; rfl
theorem find_isNone (R : List RowM) (p : List UInt8) : (findM R p).isNone = true ↔ peekB R p = false := by
  unfold peekB
  cases findM R p <;> simp
theorem Tie.wrE (h : Tie c s) {t : Int} (hr : RowsOk s.now t) (p : List UInt8) (mode : Int) (data : List UInt8) (full : Bool) (room : Int) (create : Bool) :
    wrE c p mode data (if full = true then -1 else room) create = putE s p mode data create full room := by
  have hm : (mayC c.here p [] = false) ↔ ((findM s.now p).isNone = true ∧ mayM s.now p = false) := by
    rw [h.now, may_iff hr.ord (.inl rfl), gone_nil, find_isNone]
    constructor
    · intro hx
      refine ⟨?_, hx⟩
      cases hp : peekB s.now p with
      | true => rw [may_there hr hp] at hx; cases hx
      | false => rfl
    · exact fun hx => hx.2
  have ho : (oldM s.now p : Int) = ((peekF c.here p).data.length : Int) := by rw [h.now, old_peek]
  have hle : oldM s.now p ≤ usedM s.now := by have := used_without p hr.ord; omega
  have hroom : ((if full = true then -1 else room) < (usedM c.here : Int) - ((peekF c.here p).data.length : Int) + (data.length : Int)) ↔ (full = true ∨ room < (usedM s.now : Int) - oldM s.now p + data.length) := by
    rw [← ho, h.now]
    cases full with
    | true =>
      simp only [if_true, true_or, iff_true]
      omega
    | false =>
      rw [if_neg (by decide)]
      exact ⟨.inr, fun h => h.resolve_left (by decide)⟩
  have hc : (create = true ∧ peekB c.here p = true) ↔ ((findM s.now p).isSome = true ∧ create = true) := by rw [h.peek]; exact And.comm
  unfold Tx.wrE putE
  by_cases c1 : pathB p = false
  · rw [if_pos c1, if_pos c1]
  rw [if_neg c1, if_neg c1]
  by_cases c2 : mode < 1 ∨ 3 < mode
  · rw [if_pos c2, if_pos c2]
  rw [if_neg c2, if_neg c2]
  by_cases c3 : 20000 < data.length
  · rw [if_pos c3, if_pos c3]
  rw [if_neg c3, if_neg c3]
  by_cases c4 : create = true ∧ peekB c.here p = true
  · rw [if_pos c4, if_pos (hc.1 c4)]
  rw [if_neg c4, if_neg (fun e => c4 (hc.2 e))]
  by_cases c5 : mayC c.here p [] = false
  · rw [if_pos c5, if_pos (hm.1 c5)]
  rw [if_neg c5, if_neg (fun e => c5 (hm.2 e))]
  by_cases c6 : (if full = true then -1 else room) < (usedM c.here : Int) - ((peekF c.here p).data.length : Int) + (data.length : Int)
  · rw [if_pos c6, if_pos (hroom.1 c6)]
  rw [if_neg c6, if_neg (fun e => c6 (hroom.2 e))]
theorem Tie.wr (h : Tie c s) {t : Int} (hr : RowsOk s.now t) (p : List UInt8) (mode : Int) (data : List UInt8) (full : Bool) (room : Int) (create : Bool) :
    Tie (wrC c p mode data (if full = true then -1 else room) create) (putM s p mode data create full room) := by
  have he := h.wrE hr p mode data full room create
  unfold wrC putM
  rw [he]
  split
  · rename_i h0
    rw [h0] at he
    have hp := path_ne (wrE_ok he).1
    refine h.do_ (.inl ?_)
    rw [opOf_yes rfl]
    exact ⟨rfl, by rw [h.time], hp⟩
  · exact h
theorem Tie.rmE (h : Tie c s) (p : List UInt8) : rmE c p = dropE s p := by
  unfold Tx.rmE dropE
  by_cases c1 : pathB p = false
  · rw [if_pos c1, if_pos c1]
  rw [if_neg c1, if_neg c1]
  by_cases c2 : peekB c.here p = false
  · rw [if_pos c2, if_pos ((find_isNone _ _).2 (by rw [← h.now]; exact c2))]
  · rw [if_neg c2, if_neg (fun e => c2 (by rw [h.now]; exact (find_isNone _ _).1 e))]
theorem Tie.rm (h : Tie c s) (p : List UInt8) : Tie (rmC c p) (dropM s p) := by
  have he := h.rmE p
  unfold rmC dropM
  rw [he]
  split
  · rename_i h0
    rw [h0] at he
    have hp := path_ne (rmE_ok he).1
    refine h.do_ (.inr (.inr ?_))
    rw [opOf_no (by show (3 : Int) ≠ 1; decide)]
    exact ⟨rfl, hp, rfl⟩
  · exact h
theorem Tie.mvE (h : Tie c s) {t : Int} (hr : RowsOk s.now t) (fr tt : List UInt8) (create : Bool) : mvE c fr tt create = moveE0 s fr tt create := by
  unfold Tx.mvE moveE0
  by_cases c1 : pathB fr = false ∨ pathB tt = false
  · rw [if_pos c1, if_pos c1]
  rw [if_neg c1, if_neg c1]
  have hfr : fr ≠ [] := path_ne (by simpa using fun e => c1 (.inl e))
  by_cases c2 : peekB c.here fr = false
  · rw [if_pos c2, if_pos ((find_isNone _ _).2 (by rw [← h.now]; exact c2))]
  rw [if_neg c2, if_neg (show ¬ (findM s.now fr).isNone = true from fun e => c2 (by rw [h.now]; exact (find_isNone _ _).1 e))]
  have hpf : peekB s.now fr = true := by rw [← h.now]; simpa using c2
  by_cases c3 : create = true ∧ peekB c.here tt = true
  · rw [if_pos c3, if_pos (by rw [h.peek] at c3; exact c3)]
  rw [if_neg c3, if_neg (show ¬ (create = true ∧ (findM s.now tt).isSome = true) from fun e => c3 (by rw [h.peek]; exact e))]
  by_cases c4 : tt = fr
  · rw [if_pos c4, if_pos c4.symm]
  rw [if_neg c4, if_neg (show ¬ fr = tt from fun e => c4 e.symm)]
  have hm : (mayC c.here tt fr = false) ↔ ((findM s.now tt).isNone = true ∧ mayM (withoutM s.now fr) tt = false) := by
    rw [h.now, may_iff hr.ord (.inr hpf), gone_some _ hfr, find_isNone]
    constructor
    · intro hx
      refine ⟨?_, hx⟩
      cases hp : peekB s.now tt with
      | true =>
        have h2 : peekB (withoutM s.now fr) tt = true := by
          have := stands_without (R := s.now) (p := fr) (q := tt)
          rw [stands_find, stands_find, decide_eq_false c4, Bool.not_false, Bool.true_and] at this
          show (findM (withoutM s.now fr) tt).isSome = true
          rw [this]
          exact hp
        rw [may_there (hr.without fr) h2] at hx
        cases hx
      | false => rfl
    · exact fun hx => hx.2
  by_cases c5 : mayC c.here tt fr = false
  · rw [if_pos c5, if_pos (hm.1 c5)]
  rw [if_neg c5, if_neg (show ¬ ((findM s.now tt).isNone = true ∧ mayM (withoutM s.now fr) tt = false) from fun e => c5 (hm.2 e))]
theorem Tie.mv (h : Tie c s) {t : Int} (hr : RowsOk s.now t) (fr tt : List UInt8) (create : Bool) : Tie (mvC c fr tt create) (moveM0 s fr tt create) := by
  have he := h.mvE hr fr tt create
  unfold mvC moveM0
  rw [he]
  by_cases h0 : moveE0 s fr tt create = 0 ∧ tt ≠ fr
  · rw [if_pos h0, if_pos ⟨h0.1, fun e => h0.2 e.symm⟩]
    rw [h0.1] at he
    obtain ⟨g1, g2, g3, _⟩ := mvE_ok he
    refine h.do_ (.inr (.inl ?_))
    rw [opOf_no (by show (2 : Int) ≠ 1; decide)]
    exact ⟨rfl, path_ne g1, path_ne g2, g3, rfl⟩
  · rw [if_neg h0, if_neg (fun e => h0 ⟨e.1, fun x => e.2 x.symm⟩)]
    exact h
theorem wr_much (hs : CSmall c) (p : List UInt8) (mode : Int) (data : List UInt8) : wrE c p mode data 9223372036854775807 false = wrE c p mode data 1152921504606846976 false ∧ wrC c p mode data 9223372036854775807 false = wrC c p mode data 1152921504606846976 false := by
  have hu := hs.hused
  have he : wrE c p mode data 9223372036854775807 false = wrE c p mode data 1152921504606846976 false := by
    unfold wrE
    by_cases c3 : 20000 < data.length
    · simp only [c3, if_true]
    · have k1 : ¬ ((9223372036854775807 : Int) < (usedM c.here : Int) - ((peekF c.here p).data.length : Int) + (data.length : Int)) := by omega
      have k2 : ¬ ((1152921504606846976 : Int) < (usedM c.here : Int) - ((peekF c.here p).data.length : Int) + (data.length : Int)) := by omega
      simp only [k1, k2]
  exact ⟨he, by unfold wrC; rw [he]⟩
theorem Tie.uwE (h : Tie c s) {t : Int} (hr : RowsOk s.now t) (hs : CSmall c) (p : List UInt8) (mode : Int) (data : List UInt8) : uwE c p mode data = userWE s p mode data := by
  have h1 := h.wrE hr p mode data false 1152921504606846976 false
  rw [if_neg (by decide)] at h1
  unfold Tx.uwE userWE
  rw [h.down, (wr_much hs p mode data).1, h1]
theorem Tie.uw (h : Tie c s) {t : Int} (hr : RowsOk s.now t) (hs : CSmall c) (p : List UInt8) (mode : Int) (data : List UInt8) : Tie (uwC c p mode data) (userWM s p mode data) := by
  have h2 := h.wr hr p mode data false 1152921504606846976 false
  rw [if_neg (by decide)] at h2
  unfold uwC userWM
  rw [h.uwE hr hs, (wr_much hs p mode data).2]
  split
  · exact h2.noted 4 mode p data
  · exact h
theorem Tie.urE (h : Tie c s) (p : List UInt8) : urE c p = userRE s p := by
  unfold Tx.urE userRE
  rw [h.down, h.rmE]
theorem Tie.ur (h : Tie c s) (p : List UInt8) : Tie (urC c p) (userRM s p) := by
  unfold urC userRM
  rw [h.urE]
  split
  · exact (h.rm p).noted 5 0 p []
  · exact h
end
/-- A call that has begun. -/
structure TieB (b : BgC) (m : BegM) : Prop where
  tie : Tie b.c m.st
  room : b.room = if m.full = true then -1 else m.st.room
  err : b.err = if m.broken = true then 11 else 0
  inv : Inv m.st
theorem user_room (s : FSM) (p : List UInt8) (mode : Int) (data : List UInt8) : (userWM s p mode data).room = s.room := by
  unfold userWM putM changeM safeM
  split
  · split <;> rfl
  · rfl
theorem user_room' (s : FSM) (p : List UInt8) : (userRM s p).room = s.room := by
  unfold userRM dropM changeM safeM
  split
  · split <;> rfl
  · rfl
theorem crash_room (s : FSM) (keep torn : Int) : (crashM s keep torn).room = s.room := by
  unfold crashM safeM
  split <;> rfl
theorem TieB.ev {b : BgC} {m : BegM} (h : TieB b m) {e : EvM} (he : e.at_ = m.st.calls) (hs : CSmall b.c) : TieB (evC b e) (evM m e) := by
  have h0 : Tie { b.c with plan := b.c.plan.tail } m.st := h.tie.planned b.c.plan.tail m.st.plan
  have hs0 : CSmall { b.c with plan := b.c.plan.tail } := ⟨hs.here, hs.both, hs.users, hs.time, hs.hused, hs.hrow, hs.drow, hs.prow⟩
  have hi := h.inv.ev e
  unfold evC evM
  unfold evM at hi
  rw [if_pos he] at hi ⊢
  by_cases k1 : e.kind = 1
  · rw [if_pos k1] at hi ⊢
    rw [if_pos k1]
    exact ⟨h0.crash _ _, by rw [show (crashM m.st e.keep e.torn).room = m.st.room from crash_room _ _ _]; exact h.room, h.err, hi⟩
  rw [if_neg k1] at hi ⊢
  rw [if_neg k1]
  by_cases k2 : e.kind = 2
  · rw [if_pos k2] at hi ⊢
    rw [if_pos k2]
    exact ⟨h0, rfl, h.err, hi⟩
  rw [if_neg k2] at hi ⊢
  rw [if_neg k2]
  by_cases k3 : e.kind = 3
  · rw [if_pos k3] at hi ⊢
    rw [if_pos k3]
    exact ⟨h0, h.room, rfl, hi⟩
  rw [if_neg k3] at hi ⊢
  rw [if_neg k3]
  by_cases k4 : e.kind = 4
  · rw [if_pos k4] at hi ⊢
    rw [if_pos k4]
    exact ⟨h0.uw h.inv.rows hs0 _ _ _, by rw [show (userWM m.st e.path e.mode e.data).room = m.st.room from user_room _ _ _ _]; exact h.room, h.err, hi⟩
  rw [if_neg k4] at hi ⊢
  rw [if_neg k4]
  by_cases k5 : e.kind = 5
  · rw [if_pos k5] at hi ⊢
    rw [if_pos k5]
    exact ⟨h0.ur _, by rw [show (userRM m.st e.path).room = m.st.room from user_room' _ _]; exact h.room, h.err, hi⟩
  rw [if_neg k5] at hi ⊢
  rw [if_neg k5]
  exact ⟨h0, h.room, h.err, hi⟩
end Go.Proofs.YtpfjlhpahmhkhaaGreat.Tx
