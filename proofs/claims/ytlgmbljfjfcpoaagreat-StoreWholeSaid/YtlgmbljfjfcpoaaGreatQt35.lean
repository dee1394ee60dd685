/- Texts put together: YRf2, YRf3. -/
import Derived.Test.YtlgmbljfjfcpoaaGreatQt33
import Derived.Test.YtlgmbljfjfcpoaaGreatQt34
/- Package refs, as plain data: its places; calls where nothing is planned. (No Go in it.) -/
set_option linter.unusedVariables false
set_option linter.unusedSimpArgs false
namespace Go.Proofs.YtlgmbljfjfcpoaaGreat.Tx
open Go.RowKit Go.Proofs.YtlgmbljfjfcpoaaGreat.Sh

theorem nameB_le {n : List UInt8} (h : nameB n = true) : n.length ≤ 64 := by
  rw [nameB_eq] at h
  simp only [Bool.and_eq_true, decide_eq_true_eq] at h
  exact h.1.1.1.2
theorem place_split {x : UInt8} {n : List UInt8} (hx : x ≠ 47) (hn : 47 ∉ n) : splitL 47 (115 :: 47 :: x :: 47 :: n) = [[115], [x], n] := by
  have h1 : splitL 47 (115 :: 47 :: x :: 47 :: n) = [115] :: splitL 47 (x :: 47 :: n) := splitL_cut (g := 47) (a := [115]) (by decide) (x :: 47 :: n)
  have h2 : splitL 47 (x :: 47 :: n) = [x] :: splitL 47 n := splitL_cut (g := 47) (a := [x]) (by simp; exact fun e => hx e.symm) n
  rw [h1, h2, splitL_none hn]
theorem place_path {x : UInt8} (hx : nameB [x] = true) {n : List UInt8} (hn : nameB n = true) : pathB (115 :: 47 :: x :: 47 :: n) = true := by
  have hx' : x ≠ 47 := fun e => nameB_sign hx (by rw [e]; exact List.mem_cons_self)
  rw [pathB_iff, place_split hx' (nameB_sign hn)]
  refine ⟨?_, ?_, by simp⟩
  · have := nameB_le hn
    simp only [List.length_cons]
    omega
  · intro p hp
    simp only [List.mem_cons, List.not_mem_nil, or_false] at hp
    rcases hp with rfl | rfl | rfl
    · decide
    · exact hx
    · exact hn
theorem ref_lock (m n : List UInt8) : refP m ≠ lockP n := by
  unfold refP lockP
  simp
theorem refP_ne (n : List UInt8) : refP n ≠ [] := by unfold refP; simp
theorem lockP_ne (n : List UInt8) : lockP n ≠ [] := by unfold lockP; simp
theorem under_in {d s : List UInt8} (h : underB d s = true) : s.take d.length = d ∧ s[d.length]? = some 47 := by
  unfold underB at h
  simp only [Bool.and_eq_true, beq_iff_eq] at h
  exact ⟨h.1.2, h.2⟩
theorem may_to {R : List RowM} {p wo : List UInt8} (hm : mayM R p = true) (hu : underB p wo = false) : mayC R p wo = true := by
  have hr : ∀ r ∈ R, underB p r.path = false ∧ underB r.path p = false := fun r hr => by
    have := List.all_eq_true.1 hm r hr
    simpa using this
  have h1 : blockedC R (parentsL p) wo = false := by
    unfold blockedC
    refine List.any_eq_false.2 fun d hd => ?_
    have hs : standsM R d = false := stands_no.2 fun r hr' e => by
      have h2 := (hr r hr').2
      rw [e, (under_iff d p).2 hd] at h2
      cases h2
    rw [hs]
    simp
  have h2 : cntM R p = 0 := cnt_zero.2 fun r hr' => (hr r hr').1
  unfold mayC
  rw [h1, h2, hu]
  decide
theorem peek_stands (R : List RowM) (p : List UInt8) : peekB R p = standsM R p := stands_find.symm
theorem peek_is {R : List RowM} (ho : Ord R) {r : RowM} (hr : r ∈ R) : peekF R r.path = r.f := by
  have h1 := peek_at (peek_yes hr)
  have h2 := ord_one ho h1 hr rfl
  exact congrArg RowM.f h2
theorem peek_with (R : List RowM) (p : List UInt8) (f : FileM) (q : List UInt8) : peekB (withM R p f) q = (decide (q = p) || peekB R q) := by
  rw [peek_stands, peek_stands, stands_with]
theorem peek_without (R : List RowM) (p q : List UInt8) : peekB (withoutM R p) q = (!decide (q = p) && peekB R q) := by
  rw [peek_stands, peek_stands, stands_without]
theorem peekf_with {R : List RowM} (ho : Ord R) (p : List UInt8) (f : FileM) : peekF (withM R p f) p = f := peek_is (r := ⟨p, f⟩) (with_ord ho p f) (mem_with.2 (.inl rfl))
/-- Nothing is planned; it is up. -/
structure Calm (c : CSt) : Prop where
  plan : c.plan = []
  down : c.down = false
def tick (c : CSt) : CSt := { c with calls := c.calls + 1 }
theorem Calm.tick {c : CSt} (h : Calm c) : Calm (tick c) := ⟨h.plan, h.down⟩
theorem Calm.bg {c : CSt} (h : Calm c) : (bgC c).c = Tx.tick c ∧ bgE c = 0 ∧ (bgC c).room = c.room := by
  have h1 := bg_none h.plan
  refine ⟨by rw [h1]; rfl, ?_, by rw [h1]; rfl⟩
  unfold bgE
  rw [h1]
  show (if c.down = true then (12 : Int) else 0) = 0
  rw [h.down]
  rfl
theorem Calm.crt {c : CSt} (h : Calm c) (p : List UInt8) (mode : Int) (data : List UInt8) (create : Bool) : crtE c p mode data create = wrE c p mode data c.room create ∧ crtC c p mode data create = wrC (Tx.tick c) p mode data c.room create := by
  obtain ⟨h1, h2, h3⟩ := h.bg
  unfold crtE crtC
  rw [if_pos h2, if_pos h2, h1, h3]
  exact ⟨rfl, rfl⟩
theorem Calm.mov {c : CSt} (h : Calm c) (fr tt : List UInt8) (create : Bool) : movE c fr tt create = mvE c fr tt create ∧ movC c fr tt create = mvC (Tx.tick c) fr tt create := by
  obtain ⟨h1, h2, _⟩ := h.bg
  unfold movE movC
  rw [if_pos h2, if_pos h2, h1]
  exact ⟨rfl, rfl⟩
theorem Calm.rem {c : CSt} (h : Calm c) (p : List UInt8) : remE c p = rmE c p ∧ remC c p = rmC (Tx.tick c) p := by
  obtain ⟨h1, h2, _⟩ := h.bg
  unfold remE remC
  rw [if_pos h2, if_pos h2, h1]
  exact ⟨rfl, rfl⟩
theorem Calm.syn {c : CSt} (h : Calm c) : synC c = settleC (Tx.tick c) := by
  obtain ⟨h1, h2, _⟩ := h.bg
  unfold synC
  rw [if_pos h2, h1]
theorem Calm.red {c : CSt} (h : Calm c) {p : List UInt8} (hp : pathB p = true) : redE c p = (if peekB c.here p = true then 0 else 7) ∧ redF c p = peekF c.here p := by
  obtain ⟨h1, h2, _⟩ := h.bg
  have h3 : redE c p = (if peekB c.here p = true then 0 else 7) := by
    unfold redE
    rw [if_pos h2, if_neg (by rw [hp]; decide), h1]
    rfl
  refine ⟨h3, ?_⟩
  unfold redF
  rw [h3, h1]
  cases hs : peekB c.here p with
  | true => rfl
  | false => exact (peek_none' hs).symm
theorem Calm.lis {c : CSt} (h : Calm c) {dir : List UInt8} (hp : pathB dir = true) : lisE c dir = 0 ∧ lisO c dir = listC c.here dir := by
  obtain ⟨h1, h2, _⟩ := h.bg
  have h3 : lisE c dir = 0 := by
    unfold lisE
    rw [if_pos h2, if_neg (fun h => by rw [hp] at h; exact absurd h.2 (by decide))]
  refine ⟨h3, ?_⟩
  unfold lisO
  rw [h3, if_pos rfl, h1]
  rfl
/-- What a call leaves where nothing is planned: the files as told. -/
structure CalmTo (c c' : CSt) (R : List RowM) : Prop where
  calm : Calm c'
  here : c'.here = R
  room : c'.room = c.room
  users : c'.users = c.users
theorem CalmTo.tick {c c' : CSt} {R : List RowM} (h : CalmTo c c' R) : CalmTo c (Tx.tick c') R := ⟨h.calm.tick, h.here, h.room, h.users⟩
theorem Calm.same {c : CSt} (h : Calm c) : CalmTo c c c.here := ⟨h, rfl, rfl, rfl⟩
theorem CalmTo.do_ {c c' : CSt} {R : List RowM} (h : CalmTo c c' R) (q : ChM) : CalmTo c (doC c' q) (applyC R q) := ⟨⟨h.calm.plan, h.calm.down⟩, by show applyC c'.here q = _; rw [h.here], h.room, h.users⟩
theorem CalmTo.settle {c c' : CSt} {R : List RowM} (h : CalmTo c c' R) : CalmTo c (settleC c') R := ⟨⟨h.calm.plan, h.calm.down⟩, h.here, h.room, h.users⟩

end Go.Proofs.YtlgmbljfjfcpoaaGreat.Tx
/- Package refs, as plain data: whatever goes wrong within Set. (No Go in it.) -/
set_option linter.unusedVariables false
set_option linter.unusedSimpArgs false
namespace Go.Proofs.YtlgmbljfjfcpoaaGreat.Tx
open Go.RowKit Go.Proofs.YtlgmbljfjfcpoaaGreat.Sh

/-- "head", "other". -/
def hdN : List UInt8 := [104, 101, 97, 100]
def otN : List UInt8 := [111, 116, 104, 101, 114]
theorem hd_ot : refP hdN ≠ refP otN := by decide
/-- The rows that may stand. -/
structure Good (a b o : List UInt8) (R : List RowM) : Prop where
  ord : Ord R
  rows : ∀ r ∈ R, (r.path = refP otN ∧ r.f.data = o ++ [10]) ∨ (r.path = refP hdN ∧ ((a ≠ [] ∧ r.f.data = a ++ [10]) ∨ r.f.data = b ++ [10])) ∨ (r.path = lockP hdN ∧ r.f.data.length ≤ 65)
  other : peekB R (refP otN) = true
  head : a ≠ [] → peekB R (refP hdN) = true
/-- The changes that Set makes. -/
def ChG (b : List UInt8) (q : ChM) : Prop := (q.gone = [] ∧ q.path = lockP hdN ∧ q.f.data.length ≤ 65) ∨ (q.gone = lockP hdN ∧ q.path = []) ∨ (q.gone = lockP hdN ∧ q.path = refP hdN ∧ q.f.data = b ++ [10])
section
variable {a b o : List UInt8} {R : List RowM}
theorem Good.put (h : Good a b o R) (f : FileM) (hf : f.data.length ≤ 65) : Good a b o (withM R (lockP hdN) f) := by
  refine ⟨with_ord h.ord _ _, fun r hr => ?_, by rw [peek_with, h.other]; simp, fun ha => by rw [peek_with, h.head ha]; simp⟩
  rcases mem_with.1 hr with rfl | ⟨hr, _⟩
  · exact .inr (.inr ⟨rfl, hf⟩)
  · exact h.rows r hr
theorem Good.drop (h : Good a b o R) : Good a b o (withoutM R (lockP hdN)) :=
  ⟨without_ord h.ord _, fun r hr => h.rows r (mem_without.1 hr).1, by rw [peek_without, h.other]; decide, fun ha => by rw [peek_without, h.head ha]; decide⟩
theorem Good.set (h : Good a b o R) (f : FileM) (hf : f.data = b ++ [10]) : Good a b o (withM R (refP hdN) f) := by
  refine ⟨with_ord h.ord _ _, fun r hr => ?_, by rw [peek_with, h.other]; simp, fun ha => by rw [peek_with]; simp⟩
  rcases mem_with.1 hr with rfl | ⟨hr, _⟩
  · exact .inr (.inl ⟨rfl, .inr hf⟩)
  · exact h.rows r hr
theorem Good.apply (h : Good a b o R) {q : ChM} (hq : ChG b q) : Good a b o (applyC R q) := by
  obtain ⟨g, p, f⟩ := q
  rcases hq with ⟨h1, h2, h3⟩ | ⟨h1, h2⟩ | ⟨h1, h2, h3⟩
  · dsimp only at h1 h2 h3
    subst h1 h2
    rw [apply_put _ _ _ (lockP_ne _)]
    exact h.put f h3
  · dsimp only at h1 h2
    subst h1 h2
    rw [apply_drop _ _ _ (lockP_ne _)]
    exact h.drop
  · dsimp only at h1 h2 h3
    subst h1 h2
    rw [apply_move _ _ _ _ (lockP_ne _) (refP_ne _)]
    exact h.drop.set f h3
theorem Good.fold : ∀ {l : List ChM} {R : List RowM}, Good a b o R → (∀ q ∈ l, ChG b q) → Good a b o (l.foldl applyC R)
  | [], _, h, _ => h
  | q :: l, R, h, hl => by
    rw [List.foldl_cons]
    exact Good.fold (h.apply (hl q List.mem_cons_self)) (fun q hq => hl q (List.mem_cons_of_mem _ hq))
end
theorem crr_here {c : CSt} (hd : c.down = false) (keep torn : Int) : (crC c keep torn).here = (leftC c keep torn).foldl applyC c.durable := by
  unfold crC
  rw [if_neg (by rw [hd]; decide)]
  rfl
structure JInv (a b o : List UInt8) (c : CSt) : Prop where
  good : Good a b o c.durable
  pend : ∀ q ∈ c.pending, ChG b q
  here : c.here = c.pending.foldl applyC c.durable
  lock : c.down = false → peekB c.here (lockP hdN) = true → (peekF c.here (lockP hdN)).data = b ++ [10]
  plan : ∀ e ∈ c.plan, e.kind ≠ 4 ∧ e.kind ≠ 5
section
variable {a b o : List UInt8} {c : CSt}
theorem JInv.now (h : JInv a b o c) : Good a b o c.here := by rw [h.here]; exact h.good.fold h.pend
theorem JInv.same (h : JInv a b o c) {c' : CSt} (h1 : c'.durable = c.durable) (h2 : c'.pending = c.pending) (h3 : c'.here = c.here) (h4 : c'.down = false → c.down = false) (h5 : ∀ e ∈ c'.plan, e ∈ c.plan) : JInv a b o c' :=
  ⟨by rw [h1]; exact h.good, by rw [h2]; exact h.pend, by rw [h3, h1, h2]; exact h.here, by rw [h3]; exact fun hd => h.lock (h4 hd), fun e he => h.plan e (h5 e he)⟩
theorem left_chg {b : List UInt8} {c : CSt} (h : ∀ q ∈ c.pending, ChG b q) (keep torn : Int) : ∀ q ∈ leftC c keep torn, ChG b q := by
  intro q hq
  unfold leftC at hq
  rcases List.mem_append.1 hq with hm | hm
  · exact h q (List.mem_of_mem_take hm)
  · cases hx : c.pending[keepC c keep]? with
    | none => rw [hx] at hm; cases hm
    | some x =>
      rw [hx] at hm
      have hm' : q ∈ (if tearsB x torn = true then [partC x torn] else []) := hm
      split at hm'
      · rename_i ht
        rw [List.mem_singleton.1 hm']
        have hg : x.gone = [] := by
          unfold tearsB at ht
          simp only [Bool.and_eq_true, decide_eq_true_eq] at ht
          exact ht.1
        rcases h x (List.mem_of_getElem? hx) with ⟨h1, h2, h3⟩ | ⟨h1, _⟩ | ⟨h1, _, _⟩
        · refine .inl ⟨h1, h2, ?_⟩
          show (x.f.data.take torn.toNat).length ≤ 65
          rw [List.length_take]
          omega
        · rw [hg] at h1; exact absurd h1.symm (lockP_ne _)
        · rw [hg] at h1; exact absurd h1.symm (lockP_ne _)
      · cases hm'
theorem JInv.cr (h : JInv a b o c) (keep torn : Int) : JInv a b o (crC c keep torn) := by
  by_cases hd : c.down = true
  · have : crC c keep torn = c := by unfold crC; rw [if_pos hd]
    rw [this]
    exact h
  · have hd' : c.down = false := by simpa using hd
    have hg : Good a b o ((leftC c keep torn).foldl applyC c.durable) := h.good.fold (left_chg h.pend keep torn)
    have h1 := crr_here hd' keep torn
    have h2 : (crC c keep torn).durable = (leftC c keep torn).foldl applyC c.durable ∧ (crC c keep torn).pending = [] ∧ (crC c keep torn).down = true ∧ (crC c keep torn).plan = c.plan := by
      unfold crC
      rw [if_neg hd]
      exact ⟨rfl, rfl, rfl, rfl⟩
    exact ⟨by rw [h2.1]; exact hg, by rw [h2.2.1]; exact fun q hq => (by cases hq), by rw [h1, h2.1, h2.2.1]; rfl, (fun hx => by rw [h2.2.2.1] at hx; cases hx), by rw [h2.2.2.2]; exact h.plan⟩
theorem JInv.ev {s : BgC} (h : JInv a b o s.c) {e : EvM} (he : e.kind ≠ 4 ∧ e.kind ≠ 5) : JInv a b o (evC s e).c := by
  have h0 : JInv a b o { s.c with plan := s.c.plan.tail } := h.same rfl rfl rfl id (fun e he => List.mem_of_mem_tail he)
  unfold evC
  split
  · exact h0.cr _ _
  · split
    · exact h0
    · split
      · exact h0
      · rw [if_neg he.1, if_neg he.2]
        exact h0
theorem JInv.bgk (h : JInv a b o c) : ∀ k, JInv a b o (bgK c k).c
  | 0 => h.same rfl rfl rfl id (fun e he => he)
  | k + 1 => by
    cases hq : c.plan[k]? with
    | none => rw [bgK_more hq]; exact h.bgk k
    | some e => rw [bgK_next hq]; exact (h.bgk k).ev (h.plan e (List.mem_of_getElem? hq))
theorem JInv.bg (h : JInv a b o c) : JInv a b o (bgC c).c := h.bgk _
theorem JInv.do_ (h : JInv a b o c) {q : ChM} (hq : ChG b q) (hl : peekB (applyC c.here q) (lockP hdN) = true → (peekF (applyC c.here q) (lockP hdN)).data = b ++ [10]) : JInv a b o (doC c q) := by
  refine ⟨h.good, fun x hx => ?_, ?_, fun _ => hl, h.plan⟩
  · rcases List.mem_append.1 hx with hx | hx
    · exact h.pend x hx
    · rw [List.mem_singleton.1 hx]; exact hq
  · show applyC c.here q = (c.pending ++ [q]).foldl applyC c.durable
    rw [List.foldl_append, ← h.here]
    rfl
theorem JInv.settle (h : JInv a b o c) : JInv a b o (settleC c) :=
  ⟨h.good.fold h.pend, fun q hq => (by cases hq), h.here, h.lock, h.plan⟩
theorem JInv.wr (h : JInv a b o c) (hb : validB b = true) (room : Int) : JInv a b o (wrC c (lockP hdN) 1 (b ++ [10]) room true) := by
  unfold wrC
  split
  · refine h.do_ (.inl ⟨rfl, rfl, by simp [valid_len hb]⟩) (fun _ => ?_)
    rw [apply_put _ _ _ (lockP_ne _), peekf_with h.now.ord]
  · exact h
theorem JInv.rm (h : JInv a b o c) : JInv a b o (rmC c (lockP hdN)) := by
  unfold rmC
  split
  · refine h.do_ (.inr (.inl ⟨rfl, rfl⟩)) (fun hs => ?_)
    rw [apply_drop _ _ _ (lockP_ne _), peek_without] at hs
    simp at hs
  · exact h
theorem JInv.mv (h : JInv a b o c) (hd : c.down = false) : JInv a b o (mvC c (lockP hdN) (refP hdN) false) := by
  unfold mvC
  split
  · rename_i hx
    have hl := h.lock hd (mvE_ok hx.1).2.2.1
    refine h.do_ (.inr (.inr ⟨rfl, rfl, hl⟩)) (fun hs => ?_)
    rw [apply_move _ _ _ _ (lockP_ne _) (refP_ne _), peek_with, peek_without] at hs
    have : lockP hdN ≠ refP hdN := by decide
    simp [this] at hs
  · exact h
theorem JInv.crt (h : JInv a b o c) (hb : validB b = true) : JInv a b o (crtC c (lockP hdN) 1 (b ++ [10]) true) := by
  unfold crtC
  split
  · exact h.bg.wr hb _
  · exact h.bg
theorem bg_up {c : CSt} (h : bgE c = 0) : (bgC c).c.down = false := by
  unfold bgE at h
  cases hd : (bgC c).c.down with
  | false => rfl
  | true => rw [if_pos hd] at h; cases h
theorem JInv.mov (h : JInv a b o c) : JInv a b o (movC c (lockP hdN) (refP hdN) false) := by
  unfold movC
  split
  · rename_i hx
    exact h.bg.mv (bg_up hx)
  · exact h.bg
theorem JInv.rem (h : JInv a b o c) : JInv a b o (remC c (lockP hdN)) := by
  unfold remC
  split
  · exact h.bg.rm
  · exact h.bg
theorem JInv.syn (h : JInv a b o c) : JInv a b o (synC c) := by
  unfold synC
  split
  · exact h.bg.settle
  · exact h.bg
theorem JInv.prep (h : JInv a b o c) (n old : List UInt8) : JInv a b o (prepC c n old) := by
  unfold prepC
  split
  · exact h.bg.syn
  · exact h.bg
theorem JInv.sl (h : JInv a b o c) (old : List UInt8) : JInv a b o (slC c hdN old) := by
  unfold slC
  split
  · split
    · exact (h.prep hdN old).mov.syn
    · exact (h.prep hdN old).mov
  · exact (h.prep hdN old).rem
theorem JInv.set_ (h : JInv a b o c) (hb : validB b = true) (old : List UInt8) : JInv a b o (setC c hdN old b) := by
  unfold setC
  split
  · exact h
  · split
    · exact h
    · split
      · exact (h.crt hb).sl old
      · exact h.crt hb
/-- What begins a call and does not fail leaves the files. -/
theorem bg_files {c : CSt} (hp : ∀ e ∈ c.plan, e.kind ≠ 4 ∧ e.kind ≠ 5) : ∀ k, (bgK c k).c.down = false → (bgK c k).c.here = c.here ∧ (bgK c k).c.durable = c.durable ∧ (bgK c k).c.pending = c.pending
  | 0, _ => ⟨rfl, rfl, rfl⟩
  | k + 1, hd => by
    cases hq : c.plan[k]? with
    | none => rw [bgK_more hq] at hd ⊢; exact bg_files hp k hd
    | some e =>
      rw [bgK_next hq] at hd ⊢
      have he := hp e (List.mem_of_getElem? hq)
      have ih := bg_files hp k
      generalize bgK c k = s at *
      unfold evC at hd ⊢
      split at hd
      · exfalso
        rename_i h1
        dsimp only at hd
        unfold crC at hd
        split at hd
        · rename_i h2
          rw [h2] at hd; cases hd
        · cases hd
      · rename_i h1
        rw [if_neg h1]
        split at hd
        · rename_i h2; rw [if_pos h2]; exact ih hd
        · rename_i h2
          rw [if_neg h2]
          split at hd
          · rename_i h3; rw [if_pos h3]; exact ih hd
          · rename_i h3
            rw [if_neg h3, if_neg he.1, if_neg he.2]
            rw [if_neg he.1, if_neg he.2] at hd
            exact ih hd
/-- A Set that says OK. -/
theorem JInv.said (h : JInv a b o c) (hb : validB b = true) {old : List UInt8} (he : setE c hdN old b = 0) :
    (setC c hdN old b).down = false ∧ (setC c hdN old b).pending = [] ∧ (setC c hdN old b).durable = (setC c hdN old b).here ∧ peekB (setC c hdN old b).here (refP hdN) = true ∧ (peekF (setC c hdN old b).here (refP hdN)).data = b ++ [10] := by
  have hJ := h.set_ hb old
  unfold setE at he
  unfold setC at hJ ⊢
  rw [if_neg (by decide)] at he hJ ⊢
  split at he
  · cases he
  · rename_i h1
    rw [if_neg h1] at hJ ⊢
    split at he
    · rename_i h2
      rw [if_pos h2] at hJ ⊢
      have h3 := h.crt hb
      generalize crtC c (lockP hdN) 1 (b ++ [10]) true = c1 at *
      unfold slE at he
      unfold slC at hJ ⊢
      split at he
      · rename_i h4
        rw [if_pos h4] at hJ ⊢
        have h5 := h3.prep hdN old
        generalize prepC c1 hdN old = c2 at *
        split at he
        · rename_i h6
          rw [if_pos h6] at hJ ⊢
          have h7 := h5.mov
          have h8 : peekB (movC c2 (lockP hdN) (refP hdN) false).here (refP hdN) = true ∧ (peekF (movC c2 (lockP hdN) (refP hdN) false).here (refP hdN)).data = b ++ [10] := by
            unfold movE at h6
            split at h6
            · rename_i g1
              have g2 := bg_up g1
              have g3 := h5.bg
              unfold movC
              rw [if_pos g1]
              generalize (bgC c2).c = s at *
              unfold mvC
              rw [if_pos ⟨h6, by decide⟩]
              show peekB (applyC s.here ⟨lockP hdN, refP hdN, peekF s.here (lockP hdN)⟩) (refP hdN) = true ∧ (peekF (applyC s.here ⟨lockP hdN, refP hdN, peekF s.here (lockP hdN)⟩) (refP hdN)).data = b ++ [10]
              rw [apply_move _ _ _ _ (lockP_ne _) (refP_ne _), peekf_with (without_ord g3.now.ord _), peek_with]
              exact ⟨by simp, g3.lock g2 (mvE_ok h6).2.2.1⟩
            · rename_i g1
              exact absurd h6 g1
          generalize movC c2 (lockP hdN) (refP hdN) false = c3 at *
          have g4 := bg_up he
          obtain ⟨g5, _, _⟩ := bg_files h7.plan (bgN c3) g4
          unfold synC at hJ ⊢
          rw [if_pos he] at hJ ⊢
          have g6 : (settleC (bgC c3).c).here = c3.here := g5
          refine ⟨g4, rfl, ?_, by rw [g6]; exact h8.1, by rw [g6]; exact h8.2⟩
          have := hJ.here
          exact this.symm
        · rename_i h6
          exact absurd he h6
      · rename_i h4
        exact absurd he h4
    · rename_i h2
      split at he
      · cases he
      · exact absurd he h2
end
/-- The ref is just this. -/
def isB (R : List RowM) (n id : List UInt8) : Bool := if id = [] then !peekB R (refP n) else peekB R (refP n) && decide ((peekF R (refP n)).data = id ++ [10])
theorem Good.either {a b o : List UInt8} {R : List RowM} (h : Good a b o R) (hb : b ≠ []) : isB R hdN a = true ∨ isB R hdN b = true := by
  unfold isB
  rw [if_neg hb]
  cases hs : peekB R (refP hdN) with
  | false =>
    by_cases ha : a = []
    · rw [if_pos ha]; exact .inl rfl
    · rw [h.head ha] at hs; cases hs
  | true =>
    rcases h.rows _ (peek_at hs) with ⟨h1, _⟩ | ⟨_, ⟨h1, h2⟩ | h2⟩ | ⟨h1, _⟩
    · exact absurd h1 hd_ot
    · rw [if_neg h1]; left; simpa using h2
    · right; simpa using h2
    · exact absurd h1 (ref_lock _ _)
theorem Good.rest {a b o : List UInt8} {R : List RowM} (h : Good a b o R) (ho : o ≠ []) : isB R otN o = true := by
  unfold isB
  rw [if_neg ho, h.other]
  rcases h.rows _ (peek_at h.other) with ⟨_, h2⟩ | ⟨h1, _⟩ | ⟨h1, _⟩
  · simpa using h2
  · exact absurd h1.symm hd_ot
  · exact absurd h1 (ref_lock _ _)
theorem Good.few {a b o : List UInt8} {R : List RowM} (h : Good a b o R) (ha : a.length ≤ 64) (hb : b.length ≤ 64) (ho : o.length ≤ 64) : usedM R ≤ 400 := by
  have h1 : R.length ≤ 3 := by
    have := nodup_within (ord_nodup h.ord) (m := [refP otN, refP hdN, lockP hdN]) (fun x hx => by
      obtain ⟨r, hr, rfl⟩ := List.mem_map.1 hx
      rcases h.rows r hr with ⟨e, _⟩ | ⟨e, _⟩ | ⟨e, _⟩ <;> rw [e] <;> simp)
    simpa using this
  have h2 : ∀ r ∈ R, r.f.data.length ≤ 65 := fun r hr => by
    rcases h.rows r hr with ⟨_, e⟩ | ⟨_, ⟨_, e⟩ | e⟩ | ⟨_, e⟩
    · rw [e]; simp; omega
    · rw [e]; simp; omega
    · rw [e]; simp; omega
    · exact e
  unfold usedM
  have h3 : ∀ (l : List RowM), (∀ r ∈ l, r.f.data.length ≤ 65) → (l.map fun r => r.f.data.length).sum ≤ 65 * l.length := by
    intro l
    induction l with
    | nil => intro _; simp
    | cons x l ih =>
      intro hl
      have e1 := ih (fun r hr => hl r (List.mem_cons_of_mem _ hr))
      have e2 := hl x List.mem_cons_self
      simp only [List.map_cons, List.sum_cons, List.length_cons]
      omega
  have := h3 R h2
  omega
end Go.Proofs.YtlgmbljfjfcpoaaGreat.Tx
