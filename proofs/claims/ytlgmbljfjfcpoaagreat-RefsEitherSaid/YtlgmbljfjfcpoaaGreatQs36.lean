/- Texts put together: ZRf2. -/
import Derived.Test.YtlgmbljfjfcpoaaGreatQs33
import Derived.Test.YtlgmbljfjfcpoaaGreatQs35
/- Package refs, as plain data: its places; calls where nothing is planned. (No Go in it.) -/
set_option linter.unusedVariables false
set_option linter.unusedSimpArgs false
namespace Go.Proofs.YtlgmbljfjfcpoaaGreat.Tx
open Go.RowKit Go.Proofs.YtlgmbljfjfcpoaaGreat.Sh

theorem nameB_le {n : List UInt8} (h : nameB n = true) : n.length ≤ 64 := by
  rw [nameB_eq] at h
  simp only [Bool.and_eq_true, decide_eq_true_eq] at h
  exact h.1.1.1.2
theorem place_split {x : UInt8} {n : List UInt8} (hx : x ≠ 47) (hn : 47 ∉ n) : splitL 47 (115 :: 47 :: x :: 47 :: n) = [[115], [x], n] := by
  have h1 : splitL 47 (115 :: 47 :: x :: 47 :: n) = [115] :: splitL 47 (x :: 47 :: n) := splitL_cut (g := 47) (a := [115]) (by decide) (x :: 47 :: n)
  have h2 : splitL 47 (x :: 47 :: n) = [x] :: splitL 47 n := splitL_cut (g := 47) (a := [x]) (by simp; exact fun e => hx e.symm) n
  rw [h1, h2, splitL_none hn]
theorem place_path {x : UInt8} (hx : nameB [x] = true) {n : List UInt8} (hn : nameB n = true) : pathB (115 :: 47 :: x :: 47 :: n) = true := by
  have hx' : x ≠ 47 := fun e => nameB_sign hx (by rw [e]; exact List.mem_cons_self)
  rw [pathB_iff, place_split hx' (nameB_sign hn)]
  refine ⟨?_, ?_, by simp⟩
  · have := nameB_le hn
    simp only [List.length_cons]
    omega
  · intro p hp
    simp only [List.mem_cons, List.not_mem_nil, or_false] at hp
    rcases hp with rfl | rfl | rfl
    · decide
    · exact hx
    · exact hn
theorem refP_path {n : List UInt8} (hn : nameB n = true) : pathB (refP n) = true := place_path (by decide) hn
theorem lockP_path {n : List UInt8} (hn : nameB n = true) : pathB (lockP n) = true := place_path (by decide) hn
theorem refP_inj {m n : List UInt8} (h : refP m = refP n) : m = n := by
  unfold refP at h
  simpa using h
theorem lockP_inj {m n : List UInt8} (h : lockP m = lockP n) : m = n := by
  unfold lockP at h
  simpa using h
theorem ref_lock (m n : List UInt8) : refP m ≠ lockP n := by
  unfold refP lockP
  simp
theorem refP_ne (n : List UInt8) : refP n ≠ [] := by unfold refP; simp
theorem lockP_ne (n : List UInt8) : lockP n ≠ [] := by unfold lockP; simp
theorem under_in {d s : List UInt8} (h : underB d s = true) : s.take d.length = d ∧ s[d.length]? = some 47 := by
  unfold underB at h
  simp only [Bool.and_eq_true, beq_iff_eq] at h
  exact ⟨h.1.2, h.2⟩
theorem not_under {x y : UInt8} {m n : List UInt8} (hxy : x ≠ y) : underB (115 :: 47 :: x :: 47 :: m) (115 :: 47 :: y :: 47 :: n) = false := by
  cases h : underB (115 :: 47 :: x :: 47 :: m) (115 :: 47 :: y :: 47 :: n) with
  | false => rfl
  | true =>
    have h1 := (under_in h).1
    simp only [List.length_cons, List.take_succ_cons, List.cons.injEq] at h1
    exact absurd h1.2.2.1.symm hxy
theorem under_name {x : UInt8} {m n : List UInt8} (hn : nameB n = true) : underB (115 :: 47 :: x :: 47 :: m) (115 :: 47 :: x :: 47 :: n) = false := by
  cases h : underB (115 :: 47 :: x :: 47 :: m) (115 :: 47 :: x :: 47 :: n) with
  | false => rfl
  | true =>
    have h1 := (under_in h).2
    simp only [List.length_cons, List.getElem?_cons_succ] at h1
    exact absurd (List.mem_of_getElem? h1) (nameB_sign hn)
theorem may_to {R : List RowM} {p wo : List UInt8} (hm : mayM R p = true) (hu : underB p wo = false) : mayC R p wo = true := by
  have hr : ∀ r ∈ R, underB p r.path = false ∧ underB r.path p = false := fun r hr => by
    have := List.all_eq_true.1 hm r hr
    simpa using this
  have h1 : blockedC R (parentsL p) wo = false := by
    unfold blockedC
    refine List.any_eq_false.2 fun d hd => ?_
    have hs : standsM R d = false := stands_no.2 fun r hr' e => by
      have h2 := (hr r hr').2
      rw [e, (under_iff d p).2 hd] at h2
      cases h2
    rw [hs]
    simp
  have h2 : cntM R p = 0 := cnt_zero.2 fun r hr' => (hr r hr').1
  unfold mayC
  rw [h1, h2, hu]
  decide
theorem may_no {R : List RowM} {p : List UInt8} (ho : Ord R) {r : RowM} (hr : r ∈ R) (h : underB r.path p = true ∨ underB p r.path = true) : mayC R p [] = false := by
  cases hm : mayC R p [] with
  | false => rfl
  | true =>
    have h1 := may_of ho (.inl rfl) hm
    rw [gone_nil] at h1
    have h2 := List.all_eq_true.1 h1 r hr
    rcases h with h | h <;> rw [h] at h2 <;> simp at h2
theorem peek_stands (R : List RowM) (p : List UInt8) : peekB R p = standsM R p := stands_find.symm
theorem peek_is {R : List RowM} (ho : Ord R) {r : RowM} (hr : r ∈ R) : peekF R r.path = r.f := by
  have h1 := peek_at (peek_yes hr)
  have h2 := ord_one ho h1 hr rfl
  exact congrArg RowM.f h2
theorem peek_with (R : List RowM) (p : List UInt8) (f : FileM) (q : List UInt8) : peekB (withM R p f) q = (decide (q = p) || peekB R q) := by
  rw [peek_stands, peek_stands, stands_with]
theorem peek_without (R : List RowM) (p q : List UInt8) : peekB (withoutM R p) q = (!decide (q = p) && peekB R q) := by
  rw [peek_stands, peek_stands, stands_without]
theorem peekf_with {R : List RowM} (ho : Ord R) (p : List UInt8) (f : FileM) : peekF (withM R p f) p = f := peek_is (r := ⟨p, f⟩) (with_ord ho p f) (mem_with.2 (.inl rfl))
theorem peekf_other {R : List RowM} (ho : Ord R) {p q : List UInt8} (f : FileM) (h : q ≠ p) : peekF (withM R p f) q = peekF R q := by
  cases hs : peekB R q with
  | true => exact peek_is (r := ⟨q, peekF R q⟩) (with_ord ho p f) (mem_with.2 (.inr ⟨peek_at hs, h⟩))
  | false =>
    rw [peek_none' hs]
    exact peek_none' (by rw [peek_with, hs]; simpa using h)
theorem without_not {R : List RowM} {p : List UInt8} (h : peekB R p = false) : withoutM R p = R := by
  unfold withoutM
  rw [List.filter_eq_self]
  intro r hr
  have : r.path ≠ p := fun e => by
    have := peek_yes hr
    rw [e, h] at this
    cases this
  simpa using this
theorem without_with (R : List RowM) (p : List UInt8) (f : FileM) : withoutM (withM R p f) p = withoutM R p := by
  obtain ⟨A, B, h1, h2, _, _⟩ := with_split R p f
  have h3 : withoutM (withoutM R p) p = withoutM R p := by
    unfold withoutM
    rw [List.filter_filter]
    simp
  rw [h2]
  rw [h1] at h3 ⊢
  unfold withoutM at h3 ⊢
  rw [List.filter_append, List.filter_cons_of_neg (by simp), ← List.filter_append]
  exact h3
theorem may_with {R : List RowM} {p q : List UInt8} {f : FileM} (h : mayM R q = true) (h1 : underB p q = false) (h2 : underB q p = false) : mayM (withM R p f) q = true := by
  refine List.all_eq_true.2 fun r hr => ?_
  rcases mem_with.1 hr with rfl | ⟨hr, _⟩
  · rw [h1, h2]; rfl
  · exact List.all_eq_true.1 h r hr

/-- Nothing is planned; it is up. -/
structure Calm (c : CSt) : Prop where
  plan : c.plan = []
  down : c.down = false
def tick (c : CSt) : CSt := { c with calls := c.calls + 1 }
theorem Calm.tick {c : CSt} (h : Calm c) : Calm (tick c) := ⟨h.plan, h.down⟩
theorem Calm.bg {c : CSt} (h : Calm c) : (bgC c).c = Tx.tick c ∧ bgE c = 0 ∧ (bgC c).room = c.room := by
  have h1 := bg_none h.plan
  refine ⟨by rw [h1]; rfl, ?_, by rw [h1]; rfl⟩
  unfold bgE
  rw [h1]
  show (if c.down = true then (12 : Int) else 0) = 0
  rw [h.down]
  rfl
theorem Calm.crt {c : CSt} (h : Calm c) (p : List UInt8) (mode : Int) (data : List UInt8) (create : Bool) : crtE c p mode data create = wrE c p mode data c.room create ∧ crtC c p mode data create = wrC (Tx.tick c) p mode data c.room create := by
  obtain ⟨h1, h2, h3⟩ := h.bg
  unfold crtE crtC
  rw [if_pos h2, if_pos h2, h1, h3]
  exact ⟨rfl, rfl⟩
theorem Calm.mov {c : CSt} (h : Calm c) (fr tt : List UInt8) (create : Bool) : movE c fr tt create = mvE c fr tt create ∧ movC c fr tt create = mvC (Tx.tick c) fr tt create := by
  obtain ⟨h1, h2, _⟩ := h.bg
  unfold movE movC
  rw [if_pos h2, if_pos h2, h1]
  exact ⟨rfl, rfl⟩
theorem Calm.rem {c : CSt} (h : Calm c) (p : List UInt8) : remE c p = rmE c p ∧ remC c p = rmC (Tx.tick c) p := by
  obtain ⟨h1, h2, _⟩ := h.bg
  unfold remE remC
  rw [if_pos h2, if_pos h2, h1]
  exact ⟨rfl, rfl⟩
theorem Calm.syn {c : CSt} (h : Calm c) : synC c = settleC (Tx.tick c) := by
  obtain ⟨h1, h2, _⟩ := h.bg
  unfold synC
  rw [if_pos h2, h1]
theorem Calm.red {c : CSt} (h : Calm c) {p : List UInt8} (hp : pathB p = true) : redE c p = (if peekB c.here p = true then 0 else 7) ∧ redF c p = peekF c.here p := by
  obtain ⟨h1, h2, _⟩ := h.bg
  have h3 : redE c p = (if peekB c.here p = true then 0 else 7) := by
    unfold redE
    rw [if_pos h2, if_neg (by rw [hp]; decide), h1]
    rfl
  refine ⟨h3, ?_⟩
  unfold redF
  rw [h3, h1]
  cases hs : peekB c.here p with
  | true => rfl
  | false => exact (peek_none' hs).symm
theorem Calm.lis {c : CSt} (h : Calm c) {dir : List UInt8} (hp : pathB dir = true) : lisE c dir = 0 ∧ lisO c dir = listC c.here dir := by
  obtain ⟨h1, h2, _⟩ := h.bg
  have h3 : lisE c dir = 0 := by
    unfold lisE
    rw [if_pos h2, if_neg (fun h => by rw [hp] at h; exact absurd h.2 (by decide))]
  refine ⟨h3, ?_⟩
  unfold lisO
  rw [h3, if_pos rfl, h1]
  rfl
/-- What a call leaves where nothing is planned: the files as told. -/
structure CalmTo (c c' : CSt) (R : List RowM) : Prop where
  calm : Calm c'
  here : c'.here = R
  room : c'.room = c.room
  users : c'.users = c.users
theorem CalmTo.tick {c c' : CSt} {R : List RowM} (h : CalmTo c c' R) : CalmTo c (Tx.tick c') R := ⟨h.calm.tick, h.here, h.room, h.users⟩
theorem Calm.same {c : CSt} (h : Calm c) : CalmTo c c c.here := ⟨h, rfl, rfl, rfl⟩
theorem CalmTo.do_ {c c' : CSt} {R : List RowM} (h : CalmTo c c' R) (q : ChM) : CalmTo c (doC c' q) (applyC R q) := ⟨⟨h.calm.plan, h.calm.down⟩, by show applyC c'.here q = _; rw [h.here], h.room, h.users⟩
theorem CalmTo.settle {c c' : CSt} {R : List RowM} (h : CalmTo c c' R) : CalmTo c (settleC c') R := ⟨⟨h.calm.plan, h.calm.down⟩, h.here, h.room, h.users⟩

theorem Calm.get_ok {c : CSt} (h : Calm c) {n id : List UInt8} (hn : nameB n = true) (hv : validB id = true) (hs : peekB c.here (refP n) = true) (hd : (peekF c.here (refP n)).data = id ++ [10]) : getE c n = 0 ∧ getV c n = id ∧ CalmTo c (getC c n) c.here := by
  obtain ⟨h1, h2⟩ := h.red (refP_path hn)
  rw [if_pos hs] at h1
  have h3 : getE c n = 0 := by
    unfold getE
    rw [if_neg (by rw [hn]; decide), if_neg (by rw [h1]; decide), h2, hd, (hin_of hv).1]
    rfl
  refine ⟨h3, by unfold getV; rw [if_pos h3, h2, hd, (hin_of hv).2], ?_⟩
  unfold getC
  rw [if_neg (by rw [hn]; decide), h.bg.1]
  exact h.same.tick
theorem get_noname {c : CSt} {n : List UInt8} (hn : nameB n = false) : getE c n = 6 ∧ getV c n = [] ∧ getC c n = c := by
  have h3 : getE c n = 6 := by unfold getE; rw [if_pos hn]
  exact ⟨h3, by unfold getV; rw [h3]; rfl, by unfold getC; rw [if_pos hn]⟩
theorem set_noname {c : CSt} {n : List UInt8} (hn : nameB n = false) (old new : List UInt8) : setE c n old new = 6 ∧ setC c n old new = c := ⟨by unfold setE; rw [if_pos hn], by unfold setC; rw [if_pos hn]⟩
theorem set_range {c : CSt} {n old new : List UInt8} (hn : nameB n = true) (h : validB new = false ∨ (old ≠ [] ∧ validB old = false)) : setE c n old new = 1 ∧ setC c n old new = c :=
  ⟨by unfold setE; rw [if_neg (by rw [hn]; decide), if_pos h], by unfold setC; rw [if_neg (by rw [hn]; decide), if_pos h]⟩
/-- What Set does where its name and hashes may be. -/
theorem set_good {c : CSt} {n old new : List UInt8} (hn : nameB n = true) (hv : validB new = true) (ho : old = [] ∨ validB old = true) :
    setE c n old new = (if crtE c (lockP n) 1 (new ++ [10]) true = 0 then slE (crtC c (lockP n) 1 (new ++ [10]) true) n old else if crtE c (lockP n) 1 (new ++ [10]) true = 8 then 13 else crtE c (lockP n) 1 (new ++ [10]) true) ∧
    setC c n old new = (if crtE c (lockP n) 1 (new ++ [10]) true = 0 then slC (crtC c (lockP n) 1 (new ++ [10]) true) n old else crtC c (lockP n) 1 (new ++ [10]) true) := by
  have h1 : ¬ (nameB n = false) := by rw [hn]; decide
  have h2 : ¬ (validB new = false ∨ (old ≠ [] ∧ validB old = false)) := by
    rintro (h | ⟨h, h'⟩)
    · rw [hv] at h; cases h
    · rcases ho with ho | ho
      · exact h ho
      · rw [ho] at h'; cases h'
  unfold setE setC
  rw [if_neg h1, if_neg h2, if_neg h1, if_neg h2]
  exact ⟨rfl, rfl⟩
/-- The lock is made. -/
theorem Calm.lock_ok {c : CSt} (h : Calm c) {n new : List UInt8} (hn : nameB n = true) (hv : validB new = true) (hl : peekB c.here (lockP n) = false) (hm : mayC c.here (lockP n) [] = true) (hr : (usedM c.here : Int) + 65 ≤ c.room) :
    crtE c (lockP n) 1 (new ++ [10]) true = 0 ∧ crtC c (lockP n) 1 (new ++ [10]) true = doC (Tx.tick c) ⟨[], lockP n, ⟨1, new ++ [10], c.time + 1⟩⟩ := by
  obtain ⟨h1, h2⟩ := h.crt (lockP n) 1 (new ++ [10]) true
  have h65 : (new ++ [10]).length = 65 := by simp [valid_len hv]
  have h3 : wrE c (lockP n) 1 (new ++ [10]) c.room true = 0 := by
    unfold wrE
    rw [if_neg (by rw [lockP_path hn]; decide), if_neg (by omega), if_neg (by rw [h65]; decide), if_neg (by rw [hl]; decide), if_neg (by rw [hm]; decide), if_neg (by rw [h65]; omega)]
  refine ⟨h1.trans h3, h2.trans ?_⟩
  unfold wrC
  have h3' : wrE (Tx.tick c) (lockP n) 1 (new ++ [10]) c.room true = 0 := h3
  rw [if_pos h3']
  rfl
theorem Calm.set_ok {c : CSt} (h : Calm c) (hO : Ord c.here) {n old new : List UInt8} (hn : nameB n = true) (hv : validB new = true) (hl : peekB c.here (lockP n) = false) (hm : mayM c.here (lockP n) = true) (hr : (usedM c.here : Int) + 65 ≤ c.room)
    (hmr : mayM c.here (refP n) = true) (ho : (old = [] ∧ peekB c.here (refP n) = false) ∨ (validB old = true ∧ peekB c.here (refP n) = true ∧ (peekF c.here (refP n)).data = old ++ [10])) :
    setE c n old new = 0 ∧ CalmTo c (setC c n old new) (withM c.here (refP n) ⟨1, new ++ [10], c.time + 1⟩) ∧ (setC c n old new).pending = [] := by
  obtain ⟨e1, e2⟩ := set_good (c := c) (old := old) hn hv (ho.imp And.left And.left)
  obtain ⟨k1, k2⟩ := h.lock_ok hn hv hl (may_to hm (under_nil _)) hr
  rw [if_pos k1, k2] at e1 e2
  obtain ⟨f, hf⟩ : ∃ f : FileM, (⟨1, new ++ [10], c.time + 1⟩ : FileM) = f := ⟨_, rfl⟩
  rw [hf] at e1 e2 ⊢
  have t1 : CalmTo c (doC (Tx.tick c) ⟨[], lockP n, f⟩) (withM c.here (lockP n) f) := by
    have := h.same.tick.do_ ⟨[], lockP n, f⟩
    rwa [apply_put _ _ _ (lockP_ne n)] at this
  obtain ⟨c1, hc1⟩ : ∃ x, doC (Tx.tick c) ⟨[], lockP n, f⟩ = x := ⟨_, rfl⟩
  rw [hc1] at e1 e2 t1
  have hrl := ref_lock n n
  have p1 : peekB c1.here (refP n) = peekB c.here (refP n) := by rw [t1.here, peek_with]; simp [hrl]
  have p2 : peekF c1.here (refP n) = peekF c.here (refP n) := by rw [t1.here, peekf_other hO f hrl]
  obtain ⟨r1, r2⟩ := t1.calm.red (refP_path hn)
  have x1 : expE c1 n old = 0 := by
    unfold expE
    rw [r1, r2, p1, p2]
    rcases ho with ⟨rfl, hs⟩ | ⟨hvo, hs, hd⟩
    · simp [hs]
    · have hne : old ≠ [] := fun e => by rw [e] at hvo; exact absurd (valid_len hvo) (by decide)
      simp [hs, hd, hne]
  have t2 : CalmTo c (synC (Tx.tick c1)) (withM c.here (lockP n) f) := by
    rw [t1.calm.tick.syn]
    exact t1.tick.tick.settle
  have b1 : (bgC c1).c = Tx.tick c1 := t1.calm.bg.1
  have x2 : prepE c1 n old = 0 ∧ prepC c1 n old = synC (Tx.tick c1) := by
    unfold prepE prepC
    rw [if_pos x1, if_pos x1, b1]
    exact ⟨t1.calm.tick.bg.2.1, rfl⟩
  obtain ⟨c2, hc2⟩ : ∃ x, synC (Tx.tick c1) = x := ⟨_, rfl⟩
  rw [hc2] at t2 x2
  obtain ⟨m1, m2⟩ := t2.calm.mov (lockP n) (refP n) false
  have q1 : peekB c2.here (lockP n) = true := by rw [t2.here, peek_with]; simp
  have q2 : peekF c2.here (lockP n) = f := by rw [t2.here, peekf_with hO]
  have q3 : mayC c2.here (refP n) (lockP n) = true := by
    rw [t2.here]
    exact may_to (may_with hmr (not_under (by decide)) (not_under (by decide))) (not_under (by decide))
  have x3 : mvE c2 (lockP n) (refP n) false = 0 := by
    unfold mvE
    rw [if_neg (by rw [lockP_path hn, refP_path hn]; decide), if_neg (by rw [q1]; decide), if_neg (by simp), if_neg hrl, if_neg (by rw [q3]; decide)]
  have x3' : mvE (Tx.tick c2) (lockP n) (refP n) false = 0 := x3
  have m3 : movC c2 (lockP n) (refP n) false = doC (Tx.tick c2) ⟨lockP n, refP n, f⟩ := by
    rw [m2]
    unfold mvC
    rw [if_pos ⟨x3', hrl⟩]
    show doC (Tx.tick c2) ⟨lockP n, refP n, peekF c2.here (lockP n)⟩ = _
    rw [q2]
  have t3 : CalmTo c (doC (Tx.tick c2) ⟨lockP n, refP n, f⟩) (withM c.here (refP n) f) := by
    have := t2.tick.do_ ⟨lockP n, refP n, f⟩
    rwa [apply_move _ _ _ _ (lockP_ne n) (refP_ne n), without_with, without_not hl] at this
  obtain ⟨c3, hc3⟩ : ∃ x, doC (Tx.tick c2) ⟨lockP n, refP n, f⟩ = x := ⟨_, rfl⟩
  rw [hc3] at m3 t3
  have y1 : slE c1 n old = 0 := by
    unfold slE
    rw [x2.1, x2.2, if_pos rfl, m1, x3, if_pos rfl, m3]
    exact t3.calm.bg.2.1
  have y2 : slC c1 n old = synC c3 := by
    unfold slC
    rw [x2.1, x2.2, if_pos rfl, m1, x3, if_pos rfl, m3]
  rw [e1, e2, y1, y2, t3.calm.syn]
  exact ⟨rfl, t3.tick.settle, rfl⟩
/-- What is expected is not there: nothing is changed. -/
theorem Calm.set_wrong {c : CSt} (h : Calm c) (hO : Ord c.here) {n old new : List UInt8} (hn : nameB n = true) (hv : validB new = true) (hl : peekB c.here (lockP n) = false) (hm : mayM c.here (lockP n) = true) (hr : (usedM c.here : Int) + 65 ≤ c.room)
    (ho : (old = [] ∧ peekB c.here (refP n) = true) ∨ (validB old = true ∧ (peekB c.here (refP n) = true → (peekF c.here (refP n)).data ≠ old ++ [10]))) :
    setE c n old new = 13 ∧ CalmTo c (setC c n old new) c.here := by
  obtain ⟨e1, e2⟩ := set_good (c := c) (old := old) hn hv (ho.imp And.left And.left)
  obtain ⟨k1, k2⟩ := h.lock_ok hn hv hl (may_to hm (under_nil _)) hr
  rw [if_pos k1, k2] at e1 e2
  obtain ⟨f, hf⟩ : ∃ f : FileM, (⟨1, new ++ [10], c.time + 1⟩ : FileM) = f := ⟨_, rfl⟩
  rw [hf] at e1 e2
  have t1 : CalmTo c (doC (Tx.tick c) ⟨[], lockP n, f⟩) (withM c.here (lockP n) f) := by
    have := h.same.tick.do_ ⟨[], lockP n, f⟩
    rwa [apply_put _ _ _ (lockP_ne n)] at this
  obtain ⟨c1, hc1⟩ : ∃ x, doC (Tx.tick c) ⟨[], lockP n, f⟩ = x := ⟨_, rfl⟩
  rw [hc1] at e1 e2 t1
  have hrl := ref_lock n n
  have p1 : peekB c1.here (refP n) = peekB c.here (refP n) := by rw [t1.here, peek_with]; simp [hrl]
  have p2 : peekF c1.here (refP n) = peekF c.here (refP n) := by rw [t1.here, peekf_other hO f hrl]
  obtain ⟨r1, r2⟩ := t1.calm.red (refP_path hn)
  have x1 : expE c1 n old = 13 := by
    unfold expE
    rw [r1, r2, p1, p2]
    rcases ho with ⟨rfl, hs⟩ | ⟨hvo, hd⟩
    · simp [hs]
    · have hne : old ≠ [] := fun e => by rw [e] at hvo; exact absurd (valid_len hvo) (by decide)
      cases hs : peekB c.here (refP n) with
      | true => simp [hd hs]
      | false => simp [hne]
  have b1 : (bgC c1).c = Tx.tick c1 := t1.calm.bg.1
  have x2 : prepE c1 n old = 13 ∧ prepC c1 n old = Tx.tick c1 := by
    unfold prepE prepC
    rw [if_neg (by rw [x1]; decide), if_neg (by rw [x1]; decide), b1]
    exact ⟨x1, rfl⟩
  have y1 : slE c1 n old = 13 := by
    unfold slE
    rw [if_neg (by rw [x2.1]; decide)]
    exact x2.1
  have q1 : peekB c1.here (lockP n) = true := by rw [t1.here, peek_with]; simp
  have r3 : rmE (Tx.tick (Tx.tick c1)) (lockP n) = 0 := by
    show rmE c1 (lockP n) = 0
    unfold rmE
    rw [if_neg (by rw [lockP_path hn]; decide), if_neg (by rw [q1]; decide)]
  have y2 : slC c1 n old = doC (Tx.tick (Tx.tick c1)) ⟨lockP n, [], ⟨0, [], 0⟩⟩ := by
    unfold slC
    rw [if_neg (by rw [x2.1]; decide), x2.2, (t1.calm.tick.rem (lockP n)).2]
    unfold rmC
    rw [if_pos r3]
  have t4 := t1.tick.tick.do_ ⟨lockP n, [], ⟨0, [], 0⟩⟩
  rw [apply_drop _ _ _ (lockP_ne n), without_with, without_not hl] at t4
  rw [e1, e2, y1, y2]
  exact ⟨rfl, t4⟩
/-- The lock stands, or may not stand. -/
theorem Calm.set_locked {c : CSt} (h : Calm c) {n old new : List UInt8} (hn : nameB n = true) (hv : validB new = true) (ho : old = [] ∨ validB old = true) (hl : peekB c.here (lockP n) = true ∨ mayC c.here (lockP n) [] = false) :
    setE c n old new ≠ 0 ∧ CalmTo c (setC c n old new) c.here := by
  obtain ⟨e1, e2⟩ := set_good (c := c) (old := old) hn hv ho
  obtain ⟨h1, h2⟩ := h.crt (lockP n) 1 (new ++ [10]) true
  have h65 : (new ++ [10]).length = 65 := by simp [valid_len hv]
  have h3 : wrE c (lockP n) 1 (new ++ [10]) c.room true ≠ 0 := by
    unfold wrE
    rw [if_neg (by rw [lockP_path hn]; decide), if_neg (by omega), if_neg (by rw [h65]; decide)]
    split
    · decide
    · rename_i hx
      rcases hl with hl | hl
      · exact absurd ⟨rfl, hl⟩ hx
      · rw [if_pos hl]; decide
  have h4 : wrC (Tx.tick c) (lockP n) 1 (new ++ [10]) c.room true = Tx.tick c := by
    unfold wrC
    have h3' : wrE (Tx.tick c) (lockP n) 1 (new ++ [10]) c.room true ≠ 0 := h3
    rw [if_neg h3']
  rw [h1, h2, h4, if_neg h3] at e1 e2
  rw [e1, e2]
  refine ⟨?_, h.same.tick⟩
  split
  · decide
  · exact h3
end Go.Proofs.YtlgmbljfjfcpoaaGreat.Tx
