/- Texts put together: ZRf3, ZRf6, ZRx0. -/
import Derived.Test.YtlgmbljfjfcpoaaGreatQs36
import Derived.Test.YtlgmbljfjfcpoaaGreatQs38
import Derived.Test.YtlgmbljfjfcpoaaGreatQs39
/- Package refs, as plain data: whatever goes wrong within Set. (No Go in it.) -/
set_option linter.unusedVariables false
set_option linter.unusedSimpArgs false
namespace Go.Proofs.YtlgmbljfjfcpoaaGreat.Tx
open Go.RowKit Go.Proofs.YtlgmbljfjfcpoaaGreat.Sh

/-- "head", "other". -/
def hdN : List UInt8 := [104, 101, 97, 100]
def otN : List UInt8 := [111, 116, 104, 101, 114]
theorem hd_ot : refP hdN ≠ refP otN := by decide
/-- The rows that may stand. -/
structure Good (a b o : List UInt8) (R : List RowM) : Prop where
  ord : Ord R
  rows : ∀ r ∈ R, (r.path = refP otN ∧ r.f.data = o ++ [10]) ∨ (r.path = refP hdN ∧ ((a ≠ [] ∧ r.f.data = a ++ [10]) ∨ r.f.data = b ++ [10])) ∨ (r.path = lockP hdN ∧ r.f.data.length ≤ 65)
  other : peekB R (refP otN) = true
  head : a ≠ [] → peekB R (refP hdN) = true
/-- The changes that Set makes. -/
def ChG (b : List UInt8) (q : ChM) : Prop := (q.gone = [] ∧ q.path = lockP hdN ∧ q.f.data.length ≤ 65) ∨ (q.gone = lockP hdN ∧ q.path = []) ∨ (q.gone = lockP hdN ∧ q.path = refP hdN ∧ q.f.data = b ++ [10])
section
variable {a b o : List UInt8} {R : List RowM}
theorem Good.put (h : Good a b o R) (f : FileM) (hf : f.data.length ≤ 65) : Good a b o (withM R (lockP hdN) f) := by
  refine ⟨with_ord h.ord _ _, fun r hr => ?_, by rw [peek_with, h.other]; simp, fun ha => by rw [peek_with, h.head ha]; simp⟩
  rcases mem_with.1 hr with rfl | ⟨hr, _⟩
  · exact .inr (.inr ⟨rfl, hf⟩)
  · exact h.rows r hr
theorem Good.drop (h : Good a b o R) : Good a b o (withoutM R (lockP hdN)) :=
  ⟨without_ord h.ord _, fun r hr => h.rows r (mem_without.1 hr).1, by rw [peek_without, h.other]; decide, fun ha => by rw [peek_without, h.head ha]; decide⟩
theorem Good.set (h : Good a b o R) (f : FileM) (hf : f.data = b ++ [10]) : Good a b o (withM R (refP hdN) f) := by
  refine ⟨with_ord h.ord _ _, fun r hr => ?_, by rw [peek_with, h.other]; simp, fun ha => by rw [peek_with]; simp⟩
  rcases mem_with.1 hr with rfl | ⟨hr, _⟩
  · exact .inr (.inl ⟨rfl, .inr hf⟩)
  · exact h.rows r hr
theorem Good.apply (h : Good a b o R) {q : ChM} (hq : ChG b q) : Good a b o (applyC R q) := by
  obtain ⟨g, p, f⟩ := q
  rcases hq with ⟨h1, h2, h3⟩ | ⟨h1, h2⟩ | ⟨h1, h2, h3⟩
  · dsimp only at h1 h2 h3
    subst h1 h2
    rw [apply_put _ _ _ (lockP_ne _)]
    exact h.put f h3
  · dsimp only at h1 h2
    subst h1 h2
    rw [apply_drop _ _ _ (lockP_ne _)]
    exact h.drop
  · dsimp only at h1 h2 h3
    subst h1 h2
    rw [apply_move _ _ _ _ (lockP_ne _) (refP_ne _)]
    exact h.drop.set f h3
theorem Good.fold : ∀ {l : List ChM} {R : List RowM}, Good a b o R → (∀ q ∈ l, ChG b q) → Good a b o (l.foldl applyC R)
  | [], _, h, _ => h
  | q :: l, R, h, hl => by
    rw [List.foldl_cons]
    exact Good.fold (h.apply (hl q List.mem_cons_self)) (fun q hq => hl q (List.mem_cons_of_mem _ hq))
end
theorem crr_here {c : CSt} (hd : c.down = false) (keep torn : Int) : (crC c keep torn).here = (leftC c keep torn).foldl applyC c.durable := by
  unfold crC
  rw [if_neg (by rw [hd]; decide)]
  rfl
theorem crr_sure {c : CSt} (hd : c.down = false) (hp : c.pending = []) (keep torn : Int) : (crC c keep torn).here = c.durable := by
  rw [crr_here hd]
  unfold leftC
  rw [hp]
  simp
structure JInv (a b o : List UInt8) (c : CSt) : Prop where
  good : Good a b o c.durable
  pend : ∀ q ∈ c.pending, ChG b q
  here : c.here = c.pending.foldl applyC c.durable
  lock : c.down = false → peekB c.here (lockP hdN) = true → (peekF c.here (lockP hdN)).data = b ++ [10]
  plan : ∀ e ∈ c.plan, e.kind ≠ 4 ∧ e.kind ≠ 5
section
variable {a b o : List UInt8} {c : CSt}
theorem JInv.now (h : JInv a b o c) : Good a b o c.here := by rw [h.here]; exact h.good.fold h.pend
theorem JInv.same (h : JInv a b o c) {c' : CSt} (h1 : c'.durable = c.durable) (h2 : c'.pending = c.pending) (h3 : c'.here = c.here) (h4 : c'.down = false → c.down = false) (h5 : ∀ e ∈ c'.plan, e ∈ c.plan) : JInv a b o c' :=
  ⟨by rw [h1]; exact h.good, by rw [h2]; exact h.pend, by rw [h3, h1, h2]; exact h.here, by rw [h3]; exact fun hd => h.lock (h4 hd), fun e he => h.plan e (h5 e he)⟩
theorem left_chg {b : List UInt8} {c : CSt} (h : ∀ q ∈ c.pending, ChG b q) (keep torn : Int) : ∀ q ∈ leftC c keep torn, ChG b q := by
  intro q hq
  unfold leftC at hq
  rcases List.mem_append.1 hq with hm | hm
  · exact h q (List.mem_of_mem_take hm)
  · cases hx : c.pending[keepC c keep]? with
    | none => rw [hx] at hm; cases hm
    | some x =>
      rw [hx] at hm
      have hm' : q ∈ (if tearsB x torn = true then [partC x torn] else []) := hm
      split at hm'
      · rename_i ht
        rw [List.mem_singleton.1 hm']
        have hg : x.gone = [] := by
          unfold tearsB at ht
          simp only [Bool.and_eq_true, decide_eq_true_eq] at ht
          exact ht.1
        rcases h x (List.mem_of_getElem? hx) with ⟨h1, h2, h3⟩ | ⟨h1, _⟩ | ⟨h1, _, _⟩
        · refine .inl ⟨h1, h2, ?_⟩
          show (x.f.data.take torn.toNat).length ≤ 65
          rw [List.length_take]
          omega
        · rw [hg] at h1; exact absurd h1.symm (lockP_ne _)
        · rw [hg] at h1; exact absurd h1.symm (lockP_ne _)
      · cases hm'
theorem JInv.cr (h : JInv a b o c) (keep torn : Int) : JInv a b o (crC c keep torn) := by
  by_cases hd : c.down = true
  · have : crC c keep torn = c := by unfold crC; rw [if_pos hd]
    rw [this]
    exact h
  · have hd' : c.down = false := by simpa using hd
    have hg : Good a b o ((leftC c keep torn).foldl applyC c.durable) := h.good.fold (left_chg h.pend keep torn)
    have h1 := crr_here hd' keep torn
    have h2 : (crC c keep torn).durable = (leftC c keep torn).foldl applyC c.durable ∧ (crC c keep torn).pending = [] ∧ (crC c keep torn).down = true ∧ (crC c keep torn).plan = c.plan := by
      unfold crC
      rw [if_neg hd]
      exact ⟨rfl, rfl, rfl, rfl⟩
    exact ⟨by rw [h2.1]; exact hg, by rw [h2.2.1]; exact fun q hq => (by cases hq), by rw [h1, h2.1, h2.2.1]; rfl, (fun hx => by rw [h2.2.2.1] at hx; cases hx), by rw [h2.2.2.2]; exact h.plan⟩
theorem JInv.ev {s : BgC} (h : JInv a b o s.c) {e : EvM} (he : e.kind ≠ 4 ∧ e.kind ≠ 5) : JInv a b o (evC s e).c := by
  have h0 : JInv a b o { s.c with plan := s.c.plan.tail } := h.same rfl rfl rfl id (fun e he => List.mem_of_mem_tail he)
  unfold evC
  split
  · exact h0.cr _ _
  · split
    · exact h0
    · split
      · exact h0
      · rw [if_neg he.1, if_neg he.2]
        exact h0
theorem JInv.bgk (h : JInv a b o c) : ∀ k, JInv a b o (bgK c k).c
  | 0 => h.same rfl rfl rfl id (fun e he => he)
  | k + 1 => by
    cases hq : c.plan[k]? with
    | none => rw [bgK_more hq]; exact h.bgk k
    | some e => rw [bgK_next hq]; exact (h.bgk k).ev (h.plan e (List.mem_of_getElem? hq))
theorem JInv.bg (h : JInv a b o c) : JInv a b o (bgC c).c := h.bgk _
theorem JInv.do_ (h : JInv a b o c) {q : ChM} (hq : ChG b q) (hl : peekB (applyC c.here q) (lockP hdN) = true → (peekF (applyC c.here q) (lockP hdN)).data = b ++ [10]) : JInv a b o (doC c q) := by
  refine ⟨h.good, fun x hx => ?_, ?_, fun _ => hl, h.plan⟩
  · rcases List.mem_append.1 hx with hx | hx
    · exact h.pend x hx
    · rw [List.mem_singleton.1 hx]; exact hq
  · show applyC c.here q = (c.pending ++ [q]).foldl applyC c.durable
    rw [List.foldl_append, ← h.here]
    rfl
theorem JInv.settle (h : JInv a b o c) : JInv a b o (settleC c) :=
  ⟨h.good.fold h.pend, fun q hq => (by cases hq), h.here, h.lock, h.plan⟩
theorem JInv.wr (h : JInv a b o c) (hb : validB b = true) (room : Int) : JInv a b o (wrC c (lockP hdN) 1 (b ++ [10]) room true) := by
  unfold wrC
  split
  · refine h.do_ (.inl ⟨rfl, rfl, by simp [valid_len hb]⟩) (fun _ => ?_)
    rw [apply_put _ _ _ (lockP_ne _), peekf_with h.now.ord]
  · exact h
theorem JInv.rm (h : JInv a b o c) : JInv a b o (rmC c (lockP hdN)) := by
  unfold rmC
  split
  · refine h.do_ (.inr (.inl ⟨rfl, rfl⟩)) (fun hs => ?_)
    rw [apply_drop _ _ _ (lockP_ne _), peek_without] at hs
    simp at hs
  · exact h
theorem JInv.mv (h : JInv a b o c) (hd : c.down = false) : JInv a b o (mvC c (lockP hdN) (refP hdN) false) := by
  unfold mvC
  split
  · rename_i hx
    have hl := h.lock hd (mvE_ok hx.1).2.2.1
    refine h.do_ (.inr (.inr ⟨rfl, rfl, hl⟩)) (fun hs => ?_)
    rw [apply_move _ _ _ _ (lockP_ne _) (refP_ne _), peek_with, peek_without] at hs
    have : lockP hdN ≠ refP hdN := by decide
    simp [this] at hs
  · exact h
theorem JInv.crt (h : JInv a b o c) (hb : validB b = true) : JInv a b o (crtC c (lockP hdN) 1 (b ++ [10]) true) := by
  unfold crtC
  split
  · exact h.bg.wr hb _
  · exact h.bg
theorem bg_up {c : CSt} (h : bgE c = 0) : (bgC c).c.down = false := by
  unfold bgE at h
  cases hd : (bgC c).c.down with
  | false => rfl
  | true => rw [if_pos hd] at h; cases h
theorem JInv.mov (h : JInv a b o c) : JInv a b o (movC c (lockP hdN) (refP hdN) false) := by
  unfold movC
  split
  · rename_i hx
    exact h.bg.mv (bg_up hx)
  · exact h.bg
theorem JInv.rem (h : JInv a b o c) : JInv a b o (remC c (lockP hdN)) := by
  unfold remC
  split
  · exact h.bg.rm
  · exact h.bg
theorem JInv.syn (h : JInv a b o c) : JInv a b o (synC c) := by
  unfold synC
  split
  · exact h.bg.settle
  · exact h.bg
theorem JInv.prep (h : JInv a b o c) (n old : List UInt8) : JInv a b o (prepC c n old) := by
  unfold prepC
  split
  · exact h.bg.syn
  · exact h.bg
theorem JInv.sl (h : JInv a b o c) (old : List UInt8) : JInv a b o (slC c hdN old) := by
  unfold slC
  split
  · split
    · exact (h.prep hdN old).mov.syn
    · exact (h.prep hdN old).mov
  · exact (h.prep hdN old).rem
theorem JInv.set_ (h : JInv a b o c) (hb : validB b = true) (old : List UInt8) : JInv a b o (setC c hdN old b) := by
  unfold setC
  split
  · exact h
  · split
    · exact h
    · split
      · exact (h.crt hb).sl old
      · exact h.crt hb
/-- What begins a call and does not fail leaves the files. -/
theorem bg_files {c : CSt} (hp : ∀ e ∈ c.plan, e.kind ≠ 4 ∧ e.kind ≠ 5) : ∀ k, (bgK c k).c.down = false → (bgK c k).c.here = c.here ∧ (bgK c k).c.durable = c.durable ∧ (bgK c k).c.pending = c.pending
  | 0, _ => ⟨rfl, rfl, rfl⟩
  | k + 1, hd => by
    cases hq : c.plan[k]? with
    | none => rw [bgK_more hq] at hd ⊢; exact bg_files hp k hd
    | some e =>
      rw [bgK_next hq] at hd ⊢
      have he := hp e (List.mem_of_getElem? hq)
      have ih := bg_files hp k
      generalize bgK c k = s at *
      unfold evC at hd ⊢
      split at hd
      · exfalso
        rename_i h1
        dsimp only at hd
        unfold crC at hd
        split at hd
        · rename_i h2
          rw [h2] at hd; cases hd
        · cases hd
      · rename_i h1
        rw [if_neg h1]
        split at hd
        · rename_i h2; rw [if_pos h2]; exact ih hd
        · rename_i h2
          rw [if_neg h2]
          split at hd
          · rename_i h3; rw [if_pos h3]; exact ih hd
          · rename_i h3
            rw [if_neg h3, if_neg he.1, if_neg he.2]
            rw [if_neg he.1, if_neg he.2] at hd
            exact ih hd
/-- A Set that says OK. -/
theorem JInv.said (h : JInv a b o c) (hb : validB b = true) {old : List UInt8} (he : setE c hdN old b = 0) :
    (setC c hdN old b).down = false ∧ (setC c hdN old b).pending = [] ∧ (setC c hdN old b).durable = (setC c hdN old b).here ∧ peekB (setC c hdN old b).here (refP hdN) = true ∧ (peekF (setC c hdN old b).here (refP hdN)).data = b ++ [10] := by
  have hJ := h.set_ hb old
  unfold setE at he
  unfold setC at hJ ⊢
  rw [if_neg (by decide)] at he hJ ⊢
  split at he
  · cases he
  · rename_i h1
    rw [if_neg h1] at hJ ⊢
    split at he
    · rename_i h2
      rw [if_pos h2] at hJ ⊢
      have h3 := h.crt hb
      generalize crtC c (lockP hdN) 1 (b ++ [10]) true = c1 at *
      unfold slE at he
      unfold slC at hJ ⊢
      split at he
      · rename_i h4
        rw [if_pos h4] at hJ ⊢
        have h5 := h3.prep hdN old
        generalize prepC c1 hdN old = c2 at *
        split at he
        · rename_i h6
          rw [if_pos h6] at hJ ⊢
          have h7 := h5.mov
          have h8 : peekB (movC c2 (lockP hdN) (refP hdN) false).here (refP hdN) = true ∧ (peekF (movC c2 (lockP hdN) (refP hdN) false).here (refP hdN)).data = b ++ [10] := by
            unfold movE at h6
            split at h6
            · rename_i g1
              have g2 := bg_up g1
              have g3 := h5.bg
              unfold movC
              rw [if_pos g1]
              generalize (bgC c2).c = s at *
              unfold mvC
              rw [if_pos ⟨h6, by decide⟩]
              show peekB (applyC s.here ⟨lockP hdN, refP hdN, peekF s.here (lockP hdN)⟩) (refP hdN) = true ∧ (peekF (applyC s.here ⟨lockP hdN, refP hdN, peekF s.here (lockP hdN)⟩) (refP hdN)).data = b ++ [10]
              rw [apply_move _ _ _ _ (lockP_ne _) (refP_ne _), peekf_with (without_ord g3.now.ord _), peek_with]
              exact ⟨by simp, g3.lock g2 (mvE_ok h6).2.2.1⟩
            · rename_i g1
              exact absurd h6 g1
          generalize movC c2 (lockP hdN) (refP hdN) false = c3 at *
          have g4 := bg_up he
          obtain ⟨g5, _, _⟩ := bg_files h7.plan (bgN c3) g4
          unfold synC at hJ ⊢
          rw [if_pos he] at hJ ⊢
          have g6 : (settleC (bgC c3).c).here = c3.here := g5
          refine ⟨g4, rfl, ?_, by rw [g6]; exact h8.1, by rw [g6]; exact h8.2⟩
          have := hJ.here
          exact this.symm
        · rename_i h6
          exact absurd he h6
      · rename_i h4
        exact absurd he h4
    · rename_i h2
      split at he
      · cases he
      · exact absurd he h2
end
/-- The ref is just this. -/
def isB (R : List RowM) (n id : List UInt8) : Bool := if id = [] then !peekB R (refP n) else peekB R (refP n) && decide ((peekF R (refP n)).data = id ++ [10])
theorem Good.either {a b o : List UInt8} {R : List RowM} (h : Good a b o R) (hb : b ≠ []) : isB R hdN a = true ∨ isB R hdN b = true := by
  unfold isB
  rw [if_neg hb]
  cases hs : peekB R (refP hdN) with
  | false =>
    by_cases ha : a = []
    · rw [if_pos ha]; exact .inl rfl
    · rw [h.head ha] at hs; cases hs
  | true =>
    rcases h.rows _ (peek_at hs) with ⟨h1, _⟩ | ⟨_, ⟨h1, h2⟩ | h2⟩ | ⟨h1, _⟩
    · exact absurd h1 hd_ot
    · rw [if_neg h1]; left; simpa using h2
    · right; simpa using h2
    · exact absurd h1 (ref_lock _ _)
theorem Good.rest {a b o : List UInt8} {R : List RowM} (h : Good a b o R) (ho : o ≠ []) : isB R otN o = true := by
  unfold isB
  rw [if_neg ho, h.other]
  rcases h.rows _ (peek_at h.other) with ⟨_, h2⟩ | ⟨h1, _⟩ | ⟨h1, _⟩
  · simpa using h2
  · exact absurd h1.symm hd_ot
  · exact absurd h1 (ref_lock _ _)
theorem is_of {R : List RowM} {n id : List UInt8} (hid : id ≠ []) (h1 : peekB R (refP n) = true) (h2 : (peekF R (refP n)).data = id ++ [10]) : isB R n id = true := by
  unfold isB
  rw [if_neg hid, h1]
  simpa using h2
theorem JInv.crashed {a b o : List UInt8} {c : CSt} (h : JInv a b o c) {n : List UInt8} (hd : c.down = false) (hp : c.pending = []) (hs : c.durable = c.here) (keep torn : Int) : (crC c keep torn).here = c.here := by
  rw [crr_sure hd hp, hs]
theorem Good.few {a b o : List UInt8} {R : List RowM} (h : Good a b o R) (ha : a.length ≤ 64) (hb : b.length ≤ 64) (ho : o.length ≤ 64) : usedM R ≤ 400 := by
  have h1 : R.length ≤ 3 := by
    have := nodup_within (ord_nodup h.ord) (m := [refP otN, refP hdN, lockP hdN]) (fun x hx => by
      obtain ⟨r, hr, rfl⟩ := List.mem_map.1 hx
      rcases h.rows r hr with ⟨e, _⟩ | ⟨e, _⟩ | ⟨e, _⟩ <;> rw [e] <;> simp)
    simpa using this
  have h2 : ∀ r ∈ R, r.f.data.length ≤ 65 := fun r hr => by
    rcases h.rows r hr with ⟨_, e⟩ | ⟨_, ⟨_, e⟩ | e⟩ | ⟨_, e⟩
    · rw [e]; simp; omega
    · rw [e]; simp; omega
    · rw [e]; simp; omega
    · exact e
  unfold usedM
  have h3 : ∀ (l : List RowM), (∀ r ∈ l, r.f.data.length ≤ 65) → (l.map fun r => r.f.data.length).sum ≤ 65 * l.length := by
    intro l
    induction l with
    | nil => intro _; simp
    | cons x l ih =>
      intro hl
      have e1 := ih (fun r hr => hl r (List.mem_cons_of_mem _ hr))
      have e2 := hl x List.mem_cons_self
      simp only [List.map_cons, List.sum_cons, List.length_cons]
      omega
  have := h3 R h2
  omega
end Go.Proofs.YtlgmbljfjfcpoaaGreat.Tx
/- marlaw8.first. -/
set_option linter.unusedVariables false
set_option linter.unusedSimpArgs false
namespace Go.Proofs.YtlgmbljfjfcpoaaGreat.Tx
open Go.RowKit Go.Maps Go.Proofs.YtlgmbljfjfcpoaaGreat.Sh

theorem id_valid (bs : List UInt8) : validB (hexL (sumOf bs)) = true := by
  unfold validB
  rw [hexOk_hexL, hexL_length, sumOf_length]
  rfl
theorem sl_of {w : World} {v : Value} {bs : List UInt8} (h : SlV w v (bs.map bv)) : Sl w v bs := by
  obtain ⟨A, c, hv, h1, h2, h3⟩ := h.len
  rw [List.length_map] at hv h1 h3
  refine ⟨A, c, hv, h1, h2, fun h0 => ?_, fun hA => ?_⟩
  · obtain ⟨ad, hA, hc⟩ := reads_at h3 0 (bv (bs.getD 0 0)) (by rw [List.getElem?_map, List.getElem?_eq_getElem h0, List.getD_eq_getElem?_getD, List.getElem?_eq_getElem h0]; rfl)
    refine ⟨ad, hA, ?_, fun j hj => ?_⟩
    · have := World.block_lt_of_cell? w _ hc
      rw [addr_block] at this
      exact this
    · obtain ⟨ad', hA', hc'⟩ := reads_at h3 j (bv (bs.getD j 0)) (by rw [List.getElem?_map, List.getElem?_eq_getElem hj, List.getD_eq_getElem?_getD, List.getElem?_eq_getElem hj]; rfl)
      rw [hA] at hA'
      injection hA' with hA'
      subst hA'
      rw [hc']
      unfold bv
      rw [Tx.bi_nat]
      unfold Sh.bi
      rfl
  · subst hA
    by_cases h0 : 0 < bs.length
    · obtain ⟨ad, hA, _⟩ := reads_at h3 0 (bv (bs.getD 0 0)) (by rw [List.getElem?_map, List.getElem?_eq_getElem h0, List.getD_eq_getElem?_getD, List.getElem?_eq_getElem h0]; rfl)
      cases hA
    · exact List.eq_nil_of_length_eq_zero (by omega)
section
variable {w w1 : World} {b : Nat} {c : CSt} {i : Nat}
theorem set_mine (n old new : List UInt8) (h : Mine w w1 b c) (hg : GoC c i) (hi : i ≤ 3800) (hn : n.length ≤ 900000) (hol : old.length ≤ 900000) (hnl : new.length ≤ 900000) :
    Calls Tryz.prog 19 #[.pointer (some ⟨b, 0, none⟩), .string (Tx.str n), .string (Tx.str old), .string (Tx.str new)] w1 fun e w' => e = .returned (.int .i64 (setE c n old new)) ∧ Mine w w' b (setC c n old new) := by
  obtain ⟨F, M, h1, h2, h3⟩ := h
  exact (set_any F M b c i n old new w1 h1 hg hi hn hol hnl).mono fun e w' h => ⟨h.1, Mine.of h2 h3 h.2⟩
theorem get_mine (n : List UInt8) (h : Mine w w1 b c) (hg : GoC c i) (hi : i ≤ 3800) (hn : n.length ≤ 900000) :
    Calls Tryz.prog 43 #[.pointer (some ⟨b, 0, none⟩), .string (Tx.str n)] w1 fun e w' => e = .returned (.tuple #[.string (Tx.str (getV c n)), .int .i64 (getE c n)]) ∧ Mine w w' b (getC c n) := by
  obtain ⟨F, M, h1, h2, h3⟩ := h
  exact (get_any F M b c _ n w1 h1 (hg.ready (by omega)) hn).mono fun e w' h => ⟨h.1, Mine.of h2 h3 h.2⟩
theorem unlock_mine (h : Mine w w1 b c) (hg : GoC c i) (hi : i + (rlsV c lockD).length ≤ 3800) (hlen : ∀ n ∈ rlsV c lockD, n.length ≤ 900000) :
    Calls Tryz.prog 23 #[.pointer (some ⟨b, 0, none⟩)] w1 fun e w' => e = .returned (.tuple #[.int .i64 (ulkN c), .int .i64 (ulkE c)]) ∧ Mine w w' b (ulkC c) := by
  obtain ⟨F, M, h1, h2, h3⟩ := h
  exact (unlock_any F M b c i w1 h1 hg hi hlen).mono fun e w' h => ⟨h.1, Mine.of h2 h3 h.2⟩
theorem idc_any (v : Value) (bs : List UInt8) (w : World) (h : SlV w v (bs.map bv)) (hn : bs.length ≤ 1000000) : Calls Tryz.prog 16 #[v] w fun e w' => e = .returned (.string (Tx.str (hexL (sumOf bs)))) ∧ Below w.heap.size w w' :=
  id_any v bs w (sl_of h) (by omega)
end
/-- A file system of one's own, and a block beside it that it leaves alone. -/
def MineK (w w1 : World) (b : Nat) (c : CSt) (g : Nat) (T : TypeId) (cs : Array Value) : Prop := ∃ F M, FcAt F w1 b c M ∧ (∀ k, M k → w.heap.size ≤ k) ∧ Below w.heap.size w w1 ∧ ¬ M g ∧ Blk w1 g T cs
section
variable {w w1 w2 : World} {b g : Nat} {c c' : CSt} {T : TypeId} {cs : Array Value} {i : Nat}
theorem MineK.mine (h : MineK w w1 b c g T cs) : Mine w w1 b c := by
  obtain ⟨F, M, h1, h2, h3, _⟩ := h
  exact ⟨F, M, h1, h2, h3⟩
theorem MineK.blk (h : MineK w w1 b c g T cs) : Blk w1 g T cs := by
  obtain ⟨F, M, _, _, _, _, h5⟩ := h
  exact h5
theorem MineK.start (h : Mine w w1 b c) (T : TypeId) (cs : Array Value) : MineK w (w1.alloc (.cells cs T)) b c w1.heap.size T cs := by
  obtain ⟨F, M, h1, h2, h3⟩ := h
  refine ⟨F, M, h1.below ((Below.refl _ w1).alloc (Nat.le_refl _) _), h2, h3.alloc h3.size _, fun hm => ?_, Blk.new _ _ _⟩
  have := h1.lt _ hm
  omega
theorem MineK.of {F M : Nat → Prop} (hM : ∀ k, M k → w.heap.size ≤ k) (hb : Below w.heap.size w w1) (hg : ¬ M g) (hk : Blk w1 g T cs) (h : FcPost F M w1 b c' w2) : MineK w w2 b c' g T cs := by
  obtain ⟨M', h1, h2, h3⟩ := h
  have hz := hb.size
  have hlt := hk.lt
  refine ⟨_, M', h1, fun k hk => ?_, ((Only.of_below (M := fun _ => False) hb).trans h2 (fun k hk => .inr (hM k hk))).below, fun hm => ?_, h2.blk hk hg⟩
  · rcases h3 k hk with h4 | h4
    · exact hM k h4
    · omega
  · rcases h3 g hm with h4 | h4
    · exact hg h4
    · omega
end
/-- What the examples fix, as plain data. -/
theorem first_plain (a b : List UInt8) (ha : validB a = true) (hb : validB b = true) :
    setE (newC 1000) hdN [] a = 0 ∧ setE (setC (newC 1000) hdN [] a) hdN [] b = 13 ∧ getE (setC (setC (newC 1000) hdN [] a) hdN [] b) hdN = 0 ∧ getV (setC (setC (newC 1000) hdN [] a) hdN [] b) hdN = a := by
  have c0 : Calm (newC 1000) := ⟨rfl, rfl⟩
  have o0 : Ord (newC 1000).here := List.Pairwise.nil
  obtain ⟨h1, h2, _⟩ := c0.set_ok o0 (n := hdN) (old := []) (new := a) (by decide) ha rfl rfl (by show ((0 : Nat) : Int) + 65 ≤ 1000; omega) rfl (.inl ⟨rfl, rfl⟩)
  obtain ⟨c1, hc1⟩ : ∃ x, setC (newC 1000) hdN [] a = x := ⟨_, rfl⟩
  obtain ⟨f, hf⟩ : ∃ f : FileM, (⟨1, a ++ [10], (newC 1000).time + 1⟩ : FileM) = f := ⟨_, rfl⟩
  have hfd : f.data = a ++ [10] := by rw [← hf]
  rw [hc1, hf] at h2
  rw [hc1]
  have hw : c1.here = [⟨refP hdN, f⟩] := by rw [h2.here]; rfl
  have o1 : Ord c1.here := by rw [hw]; exact List.pairwise_singleton _ _
  have p1 : peekB c1.here (refP hdN) = true := by rw [h2.here, peek_with]; simp
  have p2 : peekF c1.here (refP hdN) = f := by rw [h2.here, peekf_with o0]
  have hl : peekB c1.here (lockP hdN) = false := by rw [h2.here, peek_with]; decide
  have hm : mayM c1.here (lockP hdN) = true := by rw [hw]; show (!(underB (lockP hdN) (refP hdN) || underB (refP hdN) (lockP hdN)) && true) = true; decide
  have hr : (usedM c1.here : Int) + 65 ≤ c1.room := by
    rw [h2.room, hw]
    show (([f.data.length].sum : Nat) : Int) + 65 ≤ 1000
    rw [hfd]
    have := valid_len ha
    simp
    omega
  obtain ⟨g1, g2⟩ := h2.calm.set_wrong o1 (n := hdN) (old := []) (new := b) (by decide) hb hl hm hr (.inl ⟨rfl, p1⟩)
  obtain ⟨c2, hc2⟩ : ∃ x, setC c1 hdN [] b = x := ⟨_, rfl⟩
  rw [hc2] at g2
  rw [hc2]
  obtain ⟨k1, k2, _⟩ := g2.calm.get_ok (n := hdN) (id := a) (by decide) ha (by rw [g2.here]; exact p1) (by rw [g2.here, p2]; exact hfd)
  exact ⟨h1, g1, k1, k2⟩
set_option maxRecDepth 100000 in
set_option maxHeartbeats 6400000 in
theorem rfirst_any (w : World) : Calls Tryz.prog 17 #[] w (Yes w) := by
  have kc := fun (w : World) (C : Array Value) (n c : Nat) => Lib.run_convert_bytes_const (P := Tryz.prog) w 25 5 C n c Tryz.underlying25 Tryz.underlying5
  go_enter Tryz.func17, Tryz.ntmps17
  go_wp2_with fail
  refine (new_any (fun _ => False) 1000 w (fun _ h => h.elim)).mono ?_
  rintro e w1 ⟨hb1, ⟨h1, _⟩ | ⟨_, b, M, _, hM, rfl, hat⟩⟩
  · exact absurd h1 (by decide)
  have H1 : Hid (Mine w w1 b (newC 1000)) := ⟨_, M, hat, hM, hb1⟩
  clear hb1 hM hat
  obtain ⟨ia, hia⟩ : ∃ x, hexL (sumOf [97]) = x := ⟨_, rfl⟩
  obtain ⟨ib, hib⟩ : ∃ x, hexL (sumOf [98]) = x := ⟨_, rfl⟩
  have HIA := Lib.hid hia
  have HIB := Lib.hid hib
  have hva : validB ia = true := by rw [← hia]; exact id_valid _
  have hvb : validB ib = true := by rw [← hib]; exact id_valid _
  have HPL := Lib.hid (first_plain ia ib hva hvb)
  have HLA : Hid (ia.length ≤ 900000) := by unfold Hid; rw [valid_len hva]; omega
  have HLB : Hid (ib.length ≤ 900000) := by unfold Hid; rw [valid_len hvb]; omega
  have htl : (str ia).toList = ia := str_toList _
  clear hia hib hva hvb
  go_wp2_with fail
  have hb2 : Below w1.heap.size w1 (w1.alloc (.cells #[.int .u8 97] 5 (1, 2))) := (Below.refl _ _).alloc (Nat.le_refl _) _
  refine (idc_any _ [97] _ (by_new w1 [97] #[.int .u8 97] _ _ (by simp [bv, bi]) 1 rfl (by omega)).slv (by simp)).mono ?_
  rintro e w2 ⟨rfl, hb3⟩
  rw [HIA.out]
  have H2 := Lib.hid ((H1.out.below hb2).below hb3)
  clear hb2 hb3
  go_wp2_with fail
  have hb2 : Below w2.heap.size w2 (w2.alloc (.cells #[.int .u8 98] 5 (1, 2))) := (Below.refl _ _).alloc (Nat.le_refl _) _
  refine (idc_any _ [98] _ (by_new w2 [98] #[.int .u8 98] _ _ (by simp [bv, bi]) 1 rfl (by omega)).slv (by simp)).mono ?_
  rintro e w3 ⟨rfl, hb3⟩
  rw [HIB.out]
  have H3 := Lib.hid ((H2.out.below hb2).below hb3)
  clear hb2 hb3
  go_wp2_with fail
  refine (set_mine hdN [] ia H3.out (GoC.new_ 1000) (by omega) (by decide) (by decide) HLA.out).mono ?_
  rintro e w4 ⟨rfl, h4⟩
  have H4 := Lib.hid h4
  rw [HPL.out.1]
  clear h4
  go_wp2_with fail
  refine (set_mine hdN [] ib H4.out ((GoC.new_ 1000).set_ hdN [] ia) (by omega) (by decide) (by decide) HLB.out).mono ?_
  rintro e w5 ⟨rfl, h5⟩
  have H5 := Lib.hid h5
  rw [HPL.out.2.1]
  clear h5
  go_wp2_with fail
  refine (get_mine hdN H5.out (((GoC.new_ 1000).set_ hdN [] ia).set_ hdN [] ib) (by omega) (by decide)).mono ?_
  rintro e w6 ⟨rfl, h6⟩
  have H6 := Lib.hid h6
  rw [HPL.out.2.2.1, HPL.out.2.2.2]
  clear h6
  go_wp2_with fail
  go_ret
  obtain ⟨_, _, _, _, hb⟩ := H6.out
  exact ⟨rfl, hb⟩
end Go.Proofs.YtlgmbljfjfcpoaaGreat.Tx
/- marlaw8.RefsExpect, as plain data. (No Go in it.) -/
set_option linter.unusedVariables false
set_option linter.unusedSimpArgs false
namespace Go.Proofs.YtlgmbljfjfcpoaaGreat.Tx
open Go.RowKit Go.Proofs.YtlgmbljfjfcpoaaGreat.Sh

/-- What stands where the ref is just this. -/
structure ExpS (now : List UInt8) (c : CSt) : Prop where
  calm : Calm c
  room : c.room = 1048576
  rows : (now = [] ∧ c.here = []) ∨ (validB now = true ∧ ∃ f : FileM, f.data = now ++ [10] ∧ c.here = [⟨refP hdN, f⟩])
theorem valid_ne {now : List UInt8} (h : validB now = true) : now ≠ [] := fun e => by rw [e] at h; exact absurd (valid_len h) (by decide)
section
variable {now : List UInt8} {c : CSt}
theorem ExpS.ord (h : ExpS now c) : Ord c.here := by
  rcases h.rows with ⟨_, e⟩ | ⟨_, f, _, e⟩ <;> rw [e]
  · exact List.Pairwise.nil
  · exact List.pairwise_singleton _ _
theorem ExpS.lock (h : ExpS now c) : peekB c.here (lockP hdN) = false := by
  rcases h.rows with ⟨_, e⟩ | ⟨_, f, _, e⟩ <;> rw [e]
  · rfl
  · cases hs : peekB [(⟨refP hdN, f⟩ : RowM)] (lockP hdN) with
    | false => rfl
    | true =>
      have := peek_at hs
      rw [List.mem_singleton] at this
      exact absurd (congrArg RowM.path this) (show ¬ (lockP hdN = refP hdN) from by decide)
theorem ExpS.may (h : ExpS now c) : mayM c.here (lockP hdN) = true ∧ mayM c.here (refP hdN) = true := by
  rcases h.rows with ⟨_, e⟩ | ⟨_, f, _, e⟩ <;> rw [e]
  · exact ⟨rfl, rfl⟩
  · refine ⟨?_, ?_⟩
    · show (!(underB (lockP hdN) (refP hdN) || underB (refP hdN) (lockP hdN)) && true) = true; decide
    · show (!(underB (refP hdN) (refP hdN) || underB (refP hdN) (refP hdN)) && true) = true; decide
theorem ExpS.fits (h : ExpS now c) : (usedM c.here : Int) + 65 ≤ c.room := by
  rw [h.room]
  rcases h.rows with ⟨_, e⟩ | ⟨hv, f, hf, e⟩ <;> rw [e]
  · show ((0 : Nat) : Int) + 65 ≤ 1048576; omega
  · show (([f.data.length].sum : Nat) : Int) + 65 ≤ 1048576
    rw [hf]
    have := valid_len hv
    simp
    omega
theorem ExpS.none (h : ExpS now c) (hn : now = []) : peekB c.here (refP hdN) = false := by
  rcases h.rows with ⟨_, e⟩ | ⟨hv, f, _, e⟩
  · rw [e]; rfl
  · exact absurd hn (valid_ne hv)
theorem ExpS.some (h : ExpS now c) (hn : now ≠ []) : validB now = true ∧ peekB c.here (refP hdN) = true ∧ (peekF c.here (refP hdN)).data = now ++ [10] := by
  rcases h.rows with ⟨e, _⟩ | ⟨hv, f, hf, e⟩
  · exact absurd e hn
  · have ho := h.ord
    have hm : (⟨refP hdN, f⟩ : RowM) ∈ c.here := by rw [e]; exact List.mem_singleton.2 rfl
    have h1 := peek_yes hm
    have h2 := peek_is ho hm
    refine ⟨hv, h1, ?_⟩
    rw [show peekF c.here (refP hdN) = f from h2]
    exact hf
theorem ExpS.to (h : ExpS now c) {c' : CSt} (hc : CalmTo c c' c.here) : ExpS now c' := ⟨hc.calm, hc.room.trans h.room, by rw [hc.here]; exact h.rows⟩
def setG (now old new : List UInt8) : Bool := validB new && decide (old = now)
theorem ExpS.set_ (h : ExpS now c) (old new : List UInt8) : (setE c hdN old new = 0 ↔ setG now old new = true) ∧ ExpS (if setG now old new = true then new else now) (setC c hdN old new) := by
  have hn : nameB hdN = true := by decide
  unfold setG
  cases hv : validB new with
  | false =>
    obtain ⟨e1, e2⟩ := set_range (c := c) (old := old) hn (.inl hv)
    rw [e1, e2]
    refine ⟨⟨fun x => absurd x (by decide), fun x => by simp at x⟩, ?_⟩
    rw [if_neg (by simp)]
    exact h
  | true =>
    by_cases hr : old ≠ [] ∧ validB old = false
    · obtain ⟨e1, e2⟩ := set_range (c := c) (new := new) hn (.inr hr)
      have hne : ¬ old = now := fun e => by
        have := h.some (by rw [← e]; exact hr.1)
        rw [← e, hr.2] at this
        exact absurd this.1 (by decide)
      rw [e1, e2]
      refine ⟨⟨fun x => absurd x (by decide), fun x => absurd (by simpa using x) hne⟩, ?_⟩
      rw [if_neg (by simpa using hne)]
      exact h
    · have ho : old = [] ∨ validB old = true := by
        by_cases h0 : old = []
        · exact .inl h0
        · right
          cases hx : validB old with
          | true => rfl
          | false => exact absurd ⟨h0, hx⟩ hr
      by_cases he : old = now
      · subst he
        obtain ⟨e1, e2, _⟩ := h.calm.set_ok h.ord hn hv h.lock h.may.1 h.fits h.may.2 (by
          by_cases h0 : old = []
          · exact .inl ⟨h0, h.none h0⟩
          · exact .inr (h.some h0))
        rw [if_pos (by simp)]
        refine ⟨⟨fun _ => by simp, fun _ => e1⟩, ⟨e2.calm, e2.room.trans h.room, .inr ⟨hv, ⟨1, new ++ [10], c.time + 1⟩, rfl, ?_⟩⟩⟩
        rw [e2.here]
        rcases h.rows with ⟨_, e⟩ | ⟨_, f, _, e⟩ <;> rw [e]
        · rfl
        · unfold withM withoutM
          simp [headM]
      · obtain ⟨e1, e2⟩ := h.calm.set_wrong h.ord hn hv h.lock h.may.1 h.fits (old := old) (by
          rcases ho with ho | ho
          · exact .inl ⟨ho, (h.some (fun e => he (ho.trans e.symm))).2.1⟩
          · refine .inr ⟨ho, fun hs => ?_⟩
            have hnow : now ≠ [] := fun e => by rw [h.none e] at hs; cases hs
            rw [(h.some hnow).2.2]
            intro e
            exact he (List.append_cancel_right e).symm)
        rw [if_neg (by simpa using he)]
        exact ⟨⟨fun x => absurd (e1.symm.trans x) (by decide), fun x => absurd (by simpa using x) he⟩, h.to e2⟩
def delG (now old : List UInt8) : Bool := !decide (now = []) && decide (old = now)
end
end Go.Proofs.YtlgmbljfjfcpoaaGreat.Tx
