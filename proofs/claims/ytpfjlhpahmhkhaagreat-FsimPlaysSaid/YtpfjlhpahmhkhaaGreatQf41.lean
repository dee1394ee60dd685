/- Texts put together: WTi2, WTi3. -/
import Derived.Test.YtpfjlhpahmhkhaaGreatQf40
/- The tie of the two file systems, as plain data: what is planned; every call. (No Go in it.) -/
set_option linter.unusedVariables false
set_option linter.unusedSimpArgs false
namespace Go.Proofs.YtpfjlhpahmhkhaaGreat.Tx

def dueL (n : Int) (l : List EvM) : List EvM := l.filter fun e => decide (e.at_ = n)
/-- What is planned, sorted and not. -/
structure Due (c : CSt) (s : FSM) : Prop where
  srt : c.plan.Pairwise fun a b => a.at_ ≤ b.at_
  late : ∀ e ∈ c.plan, c.calls < e.at_
  same : ∀ n, c.calls < n → dueL n c.plan = dueL n s.plan
theorem due_front {n : Int} : ∀ {l : List EvM}, (l.Pairwise fun a b => a.at_ ≤ b.at_) → (∀ e ∈ l, n ≤ e.at_) → (l.takeWhile fun e => decide (e.at_ = n)) = dueL n l ∧ ∀ e ∈ l.drop (l.takeWhile fun e => decide (e.at_ = n)).length, n < e.at_
  | [], _, _ => ⟨rfl, fun e he => by simp at he⟩
  | x :: l, hs, hl => by
    obtain ⟨h1, h2⟩ := List.pairwise_cons.1 hs
    by_cases hx : x.at_ = n
    · obtain ⟨g1, g2⟩ := due_front h2 (fun e he => hl e (List.mem_cons_of_mem _ he))
      unfold dueL at g1 ⊢
      rw [List.takeWhile_cons, List.filter_cons, if_pos (decide_eq_true hx), if_pos (decide_eq_true hx), g1]
      refine ⟨rfl, fun e he => g2 e ?_⟩
      rw [g1]
      simpa using he
    · have hlt : n < x.at_ := by have := hl x List.mem_cons_self; omega
      unfold dueL
      have hf : (x :: l).filter (fun e => decide (e.at_ = n)) = [] := List.filter_eq_nil_iff.2 fun e he => by
        rcases List.mem_cons.1 he with rfl | he
        · simpa using hx
        · have := h1 e he
          simp
          omega
      rw [hf, List.takeWhile_cons, if_neg (by simpa using hx)]
      refine ⟨rfl, fun e he => ?_⟩
      rcases List.mem_cons.1 (by simpa using he) with rfl | he
      · exact hlt
      · have := h1 e he; omega
theorem user_calls (s : FSM) (p : List UInt8) (mode : Int) (data : List UInt8) : (userWM s p mode data).calls = s.calls ∧ (userWM s p mode data).plan = s.plan := by
  unfold userWM putM changeM safeM
  split
  · split <;> exact ⟨rfl, rfl⟩
  · exact ⟨rfl, rfl⟩
theorem user_calls' (s : FSM) (p : List UInt8) : (userRM s p).calls = s.calls ∧ (userRM s p).plan = s.plan := by
  unfold userRM dropM changeM safeM
  split
  · split <;> exact ⟨rfl, rfl⟩
  · exact ⟨rfl, rfl⟩
theorem crash_calls (s : FSM) (keep torn : Int) : (crashM s keep torn).calls = s.calls ∧ (crashM s keep torn).plan = s.plan := by
  unfold crashM safeM
  split <;> exact ⟨rfl, rfl⟩
theorem evM_calls (m : BegM) (e : EvM) : (evM m e).st.calls = m.st.calls ∧ (evM m e).st.plan = m.st.plan := by
  unfold evM
  split
  · split
    · exact crash_calls _ _ _
    · split
      · exact ⟨rfl, rfl⟩
      · split
        · exact ⟨rfl, rfl⟩
        · split
          · exact user_calls _ _ _ _
          · split
            · exact user_calls' _ _
            · exact ⟨rfl, rfl⟩
  · exact ⟨rfl, rfl⟩
theorem evs_calls : ∀ (l : List EvM) (m : BegM), (l.foldl evM m).st.calls = m.st.calls ∧ (l.foldl evM m).st.plan = m.st.plan
  | [], m => ⟨rfl, rfl⟩
  | e :: l, m => by
    rw [List.foldl_cons]
    obtain ⟨h1, h2⟩ := evs_calls l (evM m e)
    obtain ⟨g1, g2⟩ := evM_calls m e
    exact ⟨h1.trans g1, h2.trans g2⟩
/-- Only what is due happens. -/
theorem evs_due {n : Int} : ∀ {l : List EvM} {m : BegM}, m.st.calls = n → l.foldl evM m = (dueL n l).foldl evM m
  | [], _, _ => rfl
  | e :: l, m, h => by
    unfold dueL
    rw [List.foldl_cons, List.filter_cons]
    by_cases he : e.at_ = n
    · rw [if_pos (decide_eq_true he), List.foldl_cons]
      exact evs_due ((evM_calls m e).1.trans h)
    · rw [if_neg (by simpa using he)]
      have : evM m e = m := by unfold evM; rw [if_neg (by rw [h]; exact he)]
      rw [this]
      exact evs_due h
theorem TieB.fold : ∀ {l : List EvM} {b : BgC} {m : BegM} {N : Nat}, TieB b m → (∀ e ∈ l, e.at_ = m.st.calls) → CFits b.c N → N + 2 * l.length ≤ 900000 → TieB (l.foldl evC b) (l.foldl evM m)
  | [], _, _, _, h, _, _, _ => h
  | e :: l, b, m, N, h, he, hf, hN => by
    rw [List.length_cons] at hN
    rw [List.foldl_cons, List.foldl_cons]
    refine TieB.fold (h.ev (he e List.mem_cons_self) (hf.small (by omega))) (fun x hx => ?_) (hf.ev e) (by omega)
    rw [(evM_calls m e).1]
    exact he x (List.mem_cons_of_mem _ hx)
theorem Inv.call {s : FSM} (h : Inv s) : Inv { s with calls := s.calls + 1 } := ⟨h.now, h.ok, h.op⟩
/-- Tied, whole. -/
structure Tied (c : CSt) (s : FSM) : Prop where
  tie : Tie c s
  due : Due c s
  inv : Inv s
section
variable {c : CSt} {s : FSM} {N : Nat}
theorem Due.of {c' : CSt} {s' : FSM} (h : Due c s) (h1 : c'.plan = c.plan) (h2 : c'.calls = c.calls) (h3 : s'.plan = s.plan) : Due c' s' :=
  ⟨by rw [h1]; exact h.srt, by rw [h1, h2]; exact h.late, fun n hn => by rw [h1, h3]; exact h.same n (by rw [← h2]; exact hn)⟩
theorem Tied.begin (h : Tied c s) (hf : CFits c N) (hN : N + 2 * c.plan.length ≤ 900000) : TieB (bgC c) (beginM s) ∧ Due (bgC c).c (beginM s).st := by
  have hd := due_front (n := c.calls + 1) h.due.srt (fun e he => by have := h.due.late e he; omega)
  have hle := bgN_le c
  have htk : c.plan.take (bgN c) = dueL (c.calls + 1) c.plan := by
    have h1 := List.prefix_iff_eq_take.1 (List.takeWhile_prefix (fun e : EvM => decide (e.at_ = c.calls + 1)) (l := c.plan))
    rw [← hd.1]
    exact h1.symm
  have hb : bgC c = (dueL (c.calls + 1) c.plan).foldl evC (bg0 c) := by unfold bgC bgK; rw [htk]
  have hm : beginM s = (dueL (c.calls + 1) c.plan).foldl evM ⟨false, false, { s with calls := s.calls + 1 }⟩ := by
    unfold beginM begM
    rw [List.take_length, evs_due (n := c.calls + 1) (by show s.calls + 1 = c.calls + 1; rw [h.tie.calls]), h.due.same (c.calls + 1) (by omega)]
  have h0 : TieB (bg0 c) ⟨false, false, { s with calls := s.calls + 1 }⟩ := ⟨h.tie.call, by show c.room = s.room; exact h.tie.room, rfl, h.inv.call⟩
  have hlen : (dueL (c.calls + 1) c.plan).length ≤ c.plan.length := List.length_filter_le _ _
  refine ⟨?_, ?_⟩
  · rw [hb, hm]
    refine h0.fold (fun e he => ?_) (N := N) ?_ (by omega)
    · have h2 : e.at_ = c.calls + 1 := of_decide_eq_true (List.mem_filter.1 he).2
      rw [h2, h.tie.calls]
    · exact ⟨hf.here, hf.both, hf.users, hf.time0, hf.time, hf.hrow, hf.drow, hf.prow⟩
  · obtain ⟨p1, p2⟩ := bg_plan c
    have p3 : (beginM s).st.plan = s.plan := by rw [hm]; exact (evs_calls _ _).2
    refine ⟨?_, ?_, fun n hn => ?_⟩
    · rw [p1]
      exact h.due.srt.sublist (List.drop_sublist _ _)
    · rw [p1, p2]
      exact hd.2
    · rw [p2] at hn
      rw [p1, p3, ← h.due.same n (by omega)]
      conv => rhs; rw [← List.take_append_drop (bgN c) c.plan]
      unfold dueL
      rw [List.filter_append, htk]
      have : (dueL (c.calls + 1) c.plan).filter (fun e => decide (e.at_ = n)) = [] := List.filter_eq_nil_iff.2 fun e he => by
        have h2 : e.at_ = c.calls + 1 := of_decide_eq_true (List.mem_filter.1 he).2
        simp
        omega
      rw [this, List.nil_append]
theorem TieB.errs {b : BgC} {m : BegM} (h : TieB b m) : (if b.c.down = true then 12 else b.err) = if m.st.down = true then 12 else if m.broken = true then 11 else 0 := by rw [h.tie.down, h.err]
theorem Tied.bgE (h : Tied c s) (hf : CFits c N) (hN : N + 2 * c.plan.length ≤ 900000) : bgE c = beginE s := (h.begin hf hN).1.errs
theorem Tied.begun (h : Tied c s) (hf : CFits c N) (hN : N + 2 * c.plan.length ≤ 900000) : Tied (bgC c).c (beginM s).st := ⟨(h.begin hf hN).1.tie, (h.begin hf hN).2, (h.begin hf hN).1.inv⟩
theorem Tied.crt (h : Tied c s) (hf : CFits c N) (hN : N + 2 * c.plan.length ≤ 900000) (p : List UInt8) (mode : Int) (data : List UInt8) (create : Bool) :
    crtE c p mode data create = writeE s p mode data create ∧ Tied (crtC c p mode data create) (writeM s p mode data create) := by
  have hb := h.begin hf hN
  have he := h.bgE hf hN
  unfold crtE crtC writeE writeM
  rw [he, hb.1.room]
  split
  · refine ⟨hb.1.tie.wrE hb.1.inv.rows p mode data _ _ create, hb.1.tie.wr hb.1.inv.rows p mode data _ _ create, hb.2.of (wr_plan _ _ _ _ _ _).1 (wr_plan _ _ _ _ _ _).2.1 ?_, hb.1.inv.put p mode data create _ _⟩
    unfold putM changeM
    split <;> rfl
  · exact ⟨rfl, h.begun hf hN⟩
theorem Tied.mov (h : Tied c s) (hf : CFits c N) (hN : N + 2 * c.plan.length ≤ 900000) (fr tt : List UInt8) (create : Bool) :
    movE c fr tt create = moveE s fr tt create ∧ Tied (movC c fr tt create) (moveM s fr tt create) := by
  have hb := h.begin hf hN
  have he := h.bgE hf hN
  unfold movE movC moveE moveM
  rw [he]
  split
  · refine ⟨hb.1.tie.mvE hb.1.inv.rows fr tt create, hb.1.tie.mv hb.1.inv.rows fr tt create, hb.2.of ?_ ?_ ?_, hb.1.inv.move fr tt create⟩
    · unfold mvC; split <;> rfl
    · unfold mvC; split <;> rfl
    · unfold moveM0 changeM; split <;> rfl
  · exact ⟨rfl, h.begun hf hN⟩
theorem Tied.rem (h : Tied c s) (hf : CFits c N) (hN : N + 2 * c.plan.length ≤ 900000) (p : List UInt8) : remE c p = removeE s p ∧ Tied (remC c p) (removeM s p) := by
  have hb := h.begin hf hN
  have he := h.bgE hf hN
  unfold remE remC removeE removeM
  rw [he]
  split
  · refine ⟨hb.1.tie.rmE p, hb.1.tie.rm p, hb.2.of ?_ ?_ ?_, hb.1.inv.drop p⟩
    · unfold rmC; split <;> rfl
    · unfold rmC; split <;> rfl
    · unfold dropM changeM; split <;> rfl
  · exact ⟨rfl, h.begun hf hN⟩
theorem Tied.syn (h : Tied c s) (hf : CFits c N) (hN : N + 2 * c.plan.length ≤ 900000) : Tied (synC c) (syncM s) := by
  have hb := h.begin hf hN
  have he := h.bgE hf hN
  unfold synC syncM
  rw [he]
  split
  · exact ⟨hb.1.tie.settle, hb.2.of rfl rfl rfl, hb.1.inv.safe⟩
  · exact h.begun hf hN
theorem Tied.red (h : Tied c s) (hf : CFits c N) (hN : N + 2 * c.plan.length ≤ 900000) (p : List UInt8) : redE c p = readE s p ∧ redF c p = readF s p := by
  have hb := (h.begin hf hN).1.tie.now
  have he := h.bgE hf hN
  have h1 : redE c p = readE s p := by unfold redE readE; rw [he, hb]
  exact ⟨h1, by unfold redF readF; rw [h1, hb]⟩
theorem Tied.user (h : Tied c s) (hs : CSmall c) (p : List UInt8) (mode : Int) (data : List UInt8) : uwE c p mode data = userWE s p mode data ∧ Tied (uwC c p mode data) (userWM s p mode data) := by
  refine ⟨h.tie.uwE h.inv.rows hs p mode data, h.tie.uw h.inv.rows hs p mode data, h.due.of ?_ ?_ (user_calls _ _ _ _).2, h.inv.userW p mode data⟩
  · unfold uwC noteC settleC wrC doC; split <;> (try split) <;> rfl
  · unfold uwC noteC settleC wrC doC; split <;> (try split) <;> rfl
theorem Tied.user' (h : Tied c s) (p : List UInt8) : urE c p = userRE s p ∧ Tied (urC c p) (userRM s p) := by
  refine ⟨h.tie.urE p, h.tie.ur p, h.due.of ?_ ?_ (user_calls' _ _).2, h.inv.userR p⟩
  · unfold urC noteC settleC rmC doC; split <;> (try split) <;> rfl
  · unfold urC noteC settleC rmC doC; split <;> (try split) <;> rfl
theorem Tied.crash (h : Tied c s) (keep torn : Int) : Tied (crC c keep torn) (crashM s keep torn) := by
  refine ⟨h.tie.crash keep torn, h.due.of (cr_plan _ _ _).1 (cr_plan _ _ _).2.1 (crash_calls _ _ _).2, h.inv.crash keep torn⟩
theorem Tied.up (h : Tied c s) : Tied { c with down := false } { s with down := false } := ⟨h.tie.up, h.due.of rfl rfl rfl, ⟨h.inv.now, h.inv.ok, h.inv.op⟩⟩
theorem Tied.new_ (room : Int) : Tied (newC room) (newM room) := ⟨Tie.new_ room, ⟨List.Pairwise.nil, fun e he => (by cases he), fun n _ => rfl⟩, Inv.new_ room⟩
end
end Go.Proofs.YtpfjlhpahmhkhaaGreat.Tx
/- The tie of the two file systems, as plain data: List; Plan; every operation of the laws. (No Go in it.) -/
set_option linter.unusedVariables false
set_option linter.unusedSimpArgs false
namespace Go.Proofs.YtpfjlhpahmhkhaaGreat.Tx

theorem hit_under {dir p : List UInt8} (hp : pathB p = true) (hd : pathB dir = true) : prefB p (dir ++ [47]) = underB dir p := by
  rw [Bool.eq_iff_iff]
  unfold prefB underB
  simp only [Bool.and_eq_true, decide_eq_true_eq, beq_iff_eq, hp, hd, true_and, List.length_append, List.length_singleton]
  constructor
  · rintro ⟨h1, h2⟩
    have h3 : p[dir.length]? = some 47 := by
      have h := congrArg (fun l => l[dir.length]?) h2
      simp only [List.getElem?_take] at h
      rw [if_pos (by omega)] at h
      rw [h]
      simp
    have h4 : p.take dir.length = dir := by
      have h := congrArg (fun l => l.take dir.length) h2
      simp only [List.take_take] at h
      rw [Nat.min_eq_left (by omega)] at h
      rw [h]
      simp
    exact ⟨⟨(pathB_cut hp h3).2, h4⟩, h3⟩
  · rintro ⟨⟨h1, h2⟩, h3⟩
    refine ⟨by omega, ?_⟩
    rw [List.take_add_one, h2, h3]
    rfl
theorem list_same {R : List RowM} {t : Int} {dir : List UInt8} (h : RowsOk R t) (hd : dir = [] ∨ pathB dir = true) : listC R dir = listL R dir := by
  unfold listC listL pathsM
  rw [List.filter_map]
  congr 1
  refine List.filter_congr fun r hr => ?_
  show hitC dir r.path = listB dir r
  unfold hitC listB
  rcases hd with rfl | hd
  · rfl
  · rw [hit_under (h.row r hr).1 hd]
section
variable {c : CSt} {s : FSM} {N : Nat}
theorem Tied.lis (h : Tied c s) (hf : CFits c N) (hN : N + 2 * c.plan.length ≤ 900000) (dir : List UInt8) : lisE c dir = listE s dir ∧ lisO c dir = listO s dir := by
  have hb := h.begin hf hN
  have he := h.bgE hf hN
  have h1 : lisE c dir = listE s dir := by unfold lisE listE; rw [he]
  refine ⟨h1, ?_⟩
  unfold lisO listO
  rw [h1]
  split
  · rename_i h0
    have hd : dir = [] ∨ pathB dir = true := by
      unfold listE at h0
      split at h0
      · split at h0
        · cases h0
        · rename_i h2
          by_cases hd : dir = []
          · exact .inl hd
          · right
            cases hp : pathB dir with
            | true => rfl
            | false => exact absurd ⟨hd, hp⟩ h2
      · rename_i h2
        exact absurd h0 h2
    rw [hb.1.tie.now]
    exact list_same hb.1.inv.rows hd
  · rfl
/-- What a stable sort leaves of what is planned. -/
structure Sorts (n : Int) (l R : List EvM) : Prop where
  srt : R.Pairwise fun a b => a.at_ ≤ b.at_
  same : ∀ k, dueL k R = dueL k (planR n l)
theorem Tied.plan (h : Tied c s) {l R : List EvM} (hR : Sorts c.calls l R) : Tied { c with plan := R } (planM s l) := by
  refine ⟨h.tie.planned R (planR s.calls l), ⟨hR.srt, fun e he => ?_, fun n _ => ?_⟩, ⟨h.inv.now, h.inv.ok, h.inv.op⟩⟩
  · have h1 : e ∈ dueL e.at_ R := List.mem_filter.2 ⟨he, decide_eq_true rfl⟩
    rw [hR.same] at h1
    exact of_decide_eq_true (List.mem_filter.1 (List.mem_filter.1 h1).1).2
  · show dueL n R = dueL n (planR s.calls l)
    rw [hR.same, h.tie.calls]
/-- planC is such a one. -/
theorem sorts_merge (n : Int) (l : List EvM) : Sorts n l ((l.filter fun e => decide (n < e.at_)).mergeSort fun a b => decide (a.at_ ≤ b.at_)) := by
  have htr : ∀ a b c : EvM, decide (a.at_ ≤ b.at_) = true → decide (b.at_ ≤ c.at_) = true → decide (a.at_ ≤ c.at_) = true := fun a b c h1 h2 => by
    have := of_decide_eq_true h1; have := of_decide_eq_true h2; exact decide_eq_true (by omega)
  have hto : ∀ a b : EvM, (decide (a.at_ ≤ b.at_) || decide (b.at_ ≤ a.at_)) = true := fun a b => by
    rcases Int.le_total a.at_ b.at_ with h | h
    · simp [h]
    · simp [h]
  refine ⟨?_, fun k => ?_⟩
  · exact (List.pairwise_mergeSort htr hto _).imp fun h => of_decide_eq_true h
  · show dueL k (List.mergeSort (planR n l) _) = dueL k (planR n l)
    have hsub : (dueL k (planR n l)).Sublist (List.mergeSort (planR n l) fun a b => decide (a.at_ ≤ b.at_)) := by
      refine List.sublist_mergeSort htr hto ?_ List.filter_sublist
      refine List.pairwise_of_forall_mem_list fun a ha b hb => ?_
      have h1 := of_decide_eq_true (List.mem_filter.1 ha).2
      have h2 := of_decide_eq_true (List.mem_filter.1 hb).2
      exact decide_eq_true (by omega)
    have h1 := hsub.filter fun e => decide (e.at_ = k)
    have h2 : (dueL k (planR n l)).filter (fun e => decide (e.at_ = k)) = dueL k (planR n l) := by unfold dueL; rw [List.filter_filter]; simp
    rw [h2] at h1
    have hp := (List.mergeSort_perm (planR n l) fun a b => decide (a.at_ ≤ b.at_)).filter fun e => decide (e.at_ = k)
    exact (h1.eq_of_length hp.length_eq.symm).symm
theorem Tied.planC (h : Tied c s) (l : List EvM) : Tied (planC c l) (planM s l) := h.plan (sorts_merge c.calls l)
/-- Every operation of the laws. -/
theorem Tied.does (h : Tied c s) (hf : CFits c N) (hN : N + 2 * c.plan.length ≤ 900000) (o : LOp) : Tied (doesC c o) (doesM s o) := by
  have hs : CSmall c := hf.small (by omega)
  unfold doesC doesM
  by_cases k0 : o.kind = 0
  · rw [if_pos k0, if_pos k0]; exact (h.crt hf hN _ _ _ _).2
  rw [if_neg k0, if_neg k0]
  by_cases k1 : o.kind = 1
  · rw [if_pos k1, if_pos k1]; exact (h.crt hf hN _ _ _ _).2
  rw [if_neg k1, if_neg k1]
  by_cases k2 : o.kind = 2
  · rw [if_pos k2, if_pos k2]; exact (h.mov hf hN _ _ _).2
  rw [if_neg k2, if_neg k2]
  by_cases k3 : o.kind = 3
  · rw [if_pos k3, if_pos k3]; exact (h.mov hf hN _ _ _).2
  rw [if_neg k3, if_neg k3]
  by_cases k4 : o.kind = 4
  · rw [if_pos k4, if_pos k4]; exact (h.rem hf hN _).2
  rw [if_neg k4, if_neg k4]
  by_cases k5 : o.kind = 5
  · rw [if_pos k5, if_pos k5]; exact h.syn hf hN
  rw [if_neg k5, if_neg k5]
  by_cases k6 : o.kind = 6
  · rw [if_pos k6, if_pos k6]; exact h.begun hf hN
  rw [if_neg k6, if_neg k6]
  by_cases k7 : o.kind = 7
  · rw [if_pos k7, if_pos k7]; exact h.begun hf hN
  rw [if_neg k7, if_neg k7]
  by_cases k8 : o.kind = 8
  · rw [if_pos k8, if_pos k8]; exact (h.user hs _ _ _).2
  rw [if_neg k8, if_neg k8]
  by_cases k9 : o.kind = 9
  · rw [if_pos k9, if_pos k9]; exact (h.user' _).2
  rw [if_neg k9, if_neg k9]
  by_cases k10 : o.kind = 10
  · rw [if_pos k10, if_pos k10]; exact h.crash _ _
  rw [if_neg k10, if_neg k10]
  by_cases k11 : o.kind = 11
  · rw [if_pos k11, if_pos k11]; exact h.up
  rw [if_neg k11, if_neg k11]
  by_cases k12 : o.kind = 12
  · rw [if_pos k12, if_pos k12]; exact h.planC _
  rw [if_neg k12, if_neg k12]
  exact h
end
end Go.Proofs.YtpfjlhpahmhkhaaGreat.Tx
