/- Texts put together: WGd1, WGd2, WGd3, WGd4. -/
import Derived.Test.YtpfjlhpahmhkhaaGreatQf33
import Derived.Lib.SlBytesConst
/- The laws' operations, as plain data: what each does to either file system; how great it may grow; what counts. (No Go in it.) -/
namespace Go.Proofs.YtpfjlhpahmhkhaaGreat.Tx

structure LOp where
  kind : Int
  mode : Int
  keep : Int
  torn : Int
  path : List UInt8
  dest : List UInt8
  data : List UInt8
  plan : List EvM
def planC (c : CSt) (l : List EvM) : CSt := { c with plan := (l.filter fun e => decide (c.calls < e.at_)).mergeSort fun a b => decide (a.at_ ≤ b.at_) }
def doesC (c : CSt) (o : LOp) : CSt :=
  if o.kind = 0 then crtC c o.path o.mode o.data true
  else if o.kind = 1 then crtC c o.path o.mode o.data false
  else if o.kind = 2 then movC c o.path o.dest false
  else if o.kind = 3 then movC c o.path o.dest true
  else if o.kind = 4 then remC c o.path
  else if o.kind = 5 then synC c
  else if o.kind = 6 then (bgC c).c
  else if o.kind = 7 then (bgC c).c
  else if o.kind = 8 then uwC c o.path o.mode o.data
  else if o.kind = 9 then urC c o.path
  else if o.kind = 10 then crC c o.keep o.torn
  else if o.kind = 11 then { c with down := false }
  else if o.kind = 12 then planC c o.plan
  else c
def doesM (s : FSM) (o : LOp) : FSM :=
  if o.kind = 0 then writeM s o.path o.mode o.data true
  else if o.kind = 1 then writeM s o.path o.mode o.data false
  else if o.kind = 2 then moveM s o.path o.dest false
  else if o.kind = 3 then moveM s o.path o.dest true
  else if o.kind = 4 then removeM s o.path
  else if o.kind = 5 then syncM s
  else if o.kind = 6 then (beginM s).st
  else if o.kind = 7 then (beginM s).st
  else if o.kind = 8 then userWM s o.path o.mode o.data
  else if o.kind = 9 then userRM s o.path
  else if o.kind = 10 then crashM s o.keep o.torn
  else if o.kind = 11 then { s with down := false }
  else if o.kind = 12 then planM s o.plan
  else s
/-- An operation that is few and small. -/
structure OpOK (o : LOp) : Prop where
  path : o.path.length ≤ 400
  dest : o.dest.length ≤ 400
  data : o.data.length ≤ 140737488351232
  plan : o.plan.length ≤ 60
  paths : ∀ e ∈ o.plan, e.path.length ≤ 400

/-- Behind i operations. -/
structure GoC (c : CSt) (i : Nat) : Prop where
  fits : CFits c (130 * i)
  calls : 0 ≤ c.calls ∧ c.calls ≤ (i : Int)
  plan : c.plan.length ≤ 60
  paths : ∀ e ∈ c.plan, e.path.length ≤ 400
theorem GoC.ready {c : CSt} {i : Nat} (h : GoC c i) (hi : i ≤ 4000) : CReady c (130 * i) :=
  ⟨h.fits, by have := h.plan; omega, ⟨h.calls.1, by have := h.calls.2; omega⟩, fun e he => Nat.le_trans (h.paths e he) (by decide)⟩
theorem GoC.next {c c' : CSt} {i k : Nat} (h : GoC c i) (hf : CFits c' (130 * i + 122)) (hc : c'.calls = c.calls ∨ c'.calls = c.calls + 1) (hp : c'.plan = c.plan.drop k) : GoC c' (i + 1) := by
  have h1 := h.calls
  refine ⟨hf.more (by omega), ?_, ?_, fun e he => h.paths e (List.mem_of_mem_drop (hp ▸ he))⟩
  · rcases hc with hc | hc
    · rw [hc]; constructor <;> omega
    · rw [hc]; constructor <;> omega
  · rw [hp]
    exact Nat.le_trans (by simp) h.plan
theorem mv_plan (c : CSt) (fr tt : List UInt8) (create : Bool) : (mvC c fr tt create).plan = c.plan ∧ (mvC c fr tt create).calls = c.calls := by
  unfold mvC
  split <;> exact ⟨rfl, rfl⟩
theorem GoC.begun {c : CSt} {i : Nat} (h : GoC c i) : CFits (bgC c).c (130 * i + 120) := by
  have h1 := bgN_le c
  have h2 := h.plan
  exact (h.fits.bg (bgN c) h1).more (by omega)
theorem bg_plan (c : CSt) : (bgC c).c.plan = c.plan.drop (bgN c) ∧ (bgC c).c.calls = c.calls + 1 := ⟨(bgK_plan c (bgN c)).1, (bgK_plan c (bgN c)).2.1⟩
theorem GoC.crt {c : CSt} {i : Nat} (h : GoC c i) (p : List UInt8) (mode : Int) (data : List UInt8) (create : Bool) : GoC (crtC c p mode data create) (i + 1) := by
  obtain ⟨e1, e2⟩ := bg_plan c
  unfold crtC
  split
  · obtain ⟨e3, e4, _⟩ := wr_plan (bgC c).c p mode data (bgC c).room create
    exact h.next ((h.begun.wr p mode data _ create).more (by omega)) (.inr (e4.trans e2)) (e3.trans e1)
  · exact h.next (h.begun.more (by omega)) (.inr e2) e1
theorem GoC.mov {c : CSt} {i : Nat} (h : GoC c i) (fr tt : List UInt8) (create : Bool) : GoC (movC c fr tt create) (i + 1) := by
  obtain ⟨e1, e2⟩ := bg_plan c
  unfold movC
  split
  · obtain ⟨e3, e4⟩ := mv_plan (bgC c).c fr tt create
    exact h.next ((h.begun.mv fr tt create).more (by omega)) (.inr (e4.trans e2)) (e3.trans e1)
  · exact h.next (h.begun.more (by omega)) (.inr e2) e1
theorem GoC.rem {c : CSt} {i : Nat} (h : GoC c i) (p : List UInt8) : GoC (remC c p) (i + 1) := by
  obtain ⟨e1, e2⟩ := bg_plan c
  unfold remC
  split
  · obtain ⟨e3, e4, _⟩ := rm_plan (bgC c).c p
    exact h.next ((h.begun.rm p).more (by omega)) (.inr (e4.trans e2)) (e3.trans e1)
  · exact h.next (h.begun.more (by omega)) (.inr e2) e1
theorem GoC.syn {c : CSt} {i : Nat} (h : GoC c i) : GoC (synC c) (i + 1) := by
  obtain ⟨e1, e2⟩ := bg_plan c
  unfold synC
  split
  · exact h.next (h.begun.settle.more (by omega)) (.inr e2) e1
  · exact h.next (h.begun.more (by omega)) (.inr e2) e1
theorem GoC.bg {c : CSt} {i : Nat} (h : GoC c i) : GoC (bgC c).c (i + 1) := by
  obtain ⟨e1, e2⟩ := bg_plan c
  exact h.next (h.begun.more (by omega)) (.inr e2) e1
theorem doesC_at {P : CSt → Prop} (c : CSt) (o : LOp)
    (h0 : o.kind = 0 → P (crtC c o.path o.mode o.data true))
    (h1 : o.kind = 1 → P (crtC c o.path o.mode o.data false))
    (h2 : o.kind = 2 → P (movC c o.path o.dest false))
    (h3 : o.kind = 3 → P (movC c o.path o.dest true))
    (h4 : o.kind = 4 → P (remC c o.path))
    (h5 : o.kind = 5 → P (synC c))
    (h6 : o.kind = 6 → P ((bgC c).c))
    (h7 : o.kind = 7 → P ((bgC c).c))
    (h8 : o.kind = 8 → P (uwC c o.path o.mode o.data))
    (h9 : o.kind = 9 → P (urC c o.path))
    (h10 : o.kind = 10 → P (crC c o.keep o.torn))
    (h11 : o.kind = 11 → P ({ c with down := false }))
    (h12 : o.kind = 12 → P (planC c o.plan))
    (hx : o.kind < 0 ∨ 12 < o.kind → P c) : P (doesC c o) := by
  unfold doesC
  by_cases e0 : o.kind = 0
  · rw [if_pos e0]; exact h0 e0
  rw [if_neg e0]
  by_cases e1 : o.kind = 1
  · rw [if_pos e1]; exact h1 e1
  rw [if_neg e1]
  by_cases e2 : o.kind = 2
  · rw [if_pos e2]; exact h2 e2
  rw [if_neg e2]
  by_cases e3 : o.kind = 3
  · rw [if_pos e3]; exact h3 e3
  rw [if_neg e3]
  by_cases e4 : o.kind = 4
  · rw [if_pos e4]; exact h4 e4
  rw [if_neg e4]
  by_cases e5 : o.kind = 5
  · rw [if_pos e5]; exact h5 e5
  rw [if_neg e5]
  by_cases e6 : o.kind = 6
  · rw [if_pos e6]; exact h6 e6
  rw [if_neg e6]
  by_cases e7 : o.kind = 7
  · rw [if_pos e7]; exact h7 e7
  rw [if_neg e7]
  by_cases e8 : o.kind = 8
  · rw [if_pos e8]; exact h8 e8
  rw [if_neg e8]
  by_cases e9 : o.kind = 9
  · rw [if_pos e9]; exact h9 e9
  rw [if_neg e9]
  by_cases e10 : o.kind = 10
  · rw [if_pos e10]; exact h10 e10
  rw [if_neg e10]
  by_cases e11 : o.kind = 11
  · rw [if_pos e11]; exact h11 e11
  rw [if_neg e11]
  by_cases e12 : o.kind = 12
  · rw [if_pos e12]; exact h12 e12
  rw [if_neg e12]
  exact hx (by omega)
theorem GoC.does {c : CSt} {i : Nat} (h : GoC c i) {o : LOp} (ho : OpOK o) : GoC (doesC c o) (i + 1) := by
  refine doesC_at (P := fun c' => GoC c' (i + 1)) c o (fun e0 => ?_) (fun e1 => ?_) (fun e2 => ?_) (fun e3 => ?_) (fun e4 => ?_) (fun e5 => ?_) (fun e6 => ?_) (fun e7 => ?_) (fun e8 => ?_) (fun e9 => ?_) (fun e10 => ?_) (fun e11 => ?_) (fun e12 => ?_) (fun _ => ?_)
  · exact h.crt _ _ _ _
  · exact h.crt _ _ _ _
  · exact h.mov _ _ _
  · exact h.mov _ _ _
  · exact h.rem _
  · exact h.syn
  · exact h.bg
  · exact h.bg
  · obtain ⟨e3, e4, _⟩ := uw_plan c o.path o.mode o.data
    exact h.next (k := 0) ((h.fits.uw _ _ _).more (by omega)) (.inl e4) (e3.trans (List.drop_zero).symm)
  · obtain ⟨e3, e4, _⟩ := ur_plan c o.path
    exact h.next (k := 0) ((h.fits.ur _).more (by omega)) (.inl e4) (e3.trans (List.drop_zero).symm)
  · obtain ⟨e3, e4, _⟩ := cr_plan c o.keep o.torn
    exact h.next (k := 0) ((h.fits.cr _ _).more (by omega)) (.inl e4) (e3.trans (List.drop_zero).symm)
  · exact h.next (k := 0) (c' := { c with down := false }) ⟨Nat.le_trans h.fits.here (by omega), Nat.le_trans h.fits.both (by omega), Nat.le_trans h.fits.users (by omega), h.fits.time0, by have := h.fits.time; show c.time ≤ _; omega, h.fits.hrow, h.fits.drow, h.fits.prow⟩ (.inl rfl) (List.drop_zero).symm
  · have h1 := h.calls
    refine ⟨(h.fits.plan _).more (by omega), ⟨h1.1, by show c.calls ≤ _; omega⟩, ?_, fun e he => ?_⟩
    · show (List.mergeSort _ _).length ≤ 60
      rw [List.length_mergeSort]
      exact Nat.le_trans (List.length_filter_le _ _) ho.plan
    · have h2 : e ∈ (o.plan.filter fun e => decide (c.calls < e.at_)).mergeSort fun a b => decide (a.at_ ≤ b.at_) := he
      rw [List.mem_mergeSort] at h2
      exact ho.paths e (List.mem_filter.1 h2).1
  · exact h.next (k := 0) (h.fits.more (by omega)) (.inl rfl) (List.drop_zero).symm
theorem GoC.new_ (room : Int) : GoC (newC room) 0 := by
  refine ⟨⟨Nat.le_refl _, Nat.le_refl _, Nat.le_refl _, Int.le_refl _, Int.le_refl _, ?_, ?_, ?_⟩, ⟨Int.le_refl _, Int.le_refl _⟩, Nat.zero_le _, ?_⟩
  all_goals exact fun r hr => by cases hr

structure GoM (s : FSM) (i : Nat) : Prop where
  fits : Fits s (130 * i)
  calls : 0 ≤ s.calls ∧ s.calls ≤ (i : Int)
  plan : s.plan.length ≤ 60
  paths : ∀ e ∈ s.plan, e.path.length ≤ 400
theorem GoM.ready {s : FSM} {i : Nat} (h : GoM s i) (hi : i ≤ 4000) : Ready s (130 * i) :=
  ⟨h.fits, by have := h.plan; omega, ⟨h.calls.1, by have := h.calls.2; omega⟩, fun e he => Nat.le_trans (h.paths e he) (by decide)⟩

/-! What counts, where nothing is planned. -/
structure Tick (c c' : CSt) : Prop where
  calls : c'.calls = c.calls
  plan : c'.plan = c.plan
  time : c'.time = c.time ∧ c'.pending.length = c.pending.length ∨ c'.time = c.time + 1 ∧ c'.pending.length = c.pending.length + 1
theorem Tick.refl (c : CSt) : Tick c c := ⟨rfl, rfl, .inl ⟨rfl, rfl⟩⟩
theorem Tick.do_ (c : CSt) (q : ChM) : Tick c (doC c q) := ⟨rfl, rfl, .inr ⟨rfl, by show (c.pending ++ [q]).length = _; simp⟩⟩
structure Counts (c c' : CSt) (k : Int) : Prop where
  calls : c'.calls = c.calls + if k ≤ 7 then 1 else 0
  time : c.time ≤ c'.time ∧ c'.time ≤ c.time + 1
  four : k ≤ 4 → (c'.pending.length : Int) = c.pending.length + c'.time - c.time
  more : 4 < k → c'.pending.length ≤ c.pending.length
  still : 5 ≤ k → k ≤ 7 → c'.time = c.time
  plan : c'.plan = []
theorem Counts.user {c c' : CSt} {k : Int} (hp : c'.plan = []) (hk : 7 < k) (hc : c'.calls = c.calls) (ht : c.time ≤ c'.time ∧ c'.time ≤ c.time + 1) (hn : c'.pending.length ≤ c.pending.length) : Counts c c' k :=
  ⟨by rw [if_neg (by omega)]; omega, ht, fun _ => by omega, fun _ => hn, fun _ _ => by omega, hp⟩
end Go.Proofs.YtpfjlhpahmhkhaaGreat.Tx
/- What the laws' operations make of the document's file system: how great it may grow. (No Go in it.) -/
namespace Go.Proofs.YtpfjlhpahmhkhaaGreat.Tx

theorem doesM_at {P : FSM → Prop} (s : FSM) (o : LOp)
    (h0 : o.kind = 0 → P (writeM s o.path o.mode o.data true))
    (h1 : o.kind = 1 → P (writeM s o.path o.mode o.data false))
    (h2 : o.kind = 2 → P (moveM s o.path o.dest false))
    (h3 : o.kind = 3 → P (moveM s o.path o.dest true))
    (h4 : o.kind = 4 → P (removeM s o.path))
    (h5 : o.kind = 5 → P (syncM s))
    (h6 : o.kind = 6 → P ((beginM s).st))
    (h7 : o.kind = 7 → P ((beginM s).st))
    (h8 : o.kind = 8 → P (userWM s o.path o.mode o.data))
    (h9 : o.kind = 9 → P (userRM s o.path))
    (h10 : o.kind = 10 → P (crashM s o.keep o.torn))
    (h11 : o.kind = 11 → P ({ s with down := false }))
    (h12 : o.kind = 12 → P (planM s o.plan))
    (hx : o.kind < 0 ∨ 12 < o.kind → P s) : P (doesM s o) := by
  unfold doesM
  by_cases e0 : o.kind = 0
  · rw [if_pos e0]; exact h0 e0
  rw [if_neg e0]
  by_cases e1 : o.kind = 1
  · rw [if_pos e1]; exact h1 e1
  rw [if_neg e1]
  by_cases e2 : o.kind = 2
  · rw [if_pos e2]; exact h2 e2
  rw [if_neg e2]
  by_cases e3 : o.kind = 3
  · rw [if_pos e3]; exact h3 e3
  rw [if_neg e3]
  by_cases e4 : o.kind = 4
  · rw [if_pos e4]; exact h4 e4
  rw [if_neg e4]
  by_cases e5 : o.kind = 5
  · rw [if_pos e5]; exact h5 e5
  rw [if_neg e5]
  by_cases e6 : o.kind = 6
  · rw [if_pos e6]; exact h6 e6
  rw [if_neg e6]
  by_cases e7 : o.kind = 7
  · rw [if_pos e7]; exact h7 e7
  rw [if_neg e7]
  by_cases e8 : o.kind = 8
  · rw [if_pos e8]; exact h8 e8
  rw [if_neg e8]
  by_cases e9 : o.kind = 9
  · rw [if_pos e9]; exact h9 e9
  rw [if_neg e9]
  by_cases e10 : o.kind = 10
  · rw [if_pos e10]; exact h10 e10
  rw [if_neg e10]
  by_cases e11 : o.kind = 11
  · rw [if_pos e11]; exact h11 e11
  rw [if_neg e11]
  by_cases e12 : o.kind = 12
  · rw [if_pos e12]; exact h12 e12
  rw [if_neg e12]
  exact hx (by omega)
theorem GoM.next {s s' : FSM} {i : Nat} (h : GoM s i) (hf : Fits s' (130 * i + 122)) (hc : s'.calls = s.calls ∨ s'.calls = s.calls + 1) (hp : s'.plan = s.plan) : GoM s' (i + 1) := by
  have h1 := h.calls
  refine ⟨hf.more (by omega), ?_, by rw [hp]; exact h.plan, fun e he => h.paths e (hp ▸ he)⟩
  rcases hc with hc | hc
  · rw [hc]; constructor <;> omega
  · rw [hc]; constructor <;> omega
theorem begin_keeps (s : FSM) : (beginM s).st.plan = s.plan ∧ (beginM s).st.calls = s.calls + 1 := ⟨(beg_keeps s s.plan.length).1, (beg_keeps s s.plan.length).2.1⟩
theorem GoM.begun {s : FSM} {i : Nat} (h : GoM s i) : Fits (beginM s).st (130 * i + 120) := (h.fits.beg s.plan.length).more (by have := h.plan; omega)
theorem moveM0_keeps (s : FSM) (fr tt : List UInt8) (only : Bool) : (moveM0 s fr tt only).plan = s.plan ∧ (moveM0 s fr tt only).calls = s.calls := by
  unfold moveM0
  split <;> exact ⟨rfl, rfl⟩
theorem pathB_le {p : List UInt8} (h : pathB p = true) : p.length ≤ 1000 := path_short h
theorem Fits.move {s : FSM} {N : Nat} (h : Fits s N) (fr tt : List UInt8) (only : Bool) : Fits (moveM0 s fr tt only) (N + 1) := by
  unfold moveM0
  split
  · rename_i h1
    refine h.change (o := ⟨2, fr, tt, ⟨0, [], 0⟩⟩) ⟨?_, Nat.zero_le _⟩
    refine pathB_le ?_
    have h2 := h1.1
    unfold moveE0 at h2
    by_cases hp : pathB fr = false ∨ pathB tt = false
    · rw [if_pos hp] at h2; omega
    · cases ht : pathB tt with
      | true => rfl
      | false => exact (hp (.inr ht)).elim
  · exact h.more (by omega)
theorem GoM.wrt {s : FSM} {i : Nat} (h : GoM s i) (p : List UInt8) (mode : Int) (data : List UInt8) (only : Bool) : GoM (writeM s p mode data only) (i + 1) := by
  obtain ⟨e1, e2⟩ := begin_keeps s
  unfold writeM
  split
  · obtain ⟨e3, e4, _⟩ := put_keeps (beginM s).st p mode data only (beginM s).full (beginM s).st.room
    exact h.next ((h.begun.put p mode data only _ _).more (by omega)) (.inr (e4.trans e2)) (e3.trans e1)
  · exact h.next (h.begun.more (by omega)) (.inr e2) e1
theorem GoM.mov {s : FSM} {i : Nat} (h : GoM s i) (fr tt : List UInt8) (only : Bool) : GoM (moveM s fr tt only) (i + 1) := by
  obtain ⟨e1, e2⟩ := begin_keeps s
  unfold moveM
  split
  · obtain ⟨e3, e4⟩ := moveM0_keeps (beginM s).st fr tt only
    exact h.next ((h.begun.move fr tt only).more (by omega)) (.inr (e4.trans e2)) (e3.trans e1)
  · exact h.next (h.begun.more (by omega)) (.inr e2) e1
theorem GoM.rem {s : FSM} {i : Nat} (h : GoM s i) (p : List UInt8) : GoM (removeM s p) (i + 1) := by
  obtain ⟨e1, e2⟩ := begin_keeps s
  unfold removeM
  split
  · obtain ⟨e3, e4, _⟩ := drop_keeps (beginM s).st p
    exact h.next ((h.begun.drop p).more (by omega)) (.inr (e4.trans e2)) (e3.trans e1)
  · exact h.next (h.begun.more (by omega)) (.inr e2) e1
theorem GoM.syn {s : FSM} {i : Nat} (h : GoM s i) : GoM (syncM s) (i + 1) := by
  obtain ⟨e1, e2⟩ := begin_keeps s
  unfold syncM
  split
  · exact h.next (h.begun.safe.more (by omega)) (.inr e2) e1
  · exact h.next (h.begun.more (by omega)) (.inr e2) e1
theorem GoM.bg {s : FSM} {i : Nat} (h : GoM s i) : GoM (beginM s).st (i + 1) := by
  obtain ⟨e1, e2⟩ := begin_keeps s
  exact h.next (h.begun.more (by omega)) (.inr e2) e1
theorem GoM.does {s : FSM} {i : Nat} (h : GoM s i) {o : LOp} (ho : OpOK o) : GoM (doesM s o) (i + 1) := by
  refine doesM_at (P := fun s' => GoM s' (i + 1)) s o (fun _ => h.wrt _ _ _ _) (fun _ => h.wrt _ _ _ _) (fun _ => h.mov _ _ _) (fun _ => h.mov _ _ _) (fun _ => h.rem _) (fun _ => h.syn) (fun _ => h.bg) (fun _ => h.bg) (fun _ => ?_) (fun _ => ?_) (fun _ => ?_) (fun _ => ?_) (fun _ => ?_) (fun _ => ?_)
  · obtain ⟨e3, e4, _⟩ := userW_keeps s o.path o.mode o.data
    exact h.next ((h.fits.userW _ _ _).more (by omega)) (.inl e4) e3
  · obtain ⟨e3, e4, _⟩ := userR_keeps s o.path
    exact h.next ((h.fits.userR _).more (by omega)) (.inl e4) e3
  · obtain ⟨e3, e4, _⟩ := crash_keeps s o.keep o.torn
    exact h.next ((h.fits.crash _ _).more (by omega)) (.inl e4) e3
  · exact h.next (s' := { s with down := false }) ⟨Nat.le_trans h.fits.now (by omega), Nat.le_trans h.fits.both (by omega), Nat.le_trans h.fits.user (by omega), h.fits.time0, by have := h.fits.time; show s.time ≤ _; omega, h.fits.nrow, h.fits.srow, h.fits.prow⟩ (.inl rfl) rfl
  · have h1 := h.calls
    refine ⟨⟨Nat.le_trans h.fits.now (by omega), Nat.le_trans h.fits.both (by omega), Nat.le_trans h.fits.user (by omega), h.fits.time0, by have := h.fits.time; show s.time ≤ _; omega, h.fits.nrow, h.fits.srow, h.fits.prow⟩, ⟨h1.1, by show s.calls ≤ _; omega⟩, ?_, fun e he => ?_⟩
    · show (planR s.calls o.plan).length ≤ 60
      exact Nat.le_trans (List.length_filter_le _ _) ho.plan
    · have h2 : e ∈ planR s.calls o.plan := he
      exact ho.paths e (List.mem_filter.1 h2).1
  · exact h.next (h.fits.more (by omega)) (.inl rfl) rfl
theorem GoM.new_ (room : Int) : GoM (newM room) 0 := by
  refine ⟨⟨Nat.le_refl _, Nat.le_refl _, Nat.le_refl _, Int.le_refl _, Int.le_refl _, ?_, ?_, ?_⟩, ⟨Int.le_refl _, Int.le_refl _⟩, Nat.zero_le _, ?_⟩
  all_goals exact fun r hr => by cases hr
end Go.Proofs.YtpfjlhpahmhkhaaGreat.Tx
/- marlaw5.first. -/
namespace Go.Proofs.YtpfjlhpahmhkhaaGreat.Tx
open Go.RowKit Go.Maps Go.Proofs.YtpfjlhpahmhkhaaGreat.Sh

theorem by_new (w : World) (bs : List UInt8) (cs : Array Value) (T : TypeId) (mk : Nat × Nat) (hcs : cs.toList = bs.map bv) (m : Nat) (hm : bs.length = m) (hs : m ≤ 1000) : By (fun k => k = w.heap.size) (w.alloc (.cells cs T mk)) (.slice (some ⟨w.heap.size, 0, none⟩) m m) bs := by
  refine ⟨some ⟨w.heap.size, 0, none⟩, m, by rw [hm], by omega, by unfold maxLen; omega, by simp, (fun h => by cases h), fun _ => ⟨_, rfl, rfl, by simp, fun j u hu => ?_⟩⟩
  rw [Addr.add_mid, cell_of_row _ _ _ cs T mk (heap_alloc_new w _), Nat.zero_add, ← hu, ← hcs]
  simp
/-- A file system of one's own, made behind w. -/
def Mine (w w1 : World) (b : Nat) (c : CSt) : Prop := ∃ F M, FcAt F w1 b c M ∧ (∀ k, M k → w.heap.size ≤ k) ∧ Below w.heap.size w w1
theorem Mine.data {w w1 : World} {b : Nat} {c : CSt} (h : Mine w w1 b c) (o : Obj) : ∃ F M, FcAt F (w1.alloc o) b c M ∧ (∀ k, M k → w.heap.size ≤ k) ∧ Below w.heap.size w (w1.alloc o) ∧ ∀ k, k = w1.heap.size → ¬ M k := by
  obtain ⟨F, M, h1, h2, h3⟩ := h
  refine ⟨F, M, h1.below ((Below.refl _ w1).alloc (Nat.le_refl _) o), h2, h3.alloc h3.size o, fun k hk hm => ?_⟩
  have := h1.lt k hm
  omega
theorem Mine.of {F M : Nat → Prop} {w w1 w2 : World} {b : Nat} {c : CSt} (hM : ∀ k, M k → w.heap.size ≤ k) (hb : Below w.heap.size w w1) (h : FcPost F M w1 b c w2) : Mine w w2 b c := by
  obtain ⟨M', h1, h2, h3⟩ := h
  have hz := hb.size
  refine ⟨_, M', h1, fun k hk => ?_, (((Only.of_below (M := fun _ => False) hb).trans h2 (fun k hk => .inr (hM k hk))).below)⟩
  rcases h3 k hk with h4 | h4
  · exact hM k h4
  · omega
theorem Mine.below {w w1 w2 : World} {b : Nat} {c : CSt} (h : Mine w w1 b c) (hb : Below w1.heap.size w1 w2) : Mine w w2 b c := by
  obtain ⟨F, M, h1, h2, h3⟩ := h
  exact ⟨F, M, h1.below hb, h2, h3.trans (hb.mono h3.size)⟩
def fst1 : CSt := crtC (newC 100) [97] 1 [120] true
def fst2 : CSt := synC fst1
def fst3 : CSt := crtC fst2 [97] 1 [121, 122] false
def fst4 : CSt := crC fst3 0 1
def fst5 : CSt := { fst4 with down := false }
theorem fst_g1 : GoC fst1 1 := (GoC.new_ 100).crt _ _ _ _
theorem fst_g2 : GoC fst2 2 := fst_g1.syn
theorem fst_g3 : GoC fst3 3 := fst_g2.crt _ _ _ _
theorem fst_g4 : GoC fst4 4 := fst_g3.does (o := ⟨10, 0, 0, 1, [], [], [], []⟩) ⟨by decide, by decide, by decide, by decide, fun _ h => by cases h⟩
theorem fst_g5 : GoC fst5 5 := fst_g4.does (o := ⟨11, 0, 0, 1, [], [], [], []⟩) ⟨by decide, by decide, by decide, by decide, fun _ h => by cases h⟩

set_option maxRecDepth 100000 in
set_option maxHeartbeats 6400000 in
theorem first_any (w : World) : Calls Tryz.prog 10 #[] w (Yes w) := by
  have f1 : (peekF fst4.here [97]).data = [121] := by decide +kernel
  have f2 : peekB fst4.here [97] = true := by decide +kernel
  have f3 : crtE fst5 [97, 47, 98] 1 [] true = 9 := by decide +kernel
  have F1 := Lib.hid f1
  have F2 := Lib.hid f2
  have F3 := Lib.hid f3
  clear f1 f2 f3
  have kc := fun (w : World) (C : Array Value) (n c : Nat) => Lib.run_convert_bytes_const (P := Tryz.prog) w 32 5 C n c Tryz.underlying32 Tryz.underlying5
  go_enter Tryz.func10, Tryz.ntmps10
  go_wp2_with fail
  refine (new_any (fun _ => False) 100 w (fun _ h => h.elim)).mono ?_
  rintro e w1 ⟨hb1, ⟨h1, _⟩ | ⟨_, b, M, _, hM, rfl, hat⟩⟩
  · exact absurd h1 (by decide)
  have H1 : Hid (Mine w w1 b (newC 100)) := ⟨_, M, hat, hM, hb1⟩
  clear hb1 hM hat
  go_wp2_with fail
  obtain ⟨Fa, Ma, a1, a2, a3, a4⟩ := H1.out.data (.cells #[.int .u8 120] 5 (1, 2))
  refine (create_any Fa Ma b _ _ [97] 1 _ [120] _ _ a1 ((GoC.new_ 100).ready (by omega)) (by_new w1 [120] #[.int .u8 120] _ _ (by simp [bv, bi]) 1 rfl (by omega)) a4 (by simp)).mono ?_
  rintro e w2 ⟨rfl, hp2⟩
  have H2 : Hid (Mine w w2 b fst1) := Mine.of a2 a3 hp2
  clear hp2 a1 a2 a3 a4
  go_wp2_with fail
  obtain ⟨Fb, Mb, b1, b2, b3⟩ := H2.out
  refine (syncf_any Fb Mb b _ _ w2 b1 (fst_g1.ready (by omega))).mono ?_
  rintro e w3 ⟨rfl, hp3⟩
  have H3 : Hid (Mine w w3 b fst2) := Mine.of b2 b3 hp3
  clear hp3 b1 b2 b3
  go_wp2_with fail
  obtain ⟨Fc, Mc, c1, c2, c3, c4⟩ := H3.out.data (.cells #[.int .u8 121, .int .u8 122] 5 (2, 3))
  refine (writef_any Fc Mc b _ _ [97] 1 _ [121, 122] _ _ c1 (fst_g2.ready (by omega)) (by_new w3 [121, 122] #[.int .u8 121, .int .u8 122] _ _ (by simp [bv, bi]) 2 rfl (by omega)) c4 (by simp)).mono ?_
  rintro e w4 ⟨rfl, hp4⟩
  have H4 : Hid (Mine w w4 b fst3) := Mine.of c2 c3 hp4
  clear hp4 c1 c2 c3 c4
  go_wp2_with fail
  obtain ⟨Fd, Md, d1, d2, d3⟩ := H4.out
  refine (crash_any Fd Md b _ 0 1 w4 d1 (fst_g3.fits.small (by omega))).mono ?_
  rintro e w5 ⟨rfl, hp5⟩
  have H5 : Hid (Mine w w5 b fst4) := Mine.of d2 d3 hp5
  clear hp5 d1 d2 d3
  go_wp2_with fail
  obtain ⟨Fe, Me, e1, e2, e3⟩ := H5.out
  refine (peek_any [97] e1 (fst_g4.fits.small (by omega)) (by simp)).mono ?_
  rintro e w6 ⟨u, rfl, hfv, hb6⟩
  have HE4 := Lib.hid e1.lt
  have HE1 := Lib.hid (e1.below hb6)
  have HE2 := Lib.hid e2
  have HE3 := Lib.hid (e3.trans (hb6.mono e3.size))
  clear e1 e2 e3 hb6
  obtain ⟨vd, rfl, hown⟩ := hfv
  rw [F1.out] at hown
  have hby : By (fun k => False ∨ (w5.heap.size ≤ k ∧ k < w6.heap.size)) w6 vd [121] := OwnV.by_ hown
  obtain ⟨A, dc, rfl, _, _⟩ := hby.slice
  have HBY := Lib.hid hby
  clear hown hby
  rw [F2.out]
  obtain ⟨mo, hmo⟩ : ∃ mo, (peekF fst4.here [97]).mode = mo := ⟨_, rfl⟩
  obtain ⟨ti, hti⟩ : ∃ ti, (peekF fst4.here [97]).time = ti := ⟨_, rfl⟩
  rw [hmo, hti]
  clear hmo hti
  go_wp2_with fail
  have hba := (Below.refl w6.heap.size w6).alloc (Nat.le_refl _) (.cells #[.int .i64 mo, .slice A 1 dc, .int .i64 ti] 122)
  refine (reboot_any (HE1.out.below hba)).mono ?_
  rintro e w7 ⟨rfl, hp7⟩
  have H7 : Hid (Mine w w7 b fst5) := Mine.of HE2.out (HE3.out.trans (hba.mono HE3.out.size)) hp7
  obtain ⟨M7, _, ho7, _⟩ := hp7
  have HD7 : Hid (SlV w7 (.slice A 1 dc) ([(121 : UInt8)].map bv)) := ((HBY.out.only (Only.of_below (M := fun _ => False) hba) (fun _ _ => id)).only ho7 (fun k hk hm => by
    have := HE4.out k hm
    rcases hk with hk | hk
    · exact hk
    · omega)).slv
  have HB7 : Hid (Blk w7 w6.heap.size 122 #[.int .i64 mo, .slice A 1 dc, .int .i64 ti]) := ho7.blk (heap_alloc_new w6 _) (fun hm => by have := HE1.out.lt _ hm; omega)
  have kd : (convert 32 9 (.slice A 1 dc)).run Tryz.prog w7 = .ok (.string ⟨#[121]⟩) w7 := conv_str w7 A [121] 1 dc rfl HD7.out
  have x0 := HB7.out.cell 0
  have x1 := HB7.out.cell 1
  have x2 := HB7.out.cell 2
  clear hba ho7
  go_wp2_with fail
  obtain ⟨Fg, Mg, k1, k2, k3⟩ := H7.out
  refine (create_any Fg Mg b _ _ [97, 47, 98] 1 _ [] (fun _ => False) _ k1 (fst_g5.ready (by omega)) (By.nil_ _ _) (fun _ h => h.elim) (by simp)).mono ?_
  rintro e w8 ⟨rfl, hp8⟩
  have H8 : Hid (Mine w w8 b (crtC fst5 [97, 47, 98] 1 [] true)) := Mine.of k2 k3 hp8
  rw [F3.out]
  clear hp8 k1 k2 k3
  go_wp2_with fail
  go_ret
  obtain ⟨_, _, _, _, hb⟩ := H8.out
  exact ⟨rfl, hb⟩
end Go.Proofs.YtpfjlhpahmhkhaaGreat.Tx
/- What marlaw5.Does calls: both file systems taken apart; bounds of the document's calls; marref.Bytes. -/
namespace Go.Proofs.YtpfjlhpahmhkhaaGreat.Tx
open Go.RowKit Go.Maps Go.Proofs.YtpfjlhpahmhkhaaGreat.Sh

theorem FcPost.of_drew {F M : Nat → Prop} {w w' : World} {b : Nat} {c : CSt} (h : FcPost F M w.drew b c w') : FcPost F M w b c w' := by
  obtain ⟨M', h1, h2, h3⟩ := h
  exact ⟨M', h1, h2.of_drew, h3⟩
theorem FsPost.of_drew {F M : Nat → Prop} {w w' : World} {b : Nat} {s : FSM} (h : FsPost F M w.drew b s w') : FsPost F M w b s w' := by
  obtain ⟨M', h1, h2, h3⟩ := h
  exact ⟨M', h1, h2.of_drew, h3⟩
theorem FcAt.drew_ {F M : Nat → Prop} {w : World} {b : Nat} {c : CSt} (h : FcAt F w b c M) : FcAt F w.drew b c M := h.only (Z := fun _ => False) ((Only.refl _ _).drew) (fun _ _ => id) (fun _ _ => id)
theorem By.drew_ {F : Nat → Prop} {w : World} {v : Value} {bs : List UInt8} (h : By F w v bs) : By F w.drew v bs := By.only (M := fun _ => False) h ((Only.refl _ _).drew) (fun _ _ => id)
/-- Both taken apart, and how they are put together behind one more call. -/
theorem TwoPost.open_ {F M : Nat → Prop} {w w1 : World} {b d : Nat} {c0 c : CSt} {s0 s : FSM} (h : TwoPost F M w b c d s w1) (h0 : TwoAt F w b c0 d s0 M) :
    ∃ F1 Mf Mx, FcAt F1 w1 b c Mf ∧ RefAt F1 w1 d s Mx ∧ (∀ k, Mf k → M k ∨ w.heap.size ≤ k) ∧ (∀ k, Mx k → M k ∨ w.heap.size ≤ k) ∧ Only M w w1 ∧ (∀ {c' w2}, FcPost F1 Mf w1 b c' w2 → TwoPost F M w b c' d s w2) ∧ (∀ {s' w2}, FsPost F1 Mx w1 d s' w2 → TwoPost F M w b c d s' w2) := by
  obtain ⟨M1, ⟨Mf, Mx, h1, h2⟩, h3, h4⟩ := h
  exact ⟨_, Mf, Mx, h1.f, h1.x, fun k hk => h4 k ((h2 k).2 (.inl hk)), fun k hk => h4 k ((h2 k).2 (.inr hk)), h3, fun hp => TwoPost.trans h0 h3 h4 (TwoPost.of_f h1 hp h2), fun hp => TwoPost.trans h0 h3 h4 (TwoPost.of_x h1 hp h2)⟩
theorem dj_f {M Mf : Nat → Prop} {n m : Nat} (h1 : ∀ k, Mf k → M k ∨ m ≤ k) (h2 : ∀ k, M k → k < n) : ∀ k, (n < k ∧ k < m) → ¬ Mf k := fun k hk hm => by
  rcases h1 k hm with h | h
  · have := h2 k h; omega
  · omega
theorem dj_x {G M Mx : Nat → Prop} {n m : Nat} (h1 : ∀ k, Mx k → M k ∨ m ≤ k) (hG : ∀ k, G k → ¬ M k) (hz : n < m) : ∀ k, (G k ∧ k < n) → ¬ Mx k := fun k hk hm => by
  rcases h1 k hm with h | h
  · exact hG k hk.1 h
  · omega
section
variable {F M G : Nat → Prop} {w : World} {b N : Nat} {s : FSM}
theorem ruserw_fit (p : List UInt8) (mode : Int) (dv : Value) (data : List UInt8) (h : RefAt F w b s M) (hf : Fits s N) (hN : N ≤ 700000) (hdv : By G w dv data) (hG : ∀ k, G k → ¬ M k) (hp : p.length ≤ 1000000) :
    Calls Tryz.prog 90 #[.pointer (some ⟨b, 0, none⟩), .string (str p), .int .i64 mode, dv] w fun e w' => e = .returned (.int .i64 (userWE s p mode data)) ∧ FsPost F M w b (userWM s p mode data) w' := by
  have h1 := (hf.small (by omega))
  have h2 := (hf.put p mode data false false 1152921504606846976).now
  exact ruserw_any F M b s p mode dv data w h G hdv hG hp h1.nrow h1.used h1.time (by have := h1.now; omega) (by have := h1.pending; omega) (by omega) (by have := h1.user; omega)
theorem ruserr_fit (p : List UInt8) (h : RefAt F w b s M) (hf : Fits s N) (hN : N ≤ 700000) (hp : p.length ≤ 1000000) :
    Calls Tryz.prog 91 #[.pointer (some ⟨b, 0, none⟩), .string (str p)] w fun e w' => e = .returned (.int .i64 (userRE s p)) ∧ FsPost F M w b (userRM s p) w' := by
  have h1 := (hf.small (by omega))
  have h2 := (hf.drop p).now
  exact ruserr_any F M b s p w h hp h1.time (by have := h1.now; omega) (by have := h1.pending; omega) (by omega) (by have := h1.user; omega)
theorem rcrash_fit (keep torn : Int) (h : RefAt F w b s M) (hf : Fits s N) (hN : N ≤ 700000) :
    Calls Tryz.prog 92 #[.pointer (some ⟨b, 0, none⟩), .int .i64 keep, .int .i64 torn] w fun e w' => e = .returned (.tuple #[]) ∧ FsPost F M w b (crashM s keep torn) w' :=
  rcrash_any F M b s keep torn w h (by have := hf.both; omega) (fun o ho => by have := (hf.prow o ho).2; omega)
end
set_option maxRecDepth 100000 in
set_option maxHeartbeats 400000 in
/-- marref.Bytes -/
theorem tbytes_any (A A2 : Option Addr) (n n2 c c2 : Nat) (bs cs : List UInt8) (w : World) (hn : bs.length = n) (hn2 : cs.length = n2) (h1 : SlV w (.slice A n c) (bs.map bv)) (h2 : SlV w (.slice A2 n2 c2) (cs.map bv)) (t : Bool) (ht : (bs == cs) = t) :
    Calls Tryz.prog 29 #[.slice A n c, .slice A2 n2 c2] w fun e w' => e = .returned (.bool t) ∧ w = w' := by
  have k1 := conv_str w A bs n c hn h1
  have k2 := conv_str w A2 cs n2 c2 hn2 h2
  have HT := Lib.hid ht
  clear ht h1 h2 hn hn2
  go_enter Tryz.func29, Tryz.ntmps29
  go_wp2_with fail
  go_ret
  refine ⟨?_, rfl⟩
  show Ending.returned (.bool ((str bs).toList == (str cs).toList)) = _
  rw [str_toList, str_toList, HT.out]
end Go.Proofs.YtpfjlhpahmhkhaaGreat.Tx
