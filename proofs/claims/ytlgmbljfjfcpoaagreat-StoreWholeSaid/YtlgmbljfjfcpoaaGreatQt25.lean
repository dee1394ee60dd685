/- Texts put together: YGs19, YFx22, YGd0, YGd1. -/
import Derived.Test.YtlgmbljfjfcpoaaGreatQt24
import Derived.Test.YtlgmbljfjfcpoaaGreatQt18
/- Package fsim: List. -/
namespace Go.Proofs.YtlgmbljfjfcpoaaGreat.Tx
open Go.RowKit Go.Maps Go.Proofs.YtlgmbljfjfcpoaaGreat.Sh

def lisE (c : CSt) (dir : List UInt8) : Int := if bgE c = 0 then (if dir ≠ [] ∧ pathB dir = false then 6 else 0) else bgE c
def lisO (c : CSt) (dir : List UInt8) : List (List UInt8) := if lisE c dir = 0 then listC (bgC c).c.here dir else []
def LisPost (F M : Nat → Prop) (w : World) (b : Nat) (s : CSt) (n : Int) (l : List (List UInt8)) (e : Ending) (w' : World) : Prop :=
  ∃ v w1, e = .returned (.tuple #[v, .int .i64 n]) ∧ FcPost F M w b s w1 ∧ Below w1.heap.size w1 w' ∧ OwnV 9 w' w1.heap.size v ((l.map str).map sv)
set_option maxRecDepth 100000 in
set_option maxHeartbeats 3200000 in
theorem list_any (F M : Nat → Prop) (b : Nat) (c : CSt) (N : Nat) (dir : List UInt8) (w : World) (h : FcAt F w b c M) (hr : CReady c N) (hd : dir.length ≤ 900000) :
    Calls Tryz.prog 51 #[.pointer (some ⟨b, 0, none⟩), .string (str dir)] w (LisPost F M w b (bgC c).c (lisE c dir) (lisO c dir)) := by
  have H := Lib.hid h
  have HR := Lib.hid hr
  obtain ⟨be, hbe⟩ : ∃ be, bgE c = be := ⟨_, rfl⟩
  have HBE := Lib.hid hbe
  obtain ⟨rm, hrm⟩ : ∃ rm, (bgC c).room = rm := ⟨_, rfl⟩
  have HRM := Lib.hid hrm
  obtain ⟨s, hs⟩ : ∃ s, (bgC c).c = s := ⟨_, rfl⟩
  have HSS := Lib.hid hs
  have HSM := Lib.hid hr.small
  obtain ⟨tp, htp⟩ : ∃ t, pathB dir = t := ⟨_, rfl⟩
  have HTP := Lib.hid htp
  clear h hr hbe hrm hs htp
  rw [HSS.out]
  go_enter Tryz.func51, Tryz.ntmps51
  go_wp2_with fail
  refine (begin_any F M b c N _ H.out HR.out.fits HR.out.big HR.out.calls HR.out.paths).mono ?_
  rintro e w1 ⟨rfl, hpost⟩
  rw [HBE.out, HRM.out]
  rw [HSS.out] at hpost HSM
  have HP1 := Lib.hid hpost
  obtain ⟨M1, hat, hon, hsub⟩ := hpost
  have HAT := Lib.hid hat
  clear hat hon hsub
  have HLP : Hid (∀ w', Below w1.heap.size w1 w' → FcAt (grow F w w1 M1) w' b s M1) := fun w' hb => HAT.out.below hb
  have HTREE : Hid (∀ w', Below w1.heap.size w1 w' → ∃ t, w'.cell? ⟨b, 6, none⟩ = some (.pointer (some ⟨t, 0, none⟩)) ∧ Calls Tryz.prog 38 #[.pointer (some ⟨t, 0, none⟩), .string (str dir)] w' (TextsPost w' ((listC s.here dir).map str))) := fun w' hb => by
    obtain ⟨x, hX, _⟩ := HAT.out.below hb
    exact ⟨x.here, hX.blk.cell 6, tpaths_any _ x.here x.hf x.hu s.here dir w' hX.here (by have := HSM.out.here; omega) hd⟩
  by_cases hb0 : be = 0
  · subst hb0
    by_cases hde : dir = []
    · have HE : Hid (lisE c dir = 0 ∧ lisO c dir = listC s.here dir) := by
        have h1 : lisE c dir = 0 := by unfold lisE; rw [if_pos HBE.out, if_neg (fun h => h.1 hde)]
        exact ⟨h1, by unfold lisO; rw [h1, if_pos rfl, HSS.out]⟩
      obtain ⟨z2, z3⟩ := str_nil hde
      obtain ⟨t, c6, hpaths⟩ := HTREE.out w1 (Below.refl _ _)
      have HPA := Lib.hid hpaths
      clear hde hpaths
      go_wp2_with fail
      refine HPA.out.mono ?_
      rintro e w2 ⟨v, rfl, ho, hb⟩
      have HO := Lib.hid ho
      have HB := Lib.hid hb
      clear ho hb
      go_wp2_with fail
      go_ret2
      refine ⟨v, w1, by rw [HE.out.1]; rfl, HP1.out, HB.out, by rw [HE.out.2]; exact HO.out⟩
    · have HDE := Lib.hid hde
      obtain ⟨z2, z3⟩ := str_some hde
      clear hde
      go_wp2_with fail
      refine (npath_any dir _ (by omega)).mono ?_
      rintro e w2 ⟨rfl, hb2⟩
      rw [HTP.out]
      have HB2 := Lib.hid hb2
      clear hb2
      cases tp with
      | false =>
        have HE : Hid (lisE c dir = 6 ∧ lisO c dir = []) := by
          have h1 : lisE c dir = 6 := by unfold lisE; rw [if_pos HBE.out, if_pos ⟨HDE.out, HTP.out⟩]
          exact ⟨h1, by unfold lisO; rw [h1, if_neg (by decide)]⟩
        go_wp2_with fail
        go_ret2
        refine ⟨_, w1, by rw [HE.out.1]; rfl, HP1.out, HB2.out, by rw [HE.out.2]; exact OwnV.nil_ _ _⟩
      | true =>
        have HE : Hid (lisE c dir = 0 ∧ lisO c dir = listC s.here dir) := by
          have h1 : lisE c dir = 0 := by unfold lisE; rw [if_pos HBE.out, if_neg (fun h => by rw [HTP.out] at h; exact absurd h.2 (by decide))]
          exact ⟨h1, by unfold lisO; rw [h1, if_pos rfl, HSS.out]⟩
        obtain ⟨t, c6, hpaths⟩ := HTREE.out w2 HB2.out
        have HPA := Lib.hid hpaths
        clear hpaths
        go_wp2_with fail
        refine HPA.out.mono ?_
        rintro e w3 ⟨v, rfl, ho, hb⟩
        have HO := Lib.hid ho
        have HB := Lib.hid hb
        clear ho hb
        go_wp2_with fail
        go_ret2
        refine ⟨v, w1, by rw [HE.out.1]; rfl, HP1.out, HB2.out.trans (HB.out.mono HB2.out.size), by rw [HE.out.2]; exact HO.out.base HB2.out.size⟩
  · have e1 : (be == 0) = false := by rw [beq_eq_false_iff_ne]; exact hb0
    have HE : Hid (lisE c dir = be ∧ lisO c dir = []) := by
      have h1 : lisE c dir = be := by unfold lisE; rw [HBE.out, if_neg hb0]
      exact ⟨h1, by unfold lisO; rw [h1, if_neg hb0]⟩
    clear hb0
    go_wp2_with fail
    go_ret2
    refine ⟨_, w1, by rw [HE.out.1]; rfl, HP1.out, Below.refl _ _, by rw [HE.out.2]; exact OwnV.nil_ _ _⟩
end Go.Proofs.YtlgmbljfjfcpoaaGreat.Tx
/- The reference's file system: Plan. -/
namespace Go.Proofs.YtlgmbljfjfcpoaaGreat.Tx
open Go.RowKit Go.Proofs.YtlgmbljfjfcpoaaGreat.Sh

def planR (c : Int) (l : List EvM) : List EvM := l.filter fun e => decide (c < e.at_)
def planM (st : FSM) (l : List EvM) : FSM := { st with plan := planR st.calls l }
end Go.Proofs.YtlgmbljfjfcpoaaGreat.Tx
/- A file system of the program's beside one of the document's. -/
namespace Go.Proofs.YtlgmbljfjfcpoaaGreat.Tx
open Go.RowKit Go.Maps Go.Proofs.YtlgmbljfjfcpoaaGreat.Sh

theorem FcAt.apart_ {F M : Nat → Prop} {w : World} {b : Nat} {c : CSt} (h : FcAt F w b c M) (k : Nat) (hk : F k) : ¬ M k := by
  obtain ⟨x, h1, h2⟩ := h
  exact fun hm => h1.self k hk ((h2 k).1 hm)
section
variable {F F' M Mf Mx Z : Nat → Prop} {w w1 w2 w3 w' : World} {b d : Nat} {c c' : CSt} {st st' : FSM}
end
end Go.Proofs.YtlgmbljfjfcpoaaGreat.Tx
/- The laws' operations, as plain data: what each does to either file system; how great it may grow; what counts. (No Go in it.) -/
namespace Go.Proofs.YtlgmbljfjfcpoaaGreat.Tx

structure LOp where
  kind : Int
  mode : Int
  keep : Int
  torn : Int
  path : List UInt8
  dest : List UInt8
  data : List UInt8
  plan : List EvM
def planC (c : CSt) (l : List EvM) : CSt := { c with plan := (l.filter fun e => decide (c.calls < e.at_)).mergeSort fun a b => decide (a.at_ ≤ b.at_) }
def doesC (c : CSt) (o : LOp) : CSt :=
  if o.kind = 0 then crtC c o.path o.mode o.data true
  else if o.kind = 1 then crtC c o.path o.mode o.data false
  else if o.kind = 2 then movC c o.path o.dest false
  else if o.kind = 3 then movC c o.path o.dest true
  else if o.kind = 4 then remC c o.path
  else if o.kind = 5 then synC c
  else if o.kind = 6 then (bgC c).c
  else if o.kind = 7 then (bgC c).c
  else if o.kind = 8 then uwC c o.path o.mode o.data
  else if o.kind = 9 then urC c o.path
  else if o.kind = 10 then crC c o.keep o.torn
  else if o.kind = 11 then { c with down := false }
  else if o.kind = 12 then planC c o.plan
  else c
def doesM (s : FSM) (o : LOp) : FSM :=
  if o.kind = 0 then writeM s o.path o.mode o.data true
  else if o.kind = 1 then writeM s o.path o.mode o.data false
  else if o.kind = 2 then moveM s o.path o.dest false
  else if o.kind = 3 then moveM s o.path o.dest true
  else if o.kind = 4 then removeM s o.path
  else if o.kind = 5 then syncM s
  else if o.kind = 6 then (beginM s).st
  else if o.kind = 7 then (beginM s).st
  else if o.kind = 8 then userWM s o.path o.mode o.data
  else if o.kind = 9 then userRM s o.path
  else if o.kind = 10 then crashM s o.keep o.torn
  else if o.kind = 11 then { s with down := false }
  else if o.kind = 12 then planM s o.plan
  else s
/-- An operation that is few and small. -/
structure OpOK (o : LOp) : Prop where
  path : o.path.length ≤ 400
  dest : o.dest.length ≤ 400
  data : o.data.length ≤ 140737488351232
  plan : o.plan.length ≤ 60
  paths : ∀ e ∈ o.plan, e.path.length ≤ 400

/-- Behind i operations. -/
structure GoC (c : CSt) (i : Nat) : Prop where
  fits : CFits c (130 * i)
  calls : 0 ≤ c.calls ∧ c.calls ≤ (i : Int)
  plan : c.plan.length ≤ 60
  paths : ∀ e ∈ c.plan, e.path.length ≤ 400
theorem GoC.ready {c : CSt} {i : Nat} (h : GoC c i) (hi : i ≤ 4000) : CReady c (130 * i) :=
  ⟨h.fits, by have := h.plan; omega, ⟨h.calls.1, by have := h.calls.2; omega⟩, fun e he => Nat.le_trans (h.paths e he) (by decide)⟩
theorem GoC.next {c c' : CSt} {i k : Nat} (h : GoC c i) (hf : CFits c' (130 * i + 122)) (hc : c'.calls = c.calls ∨ c'.calls = c.calls + 1) (hp : c'.plan = c.plan.drop k) : GoC c' (i + 1) := by
  have h1 := h.calls
  refine ⟨hf.more (by omega), ?_, ?_, fun e he => h.paths e (List.mem_of_mem_drop (hp ▸ he))⟩
  · rcases hc with hc | hc
    · rw [hc]; constructor <;> omega
    · rw [hc]; constructor <;> omega
  · rw [hp]
    exact Nat.le_trans (by simp) h.plan
theorem mv_plan (c : CSt) (fr tt : List UInt8) (create : Bool) : (mvC c fr tt create).plan = c.plan ∧ (mvC c fr tt create).calls = c.calls := by
  unfold mvC
  split <;> exact ⟨rfl, rfl⟩
theorem GoC.begun {c : CSt} {i : Nat} (h : GoC c i) : CFits (bgC c).c (130 * i + 120) := by
  have h1 := bgN_le c
  have h2 := h.plan
  exact (h.fits.bg (bgN c) h1).more (by omega)
theorem bg_plan (c : CSt) : (bgC c).c.plan = c.plan.drop (bgN c) ∧ (bgC c).c.calls = c.calls + 1 := ⟨(bgK_plan c (bgN c)).1, (bgK_plan c (bgN c)).2.1⟩
theorem GoC.crt {c : CSt} {i : Nat} (h : GoC c i) (p : List UInt8) (mode : Int) (data : List UInt8) (create : Bool) : GoC (crtC c p mode data create) (i + 1) := by
  obtain ⟨e1, e2⟩ := bg_plan c
  unfold crtC
  split
  · obtain ⟨e3, e4, _⟩ := wr_plan (bgC c).c p mode data (bgC c).room create
    exact h.next ((h.begun.wr p mode data _ create).more (by omega)) (.inr (e4.trans e2)) (e3.trans e1)
  · exact h.next (h.begun.more (by omega)) (.inr e2) e1
theorem GoC.mov {c : CSt} {i : Nat} (h : GoC c i) (fr tt : List UInt8) (create : Bool) : GoC (movC c fr tt create) (i + 1) := by
  obtain ⟨e1, e2⟩ := bg_plan c
  unfold movC
  split
  · obtain ⟨e3, e4⟩ := mv_plan (bgC c).c fr tt create
    exact h.next ((h.begun.mv fr tt create).more (by omega)) (.inr (e4.trans e2)) (e3.trans e1)
  · exact h.next (h.begun.more (by omega)) (.inr e2) e1
theorem GoC.rem {c : CSt} {i : Nat} (h : GoC c i) (p : List UInt8) : GoC (remC c p) (i + 1) := by
  obtain ⟨e1, e2⟩ := bg_plan c
  unfold remC
  split
  · obtain ⟨e3, e4, _⟩ := rm_plan (bgC c).c p
    exact h.next ((h.begun.rm p).more (by omega)) (.inr (e4.trans e2)) (e3.trans e1)
  · exact h.next (h.begun.more (by omega)) (.inr e2) e1
theorem GoC.syn {c : CSt} {i : Nat} (h : GoC c i) : GoC (synC c) (i + 1) := by
  obtain ⟨e1, e2⟩ := bg_plan c
  unfold synC
  split
  · exact h.next (h.begun.settle.more (by omega)) (.inr e2) e1
  · exact h.next (h.begun.more (by omega)) (.inr e2) e1
theorem GoC.bg {c : CSt} {i : Nat} (h : GoC c i) : GoC (bgC c).c (i + 1) := by
  obtain ⟨e1, e2⟩ := bg_plan c
  exact h.next (h.begun.more (by omega)) (.inr e2) e1
theorem doesC_at {P : CSt → Prop} (c : CSt) (o : LOp)
    (h0 : o.kind = 0 → P (crtC c o.path o.mode o.data true))
    (h1 : o.kind = 1 → P (crtC c o.path o.mode o.data false))
    (h2 : o.kind = 2 → P (movC c o.path o.dest false))
    (h3 : o.kind = 3 → P (movC c o.path o.dest true))
    (h4 : o.kind = 4 → P (remC c o.path))
    (h5 : o.kind = 5 → P (synC c))
    (h6 : o.kind = 6 → P ((bgC c).c))
    (h7 : o.kind = 7 → P ((bgC c).c))
    (h8 : o.kind = 8 → P (uwC c o.path o.mode o.data))
    (h9 : o.kind = 9 → P (urC c o.path))
    (h10 : o.kind = 10 → P (crC c o.keep o.torn))
    (h11 : o.kind = 11 → P ({ c with down := false }))
    (h12 : o.kind = 12 → P (planC c o.plan))
    (hx : o.kind < 0 ∨ 12 < o.kind → P c) : P (doesC c o) := by
  unfold doesC
  by_cases e0 : o.kind = 0
  · rw [if_pos e0]; exact h0 e0
  rw [if_neg e0]
  by_cases e1 : o.kind = 1
  · rw [if_pos e1]; exact h1 e1
  rw [if_neg e1]
  by_cases e2 : o.kind = 2
  · rw [if_pos e2]; exact h2 e2
  rw [if_neg e2]
  by_cases e3 : o.kind = 3
  · rw [if_pos e3]; exact h3 e3
  rw [if_neg e3]
  by_cases e4 : o.kind = 4
  · rw [if_pos e4]; exact h4 e4
  rw [if_neg e4]
  by_cases e5 : o.kind = 5
  · rw [if_pos e5]; exact h5 e5
  rw [if_neg e5]
  by_cases e6 : o.kind = 6
  · rw [if_pos e6]; exact h6 e6
  rw [if_neg e6]
  by_cases e7 : o.kind = 7
  · rw [if_pos e7]; exact h7 e7
  rw [if_neg e7]
  by_cases e8 : o.kind = 8
  · rw [if_pos e8]; exact h8 e8
  rw [if_neg e8]
  by_cases e9 : o.kind = 9
  · rw [if_pos e9]; exact h9 e9
  rw [if_neg e9]
  by_cases e10 : o.kind = 10
  · rw [if_pos e10]; exact h10 e10
  rw [if_neg e10]
  by_cases e11 : o.kind = 11
  · rw [if_pos e11]; exact h11 e11
  rw [if_neg e11]
  by_cases e12 : o.kind = 12
  · rw [if_pos e12]; exact h12 e12
  rw [if_neg e12]
  exact hx (by omega)
theorem GoC.does {c : CSt} {i : Nat} (h : GoC c i) {o : LOp} (ho : OpOK o) : GoC (doesC c o) (i + 1) := by
  refine doesC_at (P := fun c' => GoC c' (i + 1)) c o (fun e0 => ?_) (fun e1 => ?_) (fun e2 => ?_) (fun e3 => ?_) (fun e4 => ?_) (fun e5 => ?_) (fun e6 => ?_) (fun e7 => ?_) (fun e8 => ?_) (fun e9 => ?_) (fun e10 => ?_) (fun e11 => ?_) (fun e12 => ?_) (fun _ => ?_)
  · exact h.crt _ _ _ _
  · exact h.crt _ _ _ _
  · exact h.mov _ _ _
  · exact h.mov _ _ _
  · exact h.rem _
  · exact h.syn
  · exact h.bg
  · exact h.bg
  · obtain ⟨e3, e4, _⟩ := uw_plan c o.path o.mode o.data
    exact h.next (k := 0) ((h.fits.uw _ _ _).more (by omega)) (.inl e4) (e3.trans (List.drop_zero).symm)
  · obtain ⟨e3, e4, _⟩ := ur_plan c o.path
    exact h.next (k := 0) ((h.fits.ur _).more (by omega)) (.inl e4) (e3.trans (List.drop_zero).symm)
  · obtain ⟨e3, e4, _⟩ := cr_plan c o.keep o.torn
    exact h.next (k := 0) ((h.fits.cr _ _).more (by omega)) (.inl e4) (e3.trans (List.drop_zero).symm)
  · exact h.next (k := 0) (c' := { c with down := false }) ⟨Nat.le_trans h.fits.here (by omega), Nat.le_trans h.fits.both (by omega), Nat.le_trans h.fits.users (by omega), h.fits.time0, by have := h.fits.time; show c.time ≤ _; omega, h.fits.hrow, h.fits.drow, h.fits.prow⟩ (.inl rfl) (List.drop_zero).symm
  · have h1 := h.calls
    refine ⟨(h.fits.plan _).more (by omega), ⟨h1.1, by show c.calls ≤ _; omega⟩, ?_, fun e he => ?_⟩
    · show (List.mergeSort _ _).length ≤ 60
      rw [List.length_mergeSort]
      exact Nat.le_trans (List.length_filter_le _ _) ho.plan
    · have h2 : e ∈ (o.plan.filter fun e => decide (c.calls < e.at_)).mergeSort fun a b => decide (a.at_ ≤ b.at_) := he
      rw [List.mem_mergeSort] at h2
      exact ho.paths e (List.mem_filter.1 h2).1
  · exact h.next (k := 0) (h.fits.more (by omega)) (.inl rfl) (List.drop_zero).symm
theorem GoC.new_ (room : Int) : GoC (newC room) 0 := by
  refine ⟨⟨Nat.le_refl _, Nat.le_refl _, Nat.le_refl _, Int.le_refl _, Int.le_refl _, ?_, ?_, ?_⟩, ⟨Int.le_refl _, Int.le_refl _⟩, Nat.zero_le _, ?_⟩
  all_goals exact fun r hr => by cases hr

structure GoM (s : FSM) (i : Nat) : Prop where
  fits : Fits s (130 * i)
  calls : 0 ≤ s.calls ∧ s.calls ≤ (i : Int)
  plan : s.plan.length ≤ 60
  paths : ∀ e ∈ s.plan, e.path.length ≤ 400
theorem GoM.ready {s : FSM} {i : Nat} (h : GoM s i) (hi : i ≤ 4000) : Ready s (130 * i) :=
  ⟨h.fits, by have := h.plan; omega, ⟨h.calls.1, by have := h.calls.2; omega⟩, fun e he => Nat.le_trans (h.paths e he) (by decide)⟩

/-! What counts, where nothing is planned. -/
theorem bg_none {c : CSt} (h : c.plan = []) : bgC c = bg0 c := by
  have h1 : bgN c = 0 := by unfold bgN; rw [h]; rfl
  unfold bgC
  rw [h1]
  exact bgK_zero c
structure Tick (c c' : CSt) : Prop where
  calls : c'.calls = c.calls
  plan : c'.plan = c.plan
  time : c'.time = c.time ∧ c'.pending.length = c.pending.length ∨ c'.time = c.time + 1 ∧ c'.pending.length = c.pending.length + 1
theorem Tick.refl (c : CSt) : Tick c c := ⟨rfl, rfl, .inl ⟨rfl, rfl⟩⟩
theorem Tick.do_ (c : CSt) (q : ChM) : Tick c (doC c q) := ⟨rfl, rfl, .inr ⟨rfl, by show (c.pending ++ [q]).length = _; simp⟩⟩
structure Counts (c c' : CSt) (k : Int) : Prop where
  calls : c'.calls = c.calls + if k ≤ 7 then 1 else 0
  time : c.time ≤ c'.time ∧ c'.time ≤ c.time + 1
  four : k ≤ 4 → (c'.pending.length : Int) = c.pending.length + c'.time - c.time
  more : 4 < k → c'.pending.length ≤ c.pending.length
  still : 5 ≤ k → k ≤ 7 → c'.time = c.time
  plan : c'.plan = []
theorem Counts.tick {c c' : CSt} {k : Int} (hp : c.plan = []) (hk : k ≤ 4) (h : Tick (bg0 c).c c') : Counts c c' k := by
  have h1 : c'.calls = c.calls + 1 := h.calls
  have h2 : c'.time = c.time ∧ c'.pending.length = c.pending.length ∨ c'.time = c.time + 1 ∧ c'.pending.length = c.pending.length + 1 := h.time
  refine ⟨by rw [if_pos (by omega)]; exact h1, by omega, fun _ => by omega, fun _ => by omega, fun _ _ => by omega, h.plan.trans hp⟩
theorem Counts.user {c c' : CSt} {k : Int} (hp : c'.plan = []) (hk : 7 < k) (hc : c'.calls = c.calls) (ht : c.time ≤ c'.time ∧ c'.time ≤ c.time + 1) (hn : c'.pending.length ≤ c.pending.length) : Counts c c' k :=
  ⟨by rw [if_neg (by omega)]; omega, ht, fun _ => by omega, fun _ => hn, fun _ _ => by omega, hp⟩
end Go.Proofs.YtlgmbljfjfcpoaaGreat.Tx
