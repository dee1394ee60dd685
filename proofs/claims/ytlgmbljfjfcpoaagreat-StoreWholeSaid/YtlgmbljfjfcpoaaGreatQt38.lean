/- Texts put together: YRf0, YCv0, YRf4, YRf5, YGd2, YGd3, YGd4, YGe0, YGe1, YGe2, YGe3, YRf6. -/
import Derived.Test.YtlgmbljfjfcpoaaGreatQt33
import Derived.Test.YtlgmbljfjfcpoaaGreatQt11
import Derived.Test.YtlgmbljfjfcpoaaGreatQt37
import Derived.Test.YtlgmbljfjfcpoaaGreatQt35
import Derived.Test.YtlgmbljfjfcpoaaGreatQt07
import Derived.Lib.ConvBytes
import Derived.Laws.AppendOwn
import Derived.Test.YtlgmbljfjfcpoaaGreatQt25
import Derived.Lib.SlBytesConst
import Derived.IntWalk
/- Package refs: places, what lies there. -/
set_option linter.unusedVariables false
set_option linter.unusedSimpArgs false
namespace Go.Proofs.YtlgmbljfjfcpoaaGreat.Tx
open Go.RowKit Go.Maps Go.Proofs.YtlgmbljfjfcpoaaGreat.Sh

theorem red_short {c : CSt} {N : Nat} (h : CReady c N) (p : List UInt8) : (redF c p).data.length ≤ 20000 := by
  unfold redF
  split
  · exact peek_short h.small.hrow p
  · decide
end Go.Proofs.YtlgmbljfjfcpoaaGreat.Tx
/- A text made bytes ('[]byte(s)'). (No package's code in it.) -/
set_option linter.unusedVariables false
set_option linter.unusedSimpArgs false
namespace Go.Proofs.YtlgmbljfjfcpoaaGreat.Tx
open Go.RowKit Go.Proofs.YtlgmbljfjfcpoaaGreat.Sh

end Go.Proofs.YtlgmbljfjfcpoaaGreat.Tx
/- Package refs: Set, Delete. -/
set_option linter.unusedVariables false
set_option linter.unusedSimpArgs false
namespace Go.Proofs.YtlgmbljfjfcpoaaGreat.Tx
open Go.RowKit Go.Maps Go.Proofs.YtlgmbljfjfcpoaaGreat.Sh

/-- What the calls of a Set need. -/
theorem CReady.go {c : CSt} {i : Nat} (h : GoC c i) (hi : i ≤ 4000) : CReady c (130 * i) := h.ready hi
end Go.Proofs.YtlgmbljfjfcpoaaGreat.Tx
/- Package refs: Delete, List, Unlock. -/
set_option linter.unusedVariables false
set_option linter.unusedSimpArgs false
namespace Go.Proofs.YtlgmbljfjfcpoaaGreat.Tx
open Go.RowKit Go.Maps Go.Proofs.YtlgmbljfjfcpoaaGreat.Sh

/-- strings.TrimPrefix of a directory and its sign. -/
theorem trim_any (dir p : List UInt8) (w : World) : Calls Tryz.prog 52 #[.string (Tx.str p), .string (Tx.str (dir ++ [47]))] w fun e w' => e = .returned (.string (Tx.str (lastN dir p))) ∧ w = w' := by
  refine (Tryz.strings_TrimPrefix (str p) (str (dir ++ [47])) w).mono ?_
  rintro e w' ⟨rfl, rfl⟩
  refine ⟨?_, rfl⟩
  have e1 : ∀ x : List UInt8, (str x).data.toList = x := fun x => by unfold str; simp
  rw [e1, e1]
  unfold lastN Lib.trimPrefix Lib.hasPrefix str
  rw [List.length_append]
  rfl
theorem lis_short {c : CSt} {N : Nat} (h : CReady c N) (dir : List UInt8) : (lisO c dir).length ≤ 900000 ∧ ∀ p ∈ lisO c dir, p.length ≤ 1000 := by
  have hs := h.small
  unfold lisO
  split
  · unfold listC
    refine ⟨?_, fun p hp => ?_⟩
    · refine Nat.le_trans (List.length_filter_le _ _) ?_
      unfold pathsM
      rw [List.length_map]
      exact hs.here
    · have hp := (List.mem_filter.1 hp).1
      unfold pathsM at hp
      obtain ⟨r, hr, rfl⟩ := List.mem_map.1 hp
      exact (hs.hrow r hr).1
  · exact ⟨by decide, fun p hp => by cases hp⟩
theorem last_le (dir p : List UInt8) : (lastN dir p).length ≤ p.length := by
  unfold lastN
  split
  · rw [List.length_drop]; omega
  · exact Nat.le_refl _
/-- "s/r", "s/l". -/
def refD : List UInt8 := [115, 47, 114]
def lockD : List UInt8 := [115, 47, 108]
def ulkE (c : CSt) : Int := if lisE c lockD = 0 then unlE (bgC c).c (rlsV c lockD) else lisE c lockD
def ulkC (c : CSt) : CSt := if lisE c lockD = 0 then unlC (bgC c).c (rlsV c lockD) else (bgC c).c
def ulkN (c : CSt) : Int := if ulkE c = 0 then ((rlsV c lockD).length : Int) else 0
theorem FcAt.grown {F M M1 M2 : Nat → Prop} {w w1 w2 : World} {b : Nat} {c2 : CSt} (h01 : Only M w w1) (hM : ∀ k, M1 k → M k ∨ w.heap.size ≤ k) (h : FcAt (grow (grow F w w1 M1) w1 w2 M2) w2 b c2 M2) (h3 : Only M1 w1 w2) (h4 : ∀ k, M2 k → M1 k ∨ w1.heap.size ≤ k) : FcAt (grow F w w2 M2) w2 b c2 M2 := by
  obtain ⟨x, h1, h2⟩ := h
  refine ⟨x, h1.mono (F' := grow F w w2 M2) (fun k hk => grow_grow h3.size h01.size h4 hk) (fun k hk hm => ?_) (fun k hk => ?_), h2⟩
  · rcases hk with hk | ⟨_, _, g3⟩
    · exact h1.self k (.inl (.inl hk)) hm
    · exact g3 ((h2 k).2 hm)
  · rcases hk with hk | ⟨_, g2, _⟩
    · exact h1.low k (.inl (.inl hk))
    · exact g2
/-- While locks go: what was read stays. -/
def UInv (F M M1 : Nat → Prop) (w w2 : World) (b : Nat) (c : CSt) (wr : World) : Prop :=
  ∃ Mk, FcAt (grow F w wr Mk) wr b c Mk ∧ Only M w wr ∧ (∀ q, Mk q → M q ∨ w.heap.size ≤ q) ∧ Only M1 w2 wr ∧ ∀ q, Mk q → M1 q ∨ w2.heap.size ≤ q
theorem UInv.start {F M M1 : Nat → Prop} {w w1 w2 : World} {b : Nat} {c : CSt} (h : FcAt (grow F w w1 M1) w1 b c M1) (ho : Only M w w1) (hs : ∀ q, M1 q → M q ∨ w.heap.size ≤ q) (hb : Below w1.heap.size w1 w2) : UInv F M M1 w w2 b c w2 := by
  have hz := hb.size
  obtain ⟨x, h1, h2⟩ := h.below hb
  refine ⟨M1, ⟨x, h1.mono (F' := grow F w w2 M1) (fun k hk => ?_) (fun k hk hm => ?_) (fun k hk => ?_), h2⟩, ho.trans (Only.of_below (M := fun _ => False) hb) (fun _ hk => hk.elim), hs, Only.refl _ _, fun q hq => .inl hq⟩
  · rcases hk with hk | ⟨g1, g2, g3⟩
    · exact .inl hk
    · exact .inr ⟨g1, by omega, g3⟩
  · rcases hk with hk | ⟨_, _, g3⟩
    · exact h1.self k (.inl hk) hm
    · exact g3 ((h2 k).2 hm)
  · rcases hk with hk | ⟨_, g2, _⟩
    · exact h1.low k (.inl hk)
    · exact g2
theorem UInv.step {F M M1 Mk : Nat → Prop} {w w2 wr wn : World} {b : Nat} {c' : CSt} (g2 : Only M w wr) (g3 : ∀ q, Mk q → M q ∨ w.heap.size ≤ q) (g4 : Only M1 w2 wr) (g5 : ∀ q, Mk q → M1 q ∨ w2.heap.size ≤ q) (hp : FcPost (grow F w wr Mk) Mk wr b c' wn) : UInv F M M1 w w2 b c' wn := by
  obtain ⟨Mn, h1, h2, h3⟩ := hp
  have hz := g2.size
  have hz2 := g4.size
  refine ⟨Mn, FcAt.grown g2 g3 h1 h2 h3, g2.trans h2 g3, fun q hq => ?_, g4.trans h2 g5, fun q hq => ?_⟩
  · rcases h3 q hq with h | h
    · exact g3 q h
    · right; omega
  · rcases h3 q hq with h | h
    · exact g5 q h
    · right; omega
theorem UInv.post {F M M1 : Nat → Prop} {w w2 wr : World} {b : Nat} {c : CSt} (h : UInv F M M1 w w2 b c wr) : FcPost F M w b c wr := by
  obtain ⟨Mk, h1, h2, h3, _⟩ := h
  exact ⟨Mk, h1, h2, h3⟩
end Go.Proofs.YtlgmbljfjfcpoaaGreat.Tx
/- What the laws' operations make of the document's file system: how great it may grow. (No Go in it.) -/
namespace Go.Proofs.YtlgmbljfjfcpoaaGreat.Tx

theorem doesM_at {P : FSM → Prop} (s : FSM) (o : LOp)
    (h0 : o.kind = 0 → P (writeM s o.path o.mode o.data true))
    (h1 : o.kind = 1 → P (writeM s o.path o.mode o.data false))
    (h2 : o.kind = 2 → P (moveM s o.path o.dest false))
    (h3 : o.kind = 3 → P (moveM s o.path o.dest true))
    (h4 : o.kind = 4 → P (removeM s o.path))
    (h5 : o.kind = 5 → P (syncM s))
    (h6 : o.kind = 6 → P ((beginM s).st))
    (h7 : o.kind = 7 → P ((beginM s).st))
    (h8 : o.kind = 8 → P (userWM s o.path o.mode o.data))
    (h9 : o.kind = 9 → P (userRM s o.path))
    (h10 : o.kind = 10 → P (crashM s o.keep o.torn))
    (h11 : o.kind = 11 → P ({ s with down := false }))
    (h12 : o.kind = 12 → P (planM s o.plan))
    (hx : o.kind < 0 ∨ 12 < o.kind → P s) : P (doesM s o) := by
  unfold doesM
  by_cases e0 : o.kind = 0
  · rw [if_pos e0]; exact h0 e0
  rw [if_neg e0]
  by_cases e1 : o.kind = 1
  · rw [if_pos e1]; exact h1 e1
  rw [if_neg e1]
  by_cases e2 : o.kind = 2
  · rw [if_pos e2]; exact h2 e2
  rw [if_neg e2]
  by_cases e3 : o.kind = 3
  · rw [if_pos e3]; exact h3 e3
  rw [if_neg e3]
  by_cases e4 : o.kind = 4
  · rw [if_pos e4]; exact h4 e4
  rw [if_neg e4]
  by_cases e5 : o.kind = 5
  · rw [if_pos e5]; exact h5 e5
  rw [if_neg e5]
  by_cases e6 : o.kind = 6
  · rw [if_pos e6]; exact h6 e6
  rw [if_neg e6]
  by_cases e7 : o.kind = 7
  · rw [if_pos e7]; exact h7 e7
  rw [if_neg e7]
  by_cases e8 : o.kind = 8
  · rw [if_pos e8]; exact h8 e8
  rw [if_neg e8]
  by_cases e9 : o.kind = 9
  · rw [if_pos e9]; exact h9 e9
  rw [if_neg e9]
  by_cases e10 : o.kind = 10
  · rw [if_pos e10]; exact h10 e10
  rw [if_neg e10]
  by_cases e11 : o.kind = 11
  · rw [if_pos e11]; exact h11 e11
  rw [if_neg e11]
  by_cases e12 : o.kind = 12
  · rw [if_pos e12]; exact h12 e12
  rw [if_neg e12]
  exact hx (by omega)
theorem GoM.next {s s' : FSM} {i : Nat} (h : GoM s i) (hf : Fits s' (130 * i + 122)) (hc : s'.calls = s.calls ∨ s'.calls = s.calls + 1) (hp : s'.plan = s.plan) : GoM s' (i + 1) := by
  have h1 := h.calls
  refine ⟨hf.more (by omega), ?_, by rw [hp]; exact h.plan, fun e he => h.paths e (hp ▸ he)⟩
  rcases hc with hc | hc
  · rw [hc]; constructor <;> omega
  · rw [hc]; constructor <;> omega
theorem begin_keeps (s : FSM) : (beginM s).st.plan = s.plan ∧ (beginM s).st.calls = s.calls + 1 := ⟨(beg_keeps s s.plan.length).1, (beg_keeps s s.plan.length).2.1⟩
theorem GoM.begun {s : FSM} {i : Nat} (h : GoM s i) : Fits (beginM s).st (130 * i + 120) := (h.fits.beg s.plan.length).more (by have := h.plan; omega)
theorem moveM0_keeps (s : FSM) (fr tt : List UInt8) (only : Bool) : (moveM0 s fr tt only).plan = s.plan ∧ (moveM0 s fr tt only).calls = s.calls := by
  unfold moveM0
  split <;> exact ⟨rfl, rfl⟩
theorem pathB_le {p : List UInt8} (h : pathB p = true) : p.length ≤ 1000 := path_short h
theorem Fits.move {s : FSM} {N : Nat} (h : Fits s N) (fr tt : List UInt8) (only : Bool) : Fits (moveM0 s fr tt only) (N + 1) := by
  unfold moveM0
  split
  · rename_i h1
    refine h.change (o := ⟨2, fr, tt, ⟨0, [], 0⟩⟩) ⟨?_, Nat.zero_le _⟩
    refine pathB_le ?_
    have h2 := h1.1
    unfold moveE0 at h2
    by_cases hp : pathB fr = false ∨ pathB tt = false
    · rw [if_pos hp] at h2; omega
    · cases ht : pathB tt with
      | true => rfl
      | false => exact (hp (.inr ht)).elim
  · exact h.more (by omega)
theorem GoM.wrt {s : FSM} {i : Nat} (h : GoM s i) (p : List UInt8) (mode : Int) (data : List UInt8) (only : Bool) : GoM (writeM s p mode data only) (i + 1) := by
  obtain ⟨e1, e2⟩ := begin_keeps s
  unfold writeM
  split
  · obtain ⟨e3, e4, _⟩ := put_keeps (beginM s).st p mode data only (beginM s).full (beginM s).st.room
    exact h.next ((h.begun.put p mode data only _ _).more (by omega)) (.inr (e4.trans e2)) (e3.trans e1)
  · exact h.next (h.begun.more (by omega)) (.inr e2) e1
theorem GoM.mov {s : FSM} {i : Nat} (h : GoM s i) (fr tt : List UInt8) (only : Bool) : GoM (moveM s fr tt only) (i + 1) := by
  obtain ⟨e1, e2⟩ := begin_keeps s
  unfold moveM
  split
  · obtain ⟨e3, e4⟩ := moveM0_keeps (beginM s).st fr tt only
    exact h.next ((h.begun.move fr tt only).more (by omega)) (.inr (e4.trans e2)) (e3.trans e1)
  · exact h.next (h.begun.more (by omega)) (.inr e2) e1
theorem GoM.rem {s : FSM} {i : Nat} (h : GoM s i) (p : List UInt8) : GoM (removeM s p) (i + 1) := by
  obtain ⟨e1, e2⟩ := begin_keeps s
  unfold removeM
  split
  · obtain ⟨e3, e4, _⟩ := drop_keeps (beginM s).st p
    exact h.next ((h.begun.drop p).more (by omega)) (.inr (e4.trans e2)) (e3.trans e1)
  · exact h.next (h.begun.more (by omega)) (.inr e2) e1
theorem GoM.syn {s : FSM} {i : Nat} (h : GoM s i) : GoM (syncM s) (i + 1) := by
  obtain ⟨e1, e2⟩ := begin_keeps s
  unfold syncM
  split
  · exact h.next (h.begun.safe.more (by omega)) (.inr e2) e1
  · exact h.next (h.begun.more (by omega)) (.inr e2) e1
theorem GoM.bg {s : FSM} {i : Nat} (h : GoM s i) : GoM (beginM s).st (i + 1) := by
  obtain ⟨e1, e2⟩ := begin_keeps s
  exact h.next (h.begun.more (by omega)) (.inr e2) e1
theorem GoM.does {s : FSM} {i : Nat} (h : GoM s i) {o : LOp} (ho : OpOK o) : GoM (doesM s o) (i + 1) := by
  refine doesM_at (P := fun s' => GoM s' (i + 1)) s o (fun _ => h.wrt _ _ _ _) (fun _ => h.wrt _ _ _ _) (fun _ => h.mov _ _ _) (fun _ => h.mov _ _ _) (fun _ => h.rem _) (fun _ => h.syn) (fun _ => h.bg) (fun _ => h.bg) (fun _ => ?_) (fun _ => ?_) (fun _ => ?_) (fun _ => ?_) (fun _ => ?_) (fun _ => ?_)
  · obtain ⟨e3, e4, _⟩ := userW_keeps s o.path o.mode o.data
    exact h.next ((h.fits.userW _ _ _).more (by omega)) (.inl e4) e3
  · obtain ⟨e3, e4, _⟩ := userR_keeps s o.path
    exact h.next ((h.fits.userR _).more (by omega)) (.inl e4) e3
  · obtain ⟨e3, e4, _⟩ := crash_keeps s o.keep o.torn
    exact h.next ((h.fits.crash _ _).more (by omega)) (.inl e4) e3
  · exact h.next (s' := { s with down := false }) ⟨Nat.le_trans h.fits.now (by omega), Nat.le_trans h.fits.both (by omega), Nat.le_trans h.fits.user (by omega), h.fits.time0, by have := h.fits.time; show s.time ≤ _; omega, h.fits.nrow, h.fits.srow, h.fits.prow⟩ (.inl rfl) rfl
  · have h1 := h.calls
    refine ⟨⟨Nat.le_trans h.fits.now (by omega), Nat.le_trans h.fits.both (by omega), Nat.le_trans h.fits.user (by omega), h.fits.time0, by have := h.fits.time; show s.time ≤ _; omega, h.fits.nrow, h.fits.srow, h.fits.prow⟩, ⟨h1.1, by show s.calls ≤ _; omega⟩, ?_, fun e he => ?_⟩
    · show (planR s.calls o.plan).length ≤ 60
      exact Nat.le_trans (List.length_filter_le _ _) ho.plan
    · have h2 : e ∈ planR s.calls o.plan := he
      exact ho.paths e (List.mem_filter.1 h2).1
  · exact h.next (h.fits.more (by omega)) (.inl rfl) rfl
theorem GoM.new_ (room : Int) : GoM (newM room) 0 := by
  refine ⟨⟨Nat.le_refl _, Nat.le_refl _, Nat.le_refl _, Int.le_refl _, Int.le_refl _, ?_, ?_, ?_⟩, ⟨Int.le_refl _, Int.le_refl _⟩, Nat.zero_le _, ?_⟩
  all_goals exact fun r hr => by cases hr
end Go.Proofs.YtlgmbljfjfcpoaaGreat.Tx
/- marlaw5.first. -/
namespace Go.Proofs.YtlgmbljfjfcpoaaGreat.Tx
open Go.RowKit Go.Maps Go.Proofs.YtlgmbljfjfcpoaaGreat.Sh

theorem by_new (w : World) (bs : List UInt8) (cs : Array Value) (T : TypeId) (mk : Nat × Nat) (hcs : cs.toList = bs.map bv) (m : Nat) (hm : bs.length = m) (hs : m ≤ 1000) : By (fun k => k = w.heap.size) (w.alloc (.cells cs T mk)) (.slice (some ⟨w.heap.size, 0, none⟩) m m) bs := by
  refine ⟨some ⟨w.heap.size, 0, none⟩, m, by rw [hm], by omega, by unfold maxLen; omega, by simp, (fun h => by cases h), fun _ => ⟨_, rfl, rfl, by simp, fun j u hu => ?_⟩⟩
  rw [Addr.add_mid, cell_of_row _ _ _ cs T mk (heap_alloc_new w _), Nat.zero_add, ← hu, ← hcs]
  simp
/-- A file system of one's own, made behind w. -/
def Mine (w w1 : World) (b : Nat) (c : CSt) : Prop := ∃ F M, FcAt F w1 b c M ∧ (∀ k, M k → w.heap.size ≤ k) ∧ Below w.heap.size w w1
theorem Mine.data {w w1 : World} {b : Nat} {c : CSt} (h : Mine w w1 b c) (o : Obj) : ∃ F M, FcAt F (w1.alloc o) b c M ∧ (∀ k, M k → w.heap.size ≤ k) ∧ Below w.heap.size w (w1.alloc o) ∧ ∀ k, k = w1.heap.size → ¬ M k := by
  obtain ⟨F, M, h1, h2, h3⟩ := h
  refine ⟨F, M, h1.below ((Below.refl _ w1).alloc (Nat.le_refl _) o), h2, h3.alloc h3.size o, fun k hk hm => ?_⟩
  have := h1.lt k hm
  omega
theorem Mine.of {F M : Nat → Prop} {w w1 w2 : World} {b : Nat} {c : CSt} (hM : ∀ k, M k → w.heap.size ≤ k) (hb : Below w.heap.size w w1) (h : FcPost F M w1 b c w2) : Mine w w2 b c := by
  obtain ⟨M', h1, h2, h3⟩ := h
  have hz := hb.size
  refine ⟨_, M', h1, fun k hk => ?_, (((Only.of_below (M := fun _ => False) hb).trans h2 (fun k hk => .inr (hM k hk))).below)⟩
  rcases h3 k hk with h4 | h4
  · exact hM k h4
  · omega
theorem Mine.below {w w1 w2 : World} {b : Nat} {c : CSt} (h : Mine w w1 b c) (hb : Below w1.heap.size w1 w2) : Mine w w2 b c := by
  obtain ⟨F, M, h1, h2, h3⟩ := h
  exact ⟨F, M, h1.below hb, h2, h3.trans (hb.mono h3.size)⟩
def fst1 : CSt := crtC (newC 100) [97] 1 [120] true
def fst2 : CSt := synC fst1
def fst3 : CSt := crtC fst2 [97] 1 [121, 122] false
def fst4 : CSt := crC fst3 0 1
def fst5 : CSt := { fst4 with down := false }
end Go.Proofs.YtlgmbljfjfcpoaaGreat.Tx
/- What marlaw5.Does calls: both file systems taken apart; bounds of the document's calls; marref.Bytes. -/
namespace Go.Proofs.YtlgmbljfjfcpoaaGreat.Tx
open Go.RowKit Go.Maps Go.Proofs.YtlgmbljfjfcpoaaGreat.Sh

theorem FcPost.of_drew {F M : Nat → Prop} {w w' : World} {b : Nat} {c : CSt} (h : FcPost F M w.drew b c w') : FcPost F M w b c w' := by
  obtain ⟨M', h1, h2, h3⟩ := h
  exact ⟨M', h1, h2.of_drew, h3⟩
section
variable {F M G : Nat → Prop} {w : World} {b N : Nat} {s : FSM}
end
end Go.Proofs.YtlgmbljfjfcpoaaGreat.Tx
/- marlaw5.file; marref.Texts of any two lists. -/
namespace Go.Proofs.YtlgmbljfjfcpoaaGreat.Tx
open Go.RowKit Go.Maps Go.Proofs.YtlgmbljfjfcpoaaGreat.Sh

set_option maxRecDepth 100000 in
set_option maxHeartbeats 1600000 in
theorem texts_any (v v' : Value) (xs ys : List ByteArray) (w : World) (h : SlV w v (xs.map sv)) (h' : SlV w v' (ys.map sv)) : Calls Tryz.prog 25 #[v, v'] w fun e w' => ∃ t, e = .returned (.bool t) ∧ (t = true ↔ xs = ys) ∧ Below w.heap.size w w' := by
  obtain ⟨A, c, rfl, hlc, hcm, hR⟩ := h.len
  obtain ⟨A', c', rfl, hlc', hcm', hR'⟩ := h'.len
  rw [List.length_map] at hlc hR hlc' hR' ⊢
  rw [List.length_map]
  have HR := Lib.hid hR
  have HR' := Lib.hid hR'
  unfold maxLen at hcm hcm'
  obtain ⟨l, hl⟩ : ∃ l, xs.length = l := ⟨_, rfl⟩
  obtain ⟨l', hl'⟩ : ∃ l', ys.length = l' := ⟨_, rfl⟩
  rw [hl] at hlc ⊢
  rw [hl'] at hlc' ⊢
  have HL := Lib.hid hl
  have HL' := Lib.hid hl'
  clear h h' hR hR' hl hl'
  by_cases hll : l = l'
  · subst hll
    go_enter Tryz.func25, Tryz.ntmps25
    go_wp2
    go_loopw [5] (fun i wr => ∃ k : Nat, k ≤ l ∧ i = .int .i64 k ∧ xs.take k = ys.take k ∧ Below w.heap.size w wr) (fun i _ => l - (intOf i).toNat)
    case atStart => exact ⟨0, Nat.zero_le _, rfl, rfl, Below.refl _ _⟩
    case round =>
      obtain ⟨k, hk, rfl, htk, hb⟩ := hrel
      have HB := Lib.hid hb
      have HTK := Lib.hid htk
      clear hb htk
      by_cases hlt : k < l
      · have hkl : k < xs.length := by rw [HL.out]; exact hlt
        have hkl' : k < ys.length := by rw [HL'.out]; exact hlt
        obtain ⟨ad, rfl, hcell⟩ := texts_at ((HR.out.below HB.out).more HB.out.size) k hkl
        obtain ⟨ad', rfl, hcell'⟩ := texts_at ((HR'.out.below HB.out).more HB.out.size) k hkl'
        have HX := Lib.hid (show xs.take (k + 1) = xs.take k ++ [xs[k]] from List.take_succ_eq_append_getElem hkl)
        have HY := Lib.hid (show ys.take (k + 1) = ys.take k ++ [ys[k]] from List.take_succ_eq_append_getElem hkl')
        have HE : Hid (xs[k] ≠ ys[k] → xs ≠ ys) := fun h e => h (by subst e; rfl)
        generalize xs[k] = x at *
        generalize ys[k] = y at *
        clear hkl hkl'
        have z0 : (0 : Int) ≤ (k : Int) := by omega
        have z1 : (k : Int) < (l : Int) := by omega
        by_cases he : x = y
        · subst he
          go_wp2_with fail
          go_quiet (fail)
          go_wp2
          go_roundw
          case rel => exact ⟨k + 1, by omega, by go_num, by rw [HX.out, HY.out, HTK.out], below_drewN HB.out _⟩
          case measure => simp [intOf]; omega
        · have q1 := toList_ne he
          go_wp2_with fail
          go_quiet (fail)
          go_wp2
          go_ret
          exact ⟨_, rfl, by simpa using HE.out he, below_drewN HB.out _⟩
      · obtain rfl : k = l := by omega
        have HXY : Hid (xs = ys) := by
          have h1 := HTK.out
          rw [List.take_of_length_le (by rw [HL.out]; exact Nat.le_refl _), List.take_of_length_le (by rw [HL'.out]; exact Nat.le_refl _)] at h1
          exact h1
        go_wp2
        go_ret
        exact ⟨_, rfl, by simpa using HXY.out, HB.out⟩
  · have e1 : ((l : Int) == (l' : Int)) = false := by rw [beq_eq_false_iff_ne]; omega
    go_enter Tryz.func25, Tryz.ntmps25
    go_wp2_with fail
    go_ret
    exact ⟨_, rfl, ⟨fun h => by simp at h, fun h => (hll (by rw [← HL.out, ← HL'.out, h])).elim⟩, Below.refl _ _⟩
end Go.Proofs.YtlgmbljfjfcpoaaGreat.Tx
/- One call of either file system, one behind the other. -/
namespace Go.Proofs.YtlgmbljfjfcpoaaGreat.Tx
open Go.RowKit Go.Maps Go.Proofs.YtlgmbljfjfcpoaaGreat.Sh

section
variable {F M Mf Mx G : Nat → Prop} {w w1 w2 : World} {b d : Nat} {c c' : CSt} {s s' : FSM}
end
end Go.Proofs.YtlgmbljfjfcpoaaGreat.Tx
/- marlaw5.FewEvents, flag. -/
namespace Go.Proofs.YtlgmbljfjfcpoaaGreat.Tx
open Go.RowKit Go.Maps Go.Proofs.YtlgmbljfjfcpoaaGreat.Sh

set_option maxRecDepth 100000 in
set_option maxHeartbeats 1600000 in
theorem fewev_any (F : Nat → Prop) (v : Value) (l : List EvM) (w : World) (h : EvsF F w v l) : Calls Tryz.prog 7 #[v] w fun e w' => ∃ t, e = .returned (.bool t) ∧ (t = true → l.length ≤ 60 ∧ ∀ e ∈ l, e.path.length ≤ 400) ∧ Below w.heap.size w w' := by
  obtain ⟨A, c, rfl, hlc, hcm⟩ := evs_slice h
  obtain ⟨n, hn⟩ : ∃ n, l.length = n := ⟨_, rfl⟩
  have HL := Lib.hid h
  have HN := Lib.hid hn
  rw [hn] at hlc HL ⊢
  unfold maxLen at hcm
  clear h hn
  go_enter Tryz.func7, Tryz.ntmps7
  go_wp2
  go_loopw [3, 4] (fun s i wr => ∃ (k : Nat) (z : Int), k ≤ n ∧ k ≤ 60 ∧ i = .int .i64 k ∧ s = .int .i64 z ∧ 0 ≤ z ∧ z ≤ 160000 ∧ (∀ e ∈ l.take k, e.path.length ≤ 400) ∧ Below w.heap.size w wr) (fun _ i _ => n - (intOf i).toNat)
  case atStart => exact ⟨0, 0, Nat.zero_le _, Nat.zero_le _, rfl, rfl, by omega, by omega, fun e he => by simp at he, Below.refl _ _⟩
  case round =>
    obtain ⟨k, z, hk, hk6, rfl, rfl, hz0, hz1, hpk, hb⟩ := hrel
    have HB := Lib.hid hb
    have HPK := Lib.hid hpk
    clear hb hpk
    have p0 : (0 : Int) ≤ (k : Int) := by omega
    by_cases hlt : k < n
    · by_cases h60 : k < 60
      · have hkl : k < l.length := by rw [HN.out]; exact hlt
        obtain ⟨ad, dA, dc, rfl, _, _, _, _, _, _, x5, x6⟩ := ev_cells (TmpL.below HL.out HB.out) k l[k] (List.getElem?_eq_getElem hkl)
        have HX := Lib.hid (show l.take (k + 1) = l.take k ++ [l[k]] from List.take_succ_eq_append_getElem hkl)
        obtain ⟨pl, hpl⟩ : ∃ pl, l[k].path.length = pl := ⟨_, rfl⟩
        have hsp : (str l[k].path).toList.length = pl := by rw [str_toList]; exact hpl
        have HPL := Lib.hid hpl
        obtain ⟨dl, hdl⟩ : ∃ dl, l[k].data.length = dl := ⟨_, rfl⟩
        rw [hdl] at x6
        generalize l[k] = e at *
        clear hkl hdl hpl
        have p1 : (k : Int) < (n : Int) := by omega
        have p2 : (k : Int) < 60 := by omega
        have hm0 : (0 : Int) ≤ min (dl : Int) 40000 ∧ min (dl : Int) 40000 ≤ 40000 := by omega
        have hm1 : (0 : Int) ≤ min (pl : Int) 1000 ∧ min (pl : Int) 1000 ≤ 1000 := by omega
        have w1 : IntKind.i64.wrap (z + min (dl : Int) 40000) = z + min (dl : Int) 40000 := IntWalk.i64_in _ (by omega)
        have w2 : IntKind.i64.wrap (z + min (dl : Int) 40000 + min (pl : Int) 1000) = z + min (dl : Int) 40000 + min (pl : Int) 1000 := IntWalk.i64_in _ (by omega)
        have hsz : (str e.path).size = pl := by rw [str_size]; exact HPL.out
        rw [show str e.path = ⟨(str e.path).data⟩ from rfl] at x5 hsz hsp
        generalize (⟨(str e.path).data⟩ : ByteArray) = sp at *
        by_cases hl4 : (400 : Int) < (pl : Int)
        · go_wp2_with fail
          go_quiet (fail)
          go_wp2_with fail
          go_ret
          exact ⟨_, rfl, fun h => by simp at h, below_drewN HB.out _⟩
        · go_wp2_with fail
          go_quiet (fail)
          go_wp2_with fail
          go_roundw
          case rel => exact ⟨k + 1, min (z + min (dl : Int) 40000 + min (pl : Int) 1000) 160000, by omega, by omega, by go_num, by go_num, by omega, by omega, fun x hx => by
            rw [HX.out] at hx
            rcases List.mem_append.1 hx with h9 | h9
            · exact HPK.out x h9
            · rw [List.mem_singleton.1 h9, HPL.out]; omega, below_drewN HB.out _⟩
          case measure => simp [intOf]; omega
      · obtain rfl : k = 60 := by omega
        have e60 : ¬ (n ≤ 60) := by omega
        have e61 : decide ((n : Int) ≤ 60) = false := by simp; omega
        go_wp2_with fail
        go_ret
        exact ⟨_, rfl, fun h => by simp at h, HB.out⟩
    · obtain rfl : k = n := by omega
      have HF : Hid (k ≤ 60 ∧ ∀ e ∈ l, e.path.length ≤ 400) := ⟨hk6, fun e he => HPK.out e (by rw [List.take_of_length_le (by rw [HN.out]; exact Nat.le_refl _)]; exact he)⟩
      go_wp2_with fail
      all_goals
        go_ret
        exact ⟨_, rfl, fun _ => HF.out, HB.out⟩
end Go.Proofs.YtlgmbljfjfcpoaaGreat.Tx
/- The laws' operations in memory; marlaw5.Few. -/
namespace Go.Proofs.YtlgmbljfjfcpoaaGreat.Tx
open Go.RowKit Go.Maps Go.Proofs.YtlgmbljfjfcpoaaGreat.Sh

/-- An operation's cells, from a on. -/
structure OpCells (G : Nat → Prop) (w : World) (a : Addr) (o : LOp) (dv pv : Value) : Prop where
  data : By G w dv o.data
  plan : InL evK G w pv o.plan
  kind : w.cell? a = some (.int .i64 o.kind)
  mode : w.cell? ⟨a.block, a.off + 1, none⟩ = some (.int .i64 o.mode)
  keep : w.cell? ⟨a.block, a.off + 2, none⟩ = some (.int .i64 o.keep)
  torn : w.cell? ⟨a.block, a.off + 3, none⟩ = some (.int .i64 o.torn)
  path : w.cell? ⟨a.block, a.off + 4, none⟩ = some (.string (str o.path))
  dest : w.cell? ⟨a.block, a.off + 5, none⟩ = some (.string (str o.dest))
  dcell : w.cell? ⟨a.block, a.off + 6, none⟩ = some dv
  pcell : w.cell? ⟨a.block, a.off + 7, none⟩ = some pv
def OpsF (G : Nat → Prop) (w : World) (v : Value) (l : List LOp) : Prop := ∃ A c, v = .slice A l.length c ∧ l.length ≤ c ∧ c ≤ maxLen ∧ ∀ k o, l[k]? = some o → ∃ ad dv pv, A = some ad ∧ G ad.block ∧ ad.block < w.heap.size ∧ OpCells G w (ad.add (k * 8)) o dv pv
theorem OpCells.only {G M : Nat → Prop} {w w' : World} {a : Addr} {o : LOp} {dv pv : Value} (h : OpCells G w a o dv pv) (ho : Only M w w') (hG : ∀ k, G k → ¬ M k) (ha : G a.block) (hl : a.block < w.heap.size) : OpCells G w' a o dv pv := by
  have hn := hG _ ha
  exact ⟨h.data.only ho hG, h.plan.only ho hG, (ho.cell hl hn).trans h.kind, (ho.cell (p := ⟨a.block, a.off + 1, none⟩) hl hn).trans h.mode, (ho.cell (p := ⟨a.block, a.off + 2, none⟩) hl hn).trans h.keep, (ho.cell (p := ⟨a.block, a.off + 3, none⟩) hl hn).trans h.torn, (ho.cell (p := ⟨a.block, a.off + 4, none⟩) hl hn).trans h.path, (ho.cell (p := ⟨a.block, a.off + 5, none⟩) hl hn).trans h.dest, (ho.cell (p := ⟨a.block, a.off + 6, none⟩) hl hn).trans h.dcell, (ho.cell (p := ⟨a.block, a.off + 7, none⟩) hl hn).trans h.pcell⟩
theorem addr_block (a : Addr) (n : Nat) : (a.add n).block = a.block := by unfold Addr.add; split <;> rfl
theorem OpsF.only {G M : Nat → Prop} {w w' : World} {v : Value} {l : List LOp} (h : OpsF G w v l) (ho : Only M w w') (hG : ∀ k, G k → ¬ M k) : OpsF G w' v l := by
  obtain ⟨A, c, h1, h2, h3, h4⟩ := h
  refine ⟨A, c, h1, h2, h3, fun k o hk => ?_⟩
  obtain ⟨ad, dv, pv, e, g1, g2, g3⟩ := h4 k o hk
  exact ⟨ad, dv, pv, e, g1, Nat.lt_of_lt_of_le g2 ho.size, g3.only ho hG (by rw [addr_block]; exact g1) (by rw [addr_block]; exact g2)⟩
theorem OpsF.below {G : Nat → Prop} {w w' : World} {v : Value} {l : List LOp} (h : OpsF G w v l) (hb : Below w.heap.size w w') : OpsF G w' v l := h.only (Only.of_below (M := fun _ => False) hb) (fun _ _ => id)
/-- What Few says of an operation. -/
structure OpFew (o : LOp) : Prop where
  path : o.path.length ≤ 400
  dest : o.dest.length ≤ 400
  plan : o.plan.length ≤ 60
  paths : ∀ e ∈ o.plan, e.path.length ≤ 400

end Go.Proofs.YtlgmbljfjfcpoaaGreat.Tx
/- marlaw8.first. -/
set_option linter.unusedVariables false
set_option linter.unusedSimpArgs false
namespace Go.Proofs.YtlgmbljfjfcpoaaGreat.Tx
open Go.RowKit Go.Maps Go.Proofs.YtlgmbljfjfcpoaaGreat.Sh

theorem sl_of {w : World} {v : Value} {bs : List UInt8} (h : SlV w v (bs.map bv)) : Sl w v bs := by
  obtain ⟨A, c, hv, h1, h2, h3⟩ := h.len
  rw [List.length_map] at hv h1 h3
  refine ⟨A, c, hv, h1, h2, fun h0 => ?_, fun hA => ?_⟩
  · obtain ⟨ad, hA, hc⟩ := reads_at h3 0 (bv (bs.getD 0 0)) (by rw [List.getElem?_map, List.getElem?_eq_getElem h0, List.getD_eq_getElem?_getD, List.getElem?_eq_getElem h0]; rfl)
    refine ⟨ad, hA, ?_, fun j hj => ?_⟩
    · have := World.block_lt_of_cell? w _ hc
      rw [addr_block] at this
      exact this
    · obtain ⟨ad', hA', hc'⟩ := reads_at h3 j (bv (bs.getD j 0)) (by rw [List.getElem?_map, List.getElem?_eq_getElem hj, List.getD_eq_getElem?_getD, List.getElem?_eq_getElem hj]; rfl)
      rw [hA] at hA'
      injection hA' with hA'
      subst hA'
      rw [hc']
      unfold bv
      rw [Tx.bi_nat]
      unfold Sh.bi
      rfl
  · subst hA
    by_cases h0 : 0 < bs.length
    · obtain ⟨ad, hA, _⟩ := reads_at h3 0 (bv (bs.getD 0 0)) (by rw [List.getElem?_map, List.getElem?_eq_getElem h0, List.getD_eq_getElem?_getD, List.getElem?_eq_getElem h0]; rfl)
      cases hA
    · exact List.eq_nil_of_length_eq_zero (by omega)
section
variable {w w1 : World} {b : Nat} {c : CSt} {i : Nat}
theorem idc_any (v : Value) (bs : List UInt8) (w : World) (h : SlV w v (bs.map bv)) (hn : bs.length ≤ 1000000) : Calls Tryz.prog 16 #[v] w fun e w' => e = .returned (.string (Tx.str (hexL (sumOf bs)))) ∧ Below w.heap.size w w' :=
  id_any v bs w (sl_of h) (by omega)
end
/-- A file system of one's own, and a block beside it that it leaves alone. -/
def MineK (w w1 : World) (b : Nat) (c : CSt) (g : Nat) (T : TypeId) (cs : Array Value) : Prop := ∃ F M, FcAt F w1 b c M ∧ (∀ k, M k → w.heap.size ≤ k) ∧ Below w.heap.size w w1 ∧ ¬ M g ∧ Blk w1 g T cs
section
variable {w w1 w2 : World} {b g : Nat} {c c' : CSt} {T : TypeId} {cs : Array Value} {i : Nat}
theorem MineK.mine (h : MineK w w1 b c g T cs) : Mine w w1 b c := by
  obtain ⟨F, M, h1, h2, h3, _⟩ := h
  exact ⟨F, M, h1, h2, h3⟩
theorem MineK.blk (h : MineK w w1 b c g T cs) : Blk w1 g T cs := by
  obtain ⟨F, M, _, _, _, _, h5⟩ := h
  exact h5
theorem MineK.start (h : Mine w w1 b c) (T : TypeId) (cs : Array Value) : MineK w (w1.alloc (.cells cs T)) b c w1.heap.size T cs := by
  obtain ⟨F, M, h1, h2, h3⟩ := h
  refine ⟨F, M, h1.below ((Below.refl _ w1).alloc (Nat.le_refl _) _), h2, h3.alloc h3.size _, fun hm => ?_, Blk.new _ _ _⟩
  have := h1.lt _ hm
  omega
theorem MineK.of {F M : Nat → Prop} (hM : ∀ k, M k → w.heap.size ≤ k) (hb : Below w.heap.size w w1) (hg : ¬ M g) (hk : Blk w1 g T cs) (h : FcPost F M w1 b c' w2) : MineK w w2 b c' g T cs := by
  obtain ⟨M', h1, h2, h3⟩ := h
  have hz := hb.size
  have hlt := hk.lt
  refine ⟨_, M', h1, fun k hk => ?_, ((Only.of_below (M := fun _ => False) hb).trans h2 (fun k hk => .inr (hM k hk))).below, fun hm => ?_, h2.blk hk hg⟩
  · rcases h3 k hk with h4 | h4
    · exact hM k h4
    · omega
  · rcases h3 g hm with h4 | h4
    · exact hg h4
    · omega
end
end Go.Proofs.YtlgmbljfjfcpoaaGreat.Tx
