/- Texts put together: YShW1. -/
import Derived.Test.YtodlaikemoedfaaQp04
/- The schedule of a block's words. -/
namespace Go.Proofs.Ytodlaikemoedfaa.Sh
open Go.RowKit

def wv (u : UInt32) : Value := .int .u32 (wi u)
def bv (u : UInt8) : Value := .int .u8 (bi u)

/-- Block g holds 64 words of which the first n are those of bs. -/
def Sch (bs : List UInt8) (w : World) (g n : Nat) : Prop :=
  ∃ cs, Blk w g 72 cs ∧ cs.size = 64 ∧ (∀ j, j < n → cs[j]? = some (wv (wd bs j))) ∧ ∀ j, j < 64 → ∃ u, cs[j]? = some (.int .u32 u)

theorem sch_set {bs : List UInt8} {w : World} {g k : Nat} {cs : Array Value} (h : Blk w g 72 cs) (hz : cs.size = 64) (hd : ∀ j, j < k → cs[j]? = some (wv (wd bs j)))
    (hi : ∀ j, j < 64 → ∃ u, cs[j]? = some (.int .u32 u)) (hk : k < 64) (u : UInt32) (hu : u = wd bs k) : Sch bs ((w.setCell ⟨g, k, none⟩ (.int .u32 (wi u))).drew) g (k + 1) := by
  rw [hu]
  have hb : Blk ((w.setCell ⟨g, k, none⟩ (.int .u32 (wi (wd bs k)))).drew) g 72 (cs.setIfInBounds k (.int .u32 (wi (wd bs k)))) := Blk.drew (h.set_ k _)
  have hget : ∀ j, (cs.setIfInBounds k (.int .u32 (wi (wd bs k))))[j]? = if k = j then some (wv (wd bs k)) else cs[j]? := by
    intro j
    rw [Array.getElem?_setIfInBounds]
    by_cases e : k = j
    · subst e; rw [if_pos rfl, if_pos (by omega), if_pos rfl]; rfl
    · rw [if_neg e, if_neg e]
  unfold Sch
  refine Exists.intro _ (And.intro hb (And.intro ?_ (And.intro ?_ ?_)))
  · rw [Array.size_setIfInBounds]; exact hz
  · intro j hj
    rw [hget]
    by_cases e : k = j
    · subst e; rw [if_pos rfl]
    · rw [if_neg e]; exact hd j (by omega)
  · intro j hj
    rw [hget]
    by_cases e : k = j
    · subst e; rw [if_pos rfl]; exact ⟨_, rfl⟩
    · rw [if_neg e]; exact hi j hj

theorem sch_set' {bs : List UInt8} {w : World} {g k : Nat} {cs : Array Value} (h : Blk w g 72 cs) (hz : cs.size = 64) (hd : ∀ j, j < k → cs[j]? = some (wv (wd bs j)))
    (hi : ∀ j, j < 64 → ∃ u, cs[j]? = some (.int .u32 u)) (hk : k < 64) (u : UInt32) (hu : u = wd bs k) (n : Nat) : Sch bs ((w.drewN n).setCell ⟨g, k, none⟩ (.int .u32 (wi u))) g (k + 1) :=
  sch_set (w := w.drewN n) (h.drewN n) hz hd hi hk u hu

def isWord : Value → Bool
  | .int .u32 _ => true
  | _ => false
theorem isWord_of {v : Value} (h : isWord v = true) : ∃ u, v = .int .u32 u := by
  unfold isWord at h
  split at h
  · exact ⟨_, rfl⟩
  · cases h
theorem sch_zero {bs : List UInt8} {w : World} {g : Nat} (cs : Array Value) (h : Blk w g 72 cs) (hz : cs.size = 64) (ha : cs.toList.all isWord = true) : Sch bs w g 0 := by
  unfold Sch
  refine Exists.intro cs (And.intro h (And.intro hz (And.intro (fun j hj => by omega) (fun j hj => ?_))))
  have hm : cs[j]? = some cs[j] := Array.getElem?_eq_getElem (by omega)
  have := List.all_eq_true.1 ha cs[j] (by simp)
  obtain ⟨u, hu⟩ := isWord_of this
  exact ⟨u, by rw [hm, hu]⟩

theorem words_size (bs : List UInt8) : ((words bs 64).map wv).toArray.size = 64 := by simp [words_length]
theorem words_one (bs : List UInt8) : ((words bs 64).map wv).toArray.all (·.oneCell') = true := by
  rw [Array.all_eq_true_iff_forall_mem]
  intro v hv
  simp only [List.mem_toArray, List.mem_map] at hv
  obtain ⟨u, _, rfl⟩ := hv
  rfl
theorem info64 : (Try.prog.info? 72).map (·.size) = some 64 := by kernel_rfl
theorem size64 (bs : List UInt8) : (Try.prog.info? 72).map (·.size) = some ((words bs 64).map wv).toArray.size := by rw [words_size]; exact info64
theorem sch_all {bs : List UInt8} {w : World} {g : Nat} (h : Sch bs w g 64) : Blk w g 72 ((words bs 64).map wv).toArray := by
  unfold Sch at h
  obtain ⟨cs, hb, hz, hd, _⟩ := h
  have hl := words_length bs 64
  have : cs = ((words bs 64).map wv).toArray := by
    apply Array.ext
    · simp [hz, hl]
    · intro j h1 h2
      have h3 := hd j (by omega)
      rw [Array.getElem?_eq_getElem h1] at h3
      injection h3 with h3
      rw [h3, wd_def]
      simp [List.getD_eq_getElem?_getD, hl, show j < 64 by omega]
  rw [← this]; exact hb

theorem keep1 {w : World} {g i k n : Nat} {x y : Value} (hne : i ≠ k) (h : w.cell? ⟨g, i, none⟩ = some x) : ((w.drewN n).setCell ⟨g, k, none⟩ y).cell? ⟨g, i, none⟩ = some x := by
  rw [World.cell?_setCell_other _ _ _ _ (by intro e; injection e with _ e2; exact hne e2.symm)]
  exact h
theorem keep4 (w : World) (g i1 i2 i3 i4 k n : Nat) (x1 x2 x3 x4 : Value) (y : Value) (n1 : i1 ≠ k) (n2 : i2 ≠ k) (n3 : i3 ≠ k) (n4 : i4 ≠ k)
    (h1 : w.cell? ⟨g, i1, none⟩ = some x1) (h2 : w.cell? ⟨g, i2, none⟩ = some x2) (h3 : w.cell? ⟨g, i3, none⟩ = some x3) (h4 : w.cell? ⟨g, i4, none⟩ = some x4) :
    ((w.drewN n).setCell ⟨g, k, none⟩ y).cell? ⟨g, i1, none⟩ = some x1 ∧ ((w.drewN n).setCell ⟨g, k, none⟩ y).cell? ⟨g, i2, none⟩ = some x2 ∧ ((w.drewN n).setCell ⟨g, k, none⟩ y).cell? ⟨g, i3, none⟩ = some x3 ∧ ((w.drewN n).setCell ⟨g, k, none⟩ y).cell? ⟨g, i4, none⟩ = some x4 :=
  ⟨keep1 n1 h1, keep1 n2 h2, keep1 n3 h3, keep1 n4 h4⟩

set_option maxRecDepth 100000 in
set_option maxHeartbeats 800000 in
theorem sched_any (ad : Addr) (cap : Nat) (bs : List UInt8) (w : World) (hcap : 64 ≤ cap) (hcap2 : cap ≤ maxLen) (hb : ad.block < w.heap.size)
    (hc : ∀ k, k < 64 → w.cell? (ad.add k) = some (.int .u8 (bi (bs.getD k 0)))) :
    Calls Try.prog 36 #[.slice (some ad) 64 cap] w fun e w' => e = .returned (.agg ((words bs 64).map wv).toArray) ∧ Below w.heap.size w w' := by
  unfold maxLen at hcap2
  go_enter Try.func36, Try.ntmps36
  go_wp2
  go_loopw [7] (fun i wr => ∃ k : Nat, k ≤ 16 ∧ i = .int .i64 k ∧ Sch bs wr (w.heap.size + 1) k ∧ (∃ cs, Blk wr w.heap.size 72 cs ∧ cs.size = 64) ∧ Below w.heap.size w wr) (fun i _ => 16 - (intOf i).toNat)
  case atStart =>
    refine ⟨0, by omega, rfl, ?_, ?_, ((Below.refl _ _).alloc (Nat.le_refl _) _).alloc (by simp) _⟩
    · refine sch_zero _ (heap_alloc2_new _ _ _) rfl rfl
    · exact ⟨_, heap_alloc2_old _ _ _, rfl⟩
  case round =>
    obtain ⟨k, hk, rfl, hs, ho, hbl⟩ := hrel
    by_cases hlt : k < 16
    · have hcw : ∀ i, i < 64 → wr.cell? (ad.add i) = some (.int .u8 (bi (bs.getD i 0))) := fun i hi => (hbl.cell (p := ad.add i) (by rw [block_of_add]; exact hb)).trans (hc i hi)
      have c0 : wr.cell? (ad.add (4 * k)) = some (.int .u8 (bi (bs.getD (4 * k) 0))) := hcw _ (by omega)
      have c1 : wr.cell? ⟨(ad.add (4 * k)).block, (ad.add (4 * k)).off + 1, none⟩ = some (.int .u8 (bi (bs.getD (4 * k + 1) 0))) := by rw [← add_at _ 1 (by omega), add_of_add]; exact hcw _ (by omega)
      have c2 : wr.cell? ⟨(ad.add (4 * k)).block, (ad.add (4 * k)).off + 2, none⟩ = some (.int .u8 (bi (bs.getD (4 * k + 2) 0))) := by rw [← add_at _ 2 (by omega), add_of_add]; exact hcw _ (by omega)
      have c3 : wr.cell? ⟨(ad.add (4 * k)).block, (ad.add (4 * k)).off + 3, none⟩ = some (.int .u8 (bi (bs.getD (4 * k + 3) 0))) := by rw [← add_at _ 3 (by omega), add_of_add]; exact hcw _ (by omega)
      have hL : 4 * k + 4 - 4 * k = 4 := by omega
      generalize hb0 : bs.getD (4 * k) 0 = b0 at c0
      generalize hb1 : bs.getD (4 * k + 1) 0 = b1 at c1
      generalize hb2 : bs.getD (4 * k + 2) 0 = b2 at c2
      generalize hb3 : bs.getD (4 * k + 3) 0 = b3 at c3
      have H0 := Lib.hid hb0
      have H1 := Lib.hid hb1
      have H2 := Lib.hid hb2
      have H3 := Lib.hid hb3
      clear hb0 hb1 hb2 hb3 hcw
      go_wp2
      have x0 := wbyte b0
      have x1 := wbyte b1
      have x2 := wbyte b2
      have x3 := wbyte b3
      have s0 : IntKind.u32.wrap (wi b0.toUInt32 * 16777216) = wi (shlw b0.toUInt32 24) := wshl b0.toUInt32 24 (by omega)
      have s1 : IntKind.u32.wrap (wi b1.toUInt32 * 65536) = wi (shlw b1.toUInt32 16) := wshl b1.toUInt32 16 (by omega)
      have s2 : IntKind.u32.wrap (wi b2.toUInt32 * 256) = wi (shlw b2.toUInt32 8) := wshl b2.toUInt32 8 (by omega)
      have o1 := wor (shlw b0.toUInt32 24) (shlw b1.toUInt32 16)
      have o2 := wor (shlw b0.toUInt32 24 ||| shlw b1.toUInt32 16) (shlw b2.toUInt32 8)
      have o3 := wor (shlw b0.toUInt32 24 ||| shlw b1.toUInt32 16 ||| shlw b2.toUInt32 8) b3.toUInt32
      have hsum : Hid (shlw b0.toUInt32 24 ||| shlw b1.toUInt32 16 ||| shlw b2.toUInt32 8 ||| b3.toUInt32 = wd bs k) := by
        unfold Hid; rw [wd_lo bs k hlt]; unfold wordAt; rw [H0.out, H1.out, H2.out, H3.out]
      obtain ⟨cs, hcs, hsz, hdone, hint⟩ := hs
      obtain ⟨u0, hu0⟩ := hint k (by omega)
      have hcell : wr.cell? ⟨w.heap.size + 1, k, none⟩ = some (.int .u32 u0) := by rw [hcs.cell]; exact hu0
      have hfro : wr.frozen? ⟨w.heap.size + 1, k, none⟩ = false := hcs.frozen k
      have HD := Lib.hid hdone
      have HI := Lib.hid hint
      have HZ := Lib.hid hsz
      clear hdone hint hu0 hsz
      have hk1 : (k : Int) < 64 := by omega
      have hk2 : 0 ≤ (k : Int) := by omega
      go_still_tail 24, (by kernel_rfl)
      clear s0 s1 s2 o1 o2 o3 x0 x1 x2 x3
      change wpList _ _ _ _ _ wr.drew
      go_wp2
      go_roundw
      case rel =>
        exact ⟨k + 1, by omega, by go_num, sch_set hcs HZ.out HD.out HI.out (by omega) _ hsum.out, (by obtain ⟨cs', h1, h2⟩ := ho; exact ⟨cs', (h1.far (by simp) _).drew, h2⟩), (hbl.setCell (by simp) _).drew⟩
      case measure => simp [intOf]; omega
    · have hs16 : Sch bs wr (w.heap.size + 1) 16 := by rw [show 16 = k from by omega]; exact hs
      clear hs
      obtain ⟨k0, rfl⟩ : ∃ k0 : Nat, k0 = k := ⟨_, rfl⟩
      go_wp2
      obtain ⟨wo, rfl⟩ : ∃ wo : World, wo = wr := ⟨_, rfl⟩
      go_loopw [6] (fun i wr => ∃ k : Nat, 16 ≤ k ∧ k ≤ 64 ∧ i = .int .i64 k ∧ Sch bs wr (w.heap.size + 1) k ∧ (∃ cs, Blk wr w.heap.size 72 cs ∧ cs.size = 64) ∧ Below w.heap.size w wr) (fun i _ => 64 - (intOf i).toNat)
      case atStart =>
        exact ⟨16, by omega, by omega, rfl, hs16, ho, hbl⟩
      case round =>
        obtain ⟨k, hk16, hk64, rfl, hs, ho, hbl⟩ := hrel
        by_cases hlt : k < 64
        · obtain ⟨cs, hcs, hsz, hdone, hint⟩ := hs
          obtain ⟨u0, hu0⟩ := hint k (by omega)
          have hcell : wr.cell? ⟨w.heap.size + 1, k, none⟩ = some (.int .u32 u0) := by rw [hcs.cell]; exact hu0
          have hfro : wr.frozen? ⟨w.heap.size + 1, k, none⟩ = false := hcs.frozen k
          have c16 : wr.cell? ⟨w.heap.size + 1, k - 16, none⟩ = some (.int .u32 (wi (wd bs (k - 16)))) := by rw [hcs.cell]; exact hdone _ (by omega)
          have c7 : wr.cell? ⟨w.heap.size + 1, k - 7, none⟩ = some (.int .u32 (wi (wd bs (k - 7)))) := by rw [hcs.cell]; exact hdone _ (by omega)
          have c15 : wr.cell? ⟨w.heap.size + 1, k - 15, none⟩ = some (.int .u32 (wi (wd bs (k - 15)))) := by rw [hcs.cell]; exact hdone _ (by omega)
          have c2 : wr.cell? ⟨w.heap.size + 1, k - 2, none⟩ = some (.int .u32 (wi (wd bs (k - 2)))) := by rw [hcs.cell]; exact hdone _ (by omega)
          have hlast := Lib.hid (wd_hi bs k hk16 hlt)
          generalize wd bs (k - 16) = u16 at *
          generalize wd bs (k - 7) = u7 at *
          generalize wd bs (k - 15) = u15 at *
          generalize wd bs (k - 2) = u2 at *
          have HD := Lib.hid hdone
          have HI := Lib.hid hint
          have HZ := Lib.hid hsz
          clear hdone hint hu0 hsz
          have hi1 : (k : Int) < 64 := by omega
          have hi2 : (k : Int) - 16 < 64 := by omega
          have hi3 : (k : Int) - 7 < 64 := by omega
          have hi4 : (k : Int) - 15 < 64 := by omega
          have hi5 : (k : Int) - 2 < 64 := by omega
          have hj1 : (0 : Int) ≤ k := by omega
          have hj2 : 0 ≤ (k : Int) - 16 := by omega
          have hj3 : 0 ≤ (k : Int) - 7 := by omega
          have hj4 : 0 ≤ (k : Int) - 15 := by omega
          have hj5 : 0 ≤ (k : Int) - 2 := by omega
          have ne1 : k - 16 ≠ k := by omega
          have ne2 : k - 7 ≠ k := by omega
          have ne3 : k - 15 ≠ k := by omega
          have ne4 : k - 2 ≠ k := by omega
          go_wp2
          have e1 : IntKind.i64.wrap ((k : Int) - 16) = (k : Int) - 16 := IntWalk.i64_in _ (by omega)
          have e2 : IntKind.i64.wrap ((k : Int) - 7) = (k : Int) - 7 := IntWalk.i64_in _ (by omega)
          have e3 : IntKind.i64.wrap ((k : Int) - 15) = (k : Int) - 15 := IntWalk.i64_in _ (by omega)
          have e4 : IntKind.i64.wrap ((k : Int) - 2) = (k : Int) - 2 := IntWalk.i64_in _ (by omega)
          have q1 : (16 : Int) ≤ k := by omega
          have q2 : (7 : Int) ≤ k := by omega
          have q3 : (15 : Int) ≤ k := by omega
          have q4 : (2 : Int) ≤ k := by omega
          have q5 : (k : Int) < 80 := by omega
          have q6 : (k : Int) < 71 := by omega
          have q7 : (k : Int) < 79 := by omega
          have q8 : (k : Int) < 66 := by omega
          have f1 : ((k : Int) - 16).toNat = k - 16 := by omega
          have f2 : ((k : Int) - 7).toNat = k - 7 := by omega
          have f3 : ((k : Int) - 15).toNat = k - 15 := by omega
          have f4 : ((k : Int) - 2).toNat = k - 2 := by omega
          have a1 := wadd u16 u7
          have a2 := wadd (u16 + u7) (rots u15 25 14 3)
          have a3 := wadd (u16 + u7 + rots u15 25 14 3) (rots u2 15 13 10)
          go_region_held3 (fun w' => w'.cell? ⟨w.heap.size + 1, k - 16, none⟩ = some (.int .u32 (wi u16)) ∧ w'.cell? ⟨w.heap.size + 1, k - 7, none⟩ = some (.int .u32 (wi u7)) ∧ w'.cell? ⟨w.heap.size + 1, k - 15, none⟩ = some (.int .u32 (wi u15)) ∧ w'.cell? ⟨w.heap.size + 1, k - 2, none⟩ = some (.int .u32 (wi u2))) (first | go_keep | exact keep4 _ _ _ _ _ _ _ _ _ _ _ _ _ (by omega) (by omega) (by omega) (by omega) c16 c7 c15 c2)
            (first
              | (go_at_call_of 48 (Value.int .i64 18); refine (shifted_any u15 7 18 3 25 14 3 (by omega) (by omega) rfl (by rfl) (by rfl) (by omega) _).mono ?_; rintro e w' ⟨rfl, nq, rfl⟩)
              | (go_at_call_of 48 (Value.int .i64 19); refine (shifted_any u2 17 19 10 15 13 10 (by omega) (by omega) rfl (by rfl) (by rfl) (by omega) _).mono ?_; rintro e w' ⟨rfl, nq, rfl⟩))
          go_wp2
          go_roundw
          case rel =>
            exact ⟨k + 1, by omega, by omega, by go_num, sch_set' hcs HZ.out HD.out HI.out hlt _ hlast.out.symm _, (by obtain ⟨cs', h1, h2⟩ := ho; exact ⟨cs', (h1.drewN _).far (by simp) _, h2⟩), (below_drewN hbl _).setCell (by simp) _⟩
          case measure => simp [intOf]; omega
        · obtain rfl : k = 64 := by omega
          have hB := sch_all hs
          obtain ⟨co, ho1, ho2⟩ := ho
          have HO := Lib.hid ho2
          clear ho2
          go_wp2_with (first
            | (refine wpList_load_row rfl 72 (.tmp 3) rfl (w.heap.size + 1) rfl 72 _ (0, 0) _ hB Try.underlying72 rfl (size64 bs) ?_)
            | (refine wpList_store_row rfl 72 (.tmp 2) (.tmp 69) rfl w.heap.size _ rfl rfl 72 co ho1 (size64 bs) (by rw [words_size]; exact HO.out) (words_one bs) ?_))
          exact bodyPost_ret (results_cell_row rfl _ _ w.heap.size 72 _ (0, 0) _ rfl (Blk.row ho1 _) Try.underlying72 rfl (size64 bs)) rfl ⟨rfl, below_setRow hbl (Nat.le_refl _) _⟩
end Go.Proofs.Ytodlaikemoedfaa.Sh
