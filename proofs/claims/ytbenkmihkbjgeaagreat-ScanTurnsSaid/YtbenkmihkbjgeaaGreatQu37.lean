/- Texts put together: USt0, UObIn, USc11, USc12, USc13, USc4, USc5. -/
import Derived.Deep.Slices
import Derived.Deep.Fields
import Derived.ChangeSame
import Derived.Test.YtbenkmihkbjgeaaGreatQu33
import Derived.OpenShut
import Derived.ShutString
import Derived.ChangeOld
import Derived.WideShapes
import Derived.Test.YtbenkmihkbjgeaaGreatQu36
import Derived.BigQuiet
import Derived.OwnWalk
/- Slices of structs that came in: what their cells hold. -/
namespace Go.Proofs.YtbenkmihkbjgeaaGreat.Sh
open Go.ChangeShapes Go.WideShapes Go.Deep
end Go.Proofs.YtbenkmihkbjgeaaGreat.Sh
/- An object that came in: what its cells hold. -/
namespace Go.Proofs.YtbenkmihkbjgeaaGreat.Ob
open Go.ChangeShapes Go.WideShapes Go.RowKit Go.Deep Go.Proofs.YtbenkmihkbjgeaaGreat.Sh
open Go.Proofs.YtbenkmihkbjgeaaGreat.Tx (OwnV SlV sv bl nameB reads_at texts_at toList_ne')
theorem str_of (s : ByteArray) : str s.data.toList = s := by
 unfold str
 cases s
 simp
section
variable {H : Type} {enc : TypeId × Value → H} {w : World} {base n : Nat} {held : Bool} {v : Value} {y : DataW H × List MemPlace}
theorem int_in (h : DataW.trod enc Tryz.prog w base (fun _ => true) held n 3 [v] = some y) : ∃ k, v = .int .i64 k := by
 obtain ⟨k, hv, _, _⟩ := DataW.trod_int Tryz.underlying3 h
 simp at hv
 exact ⟨k, hv⟩
theorem str_in (h : DataW.trod enc Tryz.prog w base (fun _ => true) held n 9 [v] = some y) : ∃ s, v = .string (str s) := by
 obtain ⟨s, hv, _, _⟩ := DataW.trod_string Tryz.underlying9 h
 simp at hv
 exact ⟨s.data.toList, by rw [str_of, hv]⟩
end
section
variable {H : Type} {enc : TypeId × Value → H} {w : World} {base n : Nat} {held : Bool} {v : Value} {y : DataW H × List MemPlace}
end
end Go.Proofs.YtbenkmihkbjgeaaGreat.Ob
/- Package scan: tables that came in. -/
set_option linter.unusedVariables false
set_option linter.unusedSimpArgs false
namespace Go.Proofs.YtbenkmihkbjgeaaGreat.Tx
open Go.ChangeShapes Go.WideShapes Go.Deep Go.RowKit Go.Maps Go.Proofs.YtbenkmihkbjgeaaGreat.Sh
section
variable {H : Type} {enc : TypeId × Value → H} {w : World} {base n : Nat} {held : Bool} {v : Value} {y : DataW H × List MemPlace}
theorem three_cells {cs : List Value} (h : cs.length = 3) : ∃ a b c, cs = [a, b, c] := by
 match cs, h with
 | [a, b, c], _ => exact ⟨a, b, c, rfl⟩
theorem row_cells {cs : List Value} (h : DataW.trod enc Tryz.prog w base (fun _ => true) held n 120 cs = some y) : ∃ r : RwM, cs = rwC r := by
 obtain ⟨ys, m, _, _, hcl, hyl, hf⟩ := DataW.trod_struct Tryz.underlying120 h
 have kc0 : Tryz.prog.cellsOf 120 = 3 := by kernel_rfl
 have hl : cs.length = 3 := by rw [hcl, kc0]
 have hy2 : ys.length = 2 := hyl
 obtain ⟨c0, c1, c2, rfl⟩ := three_cells hl
 have k1 : Tryz.prog.cellsOf 9 = 1 := by kernel_rfl
 have k2 : Tryz.prog.cellsOf 70 = 2 := by kernel_rfl
 have k3 : Tryz.prog.cellsOf 3 = 1 := by kernel_rfl
 have h0 : DataW.trod enc Tryz.prog w base (fun _ => true) held m 9 [c0] = some ys[0] := by
  have h0 : DataW.trod enc Tryz.prog w base (fun _ => true) held m 9 (([c0, c1, c2].drop 0).take (Tryz.prog.cellsOf 9)) = ys[0]? := hf 0 _ rfl
  rw [k1, List.getElem?_eq_getElem (by omega)] at h0
  exact h0
 have h1 : DataW.trod enc Tryz.prog w base (fun _ => true) held m 70 [c1, c2] = some ys[1] := by
  have h1 : DataW.trod enc Tryz.prog w base (fun _ => true) held m 70 (([c0, c1, c2].drop 1).take (Tryz.prog.cellsOf 70)) = ys[1]? := hf 1 _ rfl
  rw [k2, List.getElem?_eq_getElem (by omega)] at h1
  exact h1
 obtain ⟨zs, m2, _, _, _, hzl, hg⟩ := DataW.trod_struct Tryz.underlying70 h1
 have hz2 : zs.length = 2 := hzl
 have g0 : DataW.trod enc Tryz.prog w base (fun _ => true) held m2 3 [c1] = some zs[0] := by
  have h0 : DataW.trod enc Tryz.prog w base (fun _ => true) held m2 3 (([c1, c2].drop 0).take (Tryz.prog.cellsOf 3)) = zs[0]? := hg 0 _ rfl
  rw [k3, List.getElem?_eq_getElem (by omega)] at h0
  exact h0
 have g1 : DataW.trod enc Tryz.prog w base (fun _ => true) held m2 9 [c2] = some zs[1] := by
  have h0 : DataW.trod enc Tryz.prog w base (fun _ => true) held m2 9 (([c1, c2].drop 1).take (Tryz.prog.cellsOf 9)) = zs[1]? := hg 1 _ rfl
  rw [k1, List.getElem?_eq_getElem (by omega)] at h0
  exact h0
 obtain ⟨p, rfl⟩ := Ob.str_in h0
 obtain ⟨k, rfl⟩ := Ob.int_in g0
 obtain ⟨i, rfl⟩ := Ob.str_in g1
 exact ⟨⟨p, k, i⟩, rfl⟩
theorem rows_in (h : DataW.trod enc Tryz.prog w base (fun _ => true) held n 51 [v] = some y) : ∃ l, SlR w v l := by
 rcases open_slice Tryz.underlying51 h with ⟨h0, _⟩ | ⟨ad, l, c, m, k, D, Pl, h0, _, hl, hm, hmm, hx, hi⟩
 ·simp at h0
  subst h0
  exact ⟨[], SlR.nil_ w⟩
 ·simp at h0
  subst h0
  have kc : Tryz.prog.cellsOf 120 = 3 := by kernel_rfl
  have key : ∀ i, ∃ r : RwM, i < l → ∀ (j : Nat) (u : Value), (rwC r)[j]? = some u → w.cell? (ad.add (i * 3 + j)) = some u := by
   intro i
   by_cases hil : i < l
   ·obtain ⟨cs, hc, ht'⟩ := hi i (by rw [hmm]; split <;> omega)
    obtain ⟨_, hcl, hat⟩ := World.cells?_some hc
    obtain ⟨r, rfl⟩ := row_cells ht'
    refine ⟨r, fun _ j u hj => ?_⟩
    have hjl : j < 3 := (List.getElem?_eq_some_iff.1 hj).1
    have hcell := hat j (by rw [kc]; exact hjl)
    rw [kc, Go.Deep.add_add, hj] at hcell
    exact hcell
   ·exact ⟨⟨[], 0, []⟩, fun h => absurd h hil⟩
  obtain ⟨f, hf⟩ := Classical.axiomOfChoice key
  have hlen : ((List.range l).map f).length = l := by simp
  refine ⟨(List.range l).map f, some ad, c, by rw [hlen], by rw [hlen]; exact hl, hm, (fun e => by cases e), ?_⟩
  rw [hlen]
  have hfl := rwC_length ((List.range l).map f)
  rw [hlen] at hfl
  refine ⟨hfl, fun h0 => ⟨ad, rfl, ?_, fun j u hj => ?_⟩⟩
  ·have := World.block_lt_of_cell? w _ (hf 0 h0 0 _ rfl)
   rw [block_of_add] at this
   exact this
  ·have hjl := (List.getElem?_eq_some_iff.1 hj).1
   rw [hfl] at hjl
   obtain ⟨q, r, rfl, hr⟩ : ∃ q r, j = q * 3 + r ∧ r < 3 := ⟨j / 3, j % 3, by omega, by omega⟩
   have hk : q < l := by omega
   have hx' : ((List.range l).map f)[q]? = some (f q) := by simp [hk]
   obtain ⟨a0, a1, a2⟩ := rwC_at _ _ _ hx'
   refine hf q hk r u ?_
   have hr' : r = 0 ∨ r = 1 ∨ r = 2 := by omega
   rcases hr' with rfl | rfl | rfl
   ·rw [Nat.add_zero] at hj; rw [a0] at hj; exact hj
   ·rw [a1] at hj; exact hj
   ·rw [a2] at hj; exact hj
end
end Go.Proofs.YtbenkmihkbjgeaaGreat.Tx
/- Package scan: marlaw13.table; marref16.Get. -/
set_option linter.unusedVariables false
set_option linter.unusedSimpArgs false
namespace Go.Proofs.YtbenkmihkbjgeaaGreat.Tx
open Go.RowKit Go.Maps Go.Proofs.YtbenkmihkbjgeaaGreat.Sh
def RwFew (r : RwM) : Prop := r.path.length ≤ 400 ∧ r.id.length ≤ 400
def TabR (l : List RwM) (w : World) (e : Ending) (w' : World) : Prop := ∃ t, e = .returned (.bool t) ∧ (t = true → l.length ≤ 100 ∧ ∀ r ∈ l, RwFew r) ∧ Below w.heap.size w w'
set_option maxRecDepth 100000 in
set_option maxHeartbeats 1600000 in
theorem table_any (v : Value) (l : List RwM) (w : World) (h : SlR w v l) : Calls Tryz.prog 24 #[v] w (TabR l w) := by
 have H := Lib.hid h
 obtain ⟨A, c, rfl, hlc, hcm, _, _⟩ := h
 obtain ⟨n, hn⟩ : ∃ n, l.length = n := ⟨_, rfl⟩
 have HN := Lib.hid hn
 rw [hn] at hlc H ⊢
 unfold maxLen at hcm
 clear hn
 go_enter Tryz.func24, Tryz.ntmps24
 go_wp2_with fail
 go_loopw [3] (fun x wr => ∃ i : Nat, i ≤ n ∧ i ≤ 100 ∧ x = .int .i64 (i : Int) ∧ Below w.heap.size w wr ∧ ∀ (j : Nat) (r : RwM), j < i → l[j]? = some r → RwFew r) (fun x _ => 101 - (intOf x).toNat)
 case atStart => exact ⟨0, Nat.zero_le _, Nat.zero_le _, rfl, Below.refl _ _, fun j s hj => absurd hj (Nat.not_lt_zero _)⟩
 case round =>
  obtain ⟨i, hi, hi2, rfl, hb, hall⟩ := hrel
  have HALL := Lib.hid hall
  have HB := Lib.hid hb
  clear hall hb
  have z0 : (0 : Int) ≤ (i : Int) := by omega
  by_cases hlt : i < n
  ·have z1 : (i : Int) < (n : Int) := by omega
   by_cases h20 : i < 100
   ·have z2 : (i : Int) < 100 := by omega
    have hil : i < l.length := by have := HN.out; omega
    obtain ⟨r, hr⟩ : ∃ r, l[i] = r := ⟨_, rfl⟩
    have HGR : Hid (l[i]? = some r) := by unfold Hid; rw [List.getElem?_eq_getElem hil, hr]
    have hw := H.out.below HB.out
    obtain ⟨A', c', he, _, _, _, hrd⟩ := hw
    injection he with he1 he2 he3
    subst he1
    clear he2 he3
    obtain ⟨ad, rfl, x0, x1, x2⟩ := rows_at hrd rfl i r HGR.out
    obtain ⟨pl, hpl⟩ : ∃ m, r.path.length = m := ⟨_, rfl⟩
    obtain ⟨il, hil2⟩ : ∃ m, r.id.length = m := ⟨_, rfl⟩
    have s0 : (Tx.str r.path).size = pl := by rw [Tx.str_size]; exact hpl
    have s2 : (Tx.str r.id).size = il := by rw [Tx.str_size]; exact hil2
    have HPL := Lib.hid hpl
    have HIL := Lib.hid hil2
    clear hil hr hrd hpl hil2
    by_cases h1 : pl ≤ 400
    ·have z3 : ¬ (400 : Int) < (pl : Int) := by omega
     by_cases h2 : il ≤ 400
     ·have z4 : ¬ (400 : Int) < (il : Int) := by omega
      go_wp2_with fail
      go_roundw
      case rel => exact ⟨i + 1, by omega, by omega, by go_num, HB.out, fun j s' hj hs' => by
       rcases Nat.lt_or_ge j i with h3 | h3
       ·exact HALL.out j s' h3 hs'
       ·have : j = i := by omega
        subst this
        rw [HGR.out] at hs'
        injection hs' with hs'
        rw [← hs']
        exact ⟨by rw [HPL.out]; exact h1, by rw [HIL.out]; exact h2⟩⟩
      case measure => simp [intOf]; omega
     ·have z4 : (400 : Int) < (il : Int) := by omega
      go_wp2_with fail
      go_ret
      exact ⟨false, rfl, (fun e => by cases e), HB.out⟩
    ·have z3 : (400 : Int) < (pl : Int) := by omega
     go_wp2_with fail
     go_ret
     exact ⟨false, rfl, (fun e => by cases e), HB.out⟩
   ·obtain rfl : i = 100 := by omega
    have HF : Hid (l.length ≤ 100 → ∀ s ∈ l, RwFew s) := fun h3 s hs => by
     obtain ⟨j, hj, e⟩ := List.getElem_of_mem hs
     exact HALL.out j s (by omega) (by rw [List.getElem?_eq_getElem hj, e])
    have HB9 := HB
    go_wp2_with fail
    go_ret
    refine ⟨_, rfl, (fun e => ?_), HB.out⟩
    have h3 : l.length ≤ 100 := by
     have := of_decide_eq_true e
     rw [HN.out]; omega
    exact ⟨h3, HF.out h3⟩
  ·obtain rfl : i = n := by omega
   have hfin : l.length ≤ 100 ∧ ∀ s ∈ l, RwFew s := ⟨by rw [HN.out]; exact hi2, fun s hs => by
    obtain ⟨j, hj, e⟩ := List.getElem_of_mem hs
    exact HALL.out j s (by rw [← HN.out]; exact hj) (by rw [List.getElem?_eq_getElem hj, e])⟩
   have HF := Lib.hid hfin
   clear hfin
   go_wp2_with fail
   go_ret
   exact ⟨_, rfl, fun _ => HF.out, HB.out⟩
end Go.Proofs.YtbenkmihkbjgeaaGreat.Tx
/- Package scan's document: Get, same. -/
set_option linter.unusedVariables false
set_option linter.unusedSimpArgs false
namespace Go.Proofs.YtbenkmihkbjgeaaGreat.Tx
open Go.RowKit Go.Maps Go.Proofs.YtbenkmihkbjgeaaGreat.Sh
def entV (x : Int × List UInt8) : Value := .agg #[.int .i64 x.1, .string (Tx.str x.2)]
def getM (l : List RwM) (p : List UInt8) : Int × List UInt8 := match l.find? (fun r => r.path == p) with
 | some r => (r.mode, r.id)
 | none => (0, [])
theorem getM_found {l : List RwM} {p : List UInt8} {i : Nat} {r : RwM} (h : ∀ (j : Nat) (q : RwM), j < i → l[j]? = some q → q.path ≠ p) (hi : l[i]? = some r) (hr : r.path = p) : getM l p = (r.mode, r.id) := by
 have e : l.find? (fun r => r.path == p) = some r := by
  rw [List.find?_eq_some_iff_getElem]
  obtain ⟨hil, he⟩ := List.getElem?_eq_some_iff.1 hi
  refine ⟨by simpa using hr, i, hil, he, fun j hj => ?_⟩
  have := h j l[j] hj (List.getElem?_eq_getElem _)
  simpa using this
 unfold getM
 rw [e]
theorem getM_none {l : List RwM} {p : List UInt8} (h : ∀ (j : Nat) (q : RwM), j < l.length → l[j]? = some q → q.path ≠ p) : getM l p = (0, []) := by
 have e : l.find? (fun r => r.path == p) = none := by
  rw [List.find?_eq_none]
  intro r hr
  obtain ⟨j, hj, he⟩ := List.getElem_of_mem hr
  have := h j r hj (by rw [List.getElem?_eq_getElem hj, he])
  simpa using this
 unfold getM
 rw [e]
def GetP (l : List RwM) (p : List UInt8) (w : World) (e : Ending) (w' : World) : Prop := e = .returned (entV (getM l p)) ∧ Below w.heap.size w w'
set_option maxRecDepth 100000 in
set_option maxHeartbeats 1600000 in
theorem rget_any (v : Value) (l : List RwM) (p : List UInt8) (w : World) (h : SlR w v l) : Calls Tryz.prog 28 #[v, .string (Tx.str p)] w (GetP l p w) := by
 have H := Lib.hid h
 obtain ⟨A, c, rfl, hlc, hcm, _, _⟩ := h
 obtain ⟨n, hn⟩ : ∃ n, l.length = n := ⟨_, rfl⟩
 have HN := Lib.hid hn
 rw [hn] at hlc H ⊢
 unfold maxLen at hcm
 clear hn
 go_enter Tryz.func28, Tryz.ntmps28
 go_upto_region 1 with (fail)
 obtain ⟨w1, hw1⟩ : ∃ W, W = w.alloc (.cells #[.int .i64 0, .string ⟨#[]⟩] 70) := ⟨_, rfl⟩
 obtain ⟨g, hg⟩ : ∃ k, k = w.heap.size := ⟨_, rfl⟩
 rw [← hw1]
 try rw [← hg]
 have hb1 : Below w.heap.size w w1 := by rw [hw1]; exact (Below.refl _ _).alloc (Nat.le_refl _) _
 have HB1 := Lib.hid hb1
 have HR := Lib.hid (H.out.below hb1)
 have HK : Hid (Blk w1 g 70 #[.int .i64 0, .string ⟨#[]⟩]) := by unfold Hid; rw [hw1, hg]; exact heap_alloc_new w _
 have HG : Hid (w.heap.size ≤ g) := Nat.le_of_eq hg.symm
 have HBS : Hid (∀ (W : World) (a : Int) (b : ByteArray), Blk w1 g 70 #[.int .i64 0, .string ⟨#[]⟩] → True) := fun _ _ _ _ => trivial
 clear hw1 hg hb1
 go_wp2_with fail
 go_loopw [5] (fun x wr => ∃ i : Nat, i ≤ n ∧ x = .int .i64 (i : Int) ∧ wr = w1 ∧ ∀ (j : Nat) (q : RwM), j < i → l[j]? = some q → q.path ≠ p) (fun x _ => n - (intOf x).toNat)
 case atStart => exact ⟨0, Nat.zero_le _, rfl, rfl, fun j s hj => absurd hj (Nat.not_lt_zero _)⟩
 case round =>
  obtain ⟨i, hi, rfl, rfl, hall⟩ := hrel
  have HALL := Lib.hid hall
  clear hall
  have z0 : (0 : Int) ≤ (i : Int) := by omega
  have k0 := HK.out.cell 0
  have k1 := HK.out.cell 1
  have kf0 : wr.frozen? ⟨g, 0, none⟩ = false := HK.out.frozen 0
  have kf1 : wr.frozen? ⟨g, 1, none⟩ = false := HK.out.frozen 1
  by_cases hlt : i < n
  ·have z1 : (i : Int) < (n : Int) := by omega
   have hil : i < l.length := by have := HN.out; omega
   obtain ⟨r, hr⟩ : ∃ r, l[i] = r := ⟨_, rfl⟩
   have HGR : Hid (l[i]? = some r) := by unfold Hid; rw [List.getElem?_eq_getElem hil, hr]
   have hw := HR.out
   obtain ⟨A', c', he, _, _, _, hrd⟩ := hw
   injection he with he1 he2 he3
   subst he1
   clear he2 he3
   obtain ⟨ad, rfl, x0, x1, x2⟩ := rows_at hrd rfl i r HGR.out
   clear hil hr hrd
   by_cases hq : r.path = p
   ·have y1 := str_same hq
    have HE := Lib.hid (getM_found HALL.out HGR.out hq)
    clear hq
    go_wp2_with fail
    (try simp only [Exit.inBlock, Exit.then])
    refine bodyPost_ret (results_cell_row (p := 4) (ty := 70) rfl _ _ g 70 #[.int .i64 r.mode, .string (Tx.str r.id)] (0, 0) _ rfl ?_ Tryz.underlying70 rfl (by kernel_rfl)) rfl ⟨by rw [HE.out]; rfl, ?_⟩
    ·have h := (HK.out.set_ 0 (.int .i64 r.mode)).set_ 1 (.string (Tx.str r.id))
     simp at h; exact h
    ·exact (((Only.of_below (M := fun _ => False) HB1.out).set_ (.inr HG.out) _).set_ (.inr HG.out) _).below
   ·have y1 := str_nsame hq
    have HQ := Lib.hid hq
    clear hq
    go_wp2_with fail
    go_roundw
    case rel => exact ⟨i + 1, by omega, by go_num, trivial, fun j s' hj hs' => by
     rcases Nat.lt_or_ge j i with h3 | h3
     ·exact HALL.out j s' h3 hs'
     ·have : j = i := by omega
      subst this
      rw [HGR.out] at hs'
      injection hs' with hs'
      rw [← hs']
      exact HQ.out⟩
    case measure => simp [intOf]; omega
  ·obtain rfl : i = n := by omega
   have HE := Lib.hid (getM_none (l := l) (p := p) (fun j q hj hq => HALL.out j q (by rw [← HN.out]; exact hj) hq))
   go_wp2_with fail
   (try simp only [Exit.inBlock, Exit.then])
   refine bodyPost_ret (results_cell_row (p := 4) (ty := 70) rfl _ _ g 70 #[.int .i64 0, .string ⟨#[]⟩] (0, 0) _ rfl ?_ Tryz.underlying70 rfl (by kernel_rfl)) rfl ⟨by rw [HE.out]; rfl, ?_⟩
   ·have h := (HK.out.set_ 0 (.int .i64 0)).set_ 1 (.string ⟨#[]⟩)
    simp at h; exact h
   ·exact (((Only.of_below (M := fun _ => False) HB1.out).set_ (.inr HG.out) _).set_ (.inr HG.out) _).below
def sameM (x y : Int × List UInt8) : Bool := x.1 == y.1 && x.2 == y.2
set_option maxRecDepth 100000 in
set_option maxHeartbeats 1600000 in
theorem rsame_any (x y : Int × List UInt8) (w : World) : Calls Tryz.prog 100 #[entV x, entV y] w (BoolPost w (sameM x y)) := by
 obtain ⟨m, i⟩ := x
 obtain ⟨k, j⟩ := y
 unfold entV
 obtain ⟨t, ht⟩ : ∃ t, sameM (m, i) (k, j) = t := ⟨_, rfl⟩
 rw [ht]
 have HT := Lib.hid ht
 unfold sameM at ht
 dsimp only at ht ⊢
 by_cases h1 : m = k
 ·subst h1
  by_cases h2 : i = j
  ·subst h2
   have ht' : t = true := by rw [← ht]; simp
   subst ht'
   have y1 := str_same (rfl : i = i)
   clear ht
   go_enter Tryz.func100, Tryz.ntmps100
   go_wp2_with fail
   go_ret
   exact ⟨rfl, ((Below.refl _ _).alloc (Nat.le_refl _) _).alloc (by simp) _⟩
  ·have ht' : t = false := by rw [← ht]; simp [h2]
   subst ht'
   have y1 := str_nsame h2
   clear ht h2
   go_enter Tryz.func100, Tryz.ntmps100
   go_wp2_with fail
   go_ret
   exact ⟨rfl, ((Below.refl _ _).alloc (Nat.le_refl _) _).alloc (by simp) _⟩
 ·have ht' : t = false := by rw [← ht]; simp [h1]
  subst ht'
  have y0 : (m == k) = false := by simpa using h1
  clear ht
  go_enter Tryz.func100, Tryz.ntmps100
  go_wp2_with fail
  go_ret
  exact ⟨rfl, ((Below.refl _ _).alloc (Nat.le_refl _) _).alloc (by simp) _⟩
end Go.Proofs.YtbenkmihkbjgeaaGreat.Tx
/- Package scan: what an index says of a path. -/
set_option linter.unusedVariables false
set_option linter.unusedSimpArgs false
namespace Go.Proofs.YtbenkmihkbjgeaaGreat.Tx
open Go.RowKit Go.Maps Go.Proofs.YtbenkmihkbjgeaaGreat.Sh
def notedV (k : KnM) : Value := .agg #[.int .i64 k.time, .string (Tx.str k.id)]
def zeroN : Value := .agg #[.int .i64 0, .string ⟨#[]⟩]
theorem zeroNoted (w : World) : (zeroValue 125).run Tryz.prog w = .ok zeroN w := by kernel_rfl
structure IxAt (w : World) (x : Nat) (X : IxM) (m : Option Nat) : Prop where
 blk : Blk w x 102 #[.map m, .int .i64 X.at_]
 none_ : m = none → X.files = []
 map_ : ∀ b, m = some b → ∃ D, OwnF w b D ∧ KnOK X.files D
section
variable {w w' : World} {x : Nat} {X : IxM} {m : Option Nat} {M : Nat → Prop}
theorem IxAt.only (h : IxAt w x X m) (ho : Only M w w') (hx : ¬ M x) (hm : ∀ b, m = some b → ¬ M b) : IxAt w' x X m := by
 refine ⟨ho.blk h.blk hx, h.none_, fun b hb => ?_⟩
 obtain ⟨D, h1, h2⟩ := h.map_ b hb
 exact ⟨D, own_only h1 ho (hm b hb), h2⟩
theorem IxAt.below (h : IxAt w x X m) (hb : Below w.heap.size w w') : IxAt w' x X m := h.only (Only.of_below (M := fun _ => False) hb) id (fun _ _ => id)
theorem IxAt.lt (h : IxAt w x X m) : x < w.heap.size ∧ ∀ b, m = some b → b < w.heap.size ∧ b ≠ x := ⟨h.blk.lt, fun b hb => by
 obtain ⟨D, h1, _⟩ := h.map_ b hb
 exact ⟨h1.lt, own_cells h1 h.blk⟩⟩
end
theorem KnOK.look {l : List KnM} {D : DataW Value} (h : KnOK l D) (p : List UInt8) : ∀ v ps, hv v = some (D.atKey (.string p) (.held zeroN), ps) → v = ((knF l p).map notedV).getD zeroN := by
 intro v ps hv'
 cases hp : knF l p with
 | none =>
  rw [Maps.atKey_of_not_has (by rw [h.has_, hp]; rfl)] at hv'
  unfold hv at hv'
  injection hv' with hv'
  injection hv' with h3 _
  injection h3
 | some k =>
  rw [h.at_ p k hp] at hv'
  unfold hv at hv'
  injection hv' with hv'
  injection hv' with h3 _
  injection h3
def IxSays (w : World) (X : IxM) (p : List UInt8) (t : Int) (e : Ending) (w' : World) : Prop :=
 Below w.heap.size w w' ∧ ((∃ id, ixL X p t = some id ∧ e = .returned (.tuple #[.string (Tx.str id), .bool true])) ∨ (ixL X p t = none ∧ e = .returned (.tuple #[.string ⟨#[]⟩, .bool false])))
set_option maxRecDepth 100000 in
set_option maxHeartbeats 1600000 in
theorem xhash_any {w : World} {x : Nat} {X : IxM} {m : Option Nat} (p : List UInt8) (t : Int) (h : IxAt w x X m) (hp : p.length ≤ 1000000) :
  Calls Tryz.prog 160 #[.pointer (some ⟨x, 0, none⟩), .string (Tx.str p), .int .i64 t] w (IxSays w X p t) := by
 have c0 : w.cell? ⟨x, 0, none⟩ = some (.map m) := h.blk.cell 0
 have c1 : w.cell? ⟨x, 1, none⟩ = some (.int .i64 X.at_) := h.blk.cell 1
 obtain ⟨fl, a⟩ := X
 replace c1 : w.cell? ⟨x, 1, none⟩ = some (.int .i64 a) := c1
 have HB : Hid (∀ o, Below w.heap.size w (w.alloc o)) := fun o => (Below.refl _ _).alloc (Nat.le_refl _) _
 have hxl := h.blk.lt
 cases m with
 | none =>
  have HN : Hid (ixL ⟨fl, a⟩ p t = none) := by
   have e : fl = [] := h.none_ rfl
   unfold Hid ixL knF
   rw [e]
   rfl
  have kn : ∀ W : World, (Instr.lookup 100 (.map none) (.string (Tx.str p)) true).run Tryz.prog W = .ok (.tuple #[.agg #[.int .i64 0, .string ⟨#[]⟩], .bool false]) W := fun W => Maps.look_nil (w := W) true lawS Tryz.underlying100 (zeroNoted W) (key_str p hp)
  clear h
  go_enter Tryz.func160, Tryz.ntmps160
  go_wp2_with fail
  go_ret2
  exact ⟨HB.out _, .inr ⟨HN.out, rfl⟩⟩
 | some b =>
  obtain ⟨D, hown, hkn⟩ := h.map_ b rfl
  have HOWN := Lib.hid hown
  have HKEY := Lib.hid (key_str p hp)
  have HLOOK := Lib.hid (hkn.look p)
  have hhas := hkn.has_ p
  clear h hown hkn
  cases hk : knF fl p with
  | none =>
   rw [hk] at HLOOK hhas
   have HN : Hid (ixL ⟨fl, a⟩ p t = none) := by unfold Hid ixL; dsimp only; rw [hk]
   have hh : Maps.has D (.string p) = false := hhas
   clear hhas hk
   go_enter Tryz.func160, Tryz.ntmps160
   go_wp2_with (at_lookup; refine wpList_lookup_own_ok _ rfl _ _ 100 rfl 9 125 lawS Tryz.underlying100 hv (zeroNoted _) (.held zeroN) [] rfl b _ D rfl (by exact HOWN.out) _ (.string p) rfl (by exact HKEY.out) ?_; intro v ps hv'; obtain rfl : v = zeroN := HLOOK.out v ps hv'; rw [hh]; unfold zeroN; clear hv')
   go_ret2
   exact ⟨HB.out _, .inr ⟨HN.out, rfl⟩⟩
  | some k =>
   rw [hk] at HLOOK hhas
   have hh : Maps.has D (.string p) = true := hhas
   obtain ⟨kp, kt, ki⟩ := k
   have hx : ixL ⟨fl, a⟩ p t = if kt = t ∧ t < a then some ki else none := by unfold ixL; dsimp only; rw [hk]
   have HX := Lib.hid hx
   clear hhas hk hx
   by_cases ht : kt = t
   ·subst ht
    have y0 : (kt != kt) = false := by simp
    by_cases ha : kt < a
    ·have y1 : decide (a ≤ kt) = false := decide_eq_false (by omega)
     have HV : Hid (ixL ⟨fl, a⟩ p kt = some ki) := by unfold Hid; rw [HX.out, if_pos ⟨rfl, ha⟩]
     clear ha
     go_enter Tryz.func160, Tryz.ntmps160
     go_wp2_with (at_lookup; refine wpList_lookup_own_ok _ rfl _ _ 100 rfl 9 125 lawS Tryz.underlying100 hv (zeroNoted _) (.held zeroN) [] rfl b _ D rfl (by exact HOWN.out) _ (.string p) rfl (by exact HKEY.out) ?_; intro v ps hv'; obtain rfl : v = .agg #[.int .i64 kt, .string (Tx.str ki)] := HLOOK.out v ps hv'; rw [hh]; clear hv')
     go_ret2
     exact ⟨HB.out _, .inl ⟨ki, HV.out, rfl⟩⟩
    ·have y1 : decide (a ≤ kt) = true := decide_eq_true (by omega)
     have HV : Hid (ixL ⟨fl, a⟩ p kt = none) := by unfold Hid; rw [HX.out, if_neg (fun h => ha h.2)]
     clear ha
     go_enter Tryz.func160, Tryz.ntmps160
     go_wp2_with (at_lookup; refine wpList_lookup_own_ok _ rfl _ _ 100 rfl 9 125 lawS Tryz.underlying100 hv (zeroNoted _) (.held zeroN) [] rfl b _ D rfl (by exact HOWN.out) _ (.string p) rfl (by exact HKEY.out) ?_; intro v ps hv'; obtain rfl : v = .agg #[.int .i64 kt, .string (Tx.str ki)] := HLOOK.out v ps hv'; rw [hh]; clear hv')
     go_ret2
     exact ⟨HB.out _, .inr ⟨HV.out, rfl⟩⟩
   ·have y0 : (kt != t) = true := by simpa using ht
    have HV : Hid (ixL ⟨fl, a⟩ p t = none) := by unfold Hid; rw [HX.out, if_neg (fun h => ht h.1)]
    clear ht
    go_enter Tryz.func160, Tryz.ntmps160
    go_wp2_with (at_lookup; refine wpList_lookup_own_ok _ rfl _ _ 100 rfl 9 125 lawS Tryz.underlying100 hv (zeroNoted _) (.held zeroN) [] rfl b _ D rfl (by exact HOWN.out) _ (.string p) rfl (by exact HKEY.out) ?_; intro v ps hv'; obtain rfl : v = .agg #[.int .i64 kt, .string (Tx.str ki)] := HLOOK.out v ps hv'; rw [hh]; clear hv')
    go_ret2
    exact ⟨HB.out _, .inr ⟨HV.out, rfl⟩⟩
end Go.Proofs.YtbenkmihkbjgeaaGreat.Tx
/- Package scan: what a scan holds; a file's hash. -/
set_option linter.unusedVariables false
set_option linter.unusedSimpArgs false
namespace Go.Proofs.YtbenkmihkbjgeaaGreat.Tx
open Go.RowKit Go.Maps Go.Proofs.YtbenkmihkbjgeaaGreat.Sh
theorem OwnR.only {T : TypeId} {M : Nat → Prop} {w w' : World} {B : Nat} {v : Value} {l : List RwM} (h : OwnR T w B v l) (ho : Only M w w') (hn : ∀ k, v.ownBlock = some k → ¬ M k) : OwnR T w' B v l := by
 rcases h with ⟨h0, h1 | ⟨g, cap, cur, hv, hb, hg, hc, hm, hcs, htk⟩⟩
 ·exact ⟨h0, .inl h1⟩
 ·subst hv
  have hl : g < w.heap.size := by
   have := (Array.getElem?_eq_some_iff.1 hg).1
   exact this
  exact ⟨h0, .inr ⟨g, cap, cur, rfl, hb, (ho.block g hl (hn g rfl)).trans hg, hc, hm, hcs, htk⟩⟩
structure ScA (w wx : World) (b s x g bf : Nat) (m : Option Nat) (rv : Value) (Z : Nat → Prop) (c : CSt) (X : IxM) (rows : List RwM) (files : List KnM) (n : Nat) : Prop where
 st : StAt w wx b c s Z
 ix : IxAt wx x X m
 blk : Blk wx g 106 #[.pointer (some ⟨b, 0, none⟩), .pointer (some ⟨s, 0, none⟩), .pointer (some ⟨x, 0, none⟩), rv, .map (some bf), .int .i64 (n : Int)]
 rows : OwnR 120 wx w.heap.size rv rows
 fil : ∃ D, OwnF wx bf D ∧ KnOK files D
 zx : Z x ∧ ∀ k, m = some k → Z k
 zg : Z g ∧ w.heap.size ≤ g
 zb : Z bf ∧ w.heap.size ≤ bf
 zr : ∀ k, rv.ownBlock = some k → Z k
section
variable {w wx w2 : World} {b s x g bf i : Nat} {m : Option Nat} {rv : Value} {Z Z' : Nat → Prop} {c c' : CSt} {X : IxM} {rows : List RwM} {files : List KnM} {n : Nat}
theorem ScA.step (h : ScA w wx b s x g bf m rv Z c X rows files n) (hs : StAt w w2 b c' s Z) (hk : Keeps w Z wx w2) : ScA w w2 b s x g bf m rv Z c' X rows files n := by
 obtain ⟨D, h1, h2⟩ := h.fil
 exact ⟨hs, h.ix.only hk (fun hn => hn.1 h.zx.1) (fun k hk' hn => hn.1 (h.zx.2 k hk')), Only.blk hk h.blk (fun hn => hn.1 h.zg.1), h.rows.only hk (fun k hk' hn => hn.1 (h.zr k hk')), ⟨D, own_only h1 hk (fun hn => hn.1 h.zb.1), h2⟩, h.zx, h.zg, h.zb, h.zr⟩
theorem ScA.below (h : ScA w wx b s x g bf m rv Z c X rows files n) (hb : Below wx.heap.size wx w2) : ScA w w2 b s x g bf m rv Z c X rows files n := h.step (h.st.below hb) (Keeps.of_below hb)
theorem ScA.fresh (h : ScA w wx b s x g bf m rv Z c X rows files n) (hb : Below wx.heap.size wx w2) : ScA w w2 b s x g bf m rv (fun k => Z k ∨ (wx.heap.size ≤ k ∧ k < w2.heap.size)) c X rows files n :=
 have h1 := h.below hb
 ⟨h.st.fresh hb, h1.ix, h1.blk, h1.rows, h1.fil, ⟨.inl h1.zx.1, fun k hk => .inl (h1.zx.2 k hk)⟩, ⟨.inl h1.zg.1, h1.zg.2⟩, ⟨.inl h1.zb.1, h1.zb.2⟩, fun k hk => .inl (h1.zr k hk)⟩
theorem ScA.fewer (h : ScA w wx b s x g bf m rv Z c X rows files n) (hz : ∀ k, Z' k → Z k) (h1 : Z' x ∧ ∀ k, m = some k → Z' k) (h2 : Z' g) (h3 : Z' bf) (h4 : ∀ k, rv.ownBlock = some k → Z' k) : ScA w wx b s x g bf m rv Z' c X rows files n :=
 ⟨h.st.fewer hz, h.ix, h.blk, h.rows, h.fil, h1, ⟨h2, h.zg.2⟩, ⟨h3, h.zb.2⟩, h4⟩
theorem ScA.g_x (h : ScA w wx b s x g bf m rv Z c X rows files n) : s ≠ g := fun e => h.st.2.1.2 (e ▸ h.zg.1)
theorem ScA.count (h : ScA w wx b s x g bf m rv Z c X rows files n) (hgx : g ≠ x) (n' : Nat) : ScA w (wx.setCell ⟨g, 5, none⟩ (.int .i64 (n' : Int))) b s x g bf m rv Z c X rows files n' := by
 have ho : Only (fun k => k = g) wx (wx.setCell ⟨g, 5, none⟩ (.int .i64 (n' : Int))) := (Only.refl (fun k => k = g) wx).set_ (.inl rfl) _
 obtain ⟨D, h1, h2⟩ := h.fil
 obtain ⟨z1, z2, r, z3⟩ := h.st
 have hb := h.blk.set_ 5 (.int .i64 (n' : Int))
 refine ⟨⟨z1.upd ho (.inl h.zg.1) h.zg.2, z2, r, ho.blk z3 h.g_x⟩, h.ix.only ho (fun e => hgx e.symm) (fun k hk e => by
  obtain ⟨D', g1, _⟩ := h.ix.map_ k hk
  exact own_cells g1 h.blk e), by simpa using hb, h.rows.only ho (fun k hk e => by
  subst e
  rcases h.rows.2 with ⟨e0, _⟩ | ⟨g', cap, cur, hv, _, hg', _⟩
  ·rw [e0] at hk; cases hk
  ·rw [hv] at hk
   injection hk with hk
   subst hk
   have := h.blk
   unfold Blk at this
   rw [hg'] at this
   injection this with this
   injection this with _ t1 _
   exact absurd t1 (by decide)), ⟨D, own_only h1 ho (fun e => own_cells h1 h.blk e), h2⟩, h.zx, h.zg, h.zb, h.zr⟩
end
end Go.Proofs.YtbenkmihkbjgeaaGreat.Tx
