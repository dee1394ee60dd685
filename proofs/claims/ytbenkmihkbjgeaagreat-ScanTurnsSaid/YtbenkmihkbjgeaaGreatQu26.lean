/- Texts put together: URf0, UCv0, URf4, URf5, UGd2, UGd3, UGd4, UGe0, UGe1, UGe2, UGe3, URf6, URf7, USr2, USr3, USr4. -/
import Derived.Test.YtbenkmihkbjgeaaGreatQu24
import Derived.Test.YtbenkmihkbjgeaaGreatQu06
import Derived.Test.YtbenkmihkbjgeaaGreatQu25
import Derived.Test.YtbenkmihkbjgeaaGreatQu05
import Derived.Lib.ConvBytes
import Derived.Laws.AppendOwn
import Derived.Test.YtbenkmihkbjgeaaGreatQu18
import Derived.Lib.SlBytesConst
import Derived.IntWalk
/- Package refs: places, what lies there. -/
set_option linter.unusedVariables false
set_option linter.unusedSimpArgs false
namespace Go.Proofs.YtbenkmihkbjgeaaGreat.Tx
open Go.RowKit Go.Maps Go.Proofs.YtbenkmihkbjgeaaGreat.Sh
theorem red_short {c : CSt} {N : Nat} (h : CReady c N) (p : List UInt8) : (redF c p).data.length ≤ 20000 := by
 unfold redF
 split
 ·exact peek_short h.small.hrow p
 ·decide
end Go.Proofs.YtbenkmihkbjgeaaGreat.Tx
/- A text made bytes ('[]byte(s)'). (No package's code in it.) -/
set_option linter.unusedVariables false
set_option linter.unusedSimpArgs false
namespace Go.Proofs.YtbenkmihkbjgeaaGreat.Tx
open Go.RowKit Go.Proofs.YtbenkmihkbjgeaaGreat.Sh
end Go.Proofs.YtbenkmihkbjgeaaGreat.Tx
/- Package refs: Set, Delete. -/
set_option linter.unusedVariables false
set_option linter.unusedSimpArgs false
namespace Go.Proofs.YtbenkmihkbjgeaaGreat.Tx
open Go.RowKit Go.Maps Go.Proofs.YtbenkmihkbjgeaaGreat.Sh
end Go.Proofs.YtbenkmihkbjgeaaGreat.Tx
/- Package refs: Delete, List, Unlock. -/
set_option linter.unusedVariables false
set_option linter.unusedSimpArgs false
namespace Go.Proofs.YtbenkmihkbjgeaaGreat.Tx
open Go.RowKit Go.Maps Go.Proofs.YtbenkmihkbjgeaaGreat.Sh
theorem trim_any (dir p : List UInt8) (w : World) : Calls Tryz.prog 34 #[.string (Tx.str p), .string (Tx.str (dir ++ [47]))] w fun e w' => e = .returned (.string (Tx.str (lastN dir p))) ∧ w = w' := by
 refine (Tryz.strings_TrimPrefix (str p) (str (dir ++ [47])) w).mono ?_
 rintro e w' ⟨rfl, rfl⟩
 refine ⟨?_, rfl⟩
 have e1 : ∀ x : List UInt8, (str x).data.toList = x := fun x => by unfold str; simp
 rw [e1, e1]
 unfold lastN Lib.trimPrefix Lib.hasPrefix str
 rw [List.length_append]
 rfl
theorem lis_short {c : CSt} {N : Nat} (h : CReady c N) (dir : List UInt8) : (lisO c dir).length ≤ 900000 ∧ ∀ p ∈ lisO c dir, p.length ≤ 1000 := by
 have hs := h.small
 unfold lisO
 split
 ·unfold listC
  refine ⟨?_, fun p hp => ?_⟩
  ·refine Nat.le_trans (List.length_filter_le _ _) ?_
   unfold pathsM
   rw [List.length_map]
   exact hs.here
  ·have hp := (List.mem_filter.1 hp).1
   unfold pathsM at hp
   obtain ⟨r, hr, rfl⟩ := List.mem_map.1 hp
   exact (hs.hrow r hr).1
 ·exact ⟨by decide, fun p hp => by cases hp⟩
theorem last_le (dir p : List UInt8) : (lastN dir p).length ≤ p.length := by
 unfold lastN
 split
 ·rw [List.length_drop]; omega
 ·exact Nat.le_refl _
def refD : List UInt8 := [115, 47, 114]
def lockD : List UInt8 := [115, 47, 108]
def ulkE (c : CSt) : Int := if lisE c lockD = 0 then unlE (bgC c).c (rlsV c lockD) else lisE c lockD
def ulkC (c : CSt) : CSt := if lisE c lockD = 0 then unlC (bgC c).c (rlsV c lockD) else (bgC c).c
def ulkN (c : CSt) : Int := if ulkE c = 0 then ((rlsV c lockD).length : Int) else 0
def UInv (F M M1 : Nat → Prop) (w w2 : World) (b : Nat) (c : CSt) (wr : World) : Prop :=
 ∃ Mk, FcAt (grow F w wr Mk) wr b c Mk ∧ Only M w wr ∧ (∀ q, Mk q → M q ∨ w.heap.size ≤ q) ∧ Only M1 w2 wr ∧ ∀ q, Mk q → M1 q ∨ w2.heap.size ≤ q
end Go.Proofs.YtbenkmihkbjgeaaGreat.Tx
/- What the laws' operations make of the document's file system: how great it may grow. (No Go in it.) -/
namespace Go.Proofs.YtbenkmihkbjgeaaGreat.Tx
end Go.Proofs.YtbenkmihkbjgeaaGreat.Tx
/- marlaw5.first. -/
namespace Go.Proofs.YtbenkmihkbjgeaaGreat.Tx
open Go.RowKit Go.Maps Go.Proofs.YtbenkmihkbjgeaaGreat.Sh
theorem by_new (w : World) (bs : List UInt8) (cs : Array Value) (T : TypeId) (mk : Nat × Nat) (hcs : cs.toList = bs.map bv) (m : Nat) (hm : bs.length = m) (hs : m ≤ 1000) : By (fun k => k = w.heap.size) (w.alloc (.cells cs T mk)) (.slice (some ⟨w.heap.size, 0, none⟩) m m) bs := by
 refine ⟨some ⟨w.heap.size, 0, none⟩, m, by rw [hm], by omega, by unfold maxLen; omega, by simp, (fun h => by cases h), fun _ => ⟨_, rfl, rfl, by simp, fun j u hu => ?_⟩⟩
 rw [Addr.add_mid, cell_of_row _ _ _ cs T mk (heap_alloc_new w _), Nat.zero_add, ← hu, ← hcs]
 simp
def Mine (w w1 : World) (b : Nat) (c : CSt) : Prop := ∃ F M, FcAt F w1 b c M ∧ (∀ k, M k → w.heap.size ≤ k) ∧ Below w.heap.size w w1
def fst1 : CSt := crtC (newC 100) [97] 1 [120] true
def fst2 : CSt := synC fst1
def fst3 : CSt := crtC fst2 [97] 1 [121, 122] false
def fst4 : CSt := crC fst3 0 1
def fst5 : CSt := { fst4 with down := false }
end Go.Proofs.YtbenkmihkbjgeaaGreat.Tx
/- What marlaw5.Does calls: both file systems taken apart; bounds of the document's calls; marref.Bytes. -/
namespace Go.Proofs.YtbenkmihkbjgeaaGreat.Tx
open Go.RowKit Go.Maps Go.Proofs.YtbenkmihkbjgeaaGreat.Sh
section
variable {F M G : Nat → Prop} {w : World} {b N : Nat} {s : FSM}
end
end Go.Proofs.YtbenkmihkbjgeaaGreat.Tx
/- marlaw5.file; marref.Texts of any two lists. -/
namespace Go.Proofs.YtbenkmihkbjgeaaGreat.Tx
open Go.RowKit Go.Maps Go.Proofs.YtbenkmihkbjgeaaGreat.Sh
end Go.Proofs.YtbenkmihkbjgeaaGreat.Tx
/- One call of either file system, one behind the other. -/
namespace Go.Proofs.YtbenkmihkbjgeaaGreat.Tx
open Go.RowKit Go.Maps Go.Proofs.YtbenkmihkbjgeaaGreat.Sh
section
variable {F M Mf Mx G : Nat → Prop} {w w1 w2 : World} {b d : Nat} {c c' : CSt} {s s' : FSM}
end
end Go.Proofs.YtbenkmihkbjgeaaGreat.Tx
/- marlaw5.FewEvents, flag. -/
namespace Go.Proofs.YtbenkmihkbjgeaaGreat.Tx
open Go.RowKit Go.Maps Go.Proofs.YtbenkmihkbjgeaaGreat.Sh
end Go.Proofs.YtbenkmihkbjgeaaGreat.Tx
/- The laws' operations in memory; marlaw5.Few. -/
namespace Go.Proofs.YtbenkmihkbjgeaaGreat.Tx
open Go.RowKit Go.Maps Go.Proofs.YtbenkmihkbjgeaaGreat.Sh
structure OpCells (G : Nat → Prop) (w : World) (a : Addr) (o : LOp) (dv pv : Value) : Prop where
 data : By G w dv o.data
 plan : InL evK G w pv o.plan
 kind : w.cell? a = some (.int .i64 o.kind)
 mode : w.cell? ⟨a.block, a.off + 1, none⟩ = some (.int .i64 o.mode)
 keep : w.cell? ⟨a.block, a.off + 2, none⟩ = some (.int .i64 o.keep)
 torn : w.cell? ⟨a.block, a.off + 3, none⟩ = some (.int .i64 o.torn)
 path : w.cell? ⟨a.block, a.off + 4, none⟩ = some (.string (str o.path))
 dest : w.cell? ⟨a.block, a.off + 5, none⟩ = some (.string (str o.dest))
 dcell : w.cell? ⟨a.block, a.off + 6, none⟩ = some dv
 pcell : w.cell? ⟨a.block, a.off + 7, none⟩ = some pv
def OpsF (G : Nat → Prop) (w : World) (v : Value) (l : List LOp) : Prop := ∃ A c, v = .slice A l.length c ∧ l.length ≤ c ∧ c ≤ maxLen ∧ ∀ k o, l[k]? = some o → ∃ ad dv pv, A = some ad ∧ G ad.block ∧ ad.block < w.heap.size ∧ OpCells G w (ad.add (k * 8)) o dv pv
theorem addr_block (a : Addr) (n : Nat) : (a.add n).block = a.block := by unfold Addr.add; split <;> rfl
structure OpFew (o : LOp) : Prop where
 path : o.path.length ≤ 400
 dest : o.dest.length ≤ 400
 plan : o.plan.length ≤ 60
 paths : ∀ e ∈ o.plan, e.path.length ≤ 400
end Go.Proofs.YtbenkmihkbjgeaaGreat.Tx
/- marlaw8.first. -/
set_option linter.unusedVariables false
set_option linter.unusedSimpArgs false
namespace Go.Proofs.YtbenkmihkbjgeaaGreat.Tx
open Go.RowKit Go.Maps Go.Proofs.YtbenkmihkbjgeaaGreat.Sh
theorem sl_of {w : World} {v : Value} {bs : List UInt8} (h : SlV w v (bs.map bv)) : Sl w v bs := by
 obtain ⟨A, c, hv, h1, h2, h3⟩ := h.len
 rw [List.length_map] at hv h1 h3
 refine ⟨A, c, hv, h1, h2, fun h0 => ?_, fun hA => ?_⟩
 ·obtain ⟨ad, hA, hc⟩ := reads_at h3 0 (bv (bs.getD 0 0)) (by rw [List.getElem?_map, List.getElem?_eq_getElem h0, List.getD_eq_getElem?_getD, List.getElem?_eq_getElem h0]; rfl)
  refine ⟨ad, hA, ?_, fun j hj => ?_⟩
  ·have := World.block_lt_of_cell? w _ hc
   rw [addr_block] at this
   exact this
  ·obtain ⟨ad', hA', hc'⟩ := reads_at h3 j (bv (bs.getD j 0)) (by rw [List.getElem?_map, List.getElem?_eq_getElem hj, List.getD_eq_getElem?_getD, List.getElem?_eq_getElem hj]; rfl)
   rw [hA] at hA'
   injection hA' with hA'
   subst hA'
   rw [hc']
   unfold bv
   rw [Tx.bi_nat]
   unfold Sh.bi
   rfl
 ·subst hA
  by_cases h0 : 0 < bs.length
  ·obtain ⟨ad, hA, _⟩ := reads_at h3 0 (bv (bs.getD 0 0)) (by rw [List.getElem?_map, List.getElem?_eq_getElem h0, List.getD_eq_getElem?_getD, List.getElem?_eq_getElem h0]; rfl)
   cases hA
  ·exact List.eq_nil_of_length_eq_zero (by omega)
section
variable {w w1 : World} {b : Nat} {c : CSt} {i : Nat}
theorem idc_any (v : Value) (bs : List UInt8) (w : World) (h : SlV w v (bs.map bv)) (hn : bs.length ≤ 1000000) : Calls Tryz.prog 138 #[v] w fun e w' => e = .returned (.string (Tx.str (hexL (sumOf bs)))) ∧ Below w.heap.size w w' :=
 id_any v bs w (sl_of h) (by omega)
end
def MineK (w w1 : World) (b : Nat) (c : CSt) (g : Nat) (T : TypeId) (cs : Array Value) : Prop := ∃ F M, FcAt F w1 b c M ∧ (∀ k, M k → w.heap.size ≤ k) ∧ Below w.heap.size w w1 ∧ ¬ M g ∧ Blk w1 g T cs
section
variable {w w1 w2 : World} {b g : Nat} {c c' : CSt} {T : TypeId} {cs : Array Value} {i : Nat}
end
end Go.Proofs.YtbenkmihkbjgeaaGreat.Tx
/- A file system of one's own, and blocks beside it that its calls leave alone; a map of texts. -/
set_option linter.unusedVariables false
set_option linter.unusedSimpArgs false
namespace Go.Proofs.YtbenkmihkbjgeaaGreat.Tx
open Go.RowKit Go.Maps Go.Proofs.YtbenkmihkbjgeaaGreat.Sh
def MineP (w w1 : World) (b : Nat) (c : CSt) (Z : Nat → Prop) : Prop := ∃ F M, FcAt F w1 b c M ∧ (∀ k, M k → w.heap.size ≤ k) ∧ Below w.heap.size w w1 ∧ ∀ k, Z k → ¬ F k ∧ ¬ M k ∧ k < w1.heap.size
section
variable {w w1 w2 : World} {b g i : Nat} {c c' : CSt} {Z Z' : Nat → Prop}
theorem MineP.bel (h : MineP w w1 b c Z) : Below w.heap.size w w1 := by
 obtain ⟨F, M, _, _, h3, _⟩ := h
 exact h3
theorem MineP.start (h : Mine w w1 b c) : MineP w w1 b c (fun _ => False) := by
 obtain ⟨F, M, h1, h2, h3⟩ := h
 exact ⟨F, M, h1, h2, h3, fun k hk => hk.elim⟩
theorem MineP.fewer (h : MineP w w1 b c Z) (hz : ∀ k, Z' k → Z k) : MineP w w1 b c Z' := by
 obtain ⟨F, M, h1, h2, h3, h4⟩ := h
 exact ⟨F, M, h1, h2, h3, fun k hk => h4 k (hz k hk)⟩
theorem MineP.below (h : MineP w w1 b c Z) (hb : Below w1.heap.size w1 w2) : MineP w w2 b c Z := by
 obtain ⟨F, M, h1, h2, h3, h4⟩ := h
 exact ⟨F, M, h1.below hb, h2, h3.trans (hb.mono h3.size), fun k hk => ⟨(h4 k hk).1, (h4 k hk).2.1, Nat.lt_of_lt_of_le (h4 k hk).2.2 hb.size⟩⟩
theorem MineP.add (h : MineP w w1 b c Z) (o : Obj) : MineP w (w1.alloc o) b c (fun k => Z k ∨ k = w1.heap.size) := by
 have hb : Below w1.heap.size w1 (w1.alloc o) := (Below.refl _ _).alloc (Nat.le_refl _) _
 obtain ⟨F, M, h1, h2, h3, h4⟩ := h
 refine ⟨F, M, h1.below hb, h2, h3.trans (hb.mono h3.size), fun k hk => ?_⟩
 rcases hk with hk | rfl
 ·exact ⟨(h4 k hk).1, (h4 k hk).2.1, Nat.lt_of_lt_of_le (h4 k hk).2.2 hb.size⟩
 ·refine ⟨fun hf => ?_, fun hm => ?_, by simp⟩
  ·have := h1.low _ hf; omega
  ·have := h1.lt _ hm; omega
theorem MineP.upd (h : MineP w w1 b c Z) (ho : Only (fun k => k = g) w1 w2) (hg : Z g) (hgw : w.heap.size ≤ g) : MineP w w2 b c Z := by
 obtain ⟨F, M, h1, h2, h3, h4⟩ := h
 obtain ⟨g1, g2, g3⟩ := h4 g hg
 refine ⟨F, M, h1.only ho (fun k hk e => g1 (e ▸ hk)) (fun k hk e => g2 (e ▸ hk)), h2, ((Only.of_below (M := fun _ => False) h3).trans ho (fun k hk => .inr (by rw [hk]; exact hgw))).below, fun k hk => ⟨(h4 k hk).1, (h4 k hk).2.1, Nat.lt_of_lt_of_le (h4 k hk).2.2 ho.size⟩⟩
theorem MineP.of {F M : Nat → Prop} (hM : ∀ k, M k → w.heap.size ≤ k) (hb : Below w.heap.size w w1) (hz : ∀ k, Z k → ¬ F k ∧ ¬ M k ∧ k < w1.heap.size) (h : FcPost F M w1 b c' w2) : MineP w w2 b c' Z ∧ Only (fun k => ¬ Z k) w1 w2 := by
 obtain ⟨M', h1, h2, h3⟩ := h
 have hzz := hb.size
 refine ⟨⟨_, M', h1, fun k hk => ?_, ((Only.of_below (M := fun _ => False) hb).trans h2 (fun k hk => .inr (hM k hk))).below, fun k hk => ?_⟩, h2.more (fun k _ hm hk => (hz k hk).2.1 hm)⟩
 ·rcases h3 k hk with h4 | h4
  ·exact hM k h4
  ·omega
 ·obtain ⟨g1, g2, g3⟩ := hz k hk
  refine ⟨fun hf => ?_, fun hm => ?_, Nat.lt_of_lt_of_le g3 h2.size⟩
  ·rcases hf with hf | ⟨h4, _⟩
   ·exact g1 hf
   ·omega
  ·rcases h3 k hm with h4 | h4
   ·exact g2 h4
   ·omega
end
structure HavOK (H : List UInt8 → Option (List UInt8)) (D : DataW Value) : Prop where
 has_ : ∀ p, Maps.has D (.string p) = (H p).isSome
 at_ : ∀ p id, H p = some id → ∀ z, D.atKey (.string p) z = .held (.string (str id))
theorem wpList_lookup_own {H : Type} {P : Program} (w : World) {ops : Array Oper} {rest : List Oper} {o : Oper} {a : Act} {Q : Exit → Act → World → Prop}
  (hg : o.guard = none) (m x : Operand) (t : TypeId) (hop : o.op = Op.lookup t m x false)
  (k e : TypeId) (K : Keyed P k) (ht : P.underlying t = some (.map k e)) (R : Value → Option (DataW H × List MemPlace)) {z : Value} (hz : (zeroValue e).run P w = .ok z w) (zd : DataW H) (zp : List MemPlace) (hzd : R z = some (zd, zp)) (b n : Nat) (D : DataW H)
  (hm : a.eval m = .map (some b)) (hown : w.ownsMap P k R b n D) (key : Value) (kl : Lit) (hx : a.eval x = key) (hkey : keyOf P k key = some kl)
  (hK : ∀ v ps, R v = some (D.atKey kl zd, ps) → wpList P ops Q rest (a.put o.dst v) w) :
  wpList P ops Q (o :: rest) a w := by
 refine wpList_plain hg fun K' hK' => ?_
 obtain ⟨v, ps, hrun, hv⟩ := hown.lookup K ht hz hzd hkey
 unfold Oper.wp
 simp [execOp, hop, hm, hx, hrun, Result.andThen]
 exact hK' _ _ (hK v ps hv)
structure ApW (w wx : World) (b : Nat) (cs : CSt) (mb : Nat) (Z : Nat → Prop) (H : List UInt8 → Option (List UInt8)) (N : Nat) : Prop where
 mine : MineP w wx b cs Z
 z : Z mb
 own : ∃ D n, wx.ownsMap Tryz.prog 9 hv mb n D ∧ HavOK H D ∧ n ≤ N
 mbw : w.heap.size ≤ mb
section
variable {w wx wy : World} {b mb : Nat} {cs c' : CSt} {Z : Nat → Prop} {H : List UInt8 → Option (List UInt8)} {N : Nat}
end
theorem own_map {w : World} {b n : Nat} {D : DataW Value} (h : w.ownsMap Tryz.prog 9 hv b n D) : Maps.IsMap D := by
 obtain ⟨es, rfl, _, _⟩ := own_keys h
 exact ⟨es, rfl⟩
end Go.Proofs.YtbenkmihkbjgeaaGreat.Tx
/- Package store: Open, place, read, put, Put, on a file system of one's own. -/
set_option linter.unusedVariables false
set_option linter.unusedSimpArgs false
namespace Go.Proofs.YtbenkmihkbjgeaaGreat.Tx
open Go.RowKit Go.Maps Go.Proofs.YtbenkmihkbjgeaaGreat.Sh
def Keeps (w : World) (Z : Nat → Prop) (w1 w2 : World) : Prop := Only (fun k => ¬ Z k ∧ w.heap.size ≤ k) w1 w2
section
variable {w w1 w2 : World} {b g i : Nat} {c c' : CSt} {Z Z' : Nat → Prop}
theorem MineP.of' {F M : Nat → Prop} (hM : ∀ k, M k → w.heap.size ≤ k) (hb : Below w.heap.size w w1) (hz : ∀ k, Z k → ¬ F k ∧ ¬ M k ∧ k < w1.heap.size) (h : FcPost F M w1 b c' w2) : MineP w w2 b c' Z ∧ Keeps w Z w1 w2 := by
 refine ⟨(MineP.of hM hb hz h).1, ?_⟩
 obtain ⟨M', h1, h2, h3⟩ := h
 exact h2.more (fun k _ hm => ⟨fun hk => (hz k hk).2.1 hm, hM k hm⟩)
theorem Keeps.refl (w : World) (Z : Nat → Prop) (w1 : World) : Keeps w Z w1 w1 := Only.refl _ _
theorem Keeps.trans (h : Keeps w Z w1 w2) {w3 : World} (h2 : Keeps w Z w2 w3) : Keeps w Z w1 w3 := Only.trans h h2 (fun k hk => .inl hk)
theorem Keeps.below (h : Keeps w Z w1 w2) {w3 : World} (h2 : Below w2.heap.size w2 w3) : Keeps w Z w1 w3 := Only.then_below h h2
theorem Keeps.of_below (h : Below w1.heap.size w1 w2) : Keeps w Z w1 w2 := Only.of_below h
theorem Keeps.fewer (h : Keeps w Z w1 w2) (hz : ∀ k, Z' k → Z k) : Keeps w Z' w1 w2 := Only.more h (fun k _ hm => ⟨fun hk => hm.1 (hz k hk), hm.2⟩)
theorem Keeps.by_ {G : Nat → Prop} {v : Value} {d : List UInt8} (h : Keeps w Z w1 w2) (hd : By G w1 v d) (hG : ∀ k, G k → k < w.heap.size ∨ Z k) : By G w2 v d :=
 hd.only h (fun k hk hn => by
  rcases hG k hk with h1 | h1
  ·omega
  ·exact hn.1 h1)
theorem MineP.b_lt (h : MineP w w1 b c Z) : w.heap.size ≤ w1.heap.size := h.bel.size
end
def StAt (w w1 : World) (b : Nat) (c : CSt) (s : Nat) (Z : Nat → Prop) : Prop :=
 MineP w w1 b c (fun k => Z k ∨ k = s) ∧ (w.heap.size ≤ s ∧ ¬ Z s) ∧ ∃ r, Blk w1 s 99 #[.pointer (some ⟨b, 0, none⟩), .int .i64 r]
section
variable {w w1 w2 : World} {b g i s : Nat} {c c' : CSt} {Z Z' : Nat → Prop}
theorem StAt.below (h : StAt w w1 b c s Z) (hb : Below w1.heap.size w1 w2) : StAt w w2 b c s Z := by
 obtain ⟨h1, h2, r, h3⟩ := h
 exact ⟨h1.below hb, h2, r, h3.below hb h3.lt⟩
theorem StAt.step (h : StAt w w1 b c s Z) (hm : MineP w w2 b c' (fun k => Z k ∨ k = s)) (hk : Keeps w (fun k => Z k ∨ k = s) w1 w2) : StAt w w2 b c' s Z := by
 obtain ⟨h1, h2, r, h3⟩ := h
 exact ⟨hm, h2, r, Only.blk hk h3 (fun hn => hn.1 (.inr rfl))⟩
theorem StAt.bel (h : StAt w w1 b c s Z) : Below w.heap.size w w1 := h.1.bel
theorem StAt.fewer (h : StAt w w1 b c s Z) (hz : ∀ k, Z' k → Z k) : StAt w w1 b c s Z' := ⟨h.1.fewer (fun k hk => hk.imp (hz k) id), ⟨h.2.1.1, fun hk => h.2.1.2 (hz _ hk)⟩, h.2.2⟩
theorem StAt.add (h : StAt w w1 b c s Z) (o : Obj) : StAt w (w1.alloc o) b c s (fun k => Z k ∨ k = w1.heap.size) := by
 obtain ⟨h1, h2, r, h3⟩ := h
 refine ⟨(h1.add o).fewer (fun k hk => ?_), ⟨h2.1, fun hk => ?_⟩, r, h3.alloc o⟩
 ·rcases hk with (hk | hk) | hk
  ·exact .inl (.inl hk)
  ·exact .inr hk
  ·exact .inl (.inr hk)
 ·rcases hk with hk | hk
  ·exact h2.2 hk
  ·have := h3.lt; omega
theorem StAt.tick (h : StAt w w1 b c s Z) (r : Int) : StAt w (w1.setCell ⟨s, 1, none⟩ (.int .i64 r)) b c s Z ∧ Keeps w Z w1 (w1.setCell ⟨s, 1, none⟩ (.int .i64 r)) := by
 obtain ⟨h1, h2, r', h3⟩ := h
 have ho : Only (fun k => k = s) w1 (w1.setCell ⟨s, 1, none⟩ (.int .i64 r)) := (Only.refl (fun k => k = s) w1).set_ (.inl rfl) _
 refine ⟨⟨h1.upd ho (.inr rfl) h2.1, h2, r, ?_⟩, ho.more (fun k _ hk => by subst hk; exact ⟨h2.2, h2.1⟩)⟩
 have := h3.set_ 1 (.int .i64 r)
 simpa using this
end
theorem splace_cat (n : List UInt8) : (⟨#[115, 47, 111, 47]⟩ : ByteArray) ++ str n = str (objP n) := str_append [115, 47, 111, 47] n
theorem splace_any (n : List UInt8) (w : World) (hn : n.length ≤ 900000) : Calls Tryz.prog 193 #[.string (Tx.str n)] w fun e w' => e = .returned (.string (Tx.str (objP n))) ∧ w = w' := by
 have hb : ¬ 9223372036854775807 < 4 + (str n).size := by rw [str_size]; omega
 go_enter Tryz.func193, Tryz.ntmps193
 go_wp2
 go_ret
 exact ⟨by rw [splace_cat]; rfl, rfl⟩
theorem equal_any (v1 v2 : Value) (d1 d2 : List UInt8) (w : World) (h1 : SlV w v1 (d1.map bv)) (h2 : SlV w v2 (d2.map bv)) (t : Bool) (ht : (d1 == d2) = t) :
  Calls Tryz.prog 192 #[v1, v2] w fun e w' => e = .returned (.bool t) ∧ w = w' := by
 obtain ⟨A1, c1, rfl, _, _, _⟩ := h1.len
 obtain ⟨A2, c2, rfl, _, _, _⟩ := h2.len
 rw [List.length_map] at h1 h2 ⊢
 rw [List.length_map]
 have k1 := conv_str w A1 d1 _ c1 rfl h1
 have k2 := conv_str w A2 d2 _ c2 rfl h2
 have HT := Lib.hid ht
 clear h1 h2 ht
 obtain ⟨l1, e1⟩ : ∃ l, d1.length = l := ⟨_, rfl⟩
 obtain ⟨l2, e2⟩ : ∃ l, d2.length = l := ⟨_, rfl⟩
 rw [e1] at k1 ⊢
 rw [e2] at k2 ⊢
 clear e1 e2
 go_enter Tryz.func192, Tryz.ntmps192
 go_wp2_with fail
 go_ret
 refine ⟨?_, rfl⟩
 show Ending.returned (.bool ((str d1).toList == (str d2).toList)) = _
 rw [str_toList, str_toList, HT.out]
theorem open_any {w w1 : World} {b : Nat} {c : CSt} {Z : Nat → Prop} (h : MineP w w1 b c Z) :
  Calls Tryz.prog 12 #[.pointer (some ⟨b, 0, none⟩)] w1 fun e w' => ∃ s, e = .returned (.pointer (some ⟨s, 0, none⟩)) ∧ StAt w w' b c s Z ∧ Below w1.heap.size w1 w' := by
 have H := Lib.hid h
 clear h
 go_enter Tryz.func12, Tryz.ntmps12
 go_wp2_with fail
 go_ret
 refine ⟨w1.heap.size, rfl, ⟨?_, ⟨H.out.b_lt, fun hk => ?_⟩, 0, Blk.new _ _ _⟩, (Below.refl _ _).alloc (Nat.le_refl _) _⟩
 ·exact H.out.add _
 ·obtain ⟨F, M, _, _, _, h4⟩ := H.out
  have := (h4 _ hk).2.2
  omega
end Go.Proofs.YtbenkmihkbjgeaaGreat.Tx
/- Package store: read. -/
set_option linter.unusedVariables false
set_option linter.unusedSimpArgs false
namespace Go.Proofs.YtbenkmihkbjgeaaGreat.Tx
open Go.RowKit Go.Maps Go.Proofs.YtbenkmihkbjgeaaGreat.Sh
def RdIn (w w1 : World) (b : Nat) (c : CSt) (s : Nat) (Z : Nat → Prop) (p : List UInt8) (pv er : Value) (wx : World) : Prop :=
 ∃ g A dc mo ti, pv = .pointer (some ⟨g, 0, none⟩) ∧ er = .int .i64 (redE c p) ∧ Blk wx g 129 #[.int .i64 mo, .slice A (redF c p).data.length dc, .int .i64 ti] ∧ SlV wx (.slice A (redF c p).data.length dc) ((redF c p).data.map bv) ∧ StAt w wx b (bgC c).c s Z ∧ Keeps w Z w1 wx
end Go.Proofs.YtbenkmihkbjgeaaGreat.Tx
/- Package store: put, Put. -/
set_option linter.unusedVariables false
set_option linter.unusedSimpArgs false
namespace Go.Proofs.YtbenkmihkbjgeaaGreat.Tx
open Go.RowKit Go.Maps Go.Proofs.YtbenkmihkbjgeaaGreat.Sh
theorem str_idne {x y : List UInt8} (h : x ≠ y) : ((str x).toList == (str y).toList) = false := str_ne h
end Go.Proofs.YtbenkmihkbjgeaaGreat.Tx
