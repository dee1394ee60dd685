/- Texts put together: VPa2. -/
import Derived.Test.YtpfjlhpahmhkhaaGreatQv48
/- The document's parse: what it holds while it reads. -/
set_option linter.unusedVariables false
set_option linter.unusedSimpArgs false
namespace Go.Proofs.YtpfjlhpahmhkhaaGreat.Ob
open Go.RowKit Go.Proofs.YtpfjlhpahmhkhaaGreat.Sh
open Go.Proofs.YtpfjlhpahmhkhaaGreat.Tx (Only Rd Shape TmpL OwnL By Typed Datas)
structure PQ (w W : World) (cs : Array Value) (F : Nat → Prop) (vD vR : Value) (ds : List (List UInt8)) (rs : List EntM) : Prop where
 bk : Blk W w.heap.size 53 cs
 ownD : OwnL lstK 32 F W (w.heap.size + 1) vD ds
 ownR : OwnL rowK 65 (fun _ => False) W (w.heap.size + 1) vR rs
 ap : ∀ k, vD.ownBlock = some k → vR.ownBlock ≠ some k
 fz : ∀ k, F k → w.heap.size + 1 ≤ k ∧ k < W.heap.size ∧ vR.ownBlock ≠ some k
 below : Below w.heap.size w W
section
variable {w W W' : World} {cs : Array Value} {F F' : Nat → Prop} {vD vR v' v2 : Value} {ds : List (List UInt8)} {rs : List EntM} {o : List UInt8} {e : EntM}
theorem PQ.bel (h : PQ w W cs F vD vR ds rs) (hb : Below W.heap.size W W') : PQ w W' cs F vD vR ds rs :=
 ⟨h.bk.below hb h.bk.lt, h.ownD.only (Only.of_below (M := fun _ => False) hb) (fun _ _ => id) (fun _ _ => id), h.ownR.only (Only.of_below (M := fun _ => False) hb) (fun _ _ => id) (fun _ _ => id), h.ap, fun k hk => ⟨(h.fz k hk).1, Nat.lt_of_lt_of_le (h.fz k hk).2.1 hb.size, (h.fz k hk).2.2⟩, h.below.trans (hb.mono h.below.size)⟩
theorem PQ.alloc (h : PQ w W cs F vD vR ds rs) (x : Go.Obj) : PQ w (W.alloc x) cs F vD vR ds rs := h.bel ((Below.refl _ _).alloc (Nat.le_refl _) x)
theorem PQ.size (h : PQ w W cs F vD vR ds rs) : w.heap.size + 1 ≤ W.heap.size := h.bk.lt
theorem PQ.lst (h : PQ w W cs F vD vR ds rs) : LsV W vD ds := by
 obtain ⟨es, h3, h4⟩ := h.ownD.tmp
 exact ⟨es, h3, h4.mono (fun _ _ _ => trivial)⟩
theorem PQ.row (h : PQ w W cs F vD vR ds rs) : RwV W vR rs := by
 obtain ⟨es, h3, h4⟩ := h.ownR.tmp
 exact ⟨es, h3, h4.mono (fun _ _ _ => trivial)⟩
theorem PQ.appD (h : PQ w W cs F vD vR ds rs) (hF : ∀ k, F' k → F k ∨ (k < W.heap.size ∧ w.heap.size + 1 ≤ k ∧ vR.ownBlock ≠ some k)) (ho : OwnL lstK 32 F' W' (w.heap.size + 1) v' (ds ++ [o])) (hg : W.grownBy W' vD.ownBlock) (hk : v'.ownBlock = vD.ownBlock ∨ v'.ownBlock = some W.heap.size) :
  PQ w W' cs F' v' vR (ds ++ [o]) rs := by
 have hn : ∀ k, vD.ownBlock = some k → w.heap.size + 1 ≤ k := fun k hk => (h.ownD.lt k hk).1
 have on : Only (fun k => vD.ownBlock = some k) W W' := (Only.refl _ W).grown hg (fun k hk => .inl hk)
 refine ⟨on.blk h.bk (fun e => by have := hn _ e; omega), ho, h.ownR.only on (fun k hk => hk.elim) (fun k hk e => h.ap k e hk), fun k hk1 hk2 => ?_, fun k hk => ?_, h.below.grown hg h.below.size (fun k hk => by have := hn k hk; omega)⟩
 ·rcases hk with hk | hk
  ·exact h.ap k (hk ▸ hk1) hk2
  ·rw [hk] at hk1
   injection hk1 with hk1
   have := (h.ownR.lt k hk2).2
   omega
 ·have h2 := hg.size
  rcases hF k hk with h1 | h1
  ·have h4 := h.fz k h1
   exact ⟨h4.1, by omega, h4.2.2⟩
  ·exact ⟨h1.2.1, by omega, h1.2.2⟩
theorem PQ.appR (h : PQ w W cs F vD vR ds rs) (ho : OwnL rowK 65 (fun _ => False) W' (w.heap.size + 1) v' (rs ++ [e])) (hg : W.grownBy W' vR.ownBlock) (hk : v'.ownBlock = vR.ownBlock ∨ v'.ownBlock = some W.heap.size) :
  PQ w W' cs F vD v' ds (rs ++ [e]) := by
 have hn : ∀ k, vR.ownBlock = some k → w.heap.size + 1 ≤ k := fun k hk => (h.ownR.lt k hk).1
 have on : Only (fun k => vR.ownBlock = some k) W W' := (Only.refl _ W).grown hg (fun k hk => .inl hk)
 refine ⟨on.blk h.bk (fun e => by have := hn _ e; omega), h.ownD.only on (fun k hk e => (h.fz k hk).2.2 e) (fun k hk e => h.ap k hk e), ho, fun k hk1 hk2 => ?_, fun k hk1 => ?_, h.below.grown hg h.below.size (fun k hk => by have := hn k hk; omega)⟩
 ·rcases hk with hk | hk
  ·exact h.ap k hk1 (hk ▸ hk2)
  ·rw [hk] at hk2
   injection hk2 with hk2
   have := (h.ownD.lt k hk1).2
   omega
 ·have h2 := hg.size
  have h4 := h.fz k hk1
  refine ⟨h4.1, by omega, fun hk2 => ?_⟩
  rcases hk with hk | hk
  ·exact h4.2.2 (hk ▸ hk2)
  ·rw [hk] at hk2
   injection hk2 with hk2
   omega
structure CopP (w W : World) (vD vR : Value) (o : List UInt8) (v2 : Value) : Prop where
 own : Own W (w.heap.size + 1) v2 o
 ap : ∀ q, v2.ownBlock = some q → vD.ownBlock ≠ some q ∧ vR.ownBlock ≠ some q ∧ w.heap.size + 1 ≤ q ∧ q < W.heap.size
theorem PQ.copied (h : PQ w W cs F vD vR ds rs) (ho : Own W' W.heap.size v2 o) (hb : Below W.heap.size W W') : CopP w W' vD vR o v2 :=
 ⟨Own.based ho h.size, fun q hq => by
  have h1 := World.ownsRow.lt ho q hq
  have h2 := h.size
  exact ⟨fun e => by have := (h.ownD.lt q e).2; omega, fun e => by have := (h.ownR.lt q e).2; omega, by omega, h1.2⟩⟩
theorem CopP.alloc (h : CopP w W vD vR o v2) (x : Go.Obj) : CopP w (W.alloc x) vD vR o v2 :=
 ⟨h.own.alloc x, fun q hq => ⟨(h.ap q hq).1, (h.ap q hq).2.1, (h.ap q hq).2.2.1, by have := (h.ap q hq).2.2.2; simp; omega⟩⟩
theorem CopP.row (h : CopP w W vD vR o v2) (t : PQ w W cs F vD vR ds rs) : OwnL lstK 32 (fun q => F q ∨ v2.ownBlock = some q) W (w.heap.size + 1) vD ds :=
 t.ownD.mono (fun _ _ hk => .inl hk) (fun q hq hf => by
  rcases hf with hf | hf
  ·exact t.ownD.2 q hq hf
  ·exact (h.ap q hf).1 hq)
theorem CopP.lt (h : CopP w W vD vR o v2) (t : PQ w W cs F vD vR ds rs) : ∀ q, (F q ∨ v2.ownBlock = some q) → q < W.heap.size := fun q hq => by
 rcases hq with hq | hq
 ·exact (t.fz q hq).2.1
 ·exact (h.ap q hq).2.2.2
theorem CopP.news (h : CopP w W vD vR o v2) (t : PQ w W cs F vD vR ds rs) : ∀ q, (F q ∨ v2.ownBlock = some q) → F q ∨ (q < W.heap.size ∧ w.heap.size + 1 ≤ q ∧ vR.ownBlock ≠ some q) := fun q hq => by
 rcases hq with hq | hq
 ·exact .inl hq
 ·exact .inr ⟨(h.ap q hq).2.2.2, (h.ap q hq).2.2.1, (h.ap q hq).2.1⟩
end
def RParsePost (r : Int × List EntM) (w : World) (e : Ending) (w' : World) : Prop :=
 ∃ (AD AR : Option Addr) (nD cD nR cR : Nat), e = .returned (.tuple #[.slice AD nD cD, .slice AR nR cR, .int .i64 (r.2.length : Int), .int .i64 r.1]) ∧ Below w.heap.size w w' ∧
  LsV w' (.slice AD nD cD) (if r.1 = 0 then r.2.map (fun e => e.data) else []) ∧ RwV w' (.slice AR nR cR) (if r.1 = 0 then r.2 else [])
theorem RParsePost.none_ {r : Int × List EntM} {w w' : World} (hb : Below w.heap.size w w') (hr : r.1 ≠ 0) {i : Int} (hi : i = (r.2.length : Int)) {e : Int} (he : e = r.1) : RParsePost r w (.returned (.tuple #[.slice none 0 0, .slice none 0 0, .int .i64 i, .int .i64 e])) w' := by
 subst hi he
 exact ⟨none, none, 0, 0, 0, 0, rfl, hb, by rw [if_neg hr]; exact LsV.nil_ _, by rw [if_neg hr]; exact RwV.nil_ _⟩
end Go.Proofs.YtpfjlhpahmhkhaaGreat.Ob
