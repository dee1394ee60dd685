/- Texts put together: VPa0. -/
import Derived.Test.YtpfjlhpahmhkhaaGreatQv27
import Derived.Test.YtpfjlhpahmhkhaaGreatQv41
import Derived.Test.YtpfjlhpahmhkhaaGreatQv45
import Derived.Test.YtpfjlhpahmhkhaaGreatQv46
import Derived.Test.YtpfjlhpahmhkhaaGreatQv20
import Derived.Defers
import Derived.Recover
/- Package pack's ask, over a source; the document's one. -/
set_option linter.unusedVariables false
set_option linter.unusedSimpArgs false
namespace Go.Proofs.YtpfjlhpahmhkhaaGreat.Ob
open Go.RowKit Go.Proofs.YtpfjlhpahmhkhaaGreat.Sh
open Go.Proofs.YtpfjlhpahmhkhaaGreat.Tx (OwnV SlV sv Only Rd reads_at)
def psrcV (p1 p2 p3 : Nat) : Value := .func (.func 115) #[] #[.pointer (some ⟨p1, 0, none⟩), .pointer (some ⟨p2, 0, none⟩), .pointer (some ⟨p3, 0, none⟩)]
set_option maxRecDepth 100000 in
set_option maxHeartbeats 1600000 in
theorem pask_any {p1 p2 p3 : Nat} {l : List (List UInt8)} {lie : Bool} {w : World} (id : ByteArray) (h : SrcX w p1 p2 p3 l lie) (hl : l.length ≤ 1000000) (hs : ∀ x ∈ l, x.length ≤ 1000000) :
  Calls Tryz.prog 348 #[psrcV p1 p2 p3, .string id] w (AskR (srcP l lie) id w) := by
 have hmf : ∀ (fn : Fn) (first cap : Array Value) (w : World), (Instr.makeFunc fn first cap).run Tryz.prog w = .ok (.func fn first cap) w := fun _ _ _ _ => rfl
 obtain ⟨wa, hwa⟩ : ∃ W, W = ((w.alloc (.cells #[.slice none 0 0] 32)).alloc (.cells #[.bool false] 4)) := ⟨_, rfl⟩
 have hz1 : (w.alloc (.cells #[.slice none 0 0] 32)).heap.size = w.heap.size + 1 := by simp
 have HB : Hid (Below w.heap.size w wa) := by unfold Hid; rw [hwa]; exact ((Below.refl _ _).alloc (Nat.le_refl _) _).alloc (by simp) _
 have HZ : Hid (wa.heap.size = w.heap.size + 1 + 1) := by unfold Hid; rw [hwa]; simp
 have HB4 : Hid (Blk wa w.heap.size 32 #[.slice none 0 0]) := by unfold Hid; rw [hwa]; exact (Blk.new _ _ _).alloc _
 have HB5 : Hid (Blk wa (w.heap.size + 1) 4 #[.bool false]) := by
  unfold Hid
  rw [hwa]
  have h9 := Blk.new (w.alloc (.cells #[.slice none 0 0] 32)) 4 #[.bool false]
  rw [hz1] at h9
  exact h9
 have HS := Lib.hid (src1_any id (h.below (by have := HB.out; exact this)) hl hs)
 clear h hl hs hz1
 unfold psrcV
 go_enter_defers Tryz.func348, Tryz.ntmps348
 go_wp2_with fail
 rw [← hwa]
 refine HS.out.mono ?_
 rintro e w2 ⟨A, n, c, t, rfl, hb2, hcase⟩
 have HB2 := Lib.hid hb2
 have q1 := (HB4.out.below hb2 HB4.out.lt).cell 0
 have q2 := (HB4.out.below hb2 HB4.out.lt).frozen 0
 have q3 := (HB5.out.below hb2 HB5.out.lt).cell 0
 have q4 := (HB5.out.below hb2 HB5.out.lt).frozen 0
 have HC := Lib.hid hcase
 clear hb2 hcase hwa
 go_wp2_with fail
 obtain ⟨wz, hwz⟩ : ∃ W, W = ((w2.setCell ⟨w.heap.size, 0, none⟩ (.slice A n c)).setCell ⟨w.heap.size + 1, 0, none⟩ (.bool t)) := ⟨_, rfl⟩
 have HBZ4 : Hid (Blk wz w.heap.size 32 #[.slice A n c]) := by
  unfold Hid
  rw [hwz]
  exact ((HB4.out.below HB2.out HB4.out.lt).set_ 0 (.slice A n c)).far (by show w.heap.size ≠ w.heap.size + 1; omega) _
 have HBZ5 : Hid (Blk wz (w.heap.size + 1) 4 #[.bool t]) := by
  unfold Hid
  rw [hwz]
  exact ((HB5.out.below HB2.out HB5.out.lt).far (by show w.heap.size + 1 ≠ w.heap.size; omega) _).set_ 0 (.bool t)
 have HBZ : Hid (Below w.heap.size w wz) := by
  unfold Hid
  rw [hwz]
  exact ((HB.out.trans (HB2.out.mono HB.out.size)).setCell (by show w.heap.size ≤ w.heap.size; omega) _).setCell (by show w.heap.size ≤ w.heap.size + 1; omega) _
 have HCZ : Hid ((srcP l lie id.toList = none ∧ t = false ∧ A = none ∧ n = 0 ∧ c = 0) ∨ ∃ x, srcP l lie id.toList = some x ∧ t = true ∧ x.length = n ∧ Own wz w.heap.size (.slice A n c) x) := by
  rcases HC.out with h | ⟨x, h1, h2, h3, h4⟩
  ·exact .inl h
  ·refine .inr ⟨x, h1, h2, h3, ?_⟩
   rw [hwz]
   have hz := HZ.out
   exact Own.based ((h4.farSet (by show w.heap.size < wa.heap.size; omega) _).farSet (by show w.heap.size + 1 < wa.heap.size; omega) _) (by omega)
 rw [← hwz]
 have r1 := HBZ4.out.cell 0
 have r2 := HBZ5.out.cell 0
 clear hwz q1 q2 q3 q4
 refine leaves_cons (f := 379) (args := #[.pointer (some ⟨w.heap.size, 0, none⟩), .pointer (some ⟨w.heap.size + 1, 0, none⟩)]) (by simp) (by simp [go_sem]) ?_
 refine (ask1_idle _ _ _).mono ?_
 rintro e u' w'' ⟨rfl, rfl, rfl⟩
 replace r1 : w''.cell? ⟨w.heap.size, 0, none⟩ = some (.slice A n c) := r1
 replace r2 : w''.cell? ⟨w.heap.size + 1, 0, none⟩ = some (.bool t) := r2
 simp [Leaves, settle, results, Tryz.results348, go_sem, r1, r2]
 exact ⟨A, n, c, t, rfl, HBZ.out, HCZ.out⟩
theorem in_src {w : World} {v : Value} {b : List UInt8} {p1 p2 p3 : Nat} {l : List (List UInt8)} {lie : Bool} (h : Sl w v b) (hb : b.length ≤ 1000000) (hx : SrcX w p1 p2 p3 l lie) (hl : l.length ≤ 1000000) (hs : ∀ x ∈ l, x.length ≤ 1000000) : PrIn w v (psrcV p1 p2 p3) b (srcP l lie) :=
 ⟨h, hb, fun W id hW _ => (pask_any (str id) (hx.below hW) hl hs).mono fun e w' ⟨A, n, c, t, h1, h2, h3⟩ => ⟨A, n, c, t, h1, h2, by
  rw [str_toList] at h3
  rcases h3 with ⟨g1, g2, _⟩ | ⟨x, g1, g2, g3, g4⟩
  ·exact .inl ⟨g1, g2⟩
  ·exact .inr ⟨x, g1, g2, hs x (srcP_mem g1), g3, g4⟩⟩⟩
end Go.Proofs.YtpfjlhpahmhkhaaGreat.Ob
