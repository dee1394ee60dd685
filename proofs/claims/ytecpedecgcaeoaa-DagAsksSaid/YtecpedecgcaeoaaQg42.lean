/- Texts put together: DgB. -/
import Derived.Test.YtecpedecgcaeoaaQg09
import Derived.Test.YtecpedecgcaeoaaQg32
/- What the laws of the graph have in common: the example; few; made. -/
set_option linter.unusedVariables false
set_option linter.unusedSimpArgs false
namespace Go.Proofs.Ytecpedecgcaeoaa.Tx
open Go.RowKit Go.Maps Go.Proofs.Ytecpedecgcaeoaa.Sh

theorem GS.of {G : GR} (h1 : G.length ≤ 2000) (h2 : ∀ n ∈ G, n.par.length ≤ 200) : GS G := ⟨h1, fun k => by
  by_cases hk : k < G.length
  · rw [parAt_of (List.getElem?_eq_getElem hk)]
    exact h2 _ (List.getElem_mem hk)
  · rw [parAt_out (by omega)]
    exact Nat.zero_le _⟩
theorem gs5 (i : Nat) : GS (G5.take i) := GS.of (by simp [G5]; omega) (fun n hn => by
  have := List.mem_of_mem_take hn
  simp only [G5, List.mem_cons, List.not_mem_nil, or_false] at this
  rcases this with rfl | rfl | rfl | rfl | rfl <;> simp)
theorem gw51 : GW (G5.take 1) := by rw [← g5_1]; exact GW.nil.addR (by decide)
theorem gw52 : GW (G5.take 2) := by rw [← g5_2]; exact gw51.addR (by decide)
theorem gw53 : GW (G5.take 3) := by rw [← g5_3]; exact gw52.addR (by decide)
theorem gw54 : GW (G5.take 4) := by rw [← g5_4]; exact gw53.addR (by decide)
theorem gw55 : GW G5 := by rw [← g5_5]; exact gw54.addR (by decide)
theorem gs55 : GS G5 := gs5 5
theorem below_only {B : Nat} {Z : Nat → Prop} {w w1 w2 : World} (h : Below B w w1) (hB : B ≤ w.heap.size) (ho : Only Z w1 w2) (hz : ∀ k, Z k → B ≤ k) : Below B w w2 :=
  ⟨ho.os.trans h.os, ho.tape.trans h.tape, ho.output.trans h.output, Nat.le_trans h.size ho.size, fun k hk => (ho.block k (Nat.lt_of_lt_of_le (Nat.lt_of_lt_of_le hk hB) h.size) (fun hZ => by have := hz k hZ; omega)).trans (h.block k hk)⟩
/-- A graph of one's own: made behind w. -/
structure GO (w wr : World) (g : Nat) (G : GR) : Prop where
  at_ : ∃ Z, GAt Z wr g G ∧ ∀ k, Z k → w.heap.size ≤ k
  b : Below w.heap.size w wr
theorem GO.add {w wq w' : World} {g : Nat} {G : GR} {Z : Nat → Prop} {id : ByteArray} {ps : List ByteArray} {stamp : Int} {e : Ending} (hb : Below w.heap.size w wq) (hz : ∀ k, Z k → w.heap.size ≤ k) (h : AddPost Z wq g G id ps stamp e w') : e = .returned (.int .i64 (addE G id ps stamp)) ∧ GO w w' g (addR G id ps stamp) := by
  obtain ⟨Z', he, h1, h2, h3, h4⟩ := h
  exact ⟨he, ⟨Z', h1, fun k hk => (h4 k hk).elim (hz k) (fun x => Nat.le_trans hb.size x)⟩, below_only hb (Nat.le_refl _) h2 hz⟩
theorem GO.below {w wr w' : World} {g : Nat} {G : GR} (h : GO w wr g G) (hb : Below wr.heap.size wr w') : GO w w' g G := by
  obtain ⟨⟨Z, h1, h2⟩, h3⟩ := h
  exact ⟨⟨Z, h1.below hb, h2⟩, h3.trans (hb.mono h3.size)⟩
/-- Add at a graph of one's own. -/
theorem GO.add_any {w wr : World} {g : Nat} {G : GR} (h : GO w wr g G) (hw : GW G) (hs : GS G) (id : ByteArray) (v : Value) (ps : List ByteArray) (stamp : Int) (wq : World) (hq : Below wr.heap.size wr wq) (hid : id.size ≤ 1000000) (hv : SlV wq v (ps.map sv)) (hsz : ∀ s ∈ ps, s.size ≤ 1000000) (hn : ps.length ≤ 200) :
    Calls Try.prog 9 #[.pointer (some ⟨g, 0, none⟩), .string id, v, .int .i64 stamp] wq fun e w' => e = .returned (.int .i64 (addE G id ps stamp)) ∧ GO w w' g (addR G id ps stamp) := by
  obtain ⟨⟨Z, h1, h2⟩, h3⟩ := h
  exact (gadd_any Z g G id v ps stamp wq (h1.below hq) hw hs hid hv hsz hn).mono fun e w' hp => GO.add (h3.trans (hq.mono h3.size)) h2 hp
theorem alloc_b (w : World) (o : Obj) : Below w.heap.size w (w.alloc o) := (Below.refl _ _).alloc (Nat.le_refl _) o

set_option maxRecDepth 100000 in
set_option maxHeartbeats 3200000 in
theorem gfirst_any (w : World) : Calls Try.prog 4 #[] w (Yes w) := by
  go_enter Try.func4, Try.ntmps4
  go_wp2_with fail
  refine (gnew_any w).mono ?_
  rintro e w1 ⟨g, rfl, h1, hb1⟩
  have h0 : GO w w1 g [] := ⟨⟨_, h1, fun k hk => hk.1⟩, hb1⟩
  have H0 := Lib.hid h0
  clear h1 hb1 h0
  go_wp2_with fail
  refine (H0.out.add_any GW.nil (GS.of (by simp) (by simp)) bA _ [] 0 w1 (Below.refl _ _) (by decide) (SlV.nil_ _) (by simp) (by simp)).mono ?_
  rw [g5_1]
  rintro e w2 ⟨rfl, h2⟩
  have H2 := Lib.hid h2
  clear h2
  go_wp2_with fail
  refine (H2.out.add_any gw51 (gs5 1) bB _ [bA] 1 _ (alloc_b _ _) (by decide) (one_text w2 bA) (by intro s hs; rw [List.mem_singleton.1 hs]; decide) (by simp)).mono ?_
  rw [g5_2]
  rintro e w3 ⟨rfl, h3⟩
  have H3 := Lib.hid h3
  clear h3
  go_wp2_with fail
  refine (H3.out.add_any gw52 (gs5 2) bC _ [bA] 1 _ (alloc_b _ _) (by decide) (one_text w3 bA) (by intro s hs; rw [List.mem_singleton.1 hs]; decide) (by simp)).mono ?_
  rw [g5_3]
  rintro e w4 ⟨rfl, h4⟩
  have H4 := Lib.hid h4
  clear h4
  go_wp2_with fail
  refine (H4.out.add_any gw53 (gs5 3) bD _ [bB, bC] 2 _ (alloc_b _ _) (by decide) (two_texts w4 bB bC) (by intro s hs; simp only [List.mem_cons, List.not_mem_nil, or_false] at hs; rcases hs with rfl | rfl <;> decide) (by simp)).mono ?_
  rw [g5_4]
  rintro e w5 ⟨rfl, h5⟩
  have H5 := Lib.hid h5
  clear h5
  go_wp2_with fail
  refine (H5.out.add_any gw54 (gs5 4) bE _ [bB, bC] 2 _ (alloc_b _ _) (by decide) (two_texts w5 bB bC) (by intro s hs; simp only [List.mem_cons, List.not_mem_nil, or_false] at hs; rcases hs with rfl | rfl <;> decide) (by simp)).mono ?_
  rw [g5_5]
  rintro e w6 ⟨rfl, h6⟩
  obtain ⟨⟨Z, h7, _⟩, hb6⟩ := h6
  have hbas := gbases_any Z g G5 _ [bD] bE (w6.alloc (.cells #[.string bD] 9)) (h7.below (alloc_b _ _)) gw55 gs55 (one_text w6 bD) (by intro s hs; rw [List.mem_singleton.1 hs]; decide) (by simp) (by decide)
  rw [in5.1, in5.2.1, bas5] at hbas
  have HBAS := Lib.hid hbas
  have HB6 := Lib.hid (hb6.alloc hb6.size (.cells #[.string bD] 9))
  clear h7 hb6 hbas
  go_wp2_with fail
  refine (HBAS.out).mono ?_
  rintro e w8 ⟨hb8, ⟨_, v8, rfl, ho8⟩ | ⟨hx, _⟩⟩
  case inr => cases hx
  have HB8 := Lib.hid (HB6.out.trans (hb8.mono HB6.out.size))
  have hsame := texts_same v8 _ [bB, bC] _ (ho8.slv.below (alloc_b w8 (.cells #[.string bB, .string bC] 9))) (two_texts w8 bB bC)
  have HSAME := Lib.hid hsame
  clear hb8 ho8 hsame
  go_wp2_with fail
  refine (HSAME.out).mono ?_
  rintro e w9 ⟨rfl, hb9⟩
  have HB9 := Lib.hid ((HB8.out.alloc HB8.out.size _).trans (hb9.mono (Nat.le_trans HB8.out.size (by simp))))
  clear hb9
  go_wp2_with fail
  go_ret
  exact ⟨rfl, HB9.out⟩
end Go.Proofs.Ytecpedecgcaeoaa.Tx
