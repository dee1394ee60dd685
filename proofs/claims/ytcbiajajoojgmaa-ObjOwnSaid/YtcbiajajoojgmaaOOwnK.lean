/- marlaw6.ObjOwn: the walk. -/
import Derived.Test.YtcbiajajoojgmaaK2
namespace Go.Proofs.Ytcbiajajoojgmaa.Ob
open Go.RowKit Go.Proofs.Ytcbiajajoojgmaa.Sh
open Go.Proofs.Ytcbiajajoojgmaa.Tx (OwnV SlV sv bl nameB reads_at texts_at toList_ne')

/-- What lies below L, and from H on, stays. -/
structure Mid (L H : Nat) (w w' : World) : Prop where
  os : w'.os = w.os
  tape : w'.tape = w.tape
  output : w'.output = w.output
  size : w.heap.size ≤ w'.heap.size
  block : ∀ k, k < w.heap.size → (k < L ∨ H ≤ k) → w'.heap[k]? = w.heap[k]?
section
variable {L H : Nat} {w w1 w2 : World}
theorem Mid.refl (L H : Nat) (w : World) : Mid L H w w := ⟨rfl, rfl, rfl, Nat.le_refl _, fun _ _ _ => rfl⟩
theorem Mid.trans (h : Mid L H w w1) (h2 : Mid L H w1 w2) : Mid L H w w2 := ⟨h2.os.trans h.os, h2.tape.trans h.tape, h2.output.trans h.output, Nat.le_trans h.size h2.size, fun k hk hn => (h2.block k (Nat.lt_of_lt_of_le hk h.size) hn).trans (h.block k hk hn)⟩
theorem Mid.set_ (h : Mid L H w w1) {g i : Nat} (h1 : L ≤ g) (h2 : g < H) (u : Value) : Mid L H w (w1.setCell ⟨g, i, none⟩ u) := ⟨h.os, h.tape, h.output, by simpa [World.setCell] using h.size, fun k hk hn => (Below.heap_setCell w1 ⟨g, i, none⟩ u k (by show k ≠ g; omega)).trans (h.block k hk hn)⟩
theorem Mid.of_below (h : Below w.heap.size w w1) : Mid L H w w1 := ⟨h.os, h.tape, h.output, h.size, fun k hk _ => h.block k hk⟩
theorem Mid.below (h : Mid L H w w1) (hL : L ≤ w.heap.size) : Below L w w1 := ⟨h.os, h.tape, h.output, h.size, fun k hk => h.block k (by omega) (.inl hk)⟩
theorem Mid.blk (h : Mid L H w w1) {b : Nat} {t : TypeId} {cs : Array Value} (hb : Blk w b t cs) (hn : b < L ∨ H ≤ b) : Blk w1 b t cs := (h.block b hb.lt hn).trans hb
theorem Mid.grown {row : Option Nat} (h : w.grownBy w1 row) (hr : ∀ g, row = some g → L ≤ g ∧ g < H) : Mid L H w w1 := ⟨h.os, h.tape, h.output, h.size, fun k hk hn => h.block k hk (fun e => by have := hr k e.symm; omega)⟩
theorem row_mid {T : TypeId} {B sz n : Nat} {v : Value} {xs : List Value} (h : w.ownsRow B T sz v n xs) (hm : Mid L H w w1) (hB : H ≤ B) : w1.ownsRow B T sz v n xs := by
  refine ⟨h.1, h.2.imp id fun ⟨g, cap, cur, a1, a2, a3, a4⟩ => ⟨g, cap, cur, a1, a2, ?_, a4⟩⟩
  have hlt : g < w.heap.size := (Array.getElem?_eq_some_iff.1 a3).1
  exact (hm.block g hlt (.inr (by omega))).trans a3
theorem ObO.mid {B : Nat} {v : Value} {o : ObM} (h : ObO w B v o) (hm : Mid L H w w1) (hB : H ≤ B) : ObO w1 B v o := by
  obtain ⟨A, n, c, A2, n2, c2, A3, n3, c3, rfl, h1, h2, h3⟩ := h
  exact ⟨A, n, c, A2, n2, c2, A3, n3, c3, rfl, row_mid h1 hm hB, row_mid h2 hm hB, row_mid h3 hm hB⟩
end
/-- Block g begins with m cells of names of items that may be written. -/
def WrI (w : World) (g m : Nat) : Prop := ∃ cur, Blk w g 56 cur ∧ ∀ j, j < m * 3 → ∃ u, cur[j]? = some u
theorem WrI.cell {w : World} {g m : Nat} (h : WrI w g m) (j : Nat) (hj : j < m * 3) : ∃ u, w.cell? ⟨g, j, none⟩ = some u ∧ w.frozen? ⟨g, j, none⟩ = false := by
  obtain ⟨cur, hb, hc⟩ := h
  obtain ⟨u, hu⟩ := hc j hj
  exact ⟨u, (hb.cell j).trans hu, hb.frozen j⟩
theorem WrI.set {w : World} {g m : Nat} (h : WrI w g m) (k : Nat) (u : Value) : WrI (w.setCell ⟨g, k, none⟩ u) g m := by
  obtain ⟨cur, hb, hc⟩ := h
  refine ⟨_, hb.set_ k _, fun j hj => ?_⟩
  obtain ⟨v, hv⟩ := hc j hj
  rw [Array.getElem?_setIfInBounds]
  by_cases e : k = j
  · subst e
    have : k < cur.size := (Array.getElem?_eq_some_iff.1 hv).1
    rw [if_pos rfl, if_pos this]
    exact ⟨_, rfl⟩
  · rw [if_neg e]
    exact ⟨v, hv⟩
theorem wr_only {w w1 : World} {g m : Nat} (h : Wr w g m) (he : w1.heap[g]? = w.heap[g]?) : Wr w1 g m := by
  obtain ⟨cur, hb, hc⟩ := h
  exact ⟨cur, he.trans hb, hc⟩
theorem WrI.only {w w1 : World} {g m : Nat} (h : WrI w g m) (he : w1.heap[g]? = w.heap[g]?) : WrI w1 g m := by
  obtain ⟨cur, hb, hc⟩ := h
  exact ⟨cur, he.trans hb, hc⟩
theorem OwnI.wr {w : World} {B : Nat} {v : Value} {l : List ItM} (h : OwnI 56 w B v l) (h0 : 0 < l.length) : ∃ g c, v = .slice (some ⟨g, 0, none⟩) l.length c ∧ l.length ≤ c ∧ c ≤ maxLen ∧ B ≤ g ∧ g < w.heap.size ∧ WrI w g l.length := by
  rcases h.2 with ⟨rfl, h1⟩ | ⟨g, cap, cur, rfl, hb, hg, hc, hm, hcs, htk⟩
  · omega
  · refine ⟨g, cap, rfl, hc, hm, hb, (Array.getElem?_eq_some_iff.1 hg).1, cur, hg, fun j hj => ?_⟩
    have hj2 : j < cur.size := by rw [hcs]; omega
    exact ⟨cur[j], Array.getElem?_eq_getElem hj2⟩
theorem Mid.more {L H H' : Nat} {w w1 : World} (h : Mid L H w w1) (hH : H ≤ H') : Mid L H' w w1 := ⟨h.os, h.tape, h.output, h.size, fun k hk hn => h.block k hk (by omega)⟩
theorem wr_blk {w : World} {g m : Nat} (h : Wr w g m) : ∃ cs, Blk w g 5 cs := by
  obtain ⟨cur, hb, _⟩ := h
  exact ⟨cur, hb⟩
theorem wri_blk {w : World} {g m : Nat} (h : WrI w g m) : ∃ cs, Blk w g 56 cs := by
  obtain ⟨cur, hb, _⟩ := h
  exact ⟨cur, hb⟩
theorem app_textG {ops : Array Oper} {rest : List Oper} {o : Oper} {a : Act} {Q : Exit → Act → World → Prop} (hgd : o.guard = none) (s x : Operand)
    (ho : o.op = .call { callee := .builtin .append, args := #[s, x], argTypes := #[24, 24] }) (w : World) (B : Nat) (v : Value) (n : Nat) (vs : List Value) (hs : a.eval s = v) (hown : w.ownsRow B 9 1 v n vs)
    (u : ByteArray) (hx : a.eval x = .slice (some ⟨w.heap.size, 0, none⟩) 1 1) (hsmall : n + 1 ≤ 2000000) (hB : B ≤ w.heap.size)
    (h : ∀ v' w', w'.ownsRow B 9 1 v' (n + 1) (vs ++ [sv u]) → (w.alloc (.cells #[.string u] 9)).grownBy w' v.ownBlock → wpList Try.prog ops Q rest (a.put o.dst v') w') : wpList Try.prog ops Q (o :: rest) a (w.alloc (.cells #[.string u] 9)) := by
  obtain ⟨i0, hi, hz0, hz1, hz2⟩ := info_parts Tx.info_str
  refine wpList_append_any _ hgd s x 24 ho B 9 i0 (.string ⟨#[]⟩) 1 16 Try.underlying24 hi hz0 hz1 hz2 rfl (by decide) v n vs hs (hown.alloc _) _ _ 1 1 [sv u] hx (reads_one w u) (Tx.sv_one [u]) (by unfold maxLen; omega) (by omega) (by simp; omega) ?_
  intro v' w' h1 h2 _
  exact h v' w' h1 h2
theorem may_sizes {o : ObM} (h : mayB o = true) : o.data.length ≤ 20000 ∧ o.items.length ≤ 256 ∧ o.parents.length ≤ 2 := by
  rcases mayB_kind h with ⟨_, h1⟩ | ⟨_, h1⟩ | ⟨_, h1⟩
  · obtain ⟨g1, h2⟩ := blobB_of h1
    unfold objK at h2
    injection h2 with _ _ a3 _ a5 _ _ _
    exact ⟨g1, by rw [show o.items = [] from a3]; simp, by rw [show o.parents = [] from a5]; simp⟩
  · obtain ⟨g1, h2⟩ := treeB_of h1
    unfold objK at h2
    injection h2 with _ a2 _ _ a5 _ _ _
    exact ⟨by rw [show o.data = [] from a2]; simp, (itemsB_of g1).1, by rw [show o.parents = [] from a5]; simp⟩
  · obtain ⟨c1, c2, c3⟩ := commB_of h1
    exact ⟨by rw [c1]; simp, by rw [c2]; simp, (parB_of c3.par).1⟩
theorem row_slice {w : World} {B sz n : Nat} {T : TypeId} {v : Value} {xs : List Value} (h : w.ownsRow B T sz v n xs) : ∃ A m c, v = .slice A m c := by
  rcases h.2 with ⟨rfl, _⟩ | ⟨g, cap, cur, rfl, _⟩
  · exact ⟨_, _, _, rfl⟩
  · exact ⟨_, _, _, rfl⟩
theorem ObV.litsO {w : World} {v : Value} {o : ObM} (h : ObV w v o) : ∃ A l c A2 l2 c2 A3 l3 c3, v = .agg #[.int .i64 o.kind, .slice A l c, .slice A2 l2 c2, .string (str o.tree), .slice A3 l3 c3, .int .i64 o.stamp, .int .i64 o.author, .string (str o.msg)] := by
  obtain ⟨d, it, ps, rfl, ⟨A, c, rfl, _⟩, ⟨A2, c2, rfl, _⟩, ⟨A3, c3, rfl, _⟩⟩ := h
  exact ⟨A, _, c, A2, _, c2, A3, _, c3, rfl⟩
set_option maxRecDepth 100000 in
set_option maxHeartbeats 6400000 in
theorem objOwn_walk (v : Value) (o : ObM) (w : World) (h : ObV w v o) : Calls Try.prog 8 #[v] w (Yes w) := by
  have HV := Lib.hid h
  obtain ⟨A, l, c, A2, l2, c2, A3, l3, c3, rfl⟩ := h.litsO
  clear h
  have HB0 : Hid (Below w.heap.size w (w.alloc (.cells #[.int .i64 o.kind, .slice A l c, .slice A2 l2 c2, .string (str o.tree), .slice A3 l3 c3, .int .i64 o.stamp, .int .i64 o.author, .string (str o.msg)] 26))) := (Below.refl _ _).alloc (Nat.le_refl _) _
  have HK0 : Hid (Blk (w.alloc (.cells #[.int .i64 o.kind, .slice A l c, .slice A2 l2 c2, .string (str o.tree), .slice A3 l3 c3, .int .i64 o.stamp, .int .i64 o.author, .string (str o.msg)] 26)) w.heap.size 26 #[.int .i64 o.kind, .slice A l c, .slice A2 l2 c2, .string (str o.tree), .slice A3 l3 c3, .int .i64 o.stamp, .int .i64 o.author, .string (str o.msg)]) := Blk.new _ _ _
  go_enter Try.func8, Try.ntmps8
  go_wp2_with fail
  refine (first_any _).mono ?_
  rintro e w1 ⟨rfl, hb1⟩
  have HB1 := Lib.hid (Below.after HB0.out hb1)
  have HK1 := Lib.hid (HK0.out.below hb1 HK0.out.lt)
  clear hb1
  obtain ⟨x0, x1, x2, x3, x4, x5, x6, x7⟩ := box_cells HK1.out
  go_wp2_with fail
  clear x0 x1 x2 x3 x4 x5 x6 x7
  refine (few_any _ o w1 (HV.out.below HB1.out)).mono ?_
  rintro e w2 ⟨t1, rfl, ht1, hb2⟩
  have HB2 := Lib.hid (Below.after HB1.out hb2)
  have HK2 := Lib.hid (HK1.out.below hb2 HK1.out.lt)
  clear hb2 ht1
  cases t1 with
  | false =>
    go_wp2_with fail
    refine (first_any w2).mono ?_
    rintro e w3 ⟨rfl, hb3⟩
    have HB3 := Lib.hid (Below.after HB2.out hb3)
    clear hb3
    go_wp2_with fail
    go_ret
    exact ⟨rfl, HB3.out⟩
  | true =>
    obtain ⟨x0, x1, x2, x3, x4, x5, x6, x7⟩ := box_cells HK2.out
    go_wp2_with fail
    clear x0 x1 x2 x3 x4 x5 x6 x7
    refine (encode_any _ o w2 (HV.out.below HB2.out)).mono ?_
    rintro e w3 ⟨hy, hn, hb3⟩
    have HB3 := Lib.hid (Below.after HB2.out hb3)
    have HK3 := Lib.hid (HK2.out.below hb3 HK2.out.lt)
    obtain ⟨r, hr⟩ : ∃ r, mayB o = r := ⟨_, rfl⟩
    have HR := Lib.hid hr
    have hz23 : w2.heap.size ≤ w3.heap.size := hb3.size
    have hw2 : w.heap.size + 1 ≤ w2.heap.size := HK2.out.lt
    clear hr hb3
    cases r with
    | false =>
      obtain rfl := hn HR.out
      clear hy hn
      go_wp2_with fail
      refine (first_any w3).mono ?_
      rintro e w4 ⟨rfl, hb4⟩
      have HB4 := Lib.hid (Below.after HB3.out hb4)
      clear hb4
      go_wp2_with fail
      go_ret
      exact ⟨rfl, HB4.out⟩
    | true =>
      obtain ⟨u, rfl, hu⟩ := hy HR.out
      clear hy hn
      obtain ⟨n, hn'⟩ : ∃ n, (encL o).length = n := ⟨_, rfl⟩
      have HN := Lib.hid hn'
      have hn4 : n ≤ 40000 := by rw [← hn']; exact encL_len HR.out
      obtain ⟨g1, uc, rfl, hul, hum, hgB, hgl, hwr⟩ := Own.wr hu (by rw [hn']; obtain ⟨t, ht⟩ := encL_cons o; rw [← hn', ht]; simp)
      unfold maxLen at hum
      have HU := Lib.hid hu.sl
      rw [hn'] at hul hwr HU ⊢
      have HWR3 := Lib.hid hwr
      clear hu hn' hwr
      have hdl : (encL o).length ≤ 1000000 := by rw [HN.out]; omega
      have HDL := Lib.hid hdl
      clear hdl
      go_wp2_with fail
      refine (decode_any _ (encL o) w3 HU.out HDL.out).mono ?_
      rintro e w4 ⟨v4, k4, rfl, hd4, hb4⟩
      have HB4 := Lib.hid (Below.after HB3.out hb4)
      have HK4 := Lib.hid (HK3.out.below hb4 HK3.out.lt)
      have HU4 := Lib.hid (HU.out.below hb4)
      have HWR4 := Lib.hid (wr_only HWR3.out (hb4.block g1 hgl))
      have hz34 : w3.heap.size ≤ w4.heap.size := hb4.size
      obtain ⟨hk4, ho4⟩ := hd4.yes (decB_enc HR.out)
      subst hk4
      rw [show (objR (encL o)).1 = o from by rw [objR_enc HR.out]] at ho4
      obtain ⟨P1, Pn1, Pc1, P2, Pn2, Pc2, P3, Pn3, Pc3, rfl, ph1, ph2, ph3⟩ := ho4
      have HP1 := Lib.hid (ph1.alloc (.cells #[.int .i64 o.kind, .slice P1 Pn1 Pc1, .slice P2 Pn2 Pc2, .string (str o.tree), .slice P3 Pn3 Pc3, .int .i64 o.stamp, .int .i64 o.author, .string (str o.msg)] 26))
      have HP2 := Lib.hid (ph2.alloc (.cells #[.int .i64 o.kind, .slice P1 Pn1 Pc1, .slice P2 Pn2 Pc2, .string (str o.tree), .slice P3 Pn3 Pc3, .int .i64 o.stamp, .int .i64 o.author, .string (str o.msg)] 26))
      have HP3 := Lib.hid (ph3.alloc (.cells #[.int .i64 o.kind, .slice P1 Pn1 Pc1, .slice P2 Pn2 Pc2, .string (str o.tree), .slice P3 Pn3 Pc3, .int .i64 o.stamp, .int .i64 o.author, .string (str o.msg)] 26))
      have hab : Below w4.heap.size w4 (w4.alloc (.cells #[.int .i64 o.kind, .slice P1 Pn1 Pc1, .slice P2 Pn2 Pc2, .string (str o.tree), .slice P3 Pn3 Pc3, .int .i64 o.stamp, .int .i64 o.author, .string (str o.msg)] 26)) := (Below.refl _ _).alloc (Nat.le_refl _) _
      have HB5 : Hid (Below w.heap.size w (w4.alloc (.cells #[.int .i64 o.kind, .slice P1 Pn1 Pc1, .slice P2 Pn2 Pc2, .string (str o.tree), .slice P3 Pn3 Pc3, .int .i64 o.stamp, .int .i64 o.author, .string (str o.msg)] 26))) := HB4.out.alloc HB4.out.size _
      have HK5 : Hid (Blk (w4.alloc (.cells #[.int .i64 o.kind, .slice P1 Pn1 Pc1, .slice P2 Pn2 Pc2, .string (str o.tree), .slice P3 Pn3 Pc3, .int .i64 o.stamp, .int .i64 o.author, .string (str o.msg)] 26)) w.heap.size 26 #[.int .i64 o.kind, .slice A l c, .slice A2 l2 c2, .string (str o.tree), .slice A3 l3 c3, .int .i64 o.stamp, .int .i64 o.author, .string (str o.msg)]) := HK4.out.alloc _
      have HU5 := Lib.hid (HU4.out.below hab)
      have HPB5 : Hid (Blk (w4.alloc (.cells #[.int .i64 o.kind, .slice P1 Pn1 Pc1, .slice P2 Pn2 Pc2, .string (str o.tree), .slice P3 Pn3 Pc3, .int .i64 o.stamp, .int .i64 o.author, .string (str o.msg)] 26)) w4.heap.size 26 #[.int .i64 o.kind, .slice P1 Pn1 Pc1, .slice P2 Pn2 Pc2, .string (str o.tree), .slice P3 Pn3 Pc3, .int .i64 o.stamp, .int .i64 o.author, .string (str o.msg)]) := Blk.new _ _ _
      have HWR5 := Lib.hid (wr_only HWR4.out (hab.block g1 (by omega)))
      clear hd4 hb4 ph1 ph2 ph3 hab
      go_wp2_with fail
      obtain ⟨W4, hW4⟩ : ∃ W, W = w4.alloc (.cells #[.int .i64 o.kind, .slice P1 Pn1 Pc1, .slice P2 Pn2 Pc2, .string (str o.tree), .slice P3 Pn3 Pc3, .int .i64 o.stamp, .int .i64 o.author, .string (str o.msg)] 26) := ⟨_, rfl⟩
      have hH : W4.heap.size = w4.heap.size + 1 := by rw [hW4]; simp
      rw [← hW4] at HP1 HP2 HP3 HB5 HK5 HU5 HPB5 HWR5 ⊢
      clear hW4
      refine (decode_any _ (encL o) W4 HU5.out HDL.out).mono ?_
      rintro e w6 ⟨v6, k6, rfl, hd6, hb6⟩
      obtain ⟨hk6, ho6⟩ := hd6.yes (decB_enc HR.out)
      subst hk6
      rw [show (objR (encL o)).1 = o from by rw [objR_enc HR.out]] at ho6
      obtain ⟨Q1, Qn1, Qc1, Q2, Qn2, Qc2, Q3, Qn3, Qc3, rfl, qh1, qh2, qh3⟩ := ho6
      have hab : Below w6.heap.size w6 (w6.alloc (.cells #[.int .i64 o.kind, .slice Q1 Qn1 Qc1, .slice Q2 Qn2 Qc2, .string (str o.tree), .slice Q3 Qn3 Qc3, .int .i64 o.stamp, .int .i64 o.author, .string (str o.msg)] 26)) := (Below.refl _ _).alloc (Nat.le_refl _) _
      have HQO : Hid (ObO (w6.alloc (.cells #[.int .i64 o.kind, .slice Q1 Qn1 Qc1, .slice Q2 Qn2 Qc2, .string (str o.tree), .slice Q3 Qn3 Qc3, .int .i64 o.stamp, .int .i64 o.author, .string (str o.msg)] 26)) W4.heap.size (.agg #[.int .i64 o.kind, .slice Q1 Qn1 Qc1, .slice Q2 Qn2 Qc2, .string (str o.tree), .slice Q3 Qn3 Qc3, .int .i64 o.stamp, .int .i64 o.author, .string (str o.msg)]) o) := ⟨Q1, Qn1, Qc1, Q2, Qn2, Qc2, Q3, Qn3, Qc3, rfl, qh1.alloc _, qh2.alloc _, qh3.alloc _⟩
      have hb46 : Below W4.heap.size W4 (w6.alloc (.cells #[.int .i64 o.kind, .slice Q1 Qn1 Qc1, .slice Q2 Qn2 Qc2, .string (str o.tree), .slice Q3 Qn3 Qc3, .int .i64 o.stamp, .int .i64 o.author, .string (str o.msg)] 26)) := Below.after hb6 hab
      have HQ1 := Lib.hid (HP1.out.below hb46)
      have HQ2 := Lib.hid (HP2.out.below hb46)
      have HQ3 := Lib.hid (HP3.out.below hb46)
      have HB7 := Lib.hid (Below.after HB5.out hb46)
      have HK7 := Lib.hid (HK5.out.below hb46 HK5.out.lt)
      have HPB7 := Lib.hid (HPB5.out.below hb46 HPB5.out.lt)
      have HQB7 : Hid (Blk (w6.alloc (.cells #[.int .i64 o.kind, .slice Q1 Qn1 Qc1, .slice Q2 Qn2 Qc2, .string (str o.tree), .slice Q3 Qn3 Qc3, .int .i64 o.stamp, .int .i64 o.author, .string (str o.msg)] 26)) w6.heap.size 26 #[.int .i64 o.kind, .slice Q1 Qn1 Qc1, .slice Q2 Qn2 Qc2, .string (str o.tree), .slice Q3 Qn3 Qc3, .int .i64 o.stamp, .int .i64 o.author, .string (str o.msg)]) := Blk.new _ _ _
      have HWR7 := Lib.hid (wr_only HWR5.out (hb46.block g1 (by omega)))
      have hz46 : W4.heap.size ≤ w6.heap.size := hb6.size
      clear hd6 hb6 qh1 qh2 qh3 hab hb46
      go_wp2_with fail
      obtain ⟨W6, hW6⟩ : ∃ W, W = w6.alloc (.cells #[.int .i64 o.kind, .slice Q1 Qn1 Qc1, .slice Q2 Qn2 Qc2, .string (str o.tree), .slice Q3 Qn3 Qc3, .int .i64 o.stamp, .int .i64 o.author, .string (str o.msg)] 26) := ⟨_, rfl⟩
      rw [← hW6] at HQO HQ1 HQ2 HQ3 HB7 HK7 HPB7 HQB7 HWR7 ⊢
      have hH6 : W6.heap.size = w6.heap.size + 1 := by rw [hW6]; simp
      clear hW6
      go_loopw [9] (fun i wr => ∃ k : Nat, k ≤ n ∧ i = .int .i64 k ∧ Wr wr g1 n ∧ Mid (w.heap.size + 1) w3.heap.size W6 wr) (fun i _ => n - (intOf i).toNat)
      case atStart => exact ⟨0, Nat.zero_le _, rfl, HWR7.out, Mid.refl _ _ _⟩
      case round =>
        obtain ⟨k, hk, rfl, hwr, hmid⟩ := hrel
        have HMID := Lib.hid hmid
        have p0 : (0 : Int) ≤ (k : Int) := by omega
        by_cases hlt : k < n
        · have p1 : (k : Int) < (n : Int) := by omega
          obtain ⟨x, cx, fx⟩ := hwr.cell k hlt
          have hadd : (⟨g1, 0, none⟩ : Addr).add k = ⟨g1, k, none⟩ := by rw [Addr.add_mid, Nat.zero_add]
          have HW := Lib.hid (fun u => hwr.set k u)
          have HM2 : Hid (∀ u, Mid (w.heap.size + 1) w3.heap.size W6 (wr.setCell ⟨g1, k, none⟩ u)) := fun u => hmid.set_ (by omega) hgl u
          clear hwr hmid
          go_wp2_with fail
          go_roundw
          case rel => exact ⟨k + 1, by omega, by go_num, HW.out _, HM2.out _⟩
          case measure => simp [intOf]; omega
        · obtain ⟨W7, hW7⟩ : ∃ W, W = wr := ⟨_, rfl⟩
          subst hW7
          have hlt' : (n : Int) ≤ (k : Int) := by omega
          have hPB7 := hmid.blk HPB7.out (.inr (by omega))
          have hi7 := row_mid HQ2.out hmid (Nat.le_refl _)
          have hv7 := row_mid HQ3.out hmid (Nat.le_refl _)
          have hd7 : Own W7 w3.heap.size (.slice P1 Pn1 Pc1) o.data := row_mid HQ1.out hmid (Nat.le_refl _)
          obtain ⟨_, _, ev1, _, _⟩ := Own.length hd7
          injection ev1 with e91 ev1 e92
          clear e91 e92
          have hb1 : Pn1 ≤ 20000 := by rw [ev1]; exact (may_sizes HR.out).1
          have hb1' : (Pn1 : Int) ≤ 20000 := by omega
          have hD7 : Pn1 = 0 ∨ ∃ g2, P1 = some ⟨g2, 0, none⟩ ∧ Wr W7 g2 Pn1 ∧ w3.heap.size ≤ g2 ∧ g2 < W4.heap.size ∧ Pn1 ≤ Pc1 := by
            rcases Nat.eq_zero_or_pos Pn1 with h0 | h0
            · exact .inl h0
            · obtain ⟨g2, c2, e2, hc2, _, _, _, hwr2⟩ := Own.wr hd7 (by omega)
              injection e2 with e2 e3 e4
              refine .inr ⟨g2, e2, by rw [ev1]; exact hwr2, ?_⟩
              have h9 := World.ownsRow.lt HP1.out g2 (by rw [e2]; rfl)
              exact ⟨h9.1, h9.2, by omega⟩
          have HBU : Hid (Mid (w.heap.size + 1) W4.heap.size W6 W7 ∧ Blk W7 w4.heap.size 26 #[.int .i64 o.kind, .slice P1 Pn1 Pc1, .slice P2 Pn2 Pc2, .string (str o.tree), .slice P3 Pn3 Pc3, .int .i64 o.stamp, .int .i64 o.author, .string (str o.msg)] ∧ OwnI 56 W7 w3.heap.size (.slice P2 Pn2 Pc2) o.items ∧ OwnV 9 W7 w3.heap.size (.slice P3 Pn3 Pc3) ((o.parents.map str).map sv)) := ⟨hmid.more (by omega), hPB7, hi7, hv7⟩
          have HDD := Lib.hid hD7
          clear hmid hwr hPB7 hi7 hv7 hd7 hD7 ev1 HMID
          go_wp2_with fail
          go_loopw [10] (fun i wr => ∃ k : Nat, k ≤ Pn1 ∧ i = .int .i64 k ∧ (Pn1 = 0 ∨ ∃ g2, P1 = some ⟨g2, 0, none⟩ ∧ Wr wr g2 Pn1 ∧ w3.heap.size ≤ g2 ∧ g2 < W4.heap.size ∧ Pn1 ≤ Pc1) ∧ Mid (w.heap.size + 1) W4.heap.size W6 wr ∧ Blk wr w4.heap.size 26 #[.int .i64 o.kind, .slice P1 Pn1 Pc1, .slice P2 Pn2 Pc2, .string (str o.tree), .slice P3 Pn3 Pc3, .int .i64 o.stamp, .int .i64 o.author, .string (str o.msg)] ∧ OwnI 56 wr w3.heap.size (.slice P2 Pn2 Pc2) o.items ∧ OwnV 9 wr w3.heap.size (.slice P3 Pn3 Pc3) ((o.parents.map str).map sv)) (fun i _ => Pn1 - (intOf i).toNat)
          case atStart => exact ⟨0, Nat.zero_le _, rfl, HDD.out, HBU.out⟩
          case round =>
            obtain ⟨k, hk, rfl, hdd, hmid, hpb, hit, hpv⟩ := hrel
            have p0 : (0 : Int) ≤ (k : Int) := by omega
            obtain ⟨-, x1, -, -, -, -, -, -⟩ := box_cells hpb
            by_cases hlt : k < Pn1
            · have p1 : (k : Int) < (Pn1 : Int) := by omega
              rcases hdd with hdd | ⟨g2, hP1, hwr, h3, h4, h5⟩
              · omega
              · rw [hP1] at x1
                have HP1E := Lib.hid hP1
                clear hP1
                obtain ⟨x, cx, fx⟩ := hwr.cell k hlt
                have hadd : (⟨g2, 0, none⟩ : Addr).add k = ⟨g2, k, none⟩ := by rw [Addr.add_mid, Nat.zero_add]
                obtain ⟨cs, hcs⟩ := wr_blk hwr
                have HNE : Hid (w4.heap.size ≠ g2) := Blk.ne_ hpb hcs (by decide)
                have HALL : Hid (∀ u, Wr (wr.setCell ⟨g2, k, none⟩ (.int .u8 u)) g2 Pn1 ∧ Mid (w.heap.size + 1) W4.heap.size W6 (wr.setCell ⟨g2, k, none⟩ (.int .u8 u)) ∧ Blk (wr.setCell ⟨g2, k, none⟩ (.int .u8 u)) w4.heap.size 26 #[.int .i64 o.kind, .slice P1 Pn1 Pc1, .slice P2 Pn2 Pc2, .string (str o.tree), .slice P3 Pn3 Pc3, .int .i64 o.stamp, .int .i64 o.author, .string (str o.msg)] ∧ OwnI 56 (wr.setCell ⟨g2, k, none⟩ (.int .u8 u)) w3.heap.size (.slice P2 Pn2 Pc2) o.items ∧ OwnV 9 (wr.setCell ⟨g2, k, none⟩ (.int .u8 u)) w3.heap.size (.slice P3 Pn3 Pc3) ((o.parents.map str).map sv)) := fun u =>
                  ⟨hwr.set k u, hmid.set_ (by omega) h4 _, hpb.far HNE.out _, row_upd hit hcs (by decide) ((Upd.refl _ _).set_ _ _), row_upd hpv hcs (by decide) ((Upd.refl _ _).set_ _ _)⟩
                clear hwr hmid hpb hit hpv hcs
                go_wp2_with fail
                go_roundw
                case rel => exact ⟨k + 1, by omega, by go_num, .inr ⟨g2, HP1E.out, (HALL.out _).1, h3, h4, h5⟩, (HALL.out _).2⟩
                case measure => simp [intOf]; omega
            · have p1 : (Pn1 : Int) ≤ (k : Int) := by omega
              obtain ⟨W8, hW8⟩ : ∃ W, W = wr := ⟨_, rfl⟩
              subst hW8
              have hn2 : o.items.length = Pn2 := by
                rcases hit.2 with ⟨e2, h0⟩ | ⟨gg, cap, cur, e2, _⟩
                · injection e2 with _ e2 _; omega
                · injection e2 with _ e2 _; omega
              have hb2 : Pn2 ≤ 256 := by rw [← hn2]; exact (may_sizes HR.out).2.1
              have hb2' : (Pn2 : Int) ≤ 256 := by omega
              have hD8 : Pn2 = 0 ∨ ∃ g3, P2 = some ⟨g3, 0, none⟩ ∧ WrI W8 g3 Pn2 ∧ w3.heap.size ≤ g3 ∧ g3 < W4.heap.size ∧ Pn2 ≤ Pc2 := by
                rcases Nat.eq_zero_or_pos Pn2 with h0 | h0
                · exact .inl h0
                · obtain ⟨g3, c3', e2, hc2, _, _, _, hwr2⟩ := OwnI.wr hit (by omega)
                  injection e2 with e2 e3 e4
                  refine .inr ⟨g3, e2, by rw [← hn2]; exact hwr2, ?_⟩
                  have h9 := World.ownsRow.lt HP2.out g3 (by rw [e2]; rfl)
                  exact ⟨h9.1, h9.2, by omega⟩
              have HDD2 := Lib.hid hD8
              have HBU2 : Hid (Mid (w.heap.size + 1) W4.heap.size W6 W8 ∧ Blk W8 w4.heap.size 26 #[.int .i64 o.kind, .slice P1 Pn1 Pc1, .slice P2 Pn2 Pc2, .string (str o.tree), .slice P3 Pn3 Pc3, .int .i64 o.stamp, .int .i64 o.author, .string (str o.msg)] ∧ OwnV 9 W8 w3.heap.size (.slice P3 Pn3 Pc3) ((o.parents.map str).map sv)) := ⟨hmid, hpb, hpv⟩
              clear hdd hmid hpb hit hpv hD8 hn2
              go_wp2_with fail
              clear x1
              go_loopw [11] (fun i wr => ∃ k : Nat, k ≤ Pn2 ∧ i = .int .i64 k ∧ (Pn2 = 0 ∨ ∃ g3, P2 = some ⟨g3, 0, none⟩ ∧ WrI wr g3 Pn2 ∧ w3.heap.size ≤ g3 ∧ g3 < W4.heap.size ∧ Pn2 ≤ Pc2) ∧ Mid (w.heap.size + 1) W4.heap.size W6 wr ∧ Blk wr w4.heap.size 26 #[.int .i64 o.kind, .slice P1 Pn1 Pc1, .slice P2 Pn2 Pc2, .string (str o.tree), .slice P3 Pn3 Pc3, .int .i64 o.stamp, .int .i64 o.author, .string (str o.msg)] ∧ OwnV 9 wr w3.heap.size (.slice P3 Pn3 Pc3) ((o.parents.map str).map sv)) (fun i _ => Pn2 - (intOf i).toNat)
              case atStart => exact ⟨0, Nat.zero_le _, rfl, HDD2.out, HBU2.out⟩
              case round =>
                obtain ⟨k, hk, rfl, hdd, hmid, hpb, hpv⟩ := hrel
                have p0 : (0 : Int) ≤ (k : Int) := by omega
                obtain ⟨-, -, x2, -, x4, -, -, -⟩ := box_cells hpb
                by_cases hlt : k < Pn2
                · have p1 : (k : Int) < (Pn2 : Int) := by omega
                  rcases hdd with hdd | ⟨g3, hP2, hwr, h3, h4, h5⟩
                  · omega
                  · rw [hP2] at x2
                    have HP2E := Lib.hid hP2
                    clear hP2
                    obtain ⟨x, cx, fx⟩ := hwr.cell (k * 3 + 1) (by omega)
                    have hadd : (⟨g3, 0, none⟩ : Addr).add (k * 3) = ⟨g3, k * 3, none⟩ := by rw [Addr.add_mid, Nat.zero_add]
                    obtain ⟨cs, hcs⟩ := wri_blk hwr
                    have HNE : Hid (w4.heap.size ≠ g3) := Blk.ne_ hpb hcs (by decide)
                    have HALL : Hid (∀ u, WrI (wr.setCell ⟨g3, k * 3 + 1, none⟩ u) g3 Pn2 ∧ Mid (w.heap.size + 1) W4.heap.size W6 (wr.setCell ⟨g3, k * 3 + 1, none⟩ u) ∧ Blk (wr.setCell ⟨g3, k * 3 + 1, none⟩ u) w4.heap.size 26 #[.int .i64 o.kind, .slice P1 Pn1 Pc1, .slice P2 Pn2 Pc2, .string (str o.tree), .slice P3 Pn3 Pc3, .int .i64 o.stamp, .int .i64 o.author, .string (str o.msg)] ∧ OwnV 9 (wr.setCell ⟨g3, k * 3 + 1, none⟩ u) w3.heap.size (.slice P3 Pn3 Pc3) ((o.parents.map str).map sv)) := fun u =>
                      ⟨hwr.set _ u, hmid.set_ (by omega) h4 _, hpb.far HNE.out _, row_upd hpv hcs (by decide) ((Upd.refl _ _).set_ _ _)⟩
                    clear hwr hmid hpb hpv hcs x4
                    go_wp2_with fail
                    go_roundw
                    case rel => exact ⟨k + 1, by omega, by go_num, .inr ⟨g3, HP2E.out, (HALL.out _).1, h3, h4, h5⟩, (HALL.out _).2⟩
                    case measure => simp [intOf]; omega
                · have p1 : (Pn2 : Int) ≤ (k : Int) := by omega
                  clear hdd
                  have hn3 : o.parents.length ≤ 2 := (may_sizes HR.out).2.2
                  obtain ⟨W9, hW9⟩ : ∃ W, W = wr := ⟨_, rfl⟩
                  subst hW9
                  have hpn : Pn3 = o.parents.length := by
                    obtain ⟨_, _, e9, _, _⟩ := hpv.length
                    injection e9 with _ e9 _
                    rw [e9, List.length_map, List.length_map]
                  have hrow : W9.ownsRow w3.heap.size 9 1 (.slice P3 Pn3 Pc3) Pn3 ((o.parents.map str).map sv) := by have := hpv; unfold OwnV at this; rw [List.length_map, List.length_map, ← hpn] at this; exact this
                  have HPV := Lib.hid hrow
                  have HPBA : Hid (Blk (W9.alloc (.cells #[.string ⟨#[120]⟩] 9)) w4.heap.size 26 #[.int .i64 o.kind, .slice P1 Pn1 Pc1, .slice P2 Pn2 Pc2, .string (str o.tree), .slice P3 Pn3 Pc3, .int .i64 o.stamp, .int .i64 o.author, .string (str o.msg)]) := hpb.alloc _
                  have HSEP : Hid (some w4.heap.size ≠ (Value.slice P3 Pn3 Pc3).ownBlock) := row_sep hrow hpb (by decide)
                  have HROW : Hid (∀ k, (Value.slice P3 Pn3 Pc3).ownBlock = some k → w3.heap.size ≤ k ∧ k < W4.heap.size) := fun k hk => World.ownsRow.lt HP3.out k hk
                  have HMA : Hid (Mid (w.heap.size + 1) W4.heap.size W6 (W9.alloc (.cells #[.string ⟨#[120]⟩] 9))) := hmid.trans (Mid.of_below ((Below.refl _ _).alloc (Nat.le_refl _) _))
                  have hz9 : w3.heap.size ≤ W9.heap.size := by have := hmid.size; omega
                  have hsm : Pn3 + 1 ≤ 2000000 := by omega
                  have HF10 : Hid (∀ v10 w10, (W9.alloc (.cells #[.string ⟨#[120]⟩] 9)).grownBy w10 (Value.slice P3 Pn3 Pc3).ownBlock → (∃ u, w10.cell? ⟨w4.heap.size, 4, none⟩ = some u) ∧ w10.frozen? ⟨w4.heap.size, 4, none⟩ = false ∧ Mid (w.heap.size + 1) W4.heap.size W6 (w10.setCell ⟨w4.heap.size, 4, none⟩ v10)) := by
                    intro v10 w10 hg
                    have hb10 := HPBA.out.grown hg HSEP.out
                    refine ⟨⟨_, hb10.cell 4⟩, hb10.frozen 4, (HMA.out.trans (Mid.grown hg (fun k hk => ?_))).set_ (by omega) (by omega) _⟩
                    have := HROW.out k hk
                    omega
                  clear hpv hpb hmid hrow hpn
                  go_wp2_with (at_builtin; refine app_textG rfl (.tmp 81) (.tmp 82) rfl W9 w3.heap.size (.slice P3 Pn3 Pc3) Pn3 _ rfl HPV.out ⟨#[120]⟩ rfl hsm hz9 ?_; intro v10 w10 ho10 hg10; obtain ⟨⟨u10, xx⟩, ff, hmm⟩ := HF10.out v10 w10 hg10; obtain ⟨A10, n10, c10, hv10⟩ := row_slice ho10; subst hv10; have HMM := Lib.hid hmm; clear ho10 hg10 hmm)
                  refine (first_any _).mono ?_
                  rintro e w11 ⟨rfl, hb11⟩
                  have HM11 : Hid (Mid (w.heap.size + 1) W4.heap.size W6 w11) := HMM.out.trans (Mid.of_below hb11)
                  have HK11 := Lib.hid (HM11.out.blk HK7.out (.inl (Nat.lt_succ_self _)))
                  have HQB11 := Lib.hid (HM11.out.blk HQB7.out (.inr hz46))
                  have HQO11 := Lib.hid (HQO.out.mid HM11.out (Nat.le_refl _))
                  have HB11 : Hid (Below w.heap.size w w11) := HB7.out.trans ((HM11.out.below (by omega)).mono (Nat.le_succ _))
                  clear hb11 xx ff
                  obtain ⟨x0, x1, x2, x3, x4, x5, x6, x7⟩ := box_cells HK11.out
                  obtain ⟨y0, y1, y2, y3, y4, y5, y6, y7⟩ := box_cells HQB11.out
                  go_wp2_with fail
                  clear x0 x1 x2 x3 x4 x5 x6 x7 y0 y1 y2 y3 y4 y5 y6 y7
                  refine (same_any _ _ o o w11 HQO11.out.obV (HV.out.below HB11.out)).mono ?_
                  rw [show sameB o o = true from sameB_iff.2 rfl]
                  rintro e w12 ⟨rfl, hb12⟩
                  have HB12 := Lib.hid (Below.after HB11.out hb12)
                  clear hb12
                  go_wp2_with fail
                  go_ret
                  exact ⟨rfl, HB12.out⟩
end Go.Proofs.Ytcbiajajoojgmaa.Ob
