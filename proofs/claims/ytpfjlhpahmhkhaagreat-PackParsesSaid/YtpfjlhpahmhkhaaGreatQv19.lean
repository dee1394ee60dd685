/- Texts put together: VRo3. -/
import Derived.Test.YtpfjlhpahmhkhaaGreatQv18
import Derived.Deep.RegionHeld3
/- The document's items. -/
namespace Go.Proofs.YtpfjlhpahmhkhaaGreat.Ob
open Go.RowKit Go.Proofs.YtpfjlhpahmhkhaaGreat.Sh
open Go.Proofs.YtpfjlhpahmhkhaaGreat.Tx (OwnV SlV sv bl nameB reads_at texts_at toList_ne')
set_option maxRecDepth 100000 in
set_option maxHeartbeats 12800000 in
theorem ritems_any6 (v : Value) (ls : List ItM) (w : World) (h : SlI w v ls) (hs : ∀ x ∈ ls, x.2.2.length ≤ 140737488351232) : Calls Tryz.prog 329 #[v] w (BoolPost w (itemsB ls)) := by
 obtain ⟨A, c, rfl, hlc, hcm, _, hR⟩ := h
 have HR := Lib.hid hR
 have HS := Lib.hid hs
 unfold maxLen at hcm
 obtain ⟨l, hL⟩ : ∃ l, ls.length = l := ⟨_, rfl⟩
 obtain ⟨t, ht⟩ : ∃ t, itemsB ls = t := ⟨_, rfl⟩
 rw [ht]
 unfold itemsB at ht
 rw [hL] at hlc ht ⊢
 have HL := Lib.hid hL
 have HT := Lib.hid ht
 clear hL ht hR hs
 go_enter Tryz.func329, Tryz.ntmps329
 go_wp2
 go_loopw [3] (fun i wr => ∃ k : Nat, k ≤ l ∧ i = .int .i64 k ∧ Below w.heap.size w wr ∧ (List.range k).all (itemJ ls) = true) (fun i _ => l - (intOf i).toNat)
 case atStart => exact ⟨0, by omega, rfl, Below.refl _ _, rfl⟩
 case round =>
  obtain ⟨k, hk, rfl, hb, hok⟩ := hrel
  have HB := Lib.hid hb
  have HOK := Lib.hid hok
  clear hb hok
  have k0 : (0 : Int) ≤ (k : Int) := by omega
  by_cases hlt : k < l
  ·have k1 : (k : Int) < (l : Int) := by omega
   have hkl : k < ls.length := by rw [HL.out]; exact hlt
   obtain ⟨x, hx⟩ : ∃ x, ls[k] = x := ⟨_, rfl⟩
   obtain ⟨ad, rfl, c0, c1, c2⟩ := items_at (HR.out.below HB.out) rfl k x (by rw [List.getElem?_eq_getElem hkl, hx])
   have HIS : Hid (x.2.2.length ≤ 140737488351232) := HS.out x (hx ▸ List.getElem_mem hkl)
   have HX : Hid (ls.getD k dI = x) := by unfold Hid; rw [List.getD_eq_getElem?_getD, List.getElem?_eq_getElem hkl, ← hx]; rfl
   clear hx hkl
   obtain ⟨m, nm, id⟩ := x
   replace c0 : wr.cell? (ad.add (k * 3)) = some (.int .i64 m) := c0
   replace c1 : wr.cell? ⟨(ad.add (k * 3)).block, (ad.add (k * 3)).off + 1, none⟩ = some (.string (str nm)) := c1
   replace c2 : wr.cell? ⟨(ad.add (k * 3)).block, (ad.add (k * 3)).off + 2, none⟩ = some (.string (str id)) := c2
   replace HIS : Hid (id.length ≤ 140737488351232) := HIS
   have HW : Hid (Below w.heap.size w (wr.alloc (.cells #[.int .i64 m, .string (str nm), .string (str id)] 300))) := HB.out.alloc HB.out.size _
   have HBK : Hid (Blk (wr.alloc (.cells #[.int .i64 m, .string (str nm), .string (str id)] 300)) wr.heap.size 300 #[.int .i64 m, .string (str nm), .string (str id)]) := Blk.new _ _ _
   by_cases m1 : m < 1
   ·have htt : t = false := by
     rw [← HT.out, all_bad hlt (by unfold itemJ itB; rw [HX.out]; simp [show ¬ (1 ≤ m) from by omega])]
     simp
    subst htt
    have HCL : Hid (∀ W, Below (wr.alloc (.cells #[.int .i64 m, .string (str nm), .string (str id)] 300)).heap.size (wr.alloc (.cells #[.int .i64 m, .string (str nm), .string (str id)] 300)) W → (fun W : World => W.cell? ⟨wr.heap.size, 0, none⟩ = some (.int .i64 m) ∧ W.cell? ⟨wr.heap.size, 1, none⟩ = some (.string (str nm)) ∧ W.cell? ⟨wr.heap.size, 2, none⟩ = some (.string (str id))) W) := fun W hW => ⟨(HBK.out.below hW HBK.out.lt).cell 0, (HBK.out.below hW HBK.out.lt).cell 1, (HBK.out.below hW HBK.out.lt).cell 2⟩
    go_wp2_with fail
    clear c0 c1 c2
    refine wp_region_held_drew (S := (fun W : World => W.cell? ⟨wr.heap.size, 0, none⟩ = some (.int .i64 m) ∧ W.cell? ⟨wr.heap.size, 1, none⟩ = some (.string (str nm)) ∧ W.cell? ⟨wr.heap.size, 2, none⟩ = some (.string (str id)))) (by kernel_rfl) ?_ (fun hHeld => ?_)
    ·(try dsimp only); exact HCL.out _ (Below.refl _ _).drew
    refine take_at (i := 0) (d := 15) (v := ?_) rfl (by kernel_rfl) (hy := .inl ⟨by kernel_rfl, ?_⟩) (h := ?_)
    rotate_left
    ·intro W hSw; (try dsimp only at hSw); go_simp; first | done | with_reducible rfl
    try simp only [Act.put, List.setIfInBounds_toArray, List.set_cons_zero, List.set_cons_succ]
    refine take_at (i := 1) (d := 16) (v := ?_) rfl (by kernel_rfl) (hy := .inl ⟨by kernel_rfl, ?_⟩) (h := ?_)
    rotate_left
    ·intro W hSw; (try dsimp only at hSw); go_simp; first | done | with_reducible rfl
    try simp only [Act.put, List.setIfInBounds_toArray, List.set_cons_zero, List.set_cons_succ]
    refine take_at (i := 2) (d := 17) (v := ?_) rfl (by kernel_rfl) (hy := .inl ⟨by kernel_rfl, ?_⟩) (h := ?_)
    rotate_left
    ·intro W hSw; (try dsimp only at hSw); go_simp; first | done | with_reducible rfl
    try simp only [Act.put, List.setIfInBounds_toArray, List.set_cons_zero, List.set_cons_succ]
    refine take_at (i := 3) (d := 18) (v := ?_) rfl (by kernel_rfl) (hy := .inl ⟨by kernel_rfl, ?_⟩) (h := ?_)
    rotate_left
    ·intro W hSw; (try dsimp only at hSw); go_simp; first | done | with_reducible rfl
    try simp only [Act.put, List.setIfInBounds_toArray, List.set_cons_zero, List.set_cons_succ]
    refine take_at (i := 4) (d := 19) (v := undef) rfl (by kernel_rfl) (hy := .inr ⟨by kernel_rfl, rfl⟩) (h := ?_)
    try simp only [Act.put, List.setIfInBounds_toArray, List.set_cons_zero, List.set_cons_succ]
    refine take_at (i := 5) (d := 20) (v := undef) rfl (by kernel_rfl) (hy := .inr ⟨by kernel_rfl, rfl⟩) (h := ?_)
    try simp only [Act.put, List.setIfInBounds_toArray, List.set_cons_zero, List.set_cons_succ]
    refine take_at (i := 6) (d := 21) (v := undef) rfl (by kernel_rfl) (hy := .inr ⟨by kernel_rfl, rfl⟩) (h := ?_)
    try simp only [Act.put, List.setIfInBounds_toArray, List.set_cons_zero, List.set_cons_succ]
    refine take_at (i := 7) (d := 22) (v := ?_) rfl (by kernel_rfl) (hy := .inl ⟨by kernel_rfl, ?_⟩) (h := ?_)
    rotate_left
    ·intro W hSw; (try dsimp only at hSw); go_simp; first | done | with_reducible rfl
    try simp only [Act.put, List.setIfInBounds_toArray, List.set_cons_zero, List.set_cons_succ]
    refine take_at (i := 8) (d := 23) (v := ?_) rfl (by kernel_rfl) (hy := .inl ⟨by kernel_rfl, ?_⟩) (h := ?_)
    rotate_left
    ·intro W hSw; (try dsimp only at hSw); go_simp; first | done | with_reducible rfl
    try simp only [Act.put, List.setIfInBounds_toArray, List.set_cons_zero, List.set_cons_succ]
    refine take_at (i := 9) (d := 24) (v := undef) rfl (by kernel_rfl) (hy := .inr ⟨by kernel_rfl, rfl⟩) (h := ?_)
    try simp only [Act.put, List.setIfInBounds_toArray, List.set_cons_zero, List.set_cons_succ]
    refine take_at (i := 10) (d := 25) (v := undef) rfl (by kernel_rfl) (hy := .inr ⟨by kernel_rfl, rfl⟩) (h := ?_)
    try simp only [Act.put, List.setIfInBounds_toArray, List.set_cons_zero, List.set_cons_succ]
    refine take_at (i := 11) (d := 26) (v := undef) rfl (by kernel_rfl) (hy := .inr ⟨by kernel_rfl, rfl⟩) (h := ?_)
    try simp only [Act.put, List.setIfInBounds_toArray, List.set_cons_zero, List.set_cons_succ]
    refine take_at (i := 12) (d := 27) (v := undef) rfl (by kernel_rfl) (hy := .inr ⟨by kernel_rfl, rfl⟩) (h := ?_)
    try simp only [Act.put, List.setIfInBounds_toArray, List.set_cons_zero, List.set_cons_succ]
    refine take_at (i := 13) (d := 28) (v := ?_) rfl (by kernel_rfl) (hy := .inl ⟨by kernel_rfl, ?_⟩) (h := ?_)
    rotate_left
    ·intro W hSw; (try dsimp only at hSw); go_simp; first | done | with_reducible rfl
    try simp only [Act.put, List.setIfInBounds_toArray, List.set_cons_zero, List.set_cons_succ]
    refine take_at (i := 14) (d := 29) (v := ?_) rfl (by kernel_rfl) (hy := .inl ⟨by kernel_rfl, ?_⟩) (h := ?_)
    rotate_left
    ·intro W hSw; (try dsimp only at hSw); go_simp; first | done | with_reducible rfl
    try simp only [Act.put, List.setIfInBounds_toArray, List.set_cons_zero, List.set_cons_succ]
    refine take_at (i := 15) (d := 30) (v := undef) rfl (by kernel_rfl) (hy := .inr ⟨by kernel_rfl, rfl⟩) (h := ?_)
    try simp only [Act.put, List.setIfInBounds_toArray, List.set_cons_zero, List.set_cons_succ]
    refine take_at (i := 16) (d := 31) (v := undef) rfl (by kernel_rfl) (hy := .inr ⟨by kernel_rfl, rfl⟩) (h := ?_)
    try simp only [Act.put, List.setIfInBounds_toArray, List.set_cons_zero, List.set_cons_succ]
    refine take_at (i := 17) (d := 32) (v := undef) rfl (by kernel_rfl) (hy := .inr ⟨by kernel_rfl, rfl⟩) (h := ?_)
    try simp only [Act.put, List.setIfInBounds_toArray, List.set_cons_zero, List.set_cons_succ]
    refine take_at (i := 18) (d := 33) (v := undef) rfl (by kernel_rfl) (hy := .inr ⟨by kernel_rfl, rfl⟩) (h := ?_)
    try simp only [Act.put, List.setIfInBounds_toArray, List.set_cons_zero, List.set_cons_succ]
    refine take_at (i := 19) (d := 34) (v := ?_) rfl (by kernel_rfl) (hy := .inl ⟨by kernel_rfl, ?_⟩) (h := ?_)
    rotate_left
    ·intro W hSw; (try dsimp only at hSw); go_simp; first | done | with_reducible rfl
    try simp only [Act.put, List.setIfInBounds_toArray, List.set_cons_zero, List.set_cons_succ]
    refine take_at (i := 20) (d := 35) (v := ?_) rfl (by kernel_rfl) (hy := .inl ⟨by kernel_rfl, ?_⟩) (h := ?_)
    rotate_left
    ·intro W hSw; (try dsimp only at hSw); go_simp; first | done | with_reducible rfl
    try simp only [Act.put, List.setIfInBounds_toArray, List.set_cons_zero, List.set_cons_succ]
    refine take_at (i := 21) (d := 36) (v := undef) rfl (by kernel_rfl) (hy := .inr ⟨by kernel_rfl, rfl⟩) (h := ?_)
    try simp only [Act.put, List.setIfInBounds_toArray, List.set_cons_zero, List.set_cons_succ]
    refine take_at (i := 22) (d := 37) (v := undef) rfl (by kernel_rfl) (hy := .inr ⟨by kernel_rfl, rfl⟩) (h := ?_)
    try simp only [Act.put, List.setIfInBounds_toArray, List.set_cons_zero, List.set_cons_succ]
    refine take_at (i := 23) (d := 38) (v := undef) rfl (by kernel_rfl) (hy := .inr ⟨by kernel_rfl, rfl⟩) (h := ?_)
    try simp only [Act.put, List.setIfInBounds_toArray, List.set_cons_zero, List.set_cons_succ]
    refine take_at (i := 24) (d := 39) (v := undef) rfl (by kernel_rfl) (hy := .inr ⟨by kernel_rfl, rfl⟩) (h := ?_)
    try simp only [Act.put, List.setIfInBounds_toArray, List.set_cons_zero, List.set_cons_succ]
    refine take_at (i := 25) (d := 40) (v := undef) rfl (by kernel_rfl) (hy := .inr ⟨by kernel_rfl, rfl⟩) (h := ?_)
    try simp only [Act.put, List.setIfInBounds_toArray, List.set_cons_zero, List.set_cons_succ]
    refine take_at (i := 26) (d := 41) (v := undef) rfl (by kernel_rfl) (hy := .inr ⟨by kernel_rfl, rfl⟩) (h := ?_)
    try simp only [Act.put, List.setIfInBounds_toArray, List.set_cons_zero, List.set_cons_succ]
    refine take_at (i := 27) (d := 42) (v := undef) rfl (by kernel_rfl) (hy := .inr ⟨by kernel_rfl, rfl⟩) (h := ?_)
    try simp only [Act.put, List.setIfInBounds_toArray, List.set_cons_zero, List.set_cons_succ]
    refine take_at (i := 28) (d := 43) (v := undef) rfl (by kernel_rfl) (hy := .inr ⟨by kernel_rfl, rfl⟩) (h := ?_)
    try simp only [Act.put, List.setIfInBounds_toArray, List.set_cons_zero, List.set_cons_succ]
    refine take_at (i := 29) (d := 44) (v := undef) rfl (by kernel_rfl) (hy := .inr ⟨by kernel_rfl, rfl⟩) (h := ?_)
    try simp only [Act.put, List.setIfInBounds_toArray, List.set_cons_zero, List.set_cons_succ]
    refine take_at (i := 30) (d := 45) (v := undef) rfl (by kernel_rfl) (hy := .inr ⟨by kernel_rfl, rfl⟩) (h := ?_)
    try simp only [Act.put, List.setIfInBounds_toArray, List.set_cons_zero, List.set_cons_succ]
    refine take_at (i := 31) (d := 46) (v := undef) rfl (by kernel_rfl) (hy := .inr ⟨by kernel_rfl, rfl⟩) (h := ?_)
    try simp only [Act.put, List.setIfInBounds_toArray, List.set_cons_zero, List.set_cons_succ]
    refine take_at (i := 32) (d := 47) (v := undef) rfl (by kernel_rfl) (hy := .inr ⟨by kernel_rfl, rfl⟩) (h := ?_)
    try simp only [Act.put, List.setIfInBounds_toArray, List.set_cons_zero, List.set_cons_succ]
    refine take_at (i := 33) (d := 48) (v := undef) rfl (by kernel_rfl) (hy := .inr ⟨by kernel_rfl, rfl⟩) (h := ?_)
    try simp only [Act.put, List.setIfInBounds_toArray, List.set_cons_zero, List.set_cons_succ]
    refine take_at (i := 34) (d := 49) (v := ?_) rfl (by kernel_rfl) (hy := .inl ⟨by kernel_rfl, ?_⟩) (h := ?_)
    rotate_left
    ·intro W hSw; (try dsimp only at hSw); go_simp; first | done | with_reducible rfl
    try simp only [Act.put, List.setIfInBounds_toArray, List.set_cons_zero, List.set_cons_succ]
    refine wpAnyH_done (by kernel_rfl) ?_ _
    go_wp2_with fail
    go_ret
    exact ⟨rfl, Below.after HW.out (Below.refl _ _).drew⟩
   ·have m1' : 1 ≤ m := by omega
    have d1 : decide (m < 1) = false := by simp; omega
    clear m1
    by_cases m2 : 4 < m
    ·have htt : t = false := by
      rw [← HT.out, all_bad hlt (by unfold itemJ itB; rw [HX.out]; simp [show ¬ (m ≤ 4) from by omega])]
      simp
     subst htt
     have HCL : Hid (∀ W, Below (wr.alloc (.cells #[.int .i64 m, .string (str nm), .string (str id)] 300)).heap.size (wr.alloc (.cells #[.int .i64 m, .string (str nm), .string (str id)] 300)) W → (fun W : World => W.cell? ⟨wr.heap.size, 0, none⟩ = some (.int .i64 m) ∧ W.cell? ⟨wr.heap.size, 1, none⟩ = some (.string (str nm)) ∧ W.cell? ⟨wr.heap.size, 2, none⟩ = some (.string (str id))) W) := fun W hW => ⟨(HBK.out.below hW HBK.out.lt).cell 0, (HBK.out.below hW HBK.out.lt).cell 1, (HBK.out.below hW HBK.out.lt).cell 2⟩
     go_wp2_with fail
     clear c0 c1 c2
     refine wp_region_held_drew (S := (fun W : World => W.cell? ⟨wr.heap.size, 0, none⟩ = some (.int .i64 m) ∧ W.cell? ⟨wr.heap.size, 1, none⟩ = some (.string (str nm)) ∧ W.cell? ⟨wr.heap.size, 2, none⟩ = some (.string (str id)))) (by kernel_rfl) ?_ (fun hHeld => ?_)
     ·(try dsimp only); exact HCL.out _ (Below.refl _ _).drew
     refine take_at (i := 0) (d := 15) (v := ?_) rfl (by kernel_rfl) (hy := .inl ⟨by kernel_rfl, ?_⟩) (h := ?_)
     rotate_left
     ·intro W hSw; (try dsimp only at hSw); go_simp; first | done | with_reducible rfl
     try simp only [Act.put, List.setIfInBounds_toArray, List.set_cons_zero, List.set_cons_succ]
     refine take_at (i := 1) (d := 16) (v := ?_) rfl (by kernel_rfl) (hy := .inl ⟨by kernel_rfl, ?_⟩) (h := ?_)
     rotate_left
     ·intro W hSw; (try dsimp only at hSw); go_simp; first | done | with_reducible rfl
     try simp only [Act.put, List.setIfInBounds_toArray, List.set_cons_zero, List.set_cons_succ]
     refine take_at (i := 2) (d := 17) (v := ?_) rfl (by kernel_rfl) (hy := .inl ⟨by kernel_rfl, ?_⟩) (h := ?_)
     rotate_left
     ·intro W hSw; (try dsimp only at hSw); go_simp; first | done | with_reducible rfl
     try simp only [Act.put, List.setIfInBounds_toArray, List.set_cons_zero, List.set_cons_succ]
     refine take_at (i := 3) (d := 18) (v := ?_) rfl (by kernel_rfl) (hy := .inl ⟨by kernel_rfl, ?_⟩) (h := ?_)
     rotate_left
     ·intro W hSw; (try dsimp only at hSw); go_simp; first | done | with_reducible rfl
     try simp only [Act.put, List.setIfInBounds_toArray, List.set_cons_zero, List.set_cons_succ]
     refine take_at (i := 4) (d := 19) (v := ?_) rfl (by kernel_rfl) (hy := .inl ⟨by kernel_rfl, ?_⟩) (h := ?_)
     rotate_left
     ·intro W hSw; (try dsimp only at hSw); go_simp; first | done | with_reducible rfl
     try simp only [Act.put, List.setIfInBounds_toArray, List.set_cons_zero, List.set_cons_succ]
     refine take_at (i := 5) (d := 20) (v := ?_) rfl (by kernel_rfl) (hy := .inl ⟨by kernel_rfl, ?_⟩) (h := ?_)
     rotate_left
     ·intro W hSw; (try dsimp only at hSw); go_simp; first | done | with_reducible rfl
     try simp only [Act.put, List.setIfInBounds_toArray, List.set_cons_zero, List.set_cons_succ]
     refine take_at (i := 6) (d := 21) (v := ?_) rfl (by kernel_rfl) (hy := .inl ⟨by kernel_rfl, ?_⟩) (h := ?_)
     rotate_left
     ·intro W hSw; (try dsimp only at hSw); go_simp; first | done | with_reducible rfl
     try simp only [Act.put, List.setIfInBounds_toArray, List.set_cons_zero, List.set_cons_succ]
     refine take_at (i := 7) (d := 22) (v := ?_) rfl (by kernel_rfl) (hy := .inl ⟨by kernel_rfl, ?_⟩) (h := ?_)
     rotate_left
     ·intro W hSw; (try dsimp only at hSw); go_simp; first | done | with_reducible rfl
     try simp only [Act.put, List.setIfInBounds_toArray, List.set_cons_zero, List.set_cons_succ]
     refine take_at (i := 8) (d := 23) (v := ?_) rfl (by kernel_rfl) (hy := .inl ⟨by kernel_rfl, ?_⟩) (h := ?_)
     rotate_left
     ·intro W hSw; (try dsimp only at hSw); go_simp; first | done | with_reducible rfl
     try simp only [Act.put, List.setIfInBounds_toArray, List.set_cons_zero, List.set_cons_succ]
     refine take_at (i := 9) (d := 24) (v := undef) rfl (by kernel_rfl) (hy := .inr ⟨by kernel_rfl, rfl⟩) (h := ?_)
     try simp only [Act.put, List.setIfInBounds_toArray, List.set_cons_zero, List.set_cons_succ]
     refine take_at (i := 10) (d := 25) (v := undef) rfl (by kernel_rfl) (hy := .inr ⟨by kernel_rfl, rfl⟩) (h := ?_)
     try simp only [Act.put, List.setIfInBounds_toArray, List.set_cons_zero, List.set_cons_succ]
     refine take_at (i := 11) (d := 26) (v := undef) rfl (by kernel_rfl) (hy := .inr ⟨by kernel_rfl, rfl⟩) (h := ?_)
     try simp only [Act.put, List.setIfInBounds_toArray, List.set_cons_zero, List.set_cons_succ]
     refine take_at (i := 12) (d := 27) (v := undef) rfl (by kernel_rfl) (hy := .inr ⟨by kernel_rfl, rfl⟩) (h := ?_)
     try simp only [Act.put, List.setIfInBounds_toArray, List.set_cons_zero, List.set_cons_succ]
     refine take_at (i := 13) (d := 28) (v := ?_) rfl (by kernel_rfl) (hy := .inl ⟨by kernel_rfl, ?_⟩) (h := ?_)
     rotate_left
     ·intro W hSw; (try dsimp only at hSw); go_simp; first | done | with_reducible rfl
     try simp only [Act.put, List.setIfInBounds_toArray, List.set_cons_zero, List.set_cons_succ]
     refine take_at (i := 14) (d := 29) (v := ?_) rfl (by kernel_rfl) (hy := .inl ⟨by kernel_rfl, ?_⟩) (h := ?_)
     rotate_left
     ·intro W hSw; (try dsimp only at hSw); go_simp; first | done | with_reducible rfl
     try simp only [Act.put, List.setIfInBounds_toArray, List.set_cons_zero, List.set_cons_succ]
     refine take_at (i := 15) (d := 30) (v := undef) rfl (by kernel_rfl) (hy := .inr ⟨by kernel_rfl, rfl⟩) (h := ?_)
     try simp only [Act.put, List.setIfInBounds_toArray, List.set_cons_zero, List.set_cons_succ]
     refine take_at (i := 16) (d := 31) (v := undef) rfl (by kernel_rfl) (hy := .inr ⟨by kernel_rfl, rfl⟩) (h := ?_)
     try simp only [Act.put, List.setIfInBounds_toArray, List.set_cons_zero, List.set_cons_succ]
     refine take_at (i := 17) (d := 32) (v := undef) rfl (by kernel_rfl) (hy := .inr ⟨by kernel_rfl, rfl⟩) (h := ?_)
     try simp only [Act.put, List.setIfInBounds_toArray, List.set_cons_zero, List.set_cons_succ]
     refine take_at (i := 18) (d := 33) (v := undef) rfl (by kernel_rfl) (hy := .inr ⟨by kernel_rfl, rfl⟩) (h := ?_)
     try simp only [Act.put, List.setIfInBounds_toArray, List.set_cons_zero, List.set_cons_succ]
     refine take_at (i := 19) (d := 34) (v := ?_) rfl (by kernel_rfl) (hy := .inl ⟨by kernel_rfl, ?_⟩) (h := ?_)
     rotate_left
     ·intro W hSw; (try dsimp only at hSw); go_simp; first | done | with_reducible rfl
     try simp only [Act.put, List.setIfInBounds_toArray, List.set_cons_zero, List.set_cons_succ]
     refine take_at (i := 20) (d := 35) (v := ?_) rfl (by kernel_rfl) (hy := .inl ⟨by kernel_rfl, ?_⟩) (h := ?_)
     rotate_left
     ·intro W hSw; (try dsimp only at hSw); go_simp; first | done | with_reducible rfl
     try simp only [Act.put, List.setIfInBounds_toArray, List.set_cons_zero, List.set_cons_succ]
     refine take_at (i := 21) (d := 36) (v := undef) rfl (by kernel_rfl) (hy := .inr ⟨by kernel_rfl, rfl⟩) (h := ?_)
     try simp only [Act.put, List.setIfInBounds_toArray, List.set_cons_zero, List.set_cons_succ]
     refine take_at (i := 22) (d := 37) (v := undef) rfl (by kernel_rfl) (hy := .inr ⟨by kernel_rfl, rfl⟩) (h := ?_)
     try simp only [Act.put, List.setIfInBounds_toArray, List.set_cons_zero, List.set_cons_succ]
     refine take_at (i := 23) (d := 38) (v := undef) rfl (by kernel_rfl) (hy := .inr ⟨by kernel_rfl, rfl⟩) (h := ?_)
     try simp only [Act.put, List.setIfInBounds_toArray, List.set_cons_zero, List.set_cons_succ]
     refine take_at (i := 24) (d := 39) (v := undef) rfl (by kernel_rfl) (hy := .inr ⟨by kernel_rfl, rfl⟩) (h := ?_)
     try simp only [Act.put, List.setIfInBounds_toArray, List.set_cons_zero, List.set_cons_succ]
     refine take_at (i := 25) (d := 40) (v := undef) rfl (by kernel_rfl) (hy := .inr ⟨by kernel_rfl, rfl⟩) (h := ?_)
     try simp only [Act.put, List.setIfInBounds_toArray, List.set_cons_zero, List.set_cons_succ]
     refine take_at (i := 26) (d := 41) (v := undef) rfl (by kernel_rfl) (hy := .inr ⟨by kernel_rfl, rfl⟩) (h := ?_)
     try simp only [Act.put, List.setIfInBounds_toArray, List.set_cons_zero, List.set_cons_succ]
     refine take_at (i := 27) (d := 42) (v := undef) rfl (by kernel_rfl) (hy := .inr ⟨by kernel_rfl, rfl⟩) (h := ?_)
     try simp only [Act.put, List.setIfInBounds_toArray, List.set_cons_zero, List.set_cons_succ]
     refine take_at (i := 28) (d := 43) (v := undef) rfl (by kernel_rfl) (hy := .inr ⟨by kernel_rfl, rfl⟩) (h := ?_)
     try simp only [Act.put, List.setIfInBounds_toArray, List.set_cons_zero, List.set_cons_succ]
     refine take_at (i := 29) (d := 44) (v := undef) rfl (by kernel_rfl) (hy := .inr ⟨by kernel_rfl, rfl⟩) (h := ?_)
     try simp only [Act.put, List.setIfInBounds_toArray, List.set_cons_zero, List.set_cons_succ]
     refine take_at (i := 30) (d := 45) (v := undef) rfl (by kernel_rfl) (hy := .inr ⟨by kernel_rfl, rfl⟩) (h := ?_)
     try simp only [Act.put, List.setIfInBounds_toArray, List.set_cons_zero, List.set_cons_succ]
     refine take_at (i := 31) (d := 46) (v := undef) rfl (by kernel_rfl) (hy := .inr ⟨by kernel_rfl, rfl⟩) (h := ?_)
     try simp only [Act.put, List.setIfInBounds_toArray, List.set_cons_zero, List.set_cons_succ]
     refine take_at (i := 32) (d := 47) (v := undef) rfl (by kernel_rfl) (hy := .inr ⟨by kernel_rfl, rfl⟩) (h := ?_)
     try simp only [Act.put, List.setIfInBounds_toArray, List.set_cons_zero, List.set_cons_succ]
     refine take_at (i := 33) (d := 48) (v := undef) rfl (by kernel_rfl) (hy := .inr ⟨by kernel_rfl, rfl⟩) (h := ?_)
     try simp only [Act.put, List.setIfInBounds_toArray, List.set_cons_zero, List.set_cons_succ]
     refine take_at (i := 34) (d := 49) (v := ?_) rfl (by kernel_rfl) (hy := .inl ⟨by kernel_rfl, ?_⟩) (h := ?_)
     rotate_left
     ·intro W hSw; (try dsimp only at hSw); go_simp; first | done | with_reducible rfl
     try simp only [Act.put, List.setIfInBounds_toArray, List.set_cons_zero, List.set_cons_succ]
     refine wpAnyH_done (by kernel_rfl) ?_ _
     go_wp2_with fail
     go_ret
     exact ⟨rfl, Below.after HW.out (Below.refl _ _).drew⟩
    ·have m2' : m ≤ 4 := by omega
     have d2 : decide (4 < m) = false := by simp; omega
     clear m2
     obtain ⟨b, hb⟩ : ∃ b, nameB nm = b := ⟨_, rfl⟩
     have HBN := Lib.hid hb
     clear hb
     cases b with
     | false =>
      have htt : t = false := by
       rw [← HT.out, all_bad hlt (by unfold itemJ itB; rw [HX.out]; simp [HBN.out])]
       simp
      subst htt
      have HCL : Hid (∀ W, Below (wr.alloc (.cells #[.int .i64 m, .string (str nm), .string (str id)] 300)).heap.size (wr.alloc (.cells #[.int .i64 m, .string (str nm), .string (str id)] 300)) W → (fun W : World => W.cell? ⟨wr.heap.size, 0, none⟩ = some (.int .i64 m) ∧ W.cell? ⟨wr.heap.size, 1, none⟩ = some (.string (str nm)) ∧ W.cell? ⟨wr.heap.size, 2, none⟩ = some (.string (str id))) W) := fun W hW => ⟨(HBK.out.below hW HBK.out.lt).cell 0, (HBK.out.below hW HBK.out.lt).cell 1, (HBK.out.below hW HBK.out.lt).cell 2⟩
      go_wp2_with fail
      clear c0 c1 c2
      refine wp_region_held_drew (S := (fun W : World => W.cell? ⟨wr.heap.size, 0, none⟩ = some (.int .i64 m) ∧ W.cell? ⟨wr.heap.size, 1, none⟩ = some (.string (str nm)) ∧ W.cell? ⟨wr.heap.size, 2, none⟩ = some (.string (str id)))) (by kernel_rfl) ?_ (fun hHeld => ?_)
      ·(try dsimp only); exact HCL.out _ (Below.refl _ _).drew
      refine take_at (i := 0) (d := 15) (v := ?_) rfl (by kernel_rfl) (hy := .inl ⟨by kernel_rfl, ?_⟩) (h := ?_)
      rotate_left
      ·intro W hSw; (try dsimp only at hSw); go_simp; first | done | with_reducible rfl
      try simp only [Act.put, List.setIfInBounds_toArray, List.set_cons_zero, List.set_cons_succ]
      refine take_at (i := 1) (d := 16) (v := ?_) rfl (by kernel_rfl) (hy := .inl ⟨by kernel_rfl, ?_⟩) (h := ?_)
      rotate_left
      ·intro W hSw; (try dsimp only at hSw); go_simp; first | done | with_reducible rfl
      try simp only [Act.put, List.setIfInBounds_toArray, List.set_cons_zero, List.set_cons_succ]
      refine take_at (i := 2) (d := 17) (v := ?_) rfl (by kernel_rfl) (hy := .inl ⟨by kernel_rfl, ?_⟩) (h := ?_)
      rotate_left
      ·intro W hSw; (try dsimp only at hSw); go_simp; first | done | with_reducible rfl
      try simp only [Act.put, List.setIfInBounds_toArray, List.set_cons_zero, List.set_cons_succ]
      refine take_at (i := 3) (d := 18) (v := ?_) rfl (by kernel_rfl) (hy := .inl ⟨by kernel_rfl, ?_⟩) (h := ?_)
      rotate_left
      ·intro W hSw; (try dsimp only at hSw); go_simp; first | done | with_reducible rfl
      try simp only [Act.put, List.setIfInBounds_toArray, List.set_cons_zero, List.set_cons_succ]
      refine take_at (i := 4) (d := 19) (v := ?_) rfl (by kernel_rfl) (hy := .inl ⟨by kernel_rfl, ?_⟩) (h := ?_)
      rotate_left
      ·intro W hSw; (try dsimp only at hSw); go_simp; first | done | with_reducible rfl
      try simp only [Act.put, List.setIfInBounds_toArray, List.set_cons_zero, List.set_cons_succ]
      refine take_at (i := 5) (d := 20) (v := ?_) rfl (by kernel_rfl) (hy := .inl ⟨by kernel_rfl, ?_⟩) (h := ?_)
      rotate_left
      ·intro W hSw; (try dsimp only at hSw); go_simp; first | done | with_reducible rfl
      try simp only [Act.put, List.setIfInBounds_toArray, List.set_cons_zero, List.set_cons_succ]
      refine take_at (i := 6) (d := 21) (v := ?_) rfl (by kernel_rfl) (hy := .inl ⟨by kernel_rfl, ?_⟩) (h := ?_)
      rotate_left
      ·intro W hSw; (try dsimp only at hSw); go_simp; first | done | with_reducible rfl
      try simp only [Act.put, List.setIfInBounds_toArray, List.set_cons_zero, List.set_cons_succ]
      refine take_at (i := 7) (d := 22) (v := ?_) rfl (by kernel_rfl) (hy := .inl ⟨by kernel_rfl, ?_⟩) (h := ?_)
      rotate_left
      ·intro W hSw; (try dsimp only at hSw); go_simp; first | done | with_reducible rfl
      try simp only [Act.put, List.setIfInBounds_toArray, List.set_cons_zero, List.set_cons_succ]
      refine take_at (i := 8) (d := 23) (v := ?_) rfl (by kernel_rfl) (hy := .inl ⟨by kernel_rfl, ?_⟩) (h := ?_)
      rotate_left
      ·intro W hSw; (try dsimp only at hSw); go_simp; first | done | with_reducible rfl
      try simp only [Act.put, List.setIfInBounds_toArray, List.set_cons_zero, List.set_cons_succ]
      refine take_at (i := 9) (d := 24) (v := ?_) rfl (by kernel_rfl) (hy := .inl ⟨by kernel_rfl, ?_⟩) (h := ?_)
      rotate_left
      ·intro W hSw; (try dsimp only at hSw); go_simp; first | done | with_reducible rfl
      try simp only [Act.put, List.setIfInBounds_toArray, List.set_cons_zero, List.set_cons_succ]
      refine take_at (i := 10) (d := 25) (v := ?_) rfl (by kernel_rfl) (hy := .inl ⟨by kernel_rfl, ?_⟩) (h := ?_)
      rotate_left
      ·intro W hSw; (try dsimp only at hSw); go_simp; first | done | with_reducible rfl
      try simp only [Act.put, List.setIfInBounds_toArray, List.set_cons_zero, List.set_cons_succ]
      refine wpAnyH_ready (rs := [11]) (by kernel_rfl) (by simp) (AllReadyH.cons rfl (fun K hK => ?_) AllReadyH.nil)
      go_simp
      go_at_call 222
      refine (rname_all nm _).mono ?_
      rw [HBN.out]
      rintro e w6 ⟨rfl, rfl⟩
      try go_wp2_with fail
      refine hK.out _ _ ?_ (fun hHeld => ?_)
      ·(try dsimp only); exact HCL.out _ (Below.refl _ _).drew
      clear hK K
      try simp only [Act.put, List.setIfInBounds_toArray, List.set_cons_zero, List.set_cons_succ]
      refine take_at (i := 12) (d := 27) (v := ?_) rfl (by kernel_rfl) (hy := .inl ⟨by kernel_rfl, ?_⟩) (h := ?_)
      rotate_left
      ·intro W hSw; (try dsimp only at hSw); go_simp; first | done | with_reducible rfl
      try simp only [Act.put, List.setIfInBounds_toArray, List.set_cons_zero, List.set_cons_succ]
      refine take_at (i := 13) (d := 28) (v := ?_) rfl (by kernel_rfl) (hy := .inl ⟨by kernel_rfl, ?_⟩) (h := ?_)
      rotate_left
      ·intro W hSw; (try dsimp only at hSw); go_simp; first | done | with_reducible rfl
      try simp only [Act.put, List.setIfInBounds_toArray, List.set_cons_zero, List.set_cons_succ]
      refine take_at (i := 14) (d := 29) (v := ?_) rfl (by kernel_rfl) (hy := .inl ⟨by kernel_rfl, ?_⟩) (h := ?_)
      rotate_left
      ·intro W hSw; (try dsimp only at hSw); go_simp; first | done | with_reducible rfl
      try simp only [Act.put, List.setIfInBounds_toArray, List.set_cons_zero, List.set_cons_succ]
      refine take_at (i := 15) (d := 30) (v := undef) rfl (by kernel_rfl) (hy := .inr ⟨by kernel_rfl, rfl⟩) (h := ?_)
      try simp only [Act.put, List.setIfInBounds_toArray, List.set_cons_zero, List.set_cons_succ]
      refine take_at (i := 16) (d := 31) (v := undef) rfl (by kernel_rfl) (hy := .inr ⟨by kernel_rfl, rfl⟩) (h := ?_)
      try simp only [Act.put, List.setIfInBounds_toArray, List.set_cons_zero, List.set_cons_succ]
      refine take_at (i := 17) (d := 32) (v := undef) rfl (by kernel_rfl) (hy := .inr ⟨by kernel_rfl, rfl⟩) (h := ?_)
      try simp only [Act.put, List.setIfInBounds_toArray, List.set_cons_zero, List.set_cons_succ]
      refine take_at (i := 18) (d := 33) (v := undef) rfl (by kernel_rfl) (hy := .inr ⟨by kernel_rfl, rfl⟩) (h := ?_)
      try simp only [Act.put, List.setIfInBounds_toArray, List.set_cons_zero, List.set_cons_succ]
      refine take_at (i := 19) (d := 34) (v := ?_) rfl (by kernel_rfl) (hy := .inl ⟨by kernel_rfl, ?_⟩) (h := ?_)
      rotate_left
      ·intro W hSw; (try dsimp only at hSw); go_simp; first | done | with_reducible rfl
      try simp only [Act.put, List.setIfInBounds_toArray, List.set_cons_zero, List.set_cons_succ]
      refine take_at (i := 20) (d := 35) (v := ?_) rfl (by kernel_rfl) (hy := .inl ⟨by kernel_rfl, ?_⟩) (h := ?_)
      rotate_left
      ·intro W hSw; (try dsimp only at hSw); go_simp; first | done | with_reducible rfl
      try simp only [Act.put, List.setIfInBounds_toArray, List.set_cons_zero, List.set_cons_succ]
      refine take_at (i := 21) (d := 36) (v := undef) rfl (by kernel_rfl) (hy := .inr ⟨by kernel_rfl, rfl⟩) (h := ?_)
      try simp only [Act.put, List.setIfInBounds_toArray, List.set_cons_zero, List.set_cons_succ]
      refine take_at (i := 22) (d := 37) (v := undef) rfl (by kernel_rfl) (hy := .inr ⟨by kernel_rfl, rfl⟩) (h := ?_)
      try simp only [Act.put, List.setIfInBounds_toArray, List.set_cons_zero, List.set_cons_succ]
      refine take_at (i := 23) (d := 38) (v := undef) rfl (by kernel_rfl) (hy := .inr ⟨by kernel_rfl, rfl⟩) (h := ?_)
      try simp only [Act.put, List.setIfInBounds_toArray, List.set_cons_zero, List.set_cons_succ]
      refine take_at (i := 24) (d := 39) (v := undef) rfl (by kernel_rfl) (hy := .inr ⟨by kernel_rfl, rfl⟩) (h := ?_)
      try simp only [Act.put, List.setIfInBounds_toArray, List.set_cons_zero, List.set_cons_succ]
      refine take_at (i := 25) (d := 40) (v := undef) rfl (by kernel_rfl) (hy := .inr ⟨by kernel_rfl, rfl⟩) (h := ?_)
      try simp only [Act.put, List.setIfInBounds_toArray, List.set_cons_zero, List.set_cons_succ]
      refine take_at (i := 26) (d := 41) (v := undef) rfl (by kernel_rfl) (hy := .inr ⟨by kernel_rfl, rfl⟩) (h := ?_)
      try simp only [Act.put, List.setIfInBounds_toArray, List.set_cons_zero, List.set_cons_succ]
      refine take_at (i := 27) (d := 42) (v := undef) rfl (by kernel_rfl) (hy := .inr ⟨by kernel_rfl, rfl⟩) (h := ?_)
      try simp only [Act.put, List.setIfInBounds_toArray, List.set_cons_zero, List.set_cons_succ]
      refine take_at (i := 28) (d := 43) (v := undef) rfl (by kernel_rfl) (hy := .inr ⟨by kernel_rfl, rfl⟩) (h := ?_)
      try simp only [Act.put, List.setIfInBounds_toArray, List.set_cons_zero, List.set_cons_succ]
      refine take_at (i := 29) (d := 44) (v := undef) rfl (by kernel_rfl) (hy := .inr ⟨by kernel_rfl, rfl⟩) (h := ?_)
      try simp only [Act.put, List.setIfInBounds_toArray, List.set_cons_zero, List.set_cons_succ]
      refine take_at (i := 30) (d := 45) (v := undef) rfl (by kernel_rfl) (hy := .inr ⟨by kernel_rfl, rfl⟩) (h := ?_)
      try simp only [Act.put, List.setIfInBounds_toArray, List.set_cons_zero, List.set_cons_succ]
      refine take_at (i := 31) (d := 46) (v := undef) rfl (by kernel_rfl) (hy := .inr ⟨by kernel_rfl, rfl⟩) (h := ?_)
      try simp only [Act.put, List.setIfInBounds_toArray, List.set_cons_zero, List.set_cons_succ]
      refine take_at (i := 32) (d := 47) (v := undef) rfl (by kernel_rfl) (hy := .inr ⟨by kernel_rfl, rfl⟩) (h := ?_)
      try simp only [Act.put, List.setIfInBounds_toArray, List.set_cons_zero, List.set_cons_succ]
      refine take_at (i := 33) (d := 48) (v := undef) rfl (by kernel_rfl) (hy := .inr ⟨by kernel_rfl, rfl⟩) (h := ?_)
      try simp only [Act.put, List.setIfInBounds_toArray, List.set_cons_zero, List.set_cons_succ]
      refine take_at (i := 34) (d := 49) (v := ?_) rfl (by kernel_rfl) (hy := .inl ⟨by kernel_rfl, ?_⟩) (h := ?_)
      rotate_left
      ·intro W hSw; (try dsimp only at hSw); go_simp; first | done | with_reducible rfl
      try simp only [Act.put, List.setIfInBounds_toArray, List.set_cons_zero, List.set_cons_succ]
      refine wpAnyH_done (by kernel_rfl) ?_ _
      go_wp2_with fail
      go_ret
      exact ⟨rfl, Below.after HW.out (Below.refl _ _).drew⟩
     | true =>
      obtain ⟨b, hb⟩ : ∃ b, validB id = b := ⟨_, rfl⟩
      have HBV := Lib.hid hb
      clear hb
      cases b with
      | false =>
       have htt : t = false := by
        rw [← HT.out, all_bad hlt (by unfold itemJ itB; rw [HX.out]; simp [HBV.out])]
        simp
       subst htt
       have HCL : Hid (∀ W, Below (wr.alloc (.cells #[.int .i64 m, .string (str nm), .string (str id)] 300)).heap.size (wr.alloc (.cells #[.int .i64 m, .string (str nm), .string (str id)] 300)) W → (fun W : World => W.cell? ⟨wr.heap.size, 0, none⟩ = some (.int .i64 m) ∧ W.cell? ⟨wr.heap.size, 1, none⟩ = some (.string (str nm)) ∧ W.cell? ⟨wr.heap.size, 2, none⟩ = some (.string (str id))) W) := fun W hW => ⟨(HBK.out.below hW HBK.out.lt).cell 0, (HBK.out.below hW HBK.out.lt).cell 1, (HBK.out.below hW HBK.out.lt).cell 2⟩
       go_wp2_with fail
       clear c0 c1 c2
       refine wp_region_held_drew (S := (fun W : World => W.cell? ⟨wr.heap.size, 0, none⟩ = some (.int .i64 m) ∧ W.cell? ⟨wr.heap.size, 1, none⟩ = some (.string (str nm)) ∧ W.cell? ⟨wr.heap.size, 2, none⟩ = some (.string (str id)))) (by kernel_rfl) ?_ (fun hHeld => ?_)
       ·(try dsimp only); exact HCL.out _ (Below.refl _ _).drew
       refine take_at (i := 0) (d := 15) (v := ?_) rfl (by kernel_rfl) (hy := .inl ⟨by kernel_rfl, ?_⟩) (h := ?_)
       rotate_left
       ·intro W hSw; (try dsimp only at hSw); go_simp; first | done | with_reducible rfl
       try simp only [Act.put, List.setIfInBounds_toArray, List.set_cons_zero, List.set_cons_succ]
       refine take_at (i := 1) (d := 16) (v := ?_) rfl (by kernel_rfl) (hy := .inl ⟨by kernel_rfl, ?_⟩) (h := ?_)
       rotate_left
       ·intro W hSw; (try dsimp only at hSw); go_simp; first | done | with_reducible rfl
       try simp only [Act.put, List.setIfInBounds_toArray, List.set_cons_zero, List.set_cons_succ]
       refine take_at (i := 2) (d := 17) (v := ?_) rfl (by kernel_rfl) (hy := .inl ⟨by kernel_rfl, ?_⟩) (h := ?_)
       rotate_left
       ·intro W hSw; (try dsimp only at hSw); go_simp; first | done | with_reducible rfl
       try simp only [Act.put, List.setIfInBounds_toArray, List.set_cons_zero, List.set_cons_succ]
       refine take_at (i := 3) (d := 18) (v := ?_) rfl (by kernel_rfl) (hy := .inl ⟨by kernel_rfl, ?_⟩) (h := ?_)
       rotate_left
       ·intro W hSw; (try dsimp only at hSw); go_simp; first | done | with_reducible rfl
       try simp only [Act.put, List.setIfInBounds_toArray, List.set_cons_zero, List.set_cons_succ]
       refine take_at (i := 4) (d := 19) (v := ?_) rfl (by kernel_rfl) (hy := .inl ⟨by kernel_rfl, ?_⟩) (h := ?_)
       rotate_left
       ·intro W hSw; (try dsimp only at hSw); go_simp; first | done | with_reducible rfl
       try simp only [Act.put, List.setIfInBounds_toArray, List.set_cons_zero, List.set_cons_succ]
       refine take_at (i := 5) (d := 20) (v := ?_) rfl (by kernel_rfl) (hy := .inl ⟨by kernel_rfl, ?_⟩) (h := ?_)
       rotate_left
       ·intro W hSw; (try dsimp only at hSw); go_simp; first | done | with_reducible rfl
       try simp only [Act.put, List.setIfInBounds_toArray, List.set_cons_zero, List.set_cons_succ]
       refine take_at (i := 6) (d := 21) (v := ?_) rfl (by kernel_rfl) (hy := .inl ⟨by kernel_rfl, ?_⟩) (h := ?_)
       rotate_left
       ·intro W hSw; (try dsimp only at hSw); go_simp; first | done | with_reducible rfl
       try simp only [Act.put, List.setIfInBounds_toArray, List.set_cons_zero, List.set_cons_succ]
       refine take_at (i := 7) (d := 22) (v := ?_) rfl (by kernel_rfl) (hy := .inl ⟨by kernel_rfl, ?_⟩) (h := ?_)
       rotate_left
       ·intro W hSw; (try dsimp only at hSw); go_simp; first | done | with_reducible rfl
       try simp only [Act.put, List.setIfInBounds_toArray, List.set_cons_zero, List.set_cons_succ]
       refine take_at (i := 8) (d := 23) (v := ?_) rfl (by kernel_rfl) (hy := .inl ⟨by kernel_rfl, ?_⟩) (h := ?_)
       rotate_left
       ·intro W hSw; (try dsimp only at hSw); go_simp; first | done | with_reducible rfl
       try simp only [Act.put, List.setIfInBounds_toArray, List.set_cons_zero, List.set_cons_succ]
       refine take_at (i := 9) (d := 24) (v := ?_) rfl (by kernel_rfl) (hy := .inl ⟨by kernel_rfl, ?_⟩) (h := ?_)
       rotate_left
       ·intro W hSw; (try dsimp only at hSw); go_simp; first | done | with_reducible rfl
       try simp only [Act.put, List.setIfInBounds_toArray, List.set_cons_zero, List.set_cons_succ]
       refine take_at (i := 10) (d := 25) (v := ?_) rfl (by kernel_rfl) (hy := .inl ⟨by kernel_rfl, ?_⟩) (h := ?_)
       rotate_left
       ·intro W hSw; (try dsimp only at hSw); go_simp; first | done | with_reducible rfl
       try simp only [Act.put, List.setIfInBounds_toArray, List.set_cons_zero, List.set_cons_succ]
       refine wpAnyH_ready (rs := [11]) (by kernel_rfl) (by simp) (AllReadyH.cons rfl (fun K hK => ?_) AllReadyH.nil)
       go_simp
       go_at_call 222
       refine (rname_all nm _).mono ?_
       rw [HBN.out]
       rintro e w6 ⟨rfl, rfl⟩
       try go_wp2_with fail
       refine hK.out _ _ ?_ (fun hHeld => ?_)
       ·(try dsimp only); exact HCL.out _ (Below.refl _ _).drew
       clear hK K
       try simp only [Act.put, List.setIfInBounds_toArray, List.set_cons_zero, List.set_cons_succ]
       refine take_at (i := 12) (d := 27) (v := ?_) rfl (by kernel_rfl) (hy := .inl ⟨by kernel_rfl, ?_⟩) (h := ?_)
       rotate_left
       ·intro W hSw; (try dsimp only at hSw); go_simp; first | done | with_reducible rfl
       try simp only [Act.put, List.setIfInBounds_toArray, List.set_cons_zero, List.set_cons_succ]
       refine take_at (i := 13) (d := 28) (v := ?_) rfl (by kernel_rfl) (hy := .inl ⟨by kernel_rfl, ?_⟩) (h := ?_)
       rotate_left
       ·intro W hSw; (try dsimp only at hSw); go_simp; first | done | with_reducible rfl
       try simp only [Act.put, List.setIfInBounds_toArray, List.set_cons_zero, List.set_cons_succ]
       refine take_at (i := 14) (d := 29) (v := ?_) rfl (by kernel_rfl) (hy := .inl ⟨by kernel_rfl, ?_⟩) (h := ?_)
       rotate_left
       ·intro W hSw; (try dsimp only at hSw); go_simp; first | done | with_reducible rfl
       try simp only [Act.put, List.setIfInBounds_toArray, List.set_cons_zero, List.set_cons_succ]
       refine take_at (i := 15) (d := 30) (v := ?_) rfl (by kernel_rfl) (hy := .inl ⟨by kernel_rfl, ?_⟩) (h := ?_)
       rotate_left
       ·intro W hSw; (try dsimp only at hSw); go_simp; first | done | with_reducible rfl
       try simp only [Act.put, List.setIfInBounds_toArray, List.set_cons_zero, List.set_cons_succ]
       refine take_at (i := 16) (d := 31) (v := ?_) rfl (by kernel_rfl) (hy := .inl ⟨by kernel_rfl, ?_⟩) (h := ?_)
       rotate_left
       ·intro W hSw; (try dsimp only at hSw); go_simp; first | done | with_reducible rfl
       try simp only [Act.put, List.setIfInBounds_toArray, List.set_cons_zero, List.set_cons_succ]
       refine wpAnyH_ready (rs := [17]) (by kernel_rfl) (by simp) (AllReadyH.cons rfl (fun K hK => ?_) AllReadyH.nil)
       go_simp
       go_at_call 147
       refine (rvalid_all id _ HIS.out).mono ?_
       rw [HBV.out]
       rintro e w7 ⟨rfl, hb7⟩
       have HX7 := Lib.hid (show Below (wr.alloc (.cells #[.int .i64 m, .string (str nm), .string (str id)] 300)).heap.size (wr.alloc (.cells #[.int .i64 m, .string (str nm), .string (str id)] 300)) w7 from ⟨hb7.os, hb7.tape, hb7.output, hb7.size, hb7.block⟩)
       clear hb7
       try go_wp2_with fail
       refine hK.out _ _ ?_ (fun hHeld => ?_)
       ·(try dsimp only); exact HCL.out _ HX7.out
       clear hK K
       try simp only [Act.put, List.setIfInBounds_toArray, List.set_cons_zero, List.set_cons_succ]
       refine take_at (i := 18) (d := 33) (v := ?_) rfl (by kernel_rfl) (hy := .inl ⟨by kernel_rfl, ?_⟩) (h := ?_)
       rotate_left
       ·intro W hSw; (try dsimp only at hSw); go_simp; first | done | with_reducible rfl
       try simp only [Act.put, List.setIfInBounds_toArray, List.set_cons_zero, List.set_cons_succ]
       refine take_at (i := 19) (d := 34) (v := ?_) rfl (by kernel_rfl) (hy := .inl ⟨by kernel_rfl, ?_⟩) (h := ?_)
       rotate_left
       ·intro W hSw; (try dsimp only at hSw); go_simp; first | done | with_reducible rfl
       try simp only [Act.put, List.setIfInBounds_toArray, List.set_cons_zero, List.set_cons_succ]
       refine take_at (i := 20) (d := 35) (v := ?_) rfl (by kernel_rfl) (hy := .inl ⟨by kernel_rfl, ?_⟩) (h := ?_)
       rotate_left
       ·intro W hSw; (try dsimp only at hSw); go_simp; first | done | with_reducible rfl
       try simp only [Act.put, List.setIfInBounds_toArray, List.set_cons_zero, List.set_cons_succ]
       refine take_at (i := 21) (d := 36) (v := undef) rfl (by kernel_rfl) (hy := .inr ⟨by kernel_rfl, rfl⟩) (h := ?_)
       try simp only [Act.put, List.setIfInBounds_toArray, List.set_cons_zero, List.set_cons_succ]
       refine take_at (i := 22) (d := 37) (v := undef) rfl (by kernel_rfl) (hy := .inr ⟨by kernel_rfl, rfl⟩) (h := ?_)
       try simp only [Act.put, List.setIfInBounds_toArray, List.set_cons_zero, List.set_cons_succ]
       refine take_at (i := 23) (d := 38) (v := undef) rfl (by kernel_rfl) (hy := .inr ⟨by kernel_rfl, rfl⟩) (h := ?_)
       try simp only [Act.put, List.setIfInBounds_toArray, List.set_cons_zero, List.set_cons_succ]
       refine take_at (i := 24) (d := 39) (v := undef) rfl (by kernel_rfl) (hy := .inr ⟨by kernel_rfl, rfl⟩) (h := ?_)
       try simp only [Act.put, List.setIfInBounds_toArray, List.set_cons_zero, List.set_cons_succ]
       refine take_at (i := 25) (d := 40) (v := undef) rfl (by kernel_rfl) (hy := .inr ⟨by kernel_rfl, rfl⟩) (h := ?_)
       try simp only [Act.put, List.setIfInBounds_toArray, List.set_cons_zero, List.set_cons_succ]
       refine take_at (i := 26) (d := 41) (v := undef) rfl (by kernel_rfl) (hy := .inr ⟨by kernel_rfl, rfl⟩) (h := ?_)
       try simp only [Act.put, List.setIfInBounds_toArray, List.set_cons_zero, List.set_cons_succ]
       refine take_at (i := 27) (d := 42) (v := undef) rfl (by kernel_rfl) (hy := .inr ⟨by kernel_rfl, rfl⟩) (h := ?_)
       try simp only [Act.put, List.setIfInBounds_toArray, List.set_cons_zero, List.set_cons_succ]
       refine take_at (i := 28) (d := 43) (v := undef) rfl (by kernel_rfl) (hy := .inr ⟨by kernel_rfl, rfl⟩) (h := ?_)
       try simp only [Act.put, List.setIfInBounds_toArray, List.set_cons_zero, List.set_cons_succ]
       refine take_at (i := 29) (d := 44) (v := undef) rfl (by kernel_rfl) (hy := .inr ⟨by kernel_rfl, rfl⟩) (h := ?_)
       try simp only [Act.put, List.setIfInBounds_toArray, List.set_cons_zero, List.set_cons_succ]
       refine take_at (i := 30) (d := 45) (v := undef) rfl (by kernel_rfl) (hy := .inr ⟨by kernel_rfl, rfl⟩) (h := ?_)
       try simp only [Act.put, List.setIfInBounds_toArray, List.set_cons_zero, List.set_cons_succ]
       refine take_at (i := 31) (d := 46) (v := undef) rfl (by kernel_rfl) (hy := .inr ⟨by kernel_rfl, rfl⟩) (h := ?_)
       try simp only [Act.put, List.setIfInBounds_toArray, List.set_cons_zero, List.set_cons_succ]
       refine take_at (i := 32) (d := 47) (v := undef) rfl (by kernel_rfl) (hy := .inr ⟨by kernel_rfl, rfl⟩) (h := ?_)
       try simp only [Act.put, List.setIfInBounds_toArray, List.set_cons_zero, List.set_cons_succ]
       refine take_at (i := 33) (d := 48) (v := undef) rfl (by kernel_rfl) (hy := .inr ⟨by kernel_rfl, rfl⟩) (h := ?_)
       try simp only [Act.put, List.setIfInBounds_toArray, List.set_cons_zero, List.set_cons_succ]
       refine take_at (i := 34) (d := 49) (v := ?_) rfl (by kernel_rfl) (hy := .inl ⟨by kernel_rfl, ?_⟩) (h := ?_)
       rotate_left
       ·intro W hSw; (try dsimp only at hSw); go_simp; first | done | with_reducible rfl
       try simp only [Act.put, List.setIfInBounds_toArray, List.set_cons_zero, List.set_cons_succ]
       refine wpAnyH_done (by kernel_rfl) ?_ _
       go_wp2_with fail
       go_ret
       exact ⟨rfl, Below.after HW.out HX7.out⟩
      | true =>
       have HI : Hid (itB (m, nm, id) = true) := by
        unfold Hid itB
        simp [m1', m2', HBN.out, HBV.out]
       rcases Nat.eq_zero_or_pos k with h0 | h0
       ·have HO := Lib.hid (all_next HOK.out (show itemJ ls k = true from by unfold itemJ; rw [HX.out, HI.out]; simp [h0]))
        have kz : decide (0 < k) = false := by rw [h0]; rfl
        have kz2 : ¬ (0 < k) := by omega
        clear h0
        have HCL : Hid (∀ W, Below (wr.alloc (.cells #[.int .i64 m, .string (str nm), .string (str id)] 300)).heap.size (wr.alloc (.cells #[.int .i64 m, .string (str nm), .string (str id)] 300)) W → (fun W : World => W.cell? ⟨wr.heap.size, 0, none⟩ = some (.int .i64 m) ∧ W.cell? ⟨wr.heap.size, 1, none⟩ = some (.string (str nm)) ∧ W.cell? ⟨wr.heap.size, 2, none⟩ = some (.string (str id))) W) := fun W hW => ⟨(HBK.out.below hW HBK.out.lt).cell 0, (HBK.out.below hW HBK.out.lt).cell 1, (HBK.out.below hW HBK.out.lt).cell 2⟩
        go_wp2_with fail
        clear c0 c1 c2
        refine wp_region_held_drew (S := (fun W : World => W.cell? ⟨wr.heap.size, 0, none⟩ = some (.int .i64 m) ∧ W.cell? ⟨wr.heap.size, 1, none⟩ = some (.string (str nm)) ∧ W.cell? ⟨wr.heap.size, 2, none⟩ = some (.string (str id)))) (by kernel_rfl) ?_ (fun hHeld => ?_)
        ·(try dsimp only); exact HCL.out _ (Below.refl _ _).drew
        refine take_at (i := 0) (d := 15) (v := ?_) rfl (by kernel_rfl) (hy := .inl ⟨by kernel_rfl, ?_⟩) (h := ?_)
        rotate_left
        ·intro W hSw; (try dsimp only at hSw); go_simp; first | done | with_reducible rfl
        try simp only [Act.put, List.setIfInBounds_toArray, List.set_cons_zero, List.set_cons_succ]
        refine take_at (i := 1) (d := 16) (v := ?_) rfl (by kernel_rfl) (hy := .inl ⟨by kernel_rfl, ?_⟩) (h := ?_)
        rotate_left
        ·intro W hSw; (try dsimp only at hSw); go_simp; first | done | with_reducible rfl
        try simp only [Act.put, List.setIfInBounds_toArray, List.set_cons_zero, List.set_cons_succ]
        refine take_at (i := 2) (d := 17) (v := ?_) rfl (by kernel_rfl) (hy := .inl ⟨by kernel_rfl, ?_⟩) (h := ?_)
        rotate_left
        ·intro W hSw; (try dsimp only at hSw); go_simp; first | done | with_reducible rfl
        try simp only [Act.put, List.setIfInBounds_toArray, List.set_cons_zero, List.set_cons_succ]
        refine take_at (i := 3) (d := 18) (v := ?_) rfl (by kernel_rfl) (hy := .inl ⟨by kernel_rfl, ?_⟩) (h := ?_)
        rotate_left
        ·intro W hSw; (try dsimp only at hSw); go_simp; first | done | with_reducible rfl
        try simp only [Act.put, List.setIfInBounds_toArray, List.set_cons_zero, List.set_cons_succ]
        refine take_at (i := 4) (d := 19) (v := ?_) rfl (by kernel_rfl) (hy := .inl ⟨by kernel_rfl, ?_⟩) (h := ?_)
        rotate_left
        ·intro W hSw; (try dsimp only at hSw); go_simp; first | done | with_reducible rfl
        try simp only [Act.put, List.setIfInBounds_toArray, List.set_cons_zero, List.set_cons_succ]
        refine take_at (i := 5) (d := 20) (v := ?_) rfl (by kernel_rfl) (hy := .inl ⟨by kernel_rfl, ?_⟩) (h := ?_)
        rotate_left
        ·intro W hSw; (try dsimp only at hSw); go_simp; first | done | with_reducible rfl
        try simp only [Act.put, List.setIfInBounds_toArray, List.set_cons_zero, List.set_cons_succ]
        refine take_at (i := 6) (d := 21) (v := ?_) rfl (by kernel_rfl) (hy := .inl ⟨by kernel_rfl, ?_⟩) (h := ?_)
        rotate_left
        ·intro W hSw; (try dsimp only at hSw); go_simp; first | done | with_reducible rfl
        try simp only [Act.put, List.setIfInBounds_toArray, List.set_cons_zero, List.set_cons_succ]
        refine take_at (i := 7) (d := 22) (v := ?_) rfl (by kernel_rfl) (hy := .inl ⟨by kernel_rfl, ?_⟩) (h := ?_)
        rotate_left
        ·intro W hSw; (try dsimp only at hSw); go_simp; first | done | with_reducible rfl
        try simp only [Act.put, List.setIfInBounds_toArray, List.set_cons_zero, List.set_cons_succ]
        refine take_at (i := 8) (d := 23) (v := ?_) rfl (by kernel_rfl) (hy := .inl ⟨by kernel_rfl, ?_⟩) (h := ?_)
        rotate_left
        ·intro W hSw; (try dsimp only at hSw); go_simp; first | done | with_reducible rfl
        try simp only [Act.put, List.setIfInBounds_toArray, List.set_cons_zero, List.set_cons_succ]
        refine take_at (i := 9) (d := 24) (v := ?_) rfl (by kernel_rfl) (hy := .inl ⟨by kernel_rfl, ?_⟩) (h := ?_)
        rotate_left
        ·intro W hSw; (try dsimp only at hSw); go_simp; first | done | with_reducible rfl
        try simp only [Act.put, List.setIfInBounds_toArray, List.set_cons_zero, List.set_cons_succ]
        refine take_at (i := 10) (d := 25) (v := ?_) rfl (by kernel_rfl) (hy := .inl ⟨by kernel_rfl, ?_⟩) (h := ?_)
        rotate_left
        ·intro W hSw; (try dsimp only at hSw); go_simp; first | done | with_reducible rfl
        try simp only [Act.put, List.setIfInBounds_toArray, List.set_cons_zero, List.set_cons_succ]
        refine wpAnyH_ready (rs := [11]) (by kernel_rfl) (by simp) (AllReadyH.cons rfl (fun K hK => ?_) AllReadyH.nil)
        go_simp
        go_at_call 222
        refine (rname_all nm _).mono ?_
        rw [HBN.out]
        rintro e w6 ⟨rfl, rfl⟩
        try go_wp2_with fail
        refine hK.out _ _ ?_ (fun hHeld => ?_)
        ·(try dsimp only); exact HCL.out _ (Below.refl _ _).drew
        clear hK K
        try simp only [Act.put, List.setIfInBounds_toArray, List.set_cons_zero, List.set_cons_succ]
        refine take_at (i := 12) (d := 27) (v := ?_) rfl (by kernel_rfl) (hy := .inl ⟨by kernel_rfl, ?_⟩) (h := ?_)
        rotate_left
        ·intro W hSw; (try dsimp only at hSw); go_simp; first | done | with_reducible rfl
        try simp only [Act.put, List.setIfInBounds_toArray, List.set_cons_zero, List.set_cons_succ]
        refine take_at (i := 13) (d := 28) (v := ?_) rfl (by kernel_rfl) (hy := .inl ⟨by kernel_rfl, ?_⟩) (h := ?_)
        rotate_left
        ·intro W hSw; (try dsimp only at hSw); go_simp; first | done | with_reducible rfl
        try simp only [Act.put, List.setIfInBounds_toArray, List.set_cons_zero, List.set_cons_succ]
        refine take_at (i := 14) (d := 29) (v := ?_) rfl (by kernel_rfl) (hy := .inl ⟨by kernel_rfl, ?_⟩) (h := ?_)
        rotate_left
        ·intro W hSw; (try dsimp only at hSw); go_simp; first | done | with_reducible rfl
        try simp only [Act.put, List.setIfInBounds_toArray, List.set_cons_zero, List.set_cons_succ]
        refine take_at (i := 15) (d := 30) (v := ?_) rfl (by kernel_rfl) (hy := .inl ⟨by kernel_rfl, ?_⟩) (h := ?_)
        rotate_left
        ·intro W hSw; (try dsimp only at hSw); go_simp; first | done | with_reducible rfl
        try simp only [Act.put, List.setIfInBounds_toArray, List.set_cons_zero, List.set_cons_succ]
        refine take_at (i := 16) (d := 31) (v := ?_) rfl (by kernel_rfl) (hy := .inl ⟨by kernel_rfl, ?_⟩) (h := ?_)
        rotate_left
        ·intro W hSw; (try dsimp only at hSw); go_simp; first | done | with_reducible rfl
        try simp only [Act.put, List.setIfInBounds_toArray, List.set_cons_zero, List.set_cons_succ]
        refine wpAnyH_ready (rs := [17]) (by kernel_rfl) (by simp) (AllReadyH.cons rfl (fun K hK => ?_) AllReadyH.nil)
        go_simp
        go_at_call 147
        refine (rvalid_all id _ HIS.out).mono ?_
        rw [HBV.out]
        rintro e w7 ⟨rfl, hb7⟩
        have HX7 := Lib.hid (show Below (wr.alloc (.cells #[.int .i64 m, .string (str nm), .string (str id)] 300)).heap.size (wr.alloc (.cells #[.int .i64 m, .string (str nm), .string (str id)] 300)) w7 from ⟨hb7.os, hb7.tape, hb7.output, hb7.size, hb7.block⟩)
        clear hb7
        try go_wp2_with fail
        refine hK.out _ _ ?_ (fun hHeld => ?_)
        ·(try dsimp only); exact HCL.out _ HX7.out
        clear hK K
        try simp only [Act.put, List.setIfInBounds_toArray, List.set_cons_zero, List.set_cons_succ]
        refine take_at (i := 18) (d := 33) (v := ?_) rfl (by kernel_rfl) (hy := .inl ⟨by kernel_rfl, ?_⟩) (h := ?_)
        rotate_left
        ·intro W hSw; (try dsimp only at hSw); go_simp; first | done | with_reducible rfl
        try simp only [Act.put, List.setIfInBounds_toArray, List.set_cons_zero, List.set_cons_succ]
        refine take_at (i := 19) (d := 34) (v := ?_) rfl (by kernel_rfl) (hy := .inl ⟨by kernel_rfl, ?_⟩) (h := ?_)
        rotate_left
        ·intro W hSw; (try dsimp only at hSw); go_simp; first | done | with_reducible rfl
        try simp only [Act.put, List.setIfInBounds_toArray, List.set_cons_zero, List.set_cons_succ]
        refine take_at (i := 20) (d := 35) (v := ?_) rfl (by kernel_rfl) (hy := .inl ⟨by kernel_rfl, ?_⟩) (h := ?_)
        rotate_left
        ·intro W hSw; (try dsimp only at hSw); go_simp; first | done | with_reducible rfl
        try simp only [Act.put, List.setIfInBounds_toArray, List.set_cons_zero, List.set_cons_succ]
        refine take_at (i := 21) (d := 36) (v := ?_) rfl (by kernel_rfl) (hy := .inl ⟨by kernel_rfl, ?_⟩) (h := ?_)
        rotate_left
        ·intro W hSw; (try dsimp only at hSw); go_simp; first | done | with_reducible rfl
        try simp only [Act.put, List.setIfInBounds_toArray, List.set_cons_zero, List.set_cons_succ]
        refine take_at (i := 22) (d := 37) (v := ?_) rfl (by kernel_rfl) (hy := .inl ⟨by kernel_rfl, ?_⟩) (h := ?_)
        rotate_left
        ·intro W hSw; (try dsimp only at hSw); go_simp; first | done | with_reducible rfl
        try simp only [Act.put, List.setIfInBounds_toArray, List.set_cons_zero, List.set_cons_succ]
        refine take_at (i := 23) (d := 38) (v := ?_) rfl (by kernel_rfl) (hy := .inl ⟨by kernel_rfl, ?_⟩) (h := ?_)
        rotate_left
        ·intro W hSw; (try dsimp only at hSw); go_simp; first | done | with_reducible rfl
        try simp only [Act.put, List.setIfInBounds_toArray, List.set_cons_zero, List.set_cons_succ]
        refine take_at (i := 24) (d := 39) (v := undef) rfl (by kernel_rfl) (hy := .inr ⟨by kernel_rfl, rfl⟩) (h := ?_)
        try simp only [Act.put, List.setIfInBounds_toArray, List.set_cons_zero, List.set_cons_succ]
        refine take_at (i := 25) (d := 40) (v := undef) rfl (by kernel_rfl) (hy := .inr ⟨by kernel_rfl, rfl⟩) (h := ?_)
        try simp only [Act.put, List.setIfInBounds_toArray, List.set_cons_zero, List.set_cons_succ]
        refine take_at (i := 26) (d := 41) (v := undef) rfl (by kernel_rfl) (hy := .inr ⟨by kernel_rfl, rfl⟩) (h := ?_)
        try simp only [Act.put, List.setIfInBounds_toArray, List.set_cons_zero, List.set_cons_succ]
        refine take_at (i := 27) (d := 42) (v := undef) rfl (by kernel_rfl) (hy := .inr ⟨by kernel_rfl, rfl⟩) (h := ?_)
        try simp only [Act.put, List.setIfInBounds_toArray, List.set_cons_zero, List.set_cons_succ]
        refine take_at (i := 28) (d := 43) (v := undef) rfl (by kernel_rfl) (hy := .inr ⟨by kernel_rfl, rfl⟩) (h := ?_)
        try simp only [Act.put, List.setIfInBounds_toArray, List.set_cons_zero, List.set_cons_succ]
        refine take_at (i := 29) (d := 44) (v := undef) rfl (by kernel_rfl) (hy := .inr ⟨by kernel_rfl, rfl⟩) (h := ?_)
        try simp only [Act.put, List.setIfInBounds_toArray, List.set_cons_zero, List.set_cons_succ]
        refine take_at (i := 30) (d := 45) (v := undef) rfl (by kernel_rfl) (hy := .inr ⟨by kernel_rfl, rfl⟩) (h := ?_)
        try simp only [Act.put, List.setIfInBounds_toArray, List.set_cons_zero, List.set_cons_succ]
        refine take_at (i := 31) (d := 46) (v := undef) rfl (by kernel_rfl) (hy := .inr ⟨by kernel_rfl, rfl⟩) (h := ?_)
        try simp only [Act.put, List.setIfInBounds_toArray, List.set_cons_zero, List.set_cons_succ]
        refine take_at (i := 32) (d := 47) (v := undef) rfl (by kernel_rfl) (hy := .inr ⟨by kernel_rfl, rfl⟩) (h := ?_)
        try simp only [Act.put, List.setIfInBounds_toArray, List.set_cons_zero, List.set_cons_succ]
        refine take_at (i := 33) (d := 48) (v := ?_) rfl (by kernel_rfl) (hy := .inl ⟨by kernel_rfl, ?_⟩) (h := ?_)
        rotate_left
        ·intro W hSw; (try dsimp only at hSw); go_simp; first | done | with_reducible rfl
        try simp only [Act.put, List.setIfInBounds_toArray, List.set_cons_zero, List.set_cons_succ]
        refine take_at (i := 34) (d := 49) (v := ?_) rfl (by kernel_rfl) (hy := .inl ⟨by kernel_rfl, ?_⟩) (h := ?_)
        rotate_left
        ·intro W hSw; (try dsimp only at hSw); go_simp; first | done | with_reducible rfl
        try simp only [Act.put, List.setIfInBounds_toArray, List.set_cons_zero, List.set_cons_succ]
        refine wpAnyH_done (by kernel_rfl) ?_ _
        go_wp2_with fail
        go_roundw
        case rel => exact ⟨k + 1, by omega, by go_num, Below.after HW.out HX7.out, HO.out⟩
        case measure => simp [intOf]; omega
       ·obtain ⟨j, hj⟩ : ∃ j, k = j + 1 := ⟨k - 1, by omega⟩
        have hkj : (k : Int) - 1 = (j : Int) := by omega
        have hwj : IntKind.i64.wrap ((k : Int) - 1) = (j : Int) := by rw [IntKind.wrap_i64]; omega
        have hwj2 : IntKind.i64.wrap (j : Int) = (j : Int) := by rw [IntKind.wrap_i64]; omega
        have kp : (0 : Int) < (k : Int) := by omega
        have kd : decide (0 < k) = true := decide_eq_true h0
        have hjl : j < ls.length := by rw [HL.out]; omega
        obtain ⟨y, hy⟩ : ∃ y, ls[j] = y := ⟨_, rfl⟩
        obtain ⟨ad', had, e0, e1, e2⟩ := items_at (HR.out.below HW.out) rfl j y (by rw [List.getElem?_eq_getElem hjl, hy])
        injection had with had
        subst had
        have HY : Hid (ls.getD j dI = y) := by unfold Hid; rw [List.getD_eq_getElem?_getD, List.getElem?_eq_getElem hjl, ← hy]; rfl
        clear hy hjl e0 e2
        obtain ⟨y0, yn, yi⟩ := y
        replace e1 : (wr.alloc (.cells #[.int .i64 m, .string (str nm), .string (str id)] 300)).cell? ⟨(ad.add (j * 3)).block, (ad.add (j * 3)).off + 1, none⟩ = some (.string (str yn)) := e1
        have HADL : Hid ((ad.add (j * 3)).block < (wr.alloc (.cells #[.int .i64 m, .string (str nm), .string (str id)] 300)).heap.size) := World.block_lt_of_cell? _ (⟨(ad.add (j * 3)).block, (ad.add (j * 3)).off + 1, none⟩ : Addr) e1
        have HD1 := Lib.hid e1
        clear e1
        obtain ⟨r, hr⟩ : ∃ r, bl yn nm = r := ⟨_, rfl⟩
        have hle : (Op.bytesLess (str nm).toList (str yn).toList || (str nm).toList == (str yn).toList) = !r := by
         rw [str_toList, str_toList, ← hr]
         exact leq_not nm yn
        have j0 : (0 : Int) ≤ (j : Int) := by omega
        have j1 : (j : Int) < (l : Int) := by omega
        have hf : itemJ ls k = r := by
         unfold itemJ
         rw [HX.out, HI.out, show k - 1 = j from by omega, HY.out]
         simp [show k ≠ 0 from by omega, hr]
        have HF := Lib.hid hf
        clear hf h0 hr hj
        cases r with
        | false =>
         have htt : t = false := by
          rw [← HT.out, all_bad hlt HF.out]
          simp
         subst htt
         replace hle : (Op.bytesLess (str nm).toList (str yn).toList || (str nm).toList == (str yn).toList) = true := hle
         have HCL : Hid (∀ W, Below (wr.alloc (.cells #[.int .i64 m, .string (str nm), .string (str id)] 300)).heap.size (wr.alloc (.cells #[.int .i64 m, .string (str nm), .string (str id)] 300)) W → (fun W : World => W.cell? ⟨wr.heap.size, 0, none⟩ = some (.int .i64 m) ∧ W.cell? ⟨wr.heap.size, 1, none⟩ = some (.string (str nm)) ∧ W.cell? ⟨wr.heap.size, 2, none⟩ = some (.string (str id)) ∧ W.cell? ⟨(ad.add (j * 3)).block, (ad.add (j * 3)).off + 1, none⟩ = some (.string (str yn))) W) := fun W hW => ⟨(HBK.out.below hW HBK.out.lt).cell 0, (HBK.out.below hW HBK.out.lt).cell 1, (HBK.out.below hW HBK.out.lt).cell 2, (hW.cell (p := ⟨(ad.add (j * 3)).block, (ad.add (j * 3)).off + 1, none⟩) HADL.out).trans HD1.out⟩
         go_wp2_with fail
         clear c0 c1 c2
         refine wp_region_held_drew (S := (fun W : World => W.cell? ⟨wr.heap.size, 0, none⟩ = some (.int .i64 m) ∧ W.cell? ⟨wr.heap.size, 1, none⟩ = some (.string (str nm)) ∧ W.cell? ⟨wr.heap.size, 2, none⟩ = some (.string (str id)) ∧ W.cell? ⟨(ad.add (j * 3)).block, (ad.add (j * 3)).off + 1, none⟩ = some (.string (str yn)))) (by kernel_rfl) ?_ (fun hHeld => ?_)
         ·(try dsimp only); exact HCL.out _ (Below.refl _ _).drew
         refine take_at (i := 0) (d := 15) (v := ?_) rfl (by kernel_rfl) (hy := .inl ⟨by kernel_rfl, ?_⟩) (h := ?_)
         rotate_left
         ·intro W hSw; (try dsimp only at hSw); go_simp; first | done | with_reducible rfl
         try simp only [Act.put, List.setIfInBounds_toArray, List.set_cons_zero, List.set_cons_succ]
         refine take_at (i := 1) (d := 16) (v := ?_) rfl (by kernel_rfl) (hy := .inl ⟨by kernel_rfl, ?_⟩) (h := ?_)
         rotate_left
         ·intro W hSw; (try dsimp only at hSw); go_simp; first | done | with_reducible rfl
         try simp only [Act.put, List.setIfInBounds_toArray, List.set_cons_zero, List.set_cons_succ]
         refine take_at (i := 2) (d := 17) (v := ?_) rfl (by kernel_rfl) (hy := .inl ⟨by kernel_rfl, ?_⟩) (h := ?_)
         rotate_left
         ·intro W hSw; (try dsimp only at hSw); go_simp; first | done | with_reducible rfl
         try simp only [Act.put, List.setIfInBounds_toArray, List.set_cons_zero, List.set_cons_succ]
         refine take_at (i := 3) (d := 18) (v := ?_) rfl (by kernel_rfl) (hy := .inl ⟨by kernel_rfl, ?_⟩) (h := ?_)
         rotate_left
         ·intro W hSw; (try dsimp only at hSw); go_simp; first | done | with_reducible rfl
         try simp only [Act.put, List.setIfInBounds_toArray, List.set_cons_zero, List.set_cons_succ]
         refine take_at (i := 4) (d := 19) (v := ?_) rfl (by kernel_rfl) (hy := .inl ⟨by kernel_rfl, ?_⟩) (h := ?_)
         rotate_left
         ·intro W hSw; (try dsimp only at hSw); go_simp; first | done | with_reducible rfl
         try simp only [Act.put, List.setIfInBounds_toArray, List.set_cons_zero, List.set_cons_succ]
         refine take_at (i := 5) (d := 20) (v := ?_) rfl (by kernel_rfl) (hy := .inl ⟨by kernel_rfl, ?_⟩) (h := ?_)
         rotate_left
         ·intro W hSw; (try dsimp only at hSw); go_simp; first | done | with_reducible rfl
         try simp only [Act.put, List.setIfInBounds_toArray, List.set_cons_zero, List.set_cons_succ]
         refine take_at (i := 6) (d := 21) (v := ?_) rfl (by kernel_rfl) (hy := .inl ⟨by kernel_rfl, ?_⟩) (h := ?_)
         rotate_left
         ·intro W hSw; (try dsimp only at hSw); go_simp; first | done | with_reducible rfl
         try simp only [Act.put, List.setIfInBounds_toArray, List.set_cons_zero, List.set_cons_succ]
         refine take_at (i := 7) (d := 22) (v := ?_) rfl (by kernel_rfl) (hy := .inl ⟨by kernel_rfl, ?_⟩) (h := ?_)
         rotate_left
         ·intro W hSw; (try dsimp only at hSw); go_simp; first | done | with_reducible rfl
         try simp only [Act.put, List.setIfInBounds_toArray, List.set_cons_zero, List.set_cons_succ]
         refine take_at (i := 8) (d := 23) (v := ?_) rfl (by kernel_rfl) (hy := .inl ⟨by kernel_rfl, ?_⟩) (h := ?_)
         rotate_left
         ·intro W hSw; (try dsimp only at hSw); go_simp; first | done | with_reducible rfl
         try simp only [Act.put, List.setIfInBounds_toArray, List.set_cons_zero, List.set_cons_succ]
         refine take_at (i := 9) (d := 24) (v := ?_) rfl (by kernel_rfl) (hy := .inl ⟨by kernel_rfl, ?_⟩) (h := ?_)
         rotate_left
         ·intro W hSw; (try dsimp only at hSw); go_simp; first | done | with_reducible rfl
         try simp only [Act.put, List.setIfInBounds_toArray, List.set_cons_zero, List.set_cons_succ]
         refine take_at (i := 10) (d := 25) (v := ?_) rfl (by kernel_rfl) (hy := .inl ⟨by kernel_rfl, ?_⟩) (h := ?_)
         rotate_left
         ·intro W hSw; (try dsimp only at hSw); go_simp; first | done | with_reducible rfl
         try simp only [Act.put, List.setIfInBounds_toArray, List.set_cons_zero, List.set_cons_succ]
         refine wpAnyH_ready (rs := [11]) (by kernel_rfl) (by simp) (AllReadyH.cons rfl (fun K hK => ?_) AllReadyH.nil)
         go_simp
         go_at_call 222
         refine (rname_all nm _).mono ?_
         rw [HBN.out]
         rintro e w6 ⟨rfl, rfl⟩
         try go_wp2_with fail
         refine hK.out _ _ ?_ (fun hHeld => ?_)
         ·(try dsimp only); exact HCL.out _ (Below.refl _ _).drew
         clear hK K
         try simp only [Act.put, List.setIfInBounds_toArray, List.set_cons_zero, List.set_cons_succ]
         refine take_at (i := 12) (d := 27) (v := ?_) rfl (by kernel_rfl) (hy := .inl ⟨by kernel_rfl, ?_⟩) (h := ?_)
         rotate_left
         ·intro W hSw; (try dsimp only at hSw); go_simp; first | done | with_reducible rfl
         try simp only [Act.put, List.setIfInBounds_toArray, List.set_cons_zero, List.set_cons_succ]
         refine take_at (i := 13) (d := 28) (v := ?_) rfl (by kernel_rfl) (hy := .inl ⟨by kernel_rfl, ?_⟩) (h := ?_)
         rotate_left
         ·intro W hSw; (try dsimp only at hSw); go_simp; first | done | with_reducible rfl
         try simp only [Act.put, List.setIfInBounds_toArray, List.set_cons_zero, List.set_cons_succ]
         refine take_at (i := 14) (d := 29) (v := ?_) rfl (by kernel_rfl) (hy := .inl ⟨by kernel_rfl, ?_⟩) (h := ?_)
         rotate_left
         ·intro W hSw; (try dsimp only at hSw); go_simp; first | done | with_reducible rfl
         try simp only [Act.put, List.setIfInBounds_toArray, List.set_cons_zero, List.set_cons_succ]
         refine take_at (i := 15) (d := 30) (v := ?_) rfl (by kernel_rfl) (hy := .inl ⟨by kernel_rfl, ?_⟩) (h := ?_)
         rotate_left
         ·intro W hSw; (try dsimp only at hSw); go_simp; first | done | with_reducible rfl
         try simp only [Act.put, List.setIfInBounds_toArray, List.set_cons_zero, List.set_cons_succ]
         refine take_at (i := 16) (d := 31) (v := ?_) rfl (by kernel_rfl) (hy := .inl ⟨by kernel_rfl, ?_⟩) (h := ?_)
         rotate_left
         ·intro W hSw; (try dsimp only at hSw); go_simp; first | done | with_reducible rfl
         try simp only [Act.put, List.setIfInBounds_toArray, List.set_cons_zero, List.set_cons_succ]
         refine wpAnyH_ready (rs := [17]) (by kernel_rfl) (by simp) (AllReadyH.cons rfl (fun K hK => ?_) AllReadyH.nil)
         go_simp
         go_at_call 147
         refine (rvalid_all id _ HIS.out).mono ?_
         rw [HBV.out]
         rintro e w7 ⟨rfl, hb7⟩
         have HX7 := Lib.hid (show Below (wr.alloc (.cells #[.int .i64 m, .string (str nm), .string (str id)] 300)).heap.size (wr.alloc (.cells #[.int .i64 m, .string (str nm), .string (str id)] 300)) w7 from ⟨hb7.os, hb7.tape, hb7.output, hb7.size, hb7.block⟩)
         clear hb7
         try go_wp2_with fail
         refine hK.out _ _ ?_ (fun hHeld => ?_)
         ·(try dsimp only); exact HCL.out _ HX7.out
         clear hK K
         try simp only [Act.put, List.setIfInBounds_toArray, List.set_cons_zero, List.set_cons_succ]
         refine take_at (i := 18) (d := 33) (v := ?_) rfl (by kernel_rfl) (hy := .inl ⟨by kernel_rfl, ?_⟩) (h := ?_)
         rotate_left
         ·intro W hSw; (try dsimp only at hSw); go_simp; first | done | with_reducible rfl
         try simp only [Act.put, List.setIfInBounds_toArray, List.set_cons_zero, List.set_cons_succ]
         refine take_at (i := 19) (d := 34) (v := ?_) rfl (by kernel_rfl) (hy := .inl ⟨by kernel_rfl, ?_⟩) (h := ?_)
         rotate_left
         ·intro W hSw; (try dsimp only at hSw); go_simp; first | done | with_reducible rfl
         try simp only [Act.put, List.setIfInBounds_toArray, List.set_cons_zero, List.set_cons_succ]
         refine take_at (i := 20) (d := 35) (v := ?_) rfl (by kernel_rfl) (hy := .inl ⟨by kernel_rfl, ?_⟩) (h := ?_)
         rotate_left
         ·intro W hSw; (try dsimp only at hSw); go_simp; first | done | with_reducible rfl
         try simp only [Act.put, List.setIfInBounds_toArray, List.set_cons_zero, List.set_cons_succ]
         refine take_at (i := 21) (d := 36) (v := ?_) rfl (by kernel_rfl) (hy := .inl ⟨by kernel_rfl, ?_⟩) (h := ?_)
         rotate_left
         ·intro W hSw; (try dsimp only at hSw); go_simp; first | done | with_reducible rfl
         try simp only [Act.put, List.setIfInBounds_toArray, List.set_cons_zero, List.set_cons_succ]
         refine take_at (i := 22) (d := 37) (v := ?_) rfl (by kernel_rfl) (hy := .inl ⟨by kernel_rfl, ?_⟩) (h := ?_)
         rotate_left
         ·intro W hSw; (try dsimp only at hSw); go_simp; first | done | with_reducible rfl
         try simp only [Act.put, List.setIfInBounds_toArray, List.set_cons_zero, List.set_cons_succ]
         refine take_at (i := 23) (d := 38) (v := ?_) rfl (by kernel_rfl) (hy := .inl ⟨by kernel_rfl, ?_⟩) (h := ?_)
         rotate_left
         ·intro W hSw; (try dsimp only at hSw); go_simp; first | done | with_reducible rfl
         try simp only [Act.put, List.setIfInBounds_toArray, List.set_cons_zero, List.set_cons_succ]
         refine take_at (i := 24) (d := 39) (v := ?_) rfl (by kernel_rfl) (hy := .inl ⟨by kernel_rfl, ?_⟩) (h := ?_)
         rotate_left
         ·intro W hSw; (try dsimp only at hSw); go_simp; first | done | with_reducible rfl
         try simp only [Act.put, List.setIfInBounds_toArray, List.set_cons_zero, List.set_cons_succ]
         refine take_at (i := 25) (d := 40) (v := ?_) rfl (by kernel_rfl) (hy := .inl ⟨by kernel_rfl, ?_⟩) (h := ?_)
         rotate_left
         ·intro W hSw; (try dsimp only at hSw); go_simp; first | done | with_reducible rfl
         try simp only [Act.put, List.setIfInBounds_toArray, List.set_cons_zero, List.set_cons_succ]
         refine take_at (i := 26) (d := 41) (v := ?_) rfl (by kernel_rfl) (hy := .inl ⟨by kernel_rfl, ?_⟩) (h := ?_)
         rotate_left
         ·intro W hSw; (try dsimp only at hSw); go_simp; first | done | with_reducible rfl
         try simp only [Act.put, List.setIfInBounds_toArray, List.set_cons_zero, List.set_cons_succ]
         refine take_at (i := 27) (d := 42) (v := ?_) rfl (by kernel_rfl) (hy := .inl ⟨by kernel_rfl, ?_⟩) (h := ?_)
         rotate_left
         ·intro W hSw; (try dsimp only at hSw); go_simp; first | done | with_reducible rfl
         try simp only [Act.put, List.setIfInBounds_toArray, List.set_cons_zero, List.set_cons_succ]
         refine take_at (i := 28) (d := 43) (v := ?_) rfl (by kernel_rfl) (hy := .inl ⟨by kernel_rfl, ?_⟩) (h := ?_)
         rotate_left
         ·intro W hSw; (try dsimp only at hSw); go_simp; first | done | with_reducible rfl
         try simp only [Act.put, List.setIfInBounds_toArray, List.set_cons_zero, List.set_cons_succ]
         refine take_at (i := 29) (d := 44) (v := ?_) rfl (by kernel_rfl) (hy := .inl ⟨by kernel_rfl, ?_⟩) (h := ?_)
         rotate_left
         ·intro W hSw; (try dsimp only at hSw); go_simp; first | done | with_reducible rfl
         try simp only [Act.put, List.setIfInBounds_toArray, List.set_cons_zero, List.set_cons_succ]
         refine take_at (i := 30) (d := 45) (v := ?_) rfl (by kernel_rfl) (hy := .inl ⟨by kernel_rfl, ?_⟩) (h := ?_)
         rotate_left
         ·intro W hSw; (try dsimp only at hSw); go_simp; first | done | with_reducible rfl
         try simp only [Act.put, List.setIfInBounds_toArray, List.set_cons_zero, List.set_cons_succ]
         refine take_at (i := 31) (d := 46) (v := ?_) rfl (by kernel_rfl) (hy := .inl ⟨by kernel_rfl, ?_⟩) (h := ?_)
         rotate_left
         ·intro W hSw; (try dsimp only at hSw); go_simp; first | done | with_reducible rfl
         try simp only [Act.put, List.setIfInBounds_toArray, List.set_cons_zero, List.set_cons_succ]
         refine take_at (i := 32) (d := 47) (v := ?_) rfl (by kernel_rfl) (hy := .inl ⟨by kernel_rfl, ?_⟩) (h := ?_)
         rotate_left
         ·intro W hSw; (try dsimp only at hSw); go_simp; first | done | with_reducible rfl
         try simp only [Act.put, List.setIfInBounds_toArray, List.set_cons_zero, List.set_cons_succ]
         refine take_at (i := 33) (d := 48) (v := ?_) rfl (by kernel_rfl) (hy := .inl ⟨by kernel_rfl, ?_⟩) (h := ?_)
         rotate_left
         ·intro W hSw; (try dsimp only at hSw); go_simp; first | done | with_reducible rfl
         try simp only [Act.put, List.setIfInBounds_toArray, List.set_cons_zero, List.set_cons_succ]
         refine take_at (i := 34) (d := 49) (v := ?_) rfl (by kernel_rfl) (hy := .inl ⟨by kernel_rfl, ?_⟩) (h := ?_)
         rotate_left
         ·intro W hSw; (try dsimp only at hSw); go_simp; first | done | with_reducible rfl
         try simp only [Act.put, List.setIfInBounds_toArray, List.set_cons_zero, List.set_cons_succ]
         refine wpAnyH_done (by kernel_rfl) ?_ _
         go_wp2_with fail
         go_ret
         exact ⟨rfl, Below.after HW.out HX7.out⟩
        | true =>
         have HO := Lib.hid (all_next HOK.out HF.out)
         replace hle : (Op.bytesLess (str nm).toList (str yn).toList || (str nm).toList == (str yn).toList) = false := hle
         have HCL : Hid (∀ W, Below (wr.alloc (.cells #[.int .i64 m, .string (str nm), .string (str id)] 300)).heap.size (wr.alloc (.cells #[.int .i64 m, .string (str nm), .string (str id)] 300)) W → (fun W : World => W.cell? ⟨wr.heap.size, 0, none⟩ = some (.int .i64 m) ∧ W.cell? ⟨wr.heap.size, 1, none⟩ = some (.string (str nm)) ∧ W.cell? ⟨wr.heap.size, 2, none⟩ = some (.string (str id)) ∧ W.cell? ⟨(ad.add (j * 3)).block, (ad.add (j * 3)).off + 1, none⟩ = some (.string (str yn))) W) := fun W hW => ⟨(HBK.out.below hW HBK.out.lt).cell 0, (HBK.out.below hW HBK.out.lt).cell 1, (HBK.out.below hW HBK.out.lt).cell 2, (hW.cell (p := ⟨(ad.add (j * 3)).block, (ad.add (j * 3)).off + 1, none⟩) HADL.out).trans HD1.out⟩
         go_wp2_with fail
         clear c0 c1 c2
         refine wp_region_held_drew (S := (fun W : World => W.cell? ⟨wr.heap.size, 0, none⟩ = some (.int .i64 m) ∧ W.cell? ⟨wr.heap.size, 1, none⟩ = some (.string (str nm)) ∧ W.cell? ⟨wr.heap.size, 2, none⟩ = some (.string (str id)) ∧ W.cell? ⟨(ad.add (j * 3)).block, (ad.add (j * 3)).off + 1, none⟩ = some (.string (str yn)))) (by kernel_rfl) ?_ (fun hHeld => ?_)
         ·(try dsimp only); exact HCL.out _ (Below.refl _ _).drew
         refine take_at (i := 0) (d := 15) (v := ?_) rfl (by kernel_rfl) (hy := .inl ⟨by kernel_rfl, ?_⟩) (h := ?_)
         rotate_left
         ·intro W hSw; (try dsimp only at hSw); go_simp; first | done | with_reducible rfl
         try simp only [Act.put, List.setIfInBounds_toArray, List.set_cons_zero, List.set_cons_succ]
         refine take_at (i := 1) (d := 16) (v := ?_) rfl (by kernel_rfl) (hy := .inl ⟨by kernel_rfl, ?_⟩) (h := ?_)
         rotate_left
         ·intro W hSw; (try dsimp only at hSw); go_simp; first | done | with_reducible rfl
         try simp only [Act.put, List.setIfInBounds_toArray, List.set_cons_zero, List.set_cons_succ]
         refine take_at (i := 2) (d := 17) (v := ?_) rfl (by kernel_rfl) (hy := .inl ⟨by kernel_rfl, ?_⟩) (h := ?_)
         rotate_left
         ·intro W hSw; (try dsimp only at hSw); go_simp; first | done | with_reducible rfl
         try simp only [Act.put, List.setIfInBounds_toArray, List.set_cons_zero, List.set_cons_succ]
         refine take_at (i := 3) (d := 18) (v := ?_) rfl (by kernel_rfl) (hy := .inl ⟨by kernel_rfl, ?_⟩) (h := ?_)
         rotate_left
         ·intro W hSw; (try dsimp only at hSw); go_simp; first | done | with_reducible rfl
         try simp only [Act.put, List.setIfInBounds_toArray, List.set_cons_zero, List.set_cons_succ]
         refine take_at (i := 4) (d := 19) (v := ?_) rfl (by kernel_rfl) (hy := .inl ⟨by kernel_rfl, ?_⟩) (h := ?_)
         rotate_left
         ·intro W hSw; (try dsimp only at hSw); go_simp; first | done | with_reducible rfl
         try simp only [Act.put, List.setIfInBounds_toArray, List.set_cons_zero, List.set_cons_succ]
         refine take_at (i := 5) (d := 20) (v := ?_) rfl (by kernel_rfl) (hy := .inl ⟨by kernel_rfl, ?_⟩) (h := ?_)
         rotate_left
         ·intro W hSw; (try dsimp only at hSw); go_simp; first | done | with_reducible rfl
         try simp only [Act.put, List.setIfInBounds_toArray, List.set_cons_zero, List.set_cons_succ]
         refine take_at (i := 6) (d := 21) (v := ?_) rfl (by kernel_rfl) (hy := .inl ⟨by kernel_rfl, ?_⟩) (h := ?_)
         rotate_left
         ·intro W hSw; (try dsimp only at hSw); go_simp; first | done | with_reducible rfl
         try simp only [Act.put, List.setIfInBounds_toArray, List.set_cons_zero, List.set_cons_succ]
         refine take_at (i := 7) (d := 22) (v := ?_) rfl (by kernel_rfl) (hy := .inl ⟨by kernel_rfl, ?_⟩) (h := ?_)
         rotate_left
         ·intro W hSw; (try dsimp only at hSw); go_simp; first | done | with_reducible rfl
         try simp only [Act.put, List.setIfInBounds_toArray, List.set_cons_zero, List.set_cons_succ]
         refine take_at (i := 8) (d := 23) (v := ?_) rfl (by kernel_rfl) (hy := .inl ⟨by kernel_rfl, ?_⟩) (h := ?_)
         rotate_left
         ·intro W hSw; (try dsimp only at hSw); go_simp; first | done | with_reducible rfl
         try simp only [Act.put, List.setIfInBounds_toArray, List.set_cons_zero, List.set_cons_succ]
         refine take_at (i := 9) (d := 24) (v := ?_) rfl (by kernel_rfl) (hy := .inl ⟨by kernel_rfl, ?_⟩) (h := ?_)
         rotate_left
         ·intro W hSw; (try dsimp only at hSw); go_simp; first | done | with_reducible rfl
         try simp only [Act.put, List.setIfInBounds_toArray, List.set_cons_zero, List.set_cons_succ]
         refine take_at (i := 10) (d := 25) (v := ?_) rfl (by kernel_rfl) (hy := .inl ⟨by kernel_rfl, ?_⟩) (h := ?_)
         rotate_left
         ·intro W hSw; (try dsimp only at hSw); go_simp; first | done | with_reducible rfl
         try simp only [Act.put, List.setIfInBounds_toArray, List.set_cons_zero, List.set_cons_succ]
         refine wpAnyH_ready (rs := [11]) (by kernel_rfl) (by simp) (AllReadyH.cons rfl (fun K hK => ?_) AllReadyH.nil)
         go_simp
         go_at_call 222
         refine (rname_all nm _).mono ?_
         rw [HBN.out]
         rintro e w6 ⟨rfl, rfl⟩
         try go_wp2_with fail
         refine hK.out _ _ ?_ (fun hHeld => ?_)
         ·(try dsimp only); exact HCL.out _ (Below.refl _ _).drew
         clear hK K
         try simp only [Act.put, List.setIfInBounds_toArray, List.set_cons_zero, List.set_cons_succ]
         refine take_at (i := 12) (d := 27) (v := ?_) rfl (by kernel_rfl) (hy := .inl ⟨by kernel_rfl, ?_⟩) (h := ?_)
         rotate_left
         ·intro W hSw; (try dsimp only at hSw); go_simp; first | done | with_reducible rfl
         try simp only [Act.put, List.setIfInBounds_toArray, List.set_cons_zero, List.set_cons_succ]
         refine take_at (i := 13) (d := 28) (v := ?_) rfl (by kernel_rfl) (hy := .inl ⟨by kernel_rfl, ?_⟩) (h := ?_)
         rotate_left
         ·intro W hSw; (try dsimp only at hSw); go_simp; first | done | with_reducible rfl
         try simp only [Act.put, List.setIfInBounds_toArray, List.set_cons_zero, List.set_cons_succ]
         refine take_at (i := 14) (d := 29) (v := ?_) rfl (by kernel_rfl) (hy := .inl ⟨by kernel_rfl, ?_⟩) (h := ?_)
         rotate_left
         ·intro W hSw; (try dsimp only at hSw); go_simp; first | done | with_reducible rfl
         try simp only [Act.put, List.setIfInBounds_toArray, List.set_cons_zero, List.set_cons_succ]
         refine take_at (i := 15) (d := 30) (v := ?_) rfl (by kernel_rfl) (hy := .inl ⟨by kernel_rfl, ?_⟩) (h := ?_)
         rotate_left
         ·intro W hSw; (try dsimp only at hSw); go_simp; first | done | with_reducible rfl
         try simp only [Act.put, List.setIfInBounds_toArray, List.set_cons_zero, List.set_cons_succ]
         refine take_at (i := 16) (d := 31) (v := ?_) rfl (by kernel_rfl) (hy := .inl ⟨by kernel_rfl, ?_⟩) (h := ?_)
         rotate_left
         ·intro W hSw; (try dsimp only at hSw); go_simp; first | done | with_reducible rfl
         try simp only [Act.put, List.setIfInBounds_toArray, List.set_cons_zero, List.set_cons_succ]
         refine wpAnyH_ready (rs := [17]) (by kernel_rfl) (by simp) (AllReadyH.cons rfl (fun K hK => ?_) AllReadyH.nil)
         go_simp
         go_at_call 147
         refine (rvalid_all id _ HIS.out).mono ?_
         rw [HBV.out]
         rintro e w7 ⟨rfl, hb7⟩
         have HX7 := Lib.hid (show Below (wr.alloc (.cells #[.int .i64 m, .string (str nm), .string (str id)] 300)).heap.size (wr.alloc (.cells #[.int .i64 m, .string (str nm), .string (str id)] 300)) w7 from ⟨hb7.os, hb7.tape, hb7.output, hb7.size, hb7.block⟩)
         clear hb7
         try go_wp2_with fail
         refine hK.out _ _ ?_ (fun hHeld => ?_)
         ·(try dsimp only); exact HCL.out _ HX7.out
         clear hK K
         try simp only [Act.put, List.setIfInBounds_toArray, List.set_cons_zero, List.set_cons_succ]
         refine take_at (i := 18) (d := 33) (v := ?_) rfl (by kernel_rfl) (hy := .inl ⟨by kernel_rfl, ?_⟩) (h := ?_)
         rotate_left
         ·intro W hSw; (try dsimp only at hSw); go_simp; first | done | with_reducible rfl
         try simp only [Act.put, List.setIfInBounds_toArray, List.set_cons_zero, List.set_cons_succ]
         refine take_at (i := 19) (d := 34) (v := ?_) rfl (by kernel_rfl) (hy := .inl ⟨by kernel_rfl, ?_⟩) (h := ?_)
         rotate_left
         ·intro W hSw; (try dsimp only at hSw); go_simp; first | done | with_reducible rfl
         try simp only [Act.put, List.setIfInBounds_toArray, List.set_cons_zero, List.set_cons_succ]
         refine take_at (i := 20) (d := 35) (v := ?_) rfl (by kernel_rfl) (hy := .inl ⟨by kernel_rfl, ?_⟩) (h := ?_)
         rotate_left
         ·intro W hSw; (try dsimp only at hSw); go_simp; first | done | with_reducible rfl
         try simp only [Act.put, List.setIfInBounds_toArray, List.set_cons_zero, List.set_cons_succ]
         refine take_at (i := 21) (d := 36) (v := ?_) rfl (by kernel_rfl) (hy := .inl ⟨by kernel_rfl, ?_⟩) (h := ?_)
         rotate_left
         ·intro W hSw; (try dsimp only at hSw); go_simp; first | done | with_reducible rfl
         try simp only [Act.put, List.setIfInBounds_toArray, List.set_cons_zero, List.set_cons_succ]
         refine take_at (i := 22) (d := 37) (v := ?_) rfl (by kernel_rfl) (hy := .inl ⟨by kernel_rfl, ?_⟩) (h := ?_)
         rotate_left
         ·intro W hSw; (try dsimp only at hSw); go_simp; first | done | with_reducible rfl
         try simp only [Act.put, List.setIfInBounds_toArray, List.set_cons_zero, List.set_cons_succ]
         refine take_at (i := 23) (d := 38) (v := ?_) rfl (by kernel_rfl) (hy := .inl ⟨by kernel_rfl, ?_⟩) (h := ?_)
         rotate_left
         ·intro W hSw; (try dsimp only at hSw); go_simp; first | done | with_reducible rfl
         try simp only [Act.put, List.setIfInBounds_toArray, List.set_cons_zero, List.set_cons_succ]
         refine take_at (i := 24) (d := 39) (v := ?_) rfl (by kernel_rfl) (hy := .inl ⟨by kernel_rfl, ?_⟩) (h := ?_)
         rotate_left
         ·intro W hSw; (try dsimp only at hSw); go_simp; first | done | with_reducible rfl
         try simp only [Act.put, List.setIfInBounds_toArray, List.set_cons_zero, List.set_cons_succ]
         refine take_at (i := 25) (d := 40) (v := ?_) rfl (by kernel_rfl) (hy := .inl ⟨by kernel_rfl, ?_⟩) (h := ?_)
         rotate_left
         ·intro W hSw; (try dsimp only at hSw); go_simp; first | done | with_reducible rfl
         try simp only [Act.put, List.setIfInBounds_toArray, List.set_cons_zero, List.set_cons_succ]
         refine take_at (i := 26) (d := 41) (v := ?_) rfl (by kernel_rfl) (hy := .inl ⟨by kernel_rfl, ?_⟩) (h := ?_)
         rotate_left
         ·intro W hSw; (try dsimp only at hSw); go_simp; first | done | with_reducible rfl
         try simp only [Act.put, List.setIfInBounds_toArray, List.set_cons_zero, List.set_cons_succ]
         refine take_at (i := 27) (d := 42) (v := ?_) rfl (by kernel_rfl) (hy := .inl ⟨by kernel_rfl, ?_⟩) (h := ?_)
         rotate_left
         ·intro W hSw; (try dsimp only at hSw); go_simp; first | done | with_reducible rfl
         try simp only [Act.put, List.setIfInBounds_toArray, List.set_cons_zero, List.set_cons_succ]
         refine take_at (i := 28) (d := 43) (v := ?_) rfl (by kernel_rfl) (hy := .inl ⟨by kernel_rfl, ?_⟩) (h := ?_)
         rotate_left
         ·intro W hSw; (try dsimp only at hSw); go_simp; first | done | with_reducible rfl
         try simp only [Act.put, List.setIfInBounds_toArray, List.set_cons_zero, List.set_cons_succ]
         refine take_at (i := 29) (d := 44) (v := ?_) rfl (by kernel_rfl) (hy := .inl ⟨by kernel_rfl, ?_⟩) (h := ?_)
         rotate_left
         ·intro W hSw; (try dsimp only at hSw); go_simp; first | done | with_reducible rfl
         try simp only [Act.put, List.setIfInBounds_toArray, List.set_cons_zero, List.set_cons_succ]
         refine take_at (i := 30) (d := 45) (v := ?_) rfl (by kernel_rfl) (hy := .inl ⟨by kernel_rfl, ?_⟩) (h := ?_)
         rotate_left
         ·intro W hSw; (try dsimp only at hSw); go_simp; first | done | with_reducible rfl
         try simp only [Act.put, List.setIfInBounds_toArray, List.set_cons_zero, List.set_cons_succ]
         refine take_at (i := 31) (d := 46) (v := ?_) rfl (by kernel_rfl) (hy := .inl ⟨by kernel_rfl, ?_⟩) (h := ?_)
         rotate_left
         ·intro W hSw; (try dsimp only at hSw); go_simp; first | done | with_reducible rfl
         try simp only [Act.put, List.setIfInBounds_toArray, List.set_cons_zero, List.set_cons_succ]
         refine take_at (i := 32) (d := 47) (v := ?_) rfl (by kernel_rfl) (hy := .inl ⟨by kernel_rfl, ?_⟩) (h := ?_)
         rotate_left
         ·intro W hSw; (try dsimp only at hSw); go_simp; first | done | with_reducible rfl
         try simp only [Act.put, List.setIfInBounds_toArray, List.set_cons_zero, List.set_cons_succ]
         refine take_at (i := 33) (d := 48) (v := ?_) rfl (by kernel_rfl) (hy := .inl ⟨by kernel_rfl, ?_⟩) (h := ?_)
         rotate_left
         ·intro W hSw; (try dsimp only at hSw); go_simp; first | done | with_reducible rfl
         try simp only [Act.put, List.setIfInBounds_toArray, List.set_cons_zero, List.set_cons_succ]
         refine take_at (i := 34) (d := 49) (v := ?_) rfl (by kernel_rfl) (hy := .inl ⟨by kernel_rfl, ?_⟩) (h := ?_)
         rotate_left
         ·intro W hSw; (try dsimp only at hSw); go_simp; first | done | with_reducible rfl
         try simp only [Act.put, List.setIfInBounds_toArray, List.set_cons_zero, List.set_cons_succ]
         refine wpAnyH_done (by kernel_rfl) ?_ _
         go_wp2_with fail
         go_roundw
         case rel => exact ⟨k + 1, by omega, by go_num, Below.after HW.out HX7.out, HO.out⟩
         case measure => simp [intOf]; omega
  ·obtain rfl : k = l := by omega
   by_cases h2 : k ≤ 256
   ·have htt : t = true := by
     rw [← HT.out, HOK.out]
     simp [h2]
    subst htt
    have h2' : (k : Int) ≤ 256 := by omega
    clear h2
    go_wp2
    go_ret
    have HD : decide ((k : Int) ≤ 256) = true := by simp; omega
    refine ⟨?_, HB.out⟩
    first | rfl | (show Ending.returned (.bool (decide ((k : Int) ≤ 256))) = _; rw [HD])
   ·have htt : t = false := by
     rw [← HT.out]
     simp [h2]
    subst htt
    have h2' : (256 : Int) < (k : Int) := by omega
    clear h2
    go_wp2
    go_ret
    have HD : decide ((k : Int) ≤ 256) = false := by simp; omega
    refine ⟨?_, HB.out⟩
    show Ending.returned (.bool (decide ((k : Int) ≤ 256))) = _
    rw [HD]
end Go.Proofs.YtpfjlhpahmhkhaaGreat.Ob
