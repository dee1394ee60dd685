/- Texts put together: USc14. -/
import Derived.Test.YtbenkmihkbjgeaaGreatQu37
import Derived.Test.YtbenkmihkbjgeaaGreatQu46
import Derived.Test.YtbenkmihkbjgeaaGreatQu47
import Derived.Test.YtbenkmihkbjgeaaGreatQu03
import Derived.BigQuiet
import Derived.Deep.RegionHeld3
import Derived.Deep.DeepCutAuto
/- Package scan's document: May. (mk_sc14.py wrote it.) -/
set_option linter.unusedVariables false
set_option linter.unusedSimpArgs false
namespace Go.Proofs.YtbenkmihkbjgeaaGreat.Tx
open Go.RowKit Go.Maps Go.Proofs.YtbenkmihkbjgeaaGreat.Sh S7
def MayP (w : World) (e : Ending) (w' : World) : Prop := ∃ t, e = .returned (.bool t) ∧ Below w.heap.size w w'
theorem field_mode (W : World) (m : Int) (i : ByteArray) : (Instr.field 70 (.agg #[.int .i64 m, .string i]) 0).run Tryz.prog W = .ok (.int .i64 m) W := by kernel_rfl
theorem wpath_cat (p : List UInt8) : (⟨#[119, 47]⟩ : ByteArray) ++ Tx.str p = Tx.str (wP p) := Tx.str_append [119, 47] p
set_option maxRecDepth 100000 in
set_option maxHeartbeats 6400000 in
theorem smay_any (v : Value) (l : List RwM) (w : World) (h : SlR w v l) (hlen : l.length ≤ 100) (hfew : ∀ r ∈ l, RwFew r) : Calls Tryz.prog 25 #[v] w (MayP w) := by
 have H := Lib.hid h
 have HF := Lib.hid hfew
 obtain ⟨A, c, rfl, hlc, hcm, _, _⟩ := h
 obtain ⟨n, hn⟩ : ∃ n, l.length = n := ⟨_, rfl⟩
 have HN := Lib.hid hn
 rw [hn] at hlc hlen H ⊢
 have n256 : ¬ (256 : Int) < (n : Int) := by omega
 unfold maxLen at hcm
 clear hn hfew
 go_enter Tryz.func25, Tryz.ntmps25
 go_wp2_with fail
 go_loopw [3] (fun x wr => ∃ i : Nat, i ≤ n ∧ x = .int .i64 (i : Int) ∧ Below w.heap.size w wr) (fun x _ => n - (intOf x).toNat)
 case atStart => exact ⟨0, Nat.zero_le _, rfl, Below.refl _ _⟩
 case round =>
  obtain ⟨i, hi, rfl, hb⟩ := hrel
  have HB := Lib.hid hb
  clear hb
  have z0 : (0 : Int) ≤ (i : Int) := by omega
  by_cases hlt : i < n
  ·have z1 : (i : Int) < (n : Int) := by omega
   have hil : i < l.length := by have := HN.out; omega
   obtain ⟨r, hr⟩ : ∃ r, l[i] = r := ⟨_, rfl⟩
   have HGR : Hid (l[i]? = some r) := by unfold Hid; rw [List.getElem?_eq_getElem hil, hr]
   have hw := H.out.below HB.out
   obtain ⟨A', c', he, _, _, _, hrd⟩ := hw
   injection he with he1 he2 he3
   subst he1
   clear he2 he3
   have HRD := Lib.hid hrd
   obtain ⟨ad, rfl, x0, x1, x2⟩ := rows_at hrd rfl i r HGR.out
   have hrf := HF.out r (List.mem_of_getElem? HGR.out)
   obtain ⟨rp, rm, ri⟩ := r
   have hp4 : rp.length ≤ 400 := hrf.1
   have hi4 : ri.length ≤ 400 := hrf.2
   have HP4 := Lib.hid hp4
   have hcat : ¬ 9223372036854775807 < 2 + (Tx.str rp).size := by rw [Tx.str_size]; omega
   have HI4 := Lib.hid hi4
   dsimp only at x0 x1 x2
   clear hil hr hrd hrf hp4 hi4
   go_upto_region 7 with (fail)
   obtain ⟨wx, hwx⟩ : ∃ W, W = wr.alloc (.cells #[.string (Tx.str rp), .int .i64 rm, .string (Tx.str ri)] 120) := ⟨_, rfl⟩
   obtain ⟨g, hg⟩ : ∃ k, k = wr.heap.size := ⟨_, rfl⟩
   rw [← hwx]
   try rw [← hg]
   have HK : Hid (Blk wx g 120 #[.string (Tx.str rp), .int .i64 rm, .string (Tx.str ri)]) := by unfold Hid; rw [hwx, hg]; exact heap_alloc_new wr _
   have HBX : Hid (Below w.heap.size w wx) := by unfold Hid; rw [hwx]; exact HB.out.alloc HB.out.size _
   have HRX : Hid (Below wr.heap.size wr wx) := by unfold Hid; rw [hwx]; exact (Below.refl _ _).alloc (Nat.le_refl _) _
   clear hwx hg x0 x1 x2
   have HALL : Hid (∀ W, Below wx.heap.size wx W → Below w.heap.size w W) := fun W hW => HBX.out.trans (hW.mono HBX.out.size)
   have HS : Hid (Below wx.heap.size wx wx.drew) := (Below.refl _ _).drew
   obtain ⟨pt, hpt⟩ : ∃ t, pathB (wP rp) = t := ⟨_, rfl⟩
   obtain ⟨vt, hvt⟩ : ∃ t, Ob.validB ri = t := ⟨_, rfl⟩
   have HPT := Lib.hid hpt
   have HVT := Lib.hid hvt
   clear hpt hvt
   cases pt with
   | false =>
    refine wp_region_held_drew (S := (fun W : World => Below wx.heap.size wx W)) (by kernel_rfl) ?_ (fun hHeld => ?_)
    ·(try dsimp only); exact HS.out
    refine take_at (i := 0) (d := 20) (v := ?_) rfl (by kernel_rfl) (hy := .inl ⟨by kernel_rfl, ?_⟩) (h := ?_)
    rotate_left
    ·intro W hSw; (try dsimp only at hSw); go_simp; first | done | with_reducible rfl
    try simp only [Act.put, List.setIfInBounds_toArray, List.set_cons_zero, List.set_cons_succ]
    refine take_at (i := 1) (d := 21) (v := ?_) rfl (by kernel_rfl) (hy := .inl ⟨by kernel_rfl, ?_⟩) (h := ?_)
    rotate_left
    ·intro W hSw
     try dsimp only at hSw
     have hz8 := HK.out.below hSw HK.out.lt
     have k0 := hz8.cell 0
     have k1 := hz8.cell 1
     have k2 := hz8.cell 2
     go_simp
     first | done | with_reducible rfl
    try simp only [Act.put, List.setIfInBounds_toArray, List.set_cons_zero, List.set_cons_succ]
    refine take_at (i := 2) (d := 22) (v := ?_) rfl (by kernel_rfl) (hy := .inl ⟨by kernel_rfl, ?_⟩) (h := ?_)
    rotate_left
    ·intro W hSw; (try dsimp only at hSw); go_simp; first | done | with_reducible rfl
    try simp only [Act.put, List.setIfInBounds_toArray, List.set_cons_zero, List.set_cons_succ]
    refine wpAnyH_ready (rs := [3]) (by kernel_rfl) (by simp) (AllReadyH.cons rfl (fun K hK => ?_) AllReadyH.nil)
    go_simp
    rw [wpath_cat]
    go_at_call 93
    refine (rpath_any (wP rp) _ (by have := HP4.out; unfold wP; simp; omega)).mono ?_
    rw [HPT.out]
    rintro e wn ⟨rfl, hb⟩
    replace HS := Lib.hid (HS.out.trans (hb.mono HS.out.size))
    clear hb
    try go_wp2_with fail
    refine hK.out _ _ ?_ (fun hHeld => ?_)
    ·(try dsimp only); exact HS.out
    clear hK K
    try simp only [Act.put, List.setIfInBounds_toArray, List.set_cons_zero, List.set_cons_succ]
    refine take_at (i := 4) (d := 24) (v := ?_) rfl (by kernel_rfl) (hy := .inl ⟨by kernel_rfl, ?_⟩) (h := ?_)
    rotate_left
    ·intro W hSw; (try dsimp only at hSw); go_simp; first | done | with_reducible rfl
    try simp only [Act.put, List.setIfInBounds_toArray, List.set_cons_zero, List.set_cons_succ]
    refine take_at (i := 5) (d := 25) (v := ?_) rfl (by kernel_rfl) (hy := .inl ⟨by kernel_rfl, ?_⟩) (h := ?_)
    rotate_left
    ·intro W hSw; (try dsimp only at hSw); go_simp; first | done | with_reducible rfl
    try simp only [Act.put, List.setIfInBounds_toArray, List.set_cons_zero, List.set_cons_succ]
    refine take_at (i := 6) (d := 26) (v := undef) rfl (by kernel_rfl) (hy := .inr ⟨by kernel_rfl, rfl⟩) (h := ?_)
    try simp only [Act.put, List.setIfInBounds_toArray, List.set_cons_zero, List.set_cons_succ]
    refine take_at (i := 7) (d := 27) (v := undef) rfl (by kernel_rfl) (hy := .inr ⟨by kernel_rfl, rfl⟩) (h := ?_)
    try simp only [Act.put, List.setIfInBounds_toArray, List.set_cons_zero, List.set_cons_succ]
    refine take_at (i := 8) (d := 28) (v := undef) rfl (by kernel_rfl) (hy := .inr ⟨by kernel_rfl, rfl⟩) (h := ?_)
    try simp only [Act.put, List.setIfInBounds_toArray, List.set_cons_zero, List.set_cons_succ]
    refine take_at (i := 9) (d := 29) (v := undef) rfl (by kernel_rfl) (hy := .inr ⟨by kernel_rfl, rfl⟩) (h := ?_)
    try simp only [Act.put, List.setIfInBounds_toArray, List.set_cons_zero, List.set_cons_succ]
    refine take_at (i := 10) (d := 30) (v := ?_) rfl (by kernel_rfl) (hy := .inl ⟨by kernel_rfl, ?_⟩) (h := ?_)
    rotate_left
    ·intro W hSw; (try dsimp only at hSw); go_simp; first | done | with_reducible rfl
    try simp only [Act.put, List.setIfInBounds_toArray, List.set_cons_zero, List.set_cons_succ]
    refine take_at (i := 11) (d := 31) (v := ?_) rfl (by kernel_rfl) (hy := .inl ⟨by kernel_rfl, ?_⟩) (h := ?_)
    rotate_left
    ·intro W hSw; (try dsimp only at hSw); go_simp; first | done | with_reducible rfl
    try simp only [Act.put, List.setIfInBounds_toArray, List.set_cons_zero, List.set_cons_succ]
    refine take_at (i := 12) (d := 32) (v := undef) rfl (by kernel_rfl) (hy := .inr ⟨by kernel_rfl, rfl⟩) (h := ?_)
    try simp only [Act.put, List.setIfInBounds_toArray, List.set_cons_zero, List.set_cons_succ]
    refine take_at (i := 13) (d := 33) (v := undef) rfl (by kernel_rfl) (hy := .inr ⟨by kernel_rfl, rfl⟩) (h := ?_)
    try simp only [Act.put, List.setIfInBounds_toArray, List.set_cons_zero, List.set_cons_succ]
    refine take_at (i := 14) (d := 34) (v := undef) rfl (by kernel_rfl) (hy := .inr ⟨by kernel_rfl, rfl⟩) (h := ?_)
    try simp only [Act.put, List.setIfInBounds_toArray, List.set_cons_zero, List.set_cons_succ]
    refine take_at (i := 15) (d := 35) (v := undef) rfl (by kernel_rfl) (hy := .inr ⟨by kernel_rfl, rfl⟩) (h := ?_)
    try simp only [Act.put, List.setIfInBounds_toArray, List.set_cons_zero, List.set_cons_succ]
    refine take_at (i := 16) (d := 36) (v := ?_) rfl (by kernel_rfl) (hy := .inl ⟨by kernel_rfl, ?_⟩) (h := ?_)
    rotate_left
    ·intro W hSw; (try dsimp only at hSw); go_simp; first | done | with_reducible rfl
    try simp only [Act.put, List.setIfInBounds_toArray, List.set_cons_zero, List.set_cons_succ]
    refine take_at (i := 17) (d := 37) (v := ?_) rfl (by kernel_rfl) (hy := .inl ⟨by kernel_rfl, ?_⟩) (h := ?_)
    rotate_left
    ·intro W hSw; (try dsimp only at hSw); go_simp; first | done | with_reducible rfl
    try simp only [Act.put, List.setIfInBounds_toArray, List.set_cons_zero, List.set_cons_succ]
    refine take_at (i := 18) (d := 38) (v := undef) rfl (by kernel_rfl) (hy := .inr ⟨by kernel_rfl, rfl⟩) (h := ?_)
    try simp only [Act.put, List.setIfInBounds_toArray, List.set_cons_zero, List.set_cons_succ]
    refine take_at (i := 19) (d := 39) (v := undef) rfl (by kernel_rfl) (hy := .inr ⟨by kernel_rfl, rfl⟩) (h := ?_)
    try simp only [Act.put, List.setIfInBounds_toArray, List.set_cons_zero, List.set_cons_succ]
    refine take_at (i := 20) (d := 40) (v := undef) rfl (by kernel_rfl) (hy := .inr ⟨by kernel_rfl, rfl⟩) (h := ?_)
    try simp only [Act.put, List.setIfInBounds_toArray, List.set_cons_zero, List.set_cons_succ]
    refine take_at (i := 21) (d := 41) (v := undef) rfl (by kernel_rfl) (hy := .inr ⟨by kernel_rfl, rfl⟩) (h := ?_)
    try simp only [Act.put, List.setIfInBounds_toArray, List.set_cons_zero, List.set_cons_succ]
    refine take_at (i := 22) (d := 42) (v := undef) rfl (by kernel_rfl) (hy := .inr ⟨by kernel_rfl, rfl⟩) (h := ?_)
    try simp only [Act.put, List.setIfInBounds_toArray, List.set_cons_zero, List.set_cons_succ]
    refine take_at (i := 23) (d := 43) (v := ?_) rfl (by kernel_rfl) (hy := .inl ⟨by kernel_rfl, ?_⟩) (h := ?_)
    rotate_left
    ·intro W hSw; (try dsimp only at hSw); go_simp; first | done | with_reducible rfl
    try simp only [Act.put, List.setIfInBounds_toArray, List.set_cons_zero, List.set_cons_succ]
    refine take_at (i := 24) (d := 44) (v := ?_) rfl (by kernel_rfl) (hy := .inl ⟨by kernel_rfl, ?_⟩) (h := ?_)
    rotate_left
    ·intro W hSw; (try dsimp only at hSw); go_simp; first | done | with_reducible rfl
    try simp only [Act.put, List.setIfInBounds_toArray, List.set_cons_zero, List.set_cons_succ]
    refine take_at (i := 25) (d := 45) (v := undef) rfl (by kernel_rfl) (hy := .inr ⟨by kernel_rfl, rfl⟩) (h := ?_)
    try simp only [Act.put, List.setIfInBounds_toArray, List.set_cons_zero, List.set_cons_succ]
    refine take_at (i := 26) (d := 46) (v := undef) rfl (by kernel_rfl) (hy := .inr ⟨by kernel_rfl, rfl⟩) (h := ?_)
    try simp only [Act.put, List.setIfInBounds_toArray, List.set_cons_zero, List.set_cons_succ]
    refine take_at (i := 27) (d := 47) (v := undef) rfl (by kernel_rfl) (hy := .inr ⟨by kernel_rfl, rfl⟩) (h := ?_)
    try simp only [Act.put, List.setIfInBounds_toArray, List.set_cons_zero, List.set_cons_succ]
    refine take_at (i := 28) (d := 48) (v := undef) rfl (by kernel_rfl) (hy := .inr ⟨by kernel_rfl, rfl⟩) (h := ?_)
    try simp only [Act.put, List.setIfInBounds_toArray, List.set_cons_zero, List.set_cons_succ]
    refine take_at (i := 29) (d := 49) (v := undef) rfl (by kernel_rfl) (hy := .inr ⟨by kernel_rfl, rfl⟩) (h := ?_)
    try simp only [Act.put, List.setIfInBounds_toArray, List.set_cons_zero, List.set_cons_succ]
    refine take_at (i := 30) (d := 50) (v := undef) rfl (by kernel_rfl) (hy := .inr ⟨by kernel_rfl, rfl⟩) (h := ?_)
    try simp only [Act.put, List.setIfInBounds_toArray, List.set_cons_zero, List.set_cons_succ]
    refine take_at (i := 31) (d := 51) (v := undef) rfl (by kernel_rfl) (hy := .inr ⟨by kernel_rfl, rfl⟩) (h := ?_)
    try simp only [Act.put, List.setIfInBounds_toArray, List.set_cons_zero, List.set_cons_succ]
    refine take_at (i := 32) (d := 52) (v := undef) rfl (by kernel_rfl) (hy := .inr ⟨by kernel_rfl, rfl⟩) (h := ?_)
    try simp only [Act.put, List.setIfInBounds_toArray, List.set_cons_zero, List.set_cons_succ]
    refine take_at (i := 33) (d := 53) (v := undef) rfl (by kernel_rfl) (hy := .inr ⟨by kernel_rfl, rfl⟩) (h := ?_)
    try simp only [Act.put, List.setIfInBounds_toArray, List.set_cons_zero, List.set_cons_succ]
    refine take_at (i := 34) (d := 54) (v := undef) rfl (by kernel_rfl) (hy := .inr ⟨by kernel_rfl, rfl⟩) (h := ?_)
    try simp only [Act.put, List.setIfInBounds_toArray, List.set_cons_zero, List.set_cons_succ]
    refine take_at (i := 35) (d := 55) (v := undef) rfl (by kernel_rfl) (hy := .inr ⟨by kernel_rfl, rfl⟩) (h := ?_)
    try simp only [Act.put, List.setIfInBounds_toArray, List.set_cons_zero, List.set_cons_succ]
    refine take_at (i := 36) (d := 56) (v := undef) rfl (by kernel_rfl) (hy := .inr ⟨by kernel_rfl, rfl⟩) (h := ?_)
    try simp only [Act.put, List.setIfInBounds_toArray, List.set_cons_zero, List.set_cons_succ]
    refine take_at (i := 37) (d := 57) (v := undef) rfl (by kernel_rfl) (hy := .inr ⟨by kernel_rfl, rfl⟩) (h := ?_)
    try simp only [Act.put, List.setIfInBounds_toArray, List.set_cons_zero, List.set_cons_succ]
    refine take_at (i := 38) (d := 58) (v := ?_) rfl (by kernel_rfl) (hy := .inl ⟨by kernel_rfl, ?_⟩) (h := ?_)
    rotate_left
    ·intro W hSw; (try dsimp only at hSw); go_simp; first | done | with_reducible rfl
    try simp only [Act.put, List.setIfInBounds_toArray, List.set_cons_zero, List.set_cons_succ]
    refine wpAnyH_done (by kernel_rfl) ?_ _
    go_wp2_with fail
    go_ret
    exact ⟨_, rfl, HALL.out _ HS.out⟩
   | true =>
    by_cases m1 : rm < 1
    ·have m1a : decide (rm < 1) = true := decide_eq_true m1
     refine wp_region_held_drew (S := (fun W : World => Below wx.heap.size wx W)) (by kernel_rfl) ?_ (fun hHeld => ?_)
     ·(try dsimp only); exact HS.out
     refine take_at (i := 0) (d := 20) (v := ?_) rfl (by kernel_rfl) (hy := .inl ⟨by kernel_rfl, ?_⟩) (h := ?_)
     rotate_left
     ·intro W hSw; (try dsimp only at hSw); go_simp; first | done | with_reducible rfl
     try simp only [Act.put, List.setIfInBounds_toArray, List.set_cons_zero, List.set_cons_succ]
     refine take_at (i := 1) (d := 21) (v := ?_) rfl (by kernel_rfl) (hy := .inl ⟨by kernel_rfl, ?_⟩) (h := ?_)
     rotate_left
     ·intro W hSw
      try dsimp only at hSw
      have hz8 := HK.out.below hSw HK.out.lt
      have k0 := hz8.cell 0
      have k1 := hz8.cell 1
      have k2 := hz8.cell 2
      go_simp
      first | done | with_reducible rfl
     try simp only [Act.put, List.setIfInBounds_toArray, List.set_cons_zero, List.set_cons_succ]
     refine take_at (i := 2) (d := 22) (v := ?_) rfl (by kernel_rfl) (hy := .inl ⟨by kernel_rfl, ?_⟩) (h := ?_)
     rotate_left
     ·intro W hSw; (try dsimp only at hSw); go_simp; first | done | with_reducible rfl
     try simp only [Act.put, List.setIfInBounds_toArray, List.set_cons_zero, List.set_cons_succ]
     refine wpAnyH_ready (rs := [3]) (by kernel_rfl) (by simp) (AllReadyH.cons rfl (fun K hK => ?_) AllReadyH.nil)
     go_simp
     rw [wpath_cat]
     go_at_call 93
     refine (rpath_any (wP rp) _ (by have := HP4.out; unfold wP; simp; omega)).mono ?_
     rw [HPT.out]
     rintro e wn ⟨rfl, hb⟩
     replace HS := Lib.hid (HS.out.trans (hb.mono HS.out.size))
     clear hb
     try go_wp2_with fail
     refine hK.out _ _ ?_ (fun hHeld => ?_)
     ·(try dsimp only); exact HS.out
     clear hK K
     try simp only [Act.put, List.setIfInBounds_toArray, List.set_cons_zero, List.set_cons_succ]
     refine take_at (i := 4) (d := 24) (v := ?_) rfl (by kernel_rfl) (hy := .inl ⟨by kernel_rfl, ?_⟩) (h := ?_)
     rotate_left
     ·intro W hSw; (try dsimp only at hSw); go_simp; first | done | with_reducible rfl
     try simp only [Act.put, List.setIfInBounds_toArray, List.set_cons_zero, List.set_cons_succ]
     refine take_at (i := 5) (d := 25) (v := ?_) rfl (by kernel_rfl) (hy := .inl ⟨by kernel_rfl, ?_⟩) (h := ?_)
     rotate_left
     ·intro W hSw; (try dsimp only at hSw); go_simp; first | done | with_reducible rfl
     try simp only [Act.put, List.setIfInBounds_toArray, List.set_cons_zero, List.set_cons_succ]
     refine take_at (i := 6) (d := 26) (v := ?_) rfl (by kernel_rfl) (hy := .inl ⟨by kernel_rfl, ?_⟩) (h := ?_)
     rotate_left
     ·intro W hSw; (try dsimp only at hSw); go_simp; first | done | with_reducible rfl
     try simp only [Act.put, List.setIfInBounds_toArray, List.set_cons_zero, List.set_cons_succ]
     refine take_at (i := 7) (d := 27) (v := ?_) rfl (by kernel_rfl) (hy := .inl ⟨by kernel_rfl, ?_⟩) (h := ?_)
     rotate_left
     ·intro W hSw; (try dsimp only at hSw); go_simp; first | done | with_reducible rfl
     try simp only [Act.put, List.setIfInBounds_toArray, List.set_cons_zero, List.set_cons_succ]
     refine take_at (i := 8) (d := 28) (v := ?_) rfl (by kernel_rfl) (hy := .inl ⟨by kernel_rfl, ?_⟩) (h := ?_)
     rotate_left
     ·intro W hSw
      try dsimp only at hSw
      have hz8 := HK.out.below hSw HK.out.lt
      have k0 := hz8.cell 0
      have k1 := hz8.cell 1
      have k2 := hz8.cell 2
      go_simp
      first | done | with_reducible rfl
     try simp only [Act.put, List.setIfInBounds_toArray, List.set_cons_zero, List.set_cons_succ]
     refine take_at (i := 9) (d := 29) (v := ?_) rfl (by kernel_rfl) (hy := .inl ⟨by kernel_rfl, ?_⟩) (h := ?_)
     rotate_left
     ·intro W hSw; (try dsimp only at hSw); go_simp; first | done | with_reducible rfl
     try simp only [Act.put, List.setIfInBounds_toArray, List.set_cons_zero, List.set_cons_succ]
     refine take_at (i := 10) (d := 30) (v := ?_) rfl (by kernel_rfl) (hy := .inl ⟨by kernel_rfl, ?_⟩) (h := ?_)
     rotate_left
     ·intro W hSw; (try dsimp only at hSw); go_simp; first | done | with_reducible rfl
     try simp only [Act.put, List.setIfInBounds_toArray, List.set_cons_zero, List.set_cons_succ]
     refine take_at (i := 11) (d := 31) (v := ?_) rfl (by kernel_rfl) (hy := .inl ⟨by kernel_rfl, ?_⟩) (h := ?_)
     rotate_left
     ·intro W hSw; (try dsimp only at hSw); go_simp; first | done | with_reducible rfl
     try simp only [Act.put, List.setIfInBounds_toArray, List.set_cons_zero, List.set_cons_succ]
     refine take_at (i := 12) (d := 32) (v := undef) rfl (by kernel_rfl) (hy := .inr ⟨by kernel_rfl, rfl⟩) (h := ?_)
     try simp only [Act.put, List.setIfInBounds_toArray, List.set_cons_zero, List.set_cons_succ]
     refine take_at (i := 13) (d := 33) (v := undef) rfl (by kernel_rfl) (hy := .inr ⟨by kernel_rfl, rfl⟩) (h := ?_)
     try simp only [Act.put, List.setIfInBounds_toArray, List.set_cons_zero, List.set_cons_succ]
     refine take_at (i := 14) (d := 34) (v := undef) rfl (by kernel_rfl) (hy := .inr ⟨by kernel_rfl, rfl⟩) (h := ?_)
     try simp only [Act.put, List.setIfInBounds_toArray, List.set_cons_zero, List.set_cons_succ]
     refine take_at (i := 15) (d := 35) (v := undef) rfl (by kernel_rfl) (hy := .inr ⟨by kernel_rfl, rfl⟩) (h := ?_)
     try simp only [Act.put, List.setIfInBounds_toArray, List.set_cons_zero, List.set_cons_succ]
     refine take_at (i := 16) (d := 36) (v := ?_) rfl (by kernel_rfl) (hy := .inl ⟨by kernel_rfl, ?_⟩) (h := ?_)
     rotate_left
     ·intro W hSw; (try dsimp only at hSw); go_simp; first | done | with_reducible rfl
     try simp only [Act.put, List.setIfInBounds_toArray, List.set_cons_zero, List.set_cons_succ]
     refine take_at (i := 17) (d := 37) (v := ?_) rfl (by kernel_rfl) (hy := .inl ⟨by kernel_rfl, ?_⟩) (h := ?_)
     rotate_left
     ·intro W hSw; (try dsimp only at hSw); go_simp; first | done | with_reducible rfl
     try simp only [Act.put, List.setIfInBounds_toArray, List.set_cons_zero, List.set_cons_succ]
     refine take_at (i := 18) (d := 38) (v := undef) rfl (by kernel_rfl) (hy := .inr ⟨by kernel_rfl, rfl⟩) (h := ?_)
     try simp only [Act.put, List.setIfInBounds_toArray, List.set_cons_zero, List.set_cons_succ]
     refine take_at (i := 19) (d := 39) (v := undef) rfl (by kernel_rfl) (hy := .inr ⟨by kernel_rfl, rfl⟩) (h := ?_)
     try simp only [Act.put, List.setIfInBounds_toArray, List.set_cons_zero, List.set_cons_succ]
     refine take_at (i := 20) (d := 40) (v := undef) rfl (by kernel_rfl) (hy := .inr ⟨by kernel_rfl, rfl⟩) (h := ?_)
     try simp only [Act.put, List.setIfInBounds_toArray, List.set_cons_zero, List.set_cons_succ]
     refine take_at (i := 21) (d := 41) (v := undef) rfl (by kernel_rfl) (hy := .inr ⟨by kernel_rfl, rfl⟩) (h := ?_)
     try simp only [Act.put, List.setIfInBounds_toArray, List.set_cons_zero, List.set_cons_succ]
     refine take_at (i := 22) (d := 42) (v := undef) rfl (by kernel_rfl) (hy := .inr ⟨by kernel_rfl, rfl⟩) (h := ?_)
     try simp only [Act.put, List.setIfInBounds_toArray, List.set_cons_zero, List.set_cons_succ]
     refine take_at (i := 23) (d := 43) (v := ?_) rfl (by kernel_rfl) (hy := .inl ⟨by kernel_rfl, ?_⟩) (h := ?_)
     rotate_left
     ·intro W hSw; (try dsimp only at hSw); go_simp; first | done | with_reducible rfl
     try simp only [Act.put, List.setIfInBounds_toArray, List.set_cons_zero, List.set_cons_succ]
     refine take_at (i := 24) (d := 44) (v := ?_) rfl (by kernel_rfl) (hy := .inl ⟨by kernel_rfl, ?_⟩) (h := ?_)
     rotate_left
     ·intro W hSw; (try dsimp only at hSw); go_simp; first | done | with_reducible rfl
     try simp only [Act.put, List.setIfInBounds_toArray, List.set_cons_zero, List.set_cons_succ]
     refine take_at (i := 25) (d := 45) (v := undef) rfl (by kernel_rfl) (hy := .inr ⟨by kernel_rfl, rfl⟩) (h := ?_)
     try simp only [Act.put, List.setIfInBounds_toArray, List.set_cons_zero, List.set_cons_succ]
     refine take_at (i := 26) (d := 46) (v := undef) rfl (by kernel_rfl) (hy := .inr ⟨by kernel_rfl, rfl⟩) (h := ?_)
     try simp only [Act.put, List.setIfInBounds_toArray, List.set_cons_zero, List.set_cons_succ]
     refine take_at (i := 27) (d := 47) (v := undef) rfl (by kernel_rfl) (hy := .inr ⟨by kernel_rfl, rfl⟩) (h := ?_)
     try simp only [Act.put, List.setIfInBounds_toArray, List.set_cons_zero, List.set_cons_succ]
     refine take_at (i := 28) (d := 48) (v := undef) rfl (by kernel_rfl) (hy := .inr ⟨by kernel_rfl, rfl⟩) (h := ?_)
     try simp only [Act.put, List.setIfInBounds_toArray, List.set_cons_zero, List.set_cons_succ]
     refine take_at (i := 29) (d := 49) (v := undef) rfl (by kernel_rfl) (hy := .inr ⟨by kernel_rfl, rfl⟩) (h := ?_)
     try simp only [Act.put, List.setIfInBounds_toArray, List.set_cons_zero, List.set_cons_succ]
     refine take_at (i := 30) (d := 50) (v := undef) rfl (by kernel_rfl) (hy := .inr ⟨by kernel_rfl, rfl⟩) (h := ?_)
     try simp only [Act.put, List.setIfInBounds_toArray, List.set_cons_zero, List.set_cons_succ]
     refine take_at (i := 31) (d := 51) (v := undef) rfl (by kernel_rfl) (hy := .inr ⟨by kernel_rfl, rfl⟩) (h := ?_)
     try simp only [Act.put, List.setIfInBounds_toArray, List.set_cons_zero, List.set_cons_succ]
     refine take_at (i := 32) (d := 52) (v := undef) rfl (by kernel_rfl) (hy := .inr ⟨by kernel_rfl, rfl⟩) (h := ?_)
     try simp only [Act.put, List.setIfInBounds_toArray, List.set_cons_zero, List.set_cons_succ]
     refine take_at (i := 33) (d := 53) (v := undef) rfl (by kernel_rfl) (hy := .inr ⟨by kernel_rfl, rfl⟩) (h := ?_)
     try simp only [Act.put, List.setIfInBounds_toArray, List.set_cons_zero, List.set_cons_succ]
     refine take_at (i := 34) (d := 54) (v := undef) rfl (by kernel_rfl) (hy := .inr ⟨by kernel_rfl, rfl⟩) (h := ?_)
     try simp only [Act.put, List.setIfInBounds_toArray, List.set_cons_zero, List.set_cons_succ]
     refine take_at (i := 35) (d := 55) (v := undef) rfl (by kernel_rfl) (hy := .inr ⟨by kernel_rfl, rfl⟩) (h := ?_)
     try simp only [Act.put, List.setIfInBounds_toArray, List.set_cons_zero, List.set_cons_succ]
     refine take_at (i := 36) (d := 56) (v := undef) rfl (by kernel_rfl) (hy := .inr ⟨by kernel_rfl, rfl⟩) (h := ?_)
     try simp only [Act.put, List.setIfInBounds_toArray, List.set_cons_zero, List.set_cons_succ]
     refine take_at (i := 37) (d := 57) (v := undef) rfl (by kernel_rfl) (hy := .inr ⟨by kernel_rfl, rfl⟩) (h := ?_)
     try simp only [Act.put, List.setIfInBounds_toArray, List.set_cons_zero, List.set_cons_succ]
     refine take_at (i := 38) (d := 58) (v := ?_) rfl (by kernel_rfl) (hy := .inl ⟨by kernel_rfl, ?_⟩) (h := ?_)
     rotate_left
     ·intro W hSw; (try dsimp only at hSw); go_simp; first | done | with_reducible rfl
     try simp only [Act.put, List.setIfInBounds_toArray, List.set_cons_zero, List.set_cons_succ]
     refine wpAnyH_done (by kernel_rfl) ?_ _
     go_wp2_with fail
     go_ret
     exact ⟨_, rfl, HALL.out _ HS.out⟩
    have m1a : decide (rm < 1) = false := decide_eq_false m1
    by_cases m3 : 3 < rm
    ·have m3a : decide (3 < rm) = true := decide_eq_true m3
     refine wp_region_held_drew (S := (fun W : World => Below wx.heap.size wx W)) (by kernel_rfl) ?_ (fun hHeld => ?_)
     ·(try dsimp only); exact HS.out
     refine take_at (i := 0) (d := 20) (v := ?_) rfl (by kernel_rfl) (hy := .inl ⟨by kernel_rfl, ?_⟩) (h := ?_)
     rotate_left
     ·intro W hSw; (try dsimp only at hSw); go_simp; first | done | with_reducible rfl
     try simp only [Act.put, List.setIfInBounds_toArray, List.set_cons_zero, List.set_cons_succ]
     refine take_at (i := 1) (d := 21) (v := ?_) rfl (by kernel_rfl) (hy := .inl ⟨by kernel_rfl, ?_⟩) (h := ?_)
     rotate_left
     ·intro W hSw
      try dsimp only at hSw
      have hz8 := HK.out.below hSw HK.out.lt
      have k0 := hz8.cell 0
      have k1 := hz8.cell 1
      have k2 := hz8.cell 2
      go_simp
      first | done | with_reducible rfl
     try simp only [Act.put, List.setIfInBounds_toArray, List.set_cons_zero, List.set_cons_succ]
     refine take_at (i := 2) (d := 22) (v := ?_) rfl (by kernel_rfl) (hy := .inl ⟨by kernel_rfl, ?_⟩) (h := ?_)
     rotate_left
     ·intro W hSw; (try dsimp only at hSw); go_simp; first | done | with_reducible rfl
     try simp only [Act.put, List.setIfInBounds_toArray, List.set_cons_zero, List.set_cons_succ]
     refine wpAnyH_ready (rs := [3]) (by kernel_rfl) (by simp) (AllReadyH.cons rfl (fun K hK => ?_) AllReadyH.nil)
     go_simp
     rw [wpath_cat]
     go_at_call 93
     refine (rpath_any (wP rp) _ (by have := HP4.out; unfold wP; simp; omega)).mono ?_
     rw [HPT.out]
     rintro e wn ⟨rfl, hb⟩
     replace HS := Lib.hid (HS.out.trans (hb.mono HS.out.size))
     clear hb
     try go_wp2_with fail
     refine hK.out _ _ ?_ (fun hHeld => ?_)
     ·(try dsimp only); exact HS.out
     clear hK K
     try simp only [Act.put, List.setIfInBounds_toArray, List.set_cons_zero, List.set_cons_succ]
     refine take_at (i := 4) (d := 24) (v := ?_) rfl (by kernel_rfl) (hy := .inl ⟨by kernel_rfl, ?_⟩) (h := ?_)
     rotate_left
     ·intro W hSw; (try dsimp only at hSw); go_simp; first | done | with_reducible rfl
     try simp only [Act.put, List.setIfInBounds_toArray, List.set_cons_zero, List.set_cons_succ]
     refine take_at (i := 5) (d := 25) (v := ?_) rfl (by kernel_rfl) (hy := .inl ⟨by kernel_rfl, ?_⟩) (h := ?_)
     rotate_left
     ·intro W hSw; (try dsimp only at hSw); go_simp; first | done | with_reducible rfl
     try simp only [Act.put, List.setIfInBounds_toArray, List.set_cons_zero, List.set_cons_succ]
     refine take_at (i := 6) (d := 26) (v := ?_) rfl (by kernel_rfl) (hy := .inl ⟨by kernel_rfl, ?_⟩) (h := ?_)
     rotate_left
     ·intro W hSw; (try dsimp only at hSw); go_simp; first | done | with_reducible rfl
     try simp only [Act.put, List.setIfInBounds_toArray, List.set_cons_zero, List.set_cons_succ]
     refine take_at (i := 7) (d := 27) (v := ?_) rfl (by kernel_rfl) (hy := .inl ⟨by kernel_rfl, ?_⟩) (h := ?_)
     rotate_left
     ·intro W hSw; (try dsimp only at hSw); go_simp; first | done | with_reducible rfl
     try simp only [Act.put, List.setIfInBounds_toArray, List.set_cons_zero, List.set_cons_succ]
     refine take_at (i := 8) (d := 28) (v := ?_) rfl (by kernel_rfl) (hy := .inl ⟨by kernel_rfl, ?_⟩) (h := ?_)
     rotate_left
     ·intro W hSw
      try dsimp only at hSw
      have hz8 := HK.out.below hSw HK.out.lt
      have k0 := hz8.cell 0
      have k1 := hz8.cell 1
      have k2 := hz8.cell 2
      go_simp
      first | done | with_reducible rfl
     try simp only [Act.put, List.setIfInBounds_toArray, List.set_cons_zero, List.set_cons_succ]
     refine take_at (i := 9) (d := 29) (v := ?_) rfl (by kernel_rfl) (hy := .inl ⟨by kernel_rfl, ?_⟩) (h := ?_)
     rotate_left
     ·intro W hSw; (try dsimp only at hSw); go_simp; first | done | with_reducible rfl
     try simp only [Act.put, List.setIfInBounds_toArray, List.set_cons_zero, List.set_cons_succ]
     refine take_at (i := 10) (d := 30) (v := ?_) rfl (by kernel_rfl) (hy := .inl ⟨by kernel_rfl, ?_⟩) (h := ?_)
     rotate_left
     ·intro W hSw; (try dsimp only at hSw); go_simp; first | done | with_reducible rfl
     try simp only [Act.put, List.setIfInBounds_toArray, List.set_cons_zero, List.set_cons_succ]
     refine take_at (i := 11) (d := 31) (v := ?_) rfl (by kernel_rfl) (hy := .inl ⟨by kernel_rfl, ?_⟩) (h := ?_)
     rotate_left
     ·intro W hSw; (try dsimp only at hSw); go_simp; first | done | with_reducible rfl
     try simp only [Act.put, List.setIfInBounds_toArray, List.set_cons_zero, List.set_cons_succ]
     refine take_at (i := 12) (d := 32) (v := ?_) rfl (by kernel_rfl) (hy := .inl ⟨by kernel_rfl, ?_⟩) (h := ?_)
     rotate_left
     ·intro W hSw; (try dsimp only at hSw); go_simp; first | done | with_reducible rfl
     try simp only [Act.put, List.setIfInBounds_toArray, List.set_cons_zero, List.set_cons_succ]
     refine take_at (i := 13) (d := 33) (v := ?_) rfl (by kernel_rfl) (hy := .inl ⟨by kernel_rfl, ?_⟩) (h := ?_)
     rotate_left
     ·intro W hSw; (try dsimp only at hSw); go_simp; first | done | with_reducible rfl
     try simp only [Act.put, List.setIfInBounds_toArray, List.set_cons_zero, List.set_cons_succ]
     refine take_at (i := 14) (d := 34) (v := ?_) rfl (by kernel_rfl) (hy := .inl ⟨by kernel_rfl, ?_⟩) (h := ?_)
     rotate_left
     ·intro W hSw
      try dsimp only at hSw
      have hz8 := HK.out.below hSw HK.out.lt
      have k0 := hz8.cell 0
      have k1 := hz8.cell 1
      have k2 := hz8.cell 2
      go_simp
      first | done | with_reducible rfl
     try simp only [Act.put, List.setIfInBounds_toArray, List.set_cons_zero, List.set_cons_succ]
     refine take_at (i := 15) (d := 35) (v := ?_) rfl (by kernel_rfl) (hy := .inl ⟨by kernel_rfl, ?_⟩) (h := ?_)
     rotate_left
     ·intro W hSw; (try dsimp only at hSw); go_simp; first | done | with_reducible rfl
     try simp only [Act.put, List.setIfInBounds_toArray, List.set_cons_zero, List.set_cons_succ]
     refine take_at (i := 16) (d := 36) (v := ?_) rfl (by kernel_rfl) (hy := .inl ⟨by kernel_rfl, ?_⟩) (h := ?_)
     rotate_left
     ·intro W hSw; (try dsimp only at hSw); go_simp; first | done | with_reducible rfl
     try simp only [Act.put, List.setIfInBounds_toArray, List.set_cons_zero, List.set_cons_succ]
     refine take_at (i := 17) (d := 37) (v := ?_) rfl (by kernel_rfl) (hy := .inl ⟨by kernel_rfl, ?_⟩) (h := ?_)
     rotate_left
     ·intro W hSw; (try dsimp only at hSw); go_simp; first | done | with_reducible rfl
     try simp only [Act.put, List.setIfInBounds_toArray, List.set_cons_zero, List.set_cons_succ]
     refine take_at (i := 18) (d := 38) (v := undef) rfl (by kernel_rfl) (hy := .inr ⟨by kernel_rfl, rfl⟩) (h := ?_)
     try simp only [Act.put, List.setIfInBounds_toArray, List.set_cons_zero, List.set_cons_succ]
     refine take_at (i := 19) (d := 39) (v := undef) rfl (by kernel_rfl) (hy := .inr ⟨by kernel_rfl, rfl⟩) (h := ?_)
     try simp only [Act.put, List.setIfInBounds_toArray, List.set_cons_zero, List.set_cons_succ]
     refine take_at (i := 20) (d := 40) (v := undef) rfl (by kernel_rfl) (hy := .inr ⟨by kernel_rfl, rfl⟩) (h := ?_)
     try simp only [Act.put, List.setIfInBounds_toArray, List.set_cons_zero, List.set_cons_succ]
     refine take_at (i := 21) (d := 41) (v := undef) rfl (by kernel_rfl) (hy := .inr ⟨by kernel_rfl, rfl⟩) (h := ?_)
     try simp only [Act.put, List.setIfInBounds_toArray, List.set_cons_zero, List.set_cons_succ]
     refine take_at (i := 22) (d := 42) (v := undef) rfl (by kernel_rfl) (hy := .inr ⟨by kernel_rfl, rfl⟩) (h := ?_)
     try simp only [Act.put, List.setIfInBounds_toArray, List.set_cons_zero, List.set_cons_succ]
     refine take_at (i := 23) (d := 43) (v := ?_) rfl (by kernel_rfl) (hy := .inl ⟨by kernel_rfl, ?_⟩) (h := ?_)
     rotate_left
     ·intro W hSw; (try dsimp only at hSw); go_simp; first | done | with_reducible rfl
     try simp only [Act.put, List.setIfInBounds_toArray, List.set_cons_zero, List.set_cons_succ]
     refine take_at (i := 24) (d := 44) (v := ?_) rfl (by kernel_rfl) (hy := .inl ⟨by kernel_rfl, ?_⟩) (h := ?_)
     rotate_left
     ·intro W hSw; (try dsimp only at hSw); go_simp; first | done | with_reducible rfl
     try simp only [Act.put, List.setIfInBounds_toArray, List.set_cons_zero, List.set_cons_succ]
     refine take_at (i := 25) (d := 45) (v := undef) rfl (by kernel_rfl) (hy := .inr ⟨by kernel_rfl, rfl⟩) (h := ?_)
     try simp only [Act.put, List.setIfInBounds_toArray, List.set_cons_zero, List.set_cons_succ]
     refine take_at (i := 26) (d := 46) (v := undef) rfl (by kernel_rfl) (hy := .inr ⟨by kernel_rfl, rfl⟩) (h := ?_)
     try simp only [Act.put, List.setIfInBounds_toArray, List.set_cons_zero, List.set_cons_succ]
     refine take_at (i := 27) (d := 47) (v := undef) rfl (by kernel_rfl) (hy := .inr ⟨by kernel_rfl, rfl⟩) (h := ?_)
     try simp only [Act.put, List.setIfInBounds_toArray, List.set_cons_zero, List.set_cons_succ]
     refine take_at (i := 28) (d := 48) (v := undef) rfl (by kernel_rfl) (hy := .inr ⟨by kernel_rfl, rfl⟩) (h := ?_)
     try simp only [Act.put, List.setIfInBounds_toArray, List.set_cons_zero, List.set_cons_succ]
     refine take_at (i := 29) (d := 49) (v := undef) rfl (by kernel_rfl) (hy := .inr ⟨by kernel_rfl, rfl⟩) (h := ?_)
     try simp only [Act.put, List.setIfInBounds_toArray, List.set_cons_zero, List.set_cons_succ]
     refine take_at (i := 30) (d := 50) (v := undef) rfl (by kernel_rfl) (hy := .inr ⟨by kernel_rfl, rfl⟩) (h := ?_)
     try simp only [Act.put, List.setIfInBounds_toArray, List.set_cons_zero, List.set_cons_succ]
     refine take_at (i := 31) (d := 51) (v := undef) rfl (by kernel_rfl) (hy := .inr ⟨by kernel_rfl, rfl⟩) (h := ?_)
     try simp only [Act.put, List.setIfInBounds_toArray, List.set_cons_zero, List.set_cons_succ]
     refine take_at (i := 32) (d := 52) (v := undef) rfl (by kernel_rfl) (hy := .inr ⟨by kernel_rfl, rfl⟩) (h := ?_)
     try simp only [Act.put, List.setIfInBounds_toArray, List.set_cons_zero, List.set_cons_succ]
     refine take_at (i := 33) (d := 53) (v := undef) rfl (by kernel_rfl) (hy := .inr ⟨by kernel_rfl, rfl⟩) (h := ?_)
     try simp only [Act.put, List.setIfInBounds_toArray, List.set_cons_zero, List.set_cons_succ]
     refine take_at (i := 34) (d := 54) (v := undef) rfl (by kernel_rfl) (hy := .inr ⟨by kernel_rfl, rfl⟩) (h := ?_)
     try simp only [Act.put, List.setIfInBounds_toArray, List.set_cons_zero, List.set_cons_succ]
     refine take_at (i := 35) (d := 55) (v := undef) rfl (by kernel_rfl) (hy := .inr ⟨by kernel_rfl, rfl⟩) (h := ?_)
     try simp only [Act.put, List.setIfInBounds_toArray, List.set_cons_zero, List.set_cons_succ]
     refine take_at (i := 36) (d := 56) (v := undef) rfl (by kernel_rfl) (hy := .inr ⟨by kernel_rfl, rfl⟩) (h := ?_)
     try simp only [Act.put, List.setIfInBounds_toArray, List.set_cons_zero, List.set_cons_succ]
     refine take_at (i := 37) (d := 57) (v := undef) rfl (by kernel_rfl) (hy := .inr ⟨by kernel_rfl, rfl⟩) (h := ?_)
     try simp only [Act.put, List.setIfInBounds_toArray, List.set_cons_zero, List.set_cons_succ]
     refine take_at (i := 38) (d := 58) (v := ?_) rfl (by kernel_rfl) (hy := .inl ⟨by kernel_rfl, ?_⟩) (h := ?_)
     rotate_left
     ·intro W hSw; (try dsimp only at hSw); go_simp; first | done | with_reducible rfl
     try simp only [Act.put, List.setIfInBounds_toArray, List.set_cons_zero, List.set_cons_succ]
     refine wpAnyH_done (by kernel_rfl) ?_ _
     go_wp2_with fail
     go_ret
     exact ⟨_, rfl, HALL.out _ HS.out⟩
    have m3a : decide (3 < rm) = false := decide_eq_false m3
    cases vt with
    | false =>
     refine wp_region_held_drew (S := (fun W : World => Below wx.heap.size wx W)) (by kernel_rfl) ?_ (fun hHeld => ?_)
     ·(try dsimp only); exact HS.out
     refine take_at (i := 0) (d := 20) (v := ?_) rfl (by kernel_rfl) (hy := .inl ⟨by kernel_rfl, ?_⟩) (h := ?_)
     rotate_left
     ·intro W hSw; (try dsimp only at hSw); go_simp; first | done | with_reducible rfl
     try simp only [Act.put, List.setIfInBounds_toArray, List.set_cons_zero, List.set_cons_succ]
     refine take_at (i := 1) (d := 21) (v := ?_) rfl (by kernel_rfl) (hy := .inl ⟨by kernel_rfl, ?_⟩) (h := ?_)
     rotate_left
     ·intro W hSw
      try dsimp only at hSw
      have hz8 := HK.out.below hSw HK.out.lt
      have k0 := hz8.cell 0
      have k1 := hz8.cell 1
      have k2 := hz8.cell 2
      go_simp
      first | done | with_reducible rfl
     try simp only [Act.put, List.setIfInBounds_toArray, List.set_cons_zero, List.set_cons_succ]
     refine take_at (i := 2) (d := 22) (v := ?_) rfl (by kernel_rfl) (hy := .inl ⟨by kernel_rfl, ?_⟩) (h := ?_)
     rotate_left
     ·intro W hSw; (try dsimp only at hSw); go_simp; first | done | with_reducible rfl
     try simp only [Act.put, List.setIfInBounds_toArray, List.set_cons_zero, List.set_cons_succ]
     refine wpAnyH_ready (rs := [3]) (by kernel_rfl) (by simp) (AllReadyH.cons rfl (fun K hK => ?_) AllReadyH.nil)
     go_simp
     rw [wpath_cat]
     go_at_call 93
     refine (rpath_any (wP rp) _ (by have := HP4.out; unfold wP; simp; omega)).mono ?_
     rw [HPT.out]
     rintro e wn ⟨rfl, hb⟩
     replace HS := Lib.hid (HS.out.trans (hb.mono HS.out.size))
     clear hb
     try go_wp2_with fail
     refine hK.out _ _ ?_ (fun hHeld => ?_)
     ·(try dsimp only); exact HS.out
     clear hK K
     try simp only [Act.put, List.setIfInBounds_toArray, List.set_cons_zero, List.set_cons_succ]
     refine take_at (i := 4) (d := 24) (v := ?_) rfl (by kernel_rfl) (hy := .inl ⟨by kernel_rfl, ?_⟩) (h := ?_)
     rotate_left
     ·intro W hSw; (try dsimp only at hSw); go_simp; first | done | with_reducible rfl
     try simp only [Act.put, List.setIfInBounds_toArray, List.set_cons_zero, List.set_cons_succ]
     refine take_at (i := 5) (d := 25) (v := ?_) rfl (by kernel_rfl) (hy := .inl ⟨by kernel_rfl, ?_⟩) (h := ?_)
     rotate_left
     ·intro W hSw; (try dsimp only at hSw); go_simp; first | done | with_reducible rfl
     try simp only [Act.put, List.setIfInBounds_toArray, List.set_cons_zero, List.set_cons_succ]
     refine take_at (i := 6) (d := 26) (v := ?_) rfl (by kernel_rfl) (hy := .inl ⟨by kernel_rfl, ?_⟩) (h := ?_)
     rotate_left
     ·intro W hSw; (try dsimp only at hSw); go_simp; first | done | with_reducible rfl
     try simp only [Act.put, List.setIfInBounds_toArray, List.set_cons_zero, List.set_cons_succ]
     refine take_at (i := 7) (d := 27) (v := ?_) rfl (by kernel_rfl) (hy := .inl ⟨by kernel_rfl, ?_⟩) (h := ?_)
     rotate_left
     ·intro W hSw; (try dsimp only at hSw); go_simp; first | done | with_reducible rfl
     try simp only [Act.put, List.setIfInBounds_toArray, List.set_cons_zero, List.set_cons_succ]
     refine take_at (i := 8) (d := 28) (v := ?_) rfl (by kernel_rfl) (hy := .inl ⟨by kernel_rfl, ?_⟩) (h := ?_)
     rotate_left
     ·intro W hSw
      try dsimp only at hSw
      have hz8 := HK.out.below hSw HK.out.lt
      have k0 := hz8.cell 0
      have k1 := hz8.cell 1
      have k2 := hz8.cell 2
      go_simp
      first | done | with_reducible rfl
     try simp only [Act.put, List.setIfInBounds_toArray, List.set_cons_zero, List.set_cons_succ]
     refine take_at (i := 9) (d := 29) (v := ?_) rfl (by kernel_rfl) (hy := .inl ⟨by kernel_rfl, ?_⟩) (h := ?_)
     rotate_left
     ·intro W hSw; (try dsimp only at hSw); go_simp; first | done | with_reducible rfl
     try simp only [Act.put, List.setIfInBounds_toArray, List.set_cons_zero, List.set_cons_succ]
     refine take_at (i := 10) (d := 30) (v := ?_) rfl (by kernel_rfl) (hy := .inl ⟨by kernel_rfl, ?_⟩) (h := ?_)
     rotate_left
     ·intro W hSw; (try dsimp only at hSw); go_simp; first | done | with_reducible rfl
     try simp only [Act.put, List.setIfInBounds_toArray, List.set_cons_zero, List.set_cons_succ]
     refine take_at (i := 11) (d := 31) (v := ?_) rfl (by kernel_rfl) (hy := .inl ⟨by kernel_rfl, ?_⟩) (h := ?_)
     rotate_left
     ·intro W hSw; (try dsimp only at hSw); go_simp; first | done | with_reducible rfl
     try simp only [Act.put, List.setIfInBounds_toArray, List.set_cons_zero, List.set_cons_succ]
     refine take_at (i := 12) (d := 32) (v := ?_) rfl (by kernel_rfl) (hy := .inl ⟨by kernel_rfl, ?_⟩) (h := ?_)
     rotate_left
     ·intro W hSw; (try dsimp only at hSw); go_simp; first | done | with_reducible rfl
     try simp only [Act.put, List.setIfInBounds_toArray, List.set_cons_zero, List.set_cons_succ]
     refine take_at (i := 13) (d := 33) (v := ?_) rfl (by kernel_rfl) (hy := .inl ⟨by kernel_rfl, ?_⟩) (h := ?_)
     rotate_left
     ·intro W hSw; (try dsimp only at hSw); go_simp; first | done | with_reducible rfl
     try simp only [Act.put, List.setIfInBounds_toArray, List.set_cons_zero, List.set_cons_succ]
     refine take_at (i := 14) (d := 34) (v := ?_) rfl (by kernel_rfl) (hy := .inl ⟨by kernel_rfl, ?_⟩) (h := ?_)
     rotate_left
     ·intro W hSw
      try dsimp only at hSw
      have hz8 := HK.out.below hSw HK.out.lt
      have k0 := hz8.cell 0
      have k1 := hz8.cell 1
      have k2 := hz8.cell 2
      go_simp
      first | done | with_reducible rfl
     try simp only [Act.put, List.setIfInBounds_toArray, List.set_cons_zero, List.set_cons_succ]
     refine take_at (i := 15) (d := 35) (v := ?_) rfl (by kernel_rfl) (hy := .inl ⟨by kernel_rfl, ?_⟩) (h := ?_)
     rotate_left
     ·intro W hSw; (try dsimp only at hSw); go_simp; first | done | with_reducible rfl
     try simp only [Act.put, List.setIfInBounds_toArray, List.set_cons_zero, List.set_cons_succ]
     refine take_at (i := 16) (d := 36) (v := ?_) rfl (by kernel_rfl) (hy := .inl ⟨by kernel_rfl, ?_⟩) (h := ?_)
     rotate_left
     ·intro W hSw; (try dsimp only at hSw); go_simp; first | done | with_reducible rfl
     try simp only [Act.put, List.setIfInBounds_toArray, List.set_cons_zero, List.set_cons_succ]
     refine take_at (i := 17) (d := 37) (v := ?_) rfl (by kernel_rfl) (hy := .inl ⟨by kernel_rfl, ?_⟩) (h := ?_)
     rotate_left
     ·intro W hSw; (try dsimp only at hSw); go_simp; first | done | with_reducible rfl
     try simp only [Act.put, List.setIfInBounds_toArray, List.set_cons_zero, List.set_cons_succ]
     refine take_at (i := 18) (d := 38) (v := ?_) rfl (by kernel_rfl) (hy := .inl ⟨by kernel_rfl, ?_⟩) (h := ?_)
     rotate_left
     ·intro W hSw; (try dsimp only at hSw); go_simp; first | done | with_reducible rfl
     try simp only [Act.put, List.setIfInBounds_toArray, List.set_cons_zero, List.set_cons_succ]
     refine take_at (i := 19) (d := 39) (v := ?_) rfl (by kernel_rfl) (hy := .inl ⟨by kernel_rfl, ?_⟩) (h := ?_)
     rotate_left
     ·intro W hSw; (try dsimp only at hSw); go_simp; first | done | with_reducible rfl
     try simp only [Act.put, List.setIfInBounds_toArray, List.set_cons_zero, List.set_cons_succ]
     refine take_at (i := 20) (d := 40) (v := ?_) rfl (by kernel_rfl) (hy := .inl ⟨by kernel_rfl, ?_⟩) (h := ?_)
     rotate_left
     ·intro W hSw
      try dsimp only at hSw
      have hz8 := HK.out.below hSw HK.out.lt
      have k0 := hz8.cell 0
      have k1 := hz8.cell 1
      have k2 := hz8.cell 2
      go_simp
      first | done | with_reducible rfl
     try simp only [Act.put, List.setIfInBounds_toArray, List.set_cons_zero, List.set_cons_succ]
     refine wpAnyH_ready (rs := [21]) (by kernel_rfl) (by simp) (AllReadyH.cons rfl (fun K hK => ?_) AllReadyH.nil)
     go_simp
     go_at_call 94
     refine (Ob.rvalid_all ri _ (by have := HI4.out; omega)).mono ?_
     rw [HVT.out]
     rintro e wn ⟨rfl, hb⟩
     replace HS := Lib.hid (HS.out.trans (hb.mono HS.out.size))
     clear hb
     try go_wp2_with fail
     refine hK.out _ _ ?_ (fun hHeld => ?_)
     ·(try dsimp only); exact HS.out
     clear hK K
     try simp only [Act.put, List.setIfInBounds_toArray, List.set_cons_zero, List.set_cons_succ]
     refine take_at (i := 22) (d := 42) (v := ?_) rfl (by kernel_rfl) (hy := .inl ⟨by kernel_rfl, ?_⟩) (h := ?_)
     rotate_left
     ·intro W hSw; (try dsimp only at hSw); go_simp; first | done | with_reducible rfl
     try simp only [Act.put, List.setIfInBounds_toArray, List.set_cons_zero, List.set_cons_succ]
     refine take_at (i := 23) (d := 43) (v := ?_) rfl (by kernel_rfl) (hy := .inl ⟨by kernel_rfl, ?_⟩) (h := ?_)
     rotate_left
     ·intro W hSw; (try dsimp only at hSw); go_simp; first | done | with_reducible rfl
     try simp only [Act.put, List.setIfInBounds_toArray, List.set_cons_zero, List.set_cons_succ]
     refine take_at (i := 24) (d := 44) (v := ?_) rfl (by kernel_rfl) (hy := .inl ⟨by kernel_rfl, ?_⟩) (h := ?_)
     rotate_left
     ·intro W hSw; (try dsimp only at hSw); go_simp; first | done | with_reducible rfl
     try simp only [Act.put, List.setIfInBounds_toArray, List.set_cons_zero, List.set_cons_succ]
     refine take_at (i := 25) (d := 45) (v := undef) rfl (by kernel_rfl) (hy := .inr ⟨by kernel_rfl, rfl⟩) (h := ?_)
     try simp only [Act.put, List.setIfInBounds_toArray, List.set_cons_zero, List.set_cons_succ]
     refine take_at (i := 26) (d := 46) (v := undef) rfl (by kernel_rfl) (hy := .inr ⟨by kernel_rfl, rfl⟩) (h := ?_)
     try simp only [Act.put, List.setIfInBounds_toArray, List.set_cons_zero, List.set_cons_succ]
     refine take_at (i := 27) (d := 47) (v := undef) rfl (by kernel_rfl) (hy := .inr ⟨by kernel_rfl, rfl⟩) (h := ?_)
     try simp only [Act.put, List.setIfInBounds_toArray, List.set_cons_zero, List.set_cons_succ]
     refine take_at (i := 28) (d := 48) (v := undef) rfl (by kernel_rfl) (hy := .inr ⟨by kernel_rfl, rfl⟩) (h := ?_)
     try simp only [Act.put, List.setIfInBounds_toArray, List.set_cons_zero, List.set_cons_succ]
     refine take_at (i := 29) (d := 49) (v := undef) rfl (by kernel_rfl) (hy := .inr ⟨by kernel_rfl, rfl⟩) (h := ?_)
     try simp only [Act.put, List.setIfInBounds_toArray, List.set_cons_zero, List.set_cons_succ]
     refine take_at (i := 30) (d := 50) (v := undef) rfl (by kernel_rfl) (hy := .inr ⟨by kernel_rfl, rfl⟩) (h := ?_)
     try simp only [Act.put, List.setIfInBounds_toArray, List.set_cons_zero, List.set_cons_succ]
     refine take_at (i := 31) (d := 51) (v := undef) rfl (by kernel_rfl) (hy := .inr ⟨by kernel_rfl, rfl⟩) (h := ?_)
     try simp only [Act.put, List.setIfInBounds_toArray, List.set_cons_zero, List.set_cons_succ]
     refine take_at (i := 32) (d := 52) (v := undef) rfl (by kernel_rfl) (hy := .inr ⟨by kernel_rfl, rfl⟩) (h := ?_)
     try simp only [Act.put, List.setIfInBounds_toArray, List.set_cons_zero, List.set_cons_succ]
     refine take_at (i := 33) (d := 53) (v := undef) rfl (by kernel_rfl) (hy := .inr ⟨by kernel_rfl, rfl⟩) (h := ?_)
     try simp only [Act.put, List.setIfInBounds_toArray, List.set_cons_zero, List.set_cons_succ]
     refine take_at (i := 34) (d := 54) (v := undef) rfl (by kernel_rfl) (hy := .inr ⟨by kernel_rfl, rfl⟩) (h := ?_)
     try simp only [Act.put, List.setIfInBounds_toArray, List.set_cons_zero, List.set_cons_succ]
     refine take_at (i := 35) (d := 55) (v := undef) rfl (by kernel_rfl) (hy := .inr ⟨by kernel_rfl, rfl⟩) (h := ?_)
     try simp only [Act.put, List.setIfInBounds_toArray, List.set_cons_zero, List.set_cons_succ]
     refine take_at (i := 36) (d := 56) (v := undef) rfl (by kernel_rfl) (hy := .inr ⟨by kernel_rfl, rfl⟩) (h := ?_)
     try simp only [Act.put, List.setIfInBounds_toArray, List.set_cons_zero, List.set_cons_succ]
     refine take_at (i := 37) (d := 57) (v := undef) rfl (by kernel_rfl) (hy := .inr ⟨by kernel_rfl, rfl⟩) (h := ?_)
     try simp only [Act.put, List.setIfInBounds_toArray, List.set_cons_zero, List.set_cons_succ]
     refine take_at (i := 38) (d := 58) (v := ?_) rfl (by kernel_rfl) (hy := .inl ⟨by kernel_rfl, ?_⟩) (h := ?_)
     rotate_left
     ·intro W hSw; (try dsimp only at hSw); go_simp; first | done | with_reducible rfl
     try simp only [Act.put, List.setIfInBounds_toArray, List.set_cons_zero, List.set_cons_succ]
     refine wpAnyH_done (by kernel_rfl) ?_ _
     go_wp2_with fail
     go_ret
     exact ⟨_, rfl, HALL.out _ HS.out⟩
    | true =>
     cases i with
     | zero =>
      refine wp_region_held_drew (S := (fun W : World => Below wx.heap.size wx W)) (by kernel_rfl) ?_ (fun hHeld => ?_)
      ·(try dsimp only); exact HS.out
      refine take_at (i := 0) (d := 20) (v := ?_) rfl (by kernel_rfl) (hy := .inl ⟨by kernel_rfl, ?_⟩) (h := ?_)
      rotate_left
      ·intro W hSw; (try dsimp only at hSw); go_simp; first | done | with_reducible rfl
      try simp only [Act.put, List.setIfInBounds_toArray, List.set_cons_zero, List.set_cons_succ]
      refine take_at (i := 1) (d := 21) (v := ?_) rfl (by kernel_rfl) (hy := .inl ⟨by kernel_rfl, ?_⟩) (h := ?_)
      rotate_left
      ·intro W hSw
       try dsimp only at hSw
       have hz8 := HK.out.below hSw HK.out.lt
       have k0 := hz8.cell 0
       have k1 := hz8.cell 1
       have k2 := hz8.cell 2
       go_simp
       first | done | with_reducible rfl
      try simp only [Act.put, List.setIfInBounds_toArray, List.set_cons_zero, List.set_cons_succ]
      refine take_at (i := 2) (d := 22) (v := ?_) rfl (by kernel_rfl) (hy := .inl ⟨by kernel_rfl, ?_⟩) (h := ?_)
      rotate_left
      ·intro W hSw; (try dsimp only at hSw); go_simp; first | done | with_reducible rfl
      try simp only [Act.put, List.setIfInBounds_toArray, List.set_cons_zero, List.set_cons_succ]
      refine wpAnyH_ready (rs := [3]) (by kernel_rfl) (by simp) (AllReadyH.cons rfl (fun K hK => ?_) AllReadyH.nil)
      go_simp
      rw [wpath_cat]
      go_at_call 93
      refine (rpath_any (wP rp) _ (by have := HP4.out; unfold wP; simp; omega)).mono ?_
      rw [HPT.out]
      rintro e wn ⟨rfl, hb⟩
      replace HS := Lib.hid (HS.out.trans (hb.mono HS.out.size))
      clear hb
      try go_wp2_with fail
      refine hK.out _ _ ?_ (fun hHeld => ?_)
      ·(try dsimp only); exact HS.out
      clear hK K
      try simp only [Act.put, List.setIfInBounds_toArray, List.set_cons_zero, List.set_cons_succ]
      refine take_at (i := 4) (d := 24) (v := ?_) rfl (by kernel_rfl) (hy := .inl ⟨by kernel_rfl, ?_⟩) (h := ?_)
      rotate_left
      ·intro W hSw; (try dsimp only at hSw); go_simp; first | done | with_reducible rfl
      try simp only [Act.put, List.setIfInBounds_toArray, List.set_cons_zero, List.set_cons_succ]
      refine take_at (i := 5) (d := 25) (v := ?_) rfl (by kernel_rfl) (hy := .inl ⟨by kernel_rfl, ?_⟩) (h := ?_)
      rotate_left
      ·intro W hSw; (try dsimp only at hSw); go_simp; first | done | with_reducible rfl
      try simp only [Act.put, List.setIfInBounds_toArray, List.set_cons_zero, List.set_cons_succ]
      refine take_at (i := 6) (d := 26) (v := ?_) rfl (by kernel_rfl) (hy := .inl ⟨by kernel_rfl, ?_⟩) (h := ?_)
      rotate_left
      ·intro W hSw; (try dsimp only at hSw); go_simp; first | done | with_reducible rfl
      try simp only [Act.put, List.setIfInBounds_toArray, List.set_cons_zero, List.set_cons_succ]
      refine take_at (i := 7) (d := 27) (v := ?_) rfl (by kernel_rfl) (hy := .inl ⟨by kernel_rfl, ?_⟩) (h := ?_)
      rotate_left
      ·intro W hSw; (try dsimp only at hSw); go_simp; first | done | with_reducible rfl
      try simp only [Act.put, List.setIfInBounds_toArray, List.set_cons_zero, List.set_cons_succ]
      refine take_at (i := 8) (d := 28) (v := ?_) rfl (by kernel_rfl) (hy := .inl ⟨by kernel_rfl, ?_⟩) (h := ?_)
      rotate_left
      ·intro W hSw
       try dsimp only at hSw
       have hz8 := HK.out.below hSw HK.out.lt
       have k0 := hz8.cell 0
       have k1 := hz8.cell 1
       have k2 := hz8.cell 2
       go_simp
       first | done | with_reducible rfl
      try simp only [Act.put, List.setIfInBounds_toArray, List.set_cons_zero, List.set_cons_succ]
      refine take_at (i := 9) (d := 29) (v := ?_) rfl (by kernel_rfl) (hy := .inl ⟨by kernel_rfl, ?_⟩) (h := ?_)
      rotate_left
      ·intro W hSw; (try dsimp only at hSw); go_simp; first | done | with_reducible rfl
      try simp only [Act.put, List.setIfInBounds_toArray, List.set_cons_zero, List.set_cons_succ]
      refine take_at (i := 10) (d := 30) (v := ?_) rfl (by kernel_rfl) (hy := .inl ⟨by kernel_rfl, ?_⟩) (h := ?_)
      rotate_left
      ·intro W hSw; (try dsimp only at hSw); go_simp; first | done | with_reducible rfl
      try simp only [Act.put, List.setIfInBounds_toArray, List.set_cons_zero, List.set_cons_succ]
      refine take_at (i := 11) (d := 31) (v := ?_) rfl (by kernel_rfl) (hy := .inl ⟨by kernel_rfl, ?_⟩) (h := ?_)
      rotate_left
      ·intro W hSw; (try dsimp only at hSw); go_simp; first | done | with_reducible rfl
      try simp only [Act.put, List.setIfInBounds_toArray, List.set_cons_zero, List.set_cons_succ]
      refine take_at (i := 12) (d := 32) (v := ?_) rfl (by kernel_rfl) (hy := .inl ⟨by kernel_rfl, ?_⟩) (h := ?_)
      rotate_left
      ·intro W hSw; (try dsimp only at hSw); go_simp; first | done | with_reducible rfl
      try simp only [Act.put, List.setIfInBounds_toArray, List.set_cons_zero, List.set_cons_succ]
      refine take_at (i := 13) (d := 33) (v := ?_) rfl (by kernel_rfl) (hy := .inl ⟨by kernel_rfl, ?_⟩) (h := ?_)
      rotate_left
      ·intro W hSw; (try dsimp only at hSw); go_simp; first | done | with_reducible rfl
      try simp only [Act.put, List.setIfInBounds_toArray, List.set_cons_zero, List.set_cons_succ]
      refine take_at (i := 14) (d := 34) (v := ?_) rfl (by kernel_rfl) (hy := .inl ⟨by kernel_rfl, ?_⟩) (h := ?_)
      rotate_left
      ·intro W hSw
       try dsimp only at hSw
       have hz8 := HK.out.below hSw HK.out.lt
       have k0 := hz8.cell 0
       have k1 := hz8.cell 1
       have k2 := hz8.cell 2
       go_simp
       first | done | with_reducible rfl
      try simp only [Act.put, List.setIfInBounds_toArray, List.set_cons_zero, List.set_cons_succ]
      refine take_at (i := 15) (d := 35) (v := ?_) rfl (by kernel_rfl) (hy := .inl ⟨by kernel_rfl, ?_⟩) (h := ?_)
      rotate_left
      ·intro W hSw; (try dsimp only at hSw); go_simp; first | done | with_reducible rfl
      try simp only [Act.put, List.setIfInBounds_toArray, List.set_cons_zero, List.set_cons_succ]
      refine take_at (i := 16) (d := 36) (v := ?_) rfl (by kernel_rfl) (hy := .inl ⟨by kernel_rfl, ?_⟩) (h := ?_)
      rotate_left
      ·intro W hSw; (try dsimp only at hSw); go_simp; first | done | with_reducible rfl
      try simp only [Act.put, List.setIfInBounds_toArray, List.set_cons_zero, List.set_cons_succ]
      refine take_at (i := 17) (d := 37) (v := ?_) rfl (by kernel_rfl) (hy := .inl ⟨by kernel_rfl, ?_⟩) (h := ?_)
      rotate_left
      ·intro W hSw; (try dsimp only at hSw); go_simp; first | done | with_reducible rfl
      try simp only [Act.put, List.setIfInBounds_toArray, List.set_cons_zero, List.set_cons_succ]
      refine take_at (i := 18) (d := 38) (v := ?_) rfl (by kernel_rfl) (hy := .inl ⟨by kernel_rfl, ?_⟩) (h := ?_)
      rotate_left
      ·intro W hSw; (try dsimp only at hSw); go_simp; first | done | with_reducible rfl
      try simp only [Act.put, List.setIfInBounds_toArray, List.set_cons_zero, List.set_cons_succ]
      refine take_at (i := 19) (d := 39) (v := ?_) rfl (by kernel_rfl) (hy := .inl ⟨by kernel_rfl, ?_⟩) (h := ?_)
      rotate_left
      ·intro W hSw; (try dsimp only at hSw); go_simp; first | done | with_reducible rfl
      try simp only [Act.put, List.setIfInBounds_toArray, List.set_cons_zero, List.set_cons_succ]
      refine take_at (i := 20) (d := 40) (v := ?_) rfl (by kernel_rfl) (hy := .inl ⟨by kernel_rfl, ?_⟩) (h := ?_)
      rotate_left
      ·intro W hSw
       try dsimp only at hSw
       have hz8 := HK.out.below hSw HK.out.lt
       have k0 := hz8.cell 0
       have k1 := hz8.cell 1
       have k2 := hz8.cell 2
       go_simp
       first | done | with_reducible rfl
      try simp only [Act.put, List.setIfInBounds_toArray, List.set_cons_zero, List.set_cons_succ]
      refine wpAnyH_ready (rs := [21]) (by kernel_rfl) (by simp) (AllReadyH.cons rfl (fun K hK => ?_) AllReadyH.nil)
      go_simp
      go_at_call 94
      refine (Ob.rvalid_all ri _ (by have := HI4.out; omega)).mono ?_
      rw [HVT.out]
      rintro e wn ⟨rfl, hb⟩
      replace HS := Lib.hid (HS.out.trans (hb.mono HS.out.size))
      clear hb
      try go_wp2_with fail
      refine hK.out _ _ ?_ (fun hHeld => ?_)
      ·(try dsimp only); exact HS.out
      clear hK K
      try simp only [Act.put, List.setIfInBounds_toArray, List.set_cons_zero, List.set_cons_succ]
      refine take_at (i := 22) (d := 42) (v := ?_) rfl (by kernel_rfl) (hy := .inl ⟨by kernel_rfl, ?_⟩) (h := ?_)
      rotate_left
      ·intro W hSw; (try dsimp only at hSw); go_simp; first | done | with_reducible rfl
      try simp only [Act.put, List.setIfInBounds_toArray, List.set_cons_zero, List.set_cons_succ]
      refine take_at (i := 23) (d := 43) (v := ?_) rfl (by kernel_rfl) (hy := .inl ⟨by kernel_rfl, ?_⟩) (h := ?_)
      rotate_left
      ·intro W hSw; (try dsimp only at hSw); go_simp; first | done | with_reducible rfl
      try simp only [Act.put, List.setIfInBounds_toArray, List.set_cons_zero, List.set_cons_succ]
      refine take_at (i := 24) (d := 44) (v := ?_) rfl (by kernel_rfl) (hy := .inl ⟨by kernel_rfl, ?_⟩) (h := ?_)
      rotate_left
      ·intro W hSw; (try dsimp only at hSw); go_simp; first | done | with_reducible rfl
      try simp only [Act.put, List.setIfInBounds_toArray, List.set_cons_zero, List.set_cons_succ]
      refine take_at (i := 25) (d := 45) (v := ?_) rfl (by kernel_rfl) (hy := .inl ⟨by kernel_rfl, ?_⟩) (h := ?_)
      rotate_left
      ·intro W hSw; (try dsimp only at hSw); go_simp; first | done | with_reducible rfl
      try simp only [Act.put, List.setIfInBounds_toArray, List.set_cons_zero, List.set_cons_succ]
      refine take_at (i := 26) (d := 46) (v := ?_) rfl (by kernel_rfl) (hy := .inl ⟨by kernel_rfl, ?_⟩) (h := ?_)
      rotate_left
      ·intro W hSw; (try dsimp only at hSw); go_simp; first | done | with_reducible rfl
      try simp only [Act.put, List.setIfInBounds_toArray, List.set_cons_zero, List.set_cons_succ]
      refine take_at (i := 27) (d := 47) (v := ?_) rfl (by kernel_rfl) (hy := .inl ⟨by kernel_rfl, ?_⟩) (h := ?_)
      rotate_left
      ·intro W hSw; (try dsimp only at hSw); go_simp; first | done | with_reducible rfl
      try simp only [Act.put, List.setIfInBounds_toArray, List.set_cons_zero, List.set_cons_succ]
      refine take_at (i := 28) (d := 48) (v := undef) rfl (by kernel_rfl) (hy := .inr ⟨by kernel_rfl, rfl⟩) (h := ?_)
      try simp only [Act.put, List.setIfInBounds_toArray, List.set_cons_zero, List.set_cons_succ]
      refine take_at (i := 29) (d := 49) (v := undef) rfl (by kernel_rfl) (hy := .inr ⟨by kernel_rfl, rfl⟩) (h := ?_)
      try simp only [Act.put, List.setIfInBounds_toArray, List.set_cons_zero, List.set_cons_succ]
      refine take_at (i := 30) (d := 50) (v := undef) rfl (by kernel_rfl) (hy := .inr ⟨by kernel_rfl, rfl⟩) (h := ?_)
      try simp only [Act.put, List.setIfInBounds_toArray, List.set_cons_zero, List.set_cons_succ]
      refine take_at (i := 31) (d := 51) (v := undef) rfl (by kernel_rfl) (hy := .inr ⟨by kernel_rfl, rfl⟩) (h := ?_)
      try simp only [Act.put, List.setIfInBounds_toArray, List.set_cons_zero, List.set_cons_succ]
      refine take_at (i := 32) (d := 52) (v := undef) rfl (by kernel_rfl) (hy := .inr ⟨by kernel_rfl, rfl⟩) (h := ?_)
      try simp only [Act.put, List.setIfInBounds_toArray, List.set_cons_zero, List.set_cons_succ]
      refine take_at (i := 33) (d := 53) (v := undef) rfl (by kernel_rfl) (hy := .inr ⟨by kernel_rfl, rfl⟩) (h := ?_)
      try simp only [Act.put, List.setIfInBounds_toArray, List.set_cons_zero, List.set_cons_succ]
      refine take_at (i := 34) (d := 54) (v := undef) rfl (by kernel_rfl) (hy := .inr ⟨by kernel_rfl, rfl⟩) (h := ?_)
      try simp only [Act.put, List.setIfInBounds_toArray, List.set_cons_zero, List.set_cons_succ]
      refine take_at (i := 35) (d := 55) (v := undef) rfl (by kernel_rfl) (hy := .inr ⟨by kernel_rfl, rfl⟩) (h := ?_)
      try simp only [Act.put, List.setIfInBounds_toArray, List.set_cons_zero, List.set_cons_succ]
      refine take_at (i := 36) (d := 56) (v := undef) rfl (by kernel_rfl) (hy := .inr ⟨by kernel_rfl, rfl⟩) (h := ?_)
      try simp only [Act.put, List.setIfInBounds_toArray, List.set_cons_zero, List.set_cons_succ]
      refine take_at (i := 37) (d := 57) (v := ?_) rfl (by kernel_rfl) (hy := .inl ⟨by kernel_rfl, ?_⟩) (h := ?_)
      rotate_left
      ·intro W hSw; (try dsimp only at hSw); go_simp; first | done | with_reducible rfl
      try simp only [Act.put, List.setIfInBounds_toArray, List.set_cons_zero, List.set_cons_succ]
      refine take_at (i := 38) (d := 58) (v := ?_) rfl (by kernel_rfl) (hy := .inl ⟨by kernel_rfl, ?_⟩) (h := ?_)
      rotate_left
      ·intro W hSw; (try dsimp only at hSw); go_simp; first | done | with_reducible rfl
      try simp only [Act.put, List.setIfInBounds_toArray, List.set_cons_zero, List.set_cons_succ]
      refine wpAnyH_done (by kernel_rfl) ?_ _
      have hz8 := HK.out.below HS.out HK.out.lt
      have k0 := hz8.cell 0
      go_wp2_with fail
      refine (rparents_any rp _ (by have := HP4.out; omega)).mono ?_
      rintro e wp ⟨pv, rfl, ho, hb⟩
      have HBP := Lib.hid (HALL.out _ (HS.out.trans (hb.mono HS.out.size)))
      obtain ⟨pA, pc, rfl, hp1, hp2⟩ := ho.length
      have HOP := Lib.hid ho.slv
      simp only [List.length_map] at hp1 HOP ⊢
      unfold maxLen at hp2
      obtain ⟨m, hm⟩ : ∃ m, (parentsL rp).length = m := ⟨_, rfl⟩
      have HM := Lib.hid hm
      rw [hm] at hp1 HOP ⊢
      clear hm ho hb hz8 k0
      go_wp2_with fail
      go_loopw [6] (fun y wr2 => ∃ k : Nat, k ≤ m ∧ y = .int .i64 (k : Int) ∧ Below wp.heap.size wp wr2) (fun y _ => m - (intOf y).toNat)
      case atStart => exact ⟨0, Nat.zero_le _, rfl, Below.refl _ _⟩
      case round =>
       obtain ⟨k, hk, rfl, hb⟩ := hrel
       have HB2 := Lib.hid hb
       clear hb
       have q0 : (0 : Int) ≤ (k : Int) := by omega
       by_cases hkm : k < m
       ·have q1 : (k : Int) < (m : Int) := by omega
        have hkl : k < (parentsL rp).length := by rw [HM.out]; exact hkm
        have kfd := field_mode
        have hov := HOP.out.below HB2.out
        obtain ⟨A7, c7, he, _, _, hrd⟩ := hov.len
        injection he with he1 he2 he3
        subst he1
        clear he2 he3
        simp only [List.length_map] at hrd
        have hkl' : k < ((parentsL rp).map Tx.str).length := by rw [List.length_map]; exact hkl
        have hta := texts_at (xs := (parentsL rp).map Tx.str) (by simpa using hrd) k hkl'
        obtain ⟨ad7, rfl, hcell⟩ := hta
        obtain ⟨x7, hx7⟩ : ∃ x, (parentsL rp)[k] = x := ⟨_, rfl⟩
        have hcell2 : wr.cell? (ad7.add k) = some (.string (Tx.str x7)) := by rw [hcell]; simp [hx7]
        clear hov hrd hkl' hcell hx7 hkl
        go_wp2_with fail
        refine (rget_any (.slice (some ad) n c) l x7 _ (H.out.below (HBP.out.trans (HB2.out.mono HBP.out.size)))).mono ?_
        rintro e w7 ⟨rfl, hb7⟩
        have HB7 := Lib.hid (HB2.out.trans (hb7.mono HB2.out.size))
        obtain ⟨gm, hgm⟩ : ∃ y, getM l x7 = y := ⟨_, rfl⟩
        rw [hgm]
        obtain ⟨gm, gi⟩ := gm
        unfold entV
        dsimp only
        clear hb7 hcell2 hgm
        by_cases g0 : gm = 0
        ·subst g0
         go_wp2_with fail
         go_roundw
         case rel => exact ⟨k + 1, by omega, by go_num, HB7.out⟩
         case measure => simp [intOf]; omega
        ·have e0 : (gm != 0) = true := by simpa using g0
         go_wp2_with fail
         go_ret
         exact ⟨_, rfl, HBP.out.trans (HB7.out.mono HBP.out.size)⟩
       ·obtain rfl : k = m := by omega
        have HB3 := Lib.hid (HBP.out.trans (HB2.out.mono HBP.out.size))
        go_wp2_with fail
        go_roundw
        case rel => exact ⟨0 + 1, by omega, by go_num, HB3.out⟩
        case measure => simp [intOf]; omega
     | succ j =>
      have hjl : j < l.length := by have := HN.out; omega
      obtain ⟨q, hq⟩ : ∃ q, l[j] = q := ⟨_, rfl⟩
      have HGQ : Hid (l[j]? = some q) := by unfold Hid; rw [List.getElem?_eq_getElem hjl, hq]
      have j1 : (j : Int) < (n : Int) := by omega
      have j0 : (0 : Int) ≤ (j : Int) := by omega
      have jw : IntKind.i64.wrap (j : Int) = (j : Int) := by rw [IntKind.wrap_i64]; omega
      obtain ⟨tl, htl⟩ : ∃ t, (Op.bytesLess (Tx.str rp).toList (Tx.str q.path).toList || (Tx.str rp).toList == (Tx.str q.path).toList) = t := ⟨_, rfl⟩
      have HTL := Lib.hid htl
      clear htl
      clear hjl hq
      have HPRV : Hid (∀ W, Below wx.heap.size wx W → W.cell? (ad.add (j * 3)) = some (.string (Tx.str q.path))) := fun W hW => by
       have hr2 := (H.out.below (HALL.out W hW))
       obtain ⟨A9, c9, he9, _, _, _, hrd9⟩ := hr2
       injection he9 with he1 he2 he3
       subst he1
       obtain ⟨ad9, e9, y0, _, _⟩ := rows_at hrd9 rfl j q HGQ.out
       injection e9 with e9
       subst e9
       exact y0
      refine wp_region_held_drew (S := (fun W : World => Below wx.heap.size wx W)) (by kernel_rfl) ?_ (fun hHeld => ?_)
      ·(try dsimp only); exact HS.out
      refine take_at (i := 0) (d := 20) (v := ?_) rfl (by kernel_rfl) (hy := .inl ⟨by kernel_rfl, ?_⟩) (h := ?_)
      rotate_left
      ·intro W hSw; (try dsimp only at hSw); go_simp; first | done | with_reducible rfl
      try simp only [Act.put, List.setIfInBounds_toArray, List.set_cons_zero, List.set_cons_succ]
      refine take_at (i := 1) (d := 21) (v := ?_) rfl (by kernel_rfl) (hy := .inl ⟨by kernel_rfl, ?_⟩) (h := ?_)
      rotate_left
      ·intro W hSw
       try dsimp only at hSw
       have hz8 := HK.out.below hSw HK.out.lt
       have k0 := hz8.cell 0
       have k1 := hz8.cell 1
       have k2 := hz8.cell 2
       go_simp
       first | done | with_reducible rfl
      try simp only [Act.put, List.setIfInBounds_toArray, List.set_cons_zero, List.set_cons_succ]
      refine take_at (i := 2) (d := 22) (v := ?_) rfl (by kernel_rfl) (hy := .inl ⟨by kernel_rfl, ?_⟩) (h := ?_)
      rotate_left
      ·intro W hSw; (try dsimp only at hSw); go_simp; first | done | with_reducible rfl
      try simp only [Act.put, List.setIfInBounds_toArray, List.set_cons_zero, List.set_cons_succ]
      refine wpAnyH_ready (rs := [3]) (by kernel_rfl) (by simp) (AllReadyH.cons rfl (fun K hK => ?_) AllReadyH.nil)
      go_simp
      rw [wpath_cat]
      go_at_call 93
      refine (rpath_any (wP rp) _ (by have := HP4.out; unfold wP; simp; omega)).mono ?_
      rw [HPT.out]
      rintro e wn ⟨rfl, hb⟩
      replace HS := Lib.hid (HS.out.trans (hb.mono HS.out.size))
      clear hb
      try go_wp2_with fail
      refine hK.out _ _ ?_ (fun hHeld => ?_)
      ·(try dsimp only); exact HS.out
      clear hK K
      try simp only [Act.put, List.setIfInBounds_toArray, List.set_cons_zero, List.set_cons_succ]
      refine take_at (i := 4) (d := 24) (v := ?_) rfl (by kernel_rfl) (hy := .inl ⟨by kernel_rfl, ?_⟩) (h := ?_)
      rotate_left
      ·intro W hSw; (try dsimp only at hSw); go_simp; first | done | with_reducible rfl
      try simp only [Act.put, List.setIfInBounds_toArray, List.set_cons_zero, List.set_cons_succ]
      refine take_at (i := 5) (d := 25) (v := ?_) rfl (by kernel_rfl) (hy := .inl ⟨by kernel_rfl, ?_⟩) (h := ?_)
      rotate_left
      ·intro W hSw; (try dsimp only at hSw); go_simp; first | done | with_reducible rfl
      try simp only [Act.put, List.setIfInBounds_toArray, List.set_cons_zero, List.set_cons_succ]
      refine take_at (i := 6) (d := 26) (v := ?_) rfl (by kernel_rfl) (hy := .inl ⟨by kernel_rfl, ?_⟩) (h := ?_)
      rotate_left
      ·intro W hSw; (try dsimp only at hSw); go_simp; first | done | with_reducible rfl
      try simp only [Act.put, List.setIfInBounds_toArray, List.set_cons_zero, List.set_cons_succ]
      refine take_at (i := 7) (d := 27) (v := ?_) rfl (by kernel_rfl) (hy := .inl ⟨by kernel_rfl, ?_⟩) (h := ?_)
      rotate_left
      ·intro W hSw; (try dsimp only at hSw); go_simp; first | done | with_reducible rfl
      try simp only [Act.put, List.setIfInBounds_toArray, List.set_cons_zero, List.set_cons_succ]
      refine take_at (i := 8) (d := 28) (v := ?_) rfl (by kernel_rfl) (hy := .inl ⟨by kernel_rfl, ?_⟩) (h := ?_)
      rotate_left
      ·intro W hSw
       try dsimp only at hSw
       have hz8 := HK.out.below hSw HK.out.lt
       have k0 := hz8.cell 0
       have k1 := hz8.cell 1
       have k2 := hz8.cell 2
       go_simp
       first | done | with_reducible rfl
      try simp only [Act.put, List.setIfInBounds_toArray, List.set_cons_zero, List.set_cons_succ]
      refine take_at (i := 9) (d := 29) (v := ?_) rfl (by kernel_rfl) (hy := .inl ⟨by kernel_rfl, ?_⟩) (h := ?_)
      rotate_left
      ·intro W hSw; (try dsimp only at hSw); go_simp; first | done | with_reducible rfl
      try simp only [Act.put, List.setIfInBounds_toArray, List.set_cons_zero, List.set_cons_succ]
      refine take_at (i := 10) (d := 30) (v := ?_) rfl (by kernel_rfl) (hy := .inl ⟨by kernel_rfl, ?_⟩) (h := ?_)
      rotate_left
      ·intro W hSw; (try dsimp only at hSw); go_simp; first | done | with_reducible rfl
      try simp only [Act.put, List.setIfInBounds_toArray, List.set_cons_zero, List.set_cons_succ]
      refine take_at (i := 11) (d := 31) (v := ?_) rfl (by kernel_rfl) (hy := .inl ⟨by kernel_rfl, ?_⟩) (h := ?_)
      rotate_left
      ·intro W hSw; (try dsimp only at hSw); go_simp; first | done | with_reducible rfl
      try simp only [Act.put, List.setIfInBounds_toArray, List.set_cons_zero, List.set_cons_succ]
      refine take_at (i := 12) (d := 32) (v := ?_) rfl (by kernel_rfl) (hy := .inl ⟨by kernel_rfl, ?_⟩) (h := ?_)
      rotate_left
      ·intro W hSw; (try dsimp only at hSw); go_simp; first | done | with_reducible rfl
      try simp only [Act.put, List.setIfInBounds_toArray, List.set_cons_zero, List.set_cons_succ]
      refine take_at (i := 13) (d := 33) (v := ?_) rfl (by kernel_rfl) (hy := .inl ⟨by kernel_rfl, ?_⟩) (h := ?_)
      rotate_left
      ·intro W hSw; (try dsimp only at hSw); go_simp; first | done | with_reducible rfl
      try simp only [Act.put, List.setIfInBounds_toArray, List.set_cons_zero, List.set_cons_succ]
      refine take_at (i := 14) (d := 34) (v := ?_) rfl (by kernel_rfl) (hy := .inl ⟨by kernel_rfl, ?_⟩) (h := ?_)
      rotate_left
      ·intro W hSw
       try dsimp only at hSw
       have hz8 := HK.out.below hSw HK.out.lt
       have k0 := hz8.cell 0
       have k1 := hz8.cell 1
       have k2 := hz8.cell 2
       go_simp
       first | done | with_reducible rfl
      try simp only [Act.put, List.setIfInBounds_toArray, List.set_cons_zero, List.set_cons_succ]
      refine take_at (i := 15) (d := 35) (v := ?_) rfl (by kernel_rfl) (hy := .inl ⟨by kernel_rfl, ?_⟩) (h := ?_)
      rotate_left
      ·intro W hSw; (try dsimp only at hSw); go_simp; first | done | with_reducible rfl
      try simp only [Act.put, List.setIfInBounds_toArray, List.set_cons_zero, List.set_cons_succ]
      refine take_at (i := 16) (d := 36) (v := ?_) rfl (by kernel_rfl) (hy := .inl ⟨by kernel_rfl, ?_⟩) (h := ?_)
      rotate_left
      ·intro W hSw; (try dsimp only at hSw); go_simp; first | done | with_reducible rfl
      try simp only [Act.put, List.setIfInBounds_toArray, List.set_cons_zero, List.set_cons_succ]
      refine take_at (i := 17) (d := 37) (v := ?_) rfl (by kernel_rfl) (hy := .inl ⟨by kernel_rfl, ?_⟩) (h := ?_)
      rotate_left
      ·intro W hSw; (try dsimp only at hSw); go_simp; first | done | with_reducible rfl
      try simp only [Act.put, List.setIfInBounds_toArray, List.set_cons_zero, List.set_cons_succ]
      refine take_at (i := 18) (d := 38) (v := ?_) rfl (by kernel_rfl) (hy := .inl ⟨by kernel_rfl, ?_⟩) (h := ?_)
      rotate_left
      ·intro W hSw; (try dsimp only at hSw); go_simp; first | done | with_reducible rfl
      try simp only [Act.put, List.setIfInBounds_toArray, List.set_cons_zero, List.set_cons_succ]
      refine take_at (i := 19) (d := 39) (v := ?_) rfl (by kernel_rfl) (hy := .inl ⟨by kernel_rfl, ?_⟩) (h := ?_)
      rotate_left
      ·intro W hSw; (try dsimp only at hSw); go_simp; first | done | with_reducible rfl
      try simp only [Act.put, List.setIfInBounds_toArray, List.set_cons_zero, List.set_cons_succ]
      refine take_at (i := 20) (d := 40) (v := ?_) rfl (by kernel_rfl) (hy := .inl ⟨by kernel_rfl, ?_⟩) (h := ?_)
      rotate_left
      ·intro W hSw
       try dsimp only at hSw
       have hz8 := HK.out.below hSw HK.out.lt
       have k0 := hz8.cell 0
       have k1 := hz8.cell 1
       have k2 := hz8.cell 2
       go_simp
       first | done | with_reducible rfl
      try simp only [Act.put, List.setIfInBounds_toArray, List.set_cons_zero, List.set_cons_succ]
      refine wpAnyH_ready (rs := [21]) (by kernel_rfl) (by simp) (AllReadyH.cons rfl (fun K hK => ?_) AllReadyH.nil)
      go_simp
      go_at_call 94
      refine (Ob.rvalid_all ri _ (by have := HI4.out; omega)).mono ?_
      rw [HVT.out]
      rintro e wn ⟨rfl, hb⟩
      replace HS := Lib.hid (HS.out.trans (hb.mono HS.out.size))
      clear hb
      try go_wp2_with fail
      refine hK.out _ _ ?_ (fun hHeld => ?_)
      ·(try dsimp only); exact HS.out
      clear hK K
      try simp only [Act.put, List.setIfInBounds_toArray, List.set_cons_zero, List.set_cons_succ]
      refine take_at (i := 22) (d := 42) (v := ?_) rfl (by kernel_rfl) (hy := .inl ⟨by kernel_rfl, ?_⟩) (h := ?_)
      rotate_left
      ·intro W hSw; (try dsimp only at hSw); go_simp; first | done | with_reducible rfl
      try simp only [Act.put, List.setIfInBounds_toArray, List.set_cons_zero, List.set_cons_succ]
      refine take_at (i := 23) (d := 43) (v := ?_) rfl (by kernel_rfl) (hy := .inl ⟨by kernel_rfl, ?_⟩) (h := ?_)
      rotate_left
      ·intro W hSw; (try dsimp only at hSw); go_simp; first | done | with_reducible rfl
      try simp only [Act.put, List.setIfInBounds_toArray, List.set_cons_zero, List.set_cons_succ]
      refine take_at (i := 24) (d := 44) (v := ?_) rfl (by kernel_rfl) (hy := .inl ⟨by kernel_rfl, ?_⟩) (h := ?_)
      rotate_left
      ·intro W hSw; (try dsimp only at hSw); go_simp; first | done | with_reducible rfl
      try simp only [Act.put, List.setIfInBounds_toArray, List.set_cons_zero, List.set_cons_succ]
      refine take_at (i := 25) (d := 45) (v := ?_) rfl (by kernel_rfl) (hy := .inl ⟨by kernel_rfl, ?_⟩) (h := ?_)
      rotate_left
      ·intro W hSw; (try dsimp only at hSw); go_simp; first | done | with_reducible rfl
      try simp only [Act.put, List.setIfInBounds_toArray, List.set_cons_zero, List.set_cons_succ]
      refine take_at (i := 26) (d := 46) (v := ?_) rfl (by kernel_rfl) (hy := .inl ⟨by kernel_rfl, ?_⟩) (h := ?_)
      rotate_left
      ·intro W hSw; (try dsimp only at hSw); go_simp; first | done | with_reducible rfl
      try simp only [Act.put, List.setIfInBounds_toArray, List.set_cons_zero, List.set_cons_succ]
      refine take_at (i := 27) (d := 47) (v := ?_) rfl (by kernel_rfl) (hy := .inl ⟨by kernel_rfl, ?_⟩) (h := ?_)
      rotate_left
      ·intro W hSw; (try dsimp only at hSw); go_simp; first | done | with_reducible rfl
      try simp only [Act.put, List.setIfInBounds_toArray, List.set_cons_zero, List.set_cons_succ]
      refine take_at (i := 28) (d := 48) (v := ?_) rfl (by kernel_rfl) (hy := .inl ⟨by kernel_rfl, ?_⟩) (h := ?_)
      rotate_left
      ·intro W hSw; (try dsimp only at hSw); go_simp; first | done | with_reducible rfl
      try simp only [Act.put, List.setIfInBounds_toArray, List.set_cons_zero, List.set_cons_succ]
      refine take_at (i := 29) (d := 49) (v := ?_) rfl (by kernel_rfl) (hy := .inl ⟨by kernel_rfl, ?_⟩) (h := ?_)
      rotate_left
      ·intro W hSw
       try dsimp only at hSw
       have hz8 := HK.out.below hSw HK.out.lt
       have k0 := hz8.cell 0
       have k1 := hz8.cell 1
       have k2 := hz8.cell 2
       go_simp
       first | done | with_reducible rfl
      try simp only [Act.put, List.setIfInBounds_toArray, List.set_cons_zero, List.set_cons_succ]
      refine take_at (i := 30) (d := 50) (v := ?_) rfl (by kernel_rfl) (hy := .inl ⟨by kernel_rfl, ?_⟩) (h := ?_)
      rotate_left
      ·intro W hSw; (try dsimp only at hSw); go_simp; first | done | with_reducible rfl
      try simp only [Act.put, List.setIfInBounds_toArray, List.set_cons_zero, List.set_cons_succ]
      refine take_at (i := 31) (d := 51) (v := ?_) rfl (by kernel_rfl) (hy := .inl ⟨by kernel_rfl, ?_⟩) (h := ?_)
      rotate_left
      ·intro W hSw; (try dsimp only at hSw); go_simp; first | done | with_reducible rfl
      try simp only [Act.put, List.setIfInBounds_toArray, List.set_cons_zero, List.set_cons_succ]
      refine take_at (i := 32) (d := 52) (v := ?_) rfl (by kernel_rfl) (hy := .inl ⟨by kernel_rfl, ?_⟩) (h := ?_)
      rotate_left
      ·intro W hSw; (try dsimp only at hSw); go_simp; first | done | with_reducible rfl
      try simp only [Act.put, List.setIfInBounds_toArray, List.set_cons_zero, List.set_cons_succ]
      refine take_at (i := 33) (d := 53) (v := ?_) rfl (by kernel_rfl) (hy := .inl ⟨by kernel_rfl, ?_⟩) (h := ?_)
      rotate_left
      ·intro W hSw; (try dsimp only at hSw); go_simp; first | done | with_reducible rfl
      try simp only [Act.put, List.setIfInBounds_toArray, List.set_cons_zero, List.set_cons_succ]
      refine take_at (i := 34) (d := 54) (v := ?_) rfl (by kernel_rfl) (hy := .inl ⟨by kernel_rfl, ?_⟩) (h := ?_)
      rotate_left
      ·intro W hSw; (try dsimp only at hSw); go_simp; first | done | with_reducible rfl
      try simp only [Act.put, List.setIfInBounds_toArray, List.set_cons_zero, List.set_cons_succ]
      refine take_at (i := 35) (d := 55) (v := ?_) rfl (by kernel_rfl) (hy := .inl ⟨by kernel_rfl, ?_⟩) (h := ?_)
      rotate_left
      ·intro W hSw
       try dsimp only at hSw
       have hz9 := HPRV.out _ hSw
       go_simp
       first | done | with_reducible rfl
      try simp only [Act.put, List.setIfInBounds_toArray, List.set_cons_zero, List.set_cons_succ]
      refine take_at (i := 36) (d := 56) (v := ?_) rfl (by kernel_rfl) (hy := .inl ⟨by kernel_rfl, ?_⟩) (h := ?_)
      rotate_left
      ·intro W hSw; (try dsimp only at hSw); go_simp; first | done | with_reducible rfl
      try simp only [Act.put, List.setIfInBounds_toArray, List.set_cons_zero, List.set_cons_succ]
      refine take_at (i := 37) (d := 57) (v := ?_) rfl (by kernel_rfl) (hy := .inl ⟨by kernel_rfl, ?_⟩) (h := ?_)
      rotate_left
      ·intro W hSw; (try dsimp only at hSw); go_simp; first | done | with_reducible rfl
      try simp only [Act.put, List.setIfInBounds_toArray, List.set_cons_zero, List.set_cons_succ]
      refine take_at (i := 38) (d := 58) (v := ?_) rfl (by kernel_rfl) (hy := .inl ⟨by kernel_rfl, ?_⟩) (h := ?_)
      rotate_left
      ·intro W hSw; (try dsimp only at hSw); go_simp; first | done | with_reducible rfl
      try simp only [Act.put, List.setIfInBounds_toArray, List.set_cons_zero, List.set_cons_succ]
      refine wpAnyH_done (by kernel_rfl) ?_ _
      rw [HTL.out]
      cases tl with
      | true =>
       go_wp2_with fail
       go_ret
       exact ⟨_, rfl, HALL.out _ HS.out⟩
      | false =>
       have hz8 := HK.out.below HS.out HK.out.lt
       have k0 := hz8.cell 0
       go_wp2_with fail
       refine (rparents_any rp _ (by have := HP4.out; omega)).mono ?_
       rintro e wp ⟨pv, rfl, ho, hb⟩
       have HBP := Lib.hid (HALL.out _ (HS.out.trans (hb.mono HS.out.size)))
       obtain ⟨pA, pc, rfl, hp1, hp2⟩ := ho.length
       have HOP := Lib.hid ho.slv
       simp only [List.length_map] at hp1 HOP ⊢
       unfold maxLen at hp2
       obtain ⟨m, hm⟩ : ∃ m, (parentsL rp).length = m := ⟨_, rfl⟩
       have HM := Lib.hid hm
       rw [hm] at hp1 HOP ⊢
       clear hm ho hb hz8 k0
       go_wp2_with fail
       go_loopw [6] (fun y wr2 => ∃ k : Nat, k ≤ m ∧ y = .int .i64 (k : Int) ∧ Below wp.heap.size wp wr2) (fun y _ => m - (intOf y).toNat)
       case atStart => exact ⟨0, Nat.zero_le _, rfl, Below.refl _ _⟩
       case round =>
        obtain ⟨k, hk, rfl, hb⟩ := hrel
        have HB2 := Lib.hid hb
        clear hb
        have q0 : (0 : Int) ≤ (k : Int) := by omega
        by_cases hkm : k < m
        ·have q1 : (k : Int) < (m : Int) := by omega
         have hkl : k < (parentsL rp).length := by rw [HM.out]; exact hkm
         have kfd := field_mode
         have hov := HOP.out.below HB2.out
         obtain ⟨A7, c7, he, _, _, hrd⟩ := hov.len
         injection he with he1 he2 he3
         subst he1
         clear he2 he3
         simp only [List.length_map] at hrd
         have hkl' : k < ((parentsL rp).map Tx.str).length := by rw [List.length_map]; exact hkl
         have hta := texts_at (xs := (parentsL rp).map Tx.str) (by simpa using hrd) k hkl'
         obtain ⟨ad7, rfl, hcell⟩ := hta
         obtain ⟨x7, hx7⟩ : ∃ x, (parentsL rp)[k] = x := ⟨_, rfl⟩
         have hcell2 : wr.cell? (ad7.add k) = some (.string (Tx.str x7)) := by rw [hcell]; simp [hx7]
         clear hov hrd hkl' hcell hx7 hkl
         go_wp2_with fail
         refine (rget_any (.slice (some ad) n c) l x7 _ (H.out.below (HBP.out.trans (HB2.out.mono HBP.out.size)))).mono ?_
         rintro e w7 ⟨rfl, hb7⟩
         have HB7 := Lib.hid (HB2.out.trans (hb7.mono HB2.out.size))
         obtain ⟨gm, hgm⟩ : ∃ y, getM l x7 = y := ⟨_, rfl⟩
         rw [hgm]
         obtain ⟨gm, gi⟩ := gm
         unfold entV
         dsimp only
         clear hb7 hcell2 hgm
         by_cases g0 : gm = 0
         ·subst g0
          go_wp2_with fail
          go_roundw
          case rel => exact ⟨k + 1, by omega, by go_num, HB7.out⟩
          case measure => simp [intOf]; omega
         ·have e0 : (gm != 0) = true := by simpa using g0
          go_wp2_with fail
          go_ret
          exact ⟨_, rfl, HBP.out.trans (HB7.out.mono HBP.out.size)⟩
        ·obtain rfl : k = m := by omega
         have HB3 := Lib.hid (HBP.out.trans (HB2.out.mono HBP.out.size))
         go_wp2_with fail
         go_roundw
         case rel => exact ⟨j + 1 + 1, by omega, by go_num, HB3.out⟩
         case measure => simp [intOf]; omega
  ·obtain rfl : i = n := by omega
   go_wp2_with fail
   go_ret
   exact ⟨_, rfl, HB.out⟩
end Go.Proofs.YtbenkmihkbjgeaaGreat.Tx
