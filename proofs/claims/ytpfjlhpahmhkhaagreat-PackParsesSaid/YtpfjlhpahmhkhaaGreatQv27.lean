/- Texts put together: VRs1. -/
import Derived.Test.YtpfjlhpahmhkhaaGreatQv16
import Derived.Test.YtpfjlhpahmhkhaaGreatQv26
import Derived.Deep.RegionLaw
/- marlaw10's Source, made. -/
set_option linter.unusedVariables false
set_option linter.unusedSimpArgs false
namespace Go.Proofs.YtpfjlhpahmhkhaaGreat.Ob
open Go.RowKit Go.Proofs.YtpfjlhpahmhkhaaGreat.Sh
open Go.Proofs.YtpfjlhpahmhkhaaGreat.Tx (OwnV SlV sv Only Rd reads_at)
theorem sapp_text {ops : Array Oper} {o : Oper} {a : Act} {K : Act → World → Prop} {Q : Exit → Act → World → Prop} {E : Prop} (d : Nat) (hd : o.dst = some d) (hgd : o.guard = none) (s x : Operand)
  (ho : o.op = .call { callee := .builtin .append, args := #[s, x], argTypes := #[50, 50] }) (w : World) (B : Nat) (v : Value) (ts : List ByteArray) (hs : a.eval s = v) (hown : Tx.OwnV 9 w B v (ts.map Tx.sv))
  (B' : Nat) (A : Option Addr) (m c : Nat) (us : List ByteArray) (hx : a.eval x = .slice A m c) (hr : Reads w B' 1 A m (us.map Tx.sv)) (hsmall : ts.length + m ≤ 2000000) (hB : B ≤ w.heap.size)
  (h : ∀ v' w', Tx.OwnV 9 w' B v' ((ts ++ us).map Tx.sv) → w.grownBy w' v.ownBlock → K (a.put (some d) v') w') : if Region.wanted o (yielded ops a.tmps) = true then Oper.wp Tryz.prog o a w K Q else E := by
 obtain ⟨i0, hi, hz0, hz1, hz2⟩ := info_parts Tx.info_str
 have hm : us.length = m := by have := hr.1; simpa using this
 have hown' : w.ownsRow B 9 1 v ts.length (ts.map Tx.sv) := by have := hown; unfold Tx.OwnV at this; rwa [List.length_map] at this
 refine step_append_any w hgd s x 50 ho B 9 i0 (.string ⟨#[]⟩) 1 16 Tryz.underlying50 hi hz0 hz1 hz2 rfl (by decide) v ts.length _ hs hown' B' A m c _ hx hr (Tx.sv_one us) (by unfold maxLen; omega) (by omega) hB ?_
 intro v' w' h1 h2 _
 rw [hd]
 refine h v' w' ?_ h2
 unfold Tx.OwnV
 rw [List.length_map, List.length_append, hm, List.map_append]
 exact h1
structure SQ (w W : World) (v1 vi : Value) (lie : Bool) (ts : List ByteArray) : Prop where
 b1 : Blk W w.heap.size 42 #[v1]
 b2 : Blk W (w.heap.size + 1) 4 #[.bool lie]
 b3 : Blk W (w.heap.size + 1 + 1) 50 #[vi]
 own : Tx.OwnV 9 W (w.heap.size + 3) vi (ts.map Tx.sv)
 below : Below w.heap.size w W
section
variable {w W W' : World} {v1 vi v' : Value} {lie : Bool} {ts ts' : List ByteArray}
theorem SQ.bel (h : SQ w W v1 vi lie ts) (hb : Below W.heap.size W W') : SQ w W' v1 vi lie ts := ⟨h.b1.below hb h.b1.lt, h.b2.below hb h.b2.lt, h.b3.below hb h.b3.lt, h.own.below hb, h.below.trans (hb.mono h.below.size)⟩
theorem SQ.alloc (h : SQ w W v1 vi lie ts) (o : Go.Obj) : SQ w (W.alloc o) v1 vi lie ts := h.bel ((Below.refl _ _).alloc (Nat.le_refl _) o)
theorem SQ.drew (h : SQ w W v1 vi lie ts) : SQ w W.drew v1 vi lie ts := h.bel (Below.refl _ _).drew
theorem SQ.x1 (h : SQ w W v1 vi lie ts) : W.cell? ⟨w.heap.size, 0, none⟩ = some v1 := h.b1.cell 0
theorem SQ.x3 (h : SQ w W v1 vi lie ts) : W.cell? ⟨w.heap.size + 1 + 1, 0, none⟩ = some vi := h.b3.cell 0
theorem SQ.size (h : SQ w W v1 vi lie ts) : w.heap.size + 3 ≤ W.heap.size := h.b3.lt
theorem SQ.app (h : SQ w W v1 vi lie ts) (ho : Tx.OwnV 9 W' (w.heap.size + 3) v' (ts'.map Tx.sv)) (hg : W.grownBy W' vi.ownBlock) : SQ w (W'.setCell ⟨w.heap.size + 1 + 1, 0, none⟩ v') v1 v' lie ts' := by
 have hn : ∀ k, vi.ownBlock = some k → w.heap.size + 3 ≤ k := fun k hk => (h.own.lt k hk).1
 have c1 : Blk W' w.heap.size 42 #[v1] := Blk.grown h.b1 hg (fun e => by have := hn _ e.symm; omega)
 have c2 : Blk W' (w.heap.size + 1) 4 #[.bool lie] := Blk.grown h.b2 hg (fun e => by have := hn _ e.symm; omega)
 have c3 : Blk W' (w.heap.size + 1 + 1) 50 #[vi] := Blk.grown h.b3 hg (fun e => by have := hn _ e.symm; omega)
 refine ⟨c1.far (by show w.heap.size ≠ w.heap.size + 1 + 1; omega) _, c2.far (by show w.heap.size + 1 ≠ w.heap.size + 1 + 1; omega) _, c3.set_ 0 v', ho.apart (fun e => ?_) _, ?_⟩
 ·have := (ho.lt _ e).1
  have e2 : (⟨w.heap.size + 1 + 1, 0, none⟩ : Addr).block = w.heap.size + 1 + 1 := rfl
  omega
 ·have hb : Below w.heap.size w W' := h.below.grown hg h.below.size (fun k hk => by have := hn k hk; omega)
  exact hb.setCell (by show w.heap.size ≤ w.heap.size + 1 + 1; omega) _
theorem SQ.f3 (h : SQ w W v1 vi lie ts) : W.frozen? ⟨w.heap.size + 1 + 1, 0, none⟩ = false := h.b3.frozen 0
theorem SQ.g3 (h : SQ w W v1 vi lie ts) (hg : W.grownBy W' vi.ownBlock) : Blk W' (w.heap.size + 1 + 1) 50 #[vi] := Blk.grown h.b3 hg (fun e => by have := (h.own.lt _ e.symm).1; omega)
end
def SourcePost (l : List (List UInt8)) (lie : Bool) (w : World) (e : Ending) (w' : World) : Prop :=
 ∃ p1 p2 p3, e = .returned (.func (.func 115) #[] #[.pointer (some ⟨p1, 0, none⟩), .pointer (some ⟨p2, 0, none⟩), .pointer (some ⟨p3, 0, none⟩)]) ∧ SrcX w' p1 p2 p3 l lie ∧ Below w.heap.size w w'
set_option maxRecDepth 100000 in
set_option maxHeartbeats 3200000 in
theorem source_any (v : Value) (l : List (List UInt8)) (lie : Bool) (w : World) (h : LsV w v l) (hl : l.length ≤ 1000000) (hs : ∀ x ∈ l, x.length ≤ 1000000) : Calls Tryz.prog 23 #[v, .bool lie] w (SourcePost l lie w) := by
 have H := Lib.hid h
 have HSL := Lib.hid hs
 obtain ⟨A, c, rfl, hlc, hcm⟩ := h.slice
 unfold maxLen at hcm
 obtain ⟨n, hn⟩ : ∃ n, l.length = n := ⟨_, rfl⟩
 rw [hn] at H hlc hl ⊢
 have HN := Lib.hid hn
 clear h hs hn
 have hq0 : SQ w (((w.alloc (.cells #[.slice A n c] 42)).alloc (.cells #[.bool lie] 4)).alloc (.cells #[.slice none 0 0] 50)) (.slice A n c) (.slice none 0 0) lie [] := by
  have z1 : (w.alloc (.cells #[.slice A n c] 42)).heap.size = w.heap.size + 1 := by simp
  have z2 : ((w.alloc (.cells #[.slice A n c] 42)).alloc (.cells #[.bool lie] 4)).heap.size = w.heap.size + 1 + 1 := by simp
  have k1 := Blk.new w 42 #[.slice A n c]
  have k2 := Blk.new (w.alloc (.cells #[.slice A n c] 42)) 4 #[.bool lie]
  have k3 := Blk.new ((w.alloc (.cells #[.slice A n c] 42)).alloc (.cells #[.bool lie] 4)) 50 #[.slice none 0 0]
  rw [z1] at k2
  rw [z2] at k3
  exact ⟨(k1.alloc _).alloc _, k2.alloc _, k3, Tx.OwnV.nil_ _ _, (((Below.refl _ _).alloc (Nat.le_refl _) _).alloc (by simp) _).alloc (by simp; omega) _⟩
 have HQ0 := Lib.hid hq0
 clear hq0
 go_enter Tryz.func23, Tryz.ntmps23
 go_wp2_with fail
 obtain ⟨W0, hW0⟩ : ∃ X, X = (((w.alloc (.cells #[.slice A n c] 42)).alloc (.cells #[.bool lie] 4)).alloc (.cells #[.slice none 0 0] 50)) := ⟨_, rfl⟩
 rw [← hW0] at HQ0 ⊢
 clear hW0
 go_loopw [6] (fun x wr => ∃ (i : Nat) (vi : Value), i ≤ n ∧ x = .int .i64 (i : Int) ∧ SQ w wr (.slice A n c) vi lie ((((l.take i).map hashL).map str))) (fun x _ => n - (intOf x).toNat)
 case atStart => exact ⟨0, .slice none 0 0, Nat.zero_le _, rfl, HQ0.out⟩
 case round =>
  obtain ⟨i, vi, hi, rfl, hq⟩ := hrel
  have HQ := Lib.hid hq
  have x1 := hq.x1
  clear hq
  have z0 : (0 : Int) ≤ (i : Int) := by omega
  by_cases hlt : i < n
  ·have z1 : (i : Int) < (n : Int) := by omega
   have hil : i < l.length := by have := HN.out; omega
   obtain ⟨b, hb⟩ : ∃ b, l[i]? = some b := ⟨_, List.getElem?_eq_getElem hil⟩
   have HBL : Hid (b.length ≤ 1000000) := HSL.out b (List.mem_of_getElem? hb)
   obtain ⟨ad, A4, c4, rfl, y1, _, _, hsb⟩ := H.out.at_ i b hb
   have HTK : Hid ((((l.take (i + 1)).map hashL).map str) = (((l.take i).map hashL).map str) ++ [str (hashL b)]) := by
    unfold Hid
    rw [List.take_add_one, hb]
    simp
   have HCL : Hid (∀ W, Below w.heap.size w W → W.cell? (ad.add i) = some (.slice A4 b.length c4)) := fun W hW => (hW.cell (World.block_lt_of_cell? w _ y1)).trans y1
   have HSB : Hid (∀ W, Below w.heap.size w W → Sl W (.slice A4 b.length c4) b) := fun W hW => hsb.below hW
   have x2 := HCL.out wr HQ.out.below
   have HTL : Hid (((((l.take i).map hashL).map str)).length + 1 ≤ 2000000) := by
    unfold Hid
    rw [List.length_map, List.length_map, List.length_take]
    omega
   obtain ⟨bl, hbl⟩ : ∃ m, b.length = m := ⟨_, rfl⟩
   rw [hbl] at HCL HSB x2
   have HBN := Lib.hid hbl
   obtain ⟨ts, hts⟩ : ∃ x, (((l.take i).map hashL).map str) = x := ⟨_, rfl⟩
   rw [hts] at HQ HTK HTL
   obtain ⟨Ai, mi, ci, hvi⟩ : ∃ A m c, vi = .slice A m c := by
    obtain ⟨A, c, e, _⟩ := HQ.out.own.length
    exact ⟨A, _, c, e⟩
   subst hvi
   clear hb y1 hsb hil hbl hts
   go_wp2_with fail
   -- STEPS
   replace HQ := Lib.hid HQ.out.drew
   refine wp_region_held_drew (S := (fun W => W.cell? ⟨w.heap.size, 0, none⟩ = some (.slice (some ad) n c) ∧ W.cell? (ad.add i) = some (.slice A4 bl c4))) (by kernel_rfl) ?_ (fun hHeld => ?_)
   ·(try dsimp only); exact ⟨x1, x2⟩
   refine take_at (i := 1) (d := 14) (v := ?_) rfl (by kernel_rfl) (hy := .inl ⟨by kernel_rfl, ?_⟩) (h := ?_)
   rotate_left
   ·intro W hSw
    try dsimp only at hSw
    obtain ⟨q1, q2⟩ := hSw
    go_simp
    first | done | with_reducible rfl
   try simp only [Act.put, List.setIfInBounds_toArray, List.set_cons_zero, List.set_cons_succ]
   refine take_at (i := 2) (d := 15) (v := ?_) rfl (by kernel_rfl) (hy := .inl ⟨by kernel_rfl, ?_⟩) (h := ?_)
   rotate_left
   ·intro W hSw; (try dsimp only at hSw); go_simp; first | done | with_reducible rfl
   try simp only [Act.put, List.setIfInBounds_toArray, List.set_cons_zero, List.set_cons_succ]
   refine take_at (i := 3) (d := 16) (v := ?_) rfl (by kernel_rfl) (hy := .inl ⟨by kernel_rfl, ?_⟩) (h := ?_)
   rotate_left
   ·intro W hSw; (try dsimp only at hSw); go_simp; first | done | with_reducible rfl
   try simp only [Act.put, List.setIfInBounds_toArray, List.set_cons_zero, List.set_cons_succ]
   refine take_at (i := 4) (d := 17) (v := ?_) rfl (by kernel_rfl) (hy := .inl ⟨by kernel_rfl, ?_⟩) (h := ?_)
   rotate_left
   ·intro W hSw
    try dsimp only at hSw
    obtain ⟨q1, q2⟩ := hSw
    go_simp
    first | done | with_reducible rfl
   try simp only [Act.put, List.setIfInBounds_toArray, List.set_cons_zero, List.set_cons_succ]
   refine wpAnyH_ready (rs := [0, 5]) (by kernel_rfl) (by simp) (AllReadyH.cons rfl (fun K hK => ?_) (AllReadyH.cons rfl (fun K hK => ?_) AllReadyH.nil))
   ·have x13 := HQ.out.x3
    go_simp
    try go_wp2_with fail
    refine hK.out _ _ ?_ (fun hHeld => ?_)
    ·(try dsimp only); exact ⟨HQ.out.x1, HCL.out _ HQ.out.below⟩
    clear hK K
    try simp only [Act.put, List.setIfInBounds_toArray, List.set_cons_zero, List.set_cons_succ]
    refine wpAnyH_ready (rs := [5]) (by kernel_rfl) (by simp) (AllReadyH.cons rfl (fun K hK => ?_) AllReadyH.nil)
    go_simp
    refine (rid_any _ b _ (HSB.out _ HQ.out.below) (by have h1 := HBL.out; omega)).mono ?_
    rintro e w2 ⟨rfl, hb2⟩
    replace HQ := Lib.hid (HQ.out.bel hb2)
    clear hb2
    try go_wp2_with fail
    refine hK.out _ _ ?_ (fun hHeld => ?_)
    ·(try dsimp only); exact ⟨HQ.out.x1, HCL.out _ HQ.out.below⟩
    clear hK K
    try simp only [Act.put, List.setIfInBounds_toArray, List.set_cons_zero, List.set_cons_succ]
    refine wpAnyH_ready (rs := [6]) (by kernel_rfl) (by simp) (AllReadyH.cons rfl (fun K hK => ?_) AllReadyH.nil)
    go_simp
    replace HQ := Lib.hid (HQ.out.alloc (.cells #[.string (str (hexL (sumOf b)))] 9))
    have HRD := Lib.hid (reads_one w2 (str (hexL (sumOf b))))
    try go_wp2_with fail
    refine hK.out _ _ ?_ (fun hHeld => ?_)
    ·(try dsimp only); exact ⟨HQ.out.x1, HCL.out _ HQ.out.below⟩
    clear hK K
    try simp only [Act.put, List.setIfInBounds_toArray, List.set_cons_zero, List.set_cons_succ]
    refine wpAnyH_ready (rs := [7]) (by kernel_rfl) (by simp) (AllReadyH.cons rfl (fun K hK => ?_) AllReadyH.nil)
    refine sapp_text 20 rfl rfl (.tmp 13) (.tmp 19) rfl _ (w.heap.size + 3) (.slice Ai mi ci) ts rfl (by exact HQ.out.own) _ (some ⟨w2.heap.size, 0, none⟩) 1 1 [str (hexL (sumOf b))] rfl (by exact HRD.out) (by exact HTL.out) (by exact HQ.out.size) ?_
    intro v4 w4 ho4 hg4
    have HO4 := Lib.hid ho4
    have HG4 := Lib.hid hg4
    have y3 := (HQ.out.g3 hg4).cell 0
    have y4 := (HQ.out.g3 hg4).frozen 0
    have HQ4 := Lib.hid (HQ.out.app ho4 hg4)
    have HB4 : Hid (Below w.heap.size w w4) := HQ.out.below.grown hg4 HQ.out.below.size (fun k hk => by have := (HQ.out.own.lt k hk).1; omega)
    have y5 := (Blk.grown HQ.out.b1 hg4 (fun e => by have := (HQ.out.own.lt _ e.symm).1; omega)).cell 0
    obtain ⟨A5, m5, c5, hv5⟩ : ∃ A m c, v4 = .slice A m c := (by obtain ⟨A, c, e, _⟩ := HO4.out.length; exact ⟨A, _, c, e⟩)
    subst hv5
    clear ho4 hg4
    try go_wp2_with fail
    refine hK.out _ _ ?_ (fun hHeld => ?_)
    ·(try dsimp only); exact ⟨y5, HCL.out _ HB4.out⟩
    clear hK K
    try simp only [Act.put, List.setIfInBounds_toArray, List.set_cons_zero, List.set_cons_succ]
    refine wpAnyH_ready (rs := [8]) (by kernel_rfl) (by simp) (AllReadyH.cons rfl (fun K hK => ?_) AllReadyH.nil)
    go_simp
    try go_wp2_with fail
    refine hK.out _ _ ?_ (fun hHeld => ?_)
    ·(try dsimp only); exact ⟨HQ4.out.x1, HCL.out _ HQ4.out.below⟩
    clear hK K
    refine wpAnyH_done (by kernel_rfl) ?_ _
    go_wp2_with fail
    go_roundw
    case rel => exact ⟨i + 1, .slice A5 m5 c5, by omega, by go_num, by rw [HTK.out]; exact HQ4.out⟩
    case measure => simp [intOf]; omega
   ·go_simp
    refine (rid_any _ b _ (HSB.out _ HQ.out.below) (by have h1 := HBL.out; omega)).mono ?_
    rintro e w2 ⟨rfl, hb2⟩
    replace HQ := Lib.hid (HQ.out.bel hb2)
    clear hb2
    try go_wp2_with fail
    refine hK.out _ _ ?_ (fun hHeld => ?_)
    ·(try dsimp only); exact ⟨HQ.out.x1, HCL.out _ HQ.out.below⟩
    clear hK K
    try simp only [Act.put, List.setIfInBounds_toArray, List.set_cons_zero, List.set_cons_succ]
    refine wpAnyH_ready (rs := [0, 6]) (by kernel_rfl) (by simp) (AllReadyH.cons rfl (fun K hK => ?_) (AllReadyH.cons rfl (fun K hK => ?_) AllReadyH.nil))
    ·have x13 := HQ.out.x3
     go_simp
     try go_wp2_with fail
     refine hK.out _ _ ?_ (fun hHeld => ?_)
     ·(try dsimp only); exact ⟨HQ.out.x1, HCL.out _ HQ.out.below⟩
     clear hK K
     try simp only [Act.put, List.setIfInBounds_toArray, List.set_cons_zero, List.set_cons_succ]
     refine wpAnyH_ready (rs := [6]) (by kernel_rfl) (by simp) (AllReadyH.cons rfl (fun K hK => ?_) AllReadyH.nil)
     go_simp
     replace HQ := Lib.hid (HQ.out.alloc (.cells #[.string (str (hexL (sumOf b)))] 9))
     have HRD := Lib.hid (reads_one w2 (str (hexL (sumOf b))))
     try go_wp2_with fail
     refine hK.out _ _ ?_ (fun hHeld => ?_)
     ·(try dsimp only); exact ⟨HQ.out.x1, HCL.out _ HQ.out.below⟩
     clear hK K
     try simp only [Act.put, List.setIfInBounds_toArray, List.set_cons_zero, List.set_cons_succ]
     refine wpAnyH_ready (rs := [7]) (by kernel_rfl) (by simp) (AllReadyH.cons rfl (fun K hK => ?_) AllReadyH.nil)
     refine sapp_text 20 rfl rfl (.tmp 13) (.tmp 19) rfl _ (w.heap.size + 3) (.slice Ai mi ci) ts rfl (by exact HQ.out.own) _ (some ⟨w2.heap.size, 0, none⟩) 1 1 [str (hexL (sumOf b))] rfl (by exact HRD.out) (by exact HTL.out) (by exact HQ.out.size) ?_
     intro v4 w4 ho4 hg4
     have HO4 := Lib.hid ho4
     have HG4 := Lib.hid hg4
     have y3 := (HQ.out.g3 hg4).cell 0
     have y4 := (HQ.out.g3 hg4).frozen 0
     have HQ4 := Lib.hid (HQ.out.app ho4 hg4)
     have HB4 : Hid (Below w.heap.size w w4) := HQ.out.below.grown hg4 HQ.out.below.size (fun k hk => by have := (HQ.out.own.lt k hk).1; omega)
     have y5 := (Blk.grown HQ.out.b1 hg4 (fun e => by have := (HQ.out.own.lt _ e.symm).1; omega)).cell 0
     obtain ⟨A5, m5, c5, hv5⟩ : ∃ A m c, v4 = .slice A m c := (by obtain ⟨A, c, e, _⟩ := HO4.out.length; exact ⟨A, _, c, e⟩)
     subst hv5
     clear ho4 hg4
     try go_wp2_with fail
     refine hK.out _ _ ?_ (fun hHeld => ?_)
     ·(try dsimp only); exact ⟨y5, HCL.out _ HB4.out⟩
     clear hK K
     try simp only [Act.put, List.setIfInBounds_toArray, List.set_cons_zero, List.set_cons_succ]
     refine wpAnyH_ready (rs := [8]) (by kernel_rfl) (by simp) (AllReadyH.cons rfl (fun K hK => ?_) AllReadyH.nil)
     go_simp
     try go_wp2_with fail
     refine hK.out _ _ ?_ (fun hHeld => ?_)
     ·(try dsimp only); exact ⟨HQ4.out.x1, HCL.out _ HQ4.out.below⟩
     clear hK K
     refine wpAnyH_done (by kernel_rfl) ?_ _
     go_wp2_with fail
     go_roundw
     case rel => exact ⟨i + 1, .slice A5 m5 c5, by omega, by go_num, by rw [HTK.out]; exact HQ4.out⟩
     case measure => simp [intOf]; omega
    ·go_simp
     replace HQ := Lib.hid (HQ.out.alloc (.cells #[.string (str (hexL (sumOf b)))] 9))
     have HRD := Lib.hid (reads_one w2 (str (hexL (sumOf b))))
     try go_wp2_with fail
     refine hK.out _ _ ?_ (fun hHeld => ?_)
     ·(try dsimp only); exact ⟨HQ.out.x1, HCL.out _ HQ.out.below⟩
     clear hK K
     try simp only [Act.put, List.setIfInBounds_toArray, List.set_cons_zero, List.set_cons_succ]
     refine wpAnyH_ready (rs := [0]) (by kernel_rfl) (by simp) (AllReadyH.cons rfl (fun K hK => ?_) AllReadyH.nil)
     have x13 := HQ.out.x3
     go_simp
     try go_wp2_with fail
     refine hK.out _ _ ?_ (fun hHeld => ?_)
     ·(try dsimp only); exact ⟨HQ.out.x1, HCL.out _ HQ.out.below⟩
     clear hK K
     try simp only [Act.put, List.setIfInBounds_toArray, List.set_cons_zero, List.set_cons_succ]
     refine wpAnyH_ready (rs := [7]) (by kernel_rfl) (by simp) (AllReadyH.cons rfl (fun K hK => ?_) AllReadyH.nil)
     refine sapp_text 20 rfl rfl (.tmp 13) (.tmp 19) rfl _ (w.heap.size + 3) (.slice Ai mi ci) ts rfl (by exact HQ.out.own) _ (some ⟨w2.heap.size, 0, none⟩) 1 1 [str (hexL (sumOf b))] rfl (by exact HRD.out) (by exact HTL.out) (by exact HQ.out.size) ?_
     intro v4 w4 ho4 hg4
     have HO4 := Lib.hid ho4
     have HG4 := Lib.hid hg4
     have y3 := (HQ.out.g3 hg4).cell 0
     have y4 := (HQ.out.g3 hg4).frozen 0
     have HQ4 := Lib.hid (HQ.out.app ho4 hg4)
     have HB4 : Hid (Below w.heap.size w w4) := HQ.out.below.grown hg4 HQ.out.below.size (fun k hk => by have := (HQ.out.own.lt k hk).1; omega)
     have y5 := (Blk.grown HQ.out.b1 hg4 (fun e => by have := (HQ.out.own.lt _ e.symm).1; omega)).cell 0
     obtain ⟨A5, m5, c5, hv5⟩ : ∃ A m c, v4 = .slice A m c := (by obtain ⟨A, c, e, _⟩ := HO4.out.length; exact ⟨A, _, c, e⟩)
     subst hv5
     clear ho4 hg4
     try go_wp2_with fail
     refine hK.out _ _ ?_ (fun hHeld => ?_)
     ·(try dsimp only); exact ⟨y5, HCL.out _ HB4.out⟩
     clear hK K
     try simp only [Act.put, List.setIfInBounds_toArray, List.set_cons_zero, List.set_cons_succ]
     refine wpAnyH_ready (rs := [8]) (by kernel_rfl) (by simp) (AllReadyH.cons rfl (fun K hK => ?_) AllReadyH.nil)
     go_simp
     try go_wp2_with fail
     refine hK.out _ _ ?_ (fun hHeld => ?_)
     ·(try dsimp only); exact ⟨HQ4.out.x1, HCL.out _ HQ4.out.below⟩
     clear hK K
     refine wpAnyH_done (by kernel_rfl) ?_ _
     go_wp2_with fail
     go_roundw
     case rel => exact ⟨i + 1, .slice A5 m5 c5, by omega, by go_num, by rw [HTK.out]; exact HQ4.out⟩
     case measure => simp [intOf]; omega
   -- END STEPS
  ·obtain rfl : i = n := by omega
   have HTA : Hid (l.take i = l) := List.take_of_length_le (by rw [HN.out]; exact Nat.le_refl _)
   go_wp2_with fail
   go_ret
   refine ⟨_, _, _, rfl, ?_, HQ.out.below⟩
   have hq := HQ.out
   rw [HTA.out] at hq
   exact ⟨⟨_, hq.x1, by have := H.out.below hq.below; exact this⟩, hq.b2.cell 0, ⟨_, hq.x3, hq.own.slv⟩⟩
end Go.Proofs.YtpfjlhpahmhkhaaGreat.Ob
