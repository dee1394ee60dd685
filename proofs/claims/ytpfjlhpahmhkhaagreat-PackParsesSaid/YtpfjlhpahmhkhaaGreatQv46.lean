/- Texts put together: VTo2. -/
import Derived.Test.YtpfjlhpahmhkhaaGreatQv45
import Derived.Deep.RegionLaw
/- marlaw10's Told: the document's source, walked. -/
set_option linter.unusedVariables false
set_option linter.unusedSimpArgs false
namespace Go.Proofs.YtpfjlhpahmhkhaaGreat.Ob
open Go.RowKit Go.Proofs.YtpfjlhpahmhkhaaGreat.Sh
open Go.Proofs.YtpfjlhpahmhkhaaGreat.Tx (OwnV SlV sv Only Rd reads_at Shape TmpL OwnL By Typed step_appendL)
theorem sapp_list {ops : Array Oper} {o : Oper} {a : Act} {Kk : Act → World → Prop} {Q : Exit → Act → World → Prop} {E : Prop} (d : Nat) (hd : o.dst = some d) (hgd : o.guard = none) (s x : Operand)
  (ho : o.op = .call { callee := .builtin .append, args := #[s, x], argTypes := #[42, 42] }) {F : Nat → Prop} {w : World} {B : Nat} {v : Value} {l : List (List UInt8)} {ex : Value} {l2 : List (List UInt8)} (hown : OwnL lstK 32 F w B v l) (hr : TmpL lstK F w ex l2) (hs : a.eval s = v) (hx : a.eval x = ex)
  (hsmall : l.length + l2.length ≤ 2000000) (hB : B ≤ w.heap.size) (hF : ∀ k, F k → k < w.heap.size)
  (h : ∀ v' w', OwnL lstK 32 F w' B v' (l ++ l2) → w.grownBy w' v.ownBlock → (v'.ownBlock = v.ownBlock ∨ v'.ownBlock = some w.heap.size) → Kk (a.put (some d) v') w') : if Region.wanted o (yielded ops a.tmps) = true then Oper.wp Tryz.prog o a w Kk Q else E :=
 step_appendL typed_lst hgd s x ho hown hr hs hx hsmall hB hF (fun v' w' h1 h2 h3 => by rw [hd]; exact h v' w' h1 h2 h3)
theorem sapp_textk {ops : Array Oper} {o : Oper} {a : Act} {K : Act → World → Prop} {Q : Exit → Act → World → Prop} {E : Prop} (d : Nat) (hd : o.dst = some d) (hgd : o.guard = none) (s x : Operand)
  (ho : o.op = .call { callee := .builtin .append, args := #[s, x], argTypes := #[50, 50] }) (w : World) (B : Nat) (v : Value) (ts : List ByteArray) (hs : a.eval s = v) (hown : Tx.OwnV 9 w B v (ts.map Tx.sv))
  (B' : Nat) (A : Option Addr) (m c : Nat) (us : List ByteArray) (hx : a.eval x = .slice A m c) (hr : Reads w B' 1 A m (us.map Tx.sv)) (hsmall : ts.length + m ≤ 2000000) (hB : B ≤ w.heap.size)
  (h : ∀ v' w', Tx.OwnV 9 w' B v' ((ts ++ us).map Tx.sv) → w.grownBy w' v.ownBlock → (∀ k, v'.ownBlock = some k → v.ownBlock = some k ∨ w.heap.size ≤ k) → K (a.put (some d) v') w') : if Region.wanted o (yielded ops a.tmps) = true then Oper.wp Tryz.prog o a w K Q else E := by
 obtain ⟨i0, hi, hz0, hz1, hz2⟩ := info_parts Tx.info_str
 have hm : us.length = m := by have := hr.1; simpa using this
 have hown' : w.ownsRow B 9 1 v ts.length (ts.map Tx.sv) := by have := hown; unfold Tx.OwnV at this; rwa [List.length_map] at this
 refine step_append_any w hgd s x 50 ho B 9 i0 (.string ⟨#[]⟩) 1 16 Tryz.underlying50 hi hz0 hz1 hz2 rfl (by decide) v ts.length _ hs hown' B' A m c _ hx hr (Tx.sv_one us) (by unfold maxLen; omega) (by omega) hB ?_
 intro v' w' h1 h2 h3
 rw [hd]
 refine h v' w' ?_ h2 ?_
 ·unfold Tx.OwnV
  rw [List.length_map, List.length_append, hm, List.map_append]
  exact h1
 ·intro k hk
  rcases h3 with h3 | h3
  ·exact .inl (h3 ▸ hk)
  ·rw [h3] at hk
   injection hk with hk
   exact .inr (Nat.le_of_eq hk)
structure CopR (w W : World) (vI vO : Value) (o : List UInt8) (v2 : Value) : Prop where
 own : Own W (w.heap.size + 2) v2 o
 ap : ∀ q, v2.ownBlock = some q → vI.ownBlock ≠ some q ∧ vO.ownBlock ≠ some q ∧ w.heap.size + 2 ≤ q ∧ q < W.heap.size
section
variable {w W W' : World} {F : Nat → Prop} {vI vO v2 : Value} {ids objs : List (List UInt8)} {o : List UInt8}
theorem TQ.copied (h : TQ w W F vI vO ids objs) (ho : Own W' W.heap.size v2 o) (hb : Below W.heap.size W W') : CopR w W' vI vO o v2 :=
 ⟨Own.based ho h.size, fun q hq => by
  have h1 := World.ownsRow.lt ho q hq
  have h2 := h.size
  exact ⟨fun e => by have := (h.ownI.lt q e).2; omega, fun e => by have := (h.ownO.lt q e).2; omega, by omega, h1.2⟩⟩
theorem CopR.alloc (h : CopR w W vI vO o v2) (x : Go.Obj) : CopR w (W.alloc x) vI vO o v2 :=
 ⟨h.own.alloc x, fun q hq => ⟨(h.ap q hq).1, (h.ap q hq).2.1, (h.ap q hq).2.2.1, by have := (h.ap q hq).2.2.2; simp; omega⟩⟩
theorem CopR.row (h : CopR w W vI vO o v2) (t : TQ w W F vI vO ids objs) : OwnL lstK 32 (fun q => F q ∨ v2.ownBlock = some q) W (w.heap.size + 2) vO objs :=
 t.ownO.mono (fun _ _ hk => .inl hk) (fun q hq hf => by
  rcases hf with hf | hf
  ·exact t.ownO.2 q hq hf
  ·exact (h.ap q hf).2.1 hq)
theorem CopR.lt (h : CopR w W vI vO o v2) (t : TQ w W F vI vO ids objs) : ∀ q, (F q ∨ v2.ownBlock = some q) → q < W.heap.size := fun q hq => by
 rcases hq with hq | hq
 ·exact (t.fz q hq).2.1
 ·exact (h.ap q hq).2.2.2
theorem CopR.news (h : CopR w W vI vO o v2) (t : TQ w W F vI vO ids objs) : ∀ q, (F q ∨ v2.ownBlock = some q) → F q ∨ (q < W.heap.size ∧ w.heap.size + 2 ≤ q ∧ vI.ownBlock ≠ some q) := fun q hq => by
 rcases hq with hq | hq
 ·exact .inl hq
 ·exact .inr ⟨(h.ap q hq).2.2.2, (h.ap q hq).2.2.1, (h.ap q hq).1⟩
end
def ToldPost (l : List (List UInt8)) (lie : Bool) (w : World) (e : Ending) (w' : World) : Prop :=
 ∃ vI vO, e = .returned (.agg #[vI, vO, .pointer none]) ∧ Tx.SlV w' vI (((tIds l lie).map str).map Tx.sv) ∧ LsV w' vO l ∧ Below w.heap.size w w'
theorem TQ.ls {w W : World} {F : Nat → Prop} {vI vO : Value} {ids objs : List (List UInt8)} (h : TQ w W F vI vO ids objs) : LsV W vO objs := by
 obtain ⟨ds, h2, h3⟩ := h.ownO.tmp
 exact ⟨ds, h2, h3.mono (fun _ _ _ => trivial)⟩
theorem TQ.ret {w W : World} {F : Nat → Prop} {vI vO a b c : Value} {ids objs : List (List UInt8)} (h : TQ w W F vI vO ids objs) :
  Tx.SlV (((W.setCell ⟨w.heap.size, 0, none⟩ a).setCell ⟨w.heap.size, 1, none⟩ b).setCell ⟨w.heap.size, 2, none⟩ c) vI ((ids.map str).map Tx.sv) ∧ LsV (((W.setCell ⟨w.heap.size, 0, none⟩ a).setCell ⟨w.heap.size, 1, none⟩ b).setCell ⟨w.heap.size, 2, none⟩ c) vO objs ∧
   Below w.heap.size w (((W.setCell ⟨w.heap.size, 0, none⟩ a).setCell ⟨w.heap.size, 1, none⟩ b).setCell ⟨w.heap.size, 2, none⟩ c) := by
 have o2 : Only (fun k => k = w.heap.size) W (((W.setCell ⟨w.heap.size, 0, none⟩ a).setCell ⟨w.heap.size, 1, none⟩ b).setCell ⟨w.heap.size, 2, none⟩ c) :=
  Only.set_ (M := fun k => k = w.heap.size) (g := w.heap.size) (i := 2) (Only.set_ (M := fun k => k = w.heap.size) (g := w.heap.size) (i := 1) (Only.set_ (M := fun k => k = w.heap.size) (g := w.heap.size) (i := 0) (Only.refl _ W) (.inl rfl) _) (.inl rfl) _) (.inl rfl) _
 have h1 := o2.own h.ownI (fun k hk e => by have := (h.ownI.lt k hk).1; omega)
 have h2 := h.ownO.only o2 (fun k hk e => by have := (h.fz k hk).1; omega) (fun k hk e => by have := (h.ownO.lt k hk).1; omega)
 refine ⟨h1.slv, ?_, ((h.below.setCell (Nat.le_refl _) _).setCell (Nat.le_refl _) _).setCell (Nat.le_refl _) _⟩
 obtain ⟨ds, h3, h4⟩ := h2.tmp
 exact ⟨ds, h3, h4.mono (fun _ _ _ => trivial)⟩
set_option maxRecDepth 100000 in
set_option maxHeartbeats 12800000 in
theorem told_any (v : Value) (l : List (List UInt8)) (lie : Bool) (w : World) (h : LsV w v l) (hl : l.length ≤ 1000000) (hs : ∀ x ∈ l, x.length ≤ 1000000) : Calls Tryz.prog 25 #[v, .bool lie] w (ToldPost l lie w) := by
 have H := Lib.hid h
 have HSL := Lib.hid hs
 obtain ⟨A, c, rfl, hlc, hcm⟩ := h.slice
 unfold maxLen at hcm
 obtain ⟨n, hn⟩ : ∃ n, l.length = n := ⟨_, rfl⟩
 rw [hn] at H hlc hl ⊢
 have HN := Lib.hid hn
 clear h hs hn
 go_enter Tryz.func25, Tryz.ntmps25
 go_wp2_with fail
 obtain ⟨W0, hW0⟩ : ∃ X, X = ((w.alloc (.cells #[.slice none 0 0, .slice none 0 0, .pointer none] 53)).alloc (.cells #[.slice none 0 0, .slice none 0 0, .pointer none] 53)) := ⟨_, rfl⟩
 have HQ0 : Hid (TQ w W0 (fun _ => False) (.slice none 0 0) (.slice none 0 0) [] []) := by
  have z1 : (w.alloc (.cells #[.slice none 0 0, .slice none 0 0, .pointer none] 53)).heap.size = w.heap.size + 1 := by simp
  have k1 := Blk.new w 53 #[.slice none 0 0, .slice none 0 0, .pointer none]
  have k2 := Blk.new (w.alloc (.cells #[.slice none 0 0, .slice none 0 0, .pointer none] 53)) 53 #[.slice none 0 0, .slice none 0 0, .pointer none]
  rw [z1] at k2
  rw [hW0]
  exact ⟨k1.alloc _, k2, Tx.OwnV.nil_ _ _, OwnL.nil_ lstK _ _ _ _, fun k hk => hk.elim, ((Below.refl _ _).alloc (Nat.le_refl _) _).alloc (by simp) _⟩
 rw [← hW0]
 clear hW0
 go_loopw [6] (fun x wr => ∃ (i : Nat) (F : Nat → Prop) (vI vO : Value), i ≤ n ∧ x = .int .i64 (i : Int) ∧ TQ w wr F vI vO ((tIds l lie).take i) (l.take i)) (fun x _ => n - (intOf x).toNat)
 case atStart => exact ⟨0, _, .slice none 0 0, .slice none 0 0, Nat.zero_le _, rfl, HQ0.out⟩
 case round =>
  obtain ⟨i, F, vI, vO, hi, rfl, hq⟩ := hrel
  have HQ := Lib.hid hq
  clear hq
  have z0 : (0 : Int) ≤ (i : Int) := by omega
  by_cases hlt : i < n
  ·have z1 : (i : Int) < (n : Int) := by omega
   have hil : i < l.length := by have := HN.out; omega
   obtain ⟨k, hk⟩ : ∃ k, kAt lie n i = k := ⟨_, rfl⟩
   have hkn : k < n := by rw [← hk]; exact kAt_lt hlt
   obtain ⟨o, ho⟩ : ∃ o, l[i]? = some o := ⟨_, List.getElem?_eq_getElem hil⟩
   obtain ⟨b, hb⟩ : ∃ b, l[k]? = some b := ⟨_, List.getElem?_eq_getElem (by have := HN.out; omega)⟩
   have hgd : l.getD k [] = b := by rw [List.getD_eq_getElem?_getD, hb]; rfl
   have HTO : Hid (l.take (i + 1) = l.take i ++ [o]) := by unfold Hid; rw [List.take_add_one, ho]; rfl
   have HTI : Hid ((tIds l lie).take (i + 1) = (tIds l lie).take i ++ [hashL b]) := by unfold Hid; rw [List.take_add_one, tIds_at hil, HN.out, hk, hgd]; rfl
   have HOL : Hid (o.length ≤ 1000000) := HSL.out o (List.mem_of_getElem? ho)
   have HBL : Hid (b.length ≤ 1000000) := HSL.out b (List.mem_of_getElem? hb)
   obtain ⟨ad, A7, c7, rfl, y1, _, _, hso⟩ := H.out.at_ i o ho
   obtain ⟨ad', A8, c8, had, y2, _, _, hsb⟩ := H.out.at_ k b hb
   injection had with had
   subst had
   have HCO : Hid (∀ W, Below w.heap.size w W → W.cell? (ad.add i) = some (.slice A7 o.length c7)) := fun W hW => (hW.cell (World.block_lt_of_cell? w _ y1)).trans y1
   have HCB : Hid (∀ W, Below w.heap.size w W → W.cell? (ad.add k) = some (.slice A8 b.length c8)) := fun W hW => (hW.cell (World.block_lt_of_cell? w _ y2)).trans y2
   have HSO : Hid (∀ W, Below w.heap.size w W → Sl W (.slice A7 o.length c7) o) := fun W hW => hso.below hW
   have HSB : Hid (∀ W, Below w.heap.size w W → Sl W (.slice A8 b.length c8) b) := fun W hW => hsb.below hW
   obtain ⟨ol, hol⟩ : ∃ m, o.length = m := ⟨_, rfl⟩
   obtain ⟨bl, hbl⟩ : ∃ m, b.length = m := ⟨_, rfl⟩
   rw [hol] at HCO HSO
   rw [hbl] at HCB HSB
   have HON := Lib.hid hol
   have HBN := Lib.hid hbl
   have HK : Hid ((lie = true → ((i : Int) + 1) % (n : Int) = (k : Int)) ∧ (lie = false → i = k)) := by
    refine ⟨fun e => ?_, fun e => ?_⟩
    ·rw [← hk]; unfold kAt; rw [if_pos e]; exact (Int.natCast_emod (i + 1) n).symm
    ·rw [← hk]; unfold kAt; rw [if_neg (by rw [e]; decide)]
   have z2 : (0 : Int) ≤ (k : Int) := by omega
   have z3 : (k : Int) < (n : Int) := by omega
   have x2 := HCO.out wr HQ.out.below
   have hoi : ((l.take i)).length = i := by rw [List.length_take]; omega
   have hti : ((tIds l lie).take i).length ≤ i := by rw [List.length_take]; exact Nat.min_le_left _ _
   obtain ⟨ids, hids⟩ : ∃ x, (tIds l lie).take i = x := ⟨_, rfl⟩
   obtain ⟨objs, hobjs⟩ : ∃ x, l.take i = x := ⟨_, rfl⟩
   rw [hids] at HQ HTI hti
   rw [hobjs] at HQ HTO hoi
   have HIL : Hid ((ids.map str).length + 1 ≤ 2000000) := by unfold Hid; rw [List.length_map]; omega
   have HOBL : Hid (objs.length + [o].length ≤ 2000000) := by unfold Hid; rw [hoi]; simp; omega
   obtain ⟨AI, mI, cI, hvI⟩ : ∃ A m c, vI = .slice A m c := by
    obtain ⟨A, c, e, _⟩ := HQ.out.ownI.length
    exact ⟨A, _, c, e⟩
   obtain ⟨AO, cO, hvO, _, _⟩ := TmpL.slice (K := lstK) HQ.out.ownO.tmp
   have hvO' := hvO.trans (congrArg (fun m => Value.slice AO m cO) hoi)
   clear hvO
   subst hvI hvO'
   have HSTO : Hid (∃ b', W0 = b') := ⟨_, rfl⟩
   clear hil hk hb hgd ho y1 y2 hso hsb hol hbl hti hoi hids hobjs HSTO
   go_wp2_with fail
   -- STEPS
   replace HQ := Lib.hid HQ.out.drew
   refine wp_region_held_drew (S := (fun W => W.cell? (ad.add i) = some (.slice A7 ol c7))) (by kernel_rfl) ?_ (fun hHeld => ?_)
   ·(try dsimp only); exact x2
   refine take_at (i := 0) (d := 15) (v := ?_) rfl (by kernel_rfl) (hy := .inl ⟨by kernel_rfl, ?_⟩) (h := ?_)
   rotate_left
   ·intro W hSw; (try dsimp only at hSw); go_simp; first | done | with_reducible rfl
   try simp only [Act.put, List.setIfInBounds_toArray, List.set_cons_zero, List.set_cons_succ]
   refine take_at (i := 2) (d := 17) (v := ?_) rfl (by kernel_rfl) (hy := .inl ⟨by kernel_rfl, ?_⟩) (h := ?_)
   rotate_left
   ·intro W hSw; (try dsimp only at hSw); go_simp; first | done | with_reducible rfl
   try simp only [Act.put, List.setIfInBounds_toArray, List.set_cons_zero, List.set_cons_succ]
   refine take_at (i := 3) (d := 18) (v := ?_) rfl (by kernel_rfl) (hy := .inl ⟨by kernel_rfl, ?_⟩) (h := ?_)
   rotate_left
   ·intro W hSw; (try dsimp only at hSw); go_simp; first | done | with_reducible rfl
   try simp only [Act.put, List.setIfInBounds_toArray, List.set_cons_zero, List.set_cons_succ]
   refine take_at (i := 4) (d := 19) (v := ?_) rfl (by kernel_rfl) (hy := .inl ⟨by kernel_rfl, ?_⟩) (h := ?_)
   rotate_left
   ·intro W hSw; (try dsimp only at hSw); go_simp; first | done | with_reducible rfl
   try simp only [Act.put, List.setIfInBounds_toArray, List.set_cons_zero, List.set_cons_succ]
   refine take_at (i := 5) (d := 20) (v := ?_) rfl (by kernel_rfl) (hy := .inl ⟨by kernel_rfl, ?_⟩) (h := ?_)
   rotate_left
   ·intro W hSw; (try dsimp only at hSw); go_simp; first | done | with_reducible rfl
   try simp only [Act.put, List.setIfInBounds_toArray, List.set_cons_zero, List.set_cons_succ]
   refine wpAnyH_ready (rs := [1, 6]) (by kernel_rfl) (by simp) (AllReadyH.cons rfl (fun K hK => ?_) (AllReadyH.cons rfl (fun K hK => ?_) AllReadyH.nil))
   ·have x13 := HQ.out.y1
    go_simp
    try go_wp2_with fail
    refine hK.out _ _ ?_ (fun hHeld => ?_)
    ·(try dsimp only); exact HCO.out _ HQ.out.below
    clear hK K
    try simp only [Act.put, List.setIfInBounds_toArray, List.set_cons_zero, List.set_cons_succ]
    refine wpAnyH_ready (rs := [6]) (by kernel_rfl) (by simp) (AllReadyH.cons rfl (fun K hK => ?_) AllReadyH.nil)
    go_simp
    refine (copyb_any _ o _ (HSO.out _ HQ.out.below) (by have h1 := HOL.out; omega)).mono ?_
    rintro e w2 ⟨v2, rfl, ho2, hb2⟩
    obtain ⟨A5, c5, rfl, _, _⟩ := ho2.length
    have HCP := Lib.hid (TQ.copied HQ.out ho2 hb2)
    replace HQ := Lib.hid (HQ.out.bel hb2)
    rw [HON.out] at HCP ⊢
    clear ho2 hb2
    try go_wp2_with fail
    refine hK.out _ _ ?_ (fun hHeld => ?_)
    ·(try dsimp only); exact HCO.out _ HQ.out.below
    clear hK K
    try simp only [Act.put, List.setIfInBounds_toArray, List.set_cons_zero, List.set_cons_succ]
    refine wpAnyH_ready (rs := [7]) (by kernel_rfl) (by simp) (AllReadyH.cons rfl (fun K hK => ?_) AllReadyH.nil)
    go_simp
    replace HCP := Lib.hid (HCP.out.alloc (.cells #[.slice A5 ol c5] 32))
    replace HQ := Lib.hid (HQ.out.alloc (.cells #[.slice A5 ol c5] 32))
    have HTM : Hid (TmpL lstK (fun q => F q ∨ (Value.slice A5 ol c5).ownBlock = some q) (w2.alloc (.cells #[.slice A5 ol c5] 32)) (.slice (some ⟨w2.heap.size, 0, none⟩) 1 1) [o]) := TmpL.one (K := lstK) (a := o) (d := .slice A5 ol c5) (Blk.new _ 32 #[.slice A5 ol c5]) rfl (own_by HCP.out.own (fun q hq => .inr hq))
    try go_wp2_with fail
    refine hK.out _ _ ?_ (fun hHeld => ?_)
    ·(try dsimp only); exact HCO.out _ HQ.out.below
    clear hK K
    try simp only [Act.put, List.setIfInBounds_toArray, List.set_cons_zero, List.set_cons_succ]
    refine wpAnyH_ready (rs := [8]) (by kernel_rfl) (by simp) (AllReadyH.cons rfl (fun K hK => ?_) AllReadyH.nil)
    refine sapp_list 23 rfl rfl (.tmp 16) (.tmp 22) rfl (by exact HCP.out.row HQ.out) (by exact HTM.out) (by rfl) (by rfl) (by exact HOBL.out) (by exact HQ.out.size) (by exact HCP.out.lt HQ.out) ?_
    intro v4 w4 ho4 hg4 hk4
    have y3 := (HQ.out.g5O hg4).cell 1
    have y4 := (HQ.out.g5O hg4).frozen 1
    have HB4 : Hid (Below w.heap.size w w4) := HQ.out.below.grown hg4 HQ.out.below.size (fun q hq => by have := (HQ.out.ownO.lt q hq).1; omega)
    have HQ4 := Lib.hid (TQ.appO HQ.out (HCP.out.news HQ.out) ho4 hg4)
    obtain ⟨A6, c6, hv6, _, _⟩ := TmpL.slice (K := lstK) ho4.tmp
    obtain ⟨m6, hm6⟩ : ∃ m, (objs ++ [o]).length = m := ⟨_, rfl⟩
    have hv7 := hv6.trans (congrArg (fun m => Value.slice A6 m c6) hm6)
    clear hv6
    subst hv7
    clear ho4 hg4 hk4 hm6
    try go_wp2_with fail
    refine hK.out _ _ ?_ (fun hHeld => ?_)
    ·(try dsimp only); exact HCO.out _ HB4.out
    clear hK K
    try simp only [Act.put, List.setIfInBounds_toArray, List.set_cons_zero, List.set_cons_succ]
    refine take_at (i := 9) (d := 24) (v := ?_) rfl (by kernel_rfl) (hy := .inl ⟨by kernel_rfl, ?_⟩) (h := ?_)
    rotate_left
    ·intro W hSw; (try dsimp only at hSw); go_simp; first | done | with_reducible rfl
    try simp only [Act.put, List.setIfInBounds_toArray, List.set_cons_zero, List.set_cons_succ]
    refine wpAnyH_ready (rs := [10]) (by kernel_rfl) (by simp) (AllReadyH.cons rfl (fun K hK => ?_) AllReadyH.nil)
    go_simp
    try go_wp2_with fail
    refine hK.out _ _ ?_ (fun hHeld => ?_)
    ·(try dsimp only); exact HCO.out _ HQ4.out.below
    clear hK K
    refine wpAnyH_done (by kernel_rfl) ?_ _
    clear y3 y4
    cases lie with
    | true =>
     have e1 := HK.out.1 rfl
     go_wp2_with fail
     replace HQ4 := Lib.hid HQ4.out.drew
     refine wp_region_held_drew (S := (fun W => W.cell? (ad.add k) = some (.slice A8 bl c8))) (by kernel_rfl) ?_ (fun hHeld => ?_)
     ·(try dsimp only); exact HCB.out _ HQ4.out.below
     refine take_at (i := 0) (d := 32) (v := ?_) rfl (by kernel_rfl) (hy := .inl ⟨by kernel_rfl, ?_⟩) (h := ?_)
     rotate_left
     ·intro W hSw; (try dsimp only at hSw); go_simp; first | done | with_reducible rfl
     try simp only [Act.put, List.setIfInBounds_toArray, List.set_cons_zero, List.set_cons_succ]
     refine take_at (i := 2) (d := 34) (v := ?_) rfl (by kernel_rfl) (hy := .inl ⟨by kernel_rfl, ?_⟩) (h := ?_)
     rotate_left
     ·intro W hSw; (try dsimp only at hSw); go_simp; first | done | with_reducible rfl
     try simp only [Act.put, List.setIfInBounds_toArray, List.set_cons_zero, List.set_cons_succ]
     refine take_at (i := 3) (d := 35) (v := ?_) rfl (by kernel_rfl) (hy := .inl ⟨by kernel_rfl, ?_⟩) (h := ?_)
     rotate_left
     ·intro W hSw; (try dsimp only at hSw); go_simp; first | done | with_reducible rfl
     try simp only [Act.put, List.setIfInBounds_toArray, List.set_cons_zero, List.set_cons_succ]
     refine take_at (i := 4) (d := 36) (v := ?_) rfl (by kernel_rfl) (hy := .inl ⟨by kernel_rfl, ?_⟩) (h := ?_)
     rotate_left
     ·intro W hSw; (try dsimp only at hSw); go_simp; first | done | with_reducible rfl
     try simp only [Act.put, List.setIfInBounds_toArray, List.set_cons_zero, List.set_cons_succ]
     refine take_at (i := 5) (d := 37) (v := ?_) rfl (by kernel_rfl) (hy := .inl ⟨by kernel_rfl, ?_⟩) (h := ?_)
     rotate_left
     ·intro W hSw; (try dsimp only at hSw); go_simp; first | done | with_reducible rfl
     try simp only [Act.put, List.setIfInBounds_toArray, List.set_cons_zero, List.set_cons_succ]
     refine wpAnyH_ready (rs := [1, 6]) (by kernel_rfl) (by simp) (AllReadyH.cons rfl (fun K hK => ?_) (AllReadyH.cons rfl (fun K hK => ?_) AllReadyH.nil))
     ·have x13 := HQ4.out.y0
      go_simp
      try go_wp2_with fail
      refine hK.out _ _ ?_ (fun hHeld => ?_)
      ·(try dsimp only); exact HCB.out _ HQ4.out.below
      clear hK K
      try simp only [Act.put, List.setIfInBounds_toArray, List.set_cons_zero, List.set_cons_succ]
      refine wpAnyH_ready (rs := [6]) (by kernel_rfl) (by simp) (AllReadyH.cons rfl (fun K hK => ?_) AllReadyH.nil)
      go_simp
      refine (rid_any _ b _ (HSB.out _ HQ4.out.below) (by have h1 := HBL.out; omega)).mono ?_
      rintro e w5 ⟨rfl, hb5⟩
      replace HQ4 := Lib.hid (HQ4.out.bel hb5)
      clear hb5
      try go_wp2_with fail
      refine hK.out _ _ ?_ (fun hHeld => ?_)
      ·(try dsimp only); exact HCB.out _ HQ4.out.below
      clear hK K
      try simp only [Act.put, List.setIfInBounds_toArray, List.set_cons_zero, List.set_cons_succ]
      refine wpAnyH_ready (rs := [7]) (by kernel_rfl) (by simp) (AllReadyH.cons rfl (fun K hK => ?_) AllReadyH.nil)
      go_simp
      replace HQ4 := Lib.hid (HQ4.out.alloc (.cells #[.string (str (hexL (sumOf b)))] 9))
      have HRD := Lib.hid (reads_one w5 (str (hexL (sumOf b))))
      try go_wp2_with fail
      refine hK.out _ _ ?_ (fun hHeld => ?_)
      ·(try dsimp only); exact HCB.out _ HQ4.out.below
      clear hK K
      try simp only [Act.put, List.setIfInBounds_toArray, List.set_cons_zero, List.set_cons_succ]
      refine wpAnyH_ready (rs := [8]) (by kernel_rfl) (by simp) (AllReadyH.cons rfl (fun K hK => ?_) AllReadyH.nil)
      refine sapp_textk 40 rfl rfl (.tmp 33) (.tmp 39) rfl _ (w.heap.size + 2) (.slice AI mI cI) (ids.map str) rfl (by exact HQ4.out.ownI) _ (some ⟨w5.heap.size, 0, none⟩) 1 1 [str (hexL (sumOf b))] rfl (by exact HRD.out) (by exact HIL.out) (by exact HQ4.out.size) ?_
      intro v7 w7 ho7 hg7 hk7
      have y5 := (HQ4.out.g5I hg7).cell 0
      have y6 := (HQ4.out.g5I hg7).frozen 0
      have HB7 : Hid (Below w.heap.size w w7) := HQ4.out.below.grown hg7 HQ4.out.below.size (fun q hq => by have := (HQ4.out.ownI.lt q hq).1; omega)
      have HQ7 := Lib.hid (TQ.appI (o := hashL b) HQ4.out (by rw [List.map_append]; exact ho7) hg7 hk7)
      obtain ⟨A9, m9, c9, hv9⟩ : ∃ A m c, v7 = .slice A m c := (by obtain ⟨A, c, e, _⟩ := ho7.length; exact ⟨A, _, c, e⟩)
      subst hv9
      clear ho7 hg7 hk7
      try go_wp2_with fail
      refine hK.out _ _ ?_ (fun hHeld => ?_)
      ·(try dsimp only); exact HCB.out _ HB7.out
      clear hK K
      try simp only [Act.put, List.setIfInBounds_toArray, List.set_cons_zero, List.set_cons_succ]
      refine take_at (i := 9) (d := 41) (v := ?_) rfl (by kernel_rfl) (hy := .inl ⟨by kernel_rfl, ?_⟩) (h := ?_)
      rotate_left
      ·intro W hSw; (try dsimp only at hSw); go_simp; first | done | with_reducible rfl
      try simp only [Act.put, List.setIfInBounds_toArray, List.set_cons_zero, List.set_cons_succ]
      refine wpAnyH_ready (rs := [10]) (by kernel_rfl) (by simp) (AllReadyH.cons rfl (fun K hK => ?_) AllReadyH.nil)
      go_simp
      try go_wp2_with fail
      refine hK.out _ _ ?_ (fun hHeld => ?_)
      ·(try dsimp only); exact HCB.out _ HQ7.out.below
      clear hK K
      refine wpAnyH_done (by kernel_rfl) ?_ _
      go_wp2_with fail
      go_roundw
      case rel => exact ⟨i + 1, _, _, _, by omega, by go_num, by rw [HTI.out, HTO.out]; exact HQ7.out⟩
      case measure => simp [intOf]; omega
     ·go_simp
      refine (rid_any _ b _ (HSB.out _ HQ4.out.below) (by have h1 := HBL.out; omega)).mono ?_
      rintro e w5 ⟨rfl, hb5⟩
      replace HQ4 := Lib.hid (HQ4.out.bel hb5)
      clear hb5
      try go_wp2_with fail
      refine hK.out _ _ ?_ (fun hHeld => ?_)
      ·(try dsimp only); exact HCB.out _ HQ4.out.below
      clear hK K
      try simp only [Act.put, List.setIfInBounds_toArray, List.set_cons_zero, List.set_cons_succ]
      refine wpAnyH_ready (rs := [1, 7]) (by kernel_rfl) (by simp) (AllReadyH.cons rfl (fun K hK => ?_) (AllReadyH.cons rfl (fun K hK => ?_) AllReadyH.nil))
      ·have x13 := HQ4.out.y0
       go_simp
       try go_wp2_with fail
       refine hK.out _ _ ?_ (fun hHeld => ?_)
       ·(try dsimp only); exact HCB.out _ HQ4.out.below
       clear hK K
       try simp only [Act.put, List.setIfInBounds_toArray, List.set_cons_zero, List.set_cons_succ]
       refine wpAnyH_ready (rs := [7]) (by kernel_rfl) (by simp) (AllReadyH.cons rfl (fun K hK => ?_) AllReadyH.nil)
       go_simp
       replace HQ4 := Lib.hid (HQ4.out.alloc (.cells #[.string (str (hexL (sumOf b)))] 9))
       have HRD := Lib.hid (reads_one w5 (str (hexL (sumOf b))))
       try go_wp2_with fail
       refine hK.out _ _ ?_ (fun hHeld => ?_)
       ·(try dsimp only); exact HCB.out _ HQ4.out.below
       clear hK K
       try simp only [Act.put, List.setIfInBounds_toArray, List.set_cons_zero, List.set_cons_succ]
       refine wpAnyH_ready (rs := [8]) (by kernel_rfl) (by simp) (AllReadyH.cons rfl (fun K hK => ?_) AllReadyH.nil)
       refine sapp_textk 40 rfl rfl (.tmp 33) (.tmp 39) rfl _ (w.heap.size + 2) (.slice AI mI cI) (ids.map str) rfl (by exact HQ4.out.ownI) _ (some ⟨w5.heap.size, 0, none⟩) 1 1 [str (hexL (sumOf b))] rfl (by exact HRD.out) (by exact HIL.out) (by exact HQ4.out.size) ?_
       intro v7 w7 ho7 hg7 hk7
       have y5 := (HQ4.out.g5I hg7).cell 0
       have y6 := (HQ4.out.g5I hg7).frozen 0
       have HB7 : Hid (Below w.heap.size w w7) := HQ4.out.below.grown hg7 HQ4.out.below.size (fun q hq => by have := (HQ4.out.ownI.lt q hq).1; omega)
       have HQ7 := Lib.hid (TQ.appI (o := hashL b) HQ4.out (by rw [List.map_append]; exact ho7) hg7 hk7)
       obtain ⟨A9, m9, c9, hv9⟩ : ∃ A m c, v7 = .slice A m c := (by obtain ⟨A, c, e, _⟩ := ho7.length; exact ⟨A, _, c, e⟩)
       subst hv9
       clear ho7 hg7 hk7
       try go_wp2_with fail
       refine hK.out _ _ ?_ (fun hHeld => ?_)
       ·(try dsimp only); exact HCB.out _ HB7.out
       clear hK K
       try simp only [Act.put, List.setIfInBounds_toArray, List.set_cons_zero, List.set_cons_succ]
       refine take_at (i := 9) (d := 41) (v := ?_) rfl (by kernel_rfl) (hy := .inl ⟨by kernel_rfl, ?_⟩) (h := ?_)
       rotate_left
       ·intro W hSw; (try dsimp only at hSw); go_simp; first | done | with_reducible rfl
       try simp only [Act.put, List.setIfInBounds_toArray, List.set_cons_zero, List.set_cons_succ]
       refine wpAnyH_ready (rs := [10]) (by kernel_rfl) (by simp) (AllReadyH.cons rfl (fun K hK => ?_) AllReadyH.nil)
       go_simp
       try go_wp2_with fail
       refine hK.out _ _ ?_ (fun hHeld => ?_)
       ·(try dsimp only); exact HCB.out _ HQ7.out.below
       clear hK K
       refine wpAnyH_done (by kernel_rfl) ?_ _
       go_wp2_with fail
       go_roundw
       case rel => exact ⟨i + 1, _, _, _, by omega, by go_num, by rw [HTI.out, HTO.out]; exact HQ7.out⟩
       case measure => simp [intOf]; omega
      ·go_simp
       replace HQ4 := Lib.hid (HQ4.out.alloc (.cells #[.string (str (hexL (sumOf b)))] 9))
       have HRD := Lib.hid (reads_one w5 (str (hexL (sumOf b))))
       try go_wp2_with fail
       refine hK.out _ _ ?_ (fun hHeld => ?_)
       ·(try dsimp only); exact HCB.out _ HQ4.out.below
       clear hK K
       try simp only [Act.put, List.setIfInBounds_toArray, List.set_cons_zero, List.set_cons_succ]
       refine wpAnyH_ready (rs := [1]) (by kernel_rfl) (by simp) (AllReadyH.cons rfl (fun K hK => ?_) AllReadyH.nil)
       have x13 := HQ4.out.y0
       go_simp
       try go_wp2_with fail
       refine hK.out _ _ ?_ (fun hHeld => ?_)
       ·(try dsimp only); exact HCB.out _ HQ4.out.below
       clear hK K
       try simp only [Act.put, List.setIfInBounds_toArray, List.set_cons_zero, List.set_cons_succ]
       refine wpAnyH_ready (rs := [8]) (by kernel_rfl) (by simp) (AllReadyH.cons rfl (fun K hK => ?_) AllReadyH.nil)
       refine sapp_textk 40 rfl rfl (.tmp 33) (.tmp 39) rfl _ (w.heap.size + 2) (.slice AI mI cI) (ids.map str) rfl (by exact HQ4.out.ownI) _ (some ⟨w5.heap.size, 0, none⟩) 1 1 [str (hexL (sumOf b))] rfl (by exact HRD.out) (by exact HIL.out) (by exact HQ4.out.size) ?_
       intro v7 w7 ho7 hg7 hk7
       have y5 := (HQ4.out.g5I hg7).cell 0
       have y6 := (HQ4.out.g5I hg7).frozen 0
       have HB7 : Hid (Below w.heap.size w w7) := HQ4.out.below.grown hg7 HQ4.out.below.size (fun q hq => by have := (HQ4.out.ownI.lt q hq).1; omega)
       have HQ7 := Lib.hid (TQ.appI (o := hashL b) HQ4.out (by rw [List.map_append]; exact ho7) hg7 hk7)
       obtain ⟨A9, m9, c9, hv9⟩ : ∃ A m c, v7 = .slice A m c := (by obtain ⟨A, c, e, _⟩ := ho7.length; exact ⟨A, _, c, e⟩)
       subst hv9
       clear ho7 hg7 hk7
       try go_wp2_with fail
       refine hK.out _ _ ?_ (fun hHeld => ?_)
       ·(try dsimp only); exact HCB.out _ HB7.out
       clear hK K
       try simp only [Act.put, List.setIfInBounds_toArray, List.set_cons_zero, List.set_cons_succ]
       refine take_at (i := 9) (d := 41) (v := ?_) rfl (by kernel_rfl) (hy := .inl ⟨by kernel_rfl, ?_⟩) (h := ?_)
       rotate_left
       ·intro W hSw; (try dsimp only at hSw); go_simp; first | done | with_reducible rfl
       try simp only [Act.put, List.setIfInBounds_toArray, List.set_cons_zero, List.set_cons_succ]
       refine wpAnyH_ready (rs := [10]) (by kernel_rfl) (by simp) (AllReadyH.cons rfl (fun K hK => ?_) AllReadyH.nil)
       go_simp
       try go_wp2_with fail
       refine hK.out _ _ ?_ (fun hHeld => ?_)
       ·(try dsimp only); exact HCB.out _ HQ7.out.below
       clear hK K
       refine wpAnyH_done (by kernel_rfl) ?_ _
       go_wp2_with fail
       go_roundw
       case rel => exact ⟨i + 1, _, _, _, by omega, by go_num, by rw [HTI.out, HTO.out]; exact HQ7.out⟩
       case measure => simp [intOf]; omega
    | false =>
     have e1 := HK.out.2 rfl
     subst e1
     go_wp2_with fail
     replace HQ4 := Lib.hid HQ4.out.drew
     refine wp_region_held_drew (S := (fun W => W.cell? (ad.add i) = some (.slice A8 bl c8))) (by kernel_rfl) ?_ (fun hHeld => ?_)
     ·(try dsimp only); exact HCB.out _ HQ4.out.below
     refine take_at (i := 0) (d := 32) (v := ?_) rfl (by kernel_rfl) (hy := .inl ⟨by kernel_rfl, ?_⟩) (h := ?_)
     rotate_left
     ·intro W hSw; (try dsimp only at hSw); go_simp; first | done | with_reducible rfl
     try simp only [Act.put, List.setIfInBounds_toArray, List.set_cons_zero, List.set_cons_succ]
     refine take_at (i := 2) (d := 34) (v := ?_) rfl (by kernel_rfl) (hy := .inl ⟨by kernel_rfl, ?_⟩) (h := ?_)
     rotate_left
     ·intro W hSw; (try dsimp only at hSw); go_simp; first | done | with_reducible rfl
     try simp only [Act.put, List.setIfInBounds_toArray, List.set_cons_zero, List.set_cons_succ]
     refine take_at (i := 3) (d := 35) (v := ?_) rfl (by kernel_rfl) (hy := .inl ⟨by kernel_rfl, ?_⟩) (h := ?_)
     rotate_left
     ·intro W hSw; (try dsimp only at hSw); go_simp; first | done | with_reducible rfl
     try simp only [Act.put, List.setIfInBounds_toArray, List.set_cons_zero, List.set_cons_succ]
     refine take_at (i := 4) (d := 36) (v := ?_) rfl (by kernel_rfl) (hy := .inl ⟨by kernel_rfl, ?_⟩) (h := ?_)
     rotate_left
     ·intro W hSw; (try dsimp only at hSw); go_simp; first | done | with_reducible rfl
     try simp only [Act.put, List.setIfInBounds_toArray, List.set_cons_zero, List.set_cons_succ]
     refine take_at (i := 5) (d := 37) (v := ?_) rfl (by kernel_rfl) (hy := .inl ⟨by kernel_rfl, ?_⟩) (h := ?_)
     rotate_left
     ·intro W hSw; (try dsimp only at hSw); go_simp; first | done | with_reducible rfl
     try simp only [Act.put, List.setIfInBounds_toArray, List.set_cons_zero, List.set_cons_succ]
     refine wpAnyH_ready (rs := [1, 6]) (by kernel_rfl) (by simp) (AllReadyH.cons rfl (fun K hK => ?_) (AllReadyH.cons rfl (fun K hK => ?_) AllReadyH.nil))
     ·have x13 := HQ4.out.y0
      go_simp
      try go_wp2_with fail
      refine hK.out _ _ ?_ (fun hHeld => ?_)
      ·(try dsimp only); exact HCB.out _ HQ4.out.below
      clear hK K
      try simp only [Act.put, List.setIfInBounds_toArray, List.set_cons_zero, List.set_cons_succ]
      refine wpAnyH_ready (rs := [6]) (by kernel_rfl) (by simp) (AllReadyH.cons rfl (fun K hK => ?_) AllReadyH.nil)
      go_simp
      refine (rid_any _ b _ (HSB.out _ HQ4.out.below) (by have h1 := HBL.out; omega)).mono ?_
      rintro e w5 ⟨rfl, hb5⟩
      replace HQ4 := Lib.hid (HQ4.out.bel hb5)
      clear hb5
      try go_wp2_with fail
      refine hK.out _ _ ?_ (fun hHeld => ?_)
      ·(try dsimp only); exact HCB.out _ HQ4.out.below
      clear hK K
      try simp only [Act.put, List.setIfInBounds_toArray, List.set_cons_zero, List.set_cons_succ]
      refine wpAnyH_ready (rs := [7]) (by kernel_rfl) (by simp) (AllReadyH.cons rfl (fun K hK => ?_) AllReadyH.nil)
      go_simp
      replace HQ4 := Lib.hid (HQ4.out.alloc (.cells #[.string (str (hexL (sumOf b)))] 9))
      have HRD := Lib.hid (reads_one w5 (str (hexL (sumOf b))))
      try go_wp2_with fail
      refine hK.out _ _ ?_ (fun hHeld => ?_)
      ·(try dsimp only); exact HCB.out _ HQ4.out.below
      clear hK K
      try simp only [Act.put, List.setIfInBounds_toArray, List.set_cons_zero, List.set_cons_succ]
      refine wpAnyH_ready (rs := [8]) (by kernel_rfl) (by simp) (AllReadyH.cons rfl (fun K hK => ?_) AllReadyH.nil)
      refine sapp_textk 40 rfl rfl (.tmp 33) (.tmp 39) rfl _ (w.heap.size + 2) (.slice AI mI cI) (ids.map str) rfl (by exact HQ4.out.ownI) _ (some ⟨w5.heap.size, 0, none⟩) 1 1 [str (hexL (sumOf b))] rfl (by exact HRD.out) (by exact HIL.out) (by exact HQ4.out.size) ?_
      intro v7 w7 ho7 hg7 hk7
      have y5 := (HQ4.out.g5I hg7).cell 0
      have y6 := (HQ4.out.g5I hg7).frozen 0
      have HB7 : Hid (Below w.heap.size w w7) := HQ4.out.below.grown hg7 HQ4.out.below.size (fun q hq => by have := (HQ4.out.ownI.lt q hq).1; omega)
      have HQ7 := Lib.hid (TQ.appI (o := hashL b) HQ4.out (by rw [List.map_append]; exact ho7) hg7 hk7)
      obtain ⟨A9, m9, c9, hv9⟩ : ∃ A m c, v7 = .slice A m c := (by obtain ⟨A, c, e, _⟩ := ho7.length; exact ⟨A, _, c, e⟩)
      subst hv9
      clear ho7 hg7 hk7
      try go_wp2_with fail
      refine hK.out _ _ ?_ (fun hHeld => ?_)
      ·(try dsimp only); exact HCB.out _ HB7.out
      clear hK K
      try simp only [Act.put, List.setIfInBounds_toArray, List.set_cons_zero, List.set_cons_succ]
      refine take_at (i := 9) (d := 41) (v := ?_) rfl (by kernel_rfl) (hy := .inl ⟨by kernel_rfl, ?_⟩) (h := ?_)
      rotate_left
      ·intro W hSw; (try dsimp only at hSw); go_simp; first | done | with_reducible rfl
      try simp only [Act.put, List.setIfInBounds_toArray, List.set_cons_zero, List.set_cons_succ]
      refine wpAnyH_ready (rs := [10]) (by kernel_rfl) (by simp) (AllReadyH.cons rfl (fun K hK => ?_) AllReadyH.nil)
      go_simp
      try go_wp2_with fail
      refine hK.out _ _ ?_ (fun hHeld => ?_)
      ·(try dsimp only); exact HCB.out _ HQ7.out.below
      clear hK K
      refine wpAnyH_done (by kernel_rfl) ?_ _
      go_wp2_with fail
      go_roundw
      case rel => exact ⟨i + 1, _, _, _, by omega, by go_num, by rw [HTI.out, HTO.out]; exact HQ7.out⟩
      case measure => simp [intOf]; omega
     ·go_simp
      refine (rid_any _ b _ (HSB.out _ HQ4.out.below) (by have h1 := HBL.out; omega)).mono ?_
      rintro e w5 ⟨rfl, hb5⟩
      replace HQ4 := Lib.hid (HQ4.out.bel hb5)
      clear hb5
      try go_wp2_with fail
      refine hK.out _ _ ?_ (fun hHeld => ?_)
      ·(try dsimp only); exact HCB.out _ HQ4.out.below
      clear hK K
      try simp only [Act.put, List.setIfInBounds_toArray, List.set_cons_zero, List.set_cons_succ]
      refine wpAnyH_ready (rs := [1, 7]) (by kernel_rfl) (by simp) (AllReadyH.cons rfl (fun K hK => ?_) (AllReadyH.cons rfl (fun K hK => ?_) AllReadyH.nil))
      ·have x13 := HQ4.out.y0
       go_simp
       try go_wp2_with fail
       refine hK.out _ _ ?_ (fun hHeld => ?_)
       ·(try dsimp only); exact HCB.out _ HQ4.out.below
       clear hK K
       try simp only [Act.put, List.setIfInBounds_toArray, List.set_cons_zero, List.set_cons_succ]
       refine wpAnyH_ready (rs := [7]) (by kernel_rfl) (by simp) (AllReadyH.cons rfl (fun K hK => ?_) AllReadyH.nil)
       go_simp
       replace HQ4 := Lib.hid (HQ4.out.alloc (.cells #[.string (str (hexL (sumOf b)))] 9))
       have HRD := Lib.hid (reads_one w5 (str (hexL (sumOf b))))
       try go_wp2_with fail
       refine hK.out _ _ ?_ (fun hHeld => ?_)
       ·(try dsimp only); exact HCB.out _ HQ4.out.below
       clear hK K
       try simp only [Act.put, List.setIfInBounds_toArray, List.set_cons_zero, List.set_cons_succ]
       refine wpAnyH_ready (rs := [8]) (by kernel_rfl) (by simp) (AllReadyH.cons rfl (fun K hK => ?_) AllReadyH.nil)
       refine sapp_textk 40 rfl rfl (.tmp 33) (.tmp 39) rfl _ (w.heap.size + 2) (.slice AI mI cI) (ids.map str) rfl (by exact HQ4.out.ownI) _ (some ⟨w5.heap.size, 0, none⟩) 1 1 [str (hexL (sumOf b))] rfl (by exact HRD.out) (by exact HIL.out) (by exact HQ4.out.size) ?_
       intro v7 w7 ho7 hg7 hk7
       have y5 := (HQ4.out.g5I hg7).cell 0
       have y6 := (HQ4.out.g5I hg7).frozen 0
       have HB7 : Hid (Below w.heap.size w w7) := HQ4.out.below.grown hg7 HQ4.out.below.size (fun q hq => by have := (HQ4.out.ownI.lt q hq).1; omega)
       have HQ7 := Lib.hid (TQ.appI (o := hashL b) HQ4.out (by rw [List.map_append]; exact ho7) hg7 hk7)
       obtain ⟨A9, m9, c9, hv9⟩ : ∃ A m c, v7 = .slice A m c := (by obtain ⟨A, c, e, _⟩ := ho7.length; exact ⟨A, _, c, e⟩)
       subst hv9
       clear ho7 hg7 hk7
       try go_wp2_with fail
       refine hK.out _ _ ?_ (fun hHeld => ?_)
       ·(try dsimp only); exact HCB.out _ HB7.out
       clear hK K
       try simp only [Act.put, List.setIfInBounds_toArray, List.set_cons_zero, List.set_cons_succ]
       refine take_at (i := 9) (d := 41) (v := ?_) rfl (by kernel_rfl) (hy := .inl ⟨by kernel_rfl, ?_⟩) (h := ?_)
       rotate_left
       ·intro W hSw; (try dsimp only at hSw); go_simp; first | done | with_reducible rfl
       try simp only [Act.put, List.setIfInBounds_toArray, List.set_cons_zero, List.set_cons_succ]
       refine wpAnyH_ready (rs := [10]) (by kernel_rfl) (by simp) (AllReadyH.cons rfl (fun K hK => ?_) AllReadyH.nil)
       go_simp
       try go_wp2_with fail
       refine hK.out _ _ ?_ (fun hHeld => ?_)
       ·(try dsimp only); exact HCB.out _ HQ7.out.below
       clear hK K
       refine wpAnyH_done (by kernel_rfl) ?_ _
       go_wp2_with fail
       go_roundw
       case rel => exact ⟨i + 1, _, _, _, by omega, by go_num, by rw [HTI.out, HTO.out]; exact HQ7.out⟩
       case measure => simp [intOf]; omega
      ·go_simp
       replace HQ4 := Lib.hid (HQ4.out.alloc (.cells #[.string (str (hexL (sumOf b)))] 9))
       have HRD := Lib.hid (reads_one w5 (str (hexL (sumOf b))))
       try go_wp2_with fail
       refine hK.out _ _ ?_ (fun hHeld => ?_)
       ·(try dsimp only); exact HCB.out _ HQ4.out.below
       clear hK K
       try simp only [Act.put, List.setIfInBounds_toArray, List.set_cons_zero, List.set_cons_succ]
       refine wpAnyH_ready (rs := [1]) (by kernel_rfl) (by simp) (AllReadyH.cons rfl (fun K hK => ?_) AllReadyH.nil)
       have x13 := HQ4.out.y0
       go_simp
       try go_wp2_with fail
       refine hK.out _ _ ?_ (fun hHeld => ?_)
       ·(try dsimp only); exact HCB.out _ HQ4.out.below
       clear hK K
       try simp only [Act.put, List.setIfInBounds_toArray, List.set_cons_zero, List.set_cons_succ]
       refine wpAnyH_ready (rs := [8]) (by kernel_rfl) (by simp) (AllReadyH.cons rfl (fun K hK => ?_) AllReadyH.nil)
       refine sapp_textk 40 rfl rfl (.tmp 33) (.tmp 39) rfl _ (w.heap.size + 2) (.slice AI mI cI) (ids.map str) rfl (by exact HQ4.out.ownI) _ (some ⟨w5.heap.size, 0, none⟩) 1 1 [str (hexL (sumOf b))] rfl (by exact HRD.out) (by exact HIL.out) (by exact HQ4.out.size) ?_
       intro v7 w7 ho7 hg7 hk7
       have y5 := (HQ4.out.g5I hg7).cell 0
       have y6 := (HQ4.out.g5I hg7).frozen 0
       have HB7 : Hid (Below w.heap.size w w7) := HQ4.out.below.grown hg7 HQ4.out.below.size (fun q hq => by have := (HQ4.out.ownI.lt q hq).1; omega)
       have HQ7 := Lib.hid (TQ.appI (o := hashL b) HQ4.out (by rw [List.map_append]; exact ho7) hg7 hk7)
       obtain ⟨A9, m9, c9, hv9⟩ : ∃ A m c, v7 = .slice A m c := (by obtain ⟨A, c, e, _⟩ := ho7.length; exact ⟨A, _, c, e⟩)
       subst hv9
       clear ho7 hg7 hk7
       try go_wp2_with fail
       refine hK.out _ _ ?_ (fun hHeld => ?_)
       ·(try dsimp only); exact HCB.out _ HB7.out
       clear hK K
       try simp only [Act.put, List.setIfInBounds_toArray, List.set_cons_zero, List.set_cons_succ]
       refine take_at (i := 9) (d := 41) (v := ?_) rfl (by kernel_rfl) (hy := .inl ⟨by kernel_rfl, ?_⟩) (h := ?_)
       rotate_left
       ·intro W hSw; (try dsimp only at hSw); go_simp; first | done | with_reducible rfl
       try simp only [Act.put, List.setIfInBounds_toArray, List.set_cons_zero, List.set_cons_succ]
       refine wpAnyH_ready (rs := [10]) (by kernel_rfl) (by simp) (AllReadyH.cons rfl (fun K hK => ?_) AllReadyH.nil)
       go_simp
       try go_wp2_with fail
       refine hK.out _ _ ?_ (fun hHeld => ?_)
       ·(try dsimp only); exact HCB.out _ HQ7.out.below
       clear hK K
       refine wpAnyH_done (by kernel_rfl) ?_ _
       go_wp2_with fail
       go_roundw
       case rel => exact ⟨i + 1, _, _, _, by omega, by go_num, by rw [HTI.out, HTO.out]; exact HQ7.out⟩
       case measure => simp [intOf]; omega
   ·go_simp
    refine (copyb_any _ o _ (HSO.out _ HQ.out.below) (by have h1 := HOL.out; omega)).mono ?_
    rintro e w2 ⟨v2, rfl, ho2, hb2⟩
    obtain ⟨A5, c5, rfl, _, _⟩ := ho2.length
    have HCP := Lib.hid (TQ.copied HQ.out ho2 hb2)
    replace HQ := Lib.hid (HQ.out.bel hb2)
    rw [HON.out] at HCP ⊢
    clear ho2 hb2
    try go_wp2_with fail
    refine hK.out _ _ ?_ (fun hHeld => ?_)
    ·(try dsimp only); exact HCO.out _ HQ.out.below
    clear hK K
    try simp only [Act.put, List.setIfInBounds_toArray, List.set_cons_zero, List.set_cons_succ]
    refine wpAnyH_ready (rs := [1, 7]) (by kernel_rfl) (by simp) (AllReadyH.cons rfl (fun K hK => ?_) (AllReadyH.cons rfl (fun K hK => ?_) AllReadyH.nil))
    ·have x13 := HQ.out.y1
     go_simp
     try go_wp2_with fail
     refine hK.out _ _ ?_ (fun hHeld => ?_)
     ·(try dsimp only); exact HCO.out _ HQ.out.below
     clear hK K
     try simp only [Act.put, List.setIfInBounds_toArray, List.set_cons_zero, List.set_cons_succ]
     refine wpAnyH_ready (rs := [7]) (by kernel_rfl) (by simp) (AllReadyH.cons rfl (fun K hK => ?_) AllReadyH.nil)
     go_simp
     replace HCP := Lib.hid (HCP.out.alloc (.cells #[.slice A5 ol c5] 32))
     replace HQ := Lib.hid (HQ.out.alloc (.cells #[.slice A5 ol c5] 32))
     have HTM : Hid (TmpL lstK (fun q => F q ∨ (Value.slice A5 ol c5).ownBlock = some q) (w2.alloc (.cells #[.slice A5 ol c5] 32)) (.slice (some ⟨w2.heap.size, 0, none⟩) 1 1) [o]) := TmpL.one (K := lstK) (a := o) (d := .slice A5 ol c5) (Blk.new _ 32 #[.slice A5 ol c5]) rfl (own_by HCP.out.own (fun q hq => .inr hq))
     try go_wp2_with fail
     refine hK.out _ _ ?_ (fun hHeld => ?_)
     ·(try dsimp only); exact HCO.out _ HQ.out.below
     clear hK K
     try simp only [Act.put, List.setIfInBounds_toArray, List.set_cons_zero, List.set_cons_succ]
     refine wpAnyH_ready (rs := [8]) (by kernel_rfl) (by simp) (AllReadyH.cons rfl (fun K hK => ?_) AllReadyH.nil)
     refine sapp_list 23 rfl rfl (.tmp 16) (.tmp 22) rfl (by exact HCP.out.row HQ.out) (by exact HTM.out) (by rfl) (by rfl) (by exact HOBL.out) (by exact HQ.out.size) (by exact HCP.out.lt HQ.out) ?_
     intro v4 w4 ho4 hg4 hk4
     have y3 := (HQ.out.g5O hg4).cell 1
     have y4 := (HQ.out.g5O hg4).frozen 1
     have HB4 : Hid (Below w.heap.size w w4) := HQ.out.below.grown hg4 HQ.out.below.size (fun q hq => by have := (HQ.out.ownO.lt q hq).1; omega)
     have HQ4 := Lib.hid (TQ.appO HQ.out (HCP.out.news HQ.out) ho4 hg4)
     obtain ⟨A6, c6, hv6, _, _⟩ := TmpL.slice (K := lstK) ho4.tmp
     obtain ⟨m6, hm6⟩ : ∃ m, (objs ++ [o]).length = m := ⟨_, rfl⟩
     have hv7 := hv6.trans (congrArg (fun m => Value.slice A6 m c6) hm6)
     clear hv6
     subst hv7
     clear ho4 hg4 hk4 hm6
     try go_wp2_with fail
     refine hK.out _ _ ?_ (fun hHeld => ?_)
     ·(try dsimp only); exact HCO.out _ HB4.out
     clear hK K
     try simp only [Act.put, List.setIfInBounds_toArray, List.set_cons_zero, List.set_cons_succ]
     refine take_at (i := 9) (d := 24) (v := ?_) rfl (by kernel_rfl) (hy := .inl ⟨by kernel_rfl, ?_⟩) (h := ?_)
     rotate_left
     ·intro W hSw; (try dsimp only at hSw); go_simp; first | done | with_reducible rfl
     try simp only [Act.put, List.setIfInBounds_toArray, List.set_cons_zero, List.set_cons_succ]
     refine wpAnyH_ready (rs := [10]) (by kernel_rfl) (by simp) (AllReadyH.cons rfl (fun K hK => ?_) AllReadyH.nil)
     go_simp
     try go_wp2_with fail
     refine hK.out _ _ ?_ (fun hHeld => ?_)
     ·(try dsimp only); exact HCO.out _ HQ4.out.below
     clear hK K
     refine wpAnyH_done (by kernel_rfl) ?_ _
     clear y3 y4
     cases lie with
     | true =>
      have e1 := HK.out.1 rfl
      go_wp2_with fail
      replace HQ4 := Lib.hid HQ4.out.drew
      refine wp_region_held_drew (S := (fun W => W.cell? (ad.add k) = some (.slice A8 bl c8))) (by kernel_rfl) ?_ (fun hHeld => ?_)
      ·(try dsimp only); exact HCB.out _ HQ4.out.below
      refine take_at (i := 0) (d := 32) (v := ?_) rfl (by kernel_rfl) (hy := .inl ⟨by kernel_rfl, ?_⟩) (h := ?_)
      rotate_left
      ·intro W hSw; (try dsimp only at hSw); go_simp; first | done | with_reducible rfl
      try simp only [Act.put, List.setIfInBounds_toArray, List.set_cons_zero, List.set_cons_succ]
      refine take_at (i := 2) (d := 34) (v := ?_) rfl (by kernel_rfl) (hy := .inl ⟨by kernel_rfl, ?_⟩) (h := ?_)
      rotate_left
      ·intro W hSw; (try dsimp only at hSw); go_simp; first | done | with_reducible rfl
      try simp only [Act.put, List.setIfInBounds_toArray, List.set_cons_zero, List.set_cons_succ]
      refine take_at (i := 3) (d := 35) (v := ?_) rfl (by kernel_rfl) (hy := .inl ⟨by kernel_rfl, ?_⟩) (h := ?_)
      rotate_left
      ·intro W hSw; (try dsimp only at hSw); go_simp; first | done | with_reducible rfl
      try simp only [Act.put, List.setIfInBounds_toArray, List.set_cons_zero, List.set_cons_succ]
      refine take_at (i := 4) (d := 36) (v := ?_) rfl (by kernel_rfl) (hy := .inl ⟨by kernel_rfl, ?_⟩) (h := ?_)
      rotate_left
      ·intro W hSw; (try dsimp only at hSw); go_simp; first | done | with_reducible rfl
      try simp only [Act.put, List.setIfInBounds_toArray, List.set_cons_zero, List.set_cons_succ]
      refine take_at (i := 5) (d := 37) (v := ?_) rfl (by kernel_rfl) (hy := .inl ⟨by kernel_rfl, ?_⟩) (h := ?_)
      rotate_left
      ·intro W hSw; (try dsimp only at hSw); go_simp; first | done | with_reducible rfl
      try simp only [Act.put, List.setIfInBounds_toArray, List.set_cons_zero, List.set_cons_succ]
      refine wpAnyH_ready (rs := [1, 6]) (by kernel_rfl) (by simp) (AllReadyH.cons rfl (fun K hK => ?_) (AllReadyH.cons rfl (fun K hK => ?_) AllReadyH.nil))
      ·have x13 := HQ4.out.y0
       go_simp
       try go_wp2_with fail
       refine hK.out _ _ ?_ (fun hHeld => ?_)
       ·(try dsimp only); exact HCB.out _ HQ4.out.below
       clear hK K
       try simp only [Act.put, List.setIfInBounds_toArray, List.set_cons_zero, List.set_cons_succ]
       refine wpAnyH_ready (rs := [6]) (by kernel_rfl) (by simp) (AllReadyH.cons rfl (fun K hK => ?_) AllReadyH.nil)
       go_simp
       refine (rid_any _ b _ (HSB.out _ HQ4.out.below) (by have h1 := HBL.out; omega)).mono ?_
       rintro e w5 ⟨rfl, hb5⟩
       replace HQ4 := Lib.hid (HQ4.out.bel hb5)
       clear hb5
       try go_wp2_with fail
       refine hK.out _ _ ?_ (fun hHeld => ?_)
       ·(try dsimp only); exact HCB.out _ HQ4.out.below
       clear hK K
       try simp only [Act.put, List.setIfInBounds_toArray, List.set_cons_zero, List.set_cons_succ]
       refine wpAnyH_ready (rs := [7]) (by kernel_rfl) (by simp) (AllReadyH.cons rfl (fun K hK => ?_) AllReadyH.nil)
       go_simp
       replace HQ4 := Lib.hid (HQ4.out.alloc (.cells #[.string (str (hexL (sumOf b)))] 9))
       have HRD := Lib.hid (reads_one w5 (str (hexL (sumOf b))))
       try go_wp2_with fail
       refine hK.out _ _ ?_ (fun hHeld => ?_)
       ·(try dsimp only); exact HCB.out _ HQ4.out.below
       clear hK K
       try simp only [Act.put, List.setIfInBounds_toArray, List.set_cons_zero, List.set_cons_succ]
       refine wpAnyH_ready (rs := [8]) (by kernel_rfl) (by simp) (AllReadyH.cons rfl (fun K hK => ?_) AllReadyH.nil)
       refine sapp_textk 40 rfl rfl (.tmp 33) (.tmp 39) rfl _ (w.heap.size + 2) (.slice AI mI cI) (ids.map str) rfl (by exact HQ4.out.ownI) _ (some ⟨w5.heap.size, 0, none⟩) 1 1 [str (hexL (sumOf b))] rfl (by exact HRD.out) (by exact HIL.out) (by exact HQ4.out.size) ?_
       intro v7 w7 ho7 hg7 hk7
       have y5 := (HQ4.out.g5I hg7).cell 0
       have y6 := (HQ4.out.g5I hg7).frozen 0
       have HB7 : Hid (Below w.heap.size w w7) := HQ4.out.below.grown hg7 HQ4.out.below.size (fun q hq => by have := (HQ4.out.ownI.lt q hq).1; omega)
       have HQ7 := Lib.hid (TQ.appI (o := hashL b) HQ4.out (by rw [List.map_append]; exact ho7) hg7 hk7)
       obtain ⟨A9, m9, c9, hv9⟩ : ∃ A m c, v7 = .slice A m c := (by obtain ⟨A, c, e, _⟩ := ho7.length; exact ⟨A, _, c, e⟩)
       subst hv9
       clear ho7 hg7 hk7
       try go_wp2_with fail
       refine hK.out _ _ ?_ (fun hHeld => ?_)
       ·(try dsimp only); exact HCB.out _ HB7.out
       clear hK K
       try simp only [Act.put, List.setIfInBounds_toArray, List.set_cons_zero, List.set_cons_succ]
       refine take_at (i := 9) (d := 41) (v := ?_) rfl (by kernel_rfl) (hy := .inl ⟨by kernel_rfl, ?_⟩) (h := ?_)
       rotate_left
       ·intro W hSw; (try dsimp only at hSw); go_simp; first | done | with_reducible rfl
       try simp only [Act.put, List.setIfInBounds_toArray, List.set_cons_zero, List.set_cons_succ]
       refine wpAnyH_ready (rs := [10]) (by kernel_rfl) (by simp) (AllReadyH.cons rfl (fun K hK => ?_) AllReadyH.nil)
       go_simp
       try go_wp2_with fail
       refine hK.out _ _ ?_ (fun hHeld => ?_)
       ·(try dsimp only); exact HCB.out _ HQ7.out.below
       clear hK K
       refine wpAnyH_done (by kernel_rfl) ?_ _
       go_wp2_with fail
       go_roundw
       case rel => exact ⟨i + 1, _, _, _, by omega, by go_num, by rw [HTI.out, HTO.out]; exact HQ7.out⟩
       case measure => simp [intOf]; omega
      ·go_simp
       refine (rid_any _ b _ (HSB.out _ HQ4.out.below) (by have h1 := HBL.out; omega)).mono ?_
       rintro e w5 ⟨rfl, hb5⟩
       replace HQ4 := Lib.hid (HQ4.out.bel hb5)
       clear hb5
       try go_wp2_with fail
       refine hK.out _ _ ?_ (fun hHeld => ?_)
       ·(try dsimp only); exact HCB.out _ HQ4.out.below
       clear hK K
       try simp only [Act.put, List.setIfInBounds_toArray, List.set_cons_zero, List.set_cons_succ]
       refine wpAnyH_ready (rs := [1, 7]) (by kernel_rfl) (by simp) (AllReadyH.cons rfl (fun K hK => ?_) (AllReadyH.cons rfl (fun K hK => ?_) AllReadyH.nil))
       ·have x13 := HQ4.out.y0
        go_simp
        try go_wp2_with fail
        refine hK.out _ _ ?_ (fun hHeld => ?_)
        ·(try dsimp only); exact HCB.out _ HQ4.out.below
        clear hK K
        try simp only [Act.put, List.setIfInBounds_toArray, List.set_cons_zero, List.set_cons_succ]
        refine wpAnyH_ready (rs := [7]) (by kernel_rfl) (by simp) (AllReadyH.cons rfl (fun K hK => ?_) AllReadyH.nil)
        go_simp
        replace HQ4 := Lib.hid (HQ4.out.alloc (.cells #[.string (str (hexL (sumOf b)))] 9))
        have HRD := Lib.hid (reads_one w5 (str (hexL (sumOf b))))
        try go_wp2_with fail
        refine hK.out _ _ ?_ (fun hHeld => ?_)
        ·(try dsimp only); exact HCB.out _ HQ4.out.below
        clear hK K
        try simp only [Act.put, List.setIfInBounds_toArray, List.set_cons_zero, List.set_cons_succ]
        refine wpAnyH_ready (rs := [8]) (by kernel_rfl) (by simp) (AllReadyH.cons rfl (fun K hK => ?_) AllReadyH.nil)
        refine sapp_textk 40 rfl rfl (.tmp 33) (.tmp 39) rfl _ (w.heap.size + 2) (.slice AI mI cI) (ids.map str) rfl (by exact HQ4.out.ownI) _ (some ⟨w5.heap.size, 0, none⟩) 1 1 [str (hexL (sumOf b))] rfl (by exact HRD.out) (by exact HIL.out) (by exact HQ4.out.size) ?_
        intro v7 w7 ho7 hg7 hk7
        have y5 := (HQ4.out.g5I hg7).cell 0
        have y6 := (HQ4.out.g5I hg7).frozen 0
        have HB7 : Hid (Below w.heap.size w w7) := HQ4.out.below.grown hg7 HQ4.out.below.size (fun q hq => by have := (HQ4.out.ownI.lt q hq).1; omega)
        have HQ7 := Lib.hid (TQ.appI (o := hashL b) HQ4.out (by rw [List.map_append]; exact ho7) hg7 hk7)
        obtain ⟨A9, m9, c9, hv9⟩ : ∃ A m c, v7 = .slice A m c := (by obtain ⟨A, c, e, _⟩ := ho7.length; exact ⟨A, _, c, e⟩)
        subst hv9
        clear ho7 hg7 hk7
        try go_wp2_with fail
        refine hK.out _ _ ?_ (fun hHeld => ?_)
        ·(try dsimp only); exact HCB.out _ HB7.out
        clear hK K
        try simp only [Act.put, List.setIfInBounds_toArray, List.set_cons_zero, List.set_cons_succ]
        refine take_at (i := 9) (d := 41) (v := ?_) rfl (by kernel_rfl) (hy := .inl ⟨by kernel_rfl, ?_⟩) (h := ?_)
        rotate_left
        ·intro W hSw; (try dsimp only at hSw); go_simp; first | done | with_reducible rfl
        try simp only [Act.put, List.setIfInBounds_toArray, List.set_cons_zero, List.set_cons_succ]
        refine wpAnyH_ready (rs := [10]) (by kernel_rfl) (by simp) (AllReadyH.cons rfl (fun K hK => ?_) AllReadyH.nil)
        go_simp
        try go_wp2_with fail
        refine hK.out _ _ ?_ (fun hHeld => ?_)
        ·(try dsimp only); exact HCB.out _ HQ7.out.below
        clear hK K
        refine wpAnyH_done (by kernel_rfl) ?_ _
        go_wp2_with fail
        go_roundw
        case rel => exact ⟨i + 1, _, _, _, by omega, by go_num, by rw [HTI.out, HTO.out]; exact HQ7.out⟩
        case measure => simp [intOf]; omega
       ·go_simp
        replace HQ4 := Lib.hid (HQ4.out.alloc (.cells #[.string (str (hexL (sumOf b)))] 9))
        have HRD := Lib.hid (reads_one w5 (str (hexL (sumOf b))))
        try go_wp2_with fail
        refine hK.out _ _ ?_ (fun hHeld => ?_)
        ·(try dsimp only); exact HCB.out _ HQ4.out.below
        clear hK K
        try simp only [Act.put, List.setIfInBounds_toArray, List.set_cons_zero, List.set_cons_succ]
        refine wpAnyH_ready (rs := [1]) (by kernel_rfl) (by simp) (AllReadyH.cons rfl (fun K hK => ?_) AllReadyH.nil)
        have x13 := HQ4.out.y0
        go_simp
        try go_wp2_with fail
        refine hK.out _ _ ?_ (fun hHeld => ?_)
        ·(try dsimp only); exact HCB.out _ HQ4.out.below
        clear hK K
        try simp only [Act.put, List.setIfInBounds_toArray, List.set_cons_zero, List.set_cons_succ]
        refine wpAnyH_ready (rs := [8]) (by kernel_rfl) (by simp) (AllReadyH.cons rfl (fun K hK => ?_) AllReadyH.nil)
        refine sapp_textk 40 rfl rfl (.tmp 33) (.tmp 39) rfl _ (w.heap.size + 2) (.slice AI mI cI) (ids.map str) rfl (by exact HQ4.out.ownI) _ (some ⟨w5.heap.size, 0, none⟩) 1 1 [str (hexL (sumOf b))] rfl (by exact HRD.out) (by exact HIL.out) (by exact HQ4.out.size) ?_
        intro v7 w7 ho7 hg7 hk7
        have y5 := (HQ4.out.g5I hg7).cell 0
        have y6 := (HQ4.out.g5I hg7).frozen 0
        have HB7 : Hid (Below w.heap.size w w7) := HQ4.out.below.grown hg7 HQ4.out.below.size (fun q hq => by have := (HQ4.out.ownI.lt q hq).1; omega)
        have HQ7 := Lib.hid (TQ.appI (o := hashL b) HQ4.out (by rw [List.map_append]; exact ho7) hg7 hk7)
        obtain ⟨A9, m9, c9, hv9⟩ : ∃ A m c, v7 = .slice A m c := (by obtain ⟨A, c, e, _⟩ := ho7.length; exact ⟨A, _, c, e⟩)
        subst hv9
        clear ho7 hg7 hk7
        try go_wp2_with fail
        refine hK.out _ _ ?_ (fun hHeld => ?_)
        ·(try dsimp only); exact HCB.out _ HB7.out
        clear hK K
        try simp only [Act.put, List.setIfInBounds_toArray, List.set_cons_zero, List.set_cons_succ]
        refine take_at (i := 9) (d := 41) (v := ?_) rfl (by kernel_rfl) (hy := .inl ⟨by kernel_rfl, ?_⟩) (h := ?_)
        rotate_left
        ·intro W hSw; (try dsimp only at hSw); go_simp; first | done | with_reducible rfl
        try simp only [Act.put, List.setIfInBounds_toArray, List.set_cons_zero, List.set_cons_succ]
        refine wpAnyH_ready (rs := [10]) (by kernel_rfl) (by simp) (AllReadyH.cons rfl (fun K hK => ?_) AllReadyH.nil)
        go_simp
        try go_wp2_with fail
        refine hK.out _ _ ?_ (fun hHeld => ?_)
        ·(try dsimp only); exact HCB.out _ HQ7.out.below
        clear hK K
        refine wpAnyH_done (by kernel_rfl) ?_ _
        go_wp2_with fail
        go_roundw
        case rel => exact ⟨i + 1, _, _, _, by omega, by go_num, by rw [HTI.out, HTO.out]; exact HQ7.out⟩
        case measure => simp [intOf]; omega
     | false =>
      have e1 := HK.out.2 rfl
      subst e1
      go_wp2_with fail
      replace HQ4 := Lib.hid HQ4.out.drew
      refine wp_region_held_drew (S := (fun W => W.cell? (ad.add i) = some (.slice A8 bl c8))) (by kernel_rfl) ?_ (fun hHeld => ?_)
      ·(try dsimp only); exact HCB.out _ HQ4.out.below
      refine take_at (i := 0) (d := 32) (v := ?_) rfl (by kernel_rfl) (hy := .inl ⟨by kernel_rfl, ?_⟩) (h := ?_)
      rotate_left
      ·intro W hSw; (try dsimp only at hSw); go_simp; first | done | with_reducible rfl
      try simp only [Act.put, List.setIfInBounds_toArray, List.set_cons_zero, List.set_cons_succ]
      refine take_at (i := 2) (d := 34) (v := ?_) rfl (by kernel_rfl) (hy := .inl ⟨by kernel_rfl, ?_⟩) (h := ?_)
      rotate_left
      ·intro W hSw; (try dsimp only at hSw); go_simp; first | done | with_reducible rfl
      try simp only [Act.put, List.setIfInBounds_toArray, List.set_cons_zero, List.set_cons_succ]
      refine take_at (i := 3) (d := 35) (v := ?_) rfl (by kernel_rfl) (hy := .inl ⟨by kernel_rfl, ?_⟩) (h := ?_)
      rotate_left
      ·intro W hSw; (try dsimp only at hSw); go_simp; first | done | with_reducible rfl
      try simp only [Act.put, List.setIfInBounds_toArray, List.set_cons_zero, List.set_cons_succ]
      refine take_at (i := 4) (d := 36) (v := ?_) rfl (by kernel_rfl) (hy := .inl ⟨by kernel_rfl, ?_⟩) (h := ?_)
      rotate_left
      ·intro W hSw; (try dsimp only at hSw); go_simp; first | done | with_reducible rfl
      try simp only [Act.put, List.setIfInBounds_toArray, List.set_cons_zero, List.set_cons_succ]
      refine take_at (i := 5) (d := 37) (v := ?_) rfl (by kernel_rfl) (hy := .inl ⟨by kernel_rfl, ?_⟩) (h := ?_)
      rotate_left
      ·intro W hSw; (try dsimp only at hSw); go_simp; first | done | with_reducible rfl
      try simp only [Act.put, List.setIfInBounds_toArray, List.set_cons_zero, List.set_cons_succ]
      refine wpAnyH_ready (rs := [1, 6]) (by kernel_rfl) (by simp) (AllReadyH.cons rfl (fun K hK => ?_) (AllReadyH.cons rfl (fun K hK => ?_) AllReadyH.nil))
      ·have x13 := HQ4.out.y0
       go_simp
       try go_wp2_with fail
       refine hK.out _ _ ?_ (fun hHeld => ?_)
       ·(try dsimp only); exact HCB.out _ HQ4.out.below
       clear hK K
       try simp only [Act.put, List.setIfInBounds_toArray, List.set_cons_zero, List.set_cons_succ]
       refine wpAnyH_ready (rs := [6]) (by kernel_rfl) (by simp) (AllReadyH.cons rfl (fun K hK => ?_) AllReadyH.nil)
       go_simp
       refine (rid_any _ b _ (HSB.out _ HQ4.out.below) (by have h1 := HBL.out; omega)).mono ?_
       rintro e w5 ⟨rfl, hb5⟩
       replace HQ4 := Lib.hid (HQ4.out.bel hb5)
       clear hb5
       try go_wp2_with fail
       refine hK.out _ _ ?_ (fun hHeld => ?_)
       ·(try dsimp only); exact HCB.out _ HQ4.out.below
       clear hK K
       try simp only [Act.put, List.setIfInBounds_toArray, List.set_cons_zero, List.set_cons_succ]
       refine wpAnyH_ready (rs := [7]) (by kernel_rfl) (by simp) (AllReadyH.cons rfl (fun K hK => ?_) AllReadyH.nil)
       go_simp
       replace HQ4 := Lib.hid (HQ4.out.alloc (.cells #[.string (str (hexL (sumOf b)))] 9))
       have HRD := Lib.hid (reads_one w5 (str (hexL (sumOf b))))
       try go_wp2_with fail
       refine hK.out _ _ ?_ (fun hHeld => ?_)
       ·(try dsimp only); exact HCB.out _ HQ4.out.below
       clear hK K
       try simp only [Act.put, List.setIfInBounds_toArray, List.set_cons_zero, List.set_cons_succ]
       refine wpAnyH_ready (rs := [8]) (by kernel_rfl) (by simp) (AllReadyH.cons rfl (fun K hK => ?_) AllReadyH.nil)
       refine sapp_textk 40 rfl rfl (.tmp 33) (.tmp 39) rfl _ (w.heap.size + 2) (.slice AI mI cI) (ids.map str) rfl (by exact HQ4.out.ownI) _ (some ⟨w5.heap.size, 0, none⟩) 1 1 [str (hexL (sumOf b))] rfl (by exact HRD.out) (by exact HIL.out) (by exact HQ4.out.size) ?_
       intro v7 w7 ho7 hg7 hk7
       have y5 := (HQ4.out.g5I hg7).cell 0
       have y6 := (HQ4.out.g5I hg7).frozen 0
       have HB7 : Hid (Below w.heap.size w w7) := HQ4.out.below.grown hg7 HQ4.out.below.size (fun q hq => by have := (HQ4.out.ownI.lt q hq).1; omega)
       have HQ7 := Lib.hid (TQ.appI (o := hashL b) HQ4.out (by rw [List.map_append]; exact ho7) hg7 hk7)
       obtain ⟨A9, m9, c9, hv9⟩ : ∃ A m c, v7 = .slice A m c := (by obtain ⟨A, c, e, _⟩ := ho7.length; exact ⟨A, _, c, e⟩)
       subst hv9
       clear ho7 hg7 hk7
       try go_wp2_with fail
       refine hK.out _ _ ?_ (fun hHeld => ?_)
       ·(try dsimp only); exact HCB.out _ HB7.out
       clear hK K
       try simp only [Act.put, List.setIfInBounds_toArray, List.set_cons_zero, List.set_cons_succ]
       refine take_at (i := 9) (d := 41) (v := ?_) rfl (by kernel_rfl) (hy := .inl ⟨by kernel_rfl, ?_⟩) (h := ?_)
       rotate_left
       ·intro W hSw; (try dsimp only at hSw); go_simp; first | done | with_reducible rfl
       try simp only [Act.put, List.setIfInBounds_toArray, List.set_cons_zero, List.set_cons_succ]
       refine wpAnyH_ready (rs := [10]) (by kernel_rfl) (by simp) (AllReadyH.cons rfl (fun K hK => ?_) AllReadyH.nil)
       go_simp
       try go_wp2_with fail
       refine hK.out _ _ ?_ (fun hHeld => ?_)
       ·(try dsimp only); exact HCB.out _ HQ7.out.below
       clear hK K
       refine wpAnyH_done (by kernel_rfl) ?_ _
       go_wp2_with fail
       go_roundw
       case rel => exact ⟨i + 1, _, _, _, by omega, by go_num, by rw [HTI.out, HTO.out]; exact HQ7.out⟩
       case measure => simp [intOf]; omega
      ·go_simp
       refine (rid_any _ b _ (HSB.out _ HQ4.out.below) (by have h1 := HBL.out; omega)).mono ?_
       rintro e w5 ⟨rfl, hb5⟩
       replace HQ4 := Lib.hid (HQ4.out.bel hb5)
       clear hb5
       try go_wp2_with fail
       refine hK.out _ _ ?_ (fun hHeld => ?_)
       ·(try dsimp only); exact HCB.out _ HQ4.out.below
       clear hK K
       try simp only [Act.put, List.setIfInBounds_toArray, List.set_cons_zero, List.set_cons_succ]
       refine wpAnyH_ready (rs := [1, 7]) (by kernel_rfl) (by simp) (AllReadyH.cons rfl (fun K hK => ?_) (AllReadyH.cons rfl (fun K hK => ?_) AllReadyH.nil))
       ·have x13 := HQ4.out.y0
        go_simp
        try go_wp2_with fail
        refine hK.out _ _ ?_ (fun hHeld => ?_)
        ·(try dsimp only); exact HCB.out _ HQ4.out.below
        clear hK K
        try simp only [Act.put, List.setIfInBounds_toArray, List.set_cons_zero, List.set_cons_succ]
        refine wpAnyH_ready (rs := [7]) (by kernel_rfl) (by simp) (AllReadyH.cons rfl (fun K hK => ?_) AllReadyH.nil)
        go_simp
        replace HQ4 := Lib.hid (HQ4.out.alloc (.cells #[.string (str (hexL (sumOf b)))] 9))
        have HRD := Lib.hid (reads_one w5 (str (hexL (sumOf b))))
        try go_wp2_with fail
        refine hK.out _ _ ?_ (fun hHeld => ?_)
        ·(try dsimp only); exact HCB.out _ HQ4.out.below
        clear hK K
        try simp only [Act.put, List.setIfInBounds_toArray, List.set_cons_zero, List.set_cons_succ]
        refine wpAnyH_ready (rs := [8]) (by kernel_rfl) (by simp) (AllReadyH.cons rfl (fun K hK => ?_) AllReadyH.nil)
        refine sapp_textk 40 rfl rfl (.tmp 33) (.tmp 39) rfl _ (w.heap.size + 2) (.slice AI mI cI) (ids.map str) rfl (by exact HQ4.out.ownI) _ (some ⟨w5.heap.size, 0, none⟩) 1 1 [str (hexL (sumOf b))] rfl (by exact HRD.out) (by exact HIL.out) (by exact HQ4.out.size) ?_
        intro v7 w7 ho7 hg7 hk7
        have y5 := (HQ4.out.g5I hg7).cell 0
        have y6 := (HQ4.out.g5I hg7).frozen 0
        have HB7 : Hid (Below w.heap.size w w7) := HQ4.out.below.grown hg7 HQ4.out.below.size (fun q hq => by have := (HQ4.out.ownI.lt q hq).1; omega)
        have HQ7 := Lib.hid (TQ.appI (o := hashL b) HQ4.out (by rw [List.map_append]; exact ho7) hg7 hk7)
        obtain ⟨A9, m9, c9, hv9⟩ : ∃ A m c, v7 = .slice A m c := (by obtain ⟨A, c, e, _⟩ := ho7.length; exact ⟨A, _, c, e⟩)
        subst hv9
        clear ho7 hg7 hk7
        try go_wp2_with fail
        refine hK.out _ _ ?_ (fun hHeld => ?_)
        ·(try dsimp only); exact HCB.out _ HB7.out
        clear hK K
        try simp only [Act.put, List.setIfInBounds_toArray, List.set_cons_zero, List.set_cons_succ]
        refine take_at (i := 9) (d := 41) (v := ?_) rfl (by kernel_rfl) (hy := .inl ⟨by kernel_rfl, ?_⟩) (h := ?_)
        rotate_left
        ·intro W hSw; (try dsimp only at hSw); go_simp; first | done | with_reducible rfl
        try simp only [Act.put, List.setIfInBounds_toArray, List.set_cons_zero, List.set_cons_succ]
        refine wpAnyH_ready (rs := [10]) (by kernel_rfl) (by simp) (AllReadyH.cons rfl (fun K hK => ?_) AllReadyH.nil)
        go_simp
        try go_wp2_with fail
        refine hK.out _ _ ?_ (fun hHeld => ?_)
        ·(try dsimp only); exact HCB.out _ HQ7.out.below
        clear hK K
        refine wpAnyH_done (by kernel_rfl) ?_ _
        go_wp2_with fail
        go_roundw
        case rel => exact ⟨i + 1, _, _, _, by omega, by go_num, by rw [HTI.out, HTO.out]; exact HQ7.out⟩
        case measure => simp [intOf]; omega
       ·go_simp
        replace HQ4 := Lib.hid (HQ4.out.alloc (.cells #[.string (str (hexL (sumOf b)))] 9))
        have HRD := Lib.hid (reads_one w5 (str (hexL (sumOf b))))
        try go_wp2_with fail
        refine hK.out _ _ ?_ (fun hHeld => ?_)
        ·(try dsimp only); exact HCB.out _ HQ4.out.below
        clear hK K
        try simp only [Act.put, List.setIfInBounds_toArray, List.set_cons_zero, List.set_cons_succ]
        refine wpAnyH_ready (rs := [1]) (by kernel_rfl) (by simp) (AllReadyH.cons rfl (fun K hK => ?_) AllReadyH.nil)
        have x13 := HQ4.out.y0
        go_simp
        try go_wp2_with fail
        refine hK.out _ _ ?_ (fun hHeld => ?_)
        ·(try dsimp only); exact HCB.out _ HQ4.out.below
        clear hK K
        try simp only [Act.put, List.setIfInBounds_toArray, List.set_cons_zero, List.set_cons_succ]
        refine wpAnyH_ready (rs := [8]) (by kernel_rfl) (by simp) (AllReadyH.cons rfl (fun K hK => ?_) AllReadyH.nil)
        refine sapp_textk 40 rfl rfl (.tmp 33) (.tmp 39) rfl _ (w.heap.size + 2) (.slice AI mI cI) (ids.map str) rfl (by exact HQ4.out.ownI) _ (some ⟨w5.heap.size, 0, none⟩) 1 1 [str (hexL (sumOf b))] rfl (by exact HRD.out) (by exact HIL.out) (by exact HQ4.out.size) ?_
        intro v7 w7 ho7 hg7 hk7
        have y5 := (HQ4.out.g5I hg7).cell 0
        have y6 := (HQ4.out.g5I hg7).frozen 0
        have HB7 : Hid (Below w.heap.size w w7) := HQ4.out.below.grown hg7 HQ4.out.below.size (fun q hq => by have := (HQ4.out.ownI.lt q hq).1; omega)
        have HQ7 := Lib.hid (TQ.appI (o := hashL b) HQ4.out (by rw [List.map_append]; exact ho7) hg7 hk7)
        obtain ⟨A9, m9, c9, hv9⟩ : ∃ A m c, v7 = .slice A m c := (by obtain ⟨A, c, e, _⟩ := ho7.length; exact ⟨A, _, c, e⟩)
        subst hv9
        clear ho7 hg7 hk7
        try go_wp2_with fail
        refine hK.out _ _ ?_ (fun hHeld => ?_)
        ·(try dsimp only); exact HCB.out _ HB7.out
        clear hK K
        try simp only [Act.put, List.setIfInBounds_toArray, List.set_cons_zero, List.set_cons_succ]
        refine take_at (i := 9) (d := 41) (v := ?_) rfl (by kernel_rfl) (hy := .inl ⟨by kernel_rfl, ?_⟩) (h := ?_)
        rotate_left
        ·intro W hSw; (try dsimp only at hSw); go_simp; first | done | with_reducible rfl
        try simp only [Act.put, List.setIfInBounds_toArray, List.set_cons_zero, List.set_cons_succ]
        refine wpAnyH_ready (rs := [10]) (by kernel_rfl) (by simp) (AllReadyH.cons rfl (fun K hK => ?_) AllReadyH.nil)
        go_simp
        try go_wp2_with fail
        refine hK.out _ _ ?_ (fun hHeld => ?_)
        ·(try dsimp only); exact HCB.out _ HQ7.out.below
        clear hK K
        refine wpAnyH_done (by kernel_rfl) ?_ _
        go_wp2_with fail
        go_roundw
        case rel => exact ⟨i + 1, _, _, _, by omega, by go_num, by rw [HTI.out, HTO.out]; exact HQ7.out⟩
        case measure => simp [intOf]; omega
    ·go_simp
     replace HCP := Lib.hid (HCP.out.alloc (.cells #[.slice A5 ol c5] 32))
     replace HQ := Lib.hid (HQ.out.alloc (.cells #[.slice A5 ol c5] 32))
     have HTM : Hid (TmpL lstK (fun q => F q ∨ (Value.slice A5 ol c5).ownBlock = some q) (w2.alloc (.cells #[.slice A5 ol c5] 32)) (.slice (some ⟨w2.heap.size, 0, none⟩) 1 1) [o]) := TmpL.one (K := lstK) (a := o) (d := .slice A5 ol c5) (Blk.new _ 32 #[.slice A5 ol c5]) rfl (own_by HCP.out.own (fun q hq => .inr hq))
     try go_wp2_with fail
     refine hK.out _ _ ?_ (fun hHeld => ?_)
     ·(try dsimp only); exact HCO.out _ HQ.out.below
     clear hK K
     try simp only [Act.put, List.setIfInBounds_toArray, List.set_cons_zero, List.set_cons_succ]
     refine wpAnyH_ready (rs := [1]) (by kernel_rfl) (by simp) (AllReadyH.cons rfl (fun K hK => ?_) AllReadyH.nil)
     have x13 := HQ.out.y1
     go_simp
     try go_wp2_with fail
     refine hK.out _ _ ?_ (fun hHeld => ?_)
     ·(try dsimp only); exact HCO.out _ HQ.out.below
     clear hK K
     try simp only [Act.put, List.setIfInBounds_toArray, List.set_cons_zero, List.set_cons_succ]
     refine wpAnyH_ready (rs := [8]) (by kernel_rfl) (by simp) (AllReadyH.cons rfl (fun K hK => ?_) AllReadyH.nil)
     refine sapp_list 23 rfl rfl (.tmp 16) (.tmp 22) rfl (by exact HCP.out.row HQ.out) (by exact HTM.out) (by rfl) (by rfl) (by exact HOBL.out) (by exact HQ.out.size) (by exact HCP.out.lt HQ.out) ?_
     intro v4 w4 ho4 hg4 hk4
     have y3 := (HQ.out.g5O hg4).cell 1
     have y4 := (HQ.out.g5O hg4).frozen 1
     have HB4 : Hid (Below w.heap.size w w4) := HQ.out.below.grown hg4 HQ.out.below.size (fun q hq => by have := (HQ.out.ownO.lt q hq).1; omega)
     have HQ4 := Lib.hid (TQ.appO HQ.out (HCP.out.news HQ.out) ho4 hg4)
     obtain ⟨A6, c6, hv6, _, _⟩ := TmpL.slice (K := lstK) ho4.tmp
     obtain ⟨m6, hm6⟩ : ∃ m, (objs ++ [o]).length = m := ⟨_, rfl⟩
     have hv7 := hv6.trans (congrArg (fun m => Value.slice A6 m c6) hm6)
     clear hv6
     subst hv7
     clear ho4 hg4 hk4 hm6
     try go_wp2_with fail
     refine hK.out _ _ ?_ (fun hHeld => ?_)
     ·(try dsimp only); exact HCO.out _ HB4.out
     clear hK K
     try simp only [Act.put, List.setIfInBounds_toArray, List.set_cons_zero, List.set_cons_succ]
     refine take_at (i := 9) (d := 24) (v := ?_) rfl (by kernel_rfl) (hy := .inl ⟨by kernel_rfl, ?_⟩) (h := ?_)
     rotate_left
     ·intro W hSw; (try dsimp only at hSw); go_simp; first | done | with_reducible rfl
     try simp only [Act.put, List.setIfInBounds_toArray, List.set_cons_zero, List.set_cons_succ]
     refine wpAnyH_ready (rs := [10]) (by kernel_rfl) (by simp) (AllReadyH.cons rfl (fun K hK => ?_) AllReadyH.nil)
     go_simp
     try go_wp2_with fail
     refine hK.out _ _ ?_ (fun hHeld => ?_)
     ·(try dsimp only); exact HCO.out _ HQ4.out.below
     clear hK K
     refine wpAnyH_done (by kernel_rfl) ?_ _
     clear y3 y4
     cases lie with
     | true =>
      have e1 := HK.out.1 rfl
      go_wp2_with fail
      replace HQ4 := Lib.hid HQ4.out.drew
      refine wp_region_held_drew (S := (fun W => W.cell? (ad.add k) = some (.slice A8 bl c8))) (by kernel_rfl) ?_ (fun hHeld => ?_)
      ·(try dsimp only); exact HCB.out _ HQ4.out.below
      refine take_at (i := 0) (d := 32) (v := ?_) rfl (by kernel_rfl) (hy := .inl ⟨by kernel_rfl, ?_⟩) (h := ?_)
      rotate_left
      ·intro W hSw; (try dsimp only at hSw); go_simp; first | done | with_reducible rfl
      try simp only [Act.put, List.setIfInBounds_toArray, List.set_cons_zero, List.set_cons_succ]
      refine take_at (i := 2) (d := 34) (v := ?_) rfl (by kernel_rfl) (hy := .inl ⟨by kernel_rfl, ?_⟩) (h := ?_)
      rotate_left
      ·intro W hSw; (try dsimp only at hSw); go_simp; first | done | with_reducible rfl
      try simp only [Act.put, List.setIfInBounds_toArray, List.set_cons_zero, List.set_cons_succ]
      refine take_at (i := 3) (d := 35) (v := ?_) rfl (by kernel_rfl) (hy := .inl ⟨by kernel_rfl, ?_⟩) (h := ?_)
      rotate_left
      ·intro W hSw; (try dsimp only at hSw); go_simp; first | done | with_reducible rfl
      try simp only [Act.put, List.setIfInBounds_toArray, List.set_cons_zero, List.set_cons_succ]
      refine take_at (i := 4) (d := 36) (v := ?_) rfl (by kernel_rfl) (hy := .inl ⟨by kernel_rfl, ?_⟩) (h := ?_)
      rotate_left
      ·intro W hSw; (try dsimp only at hSw); go_simp; first | done | with_reducible rfl
      try simp only [Act.put, List.setIfInBounds_toArray, List.set_cons_zero, List.set_cons_succ]
      refine take_at (i := 5) (d := 37) (v := ?_) rfl (by kernel_rfl) (hy := .inl ⟨by kernel_rfl, ?_⟩) (h := ?_)
      rotate_left
      ·intro W hSw; (try dsimp only at hSw); go_simp; first | done | with_reducible rfl
      try simp only [Act.put, List.setIfInBounds_toArray, List.set_cons_zero, List.set_cons_succ]
      refine wpAnyH_ready (rs := [1, 6]) (by kernel_rfl) (by simp) (AllReadyH.cons rfl (fun K hK => ?_) (AllReadyH.cons rfl (fun K hK => ?_) AllReadyH.nil))
      ·have x13 := HQ4.out.y0
       go_simp
       try go_wp2_with fail
       refine hK.out _ _ ?_ (fun hHeld => ?_)
       ·(try dsimp only); exact HCB.out _ HQ4.out.below
       clear hK K
       try simp only [Act.put, List.setIfInBounds_toArray, List.set_cons_zero, List.set_cons_succ]
       refine wpAnyH_ready (rs := [6]) (by kernel_rfl) (by simp) (AllReadyH.cons rfl (fun K hK => ?_) AllReadyH.nil)
       go_simp
       refine (rid_any _ b _ (HSB.out _ HQ4.out.below) (by have h1 := HBL.out; omega)).mono ?_
       rintro e w5 ⟨rfl, hb5⟩
       replace HQ4 := Lib.hid (HQ4.out.bel hb5)
       clear hb5
       try go_wp2_with fail
       refine hK.out _ _ ?_ (fun hHeld => ?_)
       ·(try dsimp only); exact HCB.out _ HQ4.out.below
       clear hK K
       try simp only [Act.put, List.setIfInBounds_toArray, List.set_cons_zero, List.set_cons_succ]
       refine wpAnyH_ready (rs := [7]) (by kernel_rfl) (by simp) (AllReadyH.cons rfl (fun K hK => ?_) AllReadyH.nil)
       go_simp
       replace HQ4 := Lib.hid (HQ4.out.alloc (.cells #[.string (str (hexL (sumOf b)))] 9))
       have HRD := Lib.hid (reads_one w5 (str (hexL (sumOf b))))
       try go_wp2_with fail
       refine hK.out _ _ ?_ (fun hHeld => ?_)
       ·(try dsimp only); exact HCB.out _ HQ4.out.below
       clear hK K
       try simp only [Act.put, List.setIfInBounds_toArray, List.set_cons_zero, List.set_cons_succ]
       refine wpAnyH_ready (rs := [8]) (by kernel_rfl) (by simp) (AllReadyH.cons rfl (fun K hK => ?_) AllReadyH.nil)
       refine sapp_textk 40 rfl rfl (.tmp 33) (.tmp 39) rfl _ (w.heap.size + 2) (.slice AI mI cI) (ids.map str) rfl (by exact HQ4.out.ownI) _ (some ⟨w5.heap.size, 0, none⟩) 1 1 [str (hexL (sumOf b))] rfl (by exact HRD.out) (by exact HIL.out) (by exact HQ4.out.size) ?_
       intro v7 w7 ho7 hg7 hk7
       have y5 := (HQ4.out.g5I hg7).cell 0
       have y6 := (HQ4.out.g5I hg7).frozen 0
       have HB7 : Hid (Below w.heap.size w w7) := HQ4.out.below.grown hg7 HQ4.out.below.size (fun q hq => by have := (HQ4.out.ownI.lt q hq).1; omega)
       have HQ7 := Lib.hid (TQ.appI (o := hashL b) HQ4.out (by rw [List.map_append]; exact ho7) hg7 hk7)
       obtain ⟨A9, m9, c9, hv9⟩ : ∃ A m c, v7 = .slice A m c := (by obtain ⟨A, c, e, _⟩ := ho7.length; exact ⟨A, _, c, e⟩)
       subst hv9
       clear ho7 hg7 hk7
       try go_wp2_with fail
       refine hK.out _ _ ?_ (fun hHeld => ?_)
       ·(try dsimp only); exact HCB.out _ HB7.out
       clear hK K
       try simp only [Act.put, List.setIfInBounds_toArray, List.set_cons_zero, List.set_cons_succ]
       refine take_at (i := 9) (d := 41) (v := ?_) rfl (by kernel_rfl) (hy := .inl ⟨by kernel_rfl, ?_⟩) (h := ?_)
       rotate_left
       ·intro W hSw; (try dsimp only at hSw); go_simp; first | done | with_reducible rfl
       try simp only [Act.put, List.setIfInBounds_toArray, List.set_cons_zero, List.set_cons_succ]
       refine wpAnyH_ready (rs := [10]) (by kernel_rfl) (by simp) (AllReadyH.cons rfl (fun K hK => ?_) AllReadyH.nil)
       go_simp
       try go_wp2_with fail
       refine hK.out _ _ ?_ (fun hHeld => ?_)
       ·(try dsimp only); exact HCB.out _ HQ7.out.below
       clear hK K
       refine wpAnyH_done (by kernel_rfl) ?_ _
       go_wp2_with fail
       go_roundw
       case rel => exact ⟨i + 1, _, _, _, by omega, by go_num, by rw [HTI.out, HTO.out]; exact HQ7.out⟩
       case measure => simp [intOf]; omega
      ·go_simp
       refine (rid_any _ b _ (HSB.out _ HQ4.out.below) (by have h1 := HBL.out; omega)).mono ?_
       rintro e w5 ⟨rfl, hb5⟩
       replace HQ4 := Lib.hid (HQ4.out.bel hb5)
       clear hb5
       try go_wp2_with fail
       refine hK.out _ _ ?_ (fun hHeld => ?_)
       ·(try dsimp only); exact HCB.out _ HQ4.out.below
       clear hK K
       try simp only [Act.put, List.setIfInBounds_toArray, List.set_cons_zero, List.set_cons_succ]
       refine wpAnyH_ready (rs := [1, 7]) (by kernel_rfl) (by simp) (AllReadyH.cons rfl (fun K hK => ?_) (AllReadyH.cons rfl (fun K hK => ?_) AllReadyH.nil))
       ·have x13 := HQ4.out.y0
        go_simp
        try go_wp2_with fail
        refine hK.out _ _ ?_ (fun hHeld => ?_)
        ·(try dsimp only); exact HCB.out _ HQ4.out.below
        clear hK K
        try simp only [Act.put, List.setIfInBounds_toArray, List.set_cons_zero, List.set_cons_succ]
        refine wpAnyH_ready (rs := [7]) (by kernel_rfl) (by simp) (AllReadyH.cons rfl (fun K hK => ?_) AllReadyH.nil)
        go_simp
        replace HQ4 := Lib.hid (HQ4.out.alloc (.cells #[.string (str (hexL (sumOf b)))] 9))
        have HRD := Lib.hid (reads_one w5 (str (hexL (sumOf b))))
        try go_wp2_with fail
        refine hK.out _ _ ?_ (fun hHeld => ?_)
        ·(try dsimp only); exact HCB.out _ HQ4.out.below
        clear hK K
        try simp only [Act.put, List.setIfInBounds_toArray, List.set_cons_zero, List.set_cons_succ]
        refine wpAnyH_ready (rs := [8]) (by kernel_rfl) (by simp) (AllReadyH.cons rfl (fun K hK => ?_) AllReadyH.nil)
        refine sapp_textk 40 rfl rfl (.tmp 33) (.tmp 39) rfl _ (w.heap.size + 2) (.slice AI mI cI) (ids.map str) rfl (by exact HQ4.out.ownI) _ (some ⟨w5.heap.size, 0, none⟩) 1 1 [str (hexL (sumOf b))] rfl (by exact HRD.out) (by exact HIL.out) (by exact HQ4.out.size) ?_
        intro v7 w7 ho7 hg7 hk7
        have y5 := (HQ4.out.g5I hg7).cell 0
        have y6 := (HQ4.out.g5I hg7).frozen 0
        have HB7 : Hid (Below w.heap.size w w7) := HQ4.out.below.grown hg7 HQ4.out.below.size (fun q hq => by have := (HQ4.out.ownI.lt q hq).1; omega)
        have HQ7 := Lib.hid (TQ.appI (o := hashL b) HQ4.out (by rw [List.map_append]; exact ho7) hg7 hk7)
        obtain ⟨A9, m9, c9, hv9⟩ : ∃ A m c, v7 = .slice A m c := (by obtain ⟨A, c, e, _⟩ := ho7.length; exact ⟨A, _, c, e⟩)
        subst hv9
        clear ho7 hg7 hk7
        try go_wp2_with fail
        refine hK.out _ _ ?_ (fun hHeld => ?_)
        ·(try dsimp only); exact HCB.out _ HB7.out
        clear hK K
        try simp only [Act.put, List.setIfInBounds_toArray, List.set_cons_zero, List.set_cons_succ]
        refine take_at (i := 9) (d := 41) (v := ?_) rfl (by kernel_rfl) (hy := .inl ⟨by kernel_rfl, ?_⟩) (h := ?_)
        rotate_left
        ·intro W hSw; (try dsimp only at hSw); go_simp; first | done | with_reducible rfl
        try simp only [Act.put, List.setIfInBounds_toArray, List.set_cons_zero, List.set_cons_succ]
        refine wpAnyH_ready (rs := [10]) (by kernel_rfl) (by simp) (AllReadyH.cons rfl (fun K hK => ?_) AllReadyH.nil)
        go_simp
        try go_wp2_with fail
        refine hK.out _ _ ?_ (fun hHeld => ?_)
        ·(try dsimp only); exact HCB.out _ HQ7.out.below
        clear hK K
        refine wpAnyH_done (by kernel_rfl) ?_ _
        go_wp2_with fail
        go_roundw
        case rel => exact ⟨i + 1, _, _, _, by omega, by go_num, by rw [HTI.out, HTO.out]; exact HQ7.out⟩
        case measure => simp [intOf]; omega
       ·go_simp
        replace HQ4 := Lib.hid (HQ4.out.alloc (.cells #[.string (str (hexL (sumOf b)))] 9))
        have HRD := Lib.hid (reads_one w5 (str (hexL (sumOf b))))
        try go_wp2_with fail
        refine hK.out _ _ ?_ (fun hHeld => ?_)
        ·(try dsimp only); exact HCB.out _ HQ4.out.below
        clear hK K
        try simp only [Act.put, List.setIfInBounds_toArray, List.set_cons_zero, List.set_cons_succ]
        refine wpAnyH_ready (rs := [1]) (by kernel_rfl) (by simp) (AllReadyH.cons rfl (fun K hK => ?_) AllReadyH.nil)
        have x13 := HQ4.out.y0
        go_simp
        try go_wp2_with fail
        refine hK.out _ _ ?_ (fun hHeld => ?_)
        ·(try dsimp only); exact HCB.out _ HQ4.out.below
        clear hK K
        try simp only [Act.put, List.setIfInBounds_toArray, List.set_cons_zero, List.set_cons_succ]
        refine wpAnyH_ready (rs := [8]) (by kernel_rfl) (by simp) (AllReadyH.cons rfl (fun K hK => ?_) AllReadyH.nil)
        refine sapp_textk 40 rfl rfl (.tmp 33) (.tmp 39) rfl _ (w.heap.size + 2) (.slice AI mI cI) (ids.map str) rfl (by exact HQ4.out.ownI) _ (some ⟨w5.heap.size, 0, none⟩) 1 1 [str (hexL (sumOf b))] rfl (by exact HRD.out) (by exact HIL.out) (by exact HQ4.out.size) ?_
        intro v7 w7 ho7 hg7 hk7
        have y5 := (HQ4.out.g5I hg7).cell 0
        have y6 := (HQ4.out.g5I hg7).frozen 0
        have HB7 : Hid (Below w.heap.size w w7) := HQ4.out.below.grown hg7 HQ4.out.below.size (fun q hq => by have := (HQ4.out.ownI.lt q hq).1; omega)
        have HQ7 := Lib.hid (TQ.appI (o := hashL b) HQ4.out (by rw [List.map_append]; exact ho7) hg7 hk7)
        obtain ⟨A9, m9, c9, hv9⟩ : ∃ A m c, v7 = .slice A m c := (by obtain ⟨A, c, e, _⟩ := ho7.length; exact ⟨A, _, c, e⟩)
        subst hv9
        clear ho7 hg7 hk7
        try go_wp2_with fail
        refine hK.out _ _ ?_ (fun hHeld => ?_)
        ·(try dsimp only); exact HCB.out _ HB7.out
        clear hK K
        try simp only [Act.put, List.setIfInBounds_toArray, List.set_cons_zero, List.set_cons_succ]
        refine take_at (i := 9) (d := 41) (v := ?_) rfl (by kernel_rfl) (hy := .inl ⟨by kernel_rfl, ?_⟩) (h := ?_)
        rotate_left
        ·intro W hSw; (try dsimp only at hSw); go_simp; first | done | with_reducible rfl
        try simp only [Act.put, List.setIfInBounds_toArray, List.set_cons_zero, List.set_cons_succ]
        refine wpAnyH_ready (rs := [10]) (by kernel_rfl) (by simp) (AllReadyH.cons rfl (fun K hK => ?_) AllReadyH.nil)
        go_simp
        try go_wp2_with fail
        refine hK.out _ _ ?_ (fun hHeld => ?_)
        ·(try dsimp only); exact HCB.out _ HQ7.out.below
        clear hK K
        refine wpAnyH_done (by kernel_rfl) ?_ _
        go_wp2_with fail
        go_roundw
        case rel => exact ⟨i + 1, _, _, _, by omega, by go_num, by rw [HTI.out, HTO.out]; exact HQ7.out⟩
        case measure => simp [intOf]; omega
     | false =>
      have e1 := HK.out.2 rfl
      subst e1
      go_wp2_with fail
      replace HQ4 := Lib.hid HQ4.out.drew
      refine wp_region_held_drew (S := (fun W => W.cell? (ad.add i) = some (.slice A8 bl c8))) (by kernel_rfl) ?_ (fun hHeld => ?_)
      ·(try dsimp only); exact HCB.out _ HQ4.out.below
      refine take_at (i := 0) (d := 32) (v := ?_) rfl (by kernel_rfl) (hy := .inl ⟨by kernel_rfl, ?_⟩) (h := ?_)
      rotate_left
      ·intro W hSw; (try dsimp only at hSw); go_simp; first | done | with_reducible rfl
      try simp only [Act.put, List.setIfInBounds_toArray, List.set_cons_zero, List.set_cons_succ]
      refine take_at (i := 2) (d := 34) (v := ?_) rfl (by kernel_rfl) (hy := .inl ⟨by kernel_rfl, ?_⟩) (h := ?_)
      rotate_left
      ·intro W hSw; (try dsimp only at hSw); go_simp; first | done | with_reducible rfl
      try simp only [Act.put, List.setIfInBounds_toArray, List.set_cons_zero, List.set_cons_succ]
      refine take_at (i := 3) (d := 35) (v := ?_) rfl (by kernel_rfl) (hy := .inl ⟨by kernel_rfl, ?_⟩) (h := ?_)
      rotate_left
      ·intro W hSw; (try dsimp only at hSw); go_simp; first | done | with_reducible rfl
      try simp only [Act.put, List.setIfInBounds_toArray, List.set_cons_zero, List.set_cons_succ]
      refine take_at (i := 4) (d := 36) (v := ?_) rfl (by kernel_rfl) (hy := .inl ⟨by kernel_rfl, ?_⟩) (h := ?_)
      rotate_left
      ·intro W hSw; (try dsimp only at hSw); go_simp; first | done | with_reducible rfl
      try simp only [Act.put, List.setIfInBounds_toArray, List.set_cons_zero, List.set_cons_succ]
      refine take_at (i := 5) (d := 37) (v := ?_) rfl (by kernel_rfl) (hy := .inl ⟨by kernel_rfl, ?_⟩) (h := ?_)
      rotate_left
      ·intro W hSw; (try dsimp only at hSw); go_simp; first | done | with_reducible rfl
      try simp only [Act.put, List.setIfInBounds_toArray, List.set_cons_zero, List.set_cons_succ]
      refine wpAnyH_ready (rs := [1, 6]) (by kernel_rfl) (by simp) (AllReadyH.cons rfl (fun K hK => ?_) (AllReadyH.cons rfl (fun K hK => ?_) AllReadyH.nil))
      ·have x13 := HQ4.out.y0
       go_simp
       try go_wp2_with fail
       refine hK.out _ _ ?_ (fun hHeld => ?_)
       ·(try dsimp only); exact HCB.out _ HQ4.out.below
       clear hK K
       try simp only [Act.put, List.setIfInBounds_toArray, List.set_cons_zero, List.set_cons_succ]
       refine wpAnyH_ready (rs := [6]) (by kernel_rfl) (by simp) (AllReadyH.cons rfl (fun K hK => ?_) AllReadyH.nil)
       go_simp
       refine (rid_any _ b _ (HSB.out _ HQ4.out.below) (by have h1 := HBL.out; omega)).mono ?_
       rintro e w5 ⟨rfl, hb5⟩
       replace HQ4 := Lib.hid (HQ4.out.bel hb5)
       clear hb5
       try go_wp2_with fail
       refine hK.out _ _ ?_ (fun hHeld => ?_)
       ·(try dsimp only); exact HCB.out _ HQ4.out.below
       clear hK K
       try simp only [Act.put, List.setIfInBounds_toArray, List.set_cons_zero, List.set_cons_succ]
       refine wpAnyH_ready (rs := [7]) (by kernel_rfl) (by simp) (AllReadyH.cons rfl (fun K hK => ?_) AllReadyH.nil)
       go_simp
       replace HQ4 := Lib.hid (HQ4.out.alloc (.cells #[.string (str (hexL (sumOf b)))] 9))
       have HRD := Lib.hid (reads_one w5 (str (hexL (sumOf b))))
       try go_wp2_with fail
       refine hK.out _ _ ?_ (fun hHeld => ?_)
       ·(try dsimp only); exact HCB.out _ HQ4.out.below
       clear hK K
       try simp only [Act.put, List.setIfInBounds_toArray, List.set_cons_zero, List.set_cons_succ]
       refine wpAnyH_ready (rs := [8]) (by kernel_rfl) (by simp) (AllReadyH.cons rfl (fun K hK => ?_) AllReadyH.nil)
       refine sapp_textk 40 rfl rfl (.tmp 33) (.tmp 39) rfl _ (w.heap.size + 2) (.slice AI mI cI) (ids.map str) rfl (by exact HQ4.out.ownI) _ (some ⟨w5.heap.size, 0, none⟩) 1 1 [str (hexL (sumOf b))] rfl (by exact HRD.out) (by exact HIL.out) (by exact HQ4.out.size) ?_
       intro v7 w7 ho7 hg7 hk7
       have y5 := (HQ4.out.g5I hg7).cell 0
       have y6 := (HQ4.out.g5I hg7).frozen 0
       have HB7 : Hid (Below w.heap.size w w7) := HQ4.out.below.grown hg7 HQ4.out.below.size (fun q hq => by have := (HQ4.out.ownI.lt q hq).1; omega)
       have HQ7 := Lib.hid (TQ.appI (o := hashL b) HQ4.out (by rw [List.map_append]; exact ho7) hg7 hk7)
       obtain ⟨A9, m9, c9, hv9⟩ : ∃ A m c, v7 = .slice A m c := (by obtain ⟨A, c, e, _⟩ := ho7.length; exact ⟨A, _, c, e⟩)
       subst hv9
       clear ho7 hg7 hk7
       try go_wp2_with fail
       refine hK.out _ _ ?_ (fun hHeld => ?_)
       ·(try dsimp only); exact HCB.out _ HB7.out
       clear hK K
       try simp only [Act.put, List.setIfInBounds_toArray, List.set_cons_zero, List.set_cons_succ]
       refine take_at (i := 9) (d := 41) (v := ?_) rfl (by kernel_rfl) (hy := .inl ⟨by kernel_rfl, ?_⟩) (h := ?_)
       rotate_left
       ·intro W hSw; (try dsimp only at hSw); go_simp; first | done | with_reducible rfl
       try simp only [Act.put, List.setIfInBounds_toArray, List.set_cons_zero, List.set_cons_succ]
       refine wpAnyH_ready (rs := [10]) (by kernel_rfl) (by simp) (AllReadyH.cons rfl (fun K hK => ?_) AllReadyH.nil)
       go_simp
       try go_wp2_with fail
       refine hK.out _ _ ?_ (fun hHeld => ?_)
       ·(try dsimp only); exact HCB.out _ HQ7.out.below
       clear hK K
       refine wpAnyH_done (by kernel_rfl) ?_ _
       go_wp2_with fail
       go_roundw
       case rel => exact ⟨i + 1, _, _, _, by omega, by go_num, by rw [HTI.out, HTO.out]; exact HQ7.out⟩
       case measure => simp [intOf]; omega
      ·go_simp
       refine (rid_any _ b _ (HSB.out _ HQ4.out.below) (by have h1 := HBL.out; omega)).mono ?_
       rintro e w5 ⟨rfl, hb5⟩
       replace HQ4 := Lib.hid (HQ4.out.bel hb5)
       clear hb5
       try go_wp2_with fail
       refine hK.out _ _ ?_ (fun hHeld => ?_)
       ·(try dsimp only); exact HCB.out _ HQ4.out.below
       clear hK K
       try simp only [Act.put, List.setIfInBounds_toArray, List.set_cons_zero, List.set_cons_succ]
       refine wpAnyH_ready (rs := [1, 7]) (by kernel_rfl) (by simp) (AllReadyH.cons rfl (fun K hK => ?_) (AllReadyH.cons rfl (fun K hK => ?_) AllReadyH.nil))
       ·have x13 := HQ4.out.y0
        go_simp
        try go_wp2_with fail
        refine hK.out _ _ ?_ (fun hHeld => ?_)
        ·(try dsimp only); exact HCB.out _ HQ4.out.below
        clear hK K
        try simp only [Act.put, List.setIfInBounds_toArray, List.set_cons_zero, List.set_cons_succ]
        refine wpAnyH_ready (rs := [7]) (by kernel_rfl) (by simp) (AllReadyH.cons rfl (fun K hK => ?_) AllReadyH.nil)
        go_simp
        replace HQ4 := Lib.hid (HQ4.out.alloc (.cells #[.string (str (hexL (sumOf b)))] 9))
        have HRD := Lib.hid (reads_one w5 (str (hexL (sumOf b))))
        try go_wp2_with fail
        refine hK.out _ _ ?_ (fun hHeld => ?_)
        ·(try dsimp only); exact HCB.out _ HQ4.out.below
        clear hK K
        try simp only [Act.put, List.setIfInBounds_toArray, List.set_cons_zero, List.set_cons_succ]
        refine wpAnyH_ready (rs := [8]) (by kernel_rfl) (by simp) (AllReadyH.cons rfl (fun K hK => ?_) AllReadyH.nil)
        refine sapp_textk 40 rfl rfl (.tmp 33) (.tmp 39) rfl _ (w.heap.size + 2) (.slice AI mI cI) (ids.map str) rfl (by exact HQ4.out.ownI) _ (some ⟨w5.heap.size, 0, none⟩) 1 1 [str (hexL (sumOf b))] rfl (by exact HRD.out) (by exact HIL.out) (by exact HQ4.out.size) ?_
        intro v7 w7 ho7 hg7 hk7
        have y5 := (HQ4.out.g5I hg7).cell 0
        have y6 := (HQ4.out.g5I hg7).frozen 0
        have HB7 : Hid (Below w.heap.size w w7) := HQ4.out.below.grown hg7 HQ4.out.below.size (fun q hq => by have := (HQ4.out.ownI.lt q hq).1; omega)
        have HQ7 := Lib.hid (TQ.appI (o := hashL b) HQ4.out (by rw [List.map_append]; exact ho7) hg7 hk7)
        obtain ⟨A9, m9, c9, hv9⟩ : ∃ A m c, v7 = .slice A m c := (by obtain ⟨A, c, e, _⟩ := ho7.length; exact ⟨A, _, c, e⟩)
        subst hv9
        clear ho7 hg7 hk7
        try go_wp2_with fail
        refine hK.out _ _ ?_ (fun hHeld => ?_)
        ·(try dsimp only); exact HCB.out _ HB7.out
        clear hK K
        try simp only [Act.put, List.setIfInBounds_toArray, List.set_cons_zero, List.set_cons_succ]
        refine take_at (i := 9) (d := 41) (v := ?_) rfl (by kernel_rfl) (hy := .inl ⟨by kernel_rfl, ?_⟩) (h := ?_)
        rotate_left
        ·intro W hSw; (try dsimp only at hSw); go_simp; first | done | with_reducible rfl
        try simp only [Act.put, List.setIfInBounds_toArray, List.set_cons_zero, List.set_cons_succ]
        refine wpAnyH_ready (rs := [10]) (by kernel_rfl) (by simp) (AllReadyH.cons rfl (fun K hK => ?_) AllReadyH.nil)
        go_simp
        try go_wp2_with fail
        refine hK.out _ _ ?_ (fun hHeld => ?_)
        ·(try dsimp only); exact HCB.out _ HQ7.out.below
        clear hK K
        refine wpAnyH_done (by kernel_rfl) ?_ _
        go_wp2_with fail
        go_roundw
        case rel => exact ⟨i + 1, _, _, _, by omega, by go_num, by rw [HTI.out, HTO.out]; exact HQ7.out⟩
        case measure => simp [intOf]; omega
       ·go_simp
        replace HQ4 := Lib.hid (HQ4.out.alloc (.cells #[.string (str (hexL (sumOf b)))] 9))
        have HRD := Lib.hid (reads_one w5 (str (hexL (sumOf b))))
        try go_wp2_with fail
        refine hK.out _ _ ?_ (fun hHeld => ?_)
        ·(try dsimp only); exact HCB.out _ HQ4.out.below
        clear hK K
        try simp only [Act.put, List.setIfInBounds_toArray, List.set_cons_zero, List.set_cons_succ]
        refine wpAnyH_ready (rs := [1]) (by kernel_rfl) (by simp) (AllReadyH.cons rfl (fun K hK => ?_) AllReadyH.nil)
        have x13 := HQ4.out.y0
        go_simp
        try go_wp2_with fail
        refine hK.out _ _ ?_ (fun hHeld => ?_)
        ·(try dsimp only); exact HCB.out _ HQ4.out.below
        clear hK K
        try simp only [Act.put, List.setIfInBounds_toArray, List.set_cons_zero, List.set_cons_succ]
        refine wpAnyH_ready (rs := [8]) (by kernel_rfl) (by simp) (AllReadyH.cons rfl (fun K hK => ?_) AllReadyH.nil)
        refine sapp_textk 40 rfl rfl (.tmp 33) (.tmp 39) rfl _ (w.heap.size + 2) (.slice AI mI cI) (ids.map str) rfl (by exact HQ4.out.ownI) _ (some ⟨w5.heap.size, 0, none⟩) 1 1 [str (hexL (sumOf b))] rfl (by exact HRD.out) (by exact HIL.out) (by exact HQ4.out.size) ?_
        intro v7 w7 ho7 hg7 hk7
        have y5 := (HQ4.out.g5I hg7).cell 0
        have y6 := (HQ4.out.g5I hg7).frozen 0
        have HB7 : Hid (Below w.heap.size w w7) := HQ4.out.below.grown hg7 HQ4.out.below.size (fun q hq => by have := (HQ4.out.ownI.lt q hq).1; omega)
        have HQ7 := Lib.hid (TQ.appI (o := hashL b) HQ4.out (by rw [List.map_append]; exact ho7) hg7 hk7)
        obtain ⟨A9, m9, c9, hv9⟩ : ∃ A m c, v7 = .slice A m c := (by obtain ⟨A, c, e, _⟩ := ho7.length; exact ⟨A, _, c, e⟩)
        subst hv9
        clear ho7 hg7 hk7
        try go_wp2_with fail
        refine hK.out _ _ ?_ (fun hHeld => ?_)
        ·(try dsimp only); exact HCB.out _ HB7.out
        clear hK K
        try simp only [Act.put, List.setIfInBounds_toArray, List.set_cons_zero, List.set_cons_succ]
        refine take_at (i := 9) (d := 41) (v := ?_) rfl (by kernel_rfl) (hy := .inl ⟨by kernel_rfl, ?_⟩) (h := ?_)
        rotate_left
        ·intro W hSw; (try dsimp only at hSw); go_simp; first | done | with_reducible rfl
        try simp only [Act.put, List.setIfInBounds_toArray, List.set_cons_zero, List.set_cons_succ]
        refine wpAnyH_ready (rs := [10]) (by kernel_rfl) (by simp) (AllReadyH.cons rfl (fun K hK => ?_) AllReadyH.nil)
        go_simp
        try go_wp2_with fail
        refine hK.out _ _ ?_ (fun hHeld => ?_)
        ·(try dsimp only); exact HCB.out _ HQ7.out.below
        clear hK K
        refine wpAnyH_done (by kernel_rfl) ?_ _
        go_wp2_with fail
        go_roundw
        case rel => exact ⟨i + 1, _, _, _, by omega, by go_num, by rw [HTI.out, HTO.out]; exact HQ7.out⟩
        case measure => simp [intOf]; omega
   -- END STEPS
  ·obtain rfl : i = n := by omega
   have HTA : Hid (l.take i = l) := List.take_of_length_le (by rw [HN.out]; exact Nat.le_refl _)
   have HTI : Hid ((tIds l lie).take i = tIds l lie) := List.take_of_length_le (by unfold tIds; rw [List.length_map, List.length_range, HN.out]; exact Nat.le_refl _)
   have k0 := HQ.out.b5.cell 0
   have k1 := HQ.out.b5.cell 1
   have k2 := HQ.out.b5.cell 2
   obtain ⟨AI, mI, cI, hvI⟩ : ∃ A m c, vI = .slice A m c := by
    obtain ⟨A, c, e, _⟩ := HQ.out.ownI.length
    exact ⟨A, _, c, e⟩
   obtain ⟨AO, mO, cO, hvO⟩ : ∃ A m c, vO = .slice A m c := by
    obtain ⟨A, c, e, _⟩ := TmpL.slice (K := lstK) HQ.out.ownO.tmp
    exact ⟨A, _, c, e⟩
   subst hvI hvO
   have B4 := HQ.out.b4
   have B5 := B4.set_ 0 (.slice AI mI cI)
   have B6 := B5.set_ 1 (.slice AO mO cO)
   have B7 := B6.set_ 2 (.pointer none)
   have m0 := B4.cell 0
   have m1 := B5.cell 1
   have m2 := B6.cell 2
   have f0 := B4.frozen 0
   have f1 := B5.frozen 1
   have f2 := B6.frozen 2
   have n0 := B7.cell 0
   have n1 := B7.cell 1
   have n2 := B7.cell 2
   have HB7 := Lib.hid B7
   clear B4 B5 B6 B7
   go_wp2_with fail
   obtain ⟨r1, r2, r3⟩ := HQ.out.ret
   rw [HTI.out] at r1
   rw [HTA.out] at r2
   refine bodyPost_ret (v := .agg #[.slice AI mI cI, .slice AO mO cO, .pointer none]) (by simp [results, Tryz.results25, go_sem, n0, n1, n2]) rfl ⟨_, _, rfl, r1, r2, r3⟩
end Go.Proofs.YtpfjlhpahmhkhaaGreat.Ob
