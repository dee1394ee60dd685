/- Texts put together: YGp0, YShPC0. -/
import Derived.Test.YtlgmbljfjfcpoaaGreatQt45
import Derived.Test.YtlgmbljfjfcpoaaGreatQt43
import Derived.Test.YtlgmbljfjfcpoaaGreatQt32
/- Package fsim: Plan. -/
set_option linter.unusedVariables false
set_option linter.unusedSimpArgs false
namespace Go.Proofs.YtlgmbljfjfcpoaaGreat.Wk
open Go.Shelf Go.RowKit Go.Lib Go.Sort

def cmpE (x y : EvS) : Int := cmpI x.e.at_ y.e.at_
theorem HoldsK.of_block {w w' : World} {g : Nat} {D : Array EvS} (h : HoldsK encE 7 w g 0 D) (hb : w'.heap[g]? = w.heap[g]?) : HoldsK encE 7 w' g 0 D := by
  intro j hj
  obtain ⟨h1, h2⟩ := h j hj
  refine ⟨(World.cell?_of_block (a := ⟨g, 0 + j, none⟩) hb).trans h1, ?_⟩
  rw [← h2]
  unfold World.frozen?
  dsimp only
  rw [hb]
theorem cmp_lays (g N : Nat) (w : World) : CmpLays Tryz.prog 31 #[] encE 7 cmpE g 0 N w := fun m os dk _ x y => plan2_any x.e.at_ y.e.at_ _ _ _ _ _ _ _ _ _ _ _ _ _
theorem sort_any (g N cap : Nat) (d0 : Array EvS) (w0 : World) (R : RowK encE 7 w0 g 0 d0) (hN : d0.size = N) (hsz : N < 1000000000000000000) :
    Calls Tryz.prog 30 #[.slice (some ⟨g, 0, none⟩) N cap, .func (.func 31) #[] #[]] w0 (StepPost encE 7 w0 g 0 d0) :=
  sortStable_w typesAs Tryz.func104 Tryz.func118 Tryz.func84 Tryz.func83 Tryz.func56 Tryz.func30 encE 31 #[] cmpE g 0 N cap d0 w0 (enters_of Tryz.func31 (by kernel_rfl) rfl) (cmp_lays g N w0) R hN (SWK.start R.hH) hsz
end Go.Proofs.YtlgmbljfjfcpoaaGreat.Wk
namespace Go.Proofs.YtlgmbljfjfcpoaaGreat.Tx
open Go.RowKit Go.Maps Go.Proofs.YtlgmbljfjfcpoaaGreat.Sh

section
variable {F M : Nat → Prop} {w w3 w5 : World} {b : Nat} {c : CSt} {x : FcV}
/-- Another plan, in a row of its own that was turned behind the store. -/
theorem fc_plan {g : Nat} {v : Value} {l : List EvM} (hX : FcX F w b c x) (hM : ∀ k, M k ↔ fcM b x k) (hg : w.heap.size ≤ g) (hb : Below w.heap.size w w3) (h45 : Only (fun k => k = g) (w3.setCell ⟨b, 4, none⟩ v) w5) (hin : InL evK (grow F w w5 M) w5 v l) : FcPost F M w b { c with plan := l } w5 := by
  have hbl := hX.blk.lt
  have ow0 : Only (fun k => k = b) w (w3.setCell ⟨b, 4, none⟩ v) := Only.set_ (M := fun k => k = b) (g := b) (i := 4) (Only.of_below hb) (.inl rfl) v
  have ow : Only (fun k => k = b) w w5 := ow0.trans h45 (fun k e => .inr (e ▸ hg))
  have hfm : ∀ k, fcM b { x with plan := v } k ↔ fcM b x k := fun k => Iff.rfl
  have hblk : Blk w5 b 67 (fcC { c with plan := l } { x with plan := v }) := h45.blk ((hX.blk.below hb hbl).set_ 4 v) (fun e => by omega)
  refine fc_fin (x' := { x with plan := v }) hX hM (ow.more (fun k _ e => .inl e)) (fun k hk => .inl hk) hblk ?_ ?_ ?_ ?_ ?_ hX.apart
  · exact hX.hereG ow hX.Fb (fun k hk e => hX.hb (e ▸ hk))
  · exact hX.durG ow hX.Fb (fun k hk e => hX.db (e ▸ hk))
  · exact hX.pendG ow hX.Fb (fun k hk e => hX.pb (e ▸ hk)) (fun k hk => .inr (.inr (.inr (.inl hk))))
  · exact hin.mono (fun k _ hk => by
      rcases hk with hk | ⟨h1, h2, h3⟩
      · exact .inl hk
      · exact .inr ⟨h1, h2, fun hm => h3 ((hM k).2 hm)⟩)
  · exact hX.usersG ow hX.Fb (fun k hk e => hX.ub (e ▸ hk)) (fun k hk => .inr (.inr (.inr (.inr hk))))
end
theorem keep_filter (cl : Int) (D : List Wk.EvS) : (D.filter (Wk.keepE cl)).map Wk.EvS.e = (D.map Wk.EvS.e).filter (fun e => decide (cl < e.at_)) := by
  induction D with
  | nil => rfl
  | cons x D ih =>
    have hx : Wk.keepE cl x = decide (cl < x.e.at_) := by
      unfold Wk.keepE
      by_cases h : x.e.at_ ≤ cl
      · rw [decide_eq_true h, decide_eq_false (by omega)]; rfl
      · rw [decide_eq_false h, decide_eq_true (by omega)]; rfl
    rw [List.filter_cons, List.map_cons, List.filter_cons, hx]
    split
    · rw [List.map_cons, ih]
    · exact ih
theorem moved_list {d0 D : Array Wk.EvS} {c : CSt} {l : List EvM} (h : Wk.Moved d0 D) (hd : d0.toList.map Wk.EvS.e = l.filter (fun e => decide (c.calls < e.at_))) : PlanR c l (D.toList.map Wk.EvS.e) := by
  have h1 : (d0.toList.map Wk.EvS.e).length = d0.size := by simp
  refine ⟨by rw [← hd, h1, ← h.1]; simp, fun e he => ?_⟩
  obtain ⟨x, hx, rfl⟩ := List.mem_map.1 he
  obtain ⟨i, hi, rfl⟩ := List.getElem_of_mem hx
  have hi' : i < D.size := by simpa using hi
  obtain ⟨j, hj, ej⟩ := h.2 i (by rw [← h.1]; exact hi')
  have h2 : d0[j]!.e ∈ d0.toList.map Wk.EvS.e := List.mem_map.2 ⟨_, List.mem_of_getElem? (Wk.toList_at hj), rfl⟩
  rw [hd, List.mem_filter] at h2
  have h3 : D.toList[i] = D[i]! := by
    have := Wk.toList_at hi'
    rw [List.getElem?_eq_getElem hi] at this
    injection this
  rw [h3, ej]
  exact ⟨h2.1, of_decide_eq_true h2.2⟩
set_option maxRecDepth 100000 in
set_option maxHeartbeats 6400000 in
theorem plan_any (F M : Nat → Prop) (b : Nat) (c : CSt) (v : Value) (l : List EvM) (w : World) (h : FcAt F w b c M) (hv : EvsF F w v l) (hn : l.length ≤ 1000000) (hd : ∀ e ∈ l, e.data.length ≤ 140737488355328) :
    Calls Tryz.prog 8 #[.pointer (some ⟨b, 0, none⟩), v] w fun e w' => e = .returned (.tuple #[]) ∧ ∃ R, PlanR c l R ∧ FcPost F M w b { c with plan := R } w' := by
  have HAT := Lib.hid h
  have HV := Lib.hid hv
  have HN := Lib.hid hn
  have HD := Lib.hid hd
  obtain ⟨A0, c0, rfl, _, _⟩ := evs_slice hv
  obtain ⟨n0, hn0⟩ : ∃ n, l.length = n := ⟨_, rfl⟩
  rw [hn0] at HV ⊢
  have HN0 := Lib.hid hn0
  clear h hv hn hd hn0
  go_enter Tryz.func8, Tryz.ntmps8
  go_wp2_with fail
  refine (calls_any HAT.out).mono ?_
  rintro e w1 ⟨rfl, rfl⟩
  have HBA : Hid (Below w.heap.size w (w.alloc (.cells #[.int .i64 c.calls] 3))) := (Below.refl _ _).alloc (Nat.le_refl _) _
  have HBK : Hid (Blk (w.alloc (.cells #[.int .i64 c.calls] 3)) w.heap.size 3 #[.int .i64 c.calls]) := Blk.new _ _ _
  obtain ⟨cl, hcl⟩ : ∃ x, c.calls = x := ⟨_, rfl⟩
  rw [hcl] at HBA HBK ⊢
  have HCL := Lib.hid hcl
  clear hcl
  go_wp2_with fail
  refine (copies_big F _ l _ (by have := HV.out.below HBA.out; exact this) HN.out HD.out (fun k hk => Nat.lt_of_lt_of_le (HAT.out.low k hk) HBA.out.size)).mono ?_
  rintro e w2 ⟨v2, rfl, hown, hb2⟩
  have HB2 := Lib.hid hb2
  have HB02 := Lib.hid (HBA.out.trans (hb2.mono HBA.out.size))
  have HBK2 : Hid (Blk w2 w.heap.size 3 #[.int .i64 cl]) := HBK.out.below hb2 HBK.out.lt
  obtain ⟨x, hX, hM⟩ := HAT.out
  have HX := Lib.hid hX
  have HM := Lib.hid hM
  have HOWN := Lib.hid hown
  have hbl := hX.blk.lt
  have HBB : Hid (Blk w2 b 67 (fcC c x)) := hX.blk.below HB02.out hbl
  rcases hown.1 with ⟨ds, hrow, _⟩
  rcases hrow.2 with ⟨rfl, hl0⟩ | ⟨g, cap, cur, rfl, _⟩
  · have HL0 := Lib.hid hl0
    have b4 := HBB.out.cell 4
    have f4 := HBB.out.frozen 4
    clear hX hM hown hb2 hrow hl0
    go_wp2_with fail
    refine (Wk.delete_none _ _).mono ?_
    rintro e w3 ⟨rfl, rfl⟩
    have HBS : Hid (Blk (w3.setCell ⟨b, 4, none⟩ (.slice none 0 0)) b 67 ((fcC c x).setIfInBounds 4 (.slice none 0 0))) := HBB.out.set_ 4 _
    have s4 : (w3.setCell ⟨b, 4, none⟩ (.slice none 0 0)).cell? ⟨b, 4, none⟩ = some (.slice none 0 0) := HBS.out.cell 4
    go_wp2_with fail
    refine (Wk.sortStable_none _ _).mono ?_
    rintro e w4 ⟨rfl, rfl⟩
    clear b4 f4 s4
    go_wp2
    go_end0
    have hl : l = [] := List.eq_nil_of_length_eq_zero HL0.out
    refine ⟨rfl, [], ⟨by rw [hl]; rfl, fun e he => by cases he⟩, fc_plan (g := w.heap.size) HX.out HM.out (Nat.le_refl _) HB02.out (Only.refl _ _) (InL.nil_ _ _ _)⟩
  · obtain ⟨d0, hd0, R0, hin, hBg, hNg, hlc, hcm⟩ := Wk.row_of_own hown
    have hn1 : d0.size = l.length := by rw [← hd0]; simp
    have b4 := HBB.out.cell 4
    have f4 := HBB.out.frozen 4
    have hz := HB02.out.size
    have hwa := HBA.out.size
    have hdel := Wk.delete_any g cap l.length w.heap.size cl d0 w2 (HBK2.out.cell 0) (fun e => by simp at hBg; omega) HBK2.out.lt R0 hn1 hlc (by have := HN.out; omega)
    have HDEL := Lib.hid hdel
    have HD0 := Lib.hid hd0
    have HIN := Lib.hid hin
    have HR0 := Lib.hid R0
    have HNG := Lib.hid hNg
    have HBG : Hid (w.heap.size ≤ g) := by unfold Hid; omega
    have HLC := Lib.hid hlc
    have HCM := Lib.hid hcm
    have HN1 := Lib.hid hn1
    clear hX hM hown hb2 hrow hd0 R0 hin hBg hNg hlc hcm hn1 hz hwa hdel
    go_wp2_with fail
    refine HDEL.out.mono ?_
    rintro e w3 ⟨D, hfil, rfl, hH3, ho3⟩
    have hgb : b ≠ g := fun e => by have := HBG.out; omega
    have HBB3 : Hid (Blk w3 b 67 (fcC c x)) := ho3.blk HBB.out hgb
    have a4 := HBB3.out.cell 4
    have g4 := HBB3.out.frozen 4
    have HBS : Hid (Blk (w3.setCell ⟨b, 4, none⟩ (.slice (some ⟨g, 0, none⟩) D.size cap)) b 67 ((fcC c x).setIfInBounds 4 (.slice (some ⟨g, 0, none⟩) D.size cap))) := HBB3.out.set_ 4 _
    have s4 : (w3.setCell ⟨b, 4, none⟩ (.slice (some ⟨g, 0, none⟩) D.size cap)).cell? ⟨b, 4, none⟩ = some (.slice (some ⟨g, 0, none⟩) D.size cap) := HBS.out.cell 4
    have hds : D.size ≤ d0.size := by
      have h1 := congrArg List.length hfil
      have h2 := List.length_filter_le (Wk.keepE cl) d0.toList
      simp only [Array.length_toList] at h1 h2
      omega
    have ho4 : Only (fun k => k = b) w3 (w3.setCell ⟨b, 4, none⟩ (.slice (some ⟨g, 0, none⟩) D.size cap)) := Only.set_ (M := fun k => k = b) (g := b) (i := 4) (Only.refl _ w3) (.inl rfl) _
    have hg3 : g < w3.heap.size := Nat.lt_of_lt_of_le HR0.out.hblk ho3.size
    have HR4 : Hid (RowK Wk.encE 7 (w3.setCell ⟨b, 4, none⟩ (.slice (some ⟨g, 0, none⟩) D.size cap)) g 0 D) := ⟨Wk.encE_len, Wk.encE_one, Wk.HoldsK.of_block hH3 (ho4.block g hg3 (fun e => hgb e.symm)), Nat.lt_of_lt_of_le hg3 ho4.size⟩
    have HO3 := Lib.hid ho3
    have HO4 := Lib.hid ho4
    have HFIL := Lib.hid hfil
    have HDS := Lib.hid hds
    have HG3 := Lib.hid hg3
    have HGB := Lib.hid hgb
    clear b4 f4 hH3 ho3 hfil hds ho4 hg3 hgb
    obtain ⟨dn, hdn⟩ : ∃ n, D.size = n := ⟨_, rfl⟩
    rw [hdn] at s4 HR4 HO4 ⊢
    have HDN := Lib.hid hdn
    clear hdn
    go_wp2_with fail
    refine (Wk.sort_any g dn cap D _ HR4.out HDN.out (by have := HDN.out; have := HDS.out; have := HN1.out; have := HN.out; omega)).mono ?_
    rintro e w5 ⟨rfl, D5, hmov, hs5⟩
    have HMOV := Lib.hid hmov
    have HS5 := Lib.hid hs5
    clear a4 g4 s4 hmov hs5
    go_wp2
    go_end0
    have ho5 := Wk.swk_only HS5.out
    have hz5 := ho5.size
    have hz4 := HO4.out.size
    have hz3 := HO3.out.size
    have hz2 := HB02.out.size
    have hza := HBA.out.size
    have hHD5 := HS5.out.holds HR4.out.hblk HR4.out.hH HMOV.out.1
    have hgw := HBG.out
    have hMl : ∀ k, M k → k < w.heap.size := HAT.out.lt
    have hmem : ∀ i, i < D5.size → ∃ k, k < d0.size ∧ D5[i]! = d0[k]! := fun i hi => by
      obtain ⟨j, hj, e⟩ := HMOV.out.2 i (by rw [← HMOV.out.1]; exact hi)
      have h1 : D[j]! ∈ D.toList := List.mem_of_getElem? (Wk.toList_at hj)
      rw [HFIL.out] at h1
      obtain ⟨k, hk, e2⟩ := List.getElem_of_mem (List.mem_filter.1 h1).1
      have hk' : k < d0.size := by simpa using hk
      refine ⟨k, hk', ?_⟩
      have h2 := Wk.toList_at hk'
      rw [List.getElem?_eq_getElem hk] at h2
      injection h2 with h2
      rw [e, ← e2, h2]
    have hcap : D5.size ≤ cap := by
      have h1 := HMOV.out.1
      have h2 := HDS.out
      have h3 := HN1.out
      have h4 := HLC.out
      omega
    have h15 : D5.size = dn := HMOV.out.1.trans HDN.out
    refine ⟨rfl, D5.toList.map Wk.EvS.e, ?_, ?_⟩
    · refine moved_list HMOV.out ?_
      rw [HFIL.out, keep_filter, HD0.out, HCL.out]
    · have hb3 : Below w.heap.size w w3 := HB02.out.trans ⟨HO3.out.os, HO3.out.tape, HO3.out.output, HO3.out.size, fun k hk => HO3.out.block k (by omega) (fun e => by omega)⟩
      refine fc_plan (w3 := w3) (g := g) (v := .slice (some ⟨g, 0, none⟩) dn cap) HX.out HM.out HBG.out hb3 ho5 ?_
      rw [← h15]
      refine Wk.row_in hHD5 (by have := HG3.out; omega) (.inr ⟨hgw, by have := HG3.out; omega, fun hm => by have := hMl g hm; omega⟩) hcap HCM.out (fun i hi => ?_)
      obtain ⟨k, hk, e⟩ := hmem i hi
      rw [e]
      have h1 := HIN.out k hk
      have h2 : Only (fun k => k = g ∨ k = b) w2 w5 := ((HO3.out.more (fun k _ e => .inl e)).trans HO4.out (fun k e => .inl (.inr e))).trans ho5 (fun k e => .inl (.inl e))
      have h3 := Wk.EvIn.only h1 h2 (fun k hk e => by
        rcases e with e | e
        · exact HNG.out (e ▸ hk)
        · have h9 := hk.1
          have := HX.out.blk.lt
          omega)
      exact By.mono h3 (fun k _ hk => .inr ⟨by have := hk.1; omega, by have := hk.2.1; omega, fun hm => by have := hMl k hm; have := hk.1; omega⟩)
end Go.Proofs.YtlgmbljfjfcpoaaGreat.Tx
/- Slices of slices of bytes that came in; all of them, one behind the other. -/
namespace Go.Proofs.YtlgmbljfjfcpoaaGreat.Sh
open Go.RowKit

def IsRows (w : World) (a : Option Addr) (len cap : Nat) : Prop :=
  (a = none ∧ len = 0 ∧ cap = 0) ∨ ∃ (x : Addr) (A : Nat → Option Addr) (L C : Nat → Nat) (Z : Nat → List Int), a = some x ∧ len ≤ cap ∧ cap ≤ maxLen ∧
    ∀ r, r < cap → w.cell? (x.add r) = some (.slice (A r) (L r) (C r)) ∧ IsRow .u8 w (A r) (L r) (C r) (Z r)
def rowBytes (zs : List Int) (len : Nat) : List UInt8 := (zs.take len).map (fun n => UInt8.ofNat n.toNat)
theorem IsRow.sl' {w : World} {a : Option Addr} {len cap : Nat} {zs : List Int} (h : IsRow .u8 w a len cap zs) : (rowBytes zs len).length = len ∧ Sl w (.slice a len cap) (rowBytes zs len) := by
  rcases h with ⟨rfl, rfl, rfl, rfl⟩ | ⟨x, rfl, hl, hm, hz, hc, hw⟩
  · exact ⟨rfl, none, 0, rfl, by simp [rowBytes], by unfold maxLen; omega, In.nil w none, fun _ => rfl⟩
  · have hlen : (rowBytes zs len).length = len := by unfold rowBytes; simp; omega
    refine ⟨hlen, some x, cap, by rw [hlen], by omega, hm, ?_, fun h => by cases h⟩
    intro h0
    rw [hlen] at h0
    refine ⟨x, rfl, ?_, fun j hj => ?_⟩
    · have := World.block_lt_of_cell? w _ (hc 0 (by omega))
      rw [block_of_add] at this
      exact this
    · have hj' : j < len := by omega
      rw [hc j (by omega)]
      have hjz : j < zs.length := by omega
      unfold rowBytes
      rw [List.getD_eq_getElem?_getD, List.getElem?_eq_getElem hjz, List.getD_eq_getElem?_getD, List.getElem?_map, List.getElem?_take, if_pos hj', List.getElem?_eq_getElem hjz]
      show some (Value.int .u8 zs[j]) = some (Value.int .u8 (bi (UInt8.ofNat zs[j].toNat)))
      rw [bi_of (hw _ (List.getElem_mem hjz))]

/-- The rows as the walk has them. -/
def RowsAt (w : World) (a : Option Addr) (A : Nat → Option Addr) (L C : Nat → Nat) (R : Nat → List UInt8) (n : Nat) : Prop :=
  ∀ r, r < n → ∃ x, a = some x ∧ x.block < w.heap.size ∧ w.cell? (x.add r) = some (.slice (A r) (L r) (C r)) ∧ (R r).length = L r ∧ Sl w (.slice (A r) (L r) (C r)) (R r)
theorem IsRows.at_ {w : World} {a : Option Addr} {len cap : Nat} (h : IsRows w a len cap) : ∃ A L C R, RowsAt w a A L C R len ∧ len ≤ maxLen := by
  rcases h with ⟨rfl, rfl, rfl⟩ | ⟨x, A, L, C, Z, rfl, hl, hm, hr⟩
  · exact ⟨fun _ => none, fun _ => 0, fun _ => 0, fun _ => [], fun r hr => by omega, by unfold maxLen; omega⟩
  · refine ⟨A, L, C, fun r => rowBytes (Z r) (L r), fun r hr' => ?_, by omega⟩
    obtain ⟨h1, h2⟩ := hr r (by omega)
    obtain ⟨h3, h4⟩ := h2.sl'
    have := World.block_lt_of_cell? w _ h1
    rw [block_of_add] at this
    exact ⟨x, rfl, this, h1, h3, h4⟩
theorem RowsAt.below {w w' : World} {a : Option Addr} {A : Nat → Option Addr} {L C : Nat → Nat} {R : Nat → List UInt8} {n : Nat} (h : RowsAt w a A L C R n) (hb : Below w.heap.size w w') : RowsAt w' a A L C R n := by
  intro r hr
  obtain ⟨x, h1, h2, h3, h4, h5⟩ := h r hr
  exact ⟨x, h1, Nat.lt_of_lt_of_le h2 hb.size, (hb.cell (p := x.add r) (by rw [block_of_add]; exact h2)).trans h3, h4, h5.below hb⟩

/-- All rows ahead of row i. -/
def allOf (R : Nat → List UInt8) : Nat → List UInt8
  | 0 => []
  | i + 1 => allOf R i ++ R i
/-- What the statement adds up. -/
def minOf (L : Nat → Nat) : Nat → Nat
  | 0 => 0
  | i + 1 => minOf L i + min (L i) 6001
end Go.Proofs.YtlgmbljfjfcpoaaGreat.Sh
