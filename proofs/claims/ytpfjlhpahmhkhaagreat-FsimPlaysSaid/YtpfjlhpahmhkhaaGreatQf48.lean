/- Texts put together: WGx10. -/
import Derived.Test.YtpfjlhpahmhkhaaGreatQf47
import Derived.Test.YtpfjlhpahmhkhaaGreatQf39
import Derived.Test.YtpfjlhpahmhkhaaGreatQf41
/- Package fsim: Plan, exactly. -/
set_option linter.unusedVariables false
set_option linter.unusedSimpArgs false
namespace Go.Proofs.YtpfjlhpahmhkhaaGreat.Wk
open Go.Shelf Go.RowKit Go.Lib Go.Sort

/-- Events told apart by where they stand. -/
def tagged (d : Array EvS) : Array (EvS × Nat) := (Array.range d.size).map fun i => (d[i]!, i)
def encT (p : EvS × Nat) : List Value := encE p.1
theorem tagged_size (d : Array EvS) : (tagged d).size = d.size := by simp [tagged]
theorem tagged_get (d : Array EvS) {i : Nat} (h : i < d.size) : (tagged d)[i]! = (d[i]!, i) := by
  rw [getElem!_pos _ i (by rw [tagged_size]; exact h)]
  simp [tagged]
theorem map_get (d : Array (EvS × Nat)) {i : Nat} (h : i < d.size) : (d.map Prod.fst)[i]! = (d[i]!).1 := by
  rw [getElem!_pos _ i (by simpa using h), getElem!_pos d i h]
  simp
theorem tagged_fst (d : Array EvS) : (tagged d).map Prod.fst = d := by
  refine Array.ext (by simp [tagged]) fun i h1 h2 => ?_
  have := map_get (tagged d) (i := i) (by rw [tagged_size]; exact h2)
  rw [tagged_get d h2, getElem!_pos _ i h1, getElem!_pos d i h2] at this
  exact this
theorem flat_fst (k : Nat) (d : Array (EvS × Nat)) : flatK encT k d = flatK encE k (d.map Prod.fst) := by
  refine ext_get! (by simp) fun t ht => ?_
  have ht' : t < d.size * k := by simpa using ht
  rw [get_flatK _ _ _ t ht', get_flatK _ _ _ t (by simpa using ht')]
  have hk : 0 < k := by
    rcases Nat.eq_zero_or_pos k with h | h
    · subst h; simp at ht'
    · exact h
  rw [map_get d ((Nat.div_lt_iff_lt_mul hk).2 ht')]
  rfl
theorem swk_fst {k : Nat} {w0 w : World} {blk off : Nat} {d : Array (EvS × Nat)} (h : SWK encT k w0 blk off d w) : SWK encE k w0 blk off (d.map Prod.fst) w := by
  obtain ⟨n, os, rfl⟩ := h
  refine ⟨n, os, ?_⟩
  unfold sortWorldK putRowK
  rw [flat_fst]
theorem row_tagged {w0 : World} {g : Nat} {d : Array EvS} (R : RowK encE 7 w0 g 0 d) : RowK encT 7 w0 g 0 (tagged d) := by
  refine ⟨fun x => encE_len x.1, fun x => encE_one x.1, ?_, R.hblk⟩
  have h := R.hH
  unfold HoldsK at h ⊢
  rw [flat_fst, tagged_fst]
  exact h
def keyT (p : EvS × Nat) : Int := p.1.e.at_
theorem cmp_laysT (g N : Nat) (w : World) : CmpLays Tryz.prog 175 #[] encT 7 (fun x y => cmpE x.1 y.1) g 0 N w := fun m os dk _ x y => plan2_any x.1.e.at_ y.1.e.at_ _ _ _ _ _ _ _ _ _ _ _ _ _
/-- Sorted, and what has one time stands as it stood. -/
def Stable (d0 d : Array EvS) : Prop := (d.toList.Pairwise fun x y => x.e.at_ ≤ y.e.at_) ∧ ∀ k, (d.toList.filter fun x => decide (x.e.at_ = k)) = d0.toList.filter fun x => decide (x.e.at_ = k)
theorem stable_fst {d0 : Array EvS} {d : Array (EvS × Nat)} (ht : TagOk Prod.snd (tagged d0) d) (hs : SrtT Prod.snd keyT d 0 d.size) : Moved d0 (d.map Prod.fst) ∧ Stable d0 (d.map Prod.fst) := by
  have h0 : ∀ i, i < (tagged d0).size → Prod.snd (tagged d0)[i]! = i := fun i hi => by rw [tagged_get d0 (by rw [← tagged_size]; exact hi)]
  have hz : d.size = d0.size := ht.size.trans (tagged_size d0)
  obtain ⟨g1, g2⟩ := ht.out h0 hs
  refine ⟨⟨by simp [hz], fun i hi => ?_⟩, ?_, fun k => ?_⟩
  · obtain ⟨h1, h2⟩ := ht.was i (by rw [hz]; exact hi)
    rw [tagged_size] at h1
    refine ⟨_, h1, ?_⟩
    rw [map_get d (by rw [hz]; exact hi), h2, tagged_get d0 h1]
  · rw [Array.toList_map, List.pairwise_map]
    exact g1
  · have h3 := congrArg (List.map Prod.fst) (g2 k)
    have h4 : (tagged d0).toList.map Prod.fst = d0.toList := by rw [← Array.toList_map, tagged_fst]
    rw [Array.toList_map, List.filter_map, ← h4, List.filter_map]
    exact h3
theorem sort_x (g N cap : Nat) (d0 : Array EvS) (w0 : World) (R : RowK encE 7 w0 g 0 d0) (hN : d0.size = N) (hsz : N < 1000000000000000000) :
    Calls Tryz.prog 174 #[.slice (some ⟨g, 0, none⟩) N cap, .func (.func 175) #[] #[]] w0 fun e w' => e = .returned (.tuple #[]) ∧ ∃ d', Moved d0 d' ∧ Stable d0 d' ∧ SWK encE 7 w0 g 0 d' w' := by
  have hcf : ∀ x y : EvS × Nat, (fun x y : EvS × Nat => cmpE x.1 y.1) x y < 0 ↔ keyT x < keyT y := fun x y => by
    show cmpI x.1.e.at_ y.1.e.at_ < 0 ↔ x.1.e.at_ < y.1.e.at_
    unfold cmpI
    split
    · omega
    · split <;> omega
  have h0 : ∀ i, i < (tagged d0).size → Prod.snd (tagged d0)[i]! = i := fun i hi => by rw [tagged_get d0 (by rw [← tagged_size]; exact hi)]
  refine (sortStable_x typesAs Tryz.func337 Tryz.func373 Tryz.func289 Tryz.func288 Tryz.func238 Tryz.func174 encT 175 #[] (fun x y => cmpE x.1 y.1) g 0 N cap (tagged d0) w0 Prod.snd keyT hcf h0 (enters_of Tryz.func175 (by kernel_rfl) rfl) (cmp_laysT g N w0) (row_tagged R) ((tagged_size d0).trans hN) (SWK.start (row_tagged R).hH) hsz).mono ?_
  rintro e w' ⟨he, d', ⟨ht, hs⟩, hS⟩
  obtain ⟨h1, h2⟩ := stable_fst ht hs
  exact ⟨he, _, h1, h2, swk_fst hS⟩
end Go.Proofs.YtpfjlhpahmhkhaaGreat.Wk
namespace Go.Proofs.YtpfjlhpahmhkhaaGreat.Tx
open Go.RowKit Go.Maps Go.Proofs.YtpfjlhpahmhkhaaGreat.Sh

theorem sorts_list {D5 D : Array Wk.EvS} {n : Int} {l : List EvM} (h : Wk.Stable D D5) (hd : D.toList.map Wk.EvS.e = l.filter (fun e => decide (n < e.at_))) : Sorts n l (D5.toList.map Wk.EvS.e) := by
  refine ⟨List.pairwise_map.2 h.1, fun k => ?_⟩
  have h1 := congrArg (List.map Wk.EvS.e) (h.2 k)
  unfold dueL planR
  rw [← hd, List.filter_map, List.filter_map]
  exact h1
set_option maxRecDepth 100000 in
set_option maxHeartbeats 6400000 in
theorem plan_x (F M : Nat → Prop) (b : Nat) (c : CSt) (v : Value) (l : List EvM) (w : World) (h : FcAt F w b c M) (hv : EvsF F w v l) (hn : l.length ≤ 1000000) (hd : ∀ e ∈ l, e.data.length ≤ 140737488355328) :
    Calls Tryz.prog 94 #[.pointer (some ⟨b, 0, none⟩), v] w fun e w' => e = .returned (.tuple #[]) ∧ ∃ R, Sorts c.calls l R ∧ FcPost F M w b { c with plan := R } w' := by
  have HAT := Lib.hid h
  have HV := Lib.hid hv
  have HN := Lib.hid hn
  have HD := Lib.hid hd
  obtain ⟨A0, c0, rfl, _, _⟩ := evs_slice hv
  obtain ⟨n0, hn0⟩ : ∃ n, l.length = n := ⟨_, rfl⟩
  rw [hn0] at HV ⊢
  have HN0 := Lib.hid hn0
  clear h hv hn hd hn0
  go_enter Tryz.func94, Tryz.ntmps94
  go_wp2_with fail
  refine (calls_any HAT.out).mono ?_
  rintro e w1 ⟨rfl, rfl⟩
  have HBA : Hid (Below w.heap.size w (w.alloc (.cells #[.int .i64 c.calls] 3))) := (Below.refl _ _).alloc (Nat.le_refl _) _
  have HBK : Hid (Blk (w.alloc (.cells #[.int .i64 c.calls] 3)) w.heap.size 3 #[.int .i64 c.calls]) := Blk.new _ _ _
  obtain ⟨cl, hcl⟩ : ∃ x, c.calls = x := ⟨_, rfl⟩
  rw [hcl] at HBA HBK ⊢
  have HCL := Lib.hid hcl
  clear hcl
  go_wp2_with fail
  refine (copies_big F _ l _ (by have := HV.out.below HBA.out; exact this) HN.out HD.out (fun k hk => Nat.lt_of_lt_of_le (HAT.out.low k hk) HBA.out.size)).mono ?_
  rintro e w2 ⟨v2, rfl, hown, hb2⟩
  have HB2 := Lib.hid hb2
  have HB02 := Lib.hid (HBA.out.trans (hb2.mono HBA.out.size))
  have HBK2 : Hid (Blk w2 w.heap.size 3 #[.int .i64 cl]) := HBK.out.below hb2 HBK.out.lt
  obtain ⟨x, hX, hM⟩ := HAT.out
  have HX := Lib.hid hX
  have HM := Lib.hid hM
  have HOWN := Lib.hid hown
  have hbl := hX.blk.lt
  have HBB : Hid (Blk w2 b 135 (fcC c x)) := hX.blk.below HB02.out hbl
  rcases hown.1 with ⟨ds, hrow, _⟩
  rcases hrow.2 with ⟨rfl, hl0⟩ | ⟨g, cap, cur, rfl, _⟩
  · have HL0 := Lib.hid hl0
    have b4 := HBB.out.cell 4
    have f4 := HBB.out.frozen 4
    clear hX hM hown hb2 hrow hl0
    go_wp2_with fail
    refine (Wk.delete_none _ _).mono ?_
    rintro e w3 ⟨rfl, rfl⟩
    have HBS : Hid (Blk (w3.setCell ⟨b, 4, none⟩ (.slice none 0 0)) b 135 ((fcC c x).setIfInBounds 4 (.slice none 0 0))) := HBB.out.set_ 4 _
    have s4 : (w3.setCell ⟨b, 4, none⟩ (.slice none 0 0)).cell? ⟨b, 4, none⟩ = some (.slice none 0 0) := HBS.out.cell 4
    go_wp2_with fail
    refine (Wk.sortStable_none _ _).mono ?_
    rintro e w4 ⟨rfl, rfl⟩
    clear b4 f4 s4
    go_wp2
    go_end0
    have hl : l = [] := List.eq_nil_of_length_eq_zero HL0.out
    refine ⟨rfl, [], ⟨List.Pairwise.nil, fun k => by rw [hl]; rfl⟩, fc_plan (g := w.heap.size) HX.out HM.out (Nat.le_refl _) HB02.out (Only.refl _ _) (InL.nil_ _ _ _)⟩
  · obtain ⟨d0, hd0, R0, hin, hBg, hNg, hlc, hcm⟩ := Wk.row_of_own hown
    have hn1 : d0.size = l.length := by rw [← hd0]; simp
    have b4 := HBB.out.cell 4
    have f4 := HBB.out.frozen 4
    have hz := HB02.out.size
    have hwa := HBA.out.size
    have hdel := Wk.delete_any g cap l.length w.heap.size cl d0 w2 (HBK2.out.cell 0) (fun e => by simp at hBg; omega) HBK2.out.lt R0 hn1 hlc (by have := HN.out; omega)
    have HDEL := Lib.hid hdel
    have HD0 := Lib.hid hd0
    have HIN := Lib.hid hin
    have HR0 := Lib.hid R0
    have HNG := Lib.hid hNg
    have HBG : Hid (w.heap.size ≤ g) := by unfold Hid; omega
    have HLC := Lib.hid hlc
    have HCM := Lib.hid hcm
    have HN1 := Lib.hid hn1
    clear hX hM hown hb2 hrow hd0 R0 hin hBg hNg hlc hcm hn1 hz hwa hdel
    go_wp2_with fail
    refine HDEL.out.mono ?_
    rintro e w3 ⟨D, hfil, rfl, hH3, ho3⟩
    have hgb : b ≠ g := fun e => by have := HBG.out; omega
    have HBB3 : Hid (Blk w3 b 135 (fcC c x)) := ho3.blk HBB.out hgb
    have a4 := HBB3.out.cell 4
    have g4 := HBB3.out.frozen 4
    have HBS : Hid (Blk (w3.setCell ⟨b, 4, none⟩ (.slice (some ⟨g, 0, none⟩) D.size cap)) b 135 ((fcC c x).setIfInBounds 4 (.slice (some ⟨g, 0, none⟩) D.size cap))) := HBB3.out.set_ 4 _
    have s4 : (w3.setCell ⟨b, 4, none⟩ (.slice (some ⟨g, 0, none⟩) D.size cap)).cell? ⟨b, 4, none⟩ = some (.slice (some ⟨g, 0, none⟩) D.size cap) := HBS.out.cell 4
    have hds : D.size ≤ d0.size := by
      have h1 := congrArg List.length hfil
      have h2 := List.length_filter_le (Wk.keepE cl) d0.toList
      simp only [Array.length_toList] at h1 h2
      omega
    have ho4 : Only (fun k => k = b) w3 (w3.setCell ⟨b, 4, none⟩ (.slice (some ⟨g, 0, none⟩) D.size cap)) := Only.set_ (M := fun k => k = b) (g := b) (i := 4) (Only.refl _ w3) (.inl rfl) _
    have hg3 : g < w3.heap.size := Nat.lt_of_lt_of_le HR0.out.hblk ho3.size
    have HR4 : Hid (RowK Wk.encE 7 (w3.setCell ⟨b, 4, none⟩ (.slice (some ⟨g, 0, none⟩) D.size cap)) g 0 D) := ⟨Wk.encE_len, Wk.encE_one, Wk.HoldsK.of_block hH3 (ho4.block g hg3 (fun e => hgb e.symm)), Nat.lt_of_lt_of_le hg3 ho4.size⟩
    have HO3 := Lib.hid ho3
    have HO4 := Lib.hid ho4
    have HFIL := Lib.hid hfil
    have HDS := Lib.hid hds
    have HG3 := Lib.hid hg3
    have HGB := Lib.hid hgb
    clear b4 f4 hH3 ho3 hfil hds ho4 hg3 hgb
    obtain ⟨dn, hdn⟩ : ∃ n, D.size = n := ⟨_, rfl⟩
    rw [hdn] at s4 HR4 HO4 ⊢
    have HDN := Lib.hid hdn
    clear hdn
    go_wp2_with fail
    refine (Wk.sort_x g dn cap D _ HR4.out HDN.out (by have := HDN.out; have := HDS.out; have := HN1.out; have := HN.out; omega)).mono ?_
    rintro e w5 ⟨rfl, D5, hmov, hst5, hs5⟩
    have HST5 := Lib.hid hst5
    have HMOV := Lib.hid hmov
    have HS5 := Lib.hid hs5
    clear a4 g4 s4 hmov hs5 hst5
    go_wp2
    go_end0
    have ho5 := Wk.swk_only HS5.out
    have hz5 := ho5.size
    have hz4 := HO4.out.size
    have hz3 := HO3.out.size
    have hz2 := HB02.out.size
    have hza := HBA.out.size
    have hHD5 := HS5.out.holds HR4.out.hblk HR4.out.hH HMOV.out.1
    have hgw := HBG.out
    have hMl : ∀ k, M k → k < w.heap.size := HAT.out.lt
    have hmem : ∀ i, i < D5.size → ∃ k, k < d0.size ∧ D5[i]! = d0[k]! := fun i hi => by
      obtain ⟨j, hj, e⟩ := HMOV.out.2 i (by rw [← HMOV.out.1]; exact hi)
      have h1 : D[j]! ∈ D.toList := List.mem_of_getElem? (Wk.toList_at hj)
      rw [HFIL.out] at h1
      obtain ⟨k, hk, e2⟩ := List.getElem_of_mem (List.mem_filter.1 h1).1
      have hk' : k < d0.size := by simpa using hk
      refine ⟨k, hk', ?_⟩
      have h2 := Wk.toList_at hk'
      rw [List.getElem?_eq_getElem hk] at h2
      injection h2 with h2
      rw [e, ← e2, h2]
    have hcap : D5.size ≤ cap := by
      have h1 := HMOV.out.1
      have h2 := HDS.out
      have h3 := HN1.out
      have h4 := HLC.out
      omega
    have h15 : D5.size = dn := HMOV.out.1.trans HDN.out
    refine ⟨rfl, D5.toList.map Wk.EvS.e, ?_, ?_⟩
    · rw [HCL.out]
      refine sorts_list HST5.out ?_
      rw [HFIL.out, keep_filter, HD0.out]
    · have hb3 : Below w.heap.size w w3 := HB02.out.trans ⟨HO3.out.os, HO3.out.tape, HO3.out.output, HO3.out.size, fun k hk => HO3.out.block k (by omega) (fun e => by omega)⟩
      refine fc_plan (w3 := w3) (g := g) (v := .slice (some ⟨g, 0, none⟩) dn cap) HX.out HM.out HBG.out hb3 ho5 ?_
      rw [← h15]
      refine Wk.row_in hHD5 (by have := HG3.out; omega) (.inr ⟨hgw, by have := HG3.out; omega, fun hm => by have := hMl g hm; omega⟩) hcap HCM.out (fun i hi => ?_)
      obtain ⟨k, hk, e⟩ := hmem i hi
      rw [e]
      have h1 := HIN.out k hk
      have h2 : Only (fun k => k = g ∨ k = b) w2 w5 := ((HO3.out.more (fun k _ e => .inl e)).trans HO4.out (fun k e => .inl (.inr e))).trans ho5 (fun k e => .inl (.inl e))
      have h3 := Wk.EvIn.only h1 h2 (fun k hk e => by
        rcases e with e | e
        · exact HNG.out (e ▸ hk)
        · have h9 := hk.1
          have := HX.out.blk.lt
          omega)
      exact By.mono h3 (fun k _ hk => .inr ⟨by have := hk.1; omega, by have := hk.2.1; omega, fun hm => by have := hMl k hm; have := hk.1; omega⟩)
end Go.Proofs.YtpfjlhpahmhkhaaGreat.Tx
