/- Texts put together: YRc4. -/
import Derived.Test.YteffiedolcjjlaaQa34
/- Package reach: a book of what a source told. -/
set_option linter.unusedVariables false
set_option linter.unusedSimpArgs false
namespace Go.Proofs.Yteffiedolcjjlaa.Ob
open Go.RowKit Go.Maps Go.Proofs.Yteffiedolcjjlaa.Sh
open Go.Proofs.Yteffiedolcjjlaa.Tx (OwnV SlV sv Only Rd reads_at hasT hasT_yes hasT_iff own_only own_exact own_isMap own_within own_cells lawS key_ba isK NextOK hasT_snoc)

/-- A map's element as it is. -/
def hvR (v : Value) : Option (DataW Value × List MemPlace) := some (.held v, [])
def pageV (t : Bool) (v : Value) : Value := .agg #[.bool t, v]
theorem zeroPg (w : World) : (zeroValue 116).run Try.prog w = .ok (pageV false (.slice none 0 0)) w := by kernel_rfl
/-- What the pages hold. -/
structure PgOK (base : List UInt8 → Option (List UInt8)) (F : Nat → Prop) (w : World) (asked : List ByteArray) (D : DataW Value) : Prop where
  has_ : ∀ s : ByteArray, Maps.has D (.string s.toList) = hasT asked s
  at_ : ∀ s ∈ asked, ∃ v, Rd F w 1 v (nxP base s).length ((nxP base s).map sv) ∧ ∀ z, D.atKey (.string s.toList) z = .held (pageV (isP base s) v)
section
variable {base : List UInt8 → Option (List UInt8)} {F F' M : Nat → Prop} {w w' : World} {asked : List ByteArray} {D : DataW Value}
theorem PgOK.only (h : PgOK base F w asked D) (ho : Only M w w') (hF : ∀ k, F k → ¬ M k) : PgOK base F w' asked D :=
  ⟨h.has_, fun s hs => by
    obtain ⟨v, h1, h2⟩ := h.at_ s hs
    exact ⟨v, h1.only ho hF, h2⟩⟩
theorem PgOK.mono (h : PgOK base F w asked D) (hF : ∀ k, k < w.heap.size → F k → F' k) : PgOK base F' w asked D :=
  ⟨h.has_, fun s hs => by
    obtain ⟨v, h1, h2⟩ := h.at_ s hs
    exact ⟨v, h1.mono hF, h2⟩⟩
theorem PgOK.nil_ : PgOK base F w [] (.map []) := ⟨fun s => rfl, fun s hs => by cases hs⟩
theorem PgOK.old {id : ByteArray} (h : PgOK base F w asked D) (hid : hasT asked id = true) : PgOK base F w (asked ++ [id]) D := by
  refine ⟨fun s => ?_, fun s hs => ?_⟩
  · rw [h.has_, hasT_snoc]
    by_cases e : id.toList = s.toList
    · rw [← Tx.ba_ext e, hid]; simp
    · rw [show (id.toList == s.toList) = false from beq_eq_false_iff_ne.2 e, Bool.or_false]
  · rcases List.mem_append.1 hs with h1 | h1
    · exact h.at_ s h1
    · rw [List.mem_singleton] at h1
      subst h1
      exact h.at_ s (hasT_iff.1 hid)
theorem PgOK.put {id : ByteArray} {v : Value} (h : PgOK base F w asked D) (hm : Maps.IsMap D) (hv : Rd F w 1 v (nxP base id).length ((nxP base id).map sv)) (hno : hasT asked id = false) : PgOK base F w (asked ++ [id]) (D.put (.string id.toList) (.held (pageV (isP base id) v))) := by
  refine ⟨fun s => ?_, fun s hs => ?_⟩
  · rw [hasT_snoc]
    by_cases e : s.toList = id.toList
    · rw [e, Maps.has_put_same hm (isK _), beq_self_eq_true, Bool.or_true]
    · rw [Maps.has_put_other (fun x => e (by injection x)), h.has_, show (id.toList == s.toList) = false from beq_eq_false_iff_ne.2 (fun x => e x.symm), Bool.or_false]
  · rcases List.mem_append.1 hs with h1 | h1
    · obtain ⟨v', h2, h3⟩ := h.at_ s h1
      have hne : Lit.string s.toList ≠ Lit.string id.toList := fun x => by
        injection x with x
        have e := Tx.ba_ext x
        subst e
        rw [hasT_yes h1] at hno
        cases hno
      exact ⟨v', h2, fun z => by rw [Maps.atKey_put_other hne]; exact h3 z⟩
    · rw [List.mem_singleton] at h1
      subst h1
      exact ⟨v, hv, fun z => Maps.atKey_put_same hm (isK _) _ z⟩
theorem PgOK.small {b n : Nat} (h : PgOK base F w asked D) (hown : w'.ownsMap Try.prog 9 hvR b n D) : Maps.size D ≤ asked.length := by
  have := own_within hown (ds := asked.map ByteArray.toList) fun x hx => by
    have h1 := h.has_ (Tx.str x)
    rw [Tx.str_toList, hx] at h1
    exact List.mem_map.2 ⟨_, hasT_iff.1 h1.symm, Tx.str_toList x⟩
  rwa [List.length_map] at this
theorem PgOK.look {id : ByteArray} (h : PgOK base F w asked D) (hid : hasT asked id = true) : ∃ v, Rd F w 1 v (nxP base id).length ((nxP base id).map sv) ∧ ∀ u ps, hvR u = some (D.atKey (.string id.toList) (.held (pageV false (.slice none 0 0))), ps) → u = pageV (isP base id) v := by
  obtain ⟨v, h1, h2⟩ := h.at_ id (hasT_iff.1 hid)
  refine ⟨v, h1, fun u ps hu => ?_⟩
  rw [h2] at hu
  unfold hvR at hu
  injection hu with hu
  injection hu with hu _
  injection hu
theorem PgOK.look_no {id : ByteArray} (h : PgOK base F w asked D) (hid : hasT asked id = false) : ∀ u ps, hvR u = some (D.atKey (.string id.toList) (.held (pageV false (.slice none 0 0))), ps) → u = pageV false (.slice none 0 0) := by
  intro u ps hu
  rw [Maps.atKey_of_not_has (by rw [h.has_, hid])] at hu
  unfold hvR at hu
  injection hu with hu
  injection hu with hu _
  injection hu
end
/-- Block b is a book; its blocks are of Z (all behind w0), its pages' rows of F. -/
structure BkX (w0 : World) (p1 p2 p3 : Nat) (base : List UInt8 → Option (List UInt8)) (b : Nat) (Z F : Nat → Prop) (bm : Nat) (asked : List ByteArray) (w : World) : Prop where
  blk : Blk w b 113 #[srcV p1 p2 p3, .map (some bm)]
  map : ∃ D, w.ownsMap Try.prog 9 hvR bm (Maps.size D) D ∧ PgOK base F w asked D
  fz : ∀ k, F k → Z k ∧ k ≠ b ∧ k ≠ bm
  bz : Z b
  mz : Z bm
  zl : ∀ k, Z k → w0.heap.size ≤ k ∧ k < w.heap.size
  old : Below w0.heap.size w0 w
def BkJ (w0 : World) (p1 p2 p3 : Nat) (base : List UInt8 → Option (List UInt8)) (b : Nat) (Z : Nat → Prop) (asked : List ByteArray) (w : World) : Prop := ∃ F bm, BkX w0 p1 p2 p3 base b Z F bm asked w
section
variable {w0 w w' : World} {p1 p2 p3 b bm : Nat} {base : List UInt8 → Option (List UInt8)} {Z F M : Nat → Prop} {asked : List ByteArray}
theorem BkX.only (h : BkX w0 p1 p2 p3 base b Z F bm asked w) (ho : Only M w w') (hM : ∀ k, Z k → ¬ M k) (hB : ∀ k, M k → w0.heap.size ≤ k) : BkX w0 p1 p2 p3 base b Z F bm asked w' := by
  obtain ⟨D, h1, h2⟩ := h.map
  exact ⟨ho.blk h.blk (hM _ h.bz), ⟨D, own_only h1 ho (hM _ h.mz), h2.only ho (fun k hk => hM k (h.fz k hk).1)⟩, h.fz, h.bz, h.mz, fun k hk => ⟨(h.zl k hk).1, Nat.lt_of_lt_of_le (h.zl k hk).2 ho.size⟩,
    ((Only.of_below (M := fun _ => False) (h.old.mono (Nat.le_refl _))).trans ho (fun k hk => .inr (hB k hk))).below⟩
theorem BkX.b_bm (h : BkX w0 p1 p2 p3 base b Z F bm asked w) : bm ≠ b := by
  obtain ⟨D, h1, _⟩ := h.map
  exact own_cells h1 h.blk
theorem BkX.below (h : BkX w0 p1 p2 p3 base b Z F bm asked w) (hb : Below w.heap.size w w') : BkX w0 p1 p2 p3 base b Z F bm asked w' := h.only (Only.of_below (M := fun _ => False) hb) (fun _ _ => id) (fun _ h => h.elim)
end
/-- What refs leaves. -/
def RefsR (w0 : World) (p1 p2 p3 : Nat) (base : List UInt8 → Option (List UInt8)) (b : Nat) (Z : Nat → Prop) (asked : List ByteArray) (id : ByteArray) (w : World) (e : Ending) (w' : World) : Prop :=
  ∃ v Z', e = .returned v ∧ BkJ w0 p1 p2 p3 base b Z' (asked ++ [id]) w' ∧ Rd Z' w' 1 v (nxP base id).length ((nxP base id).map sv) ∧ Only Z w w' ∧ ∀ k, Z' k → Z k ∨ w.heap.size ≤ k
set_option maxRecDepth 100000 in
set_option maxHeartbeats 1600000 in
theorem brefs_any {w0 w : World} {p1 p2 p3 b : Nat} {l : List (List UInt8)} {lie : Bool} {Z : Nat → Prop} {asked : List ByteArray} (id : ByteArray) (h : BkJ w0 p1 p2 p3 (srcP l lie) b Z asked w) (hs : SrcX w0 p1 p2 p3 l lie) (hl : l.length ≤ 1000000) (hsm : ∀ x ∈ l, x.length ≤ 1000000) (hal : asked.length ≤ 100000) (hid : id.size ≤ 1000000) :
    Calls Try.prog 78 #[.pointer (some ⟨b, 0, none⟩), .string id] w (RefsR w0 p1 p2 p3 (srcP l lie) b Z asked id w) := by
  obtain ⟨F, bm, h⟩ := h
  have HX := Lib.hid h
  have q0 := h.blk.cell 0
  have q1 := h.blk.cell 1
  obtain ⟨D, hown, hpg⟩ := h.map
  have HOWN := Lib.hid hown
  have HPG := Lib.hid hpg
  have HKEY := Lib.hid (key_ba id hid)
  have HHAS := Lib.hid (hpg.has_ id)
  cases ht : hasT asked id with
  | true =>
    obtain ⟨v, hv, hlook⟩ := hpg.look ht
    have HT := Lib.hid ht
    have HLK := Lib.hid hlook
    have HV := Lib.hid hv
    obtain ⟨A, c, hve, _, _⟩ : ∃ A c, v = .slice A (nxP (srcP l lie) id).length c ∧ True ∧ True := by
      obtain ⟨A, c, h1, _⟩ := hv
      exact ⟨A, c, h1, trivial, trivial⟩
    subst hve
    obtain ⟨n, hn⟩ : ∃ n, (nxP (srcP l lie) id).length = n := ⟨_, rfl⟩
    obtain ⟨t, htt⟩ : ∃ t, isP (srcP l lie) id = t := ⟨_, rfl⟩
    rw [hn] at HLK HV
    rw [htt] at HLK
    have HNN := Lib.hid hn
    clear h hown hpg ht hlook hv hs hl hsm hal hid hn htt
    obtain ⟨sv0, hsv⟩ : ∃ v, v = srcV p1 p2 p3 := ⟨_, rfl⟩
    rw [← hsv] at q0
    clear hsv
    go_enter Try.func78, Try.ntmps78
    go_wp2_with (at_lookup; refine wpList_lookup_own_ok _ rfl _ _ 111 rfl 9 116 lawS Try.underlying111 hvR (zeroPg _) (.held (pageV false (.slice none 0 0))) [] rfl bm _ D rfl (by exact HOWN.out) _ (.string id.toList) rfl (by exact HKEY.out) ?_; intro u ps hu; obtain rfl := HLK.out u ps hu; rw [HHAS.out, HT.out]; clear hu; unfold pageV)
    go_ret
    have hb : Below w.heap.size w (w.alloc (.cells #[.bool t, .slice A n c] 116)) := (Below.refl _ _).alloc (Nat.le_refl _) _
    have hxx := HX.out.below hb
    obtain ⟨D', k1, k2⟩ := hxx.map
    refine ⟨_, Z, rfl, ⟨F, bm, ⟨hxx.blk, ⟨D', k1, k2.old HT.out⟩, hxx.fz, hxx.bz, hxx.mz, hxx.zl, hxx.old⟩⟩, ?_, Only.of_below hb, fun k hk => .inl hk⟩
    rw [HNN.out]
    exact (HV.out.below hb).mono (fun k _ hk => (HX.out.fz k hk).1)
  | false =>
    have HLK := Lib.hid (hpg.look_no ht)
    have HT := Lib.hid ht
    have HAL := Lib.hid hal
    have b0 : Below w.heap.size w (w.alloc (.cells #[.bool false, .slice none 0 0] 116)) := (Below.refl _ _).alloc (Nat.le_refl _) _
    obtain ⟨wa, hwa⟩ : ∃ W, W = w.alloc (.cells #[.bool false, .slice none 0 0] 116) := ⟨_, rfl⟩
    rw [← hwa] at b0
    have HB := Lib.hid b0
    have HZ : Hid (wa.heap.size = w.heap.size + 1) := by unfold Hid; rw [hwa]; simp
    have HBP : Hid (Blk wa w.heap.size 116 #[.bool false, .slice none 0 0]) := by unfold Hid; rw [hwa]; exact Blk.new _ _ _
    have HXA := Lib.hid (h.below b0)
    have HLO := Lib.hid (look_any id (w := wa) (hs.below HXA.out.old) hl hsm)
    have r0 := HXA.out.blk.cell 0
    rw [hwa] at r0
    obtain ⟨sv0, hsv⟩ : ∃ v, v = srcV p1 p2 p3 := ⟨_, rfl⟩
    have HSV := Lib.hid hsv
    rw [← hsv] at q0 r0 HLO
    clear h hown hpg ht hs hl hsm hal hid b0 hsv
    go_enter Try.func78, Try.ntmps78
    go_wp2_with (at_lookup; refine wpList_lookup_own_ok _ rfl _ _ 111 rfl 9 116 lawS Try.underlying111 hvR (zeroPg _) (.held (pageV false (.slice none 0 0))) [] rfl bm _ D rfl (by exact HOWN.out) _ (.string id.toList) rfl (by exact HKEY.out) ?_; intro u ps hu; obtain rfl := HLK.out u ps hu; rw [HHAS.out, HT.out]; clear hu; unfold pageV)
    rw [← hwa]
    refine HLO.out.mono ?_
    rintro e w2 ⟨A, n, c, rfl, hb2, ho2⟩
    have HP2 := Lib.hid (HBP.out.below hb2 HBP.out.lt)
    have HX2 := Lib.hid (HXA.out.below hb2)
    have HB2 := Lib.hid (HB.out.trans (hb2.mono HB.out.size))
    have HO2 := Lib.hid ho2
    obtain ⟨t, htt⟩ : ∃ t, isP (srcP l lie) id = t := ⟨_, rfl⟩
    rw [htt]
    have HTT := Lib.hid htt
    obtain ⟨c0, c1, f0, f1⟩ : w2.cell? ⟨w.heap.size, 0, none⟩ = some (.bool false) ∧ w2.cell? ⟨w.heap.size, 1, none⟩ = some (.slice none 0 0) ∧ w2.frozen? ⟨w.heap.size, 0, none⟩ = false ∧ w2.frozen? ⟨w.heap.size, 1, none⟩ = false := ⟨HP2.out.cell 0, HP2.out.cell 1, HP2.out.frozen 0, HP2.out.frozen 1⟩
    clear hb2 ho2 htt hwa q0 q1 r0
    go_upto_region 4 with (fail)
    obtain ⟨wz, hwz⟩ : ∃ X, X = ((w2.setCell ⟨w.heap.size, 0, none⟩ (.bool t)).setCell ⟨w.heap.size, 1, none⟩ (.slice A n c)) := ⟨_, rfl⟩
    rw [← hwz]
    have HPZ : Hid (Blk wz w.heap.size 116 #[.bool t, .slice A n c]) := by
      unfold Hid
      rw [hwz]
      exact (HP2.out.set_ 0 (.bool t)).set_ 1 (.slice A n c)
    have HON : Hid (Only (fun k => k = w.heap.size) w2 wz) := by
      unfold Hid
      rw [hwz]
      exact Only.set_ (M := fun k => k = w.heap.size) (g := w.heap.size) (i := 1) (Only.set_ (M := fun k => k = w.heap.size) (g := w.heap.size) (i := 0) (Only.refl _ w2) (.inl rfl) _) (.inl rfl) _
    have HXZ : Hid (BkX w0 p1 p2 p3 (srcP l lie) b Z F bm asked wz) := by
      refine HX2.out.only HON.out (fun k hk e => ?_) (fun k e => ?_)
      · have := (HX.out.zl k hk).2; omega
      · have := (HX.out.old).size; omega
    have HOZ : Hid (OwnV 9 wz wa.heap.size (.slice A n c) ((nxP (srcP l lie) id).map sv)) := by
      unfold Hid
      rw [hwz]
      have hne : (Value.slice A n c).ownBlock ≠ some w.heap.size := own_blk_ne HO2.out HP2.out (by decide)
      exact (HO2.out.apart hne _).apart hne _
    obtain ⟨D2, hown2, hpg2⟩ := HXZ.out.map
    have HOW2 := Lib.hid hown2
    have HPG2 := Lib.hid hpg2
    have HSM : Hid (Maps.size D2 < maxLen) := by
      have h1 := hpg2.small hown2
      have h2 := HAL.out
      unfold Hid maxLen
      omega
    have y1 : wz.drew.cell? ⟨b, 1, none⟩ = some (.map (some bm)) := HXZ.out.blk.cell 1
    have y2 : wz.drew.cell? ⟨w.heap.size, 0, none⟩ = some (.bool t) := HPZ.out.cell 0
    have y3 : wz.drew.cell? ⟨w.heap.size, 1, none⟩ = some (.slice A n c) := HPZ.out.cell 1
    have y4 : wz.cell? ⟨b, 1, none⟩ = some (.map (some bm)) := HXZ.out.blk.cell 1
    have y5 : wz.cell? ⟨w.heap.size, 0, none⟩ = some (.bool t) := HPZ.out.cell 0
    have y6 : wz.cell? ⟨w.heap.size, 1, none⟩ = some (.slice A n c) := HPZ.out.cell 1
    clear hwz hown2 hpg2 c0 c1 f0 f1
    go_still_tail 6, (by kernel_rfl)
    change wpList _ _ _ _ _ wz.drew
    go_wp2_with (at_mapUpdate; refine wpList_mapUpdate_own _ rfl _ _ _ 111 rfl 9 116 lawS Try.underlying111 hvR bm _ D2 rfl (by exact HOW2.out) (by exact HSM.out) _ _ (.string id.toList) rfl rfl (by exact HKEY.out) (.held (pageV t (.slice A n c))) [] rfl ?_; intro w5 hown5 hgr5; have HM5 := Lib.hid hown5; have HG5 := Lib.hid hgr5; have HP5 : Hid (Blk w5 w.heap.size 116 #[.bool t, .slice A n c]) := Blk.grown HPZ.out.drew hgr5 (fun e => by injection e with e; have := (HX.out.zl bm HX.out.mz).2; omega); have y7 : w5.cell? ⟨w.heap.size, 1, none⟩ = some (.slice A n c) := HP5.out.cell 1; clear hown5 hgr5)
    go_ret
    have hz5 : wz.heap.size ≤ w5.heap.size := HG5.out.size
    have hza : wa.heap.size ≤ w2.heap.size := by have := HO2.out.length; have := HX2.out.old.size; have := HP2.out.lt; have := HZ.out; omega
    have hz2 : w2.heap.size ≤ wz.heap.size := HON.out.size
    have hoz := HZ.out
    have hbz := (HX.out.zl b HX.out.bz)
    have hmz := (HX.out.zl bm HX.out.mz)
    have hob : ∀ k, (Value.slice A n c).ownBlock = some k → wa.heap.size ≤ k ∧ k < wz.heap.size := fun k hk => HOZ.out.lt k hk
    have oz : Only (fun k => k = bm) wz w5 := (Only.refl (fun k => k = bm) wz).drew.grown HG5.out (fun k hk => .inl (by injection hk with hk; exact hk.symm))
    have ho5 : OwnV 9 w5 wa.heap.size (.slice A n c) ((nxP (srcP l lie) id).map sv) := oz.own HOZ.out (fun k hk e => by have := (hob k hk).1; omega)
    have hrd : Rd (fun k => F k ∨ (Value.slice A n c).ownBlock = some k) w5 1 (.slice A n c) (nxP (srcP l lie) id).length ((nxP (srcP l lie) id).map sv) := by
      have h9 := Rd.of_own (F := fun k => F k ∨ (Value.slice A n c).ownBlock = some k) (w := w5) (B := wa.heap.size) (E := 9) (sz := 1) ho5 (fun k hk => .inr hk)
      rwa [List.length_map] at h9
    have hpk : PgOK (srcP l lie) (fun k => F k ∨ (Value.slice A n c).ownBlock = some k) w5 asked D2 := (HPG2.out.only oz (fun k hk e => (HX.out.fz k hk).2.2 e)).mono (fun _ _ hk => .inl hk)
    have hfin := hpk.put (own_isMap HOW2.out) hrd HT.out
    rw [HTT.out] at hfin
    refine ⟨_, fun k => Z k ∨ (w.heap.size ≤ k ∧ k < w5.heap.size), rfl, ⟨fun k => F k ∨ (Value.slice A n c).ownBlock = some k, bm, ⟨?_, ⟨_, own_exact HM5.out, hfin⟩, fun k hk => ?_, .inl HX.out.bz, .inl HX.out.mz, fun k hk => ?_, ?_⟩⟩, ?_, ?_, fun k hk => hk.elim .inl (fun h => .inr h.1)⟩
    · exact Blk.grown HXZ.out.blk.drew HG5.out (fun e => HXZ.out.b_bm (by injection e with e; exact e.symm))
    · rcases hk with hk | hk
      · exact ⟨.inl (HX.out.fz k hk).1, (HX.out.fz k hk).2⟩
      · have := hob k hk
        exact ⟨.inr ⟨by omega, by omega⟩, by omega, by omega⟩
    · rcases hk with hk | hk
      · have h1 := HX.out.zl k hk
        have h2 := HB2.out.size
        exact ⟨h1.1, by omega⟩
      · have := HX.out.old.size
        exact ⟨by omega, hk.2⟩
    · exact ((Only.of_below (M := fun _ => False) HXZ.out.old).trans oz (fun k hk => .inr (by rw [hk]; exact hmz.1))).below
    · refine hrd.mono (fun k _ hk => ?_)
      rcases hk with hk | hk
      · exact .inl (HX.out.fz k hk).1
      · have := hob k hk
        exact .inr ⟨by omega, by omega⟩
    · refine ((Only.of_below (M := Z) HB2.out).trans HON.out (fun k hk => .inr (by rw [hk]; exact Nat.le_refl _))).trans oz (fun k hk => .inl (by rw [hk]; exact HX.out.mz))
end Go.Proofs.Yteffiedolcjjlaa.Ob
