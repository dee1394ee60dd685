/- Texts put together: VGt2. -/
import Derived.Test.YtbenkmihkbjgeaaGreatQv09
/- Package fsim: a file is taken out of a tree. -/
namespace Go.Proofs.YtbenkmihkbjgeaaGreat.Tx
open Go.RowKit Go.Maps Go.Proofs.YtbenkmihkbjgeaaGreat.Sh
abbrev zeroFile : Value := .agg #[.int .i64 0, .slice none 0 0, .int .i64 0]
theorem zeroF (w : World) : (zeroValue 129).run Tryz.prog w = .ok zeroFile w := by kernel_rfl
theorem look_hit {F : Nat → Prop} {w : World} {R : List RowM} {D : DataW Value} (h : FilesOK F w R D) {r : RowM} (hr : r ∈ R) : ∃ d, By F w d r.f.data ∧ ∀ v ps, hv v = some (D.atKey (.string r.path) (.held zeroFile), ps) → v = fileV r.f d := by
 obtain ⟨d, h1, h2⟩ := h.at_ r hr
 refine ⟨d, h1, fun v ps hv' => ?_⟩
 rw [h2] at hv'
 unfold hv at hv'
 injection hv' with hv'
 injection hv' with h3 _
 injection h3
theorem look_miss {F : Nat → Prop} {w : World} {R : List RowM} {D : DataW Value} (h : FilesOK F w R D) {p : List UInt8} (hp : standsM R p = false) : ∀ v ps, hv v = some (D.atKey (.string p) (.held zeroFile), ps) → v = zeroFile := by
 intro v ps hv'
 rw [Maps.atKey_of_not_has (by rw [h.has_]; exact hp)] at hv'
 unfold hv at hv'
 injection hv' with hv'
 injection hv' with h3 _
 injection h3
theorem DirsU.less {F : Nat → Prop} {w w2 w3 : World} {bu : Nat} {c c' : List UInt8 → Nat} {D : DataW Unit} (h : DirsU F w w2 bu c) (hu : UnderOK c D) (hm : Maps.IsMap D) {n : Nat} {q : List UInt8} {j : Nat} (hj : c' q = j) (hj0 : 0 < j) (hown : w3.ownsMap Tryz.prog 9 (plainElem Tryz.prog 3) bu n (D.put (.string q) (.lit (.int .i64 j)))) (hg : w2.grownBy w3 (some bu)) (hc : ∀ p, p ≠ q → c' p = c p) : DirsU F w w3 bu c' :=
 ⟨⟨_, own_exact hown, hu.put hm q j hj0 hj hc⟩, h.only.trans (M' := fun k => k = bu) (grown_only hg rfl) (fun _ hk => .inl hk)⟩
theorem turned_only {M : Nat → Prop} {w w' : World} {g : Nat} (h : w.mapTurned w' g) (hg : M g) : Only M w w' := grown_only h.grown hg
theorem DirsU.none_ {F : Nat → Prop} {w w2 w3 w4 : World} {bu : Nat} {c c' : List UInt8 → Nat} {D : DataW Unit} (h : DirsU F w w2 bu c) (hu : UnderOK c D) {n : Nat} {q : List UInt8} {v : DataW Unit} (hj : c' q = 0) (hg : w2.grownBy w3 (some bu)) (hown : w4.ownsMap Tryz.prog 9 (plainElem Tryz.prog 3) bu n ((D.put (.string q) v).del (.string q))) (ht : w3.mapTurned w4 bu) (hc : ∀ p, p ≠ q → c' p = c p) : DirsU F w w4 bu c' :=
 ⟨⟨_, own_exact hown, UnderOK.del hu q v rfl hj hc⟩, (h.only.trans (M' := fun k => k = bu) (grown_only hg rfl) (fun _ hk => .inl hk)).trans (M' := fun k => k = bu) (turned_only ht rfl) (fun _ hk => .inl hk)⟩
theorem count_drop {l : List (List UInt8)} {k : Nat} {q p : List UInt8} (hq : l[k]? = some q) : (l.drop k).count p = (l.drop (k + 1)).count p + if p = q then 1 else 0 := by
 have hk := (List.getElem?_eq_some_iff.1 hq).1
 have he := (List.getElem?_eq_some_iff.1 hq).2
 rw [List.drop_eq_getElem_cons hk, he, List.count_cons]
 by_cases h : p = q
 ·subst h; simp
 ·rw [if_neg h, if_neg (by simpa using fun e => h e.symm)]
theorem TreeX.take {F : Nat → Prop} {w w1 w2 w3 : World} {t bf bu : Nat} {R : List RowM} {r : RowM} {D : DataW Value} {n : Nat} (h : TreeX F w t R bf bu) (hF : ∀ k, F k → ¬ treeM t bf bu k) (hr : r ∈ R)
  (hD : FilesOK F w R D) (hown : w1.ownsMap Tryz.prog 9 hv bf n (D.del (.string r.path))) (ho1 : Only (fun k => k = bf) w w1) (ho2 : Only (fun k => k = t) w1 w2) (hb : Blk w2 t 166 #[.map (some bf), .map (some bu), .int .i64 ((usedM R : Int) - r.f.data.length)])
  (hU : DirsU F w2 w3 bu (cntM (withoutM R r.path))) : TreeX F w3 t (withoutM R r.path) bf bu ∧ Only (treeM t bf bu) w w3 := by
 have ho3 := hU.only
 have hon : Only (treeM t bf bu) w w3 := ((ho1.more (M' := treeM t bf bu) (fun k _ e => .inr (.inl e))).trans (ho2.more (M' := treeM t bf bu) (fun k _ e => .inl e)) (fun _ hk => .inl hk)).trans (ho3.more (M' := treeM t bf bu) (fun k _ e => .inr (.inr e))) (fun _ hk => .inl hk)
 refine ⟨⟨?_, ⟨_, own_only (own_only (own_exact hown) ho2 h.f_ne) ho3 h.ne, (hD.del r.path).only hon hF⟩, hU.own, h.ne, without_ord h.ord _⟩, hon⟩
 have h1 := used_without r.path h.ord
 have h2 := used_row hr rfl h.ord
 have : ((usedM R : Int) - r.f.data.length) = ((usedM (withoutM R r.path) : Nat) : Int) := by omega
 rw [this] at hb
 exact ho3.blk hb (fun e => h.u_ne e.symm)
set_option maxRecDepth 100000 in
set_option maxHeartbeats 3200000 in
theorem ttake_no (F : Nat → Prop) (t bf bu : Nat) (R : List RowM) (p : List UInt8) (w : World) (h : TreeX F w t R bf bu) (hno : standsM R p = false) (hp : p.length ≤ 1000000) :
  Calls Tryz.prog 205 #[.pointer (some ⟨t, 0, none⟩), .string (str p)] w fun e w' => e = .returned (.tuple #[]) ∧ Below w.heap.size w w' := by
 obtain ⟨D, hown, hfo⟩ := h.files
 have c0 : w.cell? ⟨t, 0, none⟩ = some (.map (some bf)) := h.blk.cell 0
 have hhas : Maps.has D (.string p) = false := by rw [hfo.has_]; exact hno
 have HOWN := Lib.hid hown
 have HKEY := Lib.hid (key_str p hp)
 have HMISS := Lib.hid (look_miss hfo hno)
 clear h hown hfo hno
 go_enter Tryz.func205, Tryz.ntmps205
 go_wp2_with (at_lookup; refine wpList_lookup_own_ok _ rfl _ _ 163 rfl 9 129 lawS Tryz.underlying163 hv (zeroF _) (.held zeroFile) [] rfl bf _ D rfl (by exact HOWN.out) _ (.string p) rfl (by exact HKEY.out) ?_; intro v ps hv'; obtain rfl := HMISS.out v ps hv'; rw [hhas]; clear hv')
 refine bodyPost_ret (v := .tuple #[]) (by simp [results, Tryz.results205, go_sem]) rfl ⟨rfl, ?_⟩
 exact (Below.refl _ _).alloc (Nat.le_refl _) _
set_option maxRecDepth 100000 in
set_option maxHeartbeats 6400000 in
theorem ttake_yes (F : Nat → Prop) (t bf bu : Nat) (R : List RowM) (r : RowM) (w : World) (h : TreeX F w t R bf bu) (hr : r ∈ R) (hF : ∀ k, F k → ¬ treeM t bf bu k) (hp : r.path.length ≤ 1000000) (hR : R.length ≤ 1000000) (hu : usedM R ≤ 4000000000000) :
  Calls Tryz.prog 205 #[.pointer (some ⟨t, 0, none⟩), .string (str r.path)] w fun e w' => e = .returned (.tuple #[]) ∧ TreeX F w' t (withoutM R r.path) bf bu ∧ Only (treeM t bf bu) w w' := by
 obtain ⟨D, hown, hfo⟩ := h.files
 obtain ⟨p, hpe⟩ : ∃ p, r.path = p := ⟨_, rfl⟩
 have HPE := Lib.hid hpe
 obtain ⟨u, hu'⟩ : ∃ u, usedM R = u := ⟨_, rfl⟩
 obtain ⟨l, hl'⟩ : ∃ l, r.f.data.length = l := ⟨_, rfl⟩
 have hul : l ≤ u := by
  have h1 := used_without r.path h.ord
  have h2 := used_row hr rfl h.ord
  omega
 have hblk := h.blk
 rw [hu'] at hblk hu
 have c0 : w.cell? ⟨t, 0, none⟩ = some (.map (some bf)) := hblk.cell 0
 have hhas : Maps.has D (.string p) = true := by rw [hfo.has_, ← hpe]; exact stands_iff.2 ⟨r, hr, rfl⟩
 obtain ⟨d, hd, hhit⟩ := look_hit hfo hr
 obtain ⟨dA, dc, rfl, _, _⟩ := hd.slice
 rw [hpe] at hhit
 unfold fileV at hhit
 rw [hl'] at hhit
 rw [hpe] at hp ⊢
 have HOWN := Lib.hid hown
 have HKEY := Lib.hid (key_str p hp)
 have HHIT := Lib.hid hhit
 have HX := Lib.hid h
 have HFO := Lib.hid hfo
 have HU := Lib.hid hu'
 have HL := Lib.hid hl'
 have HBLK := Lib.hid hblk
 have HR := Lib.hid hR
 have HRR := Lib.hid hr
 have htl : t < w.heap.size := h.lt t (.inl rfl)
 have HTL := Lib.hid htl
 have HFL : Hid (bf < w.heap.size) := h.lt bf (.inr (.inl rfl))
 have HUL : Hid (bu < w.heap.size) := h.lt bu (.inr (.inr rfl))
 clear h hown hfo hhit hd hu' hl' hblk hR hr hpe htl
 have c0a : (w.alloc (.cells #[.int .i64 r.f.mode, .slice dA l dc, .int .i64 r.f.time] 129)).cell? ⟨t, 0, none⟩ = some (.map (some bf)) := (HBLK.out.alloc _).cell 0
 go_enter Tryz.func205, Tryz.ntmps205
 have tok1 : True := trivial
 go_wp2_with (first
  | (at_lookup; have _t := tok1; refine wpList_lookup_own_ok _ rfl _ _ 163 rfl 9 129 lawS Tryz.underlying163 hv (zeroF _) (.held zeroFile) [] rfl bf _ D rfl (by exact HOWN.out) _ (.string p) rfl (by exact HKEY.out) ?_; intro v ps hv'; obtain rfl := HHIT.out v ps hv'; rw [hhas]; clear hv' tok1)
  | (at_delete; refine wpList_delete_own _ rfl _ _ 163 9 rfl 129 lawS Tryz.underlying163 hv bf _ D rfl (by exact own_only HOWN.out ((Only.refl (fun _ => False) w).alloc _) id) _ (.string p) rfl (by exact HKEY.out) ?_; intro w1 hown1 hturn1; have HOWN1 := Lib.hid hown1; have HT1 := Lib.hid hturn1; clear hown1 hturn1))
 have hne1 : some t ≠ some bf := fun e => HX.out.f_ne (by injection e with e; exact e.symm)
 have hblk1 := (HBLK.out.alloc (.cells #[.int .i64 r.f.mode, .slice dA l dc, .int .i64 r.f.time] 129)).grown HT1.out.grown hne1
 have hbox1 := (Blk.new w 129 #[.int .i64 r.f.mode, .slice dA l dc, .int .i64 r.f.time]).grown HT1.out.grown (fun e => by injection e with e; have := HFL.out; omega)
 have o1 : Only (fun k => k = bf) w w1 := ((Only.refl (fun _ => False) w).alloc _ |>.more (fun _ _ h => h.elim)).trans (M' := fun k => k = bf) (turned_only HT1.out rfl) (fun _ hk => .inl hk)
 have c2 : w1.cell? ⟨t, 2, none⟩ = some (.int .i64 u) := hblk1.cell 2
 have c2f : w1.frozen? ⟨t, 2, none⟩ = false := hblk1.frozen 2
 have e1 : w1.cell? ⟨w.heap.size, 1, none⟩ = some (.slice dA l dc) := hbox1.cell 1
 have HBLK1 := Lib.hid hblk1
 have HO1 := Lib.hid o1
 have u0 : (0 : Int) ≤ (u : Int) := by omega
 have u1 : (u : Int) ≤ 4000000000000 := by omega
 have l0 : (0 : Int) ≤ (l : Int) := by omega
 have l1 : (l : Int) ≤ (u : Int) := by omega
 clear hne1 hblk1 hbox1 o1 c0 c0a hu hul hhas
 go_still_tail 10, (by kernel_rfl)
 change wpList _ _ _ _ _ w1.drew
 go_wp2_with fail
 have hblk2 : Blk ((w1.setCell ⟨t, 2, none⟩ (.int .i64 ((u : Int) - (l : Int)))).drew) t 166 #[.map (some bf), .map (some bu), .int .i64 ((u : Int) - (l : Int))] := (HBLK1.out.set_ 2 (.int .i64 ((u : Int) - (l : Int)))).drew
 have o2 : Only (fun k => k = t) w1 ((w1.setCell ⟨t, 2, none⟩ (.int .i64 ((u : Int) - (l : Int)))).drew) := (Only.set_ (M := fun k => k = t) (g := t) (i := 2) (Only.refl _ w1) (.inl rfl) _).drew
 generalize (w1.setCell ⟨t, 2, none⟩ (.int .i64 ((u : Int) - (l : Int)))).drew = w2 at *
 refine (nparents_any p _ hp).mono ?_
 rintro e w3 ⟨v, rfl, ho3, hb3⟩
 have HB3 := Lib.hid hb3
 have HBLK3 := Lib.hid (hblk2.below hb3 hblk2.lt)
 have HO3 := Lib.hid (o2.then_below hb3)
 obtain ⟨pA, pc, rfl, pl1, pl2⟩ := ho3.length
 simp only [List.length_map] at pl1 ⊢
 have HP := Lib.hid ho3
 have hw2z : bu < w2.heap.size := Nat.lt_of_lt_of_le HUL.out (Nat.le_trans HO1.out.size o2.size)
 have HW2 := Lib.hid hw2z
 clear hw2z
 obtain ⟨m, hm⟩ : ∃ m, (parentsL p).length = m := ⟨_, rfl⟩
 have hm7 : m ≤ 7 := by rw [← hm]; exact parents_few p
 rw [hm] at pl1 ⊢
 have HMM := Lib.hid hm
 have c1 : w3.cell? ⟨t, 1, none⟩ = some (.map (some bu)) := HBLK3.out.cell 1
 clear hblk2 o2 ho3 hb3 hm c2 c2f e1
 have hcs : ∀ q, cntM R q = cntM (withoutM R p) q + (parentsL p).count q := fun q => by have := cnt_without HX.out.ord HRR.out q; rw [HPE.out] at this; exact this
 have hu3 : DirsU F w3 w3 bu (fun q => cntM (withoutM R p) q + ((parentsL p).drop 0).count q) := by
  obtain ⟨E, h1, h2⟩ := HX.out.under
  refine ⟨⟨E, own_only (own_only h1 HO1.out (fun e => HX.out.ne e.symm)) HO3.out HX.out.u_ne, fun q => ?_⟩, Only.refl _ _⟩
  have := h2 q
  rw [hcs q] at this
  exact this
 have HU3 := Lib.hid hu3
 have HCS := Lib.hid hcs
 clear hu3 hcs
 go_wp2_with fail
 go_loopw [37] (fun i wr => ∃ k : Nat, k ≤ m ∧ i = .int .i64 k ∧ DirsU F w3 wr bu (fun q => cntM (withoutM R p) q + ((parentsL p).drop k).count q)) (fun i _ => m - (intOf i).toNat)
 case atStart => exact ⟨0, by omega, rfl, HU3.out⟩
 case round =>
  obtain ⟨k, hk, rfl, hdu⟩ := hrel
  have k0 : (0 : Int) ≤ (k : Int) := by omega
  have HDU := Lib.hid hdu
  by_cases hlt : k < m
  ·have k1 : (k : Int) < (m : Int) := by omega
   have k2 : (k : Int) ≤ (m : Int) := by omega
   have hkm : k < (parentsL p).length := by rw [HMM.out]; exact hlt
   obtain ⟨q, hq⟩ : ∃ q, (parentsL p)[k] = q := ⟨_, rfl⟩
   have hqk : (parentsL p)[k]? = some q := by rw [List.getElem?_eq_getElem hkm, hq]
   have hql : q.length ≤ 1000000 := by
    have := parents_path (List.mem_of_getElem? hqk)
    have := ((pathB_iff q).1 this).1
    omega
   have hor : Only (fun k => k = bu) w3 wr := hdu.only
   have hov := hor.own HP.out (fun g hg e => by have := (HP.out.lt g hg).1; have := HW2.out; omega)
   obtain ⟨A', c', he, _, _, hrd⟩ := hov.slv.len
   injection he with he1 he2 he3
   subst he1
   simp only [List.length_map] at hrd
   have hkm' : k < ((parentsL p).map str).length := by rw [List.length_map]; exact hkm
   have hta := texts_at (xs := (parentsL p).map str) (by simpa using hrd) k hkm'
   obtain ⟨ad, rfl, hcell⟩ := hta
   have hcell2 : wr.cell? (ad.add k) = some (.string (str q)) := by rw [hcell]; simp [hq]
   have hblkr := hor.blk HBLK3.out (fun e => HX.out.u_ne e.symm)
   have HBLKR := Lib.hid hblkr
   have c1r : wr.cell? ⟨t, 1, none⟩ = some (.map (some bu)) := hblkr.cell 1
   obtain ⟨E, hE1, hE2⟩ := hdu.own
   obtain ⟨j, hj⟩ : ∃ j, cntM (withoutM R p) q + ((parentsL p).drop (k + 1)).count q = j := ⟨_, rfl⟩
   have hcj : cntM (withoutM R p) q + ((parentsL p).drop k).count q = j + 1 := by rw [count_drop hqk, if_pos rfl, ← hj, Nat.add_assoc]
   have hat0 : E.atKey (.string q) (.lit (.int .i64 0)) = .lit (.int .i64 ((j : Int) + 1)) := by have h : E.atKey (.string q) (.lit (.int .i64 0)) = .lit (.int .i64 ((cntM (withoutM R p) q + ((parentsL p).drop k).count q : Nat) : Int)) := (hE2 q).2; rw [hcj] at h; rw [h]; rfl
   have hccb : j ≤ 8000000 := by
    rw [← hj]
    have h1 := cnt_le (withoutM R p) q
    have h2 : ((parentsL p).drop (k + 1)).count q ≤ 7 := Nat.le_trans List.count_le_length (by rw [List.length_drop, HMM.out]; omega)
    have h3 : (withoutM R p).length ≤ R.length := List.length_filter_le _ _
    have := HR.out
    omega
   have hesz : Maps.size E < maxLen := by
    have h1 := hE2.small hE1 (ds := dirsM (withoutM R p) ++ (parentsL p).drop k) (fun x => by rw [List.count_append]; exact Nat.le_refl _)
    have h2 := dirs_len (withoutM R p)
    have h3 : (withoutM R p).length ≤ R.length := List.length_filter_le _ _
    have := HR.out
    rw [List.length_append, List.length_drop] at h1
    have := parents_few p
    unfold maxLen
    omega
   have HE1 := Lib.hid hE1
   have HE2 := Lib.hid hE2
   have HESZ := Lib.hid hesz
   have HJ := Lib.hid hj
   have HCJ := Lib.hid hcj
   have HAT := Lib.hid hat0
   have HKQ := Lib.hid (key_str q hql)
   have HQK := Lib.hid hqk
   have hc0 : (0 : Int) ≤ (j : Int) := by omega
   have hc1 : (j : Int) ≤ 8000000 := by omega
   have HIM : Hid (Maps.IsMap E) := hE1.isMap
   have HC : Hid (∀ x, x ≠ q → cntM (withoutM R p) x + ((parentsL p).drop (k + 1)).count x = cntM (withoutM R p) x + ((parentsL p).drop k).count x) := fun x hx => by rw [count_drop HQK.out, if_neg hx]; rfl
   clear hor hov hrd hkm' hcell hE1 hE2 hesz hj hcj hat0 hq hqk hql hkm hccb hdu hblkr
   have tok2 : True := trivial
   obtain ⟨z, hz⟩ : ∃ z, ((j : Int) == 0) = z := ⟨_, rfl⟩
   have HZ := Lib.hid hz
   cases z with
   | true =>
    go_wp2_with (first
     | (at_lookup; have _t := tok2; refine wpList_lookup_own_int _ rfl _ _ 164 rfl 9 3 .i64 lawS Tryz.underlying164 Tryz.underlying3 (zeroI _) bu _ E rfl (by exact HE1.out) _ _ rfl (by exact HKQ.out) ?_; intro c hat hwc; obtain rfl : c = (j : Int) + 1 := (by have h := hat.symm.trans HAT.out; injection h with h; injection h with h); clear hat hwc tok2)
     | (at_mapUpdate; refine wpList_mapUpdate_own _ rfl _ _ _ 164 rfl 9 3 lawS Tryz.underlying164 _ bu _ E rfl (by exact HE1.out) (by exact HESZ.out) _ _ (.string q) rfl rfl (by exact HKQ.out) (.lit (.int .i64 (j : Int))) [] (by first | exact plainElem_int Tryz.underlying3 (WalkArith.wf_i64 (by omega)) | (rw [show ((j : Int) + 1 - 1) = (j : Int) from by omega]; exact plainElem_int Tryz.underlying3 (WalkArith.wf_i64 (by omega)))) ?_; intro w4 hown4 hgrow4; have HOWN4 := Lib.hid hown4; have HG4 := Lib.hid hgrow4; have c1w : w4.cell? ⟨t, 1, none⟩ = some (.map (some bu)) := (HBLKR.out.grown hgrow4 (fun e => HX.out.u_ne (by injection e with e; exact e.symm))).cell 1; have tok4 : True := trivial; clear hown4 hgrow4)
     | (at_lookup; have _t := tok4; refine wpList_lookup_own_int _ rfl _ _ 164 rfl 9 3 .i64 lawS Tryz.underlying164 Tryz.underlying3 (zeroI _) bu _ _ rfl (by exact HOWN4.out) _ _ rfl (by exact HKQ.out) ?_; intro c hat hwc; obtain rfl : c = (j : Int) := (by have h := hat.symm.trans (Maps.atKey_put_same HIM.out (isK q) _ _); injection h with h; injection h with h); clear hat hwc tok4)
     | (at_delete; refine wpList_delete_own _ rfl _ _ 164 9 rfl 3 lawS Tryz.underlying164 _ bu _ _ rfl (by exact HOWN4.out) _ (.string q) rfl (by exact HKQ.out) ?_; intro w5 hown5 hturn5; have HOWN5 := Lib.hid hown5; have HT5 := Lib.hid hturn5; clear hown5 hturn5))
    have hj0 : j = 0 := by have := beq_iff_eq.1 HZ.out; omega
    refine ⟨⟨_, _, ⟨k + 1, by omega, rfl, ?_⟩, rfl, (wrap_ok (by omega) (by omega)).symm, by simp⟩, by simp [intOf]; omega⟩
    exact DirsU.none_ (F := F) (c' := fun x => cntM (withoutM R p) x + ((parentsL p).drop (k + 1)).count x) HDU.out HE2.out (by show cntM (withoutM R p) q + _ = 0; rw [HJ.out, hj0]) HG4.out HOWN5.out HT5.out HC.out
   | false =>
    go_wp2_with (first
     | (at_lookup; have _t := tok2; refine wpList_lookup_own_int _ rfl _ _ 164 rfl 9 3 .i64 lawS Tryz.underlying164 Tryz.underlying3 (zeroI _) bu _ E rfl (by exact HE1.out) _ _ rfl (by exact HKQ.out) ?_; intro c hat hwc; obtain rfl : c = (j : Int) + 1 := (by have h := hat.symm.trans HAT.out; injection h with h; injection h with h); clear hat hwc tok2)
     | (at_mapUpdate; refine wpList_mapUpdate_own _ rfl _ _ _ 164 rfl 9 3 lawS Tryz.underlying164 _ bu _ E rfl (by exact HE1.out) (by exact HESZ.out) _ _ (.string q) rfl rfl (by exact HKQ.out) (.lit (.int .i64 (j : Int))) [] (by first | exact plainElem_int Tryz.underlying3 (WalkArith.wf_i64 (by omega)) | (rw [show ((j : Int) + 1 - 1) = (j : Int) from by omega]; exact plainElem_int Tryz.underlying3 (WalkArith.wf_i64 (by omega)))) ?_; intro w4 hown4 hgrow4; have HOWN4 := Lib.hid hown4; have HG4 := Lib.hid hgrow4; have c1w : w4.cell? ⟨t, 1, none⟩ = some (.map (some bu)) := (HBLKR.out.grown hgrow4 (fun e => HX.out.u_ne (by injection e with e; exact e.symm))).cell 1; have tok4 : True := trivial; clear hown4 hgrow4)
     | (at_lookup; have _t := tok4; refine wpList_lookup_own_int _ rfl _ _ 164 rfl 9 3 .i64 lawS Tryz.underlying164 Tryz.underlying3 (zeroI _) bu _ _ rfl (by exact HOWN4.out) _ _ rfl (by exact HKQ.out) ?_; intro c hat hwc; obtain rfl : c = (j : Int) := (by have h := hat.symm.trans (Maps.atKey_put_same HIM.out (isK q) _ _); injection h with h; injection h with h); clear hat hwc tok4)
     | (at_delete; refine wpList_delete_own _ rfl _ _ 164 9 rfl 3 lawS Tryz.underlying164 _ bu _ _ rfl (by exact HOWN4.out) _ (.string q) rfl (by exact HKQ.out) ?_; intro w5 hown5 hturn5; have HOWN5 := Lib.hid hown5; have HT5 := Lib.hid hturn5; clear hown5 hturn5))
    have hj0 : 0 < j := by have := beq_eq_false_iff_ne.1 HZ.out; omega
    refine ⟨⟨_, _, ⟨k + 1, by omega, rfl, ?_⟩, rfl, (wrap_ok (by omega) (by omega)).symm, by simp⟩, by simp [intOf]; omega⟩
    exact DirsU.less (F := F) (c' := fun x => cntM (withoutM R p) x + ((parentsL p).drop (k + 1)).count x) HDU.out HE2.out HIM.out HJ.out hj0 HOWN4.out HG4.out HC.out
  ·obtain rfl : k = m := by omega
   have hfin : DirsU F w3 wr bu (cntM (withoutM R p)) := by
    have := HDU.out
    rw [List.drop_of_length_le (Nat.le_of_eq HMM.out)] at this
    exact this
   have HFIN := Lib.hid hfin
   clear hfin hdu
   go_wp2_with fail
   go_end0
   have := TreeX.take (r := r) (n := Maps.size D) HX.out hF HRR.out HFO.out (by rw [HPE.out]; exact HOWN1.out) HO1.out HO3.out (by rw [HU.out, HL.out]; exact HBLK3.out) (by rw [HPE.out]; exact HFIN.out)
   rw [HPE.out] at this
   exact ⟨rfl, this⟩
end Go.Proofs.YtbenkmihkbjgeaaGreat.Tx
