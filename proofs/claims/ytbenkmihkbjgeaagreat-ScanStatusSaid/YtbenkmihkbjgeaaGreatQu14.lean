/- Texts put together: UGs7, UGs8, UGs9, UGs10. -/
import Derived.Test.YtbenkmihkbjgeaaGreatQu13
/- Package fsim: a file is removed; moved. -/
namespace Go.Proofs.YtbenkmihkbjgeaaGreat.Tx
open Go.RowKit Go.Maps Go.Proofs.YtbenkmihkbjgeaaGreat.Sh
def rmE (c : CSt) (p : List UInt8) : Int := if pathB p = false then 6 else if peekB c.here p = false then 7 else 0
def rmC (c : CSt) (p : List UInt8) : CSt := if rmE c p = 0 then doC c ⟨p, [], ⟨0, [], 0⟩⟩ else c
theorem rm_no {c : CSt} {p : List UInt8} {n : Int} (h : rmE c p = n) (hn : n ≠ 0) : rmC c p = c := by
 unfold rmC
 rw [if_neg (by rw [h]; exact hn)]
set_option maxRecDepth 100000 in
set_option maxHeartbeats 6400000 in
theorem remove_any (F M : Nat → Prop) (b : Nat) (c : CSt) (p : List UInt8) (w : World) (h : FcAt F w b c M) (hs : CSmall c) (hp : p.length ≤ 1000000) :
  Calls Tryz.prog 89 #[.pointer (some ⟨b, 0, none⟩), .string (str p)] w fun e w' => e = .returned (.int .i64 (rmE c p)) ∧ FcPost F M w b (rmC c p) w' := by
 have HAT := Lib.hid h
 have HS := Lib.hid hs
 obtain ⟨we, hwe⟩ : ∃ we, rmE c p = we := ⟨_, rfl⟩
 have HWE := Lib.hid hwe
 obtain ⟨t1, ht1⟩ : ∃ t1, pathB p = t1 := ⟨_, rfl⟩
 have HT1 := Lib.hid ht1
 have HSTAY : Hid (∀ w', Below w.heap.size w w' → FcPost F M w b c w') := fun w' hb => FcPost.of_below hb (FcPost.refl (HAT.out.below hb))
 have HNO : Hid (∀ k, we = k → k ≠ 0 → ∀ w', Below w.heap.size w w' → FcPost F M w b (rmC c p) w') := fun k hk hk0 w' hb => by
  rw [rm_no (HWE.out.trans hk) hk0]
  exact HSTAY.out w' hb
 clear h hs hwe ht1
 rw [HWE.out]
 go_enter Tryz.func89, Tryz.ntmps89
 go_wp2_with fail
 refine (npath_any p _ hp).mono ?_
 rintro e w2 ⟨rfl, hb2⟩
 rw [HT1.out]
 have HB2 := Lib.hid hb2
 clear hb2
 cases t1 with
 | false =>
  have HE : Hid (we = 6) := by unfold Hid; rw [← HWE.out]; unfold rmE; rw [if_pos HT1.out]
  go_wp2_with fail
  go_ret
  exact ⟨by rw [HE.out]; rfl, HNO.out 6 HE.out (by decide) _ HB2.out⟩
 | true =>
  obtain ⟨x, hX, hM⟩ := HAT.out.below HB2.out
  have c6 : w2.cell? ⟨b, 6, none⟩ = some (.pointer (some ⟨x.here, 0, none⟩)) := hX.blk.cell 6
  have c0 : w2.cell? ⟨x.here, 0, none⟩ = some (.map (some x.hf)) := hX.here.blk.cell 0
  obtain ⟨D, hown, hfo⟩ := hX.here.files
  obtain ⟨oA, oc, _, hlook, hhas⟩ := look_peek hfo hX.here.ord p
  obtain ⟨f, hf⟩ : ∃ f, peekF c.here p = f := ⟨_, rfl⟩
  obtain ⟨t, ht⟩ : ∃ t, peekB c.here p = t := ⟨_, rfl⟩
  rw [hf] at hlook
  rw [ht] at hhas
  obtain ⟨ol, hol'⟩ : ∃ ol, f.data.length = ol := ⟨_, rfl⟩
  rw [hol'] at hlook
  have HT := Lib.hid ht
  have HOWN := Lib.hid hown
  have HLOOK := Lib.hid hlook
  have HKEY := Lib.hid (key_str p hp)
  have hBa : Below w2.heap.size w2 (w2.alloc (.cells #[.int .i64 f.mode, .slice oA ol oc, .int .i64 f.time] 129)) := (Below.refl _ _).alloc (Nat.le_refl _) _
  have HB3 := Lib.hid (HB2.out.trans (hBa.mono HB2.out.size))
  have hpl : p.length ≤ 1000 := by
   have := ((pathB_iff p).1 HT1.out).1
   omega
  have HDO : Hid (rmE c p = 0 → Calls Tryz.prog 140 #[.pointer (some ⟨b, 0, none⟩), .agg #[.string (str p), .string ⟨#[]⟩, .int .i64 0, .slice none 0 0, .int .i64 0]] (w2.alloc (.cells #[.int .i64 f.mode, .slice oA ol oc, .int .i64 f.time] 129)) fun e w' => e = .returned (.tuple #[]) ∧ FcPost F M w b (rmC c p) w') := fun h0 => by
   have hd := do_any F M b c ⟨p, [], ⟨0, [], 0⟩⟩ (.slice none 0 0) _ (HAT.out.below HB3.out) (By.nil_ _ _) (by have := HS.out.time; omega) (by have := HS.out.here; omega) (by have := HS.out.both; omega) (by have := HS.out.hused; omega) hp (Nat.zero_le _) (Nat.zero_le _)
   refine hd.mono ?_
   rintro e w' ⟨rfl, hpo⟩
   refine ⟨rfl, ?_⟩
   have h2 := FcPost.of_below HB3.out hpo
   unfold rmC
   rw [if_pos h0]
   exact h2
  clear hX hM hown hfo hlook hf ht hol' hBa
  cases t with
  | false =>
   have HE : Hid (we = 7) := by unfold Hid; rw [← HWE.out]; unfold rmE; rw [if_neg (by rw [HT1.out]; decide), if_pos HT.out]
   go_wp2_with (at_lookup; refine wpList_lookup_own_ok _ rfl _ _ 163 rfl 9 129 lawS Tryz.underlying163 hv (zeroF _) (.held zeroFile) [] rfl x.hf _ D rfl (by exact HOWN.out) _ (.string p) rfl (by exact HKEY.out) ?_; intro v ps hv'; obtain rfl := HLOOK.out v ps hv'; rw [hhas]; clear hv')
   go_ret
   exact ⟨by rw [HE.out]; rfl, HNO.out 7 HE.out (by decide) _ HB3.out⟩
  | true =>
   have HE : Hid (we = 0) := by unfold Hid; rw [← HWE.out]; unfold rmE; rw [if_neg (by rw [HT1.out]; decide), if_neg (by rw [HT.out]; decide)]
   go_wp2_with (first | fail | (at_lookup; refine wpList_lookup_own_ok _ rfl _ _ 163 rfl 9 129 lawS Tryz.underlying163 hv (zeroF _) (.held zeroFile) [] rfl x.hf _ D rfl (by exact HOWN.out) _ (.string p) rfl (by exact HKEY.out) ?_; intro v ps hv'; obtain rfl := HLOOK.out v ps hv'; rw [hhas]; clear hv'))
   refine (HDO.out (HWE.out.trans HE.out)).mono ?_
   rintro e w6 ⟨rfl, hp6⟩
   have HP6 := Lib.hid hp6
   clear hp6
   go_wp2_with fail
   go_ret
   exact ⟨by rw [HE.out]; rfl, HP6.out⟩
end Go.Proofs.YtbenkmihkbjgeaaGreat.Tx
/- Package fsim: a file is moved. -/
namespace Go.Proofs.YtbenkmihkbjgeaaGreat.Tx
open Go.RowKit Go.Maps Go.Proofs.YtbenkmihkbjgeaaGreat.Sh
def mvE (c : CSt) (fr tt : List UInt8) (create : Bool) : Int :=
 if pathB fr = false ∨ pathB tt = false then 6
 else if peekB c.here fr = false then 7
 else if create = true ∧ peekB c.here tt = true then 8
 else if tt = fr then 0
 else if mayC c.here tt fr = false then 9
 else 0
def mvC (c : CSt) (fr tt : List UInt8) (create : Bool) : CSt := if mvE c fr tt create = 0 ∧ tt ≠ fr then doC c ⟨fr, tt, peekF c.here fr⟩ else c
theorem mv_no {c : CSt} {fr tt : List UInt8} {create : Bool} {n : Int} (h : mvE c fr tt create = n) (hn : n ≠ 0 ∨ tt = fr) : mvC c fr tt create = c := by
 unfold mvC
 rw [if_neg]
 rintro ⟨h1, h2⟩
 rcases hn with hn | hn
 ·exact hn (h.symm.trans h1)
 ·exact h2 hn
set_option maxRecDepth 100000 in
set_option maxHeartbeats 9600000 in
theorem move_any (F M : Nat → Prop) (b : Nat) (c : CSt) (fr tt : List UInt8) (create : Bool) (w : World) (h : FcAt F w b c M) (hs : CSmall c) (hf : fr.length ≤ 1000000) (ht : tt.length ≤ 1000000) :
  Calls Tryz.prog 121 #[.pointer (some ⟨b, 0, none⟩), .string (str fr), .string (str tt), .bool create] w fun e w' => e = .returned (.int .i64 (mvE c fr tt create)) ∧ FcPost F M w b (mvC c fr tt create) w' := by
 have HAT := Lib.hid h
 have HS := Lib.hid hs
 obtain ⟨we, hwe⟩ : ∃ we, mvE c fr tt create = we := ⟨_, rfl⟩
 have HWE := Lib.hid hwe
 have HSTAY : Hid (∀ w', Below w.heap.size w w' → FcPost F M w b c w') := fun w' hb => FcPost.of_below hb (FcPost.refl (HAT.out.below hb))
 have HNO : Hid (∀ k, we = k → (k ≠ 0 ∨ tt = fr) → ∀ w', Below w.heap.size w w' → FcPost F M w b (mvC c fr tt create) w') := fun k hk hk0 w' hb => by
  rw [mv_no (HWE.out.trans hk) hk0]
  exact HSTAY.out w' hb
 obtain ⟨x, hX, hM⟩ := h
 have hXF := hX.low
 have c6 : w.cell? ⟨b, 6, none⟩ = some (.pointer (some ⟨x.here, 0, none⟩)) := hX.blk.cell 6
 have c0 : w.cell? ⟨x.here, 0, none⟩ = some (.map (some x.hf)) := hX.here.blk.cell 0
 obtain ⟨D, hown, hfo⟩ := hX.here.files
 obtain ⟨fA, fc, hby, hlook, hhas⟩ := look_peek hfo hX.here.ord fr
 obtain ⟨tA, tc, _, hlook2, hhas2⟩ := look_peek hfo hX.here.ord tt
 obtain ⟨f, hff⟩ : ∃ f, peekF c.here fr = f := ⟨_, rfl⟩
 obtain ⟨g, hgg⟩ : ∃ g, peekF c.here tt = g := ⟨_, rfl⟩
 obtain ⟨t1, ht1⟩ : ∃ t1, peekB c.here fr = t1 := ⟨_, rfl⟩
 obtain ⟨t2, ht2⟩ : ∃ t2, peekB c.here tt = t2 := ⟨_, rfl⟩
 have hfl := peek_short hs.hrow fr
 rw [hff] at hlook hby hfl
 rw [hgg] at hlook2
 rw [ht1] at hhas
 rw [ht2] at hhas2
 obtain ⟨fl, hfl'⟩ : ∃ fl, f.data.length = fl := ⟨_, rfl⟩
 obtain ⟨gl, hgl'⟩ : ∃ gl, g.data.length = gl := ⟨_, rfl⟩
 rw [hfl'] at hlook hby hfl
 rw [hgl'] at hlook2
 have HFF := Lib.hid hff
 have HT1 := Lib.hid ht1
 have HT2 := Lib.hid ht2
 have HFL := Lib.hid hfl'
 have HBY := Lib.hid hby
 have HOWN := Lib.hid hown
 have HLOOK := Lib.hid hlook
 have HLOOK2 := Lib.hid hlook2
 have HKEY := Lib.hid (key_str fr hf)
 have HKEY2 := Lib.hid (key_str tt ht)
 have HX := Lib.hid hX
 obtain ⟨wa, hwa⟩ : ∃ wa, wa = w.alloc (.cells #[.int .i64 f.mode, .slice fA fl fc, .int .i64 f.time] 129) := ⟨_, rfl⟩
 have hBa : Below w.heap.size w wa := by rw [hwa]; exact (Below.refl _ _).alloc (Nat.le_refl _) _
 have hba : Blk wa w.heap.size 129 #[.int .i64 f.mode, .slice fA fl fc, .int .i64 f.time] := by rw [hwa]; exact Blk.new _ _ _
 have hzw : w.heap.size < wa.heap.size := hba.lt
 have HBA := Lib.hid hBa
 have HBLK := Lib.hid hba
 have HOWNA := Lib.hid (own_only hown (Only.of_below (M := fun _ => False) hBa) id)
 obtain ⟨wb, hwb⟩ : ∃ wb, wb = wa.alloc (.cells #[.int .i64 g.mode, .slice tA gl tc, .int .i64 g.time] 129) := ⟨_, rfl⟩
 have hBb : Below wa.heap.size wa wb := by rw [hwb]; exact (Below.refl _ _).alloc (Nat.le_refl _) _
 have HBB := Lib.hid (HBA.out.trans (hBb.mono (Nat.le_of_lt hzw)))
 have HBLKB := Lib.hid (HBLK.out.below hBb hzw)
 have d6 : wa.cell? ⟨b, 6, none⟩ = some (.pointer (some ⟨x.here, 0, none⟩)) := (HX.out.below hBa).blk.cell 6
 have d0 : wa.cell? ⟨x.here, 0, none⟩ = some (.map (some x.hf)) := (HX.out.below hBa).here.blk.cell 0
 clear hs hwe hX hM hown hfo hby hlook hlook2 hff hgg ht1 ht2 hfl' hgl' hBa hba hBb hXF
 obtain ⟨p1, hp1⟩ : ∃ p1, pathB fr = p1 := ⟨_, rfl⟩
 obtain ⟨p2, hp2⟩ : ∃ p2, pathB tt = p2 := ⟨_, rfl⟩
 have HP1 := Lib.hid hp1
 have HP2 := Lib.hid hp2
 clear hp1 hp2
 rw [HWE.out]
 go_enter Tryz.func121, Tryz.ntmps121
 go_upto_region 2 with (first | fail | (at_lookup; refine wpList_lookup_own_ok _ rfl _ _ 163 rfl 9 129 lawS Tryz.underlying163 hv (zeroF _) (.held zeroFile) [] rfl x.hf _ D rfl (by exact HOWN.out) _ (.string fr) rfl (by exact HKEY.out) ?_; intro v ps hv'; obtain rfl := HLOOK.out v ps hv'; rw [hhas]; clear hv'))
 rw [← hwa]
 clear hwa c6 c0
 go_upto_region 3 with (first | fail | (at_lookup; refine wpList_lookup_own_ok _ rfl _ _ 163 rfl 9 129 lawS Tryz.underlying163 hv (zeroF _) (.held zeroFile) [] rfl x.hf _ D rfl (by exact HOWNA.out) _ (.string tt) rfl (by exact HKEY2.out) ?_; intro v ps hv'; obtain rfl := HLOOK2.out v ps hv'; rw [hhas2]; clear hv'))
 rw [← hwb]
 clear hwb d6 d0
 go_wp2_with fail
 refine (npath_any fr _ hf).mono ?_
 rintro e w2 ⟨rfl, hb2⟩
 rw [HP1.out]
 have HB2 := Lib.hid (HBB.out.trans (hb2.mono HBB.out.size))
 have HBK2 := Lib.hid (HBLKB.out.below hb2 HBLKB.out.lt)
 clear hb2
 cases p1 with
 | false =>
  have HE : Hid (we = 6) := by unfold Hid; rw [← HWE.out]; unfold mvE; rw [if_pos (.inl HP1.out)]
  go_wp2_with fail
  go_ret
  exact ⟨by rw [HE.out]; rfl, HNO.out 6 HE.out (.inl (by decide)) _ HB2.out⟩
 | true =>
  go_wp2_with fail
  refine (npath_any tt _ ht).mono ?_
  rintro e w3 ⟨rfl, hb3⟩
  rw [HP2.out]
  have HB3 := Lib.hid (HB2.out.trans (hb3.mono HB2.out.size))
  have HBK3 := Lib.hid (HBK2.out.below hb3 HBK2.out.lt)
  clear hb3
  cases p2 with
  | false =>
   have HE : Hid (we = 6) := by unfold Hid; rw [← HWE.out]; unfold mvE; rw [if_pos (.inr HP2.out)]
   go_wp2_with fail
   go_ret
   exact ⟨by rw [HE.out]; rfl, HNO.out 6 HE.out (.inl (by decide)) _ HB3.out⟩
  | true =>
   have HPP : Hid (¬ (pathB fr = false ∨ pathB tt = false)) := by unfold Hid; rw [HP1.out, HP2.out]; decide
   cases t1 with
   | false =>
    have HE : Hid (we = 7) := by unfold Hid; rw [← HWE.out]; unfold mvE; rw [if_neg HPP.out, if_pos HT1.out]
    go_wp2_with fail
    go_ret
    exact ⟨by rw [HE.out]; rfl, HNO.out 7 HE.out (.inl (by decide)) _ HB3.out⟩
   | true =>
    have HN7 : Hid (¬ peekB c.here fr = false) := by unfold Hid; rw [HT1.out]; decide
    by_cases hct : create = true ∧ t2 = true
    ·obtain ⟨rfl, rfl⟩ := hct
     have HE : Hid (we = 8) := by unfold Hid; rw [← HWE.out]; unfold mvE; rw [if_neg HPP.out, if_neg HN7.out, if_pos ⟨rfl, HT2.out⟩]
     go_wp2_with fail
     go_ret
     exact ⟨by rw [HE.out]; rfl, HNO.out 8 HE.out (.inl (by decide)) _ HB3.out⟩
    ·have HCT : Hid (¬ (create = true ∧ peekB c.here tt = true)) := by unfold Hid; rw [HT2.out]; exact hct
     go_upto_region 7 with (fail)
     go_cut [49] (fun v wx => v = .bool false ∧ w3 = wx)
     case first =>
      cases create with
      | false =>
       go_wp2_with fail
       go_meet
       exact ⟨rfl, rfl⟩
      | true =>
       cases t2 with
       | true => exact absurd ⟨rfl, rfl⟩ hct
       | false =>
        go_wp2_with fail
        go_meet
        exact ⟨rfl, rfl⟩
     case rest =>
      obtain ⟨rfl, rfl⟩ := hcut
      clear hct
      by_cases hft : tt = fr
      ·have HE : Hid (we = 0) := by unfold Hid; rw [← HWE.out]; unfold mvE; rw [if_neg HPP.out, if_neg HN7.out, if_neg HCT.out, if_pos hft]
       have HFT := Lib.hid hft
       have e1 := str_eq' hft
       clear hft
       go_wp2_with fail
       go_ret
       exact ⟨by rw [HE.out]; rfl, HNO.out 0 HE.out (.inr HFT.out) _ HB3.out⟩
      ·have HFT := Lib.hid hft
       have e1 := str_ne hft
       have hX3 := HX.out.below HB3.out
       have c6 : w3.cell? ⟨b, 6, none⟩ = some (.pointer (some ⟨x.here, 0, none⟩)) := hX3.blk.cell 6
       have HMAY : Hid (Calls Tryz.prog 141 #[.pointer (some ⟨x.here, 0, none⟩), .string (str tt), .string (str fr)] w3 fun e w' => e = .returned (.bool (mayC c.here tt fr)) ∧ Below w3.heap.size w3 w') := tmay_any F x.here x.hf x.hu c.here tt fr w3 hX3.here ht hf (by have := HS.out.here; omega)
       obtain ⟨my, hmy⟩ : ∃ my, mayC c.here tt fr = my := ⟨_, rfl⟩
       rw [hmy] at HMAY
       have HMY := Lib.hid hmy
       clear hX3 hmy hft
       go_wp2_with fail
       refine HMAY.out.mono ?_
       rintro e w4 ⟨rfl, hb4⟩
       have HB4 := Lib.hid (HB3.out.trans (hb4.mono HB3.out.size))
       have hbk4 := HBK3.out.below hb4 HBK3.out.lt
       clear hb4 c6
       cases my with
       | false =>
        have HE : Hid (we = 9) := by unfold Hid; rw [← HWE.out]; unfold mvE; rw [if_neg HPP.out, if_neg HN7.out, if_neg HCT.out, if_neg HFT.out, if_pos HMY.out]
        go_wp2_with fail
        go_ret
        exact ⟨by rw [HE.out]; rfl, HNO.out 9 HE.out (.inl (by decide)) _ HB4.out⟩
       | true =>
        have HE : Hid (we = 0) := by unfold Hid; rw [← HWE.out]; unfold mvE; rw [if_neg HPP.out, if_neg HN7.out, if_neg HCT.out, if_neg HFT.out, if_neg (by rw [HMY.out]; decide)]
        have x0 : w4.cell? ⟨w.heap.size, 0, none⟩ = some (.int .i64 f.mode) := hbk4.cell 0
        have x1 : w4.cell? ⟨w.heap.size, 1, none⟩ = some (.slice fA fl fc) := hbk4.cell 1
        have x2 : w4.cell? ⟨w.heap.size, 2, none⟩ = some (.int .i64 f.time) := hbk4.cell 2
        have HDO : Hid (Calls Tryz.prog 140 #[.pointer (some ⟨b, 0, none⟩), .agg #[.string (str fr), .string (str tt), .int .i64 f.mode, .slice fA fl fc, .int .i64 f.time]] w4 fun e w' => e = .returned (.tuple #[]) ∧ FcPost F M w b (mvC c fr tt create) w') := by
         have hd := do_any F M b c ⟨fr, tt, f⟩ (.slice fA fl fc) w4 (HAT.out.below HB4.out) (by have h := HBY.out.only (Only.of_below (M := fun _ => False) HB4.out) (fun _ _ => id); rw [← HFL.out] at h ⊢; exact h) (by have := HS.out.time; omega) (by have := HS.out.here; omega) (by have := HS.out.both; omega) (by have := HS.out.hused; omega) hf ht (by show f.data.length ≤ _; rw [HFL.out]; omega)
         refine hd.mono ?_
         rintro e w' ⟨rfl, hpo⟩
         refine ⟨rfl, ?_⟩
         have h2 := FcPost.of_below HB4.out hpo
         unfold mvC
         rw [if_pos ⟨HWE.out.trans HE.out, HFT.out⟩, HFF.out]
         exact h2
        clear hbk4
        go_wp2_with fail
        refine HDO.out.mono ?_
        rintro e w6 ⟨rfl, hp6⟩
        have HP6 := Lib.hid hp6
        clear hp6
        go_wp2_with fail
        go_ret
        exact ⟨by rw [HE.out]; rfl, HP6.out⟩
end Go.Proofs.YtbenkmihkbjgeaaGreat.Tx
/- Package fsim: what users do. -/
namespace Go.Proofs.YtbenkmihkbjgeaaGreat.Tx
open Go.RowKit Go.Maps Go.Proofs.YtbenkmihkbjgeaaGreat.Sh
theorem path_short {p : List UInt8} (h : pathB p = true) : p.length ≤ 1000 := by
 have := ((pathB_iff p).1 h).1
 omega
theorem wr_ok {c : CSt} {p : List UInt8} {mode : Int} {data : List UInt8} {room : Int} {create : Bool} (h : wrE c p mode data room create = 0) : pathB p = true ∧ data.length ≤ 20000 := by
 unfold wrE at h
 split at h
 ·cases h
 ·rename_i hp
  split at h
  ·cases h
  ·split at h
   ·cases h
   ·rename_i hl
    exact ⟨by simpa using hp, by omega⟩
theorem CFits.wr {c : CSt} {N : Nat} (h : CFits c N) (p : List UInt8) (mode : Int) (data : List UInt8) (room : Int) (create : Bool) : CFits (wrC c p mode data room create) (N + 1) := by
 unfold wrC
 split
 ·rename_i he
  obtain ⟨h1, h2⟩ := wr_ok he
  exact h.do_ ⟨Nat.zero_le _, path_short h1, h2⟩
 ·exact h.more (by omega)
theorem CFits.rm {c : CSt} {N : Nat} (h : CFits c N) (p : List UInt8) : CFits (rmC c p) (N + 1) := by
 unfold rmC
 split
 ·rename_i he
  have hp : pathB p = true := by
   unfold rmE at he
   split at he
   ·cases he
   ·rename_i hp; simpa using hp
  exact h.do_ ⟨path_short hp, Nat.zero_le _, Nat.zero_le _⟩
 ·exact h.more (by omega)
theorem CFits.mv {c : CSt} {N : Nat} (h : CFits c N) (fr tt : List UInt8) (create : Bool) : CFits (mvC c fr tt create) (N + 1) := by
 unfold mvC
 split
 ·rename_i he
  have hp : pathB fr = true ∧ pathB tt = true := by
   have he := he.1
   unfold mvE at he
   split at he
   ·cases he
   ·rename_i hp
    refine ⟨?_, ?_⟩
    ·cases h1 : pathB fr with
     | true => rfl
     | false => exact absurd (.inl h1) hp
    ·cases h1 : pathB tt with
     | true => rfl
     | false => exact absurd (.inr h1) hp
  exact h.do_ ⟨path_short hp.1, path_short hp.2, peek_short h.hrow fr⟩
 ·exact h.more (by omega)
theorem CFits.note {c : CSt} {N : Nat} (h : CFits c N) (e : EvM) : CFits (noteC c e) (N + 1) := by
 have h1 : CFits { c with users := c.users ++ [{ e with at_ := c.calls }] } (N + 1) := by
  have h2 := h.users
  have h3 := h.more (N' := N + 1) (by omega)
  exact ⟨h3.here, h3.both, by rw [List.length_append]; simp; omega, h3.time0, h3.time, h3.hrow, h3.drow, h3.prow⟩
 exact h1.settle
def uwE (c : CSt) (p : List UInt8) (mode : Int) (data : List UInt8) : Int := if c.down = true then 12 else wrE c p mode data 9223372036854775807 false
def uwC (c : CSt) (p : List UInt8) (mode : Int) (data : List UInt8) : CSt := if uwE c p mode data = 0 then noteC (wrC c p mode data 9223372036854775807 false) ⟨0, 4, mode, 0, 0, p, data⟩ else c
def urE (c : CSt) (p : List UInt8) : Int := if c.down = true then 12 else rmE c p
def urC (c : CSt) (p : List UInt8) : CSt := if urE c p = 0 then noteC (rmC c p) ⟨0, 5, 0, 0, 0, p, []⟩ else c
theorem CFits.uw {c : CSt} {N : Nat} (h : CFits c N) (p : List UInt8) (mode : Int) (data : List UInt8) : CFits (uwC c p mode data) (N + 2) := by
 unfold uwC
 split
 ·exact (h.wr p mode data _ false).note _
 ·exact h.more (by omega)
theorem CFits.ur {c : CSt} {N : Nat} (h : CFits c N) (p : List UInt8) : CFits (urC c p) (N + 2) := by
 unfold urC
 split
 ·exact (h.rm p).note _
 ·exact h.more (by omega)
set_option maxRecDepth 100000 in
set_option maxHeartbeats 6400000 in
theorem userr_any (F M : Nat → Prop) (b : Nat) (c : CSt) (N : Nat) (p : List UInt8) (w : World) (h : FcAt F w b c M) (hf : CFits c N) (hN : N ≤ 700000) (hp : p.length ≤ 1000000) :
  Calls Tryz.prog 22 #[.pointer (some ⟨b, 0, none⟩), .string (str p)] w fun e w' => e = .returned (.int .i64 (urE c p)) ∧ FcPost F M w b (urC c p) w' := by
 have HAT := Lib.hid h
 have HF := Lib.hid hf
 obtain ⟨x, hX, _⟩ := h
 obtain ⟨dn, hdn⟩ : ∃ dn, c.down = dn := ⟨_, rfl⟩
 have c3 : w.cell? ⟨b, 3, none⟩ = some (.bool dn) := by rw [← hdn]; exact hX.blk.cell 3
 have HDN := Lib.hid hdn
 obtain ⟨we, hwe⟩ : ∃ we, urE c p = we := ⟨_, rfl⟩
 have HWE := Lib.hid hwe
 have HNO : Hid (we ≠ 0 → urC c p = c) := fun h0 => by unfold urC; rw [if_neg (by rw [HWE.out]; exact h0)]
 clear hf hX hdn hwe
 rw [HWE.out]
 go_enter Tryz.func22, Tryz.ntmps22
 cases dn with
 | true =>
  have HE : Hid (we = 12) := by unfold Hid; rw [← HWE.out]; unfold urE; rw [if_pos HDN.out]
  go_wp2_with fail
  go_ret
  refine ⟨by rw [HE.out]; rfl, ?_⟩
  rw [HNO.out (by rw [HE.out]; decide)]
  exact FcPost.refl HAT.out
 | false =>
  have HU : Hid (rmE c p = we) := by unfold Hid; rw [← HWE.out]; unfold urE; rw [if_neg (by rw [HDN.out]; decide)]
  go_wp2_with fail
  refine (remove_any F M b c p w HAT.out (HF.out.small (by omega)) hp).mono ?_
  rintro e w1 ⟨rfl, hp1⟩
  rw [HU.out]
  have HP1 := Lib.hid hp1
  clear hp1 c3
  by_cases h0 : we = 0
  ·subst h0
   have HC : Hid (urC c p = noteC (rmC c p) ⟨0, 5, 0, 0, 0, p, []⟩) := by unfold Hid urC; rw [if_pos HWE.out]
   obtain ⟨M1, hat1, hon1, hsub1⟩ := HP1.out
   have HA1 := Lib.hid hat1
   have HO1 := Lib.hid hon1
   have HS1 := Lib.hid hsub1
   have HF1 := Lib.hid (HF.out.rm p)
   have HNOTE : Hid (Calls Tryz.prog 90 #[.pointer (some ⟨b, 0, none⟩), .agg #[.int .i64 0, .int .i64 5, .int .i64 0, .int .i64 0, .int .i64 0, .string (str p), .slice none 0 0]] w1 fun e w' => e = .returned (.tuple #[]) ∧ FcPost F M w b (urC c p) w') := by
    have hd := note_any _ M1 b (rmC c p) ⟨0, 5, 0, 0, 0, p, []⟩ (.slice none 0 0) w1 hat1 (By.nil_ _ _) (HF1.out.small (by omega)) (by have := HF1.out.users; omega)
    refine hd.mono ?_
    rintro e w' ⟨rfl, hpo⟩
    rw [HC.out]
    exact ⟨rfl, FcPost.trans HO1.out HS1.out hpo⟩
   clear hat1 hon1 hsub1
   go_wp2_with fail
   refine HNOTE.out.mono ?_
   rintro e w2 ⟨rfl, hp2⟩
   have HP2 := Lib.hid hp2
   clear hp2
   go_wp2_with fail
   go_ret
   exact ⟨rfl, HP2.out⟩
  ·have e1 : (we == 0) = false := by rw [beq_eq_false_iff_ne]; exact h0
   have HC := Lib.hid (HNO.out h0)
   have HRC : Hid (rmC c p = c) := rm_no HU.out h0
   clear h0
   go_wp2_with fail
   go_ret
   refine ⟨rfl, ?_⟩
   rw [HC.out]
   have := HP1.out
   rw [HRC.out] at this
   exact this
set_option maxRecDepth 100000 in
set_option maxHeartbeats 6400000 in
theorem userw_any (F M : Nat → Prop) (b : Nat) (c : CSt) (N : Nat) (p : List UInt8) (mode : Int) (dv : Value) (data : List UInt8) (G : Nat → Prop) (w : World) (h : FcAt F w b c M) (hf : CFits c N) (hN : N ≤ 700000) (hdv : By G w dv data) (hG : ∀ k, G k → ¬ M k) (hp : p.length ≤ 1000000) :
  Calls Tryz.prog 23 #[.pointer (some ⟨b, 0, none⟩), .string (str p), .int .i64 mode, dv] w fun e w' => e = .returned (.int .i64 (uwE c p mode data)) ∧ FcPost F M w b (uwC c p mode data) w' := by
 have HAT := Lib.hid h
 have HF := Lib.hid hf
 have HDV := Lib.hid hdv
 have HG := Lib.hid hG
 obtain ⟨dA, dc, rfl, _, _⟩ := hdv.slice
 obtain ⟨n, hn⟩ : ∃ n, data.length = n := ⟨_, rfl⟩
 have HN := Lib.hid hn
 obtain ⟨x, hX, _⟩ := h
 obtain ⟨dn, hdn⟩ : ∃ dn, c.down = dn := ⟨_, rfl⟩
 have c3 : w.cell? ⟨b, 3, none⟩ = some (.bool dn) := by rw [← hdn]; exact hX.blk.cell 3
 have HDN := Lib.hid hdn
 obtain ⟨we, hwe⟩ : ∃ we, uwE c p mode data = we := ⟨_, rfl⟩
 have HWE := Lib.hid hwe
 have HNO : Hid (we ≠ 0 → uwC c p mode data = c) := fun h0 => by unfold uwC; rw [if_neg (by rw [HWE.out]; exact h0)]
 have HWR : Hid (Calls Tryz.prog 91 #[.pointer (some ⟨b, 0, none⟩), .string (str p), .int .i64 mode, .slice dA n dc, .int .i64 9223372036854775807, .bool false] w fun e w' => e = .returned (.int .i64 (wrE c p mode data 9223372036854775807 false)) ∧ FcPost F M w b (wrC c p mode data 9223372036854775807 false) w') := by
  have h1 : SlV w (.slice dA data.length dc) (data.map bv) := Rd.slv (by rw [List.length_map]; exact hdv)
  rw [hn] at h1
  exact write_any F M b c p mode (.slice dA n dc) data 9223372036854775807 false w HAT.out (HF.out.small (by omega)) h1 hp
 rw [hn]
 clear hf hX hdn hwe hdv hG hn
 rw [HWE.out]
 go_enter Tryz.func23, Tryz.ntmps23
 cases dn with
 | true =>
  have HE : Hid (we = 12) := by unfold Hid; rw [← HWE.out]; unfold uwE; rw [if_pos HDN.out]
  go_wp2_with fail
  go_ret
  refine ⟨by rw [HE.out]; rfl, ?_⟩
  rw [HNO.out (by rw [HE.out]; decide)]
  exact FcPost.refl HAT.out
 | false =>
  have HU : Hid (wrE c p mode data 9223372036854775807 false = we) := by unfold Hid; rw [← HWE.out]; unfold uwE; rw [if_neg (by rw [HDN.out]; decide)]
  go_wp2_with fail
  refine HWR.out.mono ?_
  rintro e w1 ⟨rfl, hp1⟩
  rw [HU.out]
  have HP1 := Lib.hid hp1
  clear hp1 c3
  by_cases h0 : we = 0
  ·subst h0
   have HC : Hid (uwC c p mode data = noteC (wrC c p mode data 9223372036854775807 false) ⟨0, 4, mode, 0, 0, p, data⟩) := by unfold Hid uwC; rw [if_pos HWE.out]
   have HDL := Lib.hid (wr_ok HU.out).2
   obtain ⟨M1, hat1, hon1, hsub1⟩ := HP1.out
   have HA1 := Lib.hid hat1
   have HO1 := Lib.hid hon1
   have HS1 := Lib.hid hsub1
   have HF1 := Lib.hid (HF.out.wr p mode data 9223372036854775807 false)
   have hdv1 := HDV.out.only hon1 HG.out
   have HDV1 : Hid (SlV w1 (.slice dA n dc) (data.map bv)) := by
    have : SlV w1 (.slice dA data.length dc) (data.map bv) := Rd.slv (by rw [List.length_map]; exact hdv1)
    rw [HN.out] at this
    exact this
   clear hat1 hon1 hsub1 hdv1
   go_wp2_with fail
   refine (bclone_any _ data _ HDV1.out (by have := HDL.out; omega)).mono ?_
   rintro e w2 ⟨v2, rfl, ho2, hb2⟩
   obtain ⟨A2, c2, rfl, _, _⟩ := ho2.length
   rw [List.length_map, HN.out] at ho2 ⊢
   have HNOTE : Hid (Calls Tryz.prog 90 #[.pointer (some ⟨b, 0, none⟩), .agg #[.int .i64 0, .int .i64 4, .int .i64 mode, .int .i64 0, .int .i64 0, .string (str p), .slice A2 n c2]] w2 fun e w' => e = .returned (.tuple #[]) ∧ FcPost F M w b (uwC c p mode data) w') := by
    have hMlt : ∀ k, M1 k → k < w1.heap.size := HA1.out.lt
    have hFlt : ∀ k, grow F w w1 M1 k → k < w1.heap.size := HA1.out.low
    have hat : FcAt (fun k => grow F w w1 M1 k ∨ (w1.heap.size ≤ k ∧ k < w2.heap.size)) w2 b (wrC c p mode data 9223372036854775807 false) M1 := (HA1.out.below hb2).wide (w := w1) (fun k hk => hk) (fun k hk => .inl hk) hMlt
    have hd := note_any _ M1 b (wrC c p mode data 9223372036854775807 false) ⟨0, 4, mode, 0, 0, p, data⟩ (.slice A2 n c2) w2 hat ho2.by_ (HF1.out.small (by omega)) (by have := HF1.out.users; omega)
    refine hd.mono ?_
    rintro e w' ⟨rfl, hpo⟩
    rw [HC.out]
    exact ⟨rfl, FcPost.trans HO1.out HS1.out (FcPost.wide hb2 hpo (fun k hk => hk) (fun k hk => .inl hk) hMlt hFlt)⟩
   clear ho2 hb2
   go_wp2_with fail
   refine HNOTE.out.mono ?_
   rintro e w3 ⟨rfl, hp3⟩
   have HP3 := Lib.hid hp3
   clear hp3
   go_wp2_with fail
   go_ret
   exact ⟨rfl, HP3.out⟩
  ·have e1 : (we == 0) = false := by rw [beq_eq_false_iff_ne]; exact h0
   have HC := Lib.hid (HNO.out h0)
   have HRC : Hid (wrC c p mode data 9223372036854775807 false = c) := wr_no HU.out h0
   clear h0
   go_wp2_with fail
   go_ret
   refine ⟨rfl, ?_⟩
   rw [HC.out]
   have := HP1.out
   rw [HRC.out] at this
   exact this
end Go.Proofs.YtbenkmihkbjgeaaGreat.Tx
/- Package fsim: what a fall needs. -/
namespace Go.Proofs.YtbenkmihkbjgeaaGreat.Tx
open Go.RowKit Go.Maps Go.Proofs.YtbenkmihkbjgeaaGreat.Sh
def tearsB (q : ChM) (torn : Int) : Bool := decide (q.gone = []) && (decide (0 ≤ torn) && decide (torn < (q.f.data.length : Int)))
set_option maxRecDepth 100000 in
set_option maxHeartbeats 1600000 in
theorem tears_any (q : ChM) (dA : Option Addr) (n dc : Nat) (torn : Int) (w : World) (hn : q.f.data.length = n) :
  Calls Tryz.prog 126 #[.agg #[.string (str q.gone), .string (str q.path), .int .i64 q.f.mode, .slice dA n dc, .int .i64 q.f.time], .int .i64 torn] w fun e w' => e = .returned (.bool (tearsB q torn)) ∧ Below w.heap.size w w' := by
 have HN := Lib.hid hn
 clear hn
 have HB : Hid (Below w.heap.size w (w.alloc (.cells #[.string (str q.gone), .string (str q.path), .int .i64 q.f.mode, .slice dA n dc, .int .i64 q.f.time] 186))) := (Below.refl _ _).alloc (Nat.le_refl _) _
 go_enter Tryz.func126, Tryz.ntmps126
 by_cases hg : q.gone = []
 ·have HG := Lib.hid hg
  obtain ⟨z2, z3⟩ := str_nil hg
  clear hg
  by_cases h0 : 0 ≤ torn
  ·by_cases h1 : torn < (n : Int)
   ·have HT : Hid (tearsB q torn = true) := by unfold Hid tearsB; rw [decide_eq_true HG.out, decide_eq_true h0, HN.out, decide_eq_true h1]; rfl
    go_wp2
    go_ret
    exact ⟨by rw [HT.out]; rfl, HB.out⟩
   ·have HT : Hid (tearsB q torn = false) := by unfold Hid tearsB; rw [decide_eq_true HG.out, decide_eq_true h0, HN.out, decide_eq_false h1]; rfl
    go_wp2
    go_ret
    exact ⟨by rw [HT.out]; rfl, HB.out⟩
  ·have HT : Hid (tearsB q torn = false) := by unfold Hid tearsB; rw [decide_eq_true HG.out, decide_eq_false h0]; rfl
   go_wp2
   go_ret
   exact ⟨by rw [HT.out]; rfl, HB.out⟩
 ·have HG := Lib.hid hg
  obtain ⟨z2, z3⟩ := str_some hg
  clear hg
  have HT : Hid (tearsB q torn = false) := by unfold Hid tearsB; rw [decide_eq_false HG.out]; rfl
  go_wp2
  go_ret
  exact ⟨by rw [HT.out]; rfl, HB.out⟩
theorem size_ch (w : World) : (sizeOf (Tryz.prog.elem 90)).run Tryz.prog w = .ok 5 w := by kernel_rfl
set_option maxRecDepth 100000 in
theorem chs_front (A : Option Addr) (l c k : Nat) (hkc : k ≤ c) (w : World) : (Instr.slice 90 (.slice A l c) none (some (.int .i64 (k : Int))) none).run Tryz.prog w = .ok (.slice A k c) w := by
 rw [run_slice_h w 90 A l c Tryz.underlying90 .i64 k (by omega) (by omega), size_ch]
 simp only [Result.andThen_ok, sliced, Int.toNat_natCast]
 by_cases h : c = 0
 ·subst h; simp
 ·have e : A.map (fun a => a.add 0) = A := by cases A <;> simp [Addr.add]
  simp [h, e]
set_option maxRecDepth 100000 in
theorem chs_back (A : Option Addr) (l c k : Nat) (hkl : k ≤ l) (w : World) : (Instr.slice 90 (.slice A l c) (some (.int .i64 (k : Int))) none none).run Tryz.prog w = .ok (.slice (if c = k then A else A.map (fun a => a.add (k * 5))) (l - k) (c - k)) w := by
 rw [run_slice_l w 90 A l c Tryz.underlying90 .i64 k (by omega) (by omega), size_ch]
 simp only [Result.andThen_ok, sliced, Int.toNat_natCast]
theorem OwnL.take {K : Shape} {T : TypeId} {F : Nat → Prop} {w : World} {B : Nat} {A : Option Addr} {n c : Nat} {l : List K.α} (h : OwnL K T F w B (.slice A n c) l) (k : Nat) (hk : k ≤ n) : OwnL K T F w B (.slice A k c) (l.take k) := by
 obtain ⟨⟨ds, h1, h2⟩, h3⟩ := h
 have hl : n = l.length := by
  obtain ⟨A', c', e, _⟩ := (TmpL.slice (K := K) (F := F) (w := w) (v := .slice A n c) (l := l) ⟨ds, Rd.of_own h1 (fun _ _ => trivial), h2⟩)
  injection e
 have hdl := h2.1
 rw [List.length_map] at hdl
 have hcut : ShC K (l.take k) (ds.take k) = (ShC K l ds).take (k * K.m) := by
  have e1 : ShC K l ds = ShC K (l.take k) (ds.take k) ++ ShC K (l.drop k) (ds.drop k) := by
   rw [← ShC_app (by rw [List.length_take, List.length_take, hdl]), List.take_append_drop, List.take_append_drop]
  have e2 : (ShC K (l.take k) (ds.take k)).length = k * K.m := by
   rw [ShC_length (by rw [List.length_take, List.length_take, hdl]), List.length_take, Nat.min_eq_left (by omega)]
  rw [e1, ← e2, List.take_left]
 have hkl : (l.take k).length = k := by rw [List.length_take, Nat.min_eq_left (by omega)]
 refine ⟨⟨ds.take k, ?_, ?_⟩, fun g hg => ?_⟩
 ·rw [hkl, hcut]
  obtain ⟨g1, g2⟩ := h1
  refine ⟨?_, ?_⟩
  ·rw [List.length_take, g1]
   exact Nat.min_eq_left (Nat.mul_le_mul_right _ (by omega))
  ·rcases g2 with ⟨e, e0⟩ | ⟨g, cap, cur, e, hb, hg, h4, h5, h6, h7⟩
   ·injection e with ea eb ec
    left
    subst ea ec
    have : k = 0 := by omega
    subst this
    exact ⟨rfl, rfl⟩
   ·injection e with ea eb ec
    right
    subst ea ec
    refine ⟨g, c, cur, rfl, hb, hg, by omega, h5, h6, ?_⟩
    rw [← h7, List.take_take, Nat.min_eq_left (Nat.mul_le_mul_right _ (by omega))]
 ·refine ⟨by rw [List.length_take, List.length_map, List.length_take, hdl], fun i d bs hd hbs => ?_⟩
  have hi : i < k := by
   have := (List.getElem?_eq_some_iff.1 hd).1
   rw [List.length_take] at this
   omega
  rw [List.getElem?_take_of_lt hi] at hd
  rw [List.map_take, List.getElem?_take_of_lt hi] at hbs
  exact h2.2 i d bs hd hbs
 ·refine h3 g ?_
  cases A with
  | none => cases hg
  | some ad => exact hg
section
variable {F M : Nat → Prop} {w w' : World} {b : Nat} {c : CSt} {x : FcV}
theorem FcX.newhere (hX : FcX F w b c x) (hM : ∀ k, M k ↔ fcM b x k) {t' : Nat} {R : List RowM} (h : NewTree F w w' t' R) : FcPost F M w b { c with here := R } (w'.setCell ⟨b, 6, none⟩ (.pointer (some ⟨t', 0, none⟩))) := by
 obtain ⟨hb, f', u', hT, hl⟩ := h
 have ow : Only (fun k => k = b) w (w'.setCell ⟨b, 6, none⟩ (.pointer (some ⟨t', 0, none⟩))) := Only.set_ (M := fun k => k = b) (g := b) (i := 6) (Only.of_below hb) (.inl rfl) _
 have o2 : Only (fun k => k = b) w' (w'.setCell ⟨b, 6, none⟩ (.pointer (some ⟨t', 0, none⟩))) := Only.set_ (M := fun k => k = b) (g := b) (i := 6) (Only.refl _ w') (.inl rfl) _
 have hbw := hX.blk.lt
 refine fc_fin (x' := { x with here := t', hf := f', hu := u' }) hX hM (ow.more (fun k _ e => .inl e)) (fun k hk => ?_) ((hX.blk.below hb hbw).set_ 6 _) ?_ ?_ ?_ ?_ ?_ (fun k hk hd => ?_)
 ·rcases hk with h | h | h | h | h
  ·exact .inl (.inl h)
  ·exact .inr (hl k h)
  ·exact .inl (.inr (.inr (.inl h)))
  ·exact .inl (.inr (.inr (.inr (.inl h))))
  ·exact .inl (.inr (.inr (.inr (.inr h))))
 ·exact (hT.only o2 hX.Fb (fun k hk e => by have := hl k hk; omega)).mono (fun _ _ h => .inl h)
 ·exact hX.durG ow hX.Fb (fun k hk e => hX.db (e ▸ hk))
 ·exact hX.pendG ow hX.Fb (fun k hk e => hX.pb (e ▸ hk)) (fun k hk => .inr (.inr (.inr (.inl hk))))
 ·exact hX.planG ow hX.Fb
 ·exact hX.usersG ow hX.Fb (fun k hk e => hX.ub (e ▸ hk)) (fun k hk => .inr (.inr (.inr (.inr hk))))
 ·have := hl k hk
  have := hX.dur.lt k hd
  omega
end
def keepC (c : CSt) (keep : Int) : Nat := (min (max keep 0) (c.pending.length : Int)).toNat
def partC (q : ChM) (torn : Int) : ChM := { q with f := { q.f with data := q.f.data.take torn.toNat } }
def leftC (c : CSt) (keep torn : Int) : List ChM := c.pending.take (keepC c keep) ++ match c.pending[keepC c keep]? with
 | none => []
 | some q => if tearsB q torn = true then [partC q torn] else []
def crC (c : CSt) (keep torn : Int) : CSt := if c.down = true then c else
 let s := settleC { c with pending := leftC c keep torn }
 { s with here := s.durable, down := true }
end Go.Proofs.YtbenkmihkbjgeaaGreat.Tx
