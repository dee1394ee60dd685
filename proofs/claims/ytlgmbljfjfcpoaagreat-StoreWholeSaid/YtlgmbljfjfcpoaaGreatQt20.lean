/- Texts put together: YGs7, YGs8. -/
import Derived.Test.YtlgmbljfjfcpoaaGreatQt19
/- Package fsim: a file is removed; moved. -/
namespace Go.Proofs.YtlgmbljfjfcpoaaGreat.Tx
open Go.RowKit Go.Maps Go.Proofs.YtlgmbljfjfcpoaaGreat.Sh

def rmE (c : CSt) (p : List UInt8) : Int := if pathB p = false then 6 else if peekB c.here p = false then 7 else 0
def rmC (c : CSt) (p : List UInt8) : CSt := if rmE c p = 0 then doC c ⟨p, [], ⟨0, [], 0⟩⟩ else c
theorem rm_no {c : CSt} {p : List UInt8} {n : Int} (h : rmE c p = n) (hn : n ≠ 0) : rmC c p = c := by
  unfold rmC
  rw [if_neg (by rw [h]; exact hn)]

set_option maxRecDepth 100000 in
set_option maxHeartbeats 6400000 in
theorem remove_any (F M : Nat → Prop) (b : Nat) (c : CSt) (p : List UInt8) (w : World) (h : FcAt F w b c M) (hs : CSmall c) (hp : p.length ≤ 1000000) :
    Calls Tryz.prog 80 #[.pointer (some ⟨b, 0, none⟩), .string (str p)] w fun e w' => e = .returned (.int .i64 (rmE c p)) ∧ FcPost F M w b (rmC c p) w' := by
  have HAT := Lib.hid h
  have HS := Lib.hid hs
  obtain ⟨we, hwe⟩ : ∃ we, rmE c p = we := ⟨_, rfl⟩
  have HWE := Lib.hid hwe
  obtain ⟨t1, ht1⟩ : ∃ t1, pathB p = t1 := ⟨_, rfl⟩
  have HT1 := Lib.hid ht1
  have HSTAY : Hid (∀ w', Below w.heap.size w w' → FcPost F M w b c w') := fun w' hb => FcPost.of_below hb (FcPost.refl (HAT.out.below hb))
  have HNO : Hid (∀ k, we = k → k ≠ 0 → ∀ w', Below w.heap.size w w' → FcPost F M w b (rmC c p) w') := fun k hk hk0 w' hb => by
    rw [rm_no (HWE.out.trans hk) hk0]
    exact HSTAY.out w' hb
  clear h hs hwe ht1
  rw [HWE.out]
  go_enter Tryz.func80, Tryz.ntmps80
  go_wp2_with fail
  refine (npath_any p _ hp).mono ?_
  rintro e w2 ⟨rfl, hb2⟩
  rw [HT1.out]
  have HB2 := Lib.hid hb2
  clear hb2
  cases t1 with
  | false =>
    have HE : Hid (we = 6) := by unfold Hid; rw [← HWE.out]; unfold rmE; rw [if_pos HT1.out]
    go_wp2_with fail
    go_ret
    exact ⟨by rw [HE.out]; rfl, HNO.out 6 HE.out (by decide) _ HB2.out⟩
  | true =>
    obtain ⟨x, hX, hM⟩ := HAT.out.below HB2.out
    have c6 : w2.cell? ⟨b, 6, none⟩ = some (.pointer (some ⟨x.here, 0, none⟩)) := hX.blk.cell 6
    have c0 : w2.cell? ⟨x.here, 0, none⟩ = some (.map (some x.hf)) := hX.here.blk.cell 0
    obtain ⟨D, hown, hfo⟩ := hX.here.files
    obtain ⟨oA, oc, _, hlook, hhas⟩ := look_peek hfo hX.here.ord p
    obtain ⟨f, hf⟩ : ∃ f, peekF c.here p = f := ⟨_, rfl⟩
    obtain ⟨t, ht⟩ : ∃ t, peekB c.here p = t := ⟨_, rfl⟩
    rw [hf] at hlook
    rw [ht] at hhas
    obtain ⟨ol, hol'⟩ : ∃ ol, f.data.length = ol := ⟨_, rfl⟩
    rw [hol'] at hlook
    have HT := Lib.hid ht
    have HOWN := Lib.hid hown
    have HLOOK := Lib.hid hlook
    have HKEY := Lib.hid (key_str p hp)
    have hBa : Below w2.heap.size w2 (w2.alloc (.cells #[.int .i64 f.mode, .slice oA ol oc, .int .i64 f.time] 40)) := (Below.refl _ _).alloc (Nat.le_refl _) _
    have HB3 := Lib.hid (HB2.out.trans (hBa.mono HB2.out.size))
    have hpl : p.length ≤ 1000 := by
      have := ((pathB_iff p).1 HT1.out).1
      omega
    have HDO : Hid (rmE c p = 0 → Calls Tryz.prog 103 #[.pointer (some ⟨b, 0, none⟩), .agg #[.string (str p), .string ⟨#[]⟩, .int .i64 0, .slice none 0 0, .int .i64 0]] (w2.alloc (.cells #[.int .i64 f.mode, .slice oA ol oc, .int .i64 f.time] 40)) fun e w' => e = .returned (.tuple #[]) ∧ FcPost F M w b (rmC c p) w') := fun h0 => by
      have hd := do_any F M b c ⟨p, [], ⟨0, [], 0⟩⟩ (.slice none 0 0) _ (HAT.out.below HB3.out) (By.nil_ _ _) (by have := HS.out.time; omega) (by have := HS.out.here; omega) (by have := HS.out.both; omega) (by have := HS.out.hused; omega) hp (Nat.zero_le _) (Nat.zero_le _)
      refine hd.mono ?_
      rintro e w' ⟨rfl, hpo⟩
      refine ⟨rfl, ?_⟩
      have h2 := FcPost.of_below HB3.out hpo
      unfold rmC
      rw [if_pos h0]
      exact h2
    clear hX hM hown hfo hlook hf ht hol' hBa
    cases t with
    | false =>
      have HE : Hid (we = 7) := by unfold Hid; rw [← HWE.out]; unfold rmE; rw [if_neg (by rw [HT1.out]; decide), if_pos HT.out]
      go_wp2_with (at_lookup; refine wpList_lookup_own_ok _ rfl _ _ 77 rfl 9 40 lawS Tryz.underlying77 hv (zeroF _) (.held zeroFile) [] rfl x.hf _ D rfl (by exact HOWN.out) _ (.string p) rfl (by exact HKEY.out) ?_; intro v ps hv'; obtain rfl := HLOOK.out v ps hv'; rw [hhas]; clear hv')
      go_ret
      exact ⟨by rw [HE.out]; rfl, HNO.out 7 HE.out (by decide) _ HB3.out⟩
    | true =>
      have HE : Hid (we = 0) := by unfold Hid; rw [← HWE.out]; unfold rmE; rw [if_neg (by rw [HT1.out]; decide), if_neg (by rw [HT.out]; decide)]
      go_wp2_with (first | fail | (at_lookup; refine wpList_lookup_own_ok _ rfl _ _ 77 rfl 9 40 lawS Tryz.underlying77 hv (zeroF _) (.held zeroFile) [] rfl x.hf _ D rfl (by exact HOWN.out) _ (.string p) rfl (by exact HKEY.out) ?_; intro v ps hv'; obtain rfl := HLOOK.out v ps hv'; rw [hhas]; clear hv'))
      refine (HDO.out (HWE.out.trans HE.out)).mono ?_
      rintro e w6 ⟨rfl, hp6⟩
      have HP6 := Lib.hid hp6
      clear hp6
      go_wp2_with fail
      go_ret
      exact ⟨by rw [HE.out]; rfl, HP6.out⟩
end Go.Proofs.YtlgmbljfjfcpoaaGreat.Tx
/- Package fsim: a file is moved. -/
namespace Go.Proofs.YtlgmbljfjfcpoaaGreat.Tx
open Go.RowKit Go.Maps Go.Proofs.YtlgmbljfjfcpoaaGreat.Sh

def mvE (c : CSt) (fr tt : List UInt8) (create : Bool) : Int :=
  if pathB fr = false ∨ pathB tt = false then 6
  else if peekB c.here fr = false then 7
  else if create = true ∧ peekB c.here tt = true then 8
  else if tt = fr then 0
  else if mayC c.here tt fr = false then 9
  else 0
def mvC (c : CSt) (fr tt : List UInt8) (create : Bool) : CSt := if mvE c fr tt create = 0 ∧ tt ≠ fr then doC c ⟨fr, tt, peekF c.here fr⟩ else c
theorem mv_no {c : CSt} {fr tt : List UInt8} {create : Bool} {n : Int} (h : mvE c fr tt create = n) (hn : n ≠ 0 ∨ tt = fr) : mvC c fr tt create = c := by
  unfold mvC
  rw [if_neg]
  rintro ⟨h1, h2⟩
  rcases hn with hn | hn
  · exact hn (h.symm.trans h1)
  · exact h2 hn

set_option maxRecDepth 100000 in
set_option maxHeartbeats 9600000 in
theorem move_any (F M : Nat → Prop) (b : Nat) (c : CSt) (fr tt : List UInt8) (create : Bool) (w : World) (h : FcAt F w b c M) (hs : CSmall c) (hf : fr.length ≤ 1000000) (ht : tt.length ≤ 1000000) :
    Calls Tryz.prog 87 #[.pointer (some ⟨b, 0, none⟩), .string (str fr), .string (str tt), .bool create] w fun e w' => e = .returned (.int .i64 (mvE c fr tt create)) ∧ FcPost F M w b (mvC c fr tt create) w' := by
  have HAT := Lib.hid h
  have HS := Lib.hid hs
  obtain ⟨we, hwe⟩ : ∃ we, mvE c fr tt create = we := ⟨_, rfl⟩
  have HWE := Lib.hid hwe
  have HSTAY : Hid (∀ w', Below w.heap.size w w' → FcPost F M w b c w') := fun w' hb => FcPost.of_below hb (FcPost.refl (HAT.out.below hb))
  have HNO : Hid (∀ k, we = k → (k ≠ 0 ∨ tt = fr) → ∀ w', Below w.heap.size w w' → FcPost F M w b (mvC c fr tt create) w') := fun k hk hk0 w' hb => by
    rw [mv_no (HWE.out.trans hk) hk0]
    exact HSTAY.out w' hb
  obtain ⟨x, hX, hM⟩ := h
  have hXF := hX.low
  have c6 : w.cell? ⟨b, 6, none⟩ = some (.pointer (some ⟨x.here, 0, none⟩)) := hX.blk.cell 6
  have c0 : w.cell? ⟨x.here, 0, none⟩ = some (.map (some x.hf)) := hX.here.blk.cell 0
  obtain ⟨D, hown, hfo⟩ := hX.here.files
  obtain ⟨fA, fc, hby, hlook, hhas⟩ := look_peek hfo hX.here.ord fr
  obtain ⟨tA, tc, _, hlook2, hhas2⟩ := look_peek hfo hX.here.ord tt
  obtain ⟨f, hff⟩ : ∃ f, peekF c.here fr = f := ⟨_, rfl⟩
  obtain ⟨g, hgg⟩ : ∃ g, peekF c.here tt = g := ⟨_, rfl⟩
  obtain ⟨t1, ht1⟩ : ∃ t1, peekB c.here fr = t1 := ⟨_, rfl⟩
  obtain ⟨t2, ht2⟩ : ∃ t2, peekB c.here tt = t2 := ⟨_, rfl⟩
  have hfl := peek_short hs.hrow fr
  rw [hff] at hlook hby hfl
  rw [hgg] at hlook2
  rw [ht1] at hhas
  rw [ht2] at hhas2
  obtain ⟨fl, hfl'⟩ : ∃ fl, f.data.length = fl := ⟨_, rfl⟩
  obtain ⟨gl, hgl'⟩ : ∃ gl, g.data.length = gl := ⟨_, rfl⟩
  rw [hfl'] at hlook hby hfl
  rw [hgl'] at hlook2
  have HFF := Lib.hid hff
  have HT1 := Lib.hid ht1
  have HT2 := Lib.hid ht2
  have HFL := Lib.hid hfl'
  have HBY := Lib.hid hby
  have HOWN := Lib.hid hown
  have HLOOK := Lib.hid hlook
  have HLOOK2 := Lib.hid hlook2
  have HKEY := Lib.hid (key_str fr hf)
  have HKEY2 := Lib.hid (key_str tt ht)
  have HX := Lib.hid hX
  obtain ⟨wa, hwa⟩ : ∃ wa, wa = w.alloc (.cells #[.int .i64 f.mode, .slice fA fl fc, .int .i64 f.time] 40) := ⟨_, rfl⟩
  have hBa : Below w.heap.size w wa := by rw [hwa]; exact (Below.refl _ _).alloc (Nat.le_refl _) _
  have hba : Blk wa w.heap.size 40 #[.int .i64 f.mode, .slice fA fl fc, .int .i64 f.time] := by rw [hwa]; exact Blk.new _ _ _
  have hzw : w.heap.size < wa.heap.size := hba.lt
  have HBA := Lib.hid hBa
  have HBLK := Lib.hid hba
  have HOWNA := Lib.hid (own_only hown (Only.of_below (M := fun _ => False) hBa) id)
  obtain ⟨wb, hwb⟩ : ∃ wb, wb = wa.alloc (.cells #[.int .i64 g.mode, .slice tA gl tc, .int .i64 g.time] 40) := ⟨_, rfl⟩
  have hBb : Below wa.heap.size wa wb := by rw [hwb]; exact (Below.refl _ _).alloc (Nat.le_refl _) _
  have HBB := Lib.hid (HBA.out.trans (hBb.mono (Nat.le_of_lt hzw)))
  have HBLKB := Lib.hid (HBLK.out.below hBb hzw)
  have d6 : wa.cell? ⟨b, 6, none⟩ = some (.pointer (some ⟨x.here, 0, none⟩)) := (HX.out.below hBa).blk.cell 6
  have d0 : wa.cell? ⟨x.here, 0, none⟩ = some (.map (some x.hf)) := (HX.out.below hBa).here.blk.cell 0
  clear hs hwe hX hM hown hfo hby hlook hlook2 hff hgg ht1 ht2 hfl' hgl' hBa hba hBb hXF
  obtain ⟨p1, hp1⟩ : ∃ p1, pathB fr = p1 := ⟨_, rfl⟩
  obtain ⟨p2, hp2⟩ : ∃ p2, pathB tt = p2 := ⟨_, rfl⟩
  have HP1 := Lib.hid hp1
  have HP2 := Lib.hid hp2
  clear hp1 hp2
  rw [HWE.out]
  go_enter Tryz.func87, Tryz.ntmps87
  go_upto_region 2 with (first | fail | (at_lookup; refine wpList_lookup_own_ok _ rfl _ _ 77 rfl 9 40 lawS Tryz.underlying77 hv (zeroF _) (.held zeroFile) [] rfl x.hf _ D rfl (by exact HOWN.out) _ (.string fr) rfl (by exact HKEY.out) ?_; intro v ps hv'; obtain rfl := HLOOK.out v ps hv'; rw [hhas]; clear hv'))
  rw [← hwa]
  clear hwa c6 c0
  go_upto_region 3 with (first | fail | (at_lookup; refine wpList_lookup_own_ok _ rfl _ _ 77 rfl 9 40 lawS Tryz.underlying77 hv (zeroF _) (.held zeroFile) [] rfl x.hf _ D rfl (by exact HOWNA.out) _ (.string tt) rfl (by exact HKEY2.out) ?_; intro v ps hv'; obtain rfl := HLOOK2.out v ps hv'; rw [hhas2]; clear hv'))
  rw [← hwb]
  clear hwb d6 d0
  go_wp2_with fail
  refine (npath_any fr _ hf).mono ?_
  rintro e w2 ⟨rfl, hb2⟩
  rw [HP1.out]
  have HB2 := Lib.hid (HBB.out.trans (hb2.mono HBB.out.size))
  have HBK2 := Lib.hid (HBLKB.out.below hb2 HBLKB.out.lt)
  clear hb2
  cases p1 with
  | false =>
    have HE : Hid (we = 6) := by unfold Hid; rw [← HWE.out]; unfold mvE; rw [if_pos (.inl HP1.out)]
    go_wp2_with fail
    go_ret
    exact ⟨by rw [HE.out]; rfl, HNO.out 6 HE.out (.inl (by decide)) _ HB2.out⟩
  | true =>
    go_wp2_with fail
    refine (npath_any tt _ ht).mono ?_
    rintro e w3 ⟨rfl, hb3⟩
    rw [HP2.out]
    have HB3 := Lib.hid (HB2.out.trans (hb3.mono HB2.out.size))
    have HBK3 := Lib.hid (HBK2.out.below hb3 HBK2.out.lt)
    clear hb3
    cases p2 with
    | false =>
      have HE : Hid (we = 6) := by unfold Hid; rw [← HWE.out]; unfold mvE; rw [if_pos (.inr HP2.out)]
      go_wp2_with fail
      go_ret
      exact ⟨by rw [HE.out]; rfl, HNO.out 6 HE.out (.inl (by decide)) _ HB3.out⟩
    | true =>
      have HPP : Hid (¬ (pathB fr = false ∨ pathB tt = false)) := by unfold Hid; rw [HP1.out, HP2.out]; decide
      cases t1 with
      | false =>
        have HE : Hid (we = 7) := by unfold Hid; rw [← HWE.out]; unfold mvE; rw [if_neg HPP.out, if_pos HT1.out]
        go_wp2_with fail
        go_ret
        exact ⟨by rw [HE.out]; rfl, HNO.out 7 HE.out (.inl (by decide)) _ HB3.out⟩
      | true =>
        have HN7 : Hid (¬ peekB c.here fr = false) := by unfold Hid; rw [HT1.out]; decide
        by_cases hct : create = true ∧ t2 = true
        · obtain ⟨rfl, rfl⟩ := hct
          have HE : Hid (we = 8) := by unfold Hid; rw [← HWE.out]; unfold mvE; rw [if_neg HPP.out, if_neg HN7.out, if_pos ⟨rfl, HT2.out⟩]
          go_wp2_with fail
          go_ret
          exact ⟨by rw [HE.out]; rfl, HNO.out 8 HE.out (.inl (by decide)) _ HB3.out⟩
        · have HCT : Hid (¬ (create = true ∧ peekB c.here tt = true)) := by unfold Hid; rw [HT2.out]; exact hct
          go_upto_region 7 with (fail)
          go_cut [49] (fun v wx => v = .bool false ∧ w3 = wx)
          case first =>
            cases create with
            | false =>
              go_wp2_with fail
              go_meet
              exact ⟨rfl, rfl⟩
            | true =>
              cases t2 with
              | true => exact absurd ⟨rfl, rfl⟩ hct
              | false =>
                go_wp2_with fail
                go_meet
                exact ⟨rfl, rfl⟩
          case rest =>
            obtain ⟨rfl, rfl⟩ := hcut
            clear hct
            by_cases hft : tt = fr
            · have HE : Hid (we = 0) := by unfold Hid; rw [← HWE.out]; unfold mvE; rw [if_neg HPP.out, if_neg HN7.out, if_neg HCT.out, if_pos hft]
              have HFT := Lib.hid hft
              have e1 := str_eq' hft
              clear hft
              go_wp2_with fail
              go_ret
              exact ⟨by rw [HE.out]; rfl, HNO.out 0 HE.out (.inr HFT.out) _ HB3.out⟩
            · have HFT := Lib.hid hft
              have e1 := str_ne hft
              have hX3 := HX.out.below HB3.out
              have c6 : w3.cell? ⟨b, 6, none⟩ = some (.pointer (some ⟨x.here, 0, none⟩)) := hX3.blk.cell 6
              have HMAY : Hid (Calls Tryz.prog 102 #[.pointer (some ⟨x.here, 0, none⟩), .string (str tt), .string (str fr)] w3 fun e w' => e = .returned (.bool (mayC c.here tt fr)) ∧ Below w3.heap.size w3 w') := tmay_any F x.here x.hf x.hu c.here tt fr w3 hX3.here ht hf (by have := HS.out.here; omega)
              obtain ⟨my, hmy⟩ : ∃ my, mayC c.here tt fr = my := ⟨_, rfl⟩
              rw [hmy] at HMAY
              have HMY := Lib.hid hmy
              clear hX3 hmy hft
              go_wp2_with fail
              refine HMAY.out.mono ?_
              rintro e w4 ⟨rfl, hb4⟩
              have HB4 := Lib.hid (HB3.out.trans (hb4.mono HB3.out.size))
              have hbk4 := HBK3.out.below hb4 HBK3.out.lt
              clear hb4 c6
              cases my with
              | false =>
                have HE : Hid (we = 9) := by unfold Hid; rw [← HWE.out]; unfold mvE; rw [if_neg HPP.out, if_neg HN7.out, if_neg HCT.out, if_neg HFT.out, if_pos HMY.out]
                go_wp2_with fail
                go_ret
                exact ⟨by rw [HE.out]; rfl, HNO.out 9 HE.out (.inl (by decide)) _ HB4.out⟩
              | true =>
                have HE : Hid (we = 0) := by unfold Hid; rw [← HWE.out]; unfold mvE; rw [if_neg HPP.out, if_neg HN7.out, if_neg HCT.out, if_neg HFT.out, if_neg (by rw [HMY.out]; decide)]
                have x0 : w4.cell? ⟨w.heap.size, 0, none⟩ = some (.int .i64 f.mode) := hbk4.cell 0
                have x1 : w4.cell? ⟨w.heap.size, 1, none⟩ = some (.slice fA fl fc) := hbk4.cell 1
                have x2 : w4.cell? ⟨w.heap.size, 2, none⟩ = some (.int .i64 f.time) := hbk4.cell 2
                have HDO : Hid (Calls Tryz.prog 103 #[.pointer (some ⟨b, 0, none⟩), .agg #[.string (str fr), .string (str tt), .int .i64 f.mode, .slice fA fl fc, .int .i64 f.time]] w4 fun e w' => e = .returned (.tuple #[]) ∧ FcPost F M w b (mvC c fr tt create) w') := by
                  have hd := do_any F M b c ⟨fr, tt, f⟩ (.slice fA fl fc) w4 (HAT.out.below HB4.out) (by have h := HBY.out.only (Only.of_below (M := fun _ => False) HB4.out) (fun _ _ => id); rw [← HFL.out] at h ⊢; exact h) (by have := HS.out.time; omega) (by have := HS.out.here; omega) (by have := HS.out.both; omega) (by have := HS.out.hused; omega) hf ht (by show f.data.length ≤ _; rw [HFL.out]; omega)
                  refine hd.mono ?_
                  rintro e w' ⟨rfl, hpo⟩
                  refine ⟨rfl, ?_⟩
                  have h2 := FcPost.of_below HB4.out hpo
                  unfold mvC
                  rw [if_pos ⟨HWE.out.trans HE.out, HFT.out⟩, HFF.out]
                  exact h2
                clear hbk4
                go_wp2_with fail
                refine HDO.out.mono ?_
                rintro e w6 ⟨rfl, hp6⟩
                have HP6 := Lib.hid hp6
                clear hp6
                go_wp2_with fail
                go_ret
                exact ⟨by rw [HE.out]; rfl, HP6.out⟩
end Go.Proofs.YtlgmbljfjfcpoaaGreat.Tx
