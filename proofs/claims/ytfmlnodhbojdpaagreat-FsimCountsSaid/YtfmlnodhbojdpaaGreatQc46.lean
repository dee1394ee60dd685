/- Texts put together: Gs18. -/
import Derived.Test.YtfmlnodhbojdpaaGreatQc45
import Derived.Test.YtfmlnodhbojdpaaGreatQc34
/- Package fsim: Read. -/
namespace Go.Proofs.YtfmlnodhbojdpaaGreat.Tx
open Go.RowKit Go.Maps Go.Proofs.YtfmlnodhbojdpaaGreat.Sh

def redE (st : CSt) (p : List UInt8) : Int := if bgE st = 0 then (if pathB p = false then 6 else if peekB (bgC st).c.here p = true then 0 else 7) else bgE st
def redF (st : CSt) (p : List UInt8) : FileM := if redE st p = 0 then peekF (bgC st).c.here p else ⟨0, [], 0⟩
/-- A file was given, beside a file system. -/
def RedPost (F M : Nat → Prop) (w : World) (b : Nat) (s : CSt) (n : Int) (f : FileM) (e : Ending) (w' : World) : Prop :=
  ∃ u v M', e = .returned (.tuple #[u, .int .i64 n]) ∧ u = .agg #[.int .i64 f.mode, v, .int .i64 f.time] ∧ FcAt (grow F w w' M') w' b s M' ∧ Only M w w' ∧ (∀ k, M' k → M k ∨ w.heap.size ≤ k) ∧ By (grow F w w' M') w' v f.data
theorem red_fin {F M M1 : Nat → Prop} {w wa w1 w' : World} {b : Nat} {s : CSt} (hwa : Below w.heap.size w wa) (hz : w.heap.size < wa.heap.size) (hat : FcAt (grow F wa w1 M1) w1 b s M1) (hon : Only M wa w1) (hsub : ∀ k, M1 k → M k ∨ wa.heap.size ≤ k)
    (hr : Only (fun k => k = w.heap.size) w1 w') (hF : ∀ k, F k → k < w.heap.size) (hM : ∀ k, M k → k < w.heap.size) :
    FcAt (grow F w w' M1) w' b s M1 ∧ Only M w w' ∧ ∀ k, M1 k → M k ∨ w.heap.size ≤ k := by
  obtain ⟨x, hX, hX2⟩ := hat
  have hz1 := hon.size
  have hz2 := hr.size
  have hne : ∀ k, M1 k → ¬ (k = w.heap.size) := fun k hk e => by
    rcases hsub k hk with h | h
    · have := hM k h; omega
    · omega
  have h1 : FcX (grow F wa w1 M1) w' b s x := hX.only hr (fun k hk e => by
    rcases hk with hk | ⟨g1, _, _⟩
    · have := hF k hk; omega
    · omega) (fun k hk => hne k ((hX2 k).2 hk))
  refine ⟨⟨x, h1.mono (F' := grow F w w' M1) (fun k hk => ?_) (fun k hk hm => ?_) (fun k hk => ?_), hX2⟩, ((Only.of_below hwa).trans hon (fun k hk => .inl hk)).trans hr (fun k hk => .inr (by rw [hk]; exact Nat.le_refl _)), fun k hk => (hsub k hk).imp id (fun h => by omega)⟩
  · rcases hk with hk | ⟨g1, g2, g3⟩
    · exact .inl hk
    · exact .inr ⟨by omega, by omega, g3⟩
  · rcases hk with hk | ⟨_, _, g3⟩
    · exact hX.self k (.inl hk) hm
    · exact g3 ((hX2 k).2 hm)
  · rcases hk with hk | ⟨_, g2, _⟩
    · have := hF k hk; omega
    · exact g2

set_option maxRecDepth 100000 in
set_option maxHeartbeats 3200000 in
theorem read_any (F M : Nat → Prop) (b : Nat) (st : CSt) (N : Nat) (p : List UInt8) (w : World) (h : FcAt F w b st M) (hr : CReady st N) (hp : p.length ≤ 1000000) :
    Calls Tryz.prog 78 #[.pointer (some ⟨b, 0, none⟩), .string (str p)] w (RedPost F M w b (bgC st).c (redE st p) (redF st p)) := by
  have HR := Lib.hid hr
  have HS := Lib.hid hr.small
  have HLF := Lib.hid h.low
  have HLM := Lib.hid h.lt
  obtain ⟨wa, hwa⟩ : ∃ wa, wa = w.alloc (.cells #[.int .i64 0, .slice none 0 0, .int .i64 0] 46) := ⟨_, rfl⟩
  have hBa : Below w.heap.size w wa := by rw [hwa]; exact (Below.refl _ _).alloc (Nat.le_refl _) _
  have hba : Blk wa w.heap.size 46 #[.int .i64 0, .slice none 0 0, .int .i64 0] := by rw [hwa]; exact Blk.new _ _ _
  have HZA : Hid (w.heap.size < wa.heap.size) := hba.lt
  have HBA := Lib.hid hBa
  have HBLK := Lib.hid hba
  have H := Lib.hid (h.below hBa)
  clear h hr hBa hba
  obtain ⟨be, hbe⟩ : ∃ be, bgE st = be := ⟨_, rfl⟩
  have HBE := Lib.hid hbe
  obtain ⟨tp, htp⟩ : ∃ t, pathB p = t := ⟨_, rfl⟩
  have HTP := Lib.hid htp
  clear hbe htp
  go_enter Tryz.func78, Tryz.ntmps78
  go_upto_region 1 with (fail)
  rw [← hwa]
  clear hwa
  go_wp2_with fail
  refine (begin_any F M b st N _ H.out HR.out.fits HR.out.big HR.out.calls HR.out.paths).mono ?_
  rintro e w1 ⟨rfl, hpost⟩
  rw [HBE.out]
  obtain ⟨s, hs⟩ : ∃ s, (bgC st).c = s := ⟨_, rfl⟩
  have HSS := Lib.hid hs
  rw [hs] at hpost
  obtain ⟨M1, hat, hon, hsub⟩ := hpost
  have HSM : Hid (CSmall s) := by rw [← hs]; exact HS.out
  have HAT := Lib.hid hat
  have HON := Lib.hid hon
  have HSUB := Lib.hid hsub
  have hb1 : Blk w1 w.heap.size 46 #[.int .i64 0, .slice none 0 0, .int .i64 0] := hon.blk HBLK.out (fun hm => by have := HLM.out _ hm; omega)
  have HB1 := Lib.hid hb1
  have hwl : w.heap.size < w1.heap.size := hb1.lt
  clear hat hon hsub hs hb1
  obtain ⟨fu, hfu⟩ : ∃ fu, (bgC st).room = fu := ⟨_, rfl⟩
  rw [hfu]
  clear hfu
  by_cases hb0 : be = 0
  · subst hb0
    go_wp2_with fail
    refine (npath_any p _ hp).mono ?_
    rintro e w2 ⟨rfl, hb2⟩
    rw [HTP.out]
    have HB2 := Lib.hid hb2
    have HK2 := Lib.hid (HB1.out.below hb2 hwl)
    have hz2 := hb2.size
    clear hb2
    cases tp with
    | false =>
      have HE : Hid (redE st p = 6 ∧ redF st p = ⟨0, [], 0⟩) := by
        have h1 : redE st p = 6 := by unfold redE; rw [if_pos HBE.out, if_pos HTP.out]
        exact ⟨h1, by unfold redF; rw [h1, if_neg (by decide)]⟩
      have a0 : w2.cell? ⟨w.heap.size, 0, none⟩ = some (.int .i64 0) := HK2.out.cell 0
      have a1 : w2.cell? ⟨w.heap.size, 1, none⟩ = some (.slice none 0 0) := HK2.out.cell 1
      have a2 : w2.cell? ⟨w.heap.size, 2, none⟩ = some (.int .i64 0) := HK2.out.cell 2
      have f0 : w2.frozen? ⟨w.heap.size, 0, none⟩ = false := HK2.out.frozen 0
      have f1 : w2.frozen? ⟨w.heap.size, 1, none⟩ = false := HK2.out.frozen 1
      have f2 : w2.frozen? ⟨w.heap.size, 2, none⟩ = false := HK2.out.frozen 2
      have hs3 := set3 HK2.out (.int .i64 0) (.slice none 0 0) (.int .i64 0)
      have HBC := Lib.hid hs3.1
      have HON3 := Lib.hid ((Only.of_below HB2.out).trans hs3.2 (fun _ h => .inl h))
      clear hs3
      go_wp2_with fail
      generalize (((w2.setCell ⟨w.heap.size, 0, none⟩ (.int .i64 0)).setCell ⟨w.heap.size, 1, none⟩ (.slice none 0 0)).setCell ⟨w.heap.size, 2, none⟩ (.int .i64 0)) = wc at *
      have q0 : wc.cell? ⟨w.heap.size, 0, none⟩ = some (.int .i64 0) := HBC.out.cell 0
      have q1 : wc.cell? ⟨w.heap.size, 1, none⟩ = some (.slice none 0 0) := HBC.out.cell 1
      have q2 : wc.cell? ⟨w.heap.size, 2, none⟩ = some (.int .i64 0) := HBC.out.cell 2
      refine bodyPost_ret (v := .tuple #[.agg #[(.int .i64 0), (.slice none 0 0), (.int .i64 0)], .int .i64 6]) (by simp [results, Tryz.results78, go_sem, q0, q1, q2]) rfl ?_
      have hfin := red_fin HBA.out HZA.out HAT.out HON.out HSUB.out HON3.out HLF.out HLM.out
      refine ⟨_, _, M1, by rw [HE.out.1], by rw [HE.out.2], by rw [HSS.out]; exact hfin.1, hfin.2.1, hfin.2.2, ?_⟩
      rw [HE.out.2]
      exact By.nil_ _ _
    | true =>
      go_wp2_with fail
      refine (peek_any p (HAT.out.below HB2.out) HSM.out hp).mono ?_
      rintro e w3 ⟨u3, rfl, hfv, hb3⟩
      obtain ⟨v3, rfl, ho3⟩ := hfv
      have hb13 : Below w1.heap.size w1 w3 := HB2.out.trans (hb3.mono hz2)
      have HO3 := Lib.hid ho3
      obtain ⟨A3, c3, rfl, _, _⟩ := ho3.length
      rw [List.length_map] at HO3 ⊢
      obtain ⟨pf, hpf⟩ : ∃ pf, peekF s.here p = pf := ⟨_, rfl⟩
      obtain ⟨pb, hpb⟩ : ∃ pb, peekB s.here p = pb := ⟨_, rfl⟩
      have HPF := Lib.hid hpf
      have HPB := Lib.hid hpb
      rw [hpf] at HO3 ⊢
      rw [hpb]
      clear hpf hpb ho3
      obtain ⟨w4, hw4⟩ : ∃ w4, w4 = w3.alloc (.cells #[.int .i64 pf.mode, .slice A3 pf.data.length c3, .int .i64 pf.time] 46) := ⟨_, rfl⟩
      have hb34 : Below w3.heap.size w3 w4 := by rw [hw4]; exact (Below.refl _ _).alloc (Nat.le_refl _) _
      have hbx : Blk w4 w3.heap.size 46 #[.int .i64 pf.mode, .slice A3 pf.data.length c3, .int .i64 pf.time] := by rw [hw4]; exact Blk.new _ _ _
      have hz3 := hb13.size
      have HO4 := Lib.hid (HO3.out.below hb34)
      have HB14 := Lib.hid (hb13.trans (hb34.mono hz3))
      have HK4 := Lib.hid (HB1.out.below HB14.out hwl)
      have HX4 := Lib.hid hbx
      clear hb13 hb34 hbx hb3
      go_upto_region 7 with (fail)
      rw [← hw4]
      clear hw4
      have x0 : w4.cell? ⟨w3.heap.size, 0, none⟩ = some (.int .i64 pf.mode) := HX4.out.cell 0
      have x1 : w4.cell? ⟨w3.heap.size, 1, none⟩ = some (.slice A3 pf.data.length c3) := HX4.out.cell 1
      have x2 : w4.cell? ⟨w3.heap.size, 2, none⟩ = some (.int .i64 pf.time) := HX4.out.cell 2
      have a0 : w4.cell? ⟨w.heap.size, 0, none⟩ = some (.int .i64 0) := HK4.out.cell 0
      have a1 : w4.cell? ⟨w.heap.size, 1, none⟩ = some (.slice none 0 0) := HK4.out.cell 1
      have a2 : w4.cell? ⟨w.heap.size, 2, none⟩ = some (.int .i64 0) := HK4.out.cell 2
      have f0 : w4.frozen? ⟨w.heap.size, 0, none⟩ = false := HK4.out.frozen 0
      have f1 : w4.frozen? ⟨w.heap.size, 1, none⟩ = false := HK4.out.frozen 1
      have f2 : w4.frozen? ⟨w.heap.size, 2, none⟩ = false := HK4.out.frozen 2
      cases pb with
      | false =>
        have HE : Hid (redE st p = 7 ∧ redF st p = ⟨0, [], 0⟩) := by
          have h1 : redE st p = 7 := by unfold redE; rw [if_pos HBE.out, if_neg (by rw [HTP.out]; decide), HSS.out, if_neg (by rw [HPB.out]; decide)]
          exact ⟨h1, by unfold redF; rw [h1, if_neg (by decide)]⟩
        have hs3 := set3 HK4.out (.int .i64 0) (.slice none 0 0) (.int .i64 0)
        have HBC := Lib.hid hs3.1
        have HON3 := Lib.hid ((Only.of_below HB14.out).trans hs3.2 (fun _ h => .inl h))
        clear hs3
        go_wp2_with fail
        generalize (((w4.setCell ⟨w.heap.size, 0, none⟩ (.int .i64 0)).setCell ⟨w.heap.size, 1, none⟩ (.slice none 0 0)).setCell ⟨w.heap.size, 2, none⟩ (.int .i64 0)) = wc at *
        have q0 : wc.cell? ⟨w.heap.size, 0, none⟩ = some (.int .i64 0) := HBC.out.cell 0
        have q1 : wc.cell? ⟨w.heap.size, 1, none⟩ = some (.slice none 0 0) := HBC.out.cell 1
        have q2 : wc.cell? ⟨w.heap.size, 2, none⟩ = some (.int .i64 0) := HBC.out.cell 2
        refine bodyPost_ret (v := .tuple #[.agg #[(.int .i64 0), (.slice none 0 0), (.int .i64 0)], .int .i64 7]) (by simp [results, Tryz.results78, go_sem, q0, q1, q2]) rfl ?_
        have hfin := red_fin HBA.out HZA.out HAT.out HON.out HSUB.out HON3.out HLF.out HLM.out
        refine ⟨_, _, M1, by rw [HE.out.1], by rw [HE.out.2], by rw [HSS.out]; exact hfin.1, hfin.2.1, hfin.2.2, ?_⟩
        rw [HE.out.2]
        exact By.nil_ _ _
      | true =>
        have HE : Hid (redE st p = 0 ∧ redF st p = pf) := by
          have h1 : redE st p = 0 := by unfold redE; rw [if_pos HBE.out, if_neg (by rw [HTP.out]; decide), HSS.out, if_pos HPB.out]
          exact ⟨h1, by unfold redF; rw [h1, if_pos rfl, HSS.out, HPF.out]⟩
        have HBY := Lib.hid (OwnV.by_ (F := fun _ => False) HO4.out)
        have hs3 := set3 HK4.out (.int .i64 pf.mode) (.slice A3 pf.data.length c3) (.int .i64 pf.time)
        have HBC := Lib.hid hs3.1
        have HON3 := Lib.hid ((Only.of_below HB14.out).trans hs3.2 (fun _ h => .inl h))
        have HBYC := Lib.hid (HBY.out.only hs3.2 (fun k hk e => by
          rcases hk with hk | hk
          · exact hk
          · have := hk.1; omega))
        clear hs3
        go_wp2_with fail
        generalize (((w4.setCell ⟨w.heap.size, 0, none⟩ (.int .i64 pf.mode)).setCell ⟨w.heap.size, 1, none⟩ (.slice A3 pf.data.length c3)).setCell ⟨w.heap.size, 2, none⟩ (.int .i64 pf.time)) = wc at *
        have q0 : wc.cell? ⟨w.heap.size, 0, none⟩ = some (.int .i64 pf.mode) := HBC.out.cell 0
        have q1 : wc.cell? ⟨w.heap.size, 1, none⟩ = some (.slice A3 pf.data.length c3) := HBC.out.cell 1
        have q2 : wc.cell? ⟨w.heap.size, 2, none⟩ = some (.int .i64 pf.time) := HBC.out.cell 2
        refine bodyPost_ret (v := .tuple #[.agg #[(.int .i64 pf.mode), (.slice A3 pf.data.length c3), (.int .i64 pf.time)], .int .i64 0]) (by simp [results, Tryz.results78, go_sem, q0, q1, q2]) rfl ?_
        have hfin := red_fin HBA.out HZA.out HAT.out HON.out HSUB.out HON3.out HLF.out HLM.out
        refine ⟨_, _, M1, by rw [HE.out.1], by rw [HE.out.2], by rw [HSS.out]; exact hfin.1, hfin.2.1, hfin.2.2, ?_⟩
        rw [HE.out.2]
        refine HBYC.out.mono (fun k hk hf => ?_)
        rcases hf with hf | hf
        · exact hf.elim
        · exact .inr ⟨by have := hf.1; omega, hk, fun hm => by have := HAT.out.lt k hm; have := hf.1; omega⟩
  · have e1 : (be == 0) = false := by rw [beq_eq_false_iff_ne]; exact hb0
    have HE : Hid (redE st p = be ∧ redF st p = ⟨0, [], 0⟩) := by
      have h1 : redE st p = be := by unfold redE; rw [HBE.out, if_neg hb0]
      exact ⟨h1, by unfold redF; rw [h1, if_neg hb0]⟩
    clear hb0
    have a0 : w1.cell? ⟨w.heap.size, 0, none⟩ = some (.int .i64 0) := HB1.out.cell 0
    have a1 : w1.cell? ⟨w.heap.size, 1, none⟩ = some (.slice none 0 0) := HB1.out.cell 1
    have a2 : w1.cell? ⟨w.heap.size, 2, none⟩ = some (.int .i64 0) := HB1.out.cell 2
    have f0 : w1.frozen? ⟨w.heap.size, 0, none⟩ = false := HB1.out.frozen 0
    have f1 : w1.frozen? ⟨w.heap.size, 1, none⟩ = false := HB1.out.frozen 1
    have f2 : w1.frozen? ⟨w.heap.size, 2, none⟩ = false := HB1.out.frozen 2
    have hs3 := set3 HB1.out (.int .i64 0) (.slice none 0 0) (.int .i64 0)
    have HBC := Lib.hid hs3.1
    have HON3 := Lib.hid ((Only.refl _ w1).trans hs3.2 (fun _ h => .inl h))
    clear hs3
    go_wp2_with fail
    generalize (((w1.setCell ⟨w.heap.size, 0, none⟩ (.int .i64 0)).setCell ⟨w.heap.size, 1, none⟩ (.slice none 0 0)).setCell ⟨w.heap.size, 2, none⟩ (.int .i64 0)) = wc at *
    have q0 : wc.cell? ⟨w.heap.size, 0, none⟩ = some (.int .i64 0) := HBC.out.cell 0
    have q1 : wc.cell? ⟨w.heap.size, 1, none⟩ = some (.slice none 0 0) := HBC.out.cell 1
    have q2 : wc.cell? ⟨w.heap.size, 2, none⟩ = some (.int .i64 0) := HBC.out.cell 2
    refine bodyPost_ret (v := .tuple #[.agg #[(.int .i64 0), (.slice none 0 0), (.int .i64 0)], .int .i64 be]) (by simp [results, Tryz.results78, go_sem, q0, q1, q2]) rfl ?_
    have hfin := red_fin HBA.out HZA.out HAT.out HON.out HSUB.out HON3.out HLF.out HLM.out
    refine ⟨_, _, M1, by rw [HE.out.1], by rw [HE.out.2], by rw [HSS.out]; exact hfin.1, hfin.2.1, hfin.2.2, ?_⟩
    rw [HE.out.2]
    exact By.nil_ _ _
end Go.Proofs.YtfmlnodhbojdpaaGreat.Tx
