/- Texts put together: UGs14, UGs15, UGs16, UGs17, UGs18. -/
import Derived.Test.YtbenkmihkbjgeaaGreatQu16
import Derived.Test.YtbenkmihkbjgeaaGreatQu12
/- Package fsim: Create, Write, Move, MoveNew, Remove, Sync. -/
namespace Go.Proofs.YtbenkmihkbjgeaaGreat.Tx
open Go.RowKit Go.Maps Go.Proofs.YtbenkmihkbjgeaaGreat.Sh
structure CReady (c : CSt) (N : Nat) : Prop where
 fits : CFits c N
 big : N + 2 * c.plan.length ≤ 600000
 calls : 0 ≤ c.calls ∧ c.calls ≤ 4000000000000
 paths : ∀ e ∈ c.plan, e.path.length ≤ 1000000
theorem CReady.begun {c : CSt} {N : Nat} (h : CReady c N) : CFits (bgC c).c (N + 2 * c.plan.length) := by
 have h1 := bgN_le c
 exact (h.fits.bg (bgN c) h1).more (by omega)
theorem CReady.small {c : CSt} {N : Nat} (h : CReady c N) : CSmall (bgC c).c := h.begun.small (by have := h.big; omega)
def crtE (c : CSt) (p : List UInt8) (mode : Int) (data : List UInt8) (create : Bool) : Int := if bgE c = 0 then wrE (bgC c).c p mode data (bgC c).room create else bgE c
def crtC (c : CSt) (p : List UInt8) (mode : Int) (data : List UInt8) (create : Bool) : CSt := if bgE c = 0 then wrC (bgC c).c p mode data (bgC c).room create else (bgC c).c
def movE (c : CSt) (fr tt : List UInt8) (create : Bool) : Int := if bgE c = 0 then mvE (bgC c).c fr tt create else bgE c
def movC (c : CSt) (fr tt : List UInt8) (create : Bool) : CSt := if bgE c = 0 then mvC (bgC c).c fr tt create else (bgC c).c
def remE (c : CSt) (p : List UInt8) : Int := if bgE c = 0 then rmE (bgC c).c p else bgE c
def remC (c : CSt) (p : List UInt8) : CSt := if bgE c = 0 then rmC (bgC c).c p else (bgC c).c
def synC (c : CSt) : CSt := if bgE c = 0 then settleC (bgC c).c else (bgC c).c
set_option maxRecDepth 100000 in
set_option maxHeartbeats 3200000 in
theorem writef_any (F M : Nat → Prop) (b : Nat) (c : CSt) (N : Nat) (p : List UInt8) (mode : Int) (dv : Value) (data : List UInt8) (G : Nat → Prop) (w : World) (h : FcAt F w b c M) (hr : CReady c N) (hdv : By G w dv data) (hG : ∀ k, G k → ¬ M k) (hp : p.length ≤ 1000000) :
  Calls Tryz.prog 49 #[.pointer (some ⟨b, 0, none⟩), .string (str p), .int .i64 mode, dv] w fun e w' => e = .returned (.int .i64 (crtE c p mode data false)) ∧ FcPost F M w b (crtC c p mode data false) w' := by
 have H := Lib.hid h
 have HR := Lib.hid hr
 have HDV := Lib.hid hdv
 have HG := Lib.hid hG
 obtain ⟨dA, dc, rfl, _, _⟩ := hdv.slice
 obtain ⟨dl, hdl⟩ : ∃ dl, data.length = dl := ⟨_, rfl⟩
 have HDL := Lib.hid hdl
 rw [hdl]
 clear hdv hG hdl
 obtain ⟨be, hbe⟩ : ∃ be, bgE c = be := ⟨_, rfl⟩
 have HBE := Lib.hid hbe
 obtain ⟨rm, hrm⟩ : ∃ rm, (bgC c).room = rm := ⟨_, rfl⟩
 have HRM := Lib.hid hrm
 obtain ⟨s, hs⟩ : ∃ s, (bgC c).c = s := ⟨_, rfl⟩
 have HSS := Lib.hid hs
 have HSM := Lib.hid hr.small
 clear h hr hbe hrm hs
 go_enter Tryz.func49, Tryz.ntmps49
 go_wp2_with fail
 refine (begin_any F M b c N _ H.out HR.out.fits HR.out.big HR.out.calls HR.out.paths).mono ?_
 rintro e w1 ⟨rfl, hpost⟩
 rw [HBE.out, HRM.out]
 rw [HSS.out] at hpost HSM
 have HP1 := Lib.hid hpost
 obtain ⟨M1, hat, hon, hsub⟩ := hpost
 have HAT := Lib.hid hat
 have HON := Lib.hid hon
 have HSUB := Lib.hid hsub
 clear hat hon hsub
 have HD1 : Hid (SlV w1 (.slice dA dl dc) (data.map bv)) := by
  have h1 := HDV.out.only HON.out HG.out
  rw [← HDL.out]
  exact Rd.slv (by rw [List.length_map]; exact h1)
 by_cases hb0 : be = 0
 ·subst hb0
  have HE : Hid (crtE c p mode data false = wrE s p mode data rm false ∧ crtC c p mode data false = wrC s p mode data rm false) := ⟨by unfold crtE; rw [if_pos HBE.out, HSS.out, HRM.out], by unfold crtC; rw [if_pos HBE.out, HSS.out, HRM.out]⟩
  go_wp2_with fail
  refine (write_any _ M1 b s p mode (.slice dA dl dc) data rm false w1 HAT.out HSM.out HD1.out hp).mono ?_
  rintro e w2 ⟨rfl, hp2⟩
  have HP2 := Lib.hid (FcPost.trans HON.out HSUB.out hp2)
  clear hp2
  go_wp2_with fail
  go_ret
  exact ⟨by rw [HE.out.1]; rfl, by rw [HE.out.2]; exact HP2.out⟩
 ·have e1 : (be == 0) = false := by rw [beq_eq_false_iff_ne]; exact hb0
  have HE : Hid (crtE c p mode data false = be ∧ crtC c p mode data false = s) := ⟨by unfold crtE; rw [HBE.out, if_neg hb0], by unfold crtC; rw [HBE.out, if_neg hb0]; exact HSS.out⟩
  clear hb0
  go_wp2_with fail
  go_ret
  exact ⟨by rw [HE.out.1]; rfl, by rw [HE.out.2]; exact HP1.out⟩
set_option maxRecDepth 100000 in
set_option maxHeartbeats 3200000 in
theorem movef_any (F M : Nat → Prop) (b : Nat) (c : CSt) (N : Nat) (fr tt : List UInt8) (w : World) (h : FcAt F w b c M) (hr : CReady c N) (hf : fr.length ≤ 1000000) (ht : tt.length ≤ 1000000) :
  Calls Tryz.prog 51 #[.pointer (some ⟨b, 0, none⟩), .string (str fr), .string (str tt)] w fun e w' => e = .returned (.int .i64 (movE c fr tt false)) ∧ FcPost F M w b (movC c fr tt false) w' := by
 have H := Lib.hid h
 have HR := Lib.hid hr
 obtain ⟨be, hbe⟩ : ∃ be, bgE c = be := ⟨_, rfl⟩
 have HBE := Lib.hid hbe
 obtain ⟨rm, hrm⟩ : ∃ rm, (bgC c).room = rm := ⟨_, rfl⟩
 have HRM := Lib.hid hrm
 obtain ⟨s, hs⟩ : ∃ s, (bgC c).c = s := ⟨_, rfl⟩
 have HSS := Lib.hid hs
 have HSM := Lib.hid hr.small
 clear h hr hbe hrm hs
 go_enter Tryz.func51, Tryz.ntmps51
 go_wp2_with fail
 refine (begin_any F M b c N _ H.out HR.out.fits HR.out.big HR.out.calls HR.out.paths).mono ?_
 rintro e w1 ⟨rfl, hpost⟩
 rw [HBE.out, HRM.out]
 rw [HSS.out] at hpost HSM
 have HP1 := Lib.hid hpost
 obtain ⟨M1, hat, hon, hsub⟩ := hpost
 have HAT := Lib.hid hat
 have HON := Lib.hid hon
 have HSUB := Lib.hid hsub
 clear hat hon hsub
 by_cases hb0 : be = 0
 ·subst hb0
  have HE : Hid (movE c fr tt false = mvE s fr tt false ∧ movC c fr tt false = mvC s fr tt false) := ⟨by unfold movE; rw [if_pos HBE.out, HSS.out], by unfold movC; rw [if_pos HBE.out, HSS.out]⟩
  go_wp2_with fail
  refine (move_any _ M1 b s fr tt false w1 HAT.out HSM.out hf ht).mono ?_
  rintro e w2 ⟨rfl, hp2⟩
  have HP2 := Lib.hid (FcPost.trans HON.out HSUB.out hp2)
  clear hp2
  go_wp2_with fail
  go_ret
  exact ⟨by rw [HE.out.1]; rfl, by rw [HE.out.2]; exact HP2.out⟩
 ·have e1 : (be == 0) = false := by rw [beq_eq_false_iff_ne]; exact hb0
  have HE : Hid (movE c fr tt false = be ∧ movC c fr tt false = s) := ⟨by unfold movE; rw [HBE.out, if_neg hb0], by unfold movC; rw [HBE.out, if_neg hb0]; exact HSS.out⟩
  clear hb0
  go_wp2_with fail
  go_ret
  exact ⟨by rw [HE.out.1]; rfl, by rw [HE.out.2]; exact HP1.out⟩
end Go.Proofs.YtbenkmihkbjgeaaGreat.Tx
/- Package fsim: slices copied; events copied with their data; what users did. -/
namespace Go.Proofs.YtbenkmihkbjgeaaGreat.Tx
open Go.RowKit Go.Maps Go.Proofs.YtbenkmihkbjgeaaGreat.Sh
abbrev ChsF (F : Nat → Prop) (w : World) (v : Value) (l : List ChM) : Prop := TmpL chK F w v l
end Go.Proofs.YtbenkmihkbjgeaaGreat.Tx
/- Package fsim: events copied with their data; what users did. -/
namespace Go.Proofs.YtbenkmihkbjgeaaGreat.Tx
open Go.RowKit Go.Maps Go.Proofs.YtbenkmihkbjgeaaGreat.Sh
def OwnC (F N : Nat → Prop) (k : Nat) (w : World) (B : Nat) (v : Value) (l : List EvM) : Prop :=
 ∃ ds, w.ownsRow B 147 7 v l.length (ShC evK l ds) ∧ ds.length = l.length ∧ ∀ (i : Nat) (d : Value) (e : EvM), ds[i]? = some d → l[i]? = some e → By (fun g => if i < k then N g else F g) w d e.data
def NewEvs (w : World) (l : List EvM) (v : Value) (w' : World) : Prop := OwnL evK 147 (fun k => w.heap.size ≤ k ∧ k < w'.heap.size ∧ v.ownBlock ≠ some k) w' w.heap.size v l ∧ Below w.heap.size w w'
end Go.Proofs.YtbenkmihkbjgeaaGreat.Tx
/- Package fsim: what users did; a file system copied. -/
namespace Go.Proofs.YtbenkmihkbjgeaaGreat.Tx
open Go.RowKit Go.Maps Go.Proofs.YtbenkmihkbjgeaaGreat.Sh
def CopyPost (F : Nat → Prop) (w : World) (c : CSt) (e : Ending) (w' : World) : Prop := ∃ b M, e = .returned (.pointer (some ⟨b, 0, none⟩)) ∧ FcAt (grow F w w' M) w' b c M ∧ Below w.heap.size w w' ∧ ∀ k, M k → w.heap.size ≤ k
end Go.Proofs.YtbenkmihkbjgeaaGreat.Tx
/- Package fsim: Read. -/
namespace Go.Proofs.YtbenkmihkbjgeaaGreat.Tx
open Go.RowKit Go.Maps Go.Proofs.YtbenkmihkbjgeaaGreat.Sh
def redE (st : CSt) (p : List UInt8) : Int := if bgE st = 0 then (if pathB p = false then 6 else if peekB (bgC st).c.here p = true then 0 else 7) else bgE st
def redF (st : CSt) (p : List UInt8) : FileM := if redE st p = 0 then peekF (bgC st).c.here p else ⟨0, [], 0⟩
def RedPost (F M : Nat → Prop) (w : World) (b : Nat) (s : CSt) (n : Int) (f : FileM) (e : Ending) (w' : World) : Prop :=
 ∃ u v M', e = .returned (.tuple #[u, .int .i64 n]) ∧ u = .agg #[.int .i64 f.mode, v, .int .i64 f.time] ∧ FcAt (grow F w w' M') w' b s M' ∧ Only M w w' ∧ (∀ k, M' k → M k ∨ w.heap.size ≤ k) ∧ By (grow F w w' M') w' v f.data
theorem red_fin {F M M1 : Nat → Prop} {w wa w1 w' : World} {b : Nat} {s : CSt} (hwa : Below w.heap.size w wa) (hz : w.heap.size < wa.heap.size) (hat : FcAt (grow F wa w1 M1) w1 b s M1) (hon : Only M wa w1) (hsub : ∀ k, M1 k → M k ∨ wa.heap.size ≤ k)
  (hr : Only (fun k => k = w.heap.size) w1 w') (hF : ∀ k, F k → k < w.heap.size) (hM : ∀ k, M k → k < w.heap.size) :
  FcAt (grow F w w' M1) w' b s M1 ∧ Only M w w' ∧ ∀ k, M1 k → M k ∨ w.heap.size ≤ k := by
 obtain ⟨x, hX, hX2⟩ := hat
 have hz1 := hon.size
 have hz2 := hr.size
 have hne : ∀ k, M1 k → ¬ (k = w.heap.size) := fun k hk e => by
  rcases hsub k hk with h | h
  ·have := hM k h; omega
  ·omega
 have h1 : FcX (grow F wa w1 M1) w' b s x := hX.only hr (fun k hk e => by
  rcases hk with hk | ⟨g1, _, _⟩
  ·have := hF k hk; omega
  ·omega) (fun k hk => hne k ((hX2 k).2 hk))
 refine ⟨⟨x, h1.mono (F' := grow F w w' M1) (fun k hk => ?_) (fun k hk hm => ?_) (fun k hk => ?_), hX2⟩, ((Only.of_below hwa).trans hon (fun k hk => .inl hk)).trans hr (fun k hk => .inr (by rw [hk]; exact Nat.le_refl _)), fun k hk => (hsub k hk).imp id (fun h => by omega)⟩
 ·rcases hk with hk | ⟨g1, g2, g3⟩
  ·exact .inl hk
  ·exact .inr ⟨by omega, by omega, g3⟩
 ·rcases hk with hk | ⟨_, _, g3⟩
  ·exact hX.self k (.inl hk) hm
  ·exact g3 ((hX2 k).2 hm)
 ·rcases hk with hk | ⟨_, g2, _⟩
  ·have := hF k hk; omega
  ·exact g2
set_option maxRecDepth 100000 in
set_option maxHeartbeats 3200000 in
theorem read_any (F M : Nat → Prop) (b : Nat) (st : CSt) (N : Nat) (p : List UInt8) (w : World) (h : FcAt F w b st M) (hr : CReady st N) (hp : p.length ≤ 1000000) :
  Calls Tryz.prog 59 #[.pointer (some ⟨b, 0, none⟩), .string (str p)] w (RedPost F M w b (bgC st).c (redE st p) (redF st p)) := by
 have HR := Lib.hid hr
 have HS := Lib.hid hr.small
 have HLF := Lib.hid h.low
 have HLM := Lib.hid h.lt
 obtain ⟨wa, hwa⟩ : ∃ wa, wa = w.alloc (.cells #[.int .i64 0, .slice none 0 0, .int .i64 0] 129) := ⟨_, rfl⟩
 have hBa : Below w.heap.size w wa := by rw [hwa]; exact (Below.refl _ _).alloc (Nat.le_refl _) _
 have hba : Blk wa w.heap.size 129 #[.int .i64 0, .slice none 0 0, .int .i64 0] := by rw [hwa]; exact Blk.new _ _ _
 have HZA : Hid (w.heap.size < wa.heap.size) := hba.lt
 have HBA := Lib.hid hBa
 have HBLK := Lib.hid hba
 have H := Lib.hid (h.below hBa)
 clear h hr hBa hba
 obtain ⟨be, hbe⟩ : ∃ be, bgE st = be := ⟨_, rfl⟩
 have HBE := Lib.hid hbe
 obtain ⟨tp, htp⟩ : ∃ t, pathB p = t := ⟨_, rfl⟩
 have HTP := Lib.hid htp
 clear hbe htp
 go_enter Tryz.func59, Tryz.ntmps59
 go_upto_region 1 with (fail)
 rw [← hwa]
 clear hwa
 go_wp2_with fail
 refine (begin_any F M b st N _ H.out HR.out.fits HR.out.big HR.out.calls HR.out.paths).mono ?_
 rintro e w1 ⟨rfl, hpost⟩
 rw [HBE.out]
 obtain ⟨s, hs⟩ : ∃ s, (bgC st).c = s := ⟨_, rfl⟩
 have HSS := Lib.hid hs
 rw [hs] at hpost
 obtain ⟨M1, hat, hon, hsub⟩ := hpost
 have HSM : Hid (CSmall s) := by rw [← hs]; exact HS.out
 have HAT := Lib.hid hat
 have HON := Lib.hid hon
 have HSUB := Lib.hid hsub
 have hb1 : Blk w1 w.heap.size 129 #[.int .i64 0, .slice none 0 0, .int .i64 0] := hon.blk HBLK.out (fun hm => by have := HLM.out _ hm; omega)
 have HB1 := Lib.hid hb1
 have hwl : w.heap.size < w1.heap.size := hb1.lt
 clear hat hon hsub hs hb1
 obtain ⟨fu, hfu⟩ : ∃ fu, (bgC st).room = fu := ⟨_, rfl⟩
 rw [hfu]
 clear hfu
 by_cases hb0 : be = 0
 ·subst hb0
  go_wp2_with fail
  refine (npath_any p _ hp).mono ?_
  rintro e w2 ⟨rfl, hb2⟩
  rw [HTP.out]
  have HB2 := Lib.hid hb2
  have HK2 := Lib.hid (HB1.out.below hb2 hwl)
  have hz2 := hb2.size
  clear hb2
  cases tp with
  | false =>
   have HE : Hid (redE st p = 6 ∧ redF st p = ⟨0, [], 0⟩) := by
    have h1 : redE st p = 6 := by unfold redE; rw [if_pos HBE.out, if_pos HTP.out]
    exact ⟨h1, by unfold redF; rw [h1, if_neg (by decide)]⟩
   have a0 : w2.cell? ⟨w.heap.size, 0, none⟩ = some (.int .i64 0) := HK2.out.cell 0
   have a1 : w2.cell? ⟨w.heap.size, 1, none⟩ = some (.slice none 0 0) := HK2.out.cell 1
   have a2 : w2.cell? ⟨w.heap.size, 2, none⟩ = some (.int .i64 0) := HK2.out.cell 2
   have f0 : w2.frozen? ⟨w.heap.size, 0, none⟩ = false := HK2.out.frozen 0
   have f1 : w2.frozen? ⟨w.heap.size, 1, none⟩ = false := HK2.out.frozen 1
   have f2 : w2.frozen? ⟨w.heap.size, 2, none⟩ = false := HK2.out.frozen 2
   have hs3 := set3 HK2.out (.int .i64 0) (.slice none 0 0) (.int .i64 0)
   have HBC := Lib.hid hs3.1
   have HON3 := Lib.hid ((Only.of_below HB2.out).trans hs3.2 (fun _ h => .inl h))
   clear hs3
   go_wp2_with fail
   generalize (((w2.setCell ⟨w.heap.size, 0, none⟩ (.int .i64 0)).setCell ⟨w.heap.size, 1, none⟩ (.slice none 0 0)).setCell ⟨w.heap.size, 2, none⟩ (.int .i64 0)) = wc at *
   have q0 : wc.cell? ⟨w.heap.size, 0, none⟩ = some (.int .i64 0) := HBC.out.cell 0
   have q1 : wc.cell? ⟨w.heap.size, 1, none⟩ = some (.slice none 0 0) := HBC.out.cell 1
   have q2 : wc.cell? ⟨w.heap.size, 2, none⟩ = some (.int .i64 0) := HBC.out.cell 2
   refine bodyPost_ret (v := .tuple #[.agg #[(.int .i64 0), (.slice none 0 0), (.int .i64 0)], .int .i64 6]) (by simp [results, Tryz.results59, go_sem, q0, q1, q2]) rfl ?_
   have hfin := red_fin HBA.out HZA.out HAT.out HON.out HSUB.out HON3.out HLF.out HLM.out
   refine ⟨_, _, M1, by rw [HE.out.1], by rw [HE.out.2], by rw [HSS.out]; exact hfin.1, hfin.2.1, hfin.2.2, ?_⟩
   rw [HE.out.2]
   exact By.nil_ _ _
  | true =>
   go_wp2_with fail
   refine (peek_any p (HAT.out.below HB2.out) HSM.out hp).mono ?_
   rintro e w3 ⟨u3, rfl, hfv, hb3⟩
   obtain ⟨v3, rfl, ho3⟩ := hfv
   have hb13 : Below w1.heap.size w1 w3 := HB2.out.trans (hb3.mono hz2)
   have HO3 := Lib.hid ho3
   obtain ⟨A3, c3, rfl, _, _⟩ := ho3.length
   rw [List.length_map] at HO3 ⊢
   obtain ⟨pf, hpf⟩ : ∃ pf, peekF s.here p = pf := ⟨_, rfl⟩
   obtain ⟨pb, hpb⟩ : ∃ pb, peekB s.here p = pb := ⟨_, rfl⟩
   have HPF := Lib.hid hpf
   have HPB := Lib.hid hpb
   rw [hpf] at HO3 ⊢
   rw [hpb]
   clear hpf hpb ho3
   obtain ⟨w4, hw4⟩ : ∃ w4, w4 = w3.alloc (.cells #[.int .i64 pf.mode, .slice A3 pf.data.length c3, .int .i64 pf.time] 129) := ⟨_, rfl⟩
   have hb34 : Below w3.heap.size w3 w4 := by rw [hw4]; exact (Below.refl _ _).alloc (Nat.le_refl _) _
   have hbx : Blk w4 w3.heap.size 129 #[.int .i64 pf.mode, .slice A3 pf.data.length c3, .int .i64 pf.time] := by rw [hw4]; exact Blk.new _ _ _
   have hz3 := hb13.size
   have HO4 := Lib.hid (HO3.out.below hb34)
   have HB14 := Lib.hid (hb13.trans (hb34.mono hz3))
   have HK4 := Lib.hid (HB1.out.below HB14.out hwl)
   have HX4 := Lib.hid hbx
   clear hb13 hb34 hbx hb3
   go_upto_region 7 with (fail)
   rw [← hw4]
   clear hw4
   have x0 : w4.cell? ⟨w3.heap.size, 0, none⟩ = some (.int .i64 pf.mode) := HX4.out.cell 0
   have x1 : w4.cell? ⟨w3.heap.size, 1, none⟩ = some (.slice A3 pf.data.length c3) := HX4.out.cell 1
   have x2 : w4.cell? ⟨w3.heap.size, 2, none⟩ = some (.int .i64 pf.time) := HX4.out.cell 2
   have a0 : w4.cell? ⟨w.heap.size, 0, none⟩ = some (.int .i64 0) := HK4.out.cell 0
   have a1 : w4.cell? ⟨w.heap.size, 1, none⟩ = some (.slice none 0 0) := HK4.out.cell 1
   have a2 : w4.cell? ⟨w.heap.size, 2, none⟩ = some (.int .i64 0) := HK4.out.cell 2
   have f0 : w4.frozen? ⟨w.heap.size, 0, none⟩ = false := HK4.out.frozen 0
   have f1 : w4.frozen? ⟨w.heap.size, 1, none⟩ = false := HK4.out.frozen 1
   have f2 : w4.frozen? ⟨w.heap.size, 2, none⟩ = false := HK4.out.frozen 2
   cases pb with
   | false =>
    have HE : Hid (redE st p = 7 ∧ redF st p = ⟨0, [], 0⟩) := by
     have h1 : redE st p = 7 := by unfold redE; rw [if_pos HBE.out, if_neg (by rw [HTP.out]; decide), HSS.out, if_neg (by rw [HPB.out]; decide)]
     exact ⟨h1, by unfold redF; rw [h1, if_neg (by decide)]⟩
    have hs3 := set3 HK4.out (.int .i64 0) (.slice none 0 0) (.int .i64 0)
    have HBC := Lib.hid hs3.1
    have HON3 := Lib.hid ((Only.of_below HB14.out).trans hs3.2 (fun _ h => .inl h))
    clear hs3
    go_wp2_with fail
    generalize (((w4.setCell ⟨w.heap.size, 0, none⟩ (.int .i64 0)).setCell ⟨w.heap.size, 1, none⟩ (.slice none 0 0)).setCell ⟨w.heap.size, 2, none⟩ (.int .i64 0)) = wc at *
    have q0 : wc.cell? ⟨w.heap.size, 0, none⟩ = some (.int .i64 0) := HBC.out.cell 0
    have q1 : wc.cell? ⟨w.heap.size, 1, none⟩ = some (.slice none 0 0) := HBC.out.cell 1
    have q2 : wc.cell? ⟨w.heap.size, 2, none⟩ = some (.int .i64 0) := HBC.out.cell 2
    refine bodyPost_ret (v := .tuple #[.agg #[(.int .i64 0), (.slice none 0 0), (.int .i64 0)], .int .i64 7]) (by simp [results, Tryz.results59, go_sem, q0, q1, q2]) rfl ?_
    have hfin := red_fin HBA.out HZA.out HAT.out HON.out HSUB.out HON3.out HLF.out HLM.out
    refine ⟨_, _, M1, by rw [HE.out.1], by rw [HE.out.2], by rw [HSS.out]; exact hfin.1, hfin.2.1, hfin.2.2, ?_⟩
    rw [HE.out.2]
    exact By.nil_ _ _
   | true =>
    have HE : Hid (redE st p = 0 ∧ redF st p = pf) := by
     have h1 : redE st p = 0 := by unfold redE; rw [if_pos HBE.out, if_neg (by rw [HTP.out]; decide), HSS.out, if_pos HPB.out]
     exact ⟨h1, by unfold redF; rw [h1, if_pos rfl, HSS.out, HPF.out]⟩
    have HBY := Lib.hid (OwnV.by_ (F := fun _ => False) HO4.out)
    have hs3 := set3 HK4.out (.int .i64 pf.mode) (.slice A3 pf.data.length c3) (.int .i64 pf.time)
    have HBC := Lib.hid hs3.1
    have HON3 := Lib.hid ((Only.of_below HB14.out).trans hs3.2 (fun _ h => .inl h))
    have HBYC := Lib.hid (HBY.out.only hs3.2 (fun k hk e => by
     rcases hk with hk | hk
     ·exact hk
     ·have := hk.1; omega))
    clear hs3
    go_wp2_with fail
    generalize (((w4.setCell ⟨w.heap.size, 0, none⟩ (.int .i64 pf.mode)).setCell ⟨w.heap.size, 1, none⟩ (.slice A3 pf.data.length c3)).setCell ⟨w.heap.size, 2, none⟩ (.int .i64 pf.time)) = wc at *
    have q0 : wc.cell? ⟨w.heap.size, 0, none⟩ = some (.int .i64 pf.mode) := HBC.out.cell 0
    have q1 : wc.cell? ⟨w.heap.size, 1, none⟩ = some (.slice A3 pf.data.length c3) := HBC.out.cell 1
    have q2 : wc.cell? ⟨w.heap.size, 2, none⟩ = some (.int .i64 pf.time) := HBC.out.cell 2
    refine bodyPost_ret (v := .tuple #[.agg #[(.int .i64 pf.mode), (.slice A3 pf.data.length c3), (.int .i64 pf.time)], .int .i64 0]) (by simp [results, Tryz.results59, go_sem, q0, q1, q2]) rfl ?_
    have hfin := red_fin HBA.out HZA.out HAT.out HON.out HSUB.out HON3.out HLF.out HLM.out
    refine ⟨_, _, M1, by rw [HE.out.1], by rw [HE.out.2], by rw [HSS.out]; exact hfin.1, hfin.2.1, hfin.2.2, ?_⟩
    rw [HE.out.2]
    refine HBYC.out.mono (fun k hk hf => ?_)
    rcases hf with hf | hf
    ·exact hf.elim
    ·exact .inr ⟨by have := hf.1; omega, hk, fun hm => by have := HAT.out.lt k hm; have := hf.1; omega⟩
 ·have e1 : (be == 0) = false := by rw [beq_eq_false_iff_ne]; exact hb0
  have HE : Hid (redE st p = be ∧ redF st p = ⟨0, [], 0⟩) := by
   have h1 : redE st p = be := by unfold redE; rw [HBE.out, if_neg hb0]
   exact ⟨h1, by unfold redF; rw [h1, if_neg hb0]⟩
  clear hb0
  have a0 : w1.cell? ⟨w.heap.size, 0, none⟩ = some (.int .i64 0) := HB1.out.cell 0
  have a1 : w1.cell? ⟨w.heap.size, 1, none⟩ = some (.slice none 0 0) := HB1.out.cell 1
  have a2 : w1.cell? ⟨w.heap.size, 2, none⟩ = some (.int .i64 0) := HB1.out.cell 2
  have f0 : w1.frozen? ⟨w.heap.size, 0, none⟩ = false := HB1.out.frozen 0
  have f1 : w1.frozen? ⟨w.heap.size, 1, none⟩ = false := HB1.out.frozen 1
  have f2 : w1.frozen? ⟨w.heap.size, 2, none⟩ = false := HB1.out.frozen 2
  have hs3 := set3 HB1.out (.int .i64 0) (.slice none 0 0) (.int .i64 0)
  have HBC := Lib.hid hs3.1
  have HON3 := Lib.hid ((Only.refl _ w1).trans hs3.2 (fun _ h => .inl h))
  clear hs3
  go_wp2_with fail
  generalize (((w1.setCell ⟨w.heap.size, 0, none⟩ (.int .i64 0)).setCell ⟨w.heap.size, 1, none⟩ (.slice none 0 0)).setCell ⟨w.heap.size, 2, none⟩ (.int .i64 0)) = wc at *
  have q0 : wc.cell? ⟨w.heap.size, 0, none⟩ = some (.int .i64 0) := HBC.out.cell 0
  have q1 : wc.cell? ⟨w.heap.size, 1, none⟩ = some (.slice none 0 0) := HBC.out.cell 1
  have q2 : wc.cell? ⟨w.heap.size, 2, none⟩ = some (.int .i64 0) := HBC.out.cell 2
  refine bodyPost_ret (v := .tuple #[.agg #[(.int .i64 0), (.slice none 0 0), (.int .i64 0)], .int .i64 be]) (by simp [results, Tryz.results59, go_sem, q0, q1, q2]) rfl ?_
  have hfin := red_fin HBA.out HZA.out HAT.out HON.out HSUB.out HON3.out HLF.out HLM.out
  refine ⟨_, _, M1, by rw [HE.out.1], by rw [HE.out.2], by rw [HSS.out]; exact hfin.1, hfin.2.1, hfin.2.2, ?_⟩
  rw [HE.out.2]
  exact By.nil_ _ _
end Go.Proofs.YtbenkmihkbjgeaaGreat.Tx
