/- Texts put together: Gs14. -/
import Derived.Test.YtaccejlalomaaaaGreatQh33
/- Package fsim: Create, Write, Move, MoveNew, Remove, Sync. -/
namespace Go.Proofs.YtaccejlalomaaaaGreat.Tx
open Go.RowKit Go.Maps Go.Proofs.YtaccejlalomaaaaGreat.Sh

/-- Ready for a call. -/
structure CReady (c : CSt) (N : Nat) : Prop where
  fits : CFits c N
  big : N + 2 * c.plan.length ≤ 600000
  calls : 0 ≤ c.calls ∧ c.calls ≤ 4000000000000
  paths : ∀ e ∈ c.plan, e.path.length ≤ 1000000
theorem CReady.begun {c : CSt} {N : Nat} (h : CReady c N) : CFits (bgC c).c (N + 2 * c.plan.length) := by
  have h1 := bgN_le c
  exact (h.fits.bg (bgN c) h1).more (by omega)
theorem CReady.small {c : CSt} {N : Nat} (h : CReady c N) : CSmall (bgC c).c := h.begun.small (by have := h.big; omega)
def crtE (c : CSt) (p : List UInt8) (mode : Int) (data : List UInt8) (create : Bool) : Int := if bgE c = 0 then wrE (bgC c).c p mode data (bgC c).room create else bgE c
def crtC (c : CSt) (p : List UInt8) (mode : Int) (data : List UInt8) (create : Bool) : CSt := if bgE c = 0 then wrC (bgC c).c p mode data (bgC c).room create else (bgC c).c
def movE (c : CSt) (fr tt : List UInt8) (create : Bool) : Int := if bgE c = 0 then mvE (bgC c).c fr tt create else bgE c
def movC (c : CSt) (fr tt : List UInt8) (create : Bool) : CSt := if bgE c = 0 then mvC (bgC c).c fr tt create else (bgC c).c
def remE (c : CSt) (p : List UInt8) : Int := if bgE c = 0 then rmE (bgC c).c p else bgE c
def remC (c : CSt) (p : List UInt8) : CSt := if bgE c = 0 then rmC (bgC c).c p else (bgC c).c
def synC (c : CSt) : CSt := if bgE c = 0 then settleC (bgC c).c else (bgC c).c

set_option maxRecDepth 100000 in
set_option maxHeartbeats 3200000 in
theorem create_any (F M : Nat → Prop) (b : Nat) (c : CSt) (N : Nat) (p : List UInt8) (mode : Int) (dv : Value) (data : List UInt8) (G : Nat → Prop) (w : World) (h : FcAt F w b c M) (hr : CReady c N) (hdv : By G w dv data) (hG : ∀ k, G k → ¬ M k) (hp : p.length ≤ 1000000) :
    Calls Tryz.prog 63 #[.pointer (some ⟨b, 0, none⟩), .string (str p), .int .i64 mode, dv] w fun e w' => e = .returned (.int .i64 (crtE c p mode data true)) ∧ FcPost F M w b (crtC c p mode data true) w' := by
  have H := Lib.hid h
  have HR := Lib.hid hr
  have HDV := Lib.hid hdv
  have HG := Lib.hid hG
  obtain ⟨dA, dc, rfl, _, _⟩ := hdv.slice
  obtain ⟨dl, hdl⟩ : ∃ dl, data.length = dl := ⟨_, rfl⟩
  have HDL := Lib.hid hdl
  rw [hdl]
  clear hdv hG hdl
  obtain ⟨be, hbe⟩ : ∃ be, bgE c = be := ⟨_, rfl⟩
  have HBE := Lib.hid hbe
  obtain ⟨rm, hrm⟩ : ∃ rm, (bgC c).room = rm := ⟨_, rfl⟩
  have HRM := Lib.hid hrm
  obtain ⟨s, hs⟩ : ∃ s, (bgC c).c = s := ⟨_, rfl⟩
  have HSS := Lib.hid hs
  have HSM := Lib.hid hr.small
  clear h hr hbe hrm hs
  go_enter Tryz.func63, Tryz.ntmps63
  go_wp2_with fail
  refine (begin_any F M b c N _ H.out HR.out.fits HR.out.big HR.out.calls HR.out.paths).mono ?_
  rintro e w1 ⟨rfl, hpost⟩
  rw [HBE.out, HRM.out]
  rw [HSS.out] at hpost HSM
  have HP1 := Lib.hid hpost
  obtain ⟨M1, hat, hon, hsub⟩ := hpost
  have HAT := Lib.hid hat
  have HON := Lib.hid hon
  have HSUB := Lib.hid hsub
  clear hat hon hsub
  have HD1 : Hid (SlV w1 (.slice dA dl dc) (data.map bv)) := by
    have h1 := HDV.out.only HON.out HG.out
    rw [← HDL.out]
    exact Rd.slv (by rw [List.length_map]; exact h1)
  by_cases hb0 : be = 0
  · subst hb0
    have HE : Hid (crtE c p mode data true = wrE s p mode data rm true ∧ crtC c p mode data true = wrC s p mode data rm true) := ⟨by unfold crtE; rw [if_pos HBE.out, HSS.out, HRM.out], by unfold crtC; rw [if_pos HBE.out, HSS.out, HRM.out]⟩
    go_wp2_with fail
    refine (write_any _ M1 b s p mode (.slice dA dl dc) data rm true w1 HAT.out HSM.out HD1.out hp).mono ?_
    rintro e w2 ⟨rfl, hp2⟩
    have HP2 := Lib.hid (FcPost.trans HON.out HSUB.out hp2)
    clear hp2
    go_wp2_with fail
    go_ret
    exact ⟨by rw [HE.out.1]; rfl, by rw [HE.out.2]; exact HP2.out⟩
  · have e1 : (be == 0) = false := by rw [beq_eq_false_iff_ne]; exact hb0
    have HE : Hid (crtE c p mode data true = be ∧ crtC c p mode data true = s) := ⟨by unfold crtE; rw [HBE.out, if_neg hb0], by unfold crtC; rw [HBE.out, if_neg hb0]; exact HSS.out⟩
    clear hb0
    go_wp2_with fail
    go_ret
    exact ⟨by rw [HE.out.1]; rfl, by rw [HE.out.2]; exact HP1.out⟩

set_option maxRecDepth 100000 in
set_option maxHeartbeats 3200000 in
theorem writef_any (F M : Nat → Prop) (b : Nat) (c : CSt) (N : Nat) (p : List UInt8) (mode : Int) (dv : Value) (data : List UInt8) (G : Nat → Prop) (w : World) (h : FcAt F w b c M) (hr : CReady c N) (hdv : By G w dv data) (hG : ∀ k, G k → ¬ M k) (hp : p.length ≤ 1000000) :
    Calls Tryz.prog 43 #[.pointer (some ⟨b, 0, none⟩), .string (str p), .int .i64 mode, dv] w fun e w' => e = .returned (.int .i64 (crtE c p mode data false)) ∧ FcPost F M w b (crtC c p mode data false) w' := by
  have H := Lib.hid h
  have HR := Lib.hid hr
  have HDV := Lib.hid hdv
  have HG := Lib.hid hG
  obtain ⟨dA, dc, rfl, _, _⟩ := hdv.slice
  obtain ⟨dl, hdl⟩ : ∃ dl, data.length = dl := ⟨_, rfl⟩
  have HDL := Lib.hid hdl
  rw [hdl]
  clear hdv hG hdl
  obtain ⟨be, hbe⟩ : ∃ be, bgE c = be := ⟨_, rfl⟩
  have HBE := Lib.hid hbe
  obtain ⟨rm, hrm⟩ : ∃ rm, (bgC c).room = rm := ⟨_, rfl⟩
  have HRM := Lib.hid hrm
  obtain ⟨s, hs⟩ : ∃ s, (bgC c).c = s := ⟨_, rfl⟩
  have HSS := Lib.hid hs
  have HSM := Lib.hid hr.small
  clear h hr hbe hrm hs
  go_enter Tryz.func43, Tryz.ntmps43
  go_wp2_with fail
  refine (begin_any F M b c N _ H.out HR.out.fits HR.out.big HR.out.calls HR.out.paths).mono ?_
  rintro e w1 ⟨rfl, hpost⟩
  rw [HBE.out, HRM.out]
  rw [HSS.out] at hpost HSM
  have HP1 := Lib.hid hpost
  obtain ⟨M1, hat, hon, hsub⟩ := hpost
  have HAT := Lib.hid hat
  have HON := Lib.hid hon
  have HSUB := Lib.hid hsub
  clear hat hon hsub
  have HD1 : Hid (SlV w1 (.slice dA dl dc) (data.map bv)) := by
    have h1 := HDV.out.only HON.out HG.out
    rw [← HDL.out]
    exact Rd.slv (by rw [List.length_map]; exact h1)
  by_cases hb0 : be = 0
  · subst hb0
    have HE : Hid (crtE c p mode data false = wrE s p mode data rm false ∧ crtC c p mode data false = wrC s p mode data rm false) := ⟨by unfold crtE; rw [if_pos HBE.out, HSS.out, HRM.out], by unfold crtC; rw [if_pos HBE.out, HSS.out, HRM.out]⟩
    go_wp2_with fail
    refine (write_any _ M1 b s p mode (.slice dA dl dc) data rm false w1 HAT.out HSM.out HD1.out hp).mono ?_
    rintro e w2 ⟨rfl, hp2⟩
    have HP2 := Lib.hid (FcPost.trans HON.out HSUB.out hp2)
    clear hp2
    go_wp2_with fail
    go_ret
    exact ⟨by rw [HE.out.1]; rfl, by rw [HE.out.2]; exact HP2.out⟩
  · have e1 : (be == 0) = false := by rw [beq_eq_false_iff_ne]; exact hb0
    have HE : Hid (crtE c p mode data false = be ∧ crtC c p mode data false = s) := ⟨by unfold crtE; rw [HBE.out, if_neg hb0], by unfold crtC; rw [HBE.out, if_neg hb0]; exact HSS.out⟩
    clear hb0
    go_wp2_with fail
    go_ret
    exact ⟨by rw [HE.out.1]; rfl, by rw [HE.out.2]; exact HP1.out⟩

set_option maxRecDepth 100000 in
set_option maxHeartbeats 3200000 in
theorem movef_any (F M : Nat → Prop) (b : Nat) (c : CSt) (N : Nat) (fr tt : List UInt8) (w : World) (h : FcAt F w b c M) (hr : CReady c N) (hf : fr.length ≤ 1000000) (ht : tt.length ≤ 1000000) :
    Calls Tryz.prog 41 #[.pointer (some ⟨b, 0, none⟩), .string (str fr), .string (str tt)] w fun e w' => e = .returned (.int .i64 (movE c fr tt false)) ∧ FcPost F M w b (movC c fr tt false) w' := by
  have H := Lib.hid h
  have HR := Lib.hid hr
  obtain ⟨be, hbe⟩ : ∃ be, bgE c = be := ⟨_, rfl⟩
  have HBE := Lib.hid hbe
  obtain ⟨rm, hrm⟩ : ∃ rm, (bgC c).room = rm := ⟨_, rfl⟩
  have HRM := Lib.hid hrm
  obtain ⟨s, hs⟩ : ∃ s, (bgC c).c = s := ⟨_, rfl⟩
  have HSS := Lib.hid hs
  have HSM := Lib.hid hr.small
  clear h hr hbe hrm hs
  go_enter Tryz.func41, Tryz.ntmps41
  go_wp2_with fail
  refine (begin_any F M b c N _ H.out HR.out.fits HR.out.big HR.out.calls HR.out.paths).mono ?_
  rintro e w1 ⟨rfl, hpost⟩
  rw [HBE.out, HRM.out]
  rw [HSS.out] at hpost HSM
  have HP1 := Lib.hid hpost
  obtain ⟨M1, hat, hon, hsub⟩ := hpost
  have HAT := Lib.hid hat
  have HON := Lib.hid hon
  have HSUB := Lib.hid hsub
  clear hat hon hsub
  by_cases hb0 : be = 0
  · subst hb0
    have HE : Hid (movE c fr tt false = mvE s fr tt false ∧ movC c fr tt false = mvC s fr tt false) := ⟨by unfold movE; rw [if_pos HBE.out, HSS.out], by unfold movC; rw [if_pos HBE.out, HSS.out]⟩
    go_wp2_with fail
    refine (move_any _ M1 b s fr tt false w1 HAT.out HSM.out hf ht).mono ?_
    rintro e w2 ⟨rfl, hp2⟩
    have HP2 := Lib.hid (FcPost.trans HON.out HSUB.out hp2)
    clear hp2
    go_wp2_with fail
    go_ret
    exact ⟨by rw [HE.out.1]; rfl, by rw [HE.out.2]; exact HP2.out⟩
  · have e1 : (be == 0) = false := by rw [beq_eq_false_iff_ne]; exact hb0
    have HE : Hid (movE c fr tt false = be ∧ movC c fr tt false = s) := ⟨by unfold movE; rw [HBE.out, if_neg hb0], by unfold movC; rw [HBE.out, if_neg hb0]; exact HSS.out⟩
    clear hb0
    go_wp2_with fail
    go_ret
    exact ⟨by rw [HE.out.1]; rfl, by rw [HE.out.2]; exact HP1.out⟩

set_option maxRecDepth 100000 in
set_option maxHeartbeats 3200000 in
theorem movenew_any (F M : Nat → Prop) (b : Nat) (c : CSt) (N : Nat) (fr tt : List UInt8) (w : World) (h : FcAt F w b c M) (hr : CReady c N) (hf : fr.length ≤ 1000000) (ht : tt.length ≤ 1000000) :
    Calls Tryz.prog 40 #[.pointer (some ⟨b, 0, none⟩), .string (str fr), .string (str tt)] w fun e w' => e = .returned (.int .i64 (movE c fr tt true)) ∧ FcPost F M w b (movC c fr tt true) w' := by
  have H := Lib.hid h
  have HR := Lib.hid hr
  obtain ⟨be, hbe⟩ : ∃ be, bgE c = be := ⟨_, rfl⟩
  have HBE := Lib.hid hbe
  obtain ⟨rm, hrm⟩ : ∃ rm, (bgC c).room = rm := ⟨_, rfl⟩
  have HRM := Lib.hid hrm
  obtain ⟨s, hs⟩ : ∃ s, (bgC c).c = s := ⟨_, rfl⟩
  have HSS := Lib.hid hs
  have HSM := Lib.hid hr.small
  clear h hr hbe hrm hs
  go_enter Tryz.func40, Tryz.ntmps40
  go_wp2_with fail
  refine (begin_any F M b c N _ H.out HR.out.fits HR.out.big HR.out.calls HR.out.paths).mono ?_
  rintro e w1 ⟨rfl, hpost⟩
  rw [HBE.out, HRM.out]
  rw [HSS.out] at hpost HSM
  have HP1 := Lib.hid hpost
  obtain ⟨M1, hat, hon, hsub⟩ := hpost
  have HAT := Lib.hid hat
  have HON := Lib.hid hon
  have HSUB := Lib.hid hsub
  clear hat hon hsub
  by_cases hb0 : be = 0
  · subst hb0
    have HE : Hid (movE c fr tt true = mvE s fr tt true ∧ movC c fr tt true = mvC s fr tt true) := ⟨by unfold movE; rw [if_pos HBE.out, HSS.out], by unfold movC; rw [if_pos HBE.out, HSS.out]⟩
    go_wp2_with fail
    refine (move_any _ M1 b s fr tt true w1 HAT.out HSM.out hf ht).mono ?_
    rintro e w2 ⟨rfl, hp2⟩
    have HP2 := Lib.hid (FcPost.trans HON.out HSUB.out hp2)
    clear hp2
    go_wp2_with fail
    go_ret
    exact ⟨by rw [HE.out.1]; rfl, by rw [HE.out.2]; exact HP2.out⟩
  · have e1 : (be == 0) = false := by rw [beq_eq_false_iff_ne]; exact hb0
    have HE : Hid (movE c fr tt true = be ∧ movC c fr tt true = s) := ⟨by unfold movE; rw [HBE.out, if_neg hb0], by unfold movC; rw [HBE.out, if_neg hb0]; exact HSS.out⟩
    clear hb0
    go_wp2_with fail
    go_ret
    exact ⟨by rw [HE.out.1]; rfl, by rw [HE.out.2]; exact HP1.out⟩

set_option maxRecDepth 100000 in
set_option maxHeartbeats 3200000 in
theorem removef_any (F M : Nat → Prop) (b : Nat) (c : CSt) (N : Nat) (p : List UInt8) (w : World) (h : FcAt F w b c M) (hr : CReady c N) (hp : p.length ≤ 1000000) :
    Calls Tryz.prog 80 #[.pointer (some ⟨b, 0, none⟩), .string (str p)] w fun e w' => e = .returned (.int .i64 (remE c p)) ∧ FcPost F M w b (remC c p) w' := by
  have H := Lib.hid h
  have HR := Lib.hid hr
  obtain ⟨be, hbe⟩ : ∃ be, bgE c = be := ⟨_, rfl⟩
  have HBE := Lib.hid hbe
  obtain ⟨rm, hrm⟩ : ∃ rm, (bgC c).room = rm := ⟨_, rfl⟩
  have HRM := Lib.hid hrm
  obtain ⟨s, hs⟩ : ∃ s, (bgC c).c = s := ⟨_, rfl⟩
  have HSS := Lib.hid hs
  have HSM := Lib.hid hr.small
  clear h hr hbe hrm hs
  go_enter Tryz.func80, Tryz.ntmps80
  go_wp2_with fail
  refine (begin_any F M b c N _ H.out HR.out.fits HR.out.big HR.out.calls HR.out.paths).mono ?_
  rintro e w1 ⟨rfl, hpost⟩
  rw [HBE.out, HRM.out]
  rw [HSS.out] at hpost HSM
  have HP1 := Lib.hid hpost
  obtain ⟨M1, hat, hon, hsub⟩ := hpost
  have HAT := Lib.hid hat
  have HON := Lib.hid hon
  have HSUB := Lib.hid hsub
  clear hat hon hsub
  by_cases hb0 : be = 0
  · subst hb0
    have HE : Hid (remE c p = rmE s p ∧ remC c p = rmC s p) := ⟨by unfold remE; rw [if_pos HBE.out, HSS.out], by unfold remC; rw [if_pos HBE.out, HSS.out]⟩
    go_wp2_with fail
    refine (remove_any _ M1 b s p w1 HAT.out HSM.out hp).mono ?_
    rintro e w2 ⟨rfl, hp2⟩
    have HP2 := Lib.hid (FcPost.trans HON.out HSUB.out hp2)
    clear hp2
    go_wp2_with fail
    go_ret
    exact ⟨by rw [HE.out.1]; rfl, by rw [HE.out.2]; exact HP2.out⟩
  · have e1 : (be == 0) = false := by rw [beq_eq_false_iff_ne]; exact hb0
    have HE : Hid (remE c p = be ∧ remC c p = s) := ⟨by unfold remE; rw [HBE.out, if_neg hb0], by unfold remC; rw [HBE.out, if_neg hb0]; exact HSS.out⟩
    clear hb0
    go_wp2_with fail
    go_ret
    exact ⟨by rw [HE.out.1]; rfl, by rw [HE.out.2]; exact HP1.out⟩

set_option maxRecDepth 100000 in
set_option maxHeartbeats 3200000 in
theorem syncf_any (F M : Nat → Prop) (b : Nat) (c : CSt) (N : Nat) (w : World) (h : FcAt F w b c M) (hr : CReady c N) :
    Calls Tryz.prog 33 #[.pointer (some ⟨b, 0, none⟩)] w fun e w' => e = .returned (.int .i64 (bgE c)) ∧ FcPost F M w b (synC c) w' := by
  have H := Lib.hid h
  have HR := Lib.hid hr
  obtain ⟨be, hbe⟩ : ∃ be, bgE c = be := ⟨_, rfl⟩
  have HBE := Lib.hid hbe
  obtain ⟨rm, hrm⟩ : ∃ rm, (bgC c).room = rm := ⟨_, rfl⟩
  have HRM := Lib.hid hrm
  obtain ⟨s, hs⟩ : ∃ s, (bgC c).c = s := ⟨_, rfl⟩
  have HSS := Lib.hid hs
  have HSM := Lib.hid hr.small
  clear h hr hbe hrm hs
  go_enter Tryz.func33, Tryz.ntmps33
  go_wp2_with fail
  refine (begin_any F M b c N _ H.out HR.out.fits HR.out.big HR.out.calls HR.out.paths).mono ?_
  rintro e w1 ⟨rfl, hpost⟩
  rw [HBE.out, HRM.out]
  rw [HSS.out] at hpost HSM
  have HP1 := Lib.hid hpost
  obtain ⟨M1, hat, hon, hsub⟩ := hpost
  have HAT := Lib.hid hat
  have HON := Lib.hid hon
  have HSUB := Lib.hid hsub
  clear hat hon hsub
  by_cases hb0 : be = 0
  · subst hb0
    have HE : Hid (bgE c = 0 ∧ synC c = settleC s) := ⟨HBE.out, by unfold synC; rw [if_pos HBE.out, HSS.out]⟩
    go_wp2_with fail
    refine (settle_any _ M1 b s w1 HAT.out HSM.out).mono ?_
    rintro e w2 ⟨rfl, hp2⟩
    have HP2 := Lib.hid (FcPost.trans HON.out HSUB.out hp2)
    clear hp2
    go_wp2_with fail
    go_ret
    exact ⟨by rw [HE.out.1]; rfl, by rw [HE.out.2]; exact HP2.out⟩
  · have e1 : (be == 0) = false := by rw [beq_eq_false_iff_ne]; exact hb0
    have HE : Hid (bgE c = be ∧ synC c = s) := ⟨HBE.out, by unfold synC; rw [HBE.out, if_neg hb0]; exact HSS.out⟩
    clear hb0
    go_wp2_with fail
    go_ret
    exact ⟨by rw [HE.out.1]; rfl, by rw [HE.out.2]; exact HP1.out⟩
end Go.Proofs.YtaccejlalomaaaaGreat.Tx
