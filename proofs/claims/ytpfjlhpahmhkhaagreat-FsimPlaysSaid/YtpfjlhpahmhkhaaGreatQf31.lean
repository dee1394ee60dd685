/- Texts put together: WGs14, WGs15, WGs16. -/
import Derived.Test.YtpfjlhpahmhkhaaGreatQf30
/- Package fsim: Create, Write, Move, MoveNew, Remove, Sync. -/
namespace Go.Proofs.YtpfjlhpahmhkhaaGreat.Tx
open Go.RowKit Go.Maps Go.Proofs.YtpfjlhpahmhkhaaGreat.Sh

/-- Ready for a call. -/
structure CReady (c : CSt) (N : Nat) : Prop where
  fits : CFits c N
  big : N + 2 * c.plan.length ≤ 600000
  calls : 0 ≤ c.calls ∧ c.calls ≤ 4000000000000
  paths : ∀ e ∈ c.plan, e.path.length ≤ 1000000
theorem CReady.begun {c : CSt} {N : Nat} (h : CReady c N) : CFits (bgC c).c (N + 2 * c.plan.length) := by
  have h1 := bgN_le c
  exact (h.fits.bg (bgN c) h1).more (by omega)
theorem CReady.small {c : CSt} {N : Nat} (h : CReady c N) : CSmall (bgC c).c := h.begun.small (by have := h.big; omega)
def crtE (c : CSt) (p : List UInt8) (mode : Int) (data : List UInt8) (create : Bool) : Int := if bgE c = 0 then wrE (bgC c).c p mode data (bgC c).room create else bgE c
def crtC (c : CSt) (p : List UInt8) (mode : Int) (data : List UInt8) (create : Bool) : CSt := if bgE c = 0 then wrC (bgC c).c p mode data (bgC c).room create else (bgC c).c
def movE (c : CSt) (fr tt : List UInt8) (create : Bool) : Int := if bgE c = 0 then mvE (bgC c).c fr tt create else bgE c
def movC (c : CSt) (fr tt : List UInt8) (create : Bool) : CSt := if bgE c = 0 then mvC (bgC c).c fr tt create else (bgC c).c
def remE (c : CSt) (p : List UInt8) : Int := if bgE c = 0 then rmE (bgC c).c p else bgE c
def remC (c : CSt) (p : List UInt8) : CSt := if bgE c = 0 then rmC (bgC c).c p else (bgC c).c
def synC (c : CSt) : CSt := if bgE c = 0 then settleC (bgC c).c else (bgC c).c

set_option maxRecDepth 100000 in
set_option maxHeartbeats 3200000 in
theorem create_any (F M : Nat → Prop) (b : Nat) (c : CSt) (N : Nat) (p : List UInt8) (mode : Int) (dv : Value) (data : List UInt8) (G : Nat → Prop) (w : World) (h : FcAt F w b c M) (hr : CReady c N) (hdv : By G w dv data) (hG : ∀ k, G k → ¬ M k) (hp : p.length ≤ 1000000) :
    Calls Tryz.prog 59 #[.pointer (some ⟨b, 0, none⟩), .string (str p), .int .i64 mode, dv] w fun e w' => e = .returned (.int .i64 (crtE c p mode data true)) ∧ FcPost F M w b (crtC c p mode data true) w' := by
  have H := Lib.hid h
  have HR := Lib.hid hr
  have HDV := Lib.hid hdv
  have HG := Lib.hid hG
  obtain ⟨dA, dc, rfl, _, _⟩ := hdv.slice
  obtain ⟨dl, hdl⟩ : ∃ dl, data.length = dl := ⟨_, rfl⟩
  have HDL := Lib.hid hdl
  rw [hdl]
  clear hdv hG hdl
  obtain ⟨be, hbe⟩ : ∃ be, bgE c = be := ⟨_, rfl⟩
  have HBE := Lib.hid hbe
  obtain ⟨rm, hrm⟩ : ∃ rm, (bgC c).room = rm := ⟨_, rfl⟩
  have HRM := Lib.hid hrm
  obtain ⟨s, hs⟩ : ∃ s, (bgC c).c = s := ⟨_, rfl⟩
  have HSS := Lib.hid hs
  have HSM := Lib.hid hr.small
  clear h hr hbe hrm hs
  go_enter Tryz.func59, Tryz.ntmps59
  go_wp2_with fail
  refine (begin_any F M b c N _ H.out HR.out.fits HR.out.big HR.out.calls HR.out.paths).mono ?_
  rintro e w1 ⟨rfl, hpost⟩
  rw [HBE.out, HRM.out]
  rw [HSS.out] at hpost HSM
  have HP1 := Lib.hid hpost
  obtain ⟨M1, hat, hon, hsub⟩ := hpost
  have HAT := Lib.hid hat
  have HON := Lib.hid hon
  have HSUB := Lib.hid hsub
  clear hat hon hsub
  have HD1 : Hid (SlV w1 (.slice dA dl dc) (data.map bv)) := by
    have h1 := HDV.out.only HON.out HG.out
    rw [← HDL.out]
    exact Rd.slv (by rw [List.length_map]; exact h1)
  by_cases hb0 : be = 0
  · subst hb0
    have HE : Hid (crtE c p mode data true = wrE s p mode data rm true ∧ crtC c p mode data true = wrC s p mode data rm true) := ⟨by unfold crtE; rw [if_pos HBE.out, HSS.out, HRM.out], by unfold crtC; rw [if_pos HBE.out, HSS.out, HRM.out]⟩
    go_wp2_with fail
    refine (write_any _ M1 b s p mode (.slice dA dl dc) data rm true w1 HAT.out HSM.out HD1.out hp).mono ?_
    rintro e w2 ⟨rfl, hp2⟩
    have HP2 := Lib.hid (FcPost.trans HON.out HSUB.out hp2)
    clear hp2
    go_wp2_with fail
    go_ret
    exact ⟨by rw [HE.out.1]; rfl, by rw [HE.out.2]; exact HP2.out⟩
  · have e1 : (be == 0) = false := by rw [beq_eq_false_iff_ne]; exact hb0
    have HE : Hid (crtE c p mode data true = be ∧ crtC c p mode data true = s) := ⟨by unfold crtE; rw [HBE.out, if_neg hb0], by unfold crtC; rw [HBE.out, if_neg hb0]; exact HSS.out⟩
    clear hb0
    go_wp2_with fail
    go_ret
    exact ⟨by rw [HE.out.1]; rfl, by rw [HE.out.2]; exact HP1.out⟩

set_option maxRecDepth 100000 in
set_option maxHeartbeats 3200000 in
theorem writef_any (F M : Nat → Prop) (b : Nat) (c : CSt) (N : Nat) (p : List UInt8) (mode : Int) (dv : Value) (data : List UInt8) (G : Nat → Prop) (w : World) (h : FcAt F w b c M) (hr : CReady c N) (hdv : By G w dv data) (hG : ∀ k, G k → ¬ M k) (hp : p.length ≤ 1000000) :
    Calls Tryz.prog 61 #[.pointer (some ⟨b, 0, none⟩), .string (str p), .int .i64 mode, dv] w fun e w' => e = .returned (.int .i64 (crtE c p mode data false)) ∧ FcPost F M w b (crtC c p mode data false) w' := by
  have H := Lib.hid h
  have HR := Lib.hid hr
  have HDV := Lib.hid hdv
  have HG := Lib.hid hG
  obtain ⟨dA, dc, rfl, _, _⟩ := hdv.slice
  obtain ⟨dl, hdl⟩ : ∃ dl, data.length = dl := ⟨_, rfl⟩
  have HDL := Lib.hid hdl
  rw [hdl]
  clear hdv hG hdl
  obtain ⟨be, hbe⟩ : ∃ be, bgE c = be := ⟨_, rfl⟩
  have HBE := Lib.hid hbe
  obtain ⟨rm, hrm⟩ : ∃ rm, (bgC c).room = rm := ⟨_, rfl⟩
  have HRM := Lib.hid hrm
  obtain ⟨s, hs⟩ : ∃ s, (bgC c).c = s := ⟨_, rfl⟩
  have HSS := Lib.hid hs
  have HSM := Lib.hid hr.small
  clear h hr hbe hrm hs
  go_enter Tryz.func61, Tryz.ntmps61
  go_wp2_with fail
  refine (begin_any F M b c N _ H.out HR.out.fits HR.out.big HR.out.calls HR.out.paths).mono ?_
  rintro e w1 ⟨rfl, hpost⟩
  rw [HBE.out, HRM.out]
  rw [HSS.out] at hpost HSM
  have HP1 := Lib.hid hpost
  obtain ⟨M1, hat, hon, hsub⟩ := hpost
  have HAT := Lib.hid hat
  have HON := Lib.hid hon
  have HSUB := Lib.hid hsub
  clear hat hon hsub
  have HD1 : Hid (SlV w1 (.slice dA dl dc) (data.map bv)) := by
    have h1 := HDV.out.only HON.out HG.out
    rw [← HDL.out]
    exact Rd.slv (by rw [List.length_map]; exact h1)
  by_cases hb0 : be = 0
  · subst hb0
    have HE : Hid (crtE c p mode data false = wrE s p mode data rm false ∧ crtC c p mode data false = wrC s p mode data rm false) := ⟨by unfold crtE; rw [if_pos HBE.out, HSS.out, HRM.out], by unfold crtC; rw [if_pos HBE.out, HSS.out, HRM.out]⟩
    go_wp2_with fail
    refine (write_any _ M1 b s p mode (.slice dA dl dc) data rm false w1 HAT.out HSM.out HD1.out hp).mono ?_
    rintro e w2 ⟨rfl, hp2⟩
    have HP2 := Lib.hid (FcPost.trans HON.out HSUB.out hp2)
    clear hp2
    go_wp2_with fail
    go_ret
    exact ⟨by rw [HE.out.1]; rfl, by rw [HE.out.2]; exact HP2.out⟩
  · have e1 : (be == 0) = false := by rw [beq_eq_false_iff_ne]; exact hb0
    have HE : Hid (crtE c p mode data false = be ∧ crtC c p mode data false = s) := ⟨by unfold crtE; rw [HBE.out, if_neg hb0], by unfold crtC; rw [HBE.out, if_neg hb0]; exact HSS.out⟩
    clear hb0
    go_wp2_with fail
    go_ret
    exact ⟨by rw [HE.out.1]; rfl, by rw [HE.out.2]; exact HP1.out⟩

set_option maxRecDepth 100000 in
set_option maxHeartbeats 3200000 in
theorem movef_any (F M : Nat → Prop) (b : Nat) (c : CSt) (N : Nat) (fr tt : List UInt8) (w : World) (h : FcAt F w b c M) (hr : CReady c N) (hf : fr.length ≤ 1000000) (ht : tt.length ≤ 1000000) :
    Calls Tryz.prog 78 #[.pointer (some ⟨b, 0, none⟩), .string (str fr), .string (str tt)] w fun e w' => e = .returned (.int .i64 (movE c fr tt false)) ∧ FcPost F M w b (movC c fr tt false) w' := by
  have H := Lib.hid h
  have HR := Lib.hid hr
  obtain ⟨be, hbe⟩ : ∃ be, bgE c = be := ⟨_, rfl⟩
  have HBE := Lib.hid hbe
  obtain ⟨rm, hrm⟩ : ∃ rm, (bgC c).room = rm := ⟨_, rfl⟩
  have HRM := Lib.hid hrm
  obtain ⟨s, hs⟩ : ∃ s, (bgC c).c = s := ⟨_, rfl⟩
  have HSS := Lib.hid hs
  have HSM := Lib.hid hr.small
  clear h hr hbe hrm hs
  go_enter Tryz.func78, Tryz.ntmps78
  go_wp2_with fail
  refine (begin_any F M b c N _ H.out HR.out.fits HR.out.big HR.out.calls HR.out.paths).mono ?_
  rintro e w1 ⟨rfl, hpost⟩
  rw [HBE.out, HRM.out]
  rw [HSS.out] at hpost HSM
  have HP1 := Lib.hid hpost
  obtain ⟨M1, hat, hon, hsub⟩ := hpost
  have HAT := Lib.hid hat
  have HON := Lib.hid hon
  have HSUB := Lib.hid hsub
  clear hat hon hsub
  by_cases hb0 : be = 0
  · subst hb0
    have HE : Hid (movE c fr tt false = mvE s fr tt false ∧ movC c fr tt false = mvC s fr tt false) := ⟨by unfold movE; rw [if_pos HBE.out, HSS.out], by unfold movC; rw [if_pos HBE.out, HSS.out]⟩
    go_wp2_with fail
    refine (move_any _ M1 b s fr tt false w1 HAT.out HSM.out hf ht).mono ?_
    rintro e w2 ⟨rfl, hp2⟩
    have HP2 := Lib.hid (FcPost.trans HON.out HSUB.out hp2)
    clear hp2
    go_wp2_with fail
    go_ret
    exact ⟨by rw [HE.out.1]; rfl, by rw [HE.out.2]; exact HP2.out⟩
  · have e1 : (be == 0) = false := by rw [beq_eq_false_iff_ne]; exact hb0
    have HE : Hid (movE c fr tt false = be ∧ movC c fr tt false = s) := ⟨by unfold movE; rw [HBE.out, if_neg hb0], by unfold movC; rw [HBE.out, if_neg hb0]; exact HSS.out⟩
    clear hb0
    go_wp2_with fail
    go_ret
    exact ⟨by rw [HE.out.1]; rfl, by rw [HE.out.2]; exact HP1.out⟩

set_option maxRecDepth 100000 in
set_option maxHeartbeats 3200000 in
theorem movenew_any (F M : Nat → Prop) (b : Nat) (c : CSt) (N : Nat) (fr tt : List UInt8) (w : World) (h : FcAt F w b c M) (hr : CReady c N) (hf : fr.length ≤ 1000000) (ht : tt.length ≤ 1000000) :
    Calls Tryz.prog 80 #[.pointer (some ⟨b, 0, none⟩), .string (str fr), .string (str tt)] w fun e w' => e = .returned (.int .i64 (movE c fr tt true)) ∧ FcPost F M w b (movC c fr tt true) w' := by
  have H := Lib.hid h
  have HR := Lib.hid hr
  obtain ⟨be, hbe⟩ : ∃ be, bgE c = be := ⟨_, rfl⟩
  have HBE := Lib.hid hbe
  obtain ⟨rm, hrm⟩ : ∃ rm, (bgC c).room = rm := ⟨_, rfl⟩
  have HRM := Lib.hid hrm
  obtain ⟨s, hs⟩ : ∃ s, (bgC c).c = s := ⟨_, rfl⟩
  have HSS := Lib.hid hs
  have HSM := Lib.hid hr.small
  clear h hr hbe hrm hs
  go_enter Tryz.func80, Tryz.ntmps80
  go_wp2_with fail
  refine (begin_any F M b c N _ H.out HR.out.fits HR.out.big HR.out.calls HR.out.paths).mono ?_
  rintro e w1 ⟨rfl, hpost⟩
  rw [HBE.out, HRM.out]
  rw [HSS.out] at hpost HSM
  have HP1 := Lib.hid hpost
  obtain ⟨M1, hat, hon, hsub⟩ := hpost
  have HAT := Lib.hid hat
  have HON := Lib.hid hon
  have HSUB := Lib.hid hsub
  clear hat hon hsub
  by_cases hb0 : be = 0
  · subst hb0
    have HE : Hid (movE c fr tt true = mvE s fr tt true ∧ movC c fr tt true = mvC s fr tt true) := ⟨by unfold movE; rw [if_pos HBE.out, HSS.out], by unfold movC; rw [if_pos HBE.out, HSS.out]⟩
    go_wp2_with fail
    refine (move_any _ M1 b s fr tt true w1 HAT.out HSM.out hf ht).mono ?_
    rintro e w2 ⟨rfl, hp2⟩
    have HP2 := Lib.hid (FcPost.trans HON.out HSUB.out hp2)
    clear hp2
    go_wp2_with fail
    go_ret
    exact ⟨by rw [HE.out.1]; rfl, by rw [HE.out.2]; exact HP2.out⟩
  · have e1 : (be == 0) = false := by rw [beq_eq_false_iff_ne]; exact hb0
    have HE : Hid (movE c fr tt true = be ∧ movC c fr tt true = s) := ⟨by unfold movE; rw [HBE.out, if_neg hb0], by unfold movC; rw [HBE.out, if_neg hb0]; exact HSS.out⟩
    clear hb0
    go_wp2_with fail
    go_ret
    exact ⟨by rw [HE.out.1]; rfl, by rw [HE.out.2]; exact HP1.out⟩

set_option maxRecDepth 100000 in
set_option maxHeartbeats 3200000 in
theorem removef_any (F M : Nat → Prop) (b : Nat) (c : CSt) (N : Nat) (p : List UInt8) (w : World) (h : FcAt F w b c M) (hr : CReady c N) (hp : p.length ≤ 1000000) :
    Calls Tryz.prog 82 #[.pointer (some ⟨b, 0, none⟩), .string (str p)] w fun e w' => e = .returned (.int .i64 (remE c p)) ∧ FcPost F M w b (remC c p) w' := by
  have H := Lib.hid h
  have HR := Lib.hid hr
  obtain ⟨be, hbe⟩ : ∃ be, bgE c = be := ⟨_, rfl⟩
  have HBE := Lib.hid hbe
  obtain ⟨rm, hrm⟩ : ∃ rm, (bgC c).room = rm := ⟨_, rfl⟩
  have HRM := Lib.hid hrm
  obtain ⟨s, hs⟩ : ∃ s, (bgC c).c = s := ⟨_, rfl⟩
  have HSS := Lib.hid hs
  have HSM := Lib.hid hr.small
  clear h hr hbe hrm hs
  go_enter Tryz.func82, Tryz.ntmps82
  go_wp2_with fail
  refine (begin_any F M b c N _ H.out HR.out.fits HR.out.big HR.out.calls HR.out.paths).mono ?_
  rintro e w1 ⟨rfl, hpost⟩
  rw [HBE.out, HRM.out]
  rw [HSS.out] at hpost HSM
  have HP1 := Lib.hid hpost
  obtain ⟨M1, hat, hon, hsub⟩ := hpost
  have HAT := Lib.hid hat
  have HON := Lib.hid hon
  have HSUB := Lib.hid hsub
  clear hat hon hsub
  by_cases hb0 : be = 0
  · subst hb0
    have HE : Hid (remE c p = rmE s p ∧ remC c p = rmC s p) := ⟨by unfold remE; rw [if_pos HBE.out, HSS.out], by unfold remC; rw [if_pos HBE.out, HSS.out]⟩
    go_wp2_with fail
    refine (remove_any _ M1 b s p w1 HAT.out HSM.out hp).mono ?_
    rintro e w2 ⟨rfl, hp2⟩
    have HP2 := Lib.hid (FcPost.trans HON.out HSUB.out hp2)
    clear hp2
    go_wp2_with fail
    go_ret
    exact ⟨by rw [HE.out.1]; rfl, by rw [HE.out.2]; exact HP2.out⟩
  · have e1 : (be == 0) = false := by rw [beq_eq_false_iff_ne]; exact hb0
    have HE : Hid (remE c p = be ∧ remC c p = s) := ⟨by unfold remE; rw [HBE.out, if_neg hb0], by unfold remC; rw [HBE.out, if_neg hb0]; exact HSS.out⟩
    clear hb0
    go_wp2_with fail
    go_ret
    exact ⟨by rw [HE.out.1]; rfl, by rw [HE.out.2]; exact HP1.out⟩

set_option maxRecDepth 100000 in
set_option maxHeartbeats 3200000 in
theorem syncf_any (F M : Nat → Prop) (b : Nat) (c : CSt) (N : Nat) (w : World) (h : FcAt F w b c M) (hr : CReady c N) :
    Calls Tryz.prog 60 #[.pointer (some ⟨b, 0, none⟩)] w fun e w' => e = .returned (.int .i64 (bgE c)) ∧ FcPost F M w b (synC c) w' := by
  have H := Lib.hid h
  have HR := Lib.hid hr
  obtain ⟨be, hbe⟩ : ∃ be, bgE c = be := ⟨_, rfl⟩
  have HBE := Lib.hid hbe
  obtain ⟨rm, hrm⟩ : ∃ rm, (bgC c).room = rm := ⟨_, rfl⟩
  have HRM := Lib.hid hrm
  obtain ⟨s, hs⟩ : ∃ s, (bgC c).c = s := ⟨_, rfl⟩
  have HSS := Lib.hid hs
  have HSM := Lib.hid hr.small
  clear h hr hbe hrm hs
  go_enter Tryz.func60, Tryz.ntmps60
  go_wp2_with fail
  refine (begin_any F M b c N _ H.out HR.out.fits HR.out.big HR.out.calls HR.out.paths).mono ?_
  rintro e w1 ⟨rfl, hpost⟩
  rw [HBE.out, HRM.out]
  rw [HSS.out] at hpost HSM
  have HP1 := Lib.hid hpost
  obtain ⟨M1, hat, hon, hsub⟩ := hpost
  have HAT := Lib.hid hat
  have HON := Lib.hid hon
  have HSUB := Lib.hid hsub
  clear hat hon hsub
  by_cases hb0 : be = 0
  · subst hb0
    have HE : Hid (bgE c = 0 ∧ synC c = settleC s) := ⟨HBE.out, by unfold synC; rw [if_pos HBE.out, HSS.out]⟩
    go_wp2_with fail
    refine (settle_any _ M1 b s w1 HAT.out HSM.out).mono ?_
    rintro e w2 ⟨rfl, hp2⟩
    have HP2 := Lib.hid (FcPost.trans HON.out HSUB.out hp2)
    clear hp2
    go_wp2_with fail
    go_ret
    exact ⟨by rw [HE.out.1]; rfl, by rw [HE.out.2]; exact HP2.out⟩
  · have e1 : (be == 0) = false := by rw [beq_eq_false_iff_ne]; exact hb0
    have HE : Hid (bgE c = be ∧ synC c = s) := ⟨HBE.out, by unfold synC; rw [HBE.out, if_neg hb0]; exact HSS.out⟩
    clear hb0
    go_wp2_with fail
    go_ret
    exact ⟨by rw [HE.out.1]; rfl, by rw [HE.out.2]; exact HP1.out⟩
end Go.Proofs.YtpfjlhpahmhkhaaGreat.Tx
/- Package fsim: slices copied; events copied with their data; what users did. -/
namespace Go.Proofs.YtpfjlhpahmhkhaaGreat.Tx
open Go.RowKit Go.Maps Go.Proofs.YtpfjlhpahmhkhaaGreat.Sh

set_option maxRecDepth 100000 in
set_option maxHeartbeats 1600000 in
theorem evclone_any (F : Nat → Prop) (v : Value) (l : List EvM) (w : World) (h : EvsF F w v l) (hn : l.length ≤ 1000000) (hF : ∀ k, F k → k < w.heap.size) : Calls Tryz.prog 66 #[v] w fun e w' => ∃ v', e = .returned v' ∧ OwnL evK 143 F w' w.heap.size v' l ∧ Below w.heap.size w w' := by
  obtain ⟨A, c, rfl, hlc, hcm⟩ := evs_slice h
  have H := Lib.hid h
  obtain ⟨n, hnn⟩ : ∃ n, l.length = n := ⟨_, rfl⟩
  have HNN := Lib.hid hnn
  have hnil := fun (w : World) => Lib.run_eql_slice_nil (P := Tryz.prog) w 33 143 A n c 0 0 Tryz.underlying33
  rw [hnn] at hn ⊢
  rcases A with _ | ad
  · have hl0 : l = [] := by
      cases l with
      | nil => rfl
      | cons x r =>
        obtain ⟨ad, d, e, _⟩ := TmpL.at_ h 0 x rfl
        cases e
    subst hl0
    simp only [List.length_nil] at hnn
    subst hnn
    simp only [Option.isNone] at hnil
    clear h hlc hcm
    go_enter Tryz.func66, Tryz.ntmps66
    go_wp2_with fail
    go_ret
    exact ⟨_, rfl, OwnL.nil_ _ _ _ _ _, Below.refl _ _⟩
  · simp only [Option.isNone] at hnil
    have hown : OwnL evK 143 F (w.alloc (.cells #[] 143)) w.heap.size (.slice (some ⟨w.heap.size, 0, none⟩) 0 0) [] := OwnL.empty (Blk.new w 143 #[]) (Nat.le_refl _) (fun hk => by have := hF _ hk; omega)
    have htm : EvsF F (w.alloc (.cells #[] 143)) (.slice (some ad) n c) l := by
      have h1 := TmpL.alloc h (.cells #[] 143)
      rw [hnn] at h1
      exact h1
    have HOWN := Lib.hid hown
    have HTM := Lib.hid htm
    have s1 : Hid (([] : List EvM).length + l.length ≤ 2000000) := by unfold Hid; simp; omega
    have HFW : Hid (∀ k, F k → k < (w.alloc (.cells #[] 143)).heap.size) := fun k hk => by have := hF k hk; simp; omega
    have HZ : Hid (w.heap.size ≤ (w.alloc (.cells #[] 143)).heap.size) := by unfold Hid; simp
    clear h hlc hcm hown htm hF hnn
    go_enter Tryz.func66, Tryz.ntmps66
    go_wp2_with (at_builtin; refine list_appendL typed_fe (v := .slice (some ⟨w.heap.size, 0, none⟩) 0 0) (l := []) (ex := .slice (some ad) n c) (l2 := l) rfl (.tmp 5) (.tmp 6) rfl (by exact HOWN.out) (by exact HTM.out) rfl rfl (by exact s1.out) (by exact HZ.out) (by exact HFW.out) ?_; intro v3 w3 ho3 hg3 hk3; have HO := Lib.hid ho3; have HG := Lib.hid hg3; clear ho3 hg3 hk3)
    go_ret
    exact ⟨v3, rfl, HO.out, ((Below.refl _ _).alloc (Nat.le_refl _) _).grown HG.out (by simp) (fun j hj => by cases hj; exact Nat.le_refl _)⟩
abbrev ChsF (F : Nat → Prop) (w : World) (v : Value) (l : List ChM) : Prop := TmpL chK F w v l
theorem chs_slice {F : Nat → Prop} {w : World} {v : Value} {l : List ChM} (h : ChsF F w v l) : ∃ A c, v = .slice A l.length c ∧ l.length ≤ c ∧ c ≤ maxLen := h.slice
set_option maxRecDepth 100000 in
set_option maxHeartbeats 1600000 in
theorem chclone_any (F : Nat → Prop) (v : Value) (l : List ChM) (w : World) (h : ChsF F w v l) (hn : l.length ≤ 1000000) (hF : ∀ k, F k → k < w.heap.size) : Calls Tryz.prog 68 #[v] w fun e w' => ∃ v', e = .returned v' ∧ OwnL chK 146 F w' w.heap.size v' l ∧ Below w.heap.size w w' := by
  obtain ⟨A, c, rfl, hlc, hcm⟩ := chs_slice h
  have H := Lib.hid h
  obtain ⟨n, hnn⟩ : ∃ n, l.length = n := ⟨_, rfl⟩
  have HNN := Lib.hid hnn
  have hnil := fun (w : World) => Lib.run_eql_slice_nil (P := Tryz.prog) w 133 146 A n c 0 0 Tryz.underlying133
  rw [hnn] at hn ⊢
  rcases A with _ | ad
  · have hl0 : l = [] := by
      cases l with
      | nil => rfl
      | cons x r =>
        obtain ⟨ad, d, e, _⟩ := TmpL.at_ h 0 x rfl
        cases e
    subst hl0
    simp only [List.length_nil] at hnn
    subst hnn
    simp only [Option.isNone] at hnil
    clear h hlc hcm
    go_enter Tryz.func68, Tryz.ntmps68
    go_wp2_with fail
    go_ret
    exact ⟨_, rfl, OwnL.nil_ _ _ _ _ _, Below.refl _ _⟩
  · simp only [Option.isNone] at hnil
    have hown : OwnL chK 146 F (w.alloc (.cells #[] 146)) w.heap.size (.slice (some ⟨w.heap.size, 0, none⟩) 0 0) [] := OwnL.empty (Blk.new w 146 #[]) (Nat.le_refl _) (fun hk => by have := hF _ hk; omega)
    have htm : ChsF F (w.alloc (.cells #[] 146)) (.slice (some ad) n c) l := by
      have h1 := TmpL.alloc h (.cells #[] 146)
      rw [hnn] at h1
      exact h1
    have HOWN := Lib.hid hown
    have HTM := Lib.hid htm
    have s1 : Hid (([] : List ChM).length + l.length ≤ 2000000) := by unfold Hid; simp; omega
    have HFW : Hid (∀ k, F k → k < (w.alloc (.cells #[] 146)).heap.size) := fun k hk => by have := hF k hk; simp; omega
    have HZ : Hid (w.heap.size ≤ (w.alloc (.cells #[] 146)).heap.size) := by unfold Hid; simp
    clear h hlc hcm hown htm hF hnn
    go_enter Tryz.func68, Tryz.ntmps68
    go_wp2_with (at_builtin; refine list_appendL typed_ch (v := .slice (some ⟨w.heap.size, 0, none⟩) 0 0) (l := []) (ex := .slice (some ad) n c) (l2 := l) rfl (.tmp 5) (.tmp 6) rfl (by exact HOWN.out) (by exact HTM.out) rfl rfl (by exact s1.out) (by exact HZ.out) (by exact HFW.out) ?_; intro v3 w3 ho3 hg3 hk3; have HO := Lib.hid ho3; have HG := Lib.hid hg3; clear ho3 hg3 hk3)
    go_ret
    exact ⟨v3, rfl, HO.out, ((Below.refl _ _).alloc (Nat.le_refl _) _).grown HG.out (by simp) (fun j hj => by cases hj; exact Nat.le_refl _)⟩

/-- One cell of one's own row is set. -/
theorem own_setRow {w : World} {B T m n c g j : Nat} {xs : List Value} (h : w.ownsRow B T m (.slice (some ⟨g, 0, none⟩) n c) n xs) (u : Value) : (w.setCell ⟨g, j, none⟩ u).ownsRow B T m (.slice (some ⟨g, 0, none⟩) n c) n (xs.set j u) := by
  obtain ⟨g1, g2⟩ := h
  refine ⟨by rw [List.length_set]; exact g1, ?_⟩
  rcases g2 with ⟨e, _⟩ | ⟨g', cap, cur, e, hb, hg, h4, h5, h6, h7⟩
  · cases e
  · injection e with ea eb ec
    injection ea with ea
    injection ea with ea
    subst ea ec
    right
    refine ⟨g, c, cur.setIfInBounds j u, rfl, hb, (show Blk w g T cur from hg).set_ j u, h4, h5, by rw [Array.size_setIfInBounds]; exact h6, ?_⟩
    rw [Array.toList_setIfInBounds, List.take_set, h7]
theorem set_app7 (a b : List Value) (j : Nat) (d : Value) (h : a.length = 7) : (a ++ b).set (7 + j) d = a ++ b.set j d := by
  rw [List.set_append]
  rw [if_neg (by omega), h, Nat.add_sub_cancel_left]
theorem evC_set {l : List EvM} : ∀ {ds : List Value} {i : Nat} {d : Value}, ds.length = l.length → i < l.length → ShC evK l (ds.set i d) = (ShC evK l ds).set (i * 7 + 6) d := by
  induction l with
  | nil => intro ds i d _ hi; simp at hi
  | cons e l ih =>
    intro ds i d hd hi
    cases ds with
    | nil => simp at hd
    | cons d0 ds =>
      have hd' : ds.length = l.length := by simpa using hd
      cases i with
      | zero => rfl
      | succ i =>
        have h1 := ih (ds := ds) (i := i) (d := d) hd' (by simpa using hi)
        have h2 := set_app7 (evK.cells e d0) (ShC evK l ds) (i * 7 + 6) d rfl
        have h3 : (i + 1) * 7 + 6 = 7 + (i * 7 + 6) := by omega
        rw [h3]
        refine Eq.trans ?_ h2.symm
        rw [← h1]
        rfl
end Go.Proofs.YtpfjlhpahmhkhaaGreat.Tx
/- Package fsim: events copied with their data; what users did. -/
namespace Go.Proofs.YtpfjlhpahmhkhaaGreat.Tx
open Go.RowKit Go.Maps Go.Proofs.YtpfjlhpahmhkhaaGreat.Sh

/-- Events in a row of one's own: the first k have their data in N, the others in F. -/
def OwnC (F N : Nat → Prop) (k : Nat) (w : World) (B : Nat) (v : Value) (l : List EvM) : Prop :=
  ∃ ds, w.ownsRow B 143 7 v l.length (ShC evK l ds) ∧ ds.length = l.length ∧ ∀ (i : Nat) (d : Value) (e : EvM), ds[i]? = some d → l[i]? = some e → By (fun g => if i < k then N g else F g) w d e.data
theorem OwnC.start {F : Nat → Prop} {w : World} {B : Nat} {v : Value} {l : List EvM} (N : Nat → Prop) (h : OwnL evK 143 F w B v l) : OwnC F N 0 w B v l := by
  obtain ⟨⟨ds, h1, h2⟩, _⟩ := h
  refine ⟨ds, h1, h2.1.trans (List.length_map _), fun i d e hd he => ?_⟩
  have hb : (l.map evK.data)[i]? = some e.data := (List.getElem?_map (f := fun e : EvM => e.data) (l := l) (i := i)).trans (by rw [he]; rfl)
  exact (h2.2 i d e.data hd hb).mono (fun k _ hk => by rw [if_neg (by omega)]; exact hk)
theorem OwnC.only {F N : Nat → Prop} {k : Nat} {w w' : World} {B : Nat} {v : Value} {l : List EvM} (h : OwnC F N k w B v l) (hb : Below w.heap.size w w') : OwnC F N k w' B v l := by
  obtain ⟨ds, h1, h2, h3⟩ := h
  refine ⟨ds, ?_, h2, fun i d e hd he => (h3 i d e hd he).only (Only.of_below (M := fun _ => False) hb) (fun _ _ => id)⟩
  refine ⟨h1.1, h1.2.imp id fun ⟨g, cap, cur, a1, a2, a3, a4⟩ => ⟨g, cap, cur, a1, a2, ?_, a4⟩⟩
  exact (hb.block g (Array.getElem?_eq_some_iff.1 a3).1).trans a3
theorem OwnC.at_ {F N : Nat → Prop} {k : Nat} {w : World} {B : Nat} {v : Value} {l : List EvM} (h : OwnC F N k w B v l) {i : Nat} {e : EvM} (hi : l[i]? = some e) :
    ∃ (g c : Nat) (d : Value), v = .slice (some ⟨g, 0, none⟩) l.length c ∧ B ≤ g ∧ g < w.heap.size ∧ By (fun b => if i < k then N b else F b) w d e.data ∧ w.cell? ⟨g, i * 7 + 6, none⟩ = some d ∧ w.frozen? ⟨g, i * 7 + 6, none⟩ = false := by
  obtain ⟨ds, h1, h2, h3⟩ := h
  have hil := (List.getElem?_eq_some_iff.1 hi).1
  obtain ⟨d, hd⟩ : ∃ d, ds[i]? = some d := ⟨_, List.getElem?_eq_getElem (by rw [h2]; exact hil)⟩
  rcases h1.2 with ⟨_, e0⟩ | ⟨g, cap, cur, hv, hb, hg, _⟩
  · omega
  · refine ⟨g, cap, d, hv, hb, (Array.getElem?_eq_some_iff.1 hg).1, h3 i d e hd hi, ?_, (show Blk w g 143 cur from hg).frozen _⟩
    have h4 := h1.cells (g := g) (by rw [hv]; rfl) _ _ (ShC_at (K := evK) (k := i) hi hd 6 d rfl)
    rw [Addr.add_mid, Nat.zero_add] at h4
    exact h4
theorem OwnC.step {F N N' : Nat → Prop} {k : Nat} {w : World} {B g c : Nat} {l : List EvM} {e : EvM} {d : Value} (h : OwnC F N k w B (.slice (some ⟨g, 0, none⟩) l.length c) l) (hk : l[k]? = some e) (hN : ∀ b, N b → N' b) (hd : By N' w d e.data) (hFg : ¬ F g) (hNg : ¬ N' g) : OwnC F N' (k + 1) (w.setCell ⟨g, k * 7 + 6, none⟩ d) B (.slice (some ⟨g, 0, none⟩) l.length c) l := by
  obtain ⟨ds, h1, h2, h3⟩ := h
  have hkl := (List.getElem?_eq_some_iff.1 hk).1
  have ow : Only (fun b => b = g) w (w.setCell ⟨g, k * 7 + 6, none⟩ d) := Only.set_ (M := fun b => b = g) (g := g) (i := k * 7 + 6) (Only.refl _ w) (.inl rfl) d
  refine ⟨ds.set k d, ?_, by rw [List.length_set]; exact h2, fun i d' e' hd' he' => ?_⟩
  · rw [evC_set h2 hkl]
    exact own_setRow h1 d
  · by_cases hik : k = i
    · subst hik
      rw [List.getElem?_set_self (by rw [h2]; exact hkl)] at hd'
      injection hd' with hd'
      rw [hk] at he'
      injection he' with he'
      rw [← hd', ← he']
      exact (hd.only ow (fun b hb e => hNg (e ▸ hb))).mono (fun b _ hb => by rw [if_pos (by omega)]; exact hb)
    · rw [List.getElem?_set_ne hik] at hd'
      have h4 := h3 i d' e' hd' he'
      by_cases hlt : i < k
      · have h5 : By N w d' e'.data := h4.mono (fun b _ hb => by rw [if_pos hlt] at hb; exact hb)
        exact ((h5.mono (fun b _ hb => hN b hb)).only ow (fun b hb e => hNg (e ▸ hb))).mono (fun b _ hb => by rw [if_pos (by omega)]; exact hb)
      · have h5 : By F w d' e'.data := h4.mono (fun b _ hb => by rw [if_neg hlt] at hb; exact hb)
        exact (h5.only ow (fun b hb e => hFg (e ▸ hb))).mono (fun b _ hb => by rw [if_neg (by omega)]; exact hb)
theorem OwnC.done {F N : Nat → Prop} {w : World} {B : Nat} {v : Value} {l : List EvM} (h : OwnC F N l.length w B v l) (hv : ∀ k, v.ownBlock = some k → ¬ N k) : OwnL evK 143 N w B v l := by
  obtain ⟨ds, h1, h2, h3⟩ := h
  refine ⟨⟨ds, h1, h2.trans (List.length_map _).symm, fun i d bs hd hb => ?_⟩, hv⟩
  have hb' : l[i]?.map (fun e : EvM => e.data) = some bs := (List.getElem?_map (f := fun e : EvM => e.data) (l := l) (i := i)).symm.trans hb
  cases he : l[i]? with
  | none => rw [he] at hb'; cases hb'
  | some e =>
    rw [he] at hb'
    injection hb' with hb'
    have hil := (List.getElem?_eq_some_iff.1 he).1
    rw [← hb']
    exact (h3 i d e hd he).mono (fun b _ hb => by rw [if_pos hil] at hb; exact hb)
/-- New events: all that they hold is new. -/
def NewEvs (w : World) (l : List EvM) (v : Value) (w' : World) : Prop := OwnL evK 143 (fun k => w.heap.size ≤ k ∧ k < w'.heap.size ∧ v.ownBlock ≠ some k) w' w.heap.size v l ∧ Below w.heap.size w w'
set_option maxRecDepth 100000 in
set_option maxHeartbeats 3200000 in
theorem copies_any (F : Nat → Prop) (v : Value) (l : List EvM) (w : World) (h : EvsF F w v l) (hn : l.length ≤ 1000000) (hd : ∀ e ∈ l, e.data.length ≤ 1000000) (hF : ∀ k, F k → k < w.heap.size) :
    Calls Tryz.prog 172 #[v] w fun e w' => ∃ v', e = .returned v' ∧ NewEvs w l v' w' := by
  have HD := Lib.hid hd
  have HF := Lib.hid hF
  have HCL := Lib.hid (evclone_any F v l w h hn hF)
  obtain ⟨n, hnn⟩ : ∃ n, l.length = n := ⟨_, rfl⟩
  have HNN := Lib.hid hnn
  rw [hnn] at hn
  clear h hd hF hnn
  go_enter Tryz.func172, Tryz.ntmps172
  go_wp2_with fail
  refine HCL.out.mono ?_
  rintro e w1 ⟨v1, rfl, ho1, hb1⟩
  obtain ⟨A1, c1, rfl, _, _⟩ := evs_slice ho1.tmp
  rw [HNN.out] at ho1 ⊢
  have HO1 := Lib.hid ho1
  have HB1 := Lib.hid hb1
  have hst := OwnC.start (fun k => w1.heap.size ≤ k ∧ k < w1.heap.size) ho1
  have HST := Lib.hid hst
  clear ho1 hb1 hst
  go_wp2_with fail
  go_loopw [9] (fun i wr => ∃ k : Nat, k ≤ n ∧ i = .int .i64 k ∧ OwnC F (fun g => w1.heap.size ≤ g ∧ g < wr.heap.size) k wr w.heap.size (.slice A1 n c1) l ∧ Below w.heap.size w wr ∧ w1.heap.size ≤ wr.heap.size) (fun i _ => n - (intOf i).toNat)
  case atStart => exact ⟨0, Nat.zero_le _, rfl, HST.out, HB1.out, Nat.le_refl _⟩
  case round =>
    obtain ⟨k, hk, rfl, hoc, hbr, hz1⟩ := hrel
    have HOC := Lib.hid hoc
    have HBR := Lib.hid hbr
    have k0 : (0 : Int) ≤ (k : Int) := by omega
    by_cases hlt : k < n
    · have k1 : (k : Int) < (n : Int) := by omega
      obtain ⟨e, he⟩ : ∃ e, l[k]? = some e := ⟨_, List.getElem?_eq_getElem (by rw [HNN.out]; exact hlt)⟩
      obtain ⟨g, c', d, hv, hBg, hgl, hby, hcell, hfz⟩ := hoc.at_ he
      obtain ⟨g2, c2, hv2, hg2⟩ : ∃ g2 c2, (Value.slice A1 n c1) = .slice (some ⟨g2, 0, none⟩) l.length c2 ∧ g2 < w1.heap.size := by
        obtain ⟨g2, c2, d2, h1, _, h2, _⟩ := (OwnC.start (fun _ => False) HO1.out).at_ he
        exact ⟨g2, c2, h1, h2⟩
      have hgg : g = g2 := by
        have := hv.symm.trans hv2
        injection this with h1 _ _
        injection h1 with h1
        injection h1
      subst hgg
      injection hv with hA hnl hc
      clear hnl
      subst hA hc
      obtain ⟨dA, dc, rfl, _, _⟩ := hby.slice
      obtain ⟨dl, hdl⟩ : ∃ dl, e.data.length = dl := ⟨_, rfl⟩
      rw [hdl] at hcell
      have HSL : Hid (SlV wr (.slice dA dl dc) (e.data.map bv)) := by
        rw [← hdl]
        exact Rd.slv (by rw [List.length_map]; exact hby)
      have HE := Lib.hid he
      have HDL : Hid (e.data.length ≤ 1000000) := HD.out e (List.mem_of_getElem? he)
      clear hoc hbr he hby hv2
      go_wp2_with fail
      refine (bclone_any _ e.data _ HSL.out (by have := HDL.out; omega)).mono ?_
      rintro e' w2 ⟨v2, rfl, ho2, hb2⟩
      have hfz2 : w2.frozen? ⟨g, k * 7 + 6, none⟩ = false := by rw [← hfz]; exact hb2.frozen (p := ⟨g, k * 7 + 6, none⟩) hgl
      have hcl2 : w2.cell? ⟨g, k * 7 + 6, none⟩ = some (.slice dA dl dc) := (hb2.cell (p := ⟨g, k * 7 + 6, none⟩) hgl).trans hcell
      have hz2 := hb2.size
      obtain ⟨A2, c2, rfl, _, _⟩ := ho2.length
      rw [List.length_map, hdl] at ho2 ⊢
      have hby2 : By (fun b => w1.heap.size ≤ b ∧ b < w2.heap.size) w2 (.slice A2 dl c2) e.data := by
        have h5 := (OwnV.by_ (F := fun _ => False) ho2)
        exact h5.mono (fun b _ hb => by
          rcases hb with hb | hb
          · exact hb.elim
          · exact ⟨by omega, hb.2⟩)
      have hoc2 := HOC.out.only hb2
      have hFg : ¬ F g := fun hf => by have := HF.out g hf; omega
      have hl9 : n = l.length := HNN.out.symm
      have hst : OwnC F (fun b => w1.heap.size ≤ b ∧ b < w2.heap.size) (k + 1) (w2.setCell ⟨g, k * 7 + 6, none⟩ (.slice A2 dl c2)) w.heap.size (.slice (some ⟨g, 0, none⟩) n c1) l := by
        rw [hl9] at hoc2 ⊢
        exact OwnC.step hoc2 HE.out (fun b hb => ⟨hb.1, by omega⟩) hby2 hFg (fun hb => by omega)
      have HST2 := Lib.hid hst
      have HB2 : Hid (Below w.heap.size w (w2.setCell ⟨g, k * 7 + 6, none⟩ (.slice A2 dl c2))) := (HBR.out.trans (hb2.mono HBR.out.size)).setCell (p := ⟨g, k * 7 + 6, none⟩) hBg _
      have hzz : (w2.setCell ⟨g, k * 7 + 6, none⟩ (.slice A2 dl c2)).heap.size = w2.heap.size := by simp [World.setCell]
      have HZZ := Lib.hid hzz
      clear ho2 hb2 hby2 hoc2 hFg hl9 hst hzz hdl hcell hfz
      go_wp2_with fail
      go_roundw
      case rel =>
        refine ⟨k + 1, by omega, by go_num, ?_, HB2.out, by rw [HZZ.out]; omega⟩
        rw [HZZ.out]
        exact HST2.out
      case measure => simp [intOf]; omega
    · obtain rfl : k = n := by omega
      clear hoc hbr
      go_wp2_with fail
      go_ret
      refine ⟨_, rfl, ?_, HBR.out⟩
      have h6 := HOC.out
      have h7 : OwnC F (fun g => w1.heap.size ≤ g ∧ g < wr.heap.size) l.length wr w.heap.size (.slice A1 k c1) l := by rw [HNN.out]; exact h6
      have h8 := h7.done (fun b hb hN => by
        have := (HO1.out.lt b hb).2
        omega)
      refine h8.mono (fun b _ hb => ⟨by have := HB1.out.size; omega, hb.2, fun e => by have := (HO1.out.lt b e).2; omega⟩) (fun b hb hN => hN.2.2 hb)
end Go.Proofs.YtpfjlhpahmhkhaaGreat.Tx
