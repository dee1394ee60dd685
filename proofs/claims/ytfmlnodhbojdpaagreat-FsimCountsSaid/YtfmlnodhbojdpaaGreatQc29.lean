/- Texts put together: Fx15. -/
import Derived.Test.YtfmlnodhbojdpaaGreatQc20
/- The reference's file system: Create, Write, Remove, Sync, Move, MoveNew. -/
namespace Go.Proofs.YtfmlnodhbojdpaaGreat.Tx
open Go.RowKit Go.Proofs.YtfmlnodhbojdpaaGreat.Sh

def writeE (st : FSM) (p : List UInt8) (mode : Int) (data : List UInt8) (only : Bool) : Int := if beginE st = 0 then putE (beginM st).st p mode data only (beginM st).full (beginM st).st.room else beginE st
def writeM (st : FSM) (p : List UInt8) (mode : Int) (data : List UInt8) (only : Bool) : FSM := if beginE st = 0 then putM (beginM st).st p mode data only (beginM st).full (beginM st).st.room else (beginM st).st
def removeE (st : FSM) (p : List UInt8) : Int := if beginE st = 0 then dropE (beginM st).st p else beginE st
def removeM (st : FSM) (p : List UInt8) : FSM := if beginE st = 0 then dropM (beginM st).st p else (beginM st).st
def syncM (st : FSM) : FSM := if beginE st = 0 then safeM (beginM st).st else (beginM st).st

set_option maxRecDepth 100000 in
set_option maxHeartbeats 3200000 in
theorem rcreate_any (F M : Nat → Prop) (b : Nat) (st : FSM) (N : Nat) (p : List UInt8) (mode : Int) (dv : Value) (data : List UInt8) (G : Nat → Prop) (w : World) (h : RefAt F w b st M) (hr : Ready st N) (hdv : By G w dv data) (hG : ∀ k, G k → ¬ M k) (hp : p.length ≤ 1000000) :
    Calls Tryz.prog 71 #[.pointer (some ⟨b, 0, none⟩), .string (str p), .int .i64 mode, dv] w fun e w' => e = .returned (.int .i64 (writeE st p mode data true)) ∧ FsPost F M w b (writeM st p mode data true) w' := by
  have H := Lib.hid h
  have HR := Lib.hid hr
  have HS := Lib.hid hr.small
  clear h hr
  obtain ⟨be, hbe⟩ : ∃ be, beginE st = be := ⟨_, rfl⟩
  have HBE := Lib.hid hbe
  clear hbe
  go_enter Tryz.func71, Tryz.ntmps71
  go_wp2_with fail
  refine (rbegin_any F M b st N _ H.out HR.out.fits (by have := HR.out.big; omega) HR.out.calls HR.out.paths).mono ?_
  rintro e w1 ⟨rfl, hpost⟩
  rw [HBE.out]
  obtain ⟨s, hs⟩ : ∃ s, (beginM st).st = s := ⟨_, rfl⟩
  have HSS := Lib.hid hs
  rw [hs] at hpost
  have HP1 := Lib.hid hpost
  obtain ⟨M1, hat, hon, hsub⟩ := hpost
  have HSM : Hid (Small s) := by rw [← hs]; exact HS.out
  have HAT := Lib.hid hat
  have HON := Lib.hid hon
  have HSUB := Lib.hid hsub
  clear hat hon hsub hs
  obtain ⟨fu, hfu⟩ : ∃ fu, (beginM st).full = fu := ⟨_, rfl⟩
  have HFU := Lib.hid hfu
  rw [hfu]
  clear hfu
  have HDV := Lib.hid (hdv.only HON.out hG).slv
  clear hdv hG
  obtain ⟨x, hX, _⟩ := HAT.out
  have c0 : w1.cell? ⟨b, 0, none⟩ = some (.int .i64 s.room) := hX.blk.cell 0
  clear hX
  by_cases hb0 : be = 0
  · subst hb0
    have HE : Hid (writeE st p mode data true = putE s p mode data true fu s.room ∧ writeM st p mode data true = putM s p mode data true fu s.room) := ⟨by unfold writeE; rw [if_pos HBE.out, HSS.out, HFU.out], by unfold writeM; rw [if_pos HBE.out, HSS.out, HFU.out]⟩
    go_wp2_with fail
    refine (rput_any _ M1 b s p mode dv data true fu s.room _ HAT.out HDV.out hp HSM.out.nrow HSM.out.used HSM.out.time (by have := HSM.out.now; omega) (by have := HSM.out.pending; omega)).mono ?_
    rintro e w2 ⟨rfl, hpost⟩
    have HP2 := Lib.hid (FsPost.trans HON.out HSUB.out hpost)
    clear hpost
    go_wp2_with fail
    go_ret
    exact ⟨by rw [HE.out.1]; rfl, by rw [HE.out.2]; exact HP2.out⟩
  · have e1 : (be == 0) = false := by rw [beq_eq_false_iff_ne]; exact hb0
    have HE : Hid (writeE st p mode data true = be ∧ writeM st p mode data true = s) := ⟨by unfold writeE; rw [HBE.out, if_neg hb0], by unfold writeM; rw [HBE.out, if_neg hb0]; exact HSS.out⟩
    clear hb0
    go_wp2_with fail
    go_ret
    exact ⟨by rw [HE.out.1]; rfl, by rw [HE.out.2]; exact HP1.out⟩

set_option maxRecDepth 100000 in
set_option maxHeartbeats 3200000 in
theorem rwrite_any (F M : Nat → Prop) (b : Nat) (st : FSM) (N : Nat) (p : List UInt8) (mode : Int) (dv : Value) (data : List UInt8) (G : Nat → Prop) (w : World) (h : RefAt F w b st M) (hr : Ready st N) (hdv : By G w dv data) (hG : ∀ k, G k → ¬ M k) (hp : p.length ≤ 1000000) :
    Calls Tryz.prog 72 #[.pointer (some ⟨b, 0, none⟩), .string (str p), .int .i64 mode, dv] w fun e w' => e = .returned (.int .i64 (writeE st p mode data false)) ∧ FsPost F M w b (writeM st p mode data false) w' := by
  have H := Lib.hid h
  have HR := Lib.hid hr
  have HS := Lib.hid hr.small
  clear h hr
  obtain ⟨be, hbe⟩ : ∃ be, beginE st = be := ⟨_, rfl⟩
  have HBE := Lib.hid hbe
  clear hbe
  go_enter Tryz.func72, Tryz.ntmps72
  go_wp2_with fail
  refine (rbegin_any F M b st N _ H.out HR.out.fits (by have := HR.out.big; omega) HR.out.calls HR.out.paths).mono ?_
  rintro e w1 ⟨rfl, hpost⟩
  rw [HBE.out]
  obtain ⟨s, hs⟩ : ∃ s, (beginM st).st = s := ⟨_, rfl⟩
  have HSS := Lib.hid hs
  rw [hs] at hpost
  have HP1 := Lib.hid hpost
  obtain ⟨M1, hat, hon, hsub⟩ := hpost
  have HSM : Hid (Small s) := by rw [← hs]; exact HS.out
  have HAT := Lib.hid hat
  have HON := Lib.hid hon
  have HSUB := Lib.hid hsub
  clear hat hon hsub hs
  obtain ⟨fu, hfu⟩ : ∃ fu, (beginM st).full = fu := ⟨_, rfl⟩
  have HFU := Lib.hid hfu
  rw [hfu]
  clear hfu
  have HDV := Lib.hid (hdv.only HON.out hG).slv
  clear hdv hG
  obtain ⟨x, hX, _⟩ := HAT.out
  have c0 : w1.cell? ⟨b, 0, none⟩ = some (.int .i64 s.room) := hX.blk.cell 0
  clear hX
  by_cases hb0 : be = 0
  · subst hb0
    have HE : Hid (writeE st p mode data false = putE s p mode data false fu s.room ∧ writeM st p mode data false = putM s p mode data false fu s.room) := ⟨by unfold writeE; rw [if_pos HBE.out, HSS.out, HFU.out], by unfold writeM; rw [if_pos HBE.out, HSS.out, HFU.out]⟩
    go_wp2_with fail
    refine (rput_any _ M1 b s p mode dv data false fu s.room _ HAT.out HDV.out hp HSM.out.nrow HSM.out.used HSM.out.time (by have := HSM.out.now; omega) (by have := HSM.out.pending; omega)).mono ?_
    rintro e w2 ⟨rfl, hpost⟩
    have HP2 := Lib.hid (FsPost.trans HON.out HSUB.out hpost)
    clear hpost
    go_wp2_with fail
    go_ret
    exact ⟨by rw [HE.out.1]; rfl, by rw [HE.out.2]; exact HP2.out⟩
  · have e1 : (be == 0) = false := by rw [beq_eq_false_iff_ne]; exact hb0
    have HE : Hid (writeE st p mode data false = be ∧ writeM st p mode data false = s) := ⟨by unfold writeE; rw [HBE.out, if_neg hb0], by unfold writeM; rw [HBE.out, if_neg hb0]; exact HSS.out⟩
    clear hb0
    go_wp2_with fail
    go_ret
    exact ⟨by rw [HE.out.1]; rfl, by rw [HE.out.2]; exact HP1.out⟩

set_option maxRecDepth 100000 in
set_option maxHeartbeats 3200000 in
theorem rremove_any (F M : Nat → Prop) (b : Nat) (st : FSM) (N : Nat) (p : List UInt8) (w : World) (h : RefAt F w b st M) (hr : Ready st N) (hp : p.length ≤ 1000000) :
    Calls Tryz.prog 76 #[.pointer (some ⟨b, 0, none⟩), .string (str p)] w fun e w' => e = .returned (.int .i64 (removeE st p)) ∧ FsPost F M w b (removeM st p) w' := by
  have H := Lib.hid h
  have HR := Lib.hid hr
  have HS := Lib.hid hr.small
  clear h hr
  obtain ⟨be, hbe⟩ : ∃ be, beginE st = be := ⟨_, rfl⟩
  have HBE := Lib.hid hbe
  clear hbe
  go_enter Tryz.func76, Tryz.ntmps76
  go_wp2_with fail
  refine (rbegin_any F M b st N _ H.out HR.out.fits (by have := HR.out.big; omega) HR.out.calls HR.out.paths).mono ?_
  rintro e w1 ⟨rfl, hpost⟩
  rw [HBE.out]
  obtain ⟨s, hs⟩ : ∃ s, (beginM st).st = s := ⟨_, rfl⟩
  have HSS := Lib.hid hs
  rw [hs] at hpost
  have HP1 := Lib.hid hpost
  obtain ⟨M1, hat, hon, hsub⟩ := hpost
  have HSM : Hid (Small s) := by rw [← hs]; exact HS.out
  have HAT := Lib.hid hat
  have HON := Lib.hid hon
  have HSUB := Lib.hid hsub
  clear hat hon hsub hs
  obtain ⟨fu, hfu⟩ : ∃ fu, (beginM st).full = fu := ⟨_, rfl⟩
  have HFU := Lib.hid hfu
  rw [hfu]
  clear hfu
  by_cases hb0 : be = 0
  · subst hb0
    have HE : Hid (removeE st p = dropE s p ∧ removeM st p = dropM s p) := ⟨by unfold removeE; rw [if_pos HBE.out, HSS.out], by unfold removeM; rw [if_pos HBE.out, HSS.out]⟩
    go_wp2_with fail
    refine (rdrop_any _ M1 b s p _ HAT.out hp HSM.out.time (by have := HSM.out.now; omega) (by have := HSM.out.pending; omega)).mono ?_
    rintro e w2 ⟨rfl, hpost⟩
    have HP2 := Lib.hid (FsPost.trans HON.out HSUB.out hpost)
    clear hpost
    go_wp2_with fail
    go_ret
    exact ⟨by rw [HE.out.1]; rfl, by rw [HE.out.2]; exact HP2.out⟩
  · have e1 : (be == 0) = false := by rw [beq_eq_false_iff_ne]; exact hb0
    have HE : Hid (removeE st p = be ∧ removeM st p = s) := ⟨by unfold removeE; rw [HBE.out, if_neg hb0], by unfold removeM; rw [HBE.out, if_neg hb0]; exact HSS.out⟩
    clear hb0
    go_wp2_with fail
    go_ret
    exact ⟨by rw [HE.out.1]; rfl, by rw [HE.out.2]; exact HP1.out⟩

set_option maxRecDepth 100000 in
set_option maxHeartbeats 3200000 in
theorem rsync_any (F M : Nat → Prop) (b : Nat) (st : FSM) (N : Nat) (w : World) (h : RefAt F w b st M) (hr : Ready st N) :
    Calls Tryz.prog 77 #[.pointer (some ⟨b, 0, none⟩)] w fun e w' => e = .returned (.int .i64 (beginE st)) ∧ FsPost F M w b (syncM st) w' := by
  have H := Lib.hid h
  have HR := Lib.hid hr
  have HS := Lib.hid hr.small
  clear h hr
  obtain ⟨be, hbe⟩ : ∃ be, beginE st = be := ⟨_, rfl⟩
  have HBE := Lib.hid hbe
  clear hbe
  go_enter Tryz.func77, Tryz.ntmps77
  go_wp2_with fail
  refine (rbegin_any F M b st N _ H.out HR.out.fits (by have := HR.out.big; omega) HR.out.calls HR.out.paths).mono ?_
  rintro e w1 ⟨rfl, hpost⟩
  rw [HBE.out]
  obtain ⟨s, hs⟩ : ∃ s, (beginM st).st = s := ⟨_, rfl⟩
  have HSS := Lib.hid hs
  rw [hs] at hpost
  have HP1 := Lib.hid hpost
  obtain ⟨M1, hat, hon, hsub⟩ := hpost
  have HSM : Hid (Small s) := by rw [← hs]; exact HS.out
  have HAT := Lib.hid hat
  have HON := Lib.hid hon
  have HSUB := Lib.hid hsub
  clear hat hon hsub hs
  obtain ⟨fu, hfu⟩ : ∃ fu, (beginM st).full = fu := ⟨_, rfl⟩
  have HFU := Lib.hid hfu
  rw [hfu]
  clear hfu
  by_cases hb0 : be = 0
  · subst hb0
    have HE : Hid (beginE st = 0 ∧ syncM st = safeM s) := ⟨HBE.out, by unfold syncM; rw [if_pos HBE.out, HSS.out]⟩
    go_wp2_with fail
    refine (rsafe_any _ M1 b s _ HAT.out (by have := HSM.out.now; omega)).mono ?_
    rintro e w2 ⟨rfl, hpost⟩
    have HP2 := Lib.hid (FsPost.trans HON.out HSUB.out hpost)
    clear hpost
    go_wp2_with fail
    go_ret
    exact ⟨by rw [HE.out.1]; rfl, by rw [HE.out.2]; exact HP2.out⟩
  · have e1 : (be == 0) = false := by rw [beq_eq_false_iff_ne]; exact hb0
    have HE : Hid (beginE st = be ∧ syncM st = s) := ⟨by rw [HBE.out], by unfold syncM; rw [HBE.out, if_neg hb0]; exact HSS.out⟩
    clear hb0
    go_wp2_with fail
    go_ret
    exact ⟨by rw [HE.out.1]; rfl, by rw [HE.out.2]; exact HP1.out⟩

set_option maxRecDepth 100000 in
theorem rmove_any' (F M : Nat → Prop) (b : Nat) (st : FSM) (N : Nat) (fr tt : List UInt8) (w : World) (h : RefAt F w b st M) (hr : Ready st N) (hf : fr.length ≤ 1000000) (ht : tt.length ≤ 1000000) :
    Calls Tryz.prog 73 #[.pointer (some ⟨b, 0, none⟩), .string (str fr), .string (str tt)] w fun e w' => e = .returned (.int .i64 (moveE st fr tt false)) ∧ FsPost F M w b (moveM st fr tt false) w' := by
  go_enter Tryz.func73, Tryz.ntmps73
  go_wp2_with fail
  refine (rmove_any F M b st N fr tt false _ h hr hf ht).mono ?_
  rintro e w1 ⟨rfl, hpost⟩
  go_wp2_with fail
  go_ret
  exact ⟨rfl, hpost⟩

set_option maxRecDepth 100000 in
theorem rmovenew_any (F M : Nat → Prop) (b : Nat) (st : FSM) (N : Nat) (fr tt : List UInt8) (w : World) (h : RefAt F w b st M) (hr : Ready st N) (hf : fr.length ≤ 1000000) (ht : tt.length ≤ 1000000) :
    Calls Tryz.prog 74 #[.pointer (some ⟨b, 0, none⟩), .string (str fr), .string (str tt)] w fun e w' => e = .returned (.int .i64 (moveE st fr tt true)) ∧ FsPost F M w b (moveM st fr tt true) w' := by
  go_enter Tryz.func74, Tryz.ntmps74
  go_wp2_with fail
  refine (rmove_any F M b st N fr tt true _ h hr hf ht).mono ?_
  rintro e w1 ⟨rfl, hpost⟩
  go_wp2_with fail
  go_ret
  exact ⟨rfl, hpost⟩
end Go.Proofs.YtfmlnodhbojdpaaGreat.Tx
