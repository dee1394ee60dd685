/- Texts put together: ZGs14, ZGs15, ZGs16, ZGs17. -/
import Derived.Test.YtlgmbljfjfcpoaaGreatQs23
/- Package fsim: Create, Write, Move, MoveNew, Remove, Sync. -/
namespace Go.Proofs.YtlgmbljfjfcpoaaGreat.Tx
open Go.RowKit Go.Maps Go.Proofs.YtlgmbljfjfcpoaaGreat.Sh

/-- Ready for a call. -/
structure CReady (c : CSt) (N : Nat) : Prop where
  fits : CFits c N
  big : N + 2 * c.plan.length ≤ 600000
  calls : 0 ≤ c.calls ∧ c.calls ≤ 4000000000000
  paths : ∀ e ∈ c.plan, e.path.length ≤ 1000000
theorem CReady.begun {c : CSt} {N : Nat} (h : CReady c N) : CFits (bgC c).c (N + 2 * c.plan.length) := by
  have h1 := bgN_le c
  exact (h.fits.bg (bgN c) h1).more (by omega)
theorem CReady.small {c : CSt} {N : Nat} (h : CReady c N) : CSmall (bgC c).c := h.begun.small (by have := h.big; omega)
def crtE (c : CSt) (p : List UInt8) (mode : Int) (data : List UInt8) (create : Bool) : Int := if bgE c = 0 then wrE (bgC c).c p mode data (bgC c).room create else bgE c
def crtC (c : CSt) (p : List UInt8) (mode : Int) (data : List UInt8) (create : Bool) : CSt := if bgE c = 0 then wrC (bgC c).c p mode data (bgC c).room create else (bgC c).c
def movE (c : CSt) (fr tt : List UInt8) (create : Bool) : Int := if bgE c = 0 then mvE (bgC c).c fr tt create else bgE c
def movC (c : CSt) (fr tt : List UInt8) (create : Bool) : CSt := if bgE c = 0 then mvC (bgC c).c fr tt create else (bgC c).c
def remE (c : CSt) (p : List UInt8) : Int := if bgE c = 0 then rmE (bgC c).c p else bgE c
def remC (c : CSt) (p : List UInt8) : CSt := if bgE c = 0 then rmC (bgC c).c p else (bgC c).c
def synC (c : CSt) : CSt := if bgE c = 0 then settleC (bgC c).c else (bgC c).c

set_option maxRecDepth 100000 in
set_option maxHeartbeats 3200000 in
theorem create_any (F M : Nat → Prop) (b : Nat) (c : CSt) (N : Nat) (p : List UInt8) (mode : Int) (dv : Value) (data : List UInt8) (G : Nat → Prop) (w : World) (h : FcAt F w b c M) (hr : CReady c N) (hdv : By G w dv data) (hG : ∀ k, G k → ¬ M k) (hp : p.length ≤ 1000000) :
    Calls Tryz.prog 45 #[.pointer (some ⟨b, 0, none⟩), .string (str p), .int .i64 mode, dv] w fun e w' => e = .returned (.int .i64 (crtE c p mode data true)) ∧ FcPost F M w b (crtC c p mode data true) w' := by
  have H := Lib.hid h
  have HR := Lib.hid hr
  have HDV := Lib.hid hdv
  have HG := Lib.hid hG
  obtain ⟨dA, dc, rfl, _, _⟩ := hdv.slice
  obtain ⟨dl, hdl⟩ : ∃ dl, data.length = dl := ⟨_, rfl⟩
  have HDL := Lib.hid hdl
  rw [hdl]
  clear hdv hG hdl
  obtain ⟨be, hbe⟩ : ∃ be, bgE c = be := ⟨_, rfl⟩
  have HBE := Lib.hid hbe
  obtain ⟨rm, hrm⟩ : ∃ rm, (bgC c).room = rm := ⟨_, rfl⟩
  have HRM := Lib.hid hrm
  obtain ⟨s, hs⟩ : ∃ s, (bgC c).c = s := ⟨_, rfl⟩
  have HSS := Lib.hid hs
  have HSM := Lib.hid hr.small
  clear h hr hbe hrm hs
  go_enter Tryz.func45, Tryz.ntmps45
  go_wp2_with fail
  refine (begin_any F M b c N _ H.out HR.out.fits HR.out.big HR.out.calls HR.out.paths).mono ?_
  rintro e w1 ⟨rfl, hpost⟩
  rw [HBE.out, HRM.out]
  rw [HSS.out] at hpost HSM
  have HP1 := Lib.hid hpost
  obtain ⟨M1, hat, hon, hsub⟩ := hpost
  have HAT := Lib.hid hat
  have HON := Lib.hid hon
  have HSUB := Lib.hid hsub
  clear hat hon hsub
  have HD1 : Hid (SlV w1 (.slice dA dl dc) (data.map bv)) := by
    have h1 := HDV.out.only HON.out HG.out
    rw [← HDL.out]
    exact Rd.slv (by rw [List.length_map]; exact h1)
  by_cases hb0 : be = 0
  · subst hb0
    have HE : Hid (crtE c p mode data true = wrE s p mode data rm true ∧ crtC c p mode data true = wrC s p mode data rm true) := ⟨by unfold crtE; rw [if_pos HBE.out, HSS.out, HRM.out], by unfold crtC; rw [if_pos HBE.out, HSS.out, HRM.out]⟩
    go_wp2_with fail
    refine (write_any _ M1 b s p mode (.slice dA dl dc) data rm true w1 HAT.out HSM.out HD1.out hp).mono ?_
    rintro e w2 ⟨rfl, hp2⟩
    have HP2 := Lib.hid (FcPost.trans HON.out HSUB.out hp2)
    clear hp2
    go_wp2_with fail
    go_ret
    exact ⟨by rw [HE.out.1]; rfl, by rw [HE.out.2]; exact HP2.out⟩
  · have e1 : (be == 0) = false := by rw [beq_eq_false_iff_ne]; exact hb0
    have HE : Hid (crtE c p mode data true = be ∧ crtC c p mode data true = s) := ⟨by unfold crtE; rw [HBE.out, if_neg hb0], by unfold crtC; rw [HBE.out, if_neg hb0]; exact HSS.out⟩
    clear hb0
    go_wp2_with fail
    go_ret
    exact ⟨by rw [HE.out.1]; rfl, by rw [HE.out.2]; exact HP1.out⟩

set_option maxRecDepth 100000 in
set_option maxHeartbeats 3200000 in
theorem movef_any (F M : Nat → Prop) (b : Nat) (c : CSt) (N : Nat) (fr tt : List UInt8) (w : World) (h : FcAt F w b c M) (hr : CReady c N) (hf : fr.length ≤ 1000000) (ht : tt.length ≤ 1000000) :
    Calls Tryz.prog 61 #[.pointer (some ⟨b, 0, none⟩), .string (str fr), .string (str tt)] w fun e w' => e = .returned (.int .i64 (movE c fr tt false)) ∧ FcPost F M w b (movC c fr tt false) w' := by
  have H := Lib.hid h
  have HR := Lib.hid hr
  obtain ⟨be, hbe⟩ : ∃ be, bgE c = be := ⟨_, rfl⟩
  have HBE := Lib.hid hbe
  obtain ⟨rm, hrm⟩ : ∃ rm, (bgC c).room = rm := ⟨_, rfl⟩
  have HRM := Lib.hid hrm
  obtain ⟨s, hs⟩ : ∃ s, (bgC c).c = s := ⟨_, rfl⟩
  have HSS := Lib.hid hs
  have HSM := Lib.hid hr.small
  clear h hr hbe hrm hs
  go_enter Tryz.func61, Tryz.ntmps61
  go_wp2_with fail
  refine (begin_any F M b c N _ H.out HR.out.fits HR.out.big HR.out.calls HR.out.paths).mono ?_
  rintro e w1 ⟨rfl, hpost⟩
  rw [HBE.out, HRM.out]
  rw [HSS.out] at hpost HSM
  have HP1 := Lib.hid hpost
  obtain ⟨M1, hat, hon, hsub⟩ := hpost
  have HAT := Lib.hid hat
  have HON := Lib.hid hon
  have HSUB := Lib.hid hsub
  clear hat hon hsub
  by_cases hb0 : be = 0
  · subst hb0
    have HE : Hid (movE c fr tt false = mvE s fr tt false ∧ movC c fr tt false = mvC s fr tt false) := ⟨by unfold movE; rw [if_pos HBE.out, HSS.out], by unfold movC; rw [if_pos HBE.out, HSS.out]⟩
    go_wp2_with fail
    refine (move_any _ M1 b s fr tt false w1 HAT.out HSM.out hf ht).mono ?_
    rintro e w2 ⟨rfl, hp2⟩
    have HP2 := Lib.hid (FcPost.trans HON.out HSUB.out hp2)
    clear hp2
    go_wp2_with fail
    go_ret
    exact ⟨by rw [HE.out.1]; rfl, by rw [HE.out.2]; exact HP2.out⟩
  · have e1 : (be == 0) = false := by rw [beq_eq_false_iff_ne]; exact hb0
    have HE : Hid (movE c fr tt false = be ∧ movC c fr tt false = s) := ⟨by unfold movE; rw [HBE.out, if_neg hb0], by unfold movC; rw [HBE.out, if_neg hb0]; exact HSS.out⟩
    clear hb0
    go_wp2_with fail
    go_ret
    exact ⟨by rw [HE.out.1]; rfl, by rw [HE.out.2]; exact HP1.out⟩

set_option maxRecDepth 100000 in
set_option maxHeartbeats 3200000 in
theorem removef_any (F M : Nat → Prop) (b : Nat) (c : CSt) (N : Nat) (p : List UInt8) (w : World) (h : FcAt F w b c M) (hr : CReady c N) (hp : p.length ≤ 1000000) :
    Calls Tryz.prog 50 #[.pointer (some ⟨b, 0, none⟩), .string (str p)] w fun e w' => e = .returned (.int .i64 (remE c p)) ∧ FcPost F M w b (remC c p) w' := by
  have H := Lib.hid h
  have HR := Lib.hid hr
  obtain ⟨be, hbe⟩ : ∃ be, bgE c = be := ⟨_, rfl⟩
  have HBE := Lib.hid hbe
  obtain ⟨rm, hrm⟩ : ∃ rm, (bgC c).room = rm := ⟨_, rfl⟩
  have HRM := Lib.hid hrm
  obtain ⟨s, hs⟩ : ∃ s, (bgC c).c = s := ⟨_, rfl⟩
  have HSS := Lib.hid hs
  have HSM := Lib.hid hr.small
  clear h hr hbe hrm hs
  go_enter Tryz.func50, Tryz.ntmps50
  go_wp2_with fail
  refine (begin_any F M b c N _ H.out HR.out.fits HR.out.big HR.out.calls HR.out.paths).mono ?_
  rintro e w1 ⟨rfl, hpost⟩
  rw [HBE.out, HRM.out]
  rw [HSS.out] at hpost HSM
  have HP1 := Lib.hid hpost
  obtain ⟨M1, hat, hon, hsub⟩ := hpost
  have HAT := Lib.hid hat
  have HON := Lib.hid hon
  have HSUB := Lib.hid hsub
  clear hat hon hsub
  by_cases hb0 : be = 0
  · subst hb0
    have HE : Hid (remE c p = rmE s p ∧ remC c p = rmC s p) := ⟨by unfold remE; rw [if_pos HBE.out, HSS.out], by unfold remC; rw [if_pos HBE.out, HSS.out]⟩
    go_wp2_with fail
    refine (remove_any _ M1 b s p w1 HAT.out HSM.out hp).mono ?_
    rintro e w2 ⟨rfl, hp2⟩
    have HP2 := Lib.hid (FcPost.trans HON.out HSUB.out hp2)
    clear hp2
    go_wp2_with fail
    go_ret
    exact ⟨by rw [HE.out.1]; rfl, by rw [HE.out.2]; exact HP2.out⟩
  · have e1 : (be == 0) = false := by rw [beq_eq_false_iff_ne]; exact hb0
    have HE : Hid (remE c p = be ∧ remC c p = s) := ⟨by unfold remE; rw [HBE.out, if_neg hb0], by unfold remC; rw [HBE.out, if_neg hb0]; exact HSS.out⟩
    clear hb0
    go_wp2_with fail
    go_ret
    exact ⟨by rw [HE.out.1]; rfl, by rw [HE.out.2]; exact HP1.out⟩

set_option maxRecDepth 100000 in
set_option maxHeartbeats 3200000 in
theorem syncf_any (F M : Nat → Prop) (b : Nat) (c : CSt) (N : Nat) (w : World) (h : FcAt F w b c M) (hr : CReady c N) :
    Calls Tryz.prog 77 #[.pointer (some ⟨b, 0, none⟩)] w fun e w' => e = .returned (.int .i64 (bgE c)) ∧ FcPost F M w b (synC c) w' := by
  have H := Lib.hid h
  have HR := Lib.hid hr
  obtain ⟨be, hbe⟩ : ∃ be, bgE c = be := ⟨_, rfl⟩
  have HBE := Lib.hid hbe
  obtain ⟨rm, hrm⟩ : ∃ rm, (bgC c).room = rm := ⟨_, rfl⟩
  have HRM := Lib.hid hrm
  obtain ⟨s, hs⟩ : ∃ s, (bgC c).c = s := ⟨_, rfl⟩
  have HSS := Lib.hid hs
  have HSM := Lib.hid hr.small
  clear h hr hbe hrm hs
  go_enter Tryz.func77, Tryz.ntmps77
  go_wp2_with fail
  refine (begin_any F M b c N _ H.out HR.out.fits HR.out.big HR.out.calls HR.out.paths).mono ?_
  rintro e w1 ⟨rfl, hpost⟩
  rw [HBE.out, HRM.out]
  rw [HSS.out] at hpost HSM
  have HP1 := Lib.hid hpost
  obtain ⟨M1, hat, hon, hsub⟩ := hpost
  have HAT := Lib.hid hat
  have HON := Lib.hid hon
  have HSUB := Lib.hid hsub
  clear hat hon hsub
  by_cases hb0 : be = 0
  · subst hb0
    have HE : Hid (bgE c = 0 ∧ synC c = settleC s) := ⟨HBE.out, by unfold synC; rw [if_pos HBE.out, HSS.out]⟩
    go_wp2_with fail
    refine (settle_any _ M1 b s w1 HAT.out HSM.out).mono ?_
    rintro e w2 ⟨rfl, hp2⟩
    have HP2 := Lib.hid (FcPost.trans HON.out HSUB.out hp2)
    clear hp2
    go_wp2_with fail
    go_ret
    exact ⟨by rw [HE.out.1]; rfl, by rw [HE.out.2]; exact HP2.out⟩
  · have e1 : (be == 0) = false := by rw [beq_eq_false_iff_ne]; exact hb0
    have HE : Hid (bgE c = be ∧ synC c = s) := ⟨HBE.out, by unfold synC; rw [HBE.out, if_neg hb0]; exact HSS.out⟩
    clear hb0
    go_wp2_with fail
    go_ret
    exact ⟨by rw [HE.out.1]; rfl, by rw [HE.out.2]; exact HP1.out⟩
end Go.Proofs.YtlgmbljfjfcpoaaGreat.Tx
/- Package fsim: slices copied; events copied with their data; what users did. -/
namespace Go.Proofs.YtlgmbljfjfcpoaaGreat.Tx
open Go.RowKit Go.Maps Go.Proofs.YtlgmbljfjfcpoaaGreat.Sh

set_option maxRecDepth 100000 in
set_option maxHeartbeats 1600000 in
theorem evclone_any (F : Nat → Prop) (v : Value) (l : List EvM) (w : World) (h : EvsF F w v l) (hn : l.length ≤ 1000000) (hF : ∀ k, F k → k < w.heap.size) : Calls Tryz.prog 55 #[v] w fun e w' => ∃ v', e = .returned v' ∧ OwnL evK 32 F w' w.heap.size v' l ∧ Below w.heap.size w w' := by
  obtain ⟨A, c, rfl, hlc, hcm⟩ := evs_slice h
  have H := Lib.hid h
  obtain ⟨n, hnn⟩ : ∃ n, l.length = n := ⟨_, rfl⟩
  have HNN := Lib.hid hnn
  have hnil := fun (w : World) => Lib.run_eql_slice_nil (P := Tryz.prog) w 23 32 A n c 0 0 Tryz.underlying23
  rw [hnn] at hn ⊢
  rcases A with _ | ad
  · have hl0 : l = [] := by
      cases l with
      | nil => rfl
      | cons x r =>
        obtain ⟨ad, d, e, _⟩ := TmpL.at_ h 0 x rfl
        cases e
    subst hl0
    simp only [List.length_nil] at hnn
    subst hnn
    simp only [Option.isNone] at hnil
    clear h hlc hcm
    go_enter Tryz.func55, Tryz.ntmps55
    go_wp2_with fail
    go_ret
    exact ⟨_, rfl, OwnL.nil_ _ _ _ _ _, Below.refl _ _⟩
  · simp only [Option.isNone] at hnil
    have hown : OwnL evK 32 F (w.alloc (.cells #[] 32)) w.heap.size (.slice (some ⟨w.heap.size, 0, none⟩) 0 0) [] := OwnL.empty (Blk.new w 32 #[]) (Nat.le_refl _) (fun hk => by have := hF _ hk; omega)
    have htm : EvsF F (w.alloc (.cells #[] 32)) (.slice (some ad) n c) l := by
      have h1 := TmpL.alloc h (.cells #[] 32)
      rw [hnn] at h1
      exact h1
    have HOWN := Lib.hid hown
    have HTM := Lib.hid htm
    have s1 : Hid (([] : List EvM).length + l.length ≤ 2000000) := by unfold Hid; simp; omega
    have HFW : Hid (∀ k, F k → k < (w.alloc (.cells #[] 32)).heap.size) := fun k hk => by have := hF k hk; simp; omega
    have HZ : Hid (w.heap.size ≤ (w.alloc (.cells #[] 32)).heap.size) := by unfold Hid; simp
    clear h hlc hcm hown htm hF hnn
    go_enter Tryz.func55, Tryz.ntmps55
    go_wp2_with (at_builtin; refine list_appendL typed_fe (v := .slice (some ⟨w.heap.size, 0, none⟩) 0 0) (l := []) (ex := .slice (some ad) n c) (l2 := l) rfl (.tmp 5) (.tmp 6) rfl (by exact HOWN.out) (by exact HTM.out) rfl rfl (by exact s1.out) (by exact HZ.out) (by exact HFW.out) ?_; intro v3 w3 ho3 hg3 hk3; have HO := Lib.hid ho3; have HG := Lib.hid hg3; clear ho3 hg3 hk3)
    go_ret
    exact ⟨v3, rfl, HO.out, ((Below.refl _ _).alloc (Nat.le_refl _) _).grown HG.out (by simp) (fun j hj => by cases hj; exact Nat.le_refl _)⟩
abbrev ChsF (F : Nat → Prop) (w : World) (v : Value) (l : List ChM) : Prop := TmpL chK F w v l
/-- One cell of one's own row is set. -/
theorem own_setRow {w : World} {B T m n c g j : Nat} {xs : List Value} (h : w.ownsRow B T m (.slice (some ⟨g, 0, none⟩) n c) n xs) (u : Value) : (w.setCell ⟨g, j, none⟩ u).ownsRow B T m (.slice (some ⟨g, 0, none⟩) n c) n (xs.set j u) := by
  obtain ⟨g1, g2⟩ := h
  refine ⟨by rw [List.length_set]; exact g1, ?_⟩
  rcases g2 with ⟨e, _⟩ | ⟨g', cap, cur, e, hb, hg, h4, h5, h6, h7⟩
  · cases e
  · injection e with ea eb ec
    injection ea with ea
    injection ea with ea
    subst ea ec
    right
    refine ⟨g, c, cur.setIfInBounds j u, rfl, hb, (show Blk w g T cur from hg).set_ j u, h4, h5, by rw [Array.size_setIfInBounds]; exact h6, ?_⟩
    rw [Array.toList_setIfInBounds, List.take_set, h7]
theorem set_app7 (a b : List Value) (j : Nat) (d : Value) (h : a.length = 7) : (a ++ b).set (7 + j) d = a ++ b.set j d := by
  rw [List.set_append]
  rw [if_neg (by omega), h, Nat.add_sub_cancel_left]
theorem evC_set {l : List EvM} : ∀ {ds : List Value} {i : Nat} {d : Value}, ds.length = l.length → i < l.length → ShC evK l (ds.set i d) = (ShC evK l ds).set (i * 7 + 6) d := by
  induction l with
  | nil => intro ds i d _ hi; simp at hi
  | cons e l ih =>
    intro ds i d hd hi
    cases ds with
    | nil => simp at hd
    | cons d0 ds =>
      have hd' : ds.length = l.length := by simpa using hd
      cases i with
      | zero => rfl
      | succ i =>
        have h1 := ih (ds := ds) (i := i) (d := d) hd' (by simpa using hi)
        have h2 := set_app7 (evK.cells e d0) (ShC evK l ds) (i * 7 + 6) d rfl
        have h3 : (i + 1) * 7 + 6 = 7 + (i * 7 + 6) := by omega
        rw [h3]
        refine Eq.trans ?_ h2.symm
        rw [← h1]
        rfl
end Go.Proofs.YtlgmbljfjfcpoaaGreat.Tx
/- Package fsim: events copied with their data; what users did. -/
namespace Go.Proofs.YtlgmbljfjfcpoaaGreat.Tx
open Go.RowKit Go.Maps Go.Proofs.YtlgmbljfjfcpoaaGreat.Sh

/-- Events in a row of one's own: the first k have their data in N, the others in F. -/
def OwnC (F N : Nat → Prop) (k : Nat) (w : World) (B : Nat) (v : Value) (l : List EvM) : Prop :=
  ∃ ds, w.ownsRow B 32 7 v l.length (ShC evK l ds) ∧ ds.length = l.length ∧ ∀ (i : Nat) (d : Value) (e : EvM), ds[i]? = some d → l[i]? = some e → By (fun g => if i < k then N g else F g) w d e.data
theorem OwnC.start {F : Nat → Prop} {w : World} {B : Nat} {v : Value} {l : List EvM} (N : Nat → Prop) (h : OwnL evK 32 F w B v l) : OwnC F N 0 w B v l := by
  obtain ⟨⟨ds, h1, h2⟩, _⟩ := h
  refine ⟨ds, h1, h2.1.trans (List.length_map _), fun i d e hd he => ?_⟩
  have hb : (l.map evK.data)[i]? = some e.data := (List.getElem?_map (f := fun e : EvM => e.data) (l := l) (i := i)).trans (by rw [he]; rfl)
  exact (h2.2 i d e.data hd hb).mono (fun k _ hk => by rw [if_neg (by omega)]; exact hk)
theorem OwnC.only {F N : Nat → Prop} {k : Nat} {w w' : World} {B : Nat} {v : Value} {l : List EvM} (h : OwnC F N k w B v l) (hb : Below w.heap.size w w') : OwnC F N k w' B v l := by
  obtain ⟨ds, h1, h2, h3⟩ := h
  refine ⟨ds, ?_, h2, fun i d e hd he => (h3 i d e hd he).only (Only.of_below (M := fun _ => False) hb) (fun _ _ => id)⟩
  refine ⟨h1.1, h1.2.imp id fun ⟨g, cap, cur, a1, a2, a3, a4⟩ => ⟨g, cap, cur, a1, a2, ?_, a4⟩⟩
  exact (hb.block g (Array.getElem?_eq_some_iff.1 a3).1).trans a3
theorem OwnC.at_ {F N : Nat → Prop} {k : Nat} {w : World} {B : Nat} {v : Value} {l : List EvM} (h : OwnC F N k w B v l) {i : Nat} {e : EvM} (hi : l[i]? = some e) :
    ∃ (g c : Nat) (d : Value), v = .slice (some ⟨g, 0, none⟩) l.length c ∧ B ≤ g ∧ g < w.heap.size ∧ By (fun b => if i < k then N b else F b) w d e.data ∧ w.cell? ⟨g, i * 7 + 6, none⟩ = some d ∧ w.frozen? ⟨g, i * 7 + 6, none⟩ = false := by
  obtain ⟨ds, h1, h2, h3⟩ := h
  have hil := (List.getElem?_eq_some_iff.1 hi).1
  obtain ⟨d, hd⟩ : ∃ d, ds[i]? = some d := ⟨_, List.getElem?_eq_getElem (by rw [h2]; exact hil)⟩
  rcases h1.2 with ⟨_, e0⟩ | ⟨g, cap, cur, hv, hb, hg, _⟩
  · omega
  · refine ⟨g, cap, d, hv, hb, (Array.getElem?_eq_some_iff.1 hg).1, h3 i d e hd hi, ?_, (show Blk w g 32 cur from hg).frozen _⟩
    have h4 := h1.cells (g := g) (by rw [hv]; rfl) _ _ (ShC_at (K := evK) (k := i) hi hd 6 d rfl)
    rw [Addr.add_mid, Nat.zero_add] at h4
    exact h4
theorem OwnC.step {F N N' : Nat → Prop} {k : Nat} {w : World} {B g c : Nat} {l : List EvM} {e : EvM} {d : Value} (h : OwnC F N k w B (.slice (some ⟨g, 0, none⟩) l.length c) l) (hk : l[k]? = some e) (hN : ∀ b, N b → N' b) (hd : By N' w d e.data) (hFg : ¬ F g) (hNg : ¬ N' g) : OwnC F N' (k + 1) (w.setCell ⟨g, k * 7 + 6, none⟩ d) B (.slice (some ⟨g, 0, none⟩) l.length c) l := by
  obtain ⟨ds, h1, h2, h3⟩ := h
  have hkl := (List.getElem?_eq_some_iff.1 hk).1
  have ow : Only (fun b => b = g) w (w.setCell ⟨g, k * 7 + 6, none⟩ d) := Only.set_ (M := fun b => b = g) (g := g) (i := k * 7 + 6) (Only.refl _ w) (.inl rfl) d
  refine ⟨ds.set k d, ?_, by rw [List.length_set]; exact h2, fun i d' e' hd' he' => ?_⟩
  · rw [evC_set h2 hkl]
    exact own_setRow h1 d
  · by_cases hik : k = i
    · subst hik
      rw [List.getElem?_set_self (by rw [h2]; exact hkl)] at hd'
      injection hd' with hd'
      rw [hk] at he'
      injection he' with he'
      rw [← hd', ← he']
      exact (hd.only ow (fun b hb e => hNg (e ▸ hb))).mono (fun b _ hb => by rw [if_pos (by omega)]; exact hb)
    · rw [List.getElem?_set_ne hik] at hd'
      have h4 := h3 i d' e' hd' he'
      by_cases hlt : i < k
      · have h5 : By N w d' e'.data := h4.mono (fun b _ hb => by rw [if_pos hlt] at hb; exact hb)
        exact ((h5.mono (fun b _ hb => hN b hb)).only ow (fun b hb e => hNg (e ▸ hb))).mono (fun b _ hb => by rw [if_pos (by omega)]; exact hb)
      · have h5 : By F w d' e'.data := h4.mono (fun b _ hb => by rw [if_neg hlt] at hb; exact hb)
        exact (h5.only ow (fun b hb e => hFg (e ▸ hb))).mono (fun b _ hb => by rw [if_neg (by omega)]; exact hb)
theorem OwnC.done {F N : Nat → Prop} {w : World} {B : Nat} {v : Value} {l : List EvM} (h : OwnC F N l.length w B v l) (hv : ∀ k, v.ownBlock = some k → ¬ N k) : OwnL evK 32 N w B v l := by
  obtain ⟨ds, h1, h2, h3⟩ := h
  refine ⟨⟨ds, h1, h2.trans (List.length_map _).symm, fun i d bs hd hb => ?_⟩, hv⟩
  have hb' : l[i]?.map (fun e : EvM => e.data) = some bs := (List.getElem?_map (f := fun e : EvM => e.data) (l := l) (i := i)).symm.trans hb
  cases he : l[i]? with
  | none => rw [he] at hb'; cases hb'
  | some e =>
    rw [he] at hb'
    injection hb' with hb'
    have hil := (List.getElem?_eq_some_iff.1 he).1
    rw [← hb']
    exact (h3 i d e hd he).mono (fun b _ hb => by rw [if_pos hil] at hb; exact hb)
/-- New events: all that they hold is new. -/
def NewEvs (w : World) (l : List EvM) (v : Value) (w' : World) : Prop := OwnL evK 32 (fun k => w.heap.size ≤ k ∧ k < w'.heap.size ∧ v.ownBlock ≠ some k) w' w.heap.size v l ∧ Below w.heap.size w w'
end Go.Proofs.YtlgmbljfjfcpoaaGreat.Tx
/- Package fsim: what users did; a file system copied. -/
namespace Go.Proofs.YtlgmbljfjfcpoaaGreat.Tx
open Go.RowKit Go.Maps Go.Proofs.YtlgmbljfjfcpoaaGreat.Sh

theorem OwnL.inl {K : Shape} {T : TypeId} {F F' : Nat → Prop} {w : World} {B : Nat} {v : Value} {l : List K.α} (h : OwnL K T F w B v l) (hF : ∀ k, F k → F' k) (hv : ∀ k, v.ownBlock = some k → F' k) : InL K F' w v l := by
  obtain ⟨⟨ds, h1, h2⟩, _⟩ := h
  exact ⟨ds, Rd.of_own h1 hv, h2.mono (fun k _ hk => hF k hk)⟩
/-- A file system of its own. -/
def CopyPost (F : Nat → Prop) (w : World) (c : CSt) (e : Ending) (w' : World) : Prop := ∃ b M, e = .returned (.pointer (some ⟨b, 0, none⟩)) ∧ FcAt (grow F w w' M) w' b c M ∧ Below w.heap.size w w' ∧ ∀ k, M k → w.heap.size ≤ k
end Go.Proofs.YtlgmbljfjfcpoaaGreat.Tx
