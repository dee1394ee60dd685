/- Texts put together: VShDm3, VShDm4. -/
import Derived.Test.YtpfjlhpahmhkhaaGreatQv33
import Derived.Deep.CutBlock
import Derived.Deep.DeepCutAuto
/- The match of an index. -/
set_option linter.unusedVariables false
set_option linter.unusedSimpArgs false
namespace Go.Proofs.YtpfjlhpahmhkhaaGreat.Sh
open Go.RowKit
def IdxOf (base : List UInt8) (fs ns : List Int) : Prop := fs.length = base.length + 1 ∧ ns.length = base.length ∧ Idx (fun i => slotF fs.length (base.drop i)) (base.length + 1 - 8) 0 fs ns
theorem lcp_far {base t : List UInt8} {i : Nat} (h : 8 ≤ lcp (base.drop i) t) : i < base.length + 1 - 8 := by
 have := (lcp_le (base.drop i) t).1
 rw [List.length_drop] at this
 omega
theorem m8_short {base t : List UInt8} (h : t.length < 8) : m8 base t = (0, 0) := by
 rcases m8_ok base t with h' | ⟨h1, _, h3, _⟩
 ·exact h'
 ·omega
theorem lcp_gap {base t : List UInt8} {L i : Nat} (hs : i < base.length + 1 - 8 → slotF L (base.drop i) ≠ slotF L t) : lcp (base.drop i) t < 8 := by
 rcases Nat.lt_or_ge (lcp (base.drop i) t) 8 with h | h
 ·exact h
 ·exact absurd (slotF_same h) (hs (lcp_far h))
theorem getD_iv (l : List Int) (k : Nat) (hk : k < l.length) : (l.map iv)[k]? = some (.int .i64 (l.getD k 0)) := by
 rw [List.getElem?_map, List.getElem?_eq_getElem hk, List.getD_eq_getElem?_getD, List.getElem?_eq_getElem hk]
 rfl
def atM (l : Nat) (v : Value) : Nat := if intOf v < 0 then 0 else l + 1 - (intOf v).toNat
theorem atM_nat (l p : Nat) : atM l (.int .i64 (p : Int)) = l + 1 - p := by
 unfold atM
 have h : ¬ intOf (.int .i64 (p : Int)) < 0 := by show ¬ (p : Int) < 0; omega
 rw [if_neg h]
 rfl
theorem atM_none (l : Nat) : atM l (.int .i64 (-1)) = 0 := by unfold atM; exact if_pos (by decide)
set_option maxRecDepth 100000 in
set_option maxHeartbeats 3200000 in
theorem match_any (vb vf vn vt : Value) (base t : List UInt8) (fs ns : List Int) (w : World) (hb : Sl w vb base) (hf : SlV w vf (fs.map iv)) (hn : SlV w vn (ns.map iv)) (ht : Sl w vt t) (hx : IdxOf base fs ns) (h20 : base.length ≤ 20000) :
  Calls Tryz.prog 292 #[.agg #[vb, vf, vn], vt] w fun e w' => e = .returned (.tuple #[.int .i64 (((m8 base t).1 : Nat) : Int), .int .i64 (((m8 base t).2 : Nat) : Int)]) ∧ Below w.heap.size w w' := by
 obtain ⟨B, cb, rfl, hlb, hcb, hIb⟩ := hb.len
 obtain ⟨F, cf, rfl, hlf, hcf, hRf⟩ := hf.len
 obtain ⟨N, cn, rfl, hln, hcn, hRn⟩ := hn.len
 obtain ⟨T, c, rfl, hl, hcm, hI⟩ := ht.len
 rw [List.length_map] at hlf hln hRf hRn hf hn
 rw [List.length_map, List.length_map]
 unfold maxLen at hcb hcf hcn hcm
 obtain ⟨hfl, hnl, hidx⟩ := hx
 have HBW1 := Lib.hid ((Below.refl w.heap.size w).alloc (Nat.le_refl _) (.cells #[.slice B base.length cb, .slice F fs.length cf, .slice N ns.length cn] 372))
 have hblk := Blk.new w 372 #[.slice B base.length cb, .slice F fs.length cf, .slice N ns.length cn]
 have HBX : Hid (∀ W, Below (w.alloc (.cells #[.slice B base.length cb, .slice F fs.length cf, .slice N ns.length cn] 372)).heap.size (w.alloc (.cells #[.slice B base.length cb, .slice F fs.length cf, .slice N ns.length cn] 372)) W →
   W.cell? ⟨w.heap.size, 0, none⟩ = some (.slice B base.length cb) ∧ W.cell? ⟨w.heap.size, 1, none⟩ = some (.slice F fs.length cf) ∧ W.cell? ⟨w.heap.size, 2, none⟩ = some (.slice N ns.length cn)) := fun W hW => by
  have := hblk.below hW hblk.lt
  exact ⟨this.cell 0, this.cell 1, this.cell 2⟩
 clear hblk
 have HSB := Lib.hid hb
 have HSF := Lib.hid hf
 have HSN := Lib.hid hn
 have HST := Lib.hid ht
 have HID := Lib.hid hidx
 have HFL := Lib.hid hfl
 have HNL := Lib.hid hnl
 have HIB := Lib.hid hIb
 have HIT := Lib.hid hI
 have HRF := Lib.hid hRf
 have HRN := Lib.hid hRn
 by_cases h8 : t.length < 8
 ·rw [m8_short h8]
  have h8' : (t.length : Int) < 8 := by omega
  obtain ⟨l, hL⟩ : ∃ l, t.length = l := ⟨_, rfl⟩
  rw [hL] at h8' hl ⊢
  clear hb hf hn ht hIb hRf hRn hI hidx h8 hL hfl hnl
  go_enter Tryz.func292, Tryz.ntmps292
  go_wp2
  go_ret2
  exact ⟨rfl, HBW1.out⟩
 ·have h8' : (8 : Int) ≤ (t.length : Int) := by omega
  have hslt := slotF_lt (L := fs.length) (by omega) t
  have hfirst := hidx.1 _ hslt
  have hslot := fun (W : World) (hW : Below w.heap.size w W) => slot_any (.slice B base.length cb) (.slice F fs.length cf) (.slice N ns.length cn) (.slice T t.length c) fs t W (hf.below hW) (ht.below hW) (by omega) (by omega) (by omega)
  obtain ⟨adf, eF, hcf0⟩ := reads_at hRf (slotF fs.length t) _ (getD_iv fs _ hslt)
  subst eF
  obtain ⟨bl, hBL⟩ : ∃ l, base.length = l := ⟨_, rfl⟩
  obtain ⟨fl, hFL⟩ : ∃ l, fs.length = l := ⟨_, rfl⟩
  obtain ⟨nl, hNL⟩ : ∃ l, ns.length = l := ⟨_, rfl⟩
  obtain ⟨tl, hTL⟩ : ∃ l, t.length = l := ⟨_, rfl⟩
  rw [hBL] at hlb hfl hnl h20 HBW1 HBX HID HFL HNL hslot hfirst HSB ⊢
  rw [hFL] at hlf hfl hslt hcf0 HBW1 HBX HID HFL hslot hfirst HSF HRF ⊢
  rw [hNL] at hln hnl HBW1 HBX HNL hslot HSN HRN ⊢
  rw [hTL] at hl h8' hslot HST ⊢
  have HTL := Lib.hid hTL
  have HBLN := Lib.hid hBL
  have HNLN := Lib.hid hNL
  obtain ⟨s, hs⟩ : ∃ s, slotF fl t = s := ⟨_, rfl⟩
  rw [hs] at hslt hcf0 hslot hfirst
  have HS := Lib.hid hs
  obtain ⟨f0, hf0⟩ : ∃ f0, fs.getD s 0 = f0 := ⟨_, rfl⟩
  rw [hf0] at hcf0 hfirst
  have HFIRST := Lib.hid hfirst
  have HSLOT := Lib.hid hslot
  have HCF0 := Lib.hid hcf0
  obtain ⟨w1, hw1⟩ : ∃ w1, w.alloc (.cells #[.slice B bl cb, .slice (some adf) fl cf, .slice N nl cn] 372) = w1 := ⟨_, rfl⟩
  rw [hw1] at HBW1 HBX
  have HW1 := Lib.hid hw1
  have hs0 : (0 : Int) ≤ (s : Int) := by omega
  have hs1 : (s : Int) < (fl : Int) := by omega
  have hnm : Hid (nl = bl ∧ fl = bl + 1) := ⟨by omega, by omega⟩
  clear hb hf hn ht hIb hRf hRn hI hidx h8 hBL hFL hNL hTL hs hf0 hslot hcf0 hfirst hw1 hfl hnl
  go_enter Tryz.func292, Tryz.ntmps292
  go_wp2_with fail
  rw [HW1.out]
  have y0 : ∀ p : Aft w1, p.w'.cell? ⟨w.heap.size, 0, none⟩ = some (.slice B bl cb) := fun p => (HBX.out _ p.h).1
  have y1 : ∀ p : Aft w1, p.w'.cell? ⟨w.heap.size, 1, none⟩ = some (.slice (some adf) fl cf) := fun p => (HBX.out _ p.h).2.1
  have y2 : ∀ p : Aft w1, p.w'.cell? ⟨w.heap.size, 2, none⟩ = some (.slice N nl cn) := fun p => (HBX.out _ p.h).2.2
  have y3 : ∀ p : Aft w1, p.w'.cell? (adf.add s) = some (.int .i64 f0) := fun p => by
   have hW := HBW1.out.trans (p.h.mono HBW1.out.size)
   exact (hW.cell (World.block_lt_of_cell? w _ HCF0.out)).trans HCF0.out
  have HSL : Hid (∀ p : Aft w1, Calls Tryz.prog 338 #[.agg #[.slice B bl cb, .slice (some adf) fl cf, .slice N nl cn], .slice T tl c] p.w' fun e w' => e = .returned (.int .i64 (s : Int)) ∧ Below p.w'.heap.size p.w' w') := fun p => HSLOT.out _ (HBW1.out.trans (p.h.mono HBW1.out.size))
  refine aft_quiet (by kernel_rfl) (by kernel_rfl) ?_
  repeat (refine wpQuiet_step (fun K hK => ?_); go_simp; first | (refine hK _ ?_; clear hK K) | (apply Exists.intro; refine ⟨fun _ => ?_, hK _ ?_⟩; (first | (refine Calls.aft_of (HSL.out _))); clear hK K))
  refine wpQuiet_nil ?_
  intro _ hw'
  obtain ⟨p, hw''⟩ := hw'
  subst hw''
  have HBL := Lib.hid p.h
  clear y0 y1 y2 y3
  generalize p.w' = wl at *
  go_wp2_with fail
  go_loopw [6, 7, 8, 9, 10] (fun pl sz at_ _ _ wr => ∃ (k : Nat) (a : Int), at_ = .int .i64 a ∧ pl = .int .i64 (((best8 base t k).1 : Nat) : Int) ∧ sz = .int .i64 (((best8 base t k).2 : Nat) : Int) ∧ k ≤ bl ∧ IsNext (fun i => slotF fl (base.drop i)) (bl + 1 - 8) s k a ∧ Below w1.heap.size w1 wr) (fun _ _ at_ _ _ _ => atM bl at_)
  case atStart => exact ⟨0, f0, rfl, rfl, rfl, Nat.zero_le _, HFIRST.out, HBL.out⟩
  case round =>
   obtain ⟨k, a, rfl, rfl, rfl, hk, hnx, hbw⟩ := hrel
   have HBW := Lib.hid hbw
   have HWW := Lib.hid (HBW1.out.trans (hbw.mono HBW1.out.size))
   clear hbw
   rcases hnx with ⟨rfl, hno⟩ | ⟨p, rfl, hp1, hp2, hp3, hp4⟩
   ·have hfin : m8 base t = best8 base t k := best8_to base t k base.length (by rw [HBLN.out]; exact hk) (fun i h1 h2 => .inl (lcp_gap (L := fl) (fun hi => by rw [HS.out]; exact hno i h1 (by rw [← HBLN.out]; exact hi))))
    have HM := Lib.hid hfin
    obtain ⟨r, hr⟩ : ∃ r, best8 base t k = r := ⟨_, rfl⟩
    rw [hr] at HM ⊢
    clear hno hfin hr hk
    go_wp2_with fail
    go_ret2
    exact ⟨by rw [HM.out]; rfl, HWW.out⟩
   ·have hgap : best8 base t p = best8 base t k := best8_to base t k p hp1 (fun i h1 h2 => .inl (lcp_gap (L := fl) (fun hi => by rw [HS.out]; exact hp4 i h1 h2)))
    rw [← hgap]
    have hsz : (best8 base t p).2 ≤ tl := by
     rcases best8_ok base t p with h | ⟨_, _, h3⟩
     ·rw [h]; exact Nat.zero_le _
     ·rw [h3, ← HTL.out]; exact (lcp_le _ _).2
    have hnxt := HID.out.2 p (Nat.zero_le _) hp2
    simp only [] at hp3
    have hnxt : IsNext (fun i => slotF fl (base.drop i)) (bl + 1 - 8) s (p + 1) (ns.getD p 0) := by rw [← hp3]; exact hnxt
    obtain ⟨nx, hnxe⟩ : ∃ nx, ns.getD p 0 = nx := ⟨_, rfl⟩
    obtain ⟨adn, eN, hcn0⟩ := reads_at HRN.out p _ (getD_iv ns p (by rw [HNLN.out, HNL.out]; omega))
    subst eN
    rw [hnxe] at hnxt hcn0
    have HME : Hid (atM bl (.int .i64 nx) < atM bl (.int .i64 (p : Int))) := by
     unfold Hid
     rw [atM_nat]
     rcases hnxt with ⟨rfl, _⟩ | ⟨p', rfl, h1, h2, _⟩
     ·rw [atM_none]; omega
     ·rw [atM_nat]; omega
    have HNX := Lib.hid hnxt
    have HCN := Lib.hid hcn0
    have hlq := lcp_le (base.drop p) t
    rw [List.length_drop, HBLN.out, HTL.out] at hlq
    obtain ⟨mn, hmn1, hmn2, hmn3⟩ : ∃ mn, mn ≤ bl - p ∧ mn ≤ tl ∧ (mn = bl - p ∨ mn = tl) := ⟨min (bl - p) tl, by omega, by omega, by omega⟩
    have HBREAK : Hid (mn ≤ (best8 base t p).2 → m8 base t = best8 base t p) := fun hle => best8_to base t p base.length (by rw [HBLN.out]; omega) (fun i h1 h2 => .inr (by
     have h5 := lcp_le (base.drop i) t
     rw [List.length_drop, HBLN.out, HTL.out] at h5
     omega))
    have HSKIP : Hid (lcp (base.drop p) t ≤ (best8 base t p).2 → best8 base t (p + 1) = best8 base t p) := fun hle => best8_to base t p (p + 1) (by omega) (fun i h1 h2 => .inr (by
     have : i = p := by omega
     rw [this]; exact hle))
    have HLOW : Hid (lcp (base.drop p) t < 8 → best8 base t (p + 1) = best8 base t p) := fun hlt => best8_to base t p (p + 1) (by omega) (fun i h1 h2 => .inl (by
     have : i = p := by omega
     rw [this]; exact hlt))
    have HTAKE : Hid (8 ≤ lcp (base.drop p) t → (best8 base t p).2 < lcp (base.drop p) t → best8 base t (p + 1) = (p, lcp (base.drop p) t)) := fun h1 h2 => by rw [best8, if_pos ⟨h1, h2⟩]
    have HNOT : Hid (base.getD (p + (best8 base t p).2) 0 ≠ t.getD (best8 base t p).2 0 → lcp (base.drop p) t ≤ (best8 base t p).2) := fun hd => lcp_not (by
     rw [List.getD_eq_getElem?_getD, List.getElem?_drop, ← List.getD_eq_getElem?_getD]; exact hd)
    obtain ⟨sz, hsze⟩ : ∃ x, (best8 base t p).2 = x := ⟨_, rfl⟩
    obtain ⟨r, hr⟩ : ∃ r, best8 base t p = r := ⟨_, rfl⟩
    obtain ⟨q, hq⟩ : ∃ q, lcp (base.drop p) t = q := ⟨_, rfl⟩
    rw [hsze] at hsz HBREAK HSKIP HTAKE HNOT ⊢
    rw [hr] at HBREAK HSKIP HLOW hsze ⊢
    rw [hq] at hlq HSKIP HLOW HTAKE HNOT
    have HQ := Lib.hid hq
    have HSZE := Lib.hid hsze
    have hp0 : (0 : Int) ≤ (p : Int) := by omega
    have hpb : (p : Int) < (bl : Int) := by omega
    have hpn : (p : Int) < (nl : Int) := by have := HNL.out; omega
    have hpm : ((p : Int) != -1) = true := by rw [bne_iff_ne]; omega
    have hpb' : p + 8 ≤ bl := by omega
    obtain ⟨x0, x1, x2⟩ := HBX.out _ HBW.out
    clear hp1 hp2 hp3 hp4 hgap hnxt hnxe hcn0 hr hq hsze hk
    go_upto_region 7 with (fail)
    go_cut [9] (fun cx wx => cx = .int .i64 (mn : Int) ∧ wr = wx)
    case first =>
     go_wp2_with fail
     all_goals go_meet
     all_goals exact ⟨by congr 1; omega, rfl⟩
    case rest =>
     obtain ⟨rfl, rfl⟩ := hcut
     by_cases hbr : mn ≤ sz
     ·have hbr2 : (mn : Int) ≤ (sz : Int) := by omega
      have HM := Lib.hid (HBREAK.out hbr)
      clear hbr hmn3
      go_wp2_with fail
      go_ret2
      exact ⟨by rw [HM.out, HSZE.out]; rfl, HWW.out⟩
     ·have hbr2 : (sz : Int) < (mn : Int) := by omega
      obtain ⟨ab, rfl, hc1⟩ := (HIB.out.below HWW.out).at_ (p + sz) (by rw [HBLN.out]; omega)
      obtain ⟨at', rfl, hc2⟩ := (HIT.out.below HWW.out).at_ sz (by rw [HTL.out]; omega)
      have hi1 : (p : Int) + (sz : Int) < (bl : Int) := by omega
      have hi2 : (sz : Int) < (tl : Int) := by omega
      have hi3 : (0 : Int) ≤ (sz : Int) := by omega
      have hps : ((p + sz : Nat) : Int) = (p : Int) + (sz : Int) := by omega
      obtain ⟨ps, hpse⟩ : ∃ ps, p + sz = ps := ⟨_, rfl⟩
      rw [hpse] at hc1 hps HNOT
      have hwps : IntKind.i64.wrap ((p : Int) + (sz : Int)) = (ps : Int) := by rw [← hps]; exact IntWalk.i64_in _ (by omega)
      have hps0 : (0 : Int) ≤ (ps : Int) := by omega
      have hps1 : (ps : Int) < (bl : Int) := by omega
      have hsb := fun W => d_back (some ab) bl cb p (p : Int) rfl (by omega) W
      have hslb := (HSB.out.below HWW.out).back p (by rw [HBLN.out]; omega)
      rw [HBLN.out] at hslb
      obtain ⟨Bp, hBp⟩ : ∃ X, (if cb = p then some ab else (some ab).map (·.add p)) = X := ⟨_, rfl⟩
      rw [hBp] at hsb hslb
      have HSLB := Lib.hid hslb
      have HSTL := Lib.hid (HST.out.below HWW.out)
      have HPSE := Lib.hid hps
      clear hslb hBp hbr hpse hps
      by_cases heq : base.getD ps 0 = t.getD sz 0
      ·rw [heq] at hc1
       obtain ⟨x, hx⟩ : ∃ x, bi (t.getD sz 0) = x := ⟨_, rfl⟩
       rw [hx] at hc1 hc2
       have hxx : (x != x) = false := bne_self_eq_false x
       clear hx heq
       go_wp2_with fail
       go_quiet (fail)
       have HW2 := Lib.hid (below_drewN HBW.out nq)
       have HSLQ : Hid (Sl (wr.drewN nq) (.slice Bp (bl - p) (cb - p)) (base.drop p)) := HSLB.out
       have HSTQ : Hid (Sl (wr.drewN nq) (.slice (some at') tl c) t) := HSTL.out
       generalize wr.drewN nq = wq at *
       clear x0 x1 x2 hc1 hc2
       obtain ⟨x0, x1, x2⟩ := HBX.out _ HW2.out
       go_wp2_with fail
       refine (common_any _ _ (base.drop p) t wq HSLQ.out HSTQ.out).mono ?_
       rw [HQ.out]
       rintro e w3 ⟨rfl, hb3⟩
       have HW3 := Lib.hid (HW2.out.trans (hb3.mono HW2.out.size))
       have HWW3 := Lib.hid (HBW1.out.trans (HW3.out.mono HBW1.out.size))
       clear hb3
       by_cases hq8 : 8 ≤ q
       ·have hq8i : (8 : Int) ≤ (q : Int) := by omega
        by_cases hqs : sz < q
        ·have hqsi : (sz : Int) < (q : Int) := by omega
         have HB8 := Lib.hid (HTAKE.out hq8 hqs)
         clear x0 x1 x2
         obtain ⟨x0, x1, x2⟩ := HBX.out _ HW3.out
         have hcn := (HWW3.out.cell (World.block_lt_of_cell? w _ HCN.out)).trans HCN.out
         go_wp2_with fail
         go_roundw
         case rel => exact ⟨p + 1, nx, rfl, by rw [HB8.out], by rw [HB8.out], by omega, HNX.out, HW3.out⟩
         case measure => exact HME.out
        ·have hqsi : (q : Int) ≤ (sz : Int) := by omega
         have HB8 := Lib.hid (HSKIP.out (by omega))
         clear x0 x1 x2
         obtain ⟨x0, x1, x2⟩ := HBX.out _ HW3.out
         have hcn := (HWW3.out.cell (World.block_lt_of_cell? w _ HCN.out)).trans HCN.out
         go_wp2_with fail
         go_roundw
         case rel => exact ⟨p + 1, nx, rfl, by rw [HB8.out], by rw [HB8.out]; exact congrArg (fun x : Nat => Value.int .i64 (x : Int)) HSZE.out.symm, by omega, HNX.out, HW3.out⟩
         case measure => exact HME.out
       ·have hq8i : (q : Int) < (8 : Int) := by omega
        have HB8 := Lib.hid (HLOW.out (by omega))
        clear x0 x1 x2
        obtain ⟨x0, x1, x2⟩ := HBX.out _ HW3.out
        have hcn := (HWW3.out.cell (World.block_lt_of_cell? w _ HCN.out)).trans HCN.out
        go_wp2_with fail
        go_roundw
        case rel => exact ⟨p + 1, nx, rfl, by rw [HB8.out], by rw [HB8.out]; exact congrArg (fun x : Nat => Value.int .i64 (x : Int)) HSZE.out.symm, by omega, HNX.out, HW3.out⟩
        case measure => exact HME.out
      ·have hxx : (bi (base.getD ps 0) != bi (t.getD sz 0)) = true := by
        rw [bne_iff_ne]
        intro e
        exact heq (bi_inj e)
       have HB8 := Lib.hid (HSKIP.out (HNOT.out heq))
       generalize bi (base.getD ps 0) = x at *
       generalize bi (t.getD sz 0) = y at *
       have hcn := (HWW.out.cell (World.block_lt_of_cell? w _ HCN.out)).trans HCN.out
       clear heq
       go_wp2_with fail
       go_quiet (fail)
       go_wp2_with fail
       go_roundw
       case rel => exact ⟨p + 1, nx, rfl, by rw [HB8.out], by rw [HB8.out]; exact congrArg (fun x : Nat => Value.int .i64 (x : Int)) HSZE.out.symm, by omega, HNX.out, below_drewN HBW.out _⟩
       case measure => exact HME.out
end Go.Proofs.YtpfjlhpahmhkhaaGreat.Sh
/- The index of a base. -/
set_option linter.unusedVariables false
set_option linter.unusedSimpArgs false
namespace Go.Proofs.YtpfjlhpahmhkhaaGreat.Sh
open Go.RowKit
theorem d_make_ints (k : Nat) (hk : k ≤ 2000000) (w : World) : (Instr.makeSlice 77 (.int .i64 (k : Int)) (.int .i64 (k : Int))).run Tryz.prog w = .ok (.slice (some ⟨w.heap.size, 0, none⟩) k k) (w.alloc (.cells (madeCells #[.int .i64 0] k) 3)) := by
 obtain ⟨i0, hi, hz0, hz1, hz2⟩ := info_parts info_int
 have hr := run_make (P := Tryz.prog) w 77 3 i0 (.int .i64 0) Tryz.underlying77 hi hz0 .i64 .i64 k k (by omega) (by omega) (by rw [hz2]; omega) (by omega)
 rw [hz1] at hr
 simpa [Value.cells] using hr
def BlkI (w : World) (g : Nat) (l : List Int) : Prop := Blk w g 3 (l.map iv).toArray
theorem BlkI.made (w : World) (k : Nat) : BlkI (w.alloc (.cells (madeCells #[.int .i64 0] k) 3)) w.heap.size (List.replicate k 0) := by
 have h := Blk.new w 3 (madeCells #[.int .i64 0] k)
 unfold BlkI
 have e : (madeCells #[.int .i64 0] k) = ((List.replicate k (0 : Int)).map iv).toArray := by
  apply Array.ext'
  rw [toList_madeCells_one, List.toList_toArray, List.map_replicate]
  rfl
 rw [← e]
 exact h
theorem BlkI.cell {w : World} {g : Nat} {l : List Int} (h : BlkI w g l) (i : Nat) (hi : i < l.length) : w.cell? ⟨g, i, none⟩ = some (.int .i64 (l.getD i 0)) := by
 rw [Blk.cell h, List.getElem?_toArray]
 exact getD_iv l i hi
theorem BlkI.set {w : World} {g : Nat} {l : List Int} (h : BlkI w g l) (i : Nat) (v : Int) : BlkI (w.setCell ⟨g, i, none⟩ (.int .i64 v)) g (l.set i v) := by
 have := Blk.set_ h i (.int .i64 v)
 unfold BlkI
 rw [List.map_set, ← List.setIfInBounds_toArray]
 exact this
theorem BlkI.far {w : World} {g : Nat} {l : List Int} (h : BlkI w g l) {p : Addr} (hp : g ≠ p.block) (u : Value) : BlkI (w.setCell p u) g l := Blk.far h hp u
theorem BlkI.slv {w : World} {g n : Nat} {l : List Int} (h : BlkI w g l) (hn : l.length = n) (hm : n ≤ 2000000) : SlV w (.slice (some ⟨g, 0, none⟩) n n) (l.map iv) := by
 subst hn
 refine ⟨some ⟨g, 0, none⟩, l.length, by rw [List.length_map], by rw [List.length_map]; exact Nat.le_refl _, by unfold maxLen; omega, ⟨by rw [List.length_map, Nat.mul_one], fun _ => ⟨_, rfl, Blk.lt h, fun j u hu => ?_⟩⟩, fun e => by cases e⟩
 have hj : j < l.length := by have := (List.getElem?_eq_some_iff.1 hu).1; rwa [List.length_map] at this
 rw [Addr.add_mid, Nat.zero_add, h.cell j hj, ← hu, getD_iv l j hj]
def Mk (w0 w : World) (g gf gn : Nat) (B : Option Addr) (bl cb : Nat) (fs ns : List Int) : Prop :=
 Blk w g 372 #[.slice B bl cb, .slice (some ⟨gf, 0, none⟩) (bl + 1) (bl + 1), .slice (some ⟨gn, 0, none⟩) bl bl] ∧ BlkI w gf fs ∧ BlkI w gn ns ∧ gf ≠ gn ∧ g ≠ gf ∧ g ≠ gn ∧ w0.heap.size ≤ g ∧ w0.heap.size ≤ gf ∧ w0.heap.size ≤ gn ∧ Below w0.heap.size w0 w
theorem Blk.at_ {W : World} {g : Nat} (cs : Array Value) (t : TypeId) (h : W.heap.size = g) : Blk (W.alloc (.cells cs t)) g t cs := by subst h; exact Blk.new W t cs
theorem BlkI.at_ {W : World} {g : Nat} (k : Nat) (h : W.heap.size = g) : BlkI (W.alloc (.cells (madeCells #[.int .i64 0] k) 3)) g (List.replicate k 0) := by subst h; exact BlkI.made W k
theorem BlkI.alloc {w : World} {g : Nat} {l : List Int} (h : BlkI w g l) (o : Obj) : BlkI (w.alloc o) g l := Blk.alloc h o
theorem BlkI.drew {w : World} {g : Nat} {l : List Int} (h : BlkI w g l) : BlkI w.drew g l := h
theorem BlkI.below {w w' : World} {g B : Nat} {l : List Int} (h : BlkI w g l) (hb : Below B w w') (hg : g < B) : BlkI w' g l := Blk.below h hb hg
section
variable {w0 w w' : World} {g gf gn bl cb : Nat} {B : Option Addr} {fs ns : List Int}
theorem Mk.below (h : Mk w0 w g gf gn B bl cb fs ns) (hb : Below w.heap.size w w') : Mk w0 w' g gf gn B bl cb fs ns := by
 obtain ⟨h1, h2, h3, h4, h5, h6, h7, h8, h9, h10⟩ := h
 exact ⟨h1.below hb h1.lt, h2.below hb (Blk.lt h2), h3.below hb (Blk.lt h3), h4, h5, h6, h7, h8, h9, h10.trans (hb.mono h10.size)⟩
theorem Mk.setF (h : Mk w0 w g gf gn B bl cb fs ns) (i : Nat) (v : Int) : Mk w0 (w.setCell ⟨gf, i, none⟩ (.int .i64 v)) g gf gn B bl cb (fs.set i v) ns := by
 obtain ⟨h1, h2, h3, h4, h5, h6, h7, h8, h9, h10⟩ := h
 exact ⟨h1.far h5 _, h2.set i v, h3.far (fun e => h4 e.symm) _, h4, h5, h6, h7, h8, h9, h10.setCell (p := ⟨gf, i, none⟩) h8 _⟩
theorem Mk.setN (h : Mk w0 w g gf gn B bl cb fs ns) (i : Nat) (v : Int) : Mk w0 (w.setCell ⟨gn, i, none⟩ (.int .i64 v)) g gf gn B bl cb fs (ns.set i v) := by
 obtain ⟨h1, h2, h3, h4, h5, h6, h7, h8, h9, h10⟩ := h
 exact ⟨h1.far h6 _, h2.far h4 _, h3.set i v, h4, h5, h6, h7, h8, h9, h10.setCell (p := ⟨gn, i, none⟩) h9 _⟩
end
theorem set_rep (k n : Nat) (hk : k < n) : (List.replicate k (-1 : Int) ++ List.replicate (n - k) 0).set k (-1) = List.replicate (k + 1) (-1) ++ List.replicate (n - (k + 1)) 0 := by
 rw [List.set_append_right _ _ (by simp), List.length_replicate, Nat.sub_self, show n - k = (n - (k + 1)) + 1 from by omega, List.replicate_succ, List.set_cons_zero, List.replicate_succ']
 simp
theorem set3_ {W : World} {r : Nat} {T : TypeId} {x0 x1 x2 : Value} (h : Blk W r T #[x0, x1, x2]) (a b c : Value) :
  Blk (((W.setCell ⟨r, 0, none⟩ a).setCell ⟨r, 1, none⟩ b).setCell ⟨r, 2, none⟩ c) r T #[a, b, c] := by
 have := ((h.set_ 0 a).set_ 1 b).set_ 2 c
 simpa using this
theorem Idx.start (h : Nat → Nat) (n : Nat) (fs ns : List Int) (hf : ∀ s, s < fs.length → fs.getD s 0 = -1) : Idx h n n fs ns :=
 ⟨fun s hs => by rw [hf s hs]; exact IsNext.none_ h n s n (Nat.le_refl _), fun i h1 h2 => by omega⟩
def At_ (a : Int) (k : Nat) : Prop := k = 0 ∧ a < 0 ∨ ∃ j : Nat, k = j + 1 ∧ a = (j : Int)
def IndexPost (w : World) (vb : Value) (base : List UInt8) (e : Ending) (w' : World) : Prop :=
 ∃ vf vn fs ns, e = .returned (.agg #[vb, vf, vn]) ∧ SlV w' vf (fs.map iv) ∧ SlV w' vn (ns.map iv) ∧ IdxOf base fs ns ∧ Below w.heap.size w w'
set_option maxRecDepth 100000 in
set_option maxHeartbeats 3200000 in
theorem index_any (vb : Value) (base : List UInt8) (w : World) (hb : Sl w vb base) (h20 : base.length ≤ 20000) :
  Calls Tryz.prog 290 #[vb] w (IndexPost w vb base) := by
 obtain ⟨B, cb, rfl, hlb, hcb, hIb⟩ := hb.len
 unfold maxLen at hcb
 obtain ⟨bl, hBL⟩ : ∃ l, base.length = l := ⟨_, rfl⟩
 rw [hBL] at hlb h20 hb ⊢
 have HSB := Lib.hid hb
 have HBL := Lib.hid hBL
 have hm1 : ∀ W, (Instr.makeSlice 77 (.int .i64 ((bl : Int) + 1)) (.int .i64 ((bl : Int) + 1))).run Tryz.prog W = .ok (.slice (some ⟨W.heap.size, 0, none⟩) (bl + 1) (bl + 1)) (W.alloc (.cells (madeCells #[.int .i64 0] (bl + 1)) 3)) := fun W => d_make_ints (bl + 1) (by omega) W
 have hm2 : ∀ W, (Instr.makeSlice 77 (.int .i64 (bl : Int)) (.int .i64 (bl : Int))).run Tryz.prog W = .ok (.slice (some ⟨W.heap.size, 0, none⟩) bl bl) (W.alloc (.cells (madeCells #[.int .i64 0] bl) 3)) := fun W => d_make_ints bl (by omega) W
 clear hb hIb hBL
 go_enter Tryz.func290, Tryz.ntmps290
 go_wp2_with fail
 go_cut [3] (fun v wx => ∃ g gf gn, v = .pointer (some ⟨g, 0, none⟩) ∧ Mk w wx g gf gn B bl cb (List.replicate (bl + 1) 0) (List.replicate bl 0) ∧ Blk wx w.heap.size 372 #[.slice none 0 0, .slice none 0 0, .slice none 0 0] ∧ g ≠ w.heap.size)
 case first =>
  go_region
  all_goals go_wp2_with fail
  all_goals go_meet
  all_goals (apply Exists.intro; apply Exists.intro; apply Exists.intro; refine ⟨rfl, ⟨?_, ?_, ?_, ?_, ?_, ?_, ?_, ?_, ?_, ?_⟩, ?_, ?_⟩)
  all_goals first
   | omega
   | (refine Blk.drew ?_; first | exact Blk.at_ _ _ (by simp) | (refine Blk.alloc ?_ _; first | exact Blk.at_ _ _ (by simp) | (refine Blk.alloc ?_ _; first | exact Blk.at_ _ _ (by simp) | (refine Blk.alloc ?_ _; exact Blk.at_ _ _ rfl))))
   | (refine BlkI.drew ?_; first | exact BlkI.at_ _ (by simp) | (refine BlkI.alloc ?_ _; first | exact BlkI.at_ _ (by simp) | (refine BlkI.alloc ?_ _; exact BlkI.at_ _ (by simp))))
   | exact ((((((Below.refl _ _).alloc (Nat.le_refl _) _).alloc (by simp) _).alloc (by simp; omega) _).alloc (by simp; omega) _).drew)
 case rest =>
  obtain ⟨g, gf, gn, rfl, hmk, hres, hgr⟩ := hcut
  have HMK := Lib.hid hmk
  have HRS := Lib.hid hres
  have hgl := hmk.1.lt
  have a1 : wc.cell? ⟨g, 1, none⟩ = some (.slice (some ⟨gf, 0, none⟩) (bl + 1) (bl + 1)) := hmk.1.cell 1
  have hgw : w.heap.size ≤ g ∧ w.heap.size < wc.heap.size := ⟨hmk.2.2.2.2.2.2.1, hres.lt⟩
  have HGW := Lib.hid hgw
  clear hmk hres hm1 hm2 hgw
  go_wp2_with fail
  clear a1
  go_loopw [4, 19] (fun _ i wr => ∃ k : Nat, k ≤ bl + 1 ∧ i = .int .i64 k ∧ Mk w wr g gf gn B bl cb (List.replicate k (-1) ++ List.replicate (bl + 1 - k) 0) (List.replicate bl 0) ∧ Blk wr w.heap.size 372 #[.slice none 0 0, .slice none 0 0, .slice none 0 0]) (fun _ i _ => bl + 1 - (intOf i).toNat)
  case atStart => exact ⟨0, Nat.zero_le _, rfl, HMK.out, HRS.out⟩
  case round =>
   clear HMK HRS
   obtain ⟨k, hk, rfl, hmk, hres⟩ := hrel
   have a1 : wr.cell? ⟨g, 1, none⟩ = some (.slice (some ⟨gf, 0, none⟩) (bl + 1) (bl + 1)) := hmk.1.cell 1
   by_cases hkl : k < bl + 1
   ·have hk0 : (0 : Int) ≤ (k : Int) := by omega
    have hk1 : (k : Int) < (bl : Int) + 1 := by omega
    have a2 := hmk.2.1.cell k (by simp; omega)
    have a3 : wr.frozen? ⟨gf, k, none⟩ = false := Blk.frozen hmk.2.1 k
    have hm2 := hmk.setF k (-1)
    rw [set_rep k (bl + 1) hkl] at hm2
    have hr2 := hres.far (p := ⟨gf, k, none⟩) (show w.heap.size ≠ gf by have := hmk.2.2.2.2.2.2.2.1; intro e; subst e; exact absurd rfl (Blk.ne_ hres hmk.2.1 (by decide))) (.int .i64 (-1))
    have HM2 := Lib.hid hm2
    have HR2 := Lib.hid hr2
    clear hmk hres hm2 hr2
    go_wp2_with fail
    go_roundw
    case rel => exact ⟨k + 1, by omega, by go_num, HM2.out, HR2.out⟩
    case measure => simp [intOf]; omega
   ·obtain rfl : k = bl + 1 := by omega
    rw [Nat.sub_self, List.replicate_zero, List.append_nil] at hmk
    have hk1 : ¬ (((bl + 1 : Nat) : Int) < (bl : Int) + 1) := by omega
    have HMK := Lib.hid hmk
    have HRS := Lib.hid hres
    obtain ⟨wl, hwl⟩ : ∃ wl, wl = wr := ⟨_, rfl⟩
    subst hwl
    clear hmk hres a1 hkl hk
    go_wp2_with fail
    have HID0 : Hid (Idx (fun i => slotF (bl + 1) (base.drop i)) (bl + 1 - 8) (bl + 1 - 8) (List.replicate (bl + 1) (-1)) (List.replicate bl 0)) := Idx.start _ _ _ _ (fun s hs => by
     rw [List.length_replicate] at hs
     rw [List.getD_eq_getElem?_getD, List.getElem?_replicate, if_pos hs]; rfl)
    have HA0 : Hid (At_ ((bl : Int) - 8) (bl + 1 - 8)) := by
     by_cases h : bl < 8
     ·exact .inl ⟨by omega, by omega⟩
     ·exact .inr ⟨bl - 8, by omega, by omega⟩
    go_loopw [5, 6] (fun v _ wr => ∃ (a : Int) (k : Nat) (fs ns : List Int), v = .int .i64 a ∧ At_ a k ∧ -9 ≤ a ∧ k ≤ bl + 1 - 8 ∧ fs.length = bl + 1 ∧ ns.length = bl ∧ Idx (fun i => slotF (bl + 1) (base.drop i)) (bl + 1 - 8) k fs ns ∧ Mk w wr g gf gn B bl cb fs ns ∧ Blk wr w.heap.size 372 #[.slice none 0 0, .slice none 0 0, .slice none 0 0]) (fun v _ _ => (intOf v + 1).toNat)
    case atStart => exact ⟨_, _, _, _, rfl, HA0.out, by omega, Nat.le_refl _, by simp, by simp, HID0.out, HMK.out, HRS.out⟩
    case round =>
     clear HID0 HA0 HMK HRS
     obtain ⟨a, k, fs, ns, rfl, ha, ha9, hk, hfl, hnl, hix, hmk, hres⟩ := hrel
     rcases ha with ⟨rfl, ha⟩ | ⟨j, rfl, rfl⟩
     ·have hn : ¬ (0 : Int) ≤ a := by omega
      have c0 : wr.cell? ⟨g, 0, none⟩ = some (.slice B bl cb) := hmk.1.cell 0
      have c1 : wr.cell? ⟨g, 1, none⟩ = some (.slice (some ⟨gf, 0, none⟩) (bl + 1) (bl + 1)) := hmk.1.cell 1
      have c2 : wr.cell? ⟨g, 2, none⟩ = some (.slice (some ⟨gn, 0, none⟩) bl bl) := hmk.1.cell 2
      have r0 : wr.cell? ⟨w.heap.size, 0, none⟩ = some (.slice none 0 0) := hres.cell 0
      have r1 : wr.cell? ⟨w.heap.size, 1, none⟩ = some (.slice none 0 0) := hres.cell 1
      have r2 : wr.cell? ⟨w.heap.size, 2, none⟩ = some (.slice none 0 0) := hres.cell 2
      have f0 : wr.frozen? ⟨w.heap.size, 0, none⟩ = false := hres.frozen 0
      have f1 : wr.frozen? ⟨w.heap.size, 1, none⟩ = false := hres.frozen 1
      have f2 : wr.frozen? ⟨w.heap.size, 2, none⟩ = false := hres.frozen 2
      have HR3 := Lib.hid (set3_ hres (.slice B bl cb) (.slice (some ⟨gf, 0, none⟩) (bl + 1) (bl + 1)) (.slice (some ⟨gn, 0, none⟩) bl bl))
      obtain ⟨m1, m2, m3, m4, m5, m6, m7, m8, m9, m10⟩ := hmk
      have hrf : w.heap.size ≠ gf := by intro e; subst e; exact absurd rfl (Blk.ne_ hres m2 (by decide))
      have hrn : w.heap.size ≠ gn := by intro e; subst e; exact absurd rfl (Blk.ne_ hres m3 (by decide))
      have hF3 : BlkI (((wr.setCell ⟨w.heap.size, 0, none⟩ (.slice B bl cb)).setCell ⟨w.heap.size, 1, none⟩ (.slice (some ⟨gf, 0, none⟩) (bl + 1) (bl + 1))).setCell ⟨w.heap.size, 2, none⟩ (.slice (some ⟨gn, 0, none⟩) bl bl)) gf fs := ((m2.far (fun e => hrf e.symm) _).far (fun e => hrf e.symm) _).far (fun e => hrf e.symm) _
      have hN3 : BlkI (((wr.setCell ⟨w.heap.size, 0, none⟩ (.slice B bl cb)).setCell ⟨w.heap.size, 1, none⟩ (.slice (some ⟨gf, 0, none⟩) (bl + 1) (bl + 1))).setCell ⟨w.heap.size, 2, none⟩ (.slice (some ⟨gn, 0, none⟩) bl bl)) gn ns := ((m3.far (fun e => hrn e.symm) _).far (fun e => hrn e.symm) _).far (fun e => hrn e.symm) _
      have hB3 : Below w.heap.size w (((wr.setCell ⟨w.heap.size, 0, none⟩ (.slice B bl cb)).setCell ⟨w.heap.size, 1, none⟩ (.slice (some ⟨gf, 0, none⟩) (bl + 1) (bl + 1))).setCell ⟨w.heap.size, 2, none⟩ (.slice (some ⟨gn, 0, none⟩) bl bl)) :=
       ((m10.setCell (p := ⟨w.heap.size, 0, none⟩) (Nat.le_refl _) _).setCell (p := ⟨w.heap.size, 1, none⟩) (Nat.le_refl _) _).setCell (p := ⟨w.heap.size, 2, none⟩) (Nat.le_refl _) _
      have HF3 := Lib.hid (hF3.slv hfl (by omega))
      have HN3 := Lib.hid (hN3.slv hnl (by omega))
      have HB3 := Lib.hid hB3
      have HIX : Hid (IdxOf base fs ns) := by
       refine ⟨by rw [hfl, HBL.out], by rw [hnl, HBL.out], ?_⟩
       rw [hfl, HBL.out]
       exact hix
      clear m1 m2 m3 m4 m5 m6 m7 m8 m9 m10 hF3 hN3 hB3 hix hres hrf hrn hfl hnl ha
      go_wp2_with fail
      generalize ((wr.setCell ⟨w.heap.size, 0, none⟩ (.slice B bl cb)).setCell ⟨w.heap.size, 1, none⟩ (.slice (some ⟨gf, 0, none⟩) (bl + 1) (bl + 1))).setCell ⟨w.heap.size, 2, none⟩ (.slice (some ⟨gn, 0, none⟩) bl bl) = wz at *
      have q0 : wz.cell? ⟨w.heap.size, 0, none⟩ = some (.slice B bl cb) := HR3.out.cell 0
      have q1 : wz.cell? ⟨w.heap.size, 1, none⟩ = some (.slice (some ⟨gf, 0, none⟩) (bl + 1) (bl + 1)) := HR3.out.cell 1
      have q2 : wz.cell? ⟨w.heap.size, 2, none⟩ = some (.slice (some ⟨gn, 0, none⟩) bl bl) := HR3.out.cell 2
      refine bodyPost_ret (v := .agg #[.slice B bl cb, .slice (some ⟨gf, 0, none⟩) (bl + 1) (bl + 1), .slice (some ⟨gn, 0, none⟩) bl bl]) (by simp [results, Tryz.results290, go_sem, q0, q1, q2]) rfl ?_
      exact ⟨_, _, fs, ns, rfl, HF3.out, HN3.out, HIX.out, HB3.out⟩
     ·have hj0 : (0 : Int) ≤ (j : Int) := by omega
      have hjl : j + 8 ≤ bl := by omega
      have hjb : (j : Int) < (bl : Int) := by omega
      have HMK := Lib.hid hmk
      have HRS := Lib.hid hres
      have HIX := Lib.hid hix
      have HFL := Lib.hid hfl
      have HNL := Lib.hid hnl
      have hsb := fun W => d_back B bl cb j (j : Int) rfl (by omega) W
      have HSJ : Hid (∀ W, Below w.heap.size w W → Sl W (.slice (if cb = j then B else B.map (·.add j)) (bl - j) (cb - j)) (base.drop j)) := fun W hW => by
       have := (HSB.out.below hW).back j (by rw [HBL.out]; omega)
       rw [HBL.out] at this
       exact this
      obtain ⟨Bj, hBj⟩ : ∃ X, (if cb = j then B else B.map (·.add j)) = X := ⟨_, rfl⟩
      rw [hBj] at hsb HSJ
      have hsl := slotF_lt (L := bl + 1) (by omega) (base.drop j)
      have HSLOT : Hid (∀ p : Aft wr, Calls Tryz.prog 338 #[.agg #[.slice B bl cb, .slice (some ⟨gf, 0, none⟩) (bl + 1) (bl + 1), .slice (some ⟨gn, 0, none⟩) bl bl], .slice Bj (bl - j) (cb - j)] p.w' fun e w' => e = .returned (.int .i64 ((slotF (bl + 1) (base.drop j) : Nat) : Int)) ∧ Below p.w'.heap.size p.w' w') := fun p => by
       have hp := HMK.out.below p.h
       have := slot_any (.slice B bl cb) (.slice (some ⟨gf, 0, none⟩) (bl + 1) (bl + 1)) (.slice (some ⟨gn, 0, none⟩) bl bl) (.slice Bj (bl - j) (cb - j)) fs (base.drop j) p.w' (hp.2.1.slv HFL.out (by omega)) (HSJ.out _ hp.2.2.2.2.2.2.2.2.2) (by rw [List.length_drop, HBL.out]; omega) (by rw [HFL.out]; omega) (by rw [HFL.out]; omega)
       rw [HFL.out] at this
       exact this
      obtain ⟨s, hs⟩ : ∃ s, slotF (bl + 1) (base.drop j) = s := ⟨_, rfl⟩
      rw [hs] at hsl HSLOT
      have HS := Lib.hid hs
      have y0 : ∀ p : Aft wr, p.w'.cell? ⟨g, 0, none⟩ = some (.slice B bl cb) := fun p => (HMK.out.below p.h).1.cell 0
      have y1 : ∀ p : Aft wr, p.w'.cell? ⟨g, 1, none⟩ = some (.slice (some ⟨gf, 0, none⟩) (bl + 1) (bl + 1)) := fun p => (HMK.out.below p.h).1.cell 1
      have y2 : ∀ p : Aft wr, p.w'.cell? ⟨g, 2, none⟩ = some (.slice (some ⟨gn, 0, none⟩) bl bl) := fun p => (HMK.out.below p.h).1.cell 2
      clear hmk hres hix hfl hnl hBj hs
      go_wp2_with fail
      refine aft_quiet (by kernel_rfl) (by kernel_rfl) ?_
      repeat (refine wpQuiet_step (fun K hK => ?_); go_simp; first | (refine hK _ ?_; clear hK K) | (apply Exists.intro; refine ⟨fun _ => ?_, hK _ ?_⟩; (first | (refine Calls.aft_of (HSLOT.out _))); clear hK K))
      refine wpQuiet_nil ?_
      intro _ hw'
      obtain ⟨p, hw''⟩ := hw'
      subst hw''
      have HM1 := Lib.hid (HMK.out.below p.h)
      have HR1 := Lib.hid (HRS.out.below p.h HRS.out.lt)
      clear y0 y1 y2
      generalize p.w' = wq at *
      obtain ⟨x, hx⟩ : ∃ x, fs.getD s 0 = x := ⟨_, rfl⟩
      have c1 : wq.cell? ⟨g, 1, none⟩ = some (.slice (some ⟨gf, 0, none⟩) (bl + 1) (bl + 1)) := HM1.out.1.cell 1
      have c2 : wq.cell? ⟨g, 2, none⟩ = some (.slice (some ⟨gn, 0, none⟩) bl bl) := HM1.out.1.cell 2
      have c3 : wq.cell? ⟨gf, s, none⟩ = some (.int .i64 x) := by rw [← hx]; exact HM1.out.2.1.cell s (by rw [HFL.out]; exact hsl)
      have c4 := HM1.out.2.2.1.cell j (by rw [HNL.out]; omega)
      have c5 : wq.frozen? ⟨gn, j, none⟩ = false := Blk.frozen HM1.out.2.2.1 j
      have hs0 : (0 : Int) ≤ (s : Int) := by omega
      have hs1 : (s : Int) < (bl : Int) + 1 := by omega
      have HM2 := Lib.hid (HM1.out.setN j x)
      have hrs2 : w.heap.size ≠ gn := by intro e; have := HM1.out.2.2.1; rw [← e] at this; exact absurd rfl (Blk.ne_ HR1.out this (by decide))
      have hrs3 : w.heap.size ≠ gf := by intro e; have := HM1.out.2.1; rw [← e] at this; exact absurd rfl (Blk.ne_ HR1.out this (by decide))
      have HR2 := Lib.hid (HR1.out.far (p := ⟨gn, j, none⟩) hrs2 (.int .i64 x))
      have HX := Lib.hid hx
      clear hx
      go_wp2_with fail
      go_region
      have HM3 := Lib.hid (HM2.out.below ((Below.refl _ _).drew))
      have HR3 := Lib.hid HR2.out.drew
      clear c1 c2 c3 c4 c5 HM2 HR2
      generalize (wq.setCell ⟨gn, j, none⟩ (.int .i64 x)).drew = wv at *
      have c1 : wv.cell? ⟨g, 1, none⟩ = some (.slice (some ⟨gf, 0, none⟩) (bl + 1) (bl + 1)) := HM3.out.1.cell 1
      have c4 := HM3.out.2.1.cell s (by rw [HFL.out]; exact hsl)
      have c5 : wv.frozen? ⟨gf, s, none⟩ = false := Blk.frozen HM3.out.2.1 s
      have HM4 := Lib.hid (HM3.out.setF s (j : Int))
      have HR4 := Lib.hid (HR3.out.far (p := ⟨gf, s, none⟩) hrs3 (.int .i64 (j : Int)))
      have HIX2 : Hid (Idx (fun i => slotF (bl + 1) (base.drop i)) (bl + 1 - 8) j (fs.set s (j : Int)) (ns.set j x)) := by
       have := HIX.out.step (by omega) (by show slotF (bl + 1) (base.drop j) < _; rw [HS.out, HFL.out]; exact hsl) (by rw [HNL.out]; omega)
       simp only [HS.out, HX.out] at this
       exact this
      have HAT : Hid (At_ ((j : Int) - 1) j) := by
       by_cases h0 : j = 0
       ·exact .inl ⟨h0, by omega⟩
       ·exact .inr ⟨j - 1, by omega, by omega⟩
      go_wp2_with fail
      go_roundw
      case rel => exact ⟨(j : Int) - 1, j, _, _, rfl, HAT.out, by omega, by omega, by rw [List.length_set]; exact HFL.out, by rw [List.length_set]; exact HNL.out, HIX2.out, HM4.out, HR4.out⟩
      case measure => simp [intOf]
end Go.Proofs.YtpfjlhpahmhkhaaGreat.Sh
