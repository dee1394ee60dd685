/- Texts put together: YShDm3. -/
import Derived.Test.YteffiedolcjjlaaGreatQw28
import Derived.Deep.CutBlock
import Derived.Deep.DeepCutAuto
/- The match of an index. -/
set_option linter.unusedVariables false
set_option linter.unusedSimpArgs false
namespace Go.Proofs.YteffiedolcjjlaaGreat.Sh
open Go.RowKit

/-- The places of a base that may be copied from, by their slots. -/
def IdxOf (base : List UInt8) (fs ns : List Int) : Prop := fs.length = base.length + 1 ∧ ns.length = base.length ∧ Idx (fun i => slotF fs.length (base.drop i)) (base.length + 1 - 8) 0 fs ns
theorem lcp_far {base t : List UInt8} {i : Nat} (h : 8 ≤ lcp (base.drop i) t) : i < base.length + 1 - 8 := by
  have := (lcp_le (base.drop i) t).1
  rw [List.length_drop] at this
  omega
theorem m8_short {base t : List UInt8} (h : t.length < 8) : m8 base t = (0, 0) := by
  rcases m8_ok base t with h' | ⟨h1, _, h3, _⟩
  · exact h'
  · omega
/-- Between the places of a slot there is no copy. -/
theorem lcp_gap {base t : List UInt8} {L i : Nat} (hs : i < base.length + 1 - 8 → slotF L (base.drop i) ≠ slotF L t) : lcp (base.drop i) t < 8 := by
  rcases Nat.lt_or_ge (lcp (base.drop i) t) 8 with h | h
  · exact h
  · exact absurd (slotF_same h) (hs (lcp_far h))
theorem getD_iv (l : List Int) (k : Nat) (hk : k < l.length) : (l.map iv)[k]? = some (.int .i64 (l.getD k 0)) := by
  rw [List.getElem?_map, List.getElem?_eq_getElem hk, List.getD_eq_getElem?_getD, List.getElem?_eq_getElem hk]
  rfl

def atM (l : Nat) (v : Value) : Nat := if intOf v < 0 then 0 else l + 1 - (intOf v).toNat
theorem atM_nat (l p : Nat) : atM l (.int .i64 (p : Int)) = l + 1 - p := by
  unfold atM
  have h : ¬ intOf (.int .i64 (p : Int)) < 0 := by show ¬ (p : Int) < 0; omega
  rw [if_neg h]
  rfl
theorem atM_none (l : Nat) : atM l (.int .i64 (-1)) = 0 := by unfold atM; exact if_pos (by decide)

set_option maxRecDepth 100000 in
set_option maxHeartbeats 3200000 in
theorem match_any (vb vf vn vt : Value) (base t : List UInt8) (fs ns : List Int) (w : World) (hb : Sl w vb base) (hf : SlV w vf (fs.map iv)) (hn : SlV w vn (ns.map iv)) (ht : Sl w vt t) (hx : IdxOf base fs ns) (h20 : base.length ≤ 20000) :
    Calls Tryz.prog 118 #[.agg #[vb, vf, vn], vt] w fun e w' => e = .returned (.tuple #[.int .i64 (((m8 base t).1 : Nat) : Int), .int .i64 (((m8 base t).2 : Nat) : Int)]) ∧ Below w.heap.size w w' := by
  obtain ⟨B, cb, rfl, hlb, hcb, hIb⟩ := hb.len
  obtain ⟨F, cf, rfl, hlf, hcf, hRf⟩ := hf.len
  obtain ⟨N, cn, rfl, hln, hcn, hRn⟩ := hn.len
  obtain ⟨T, c, rfl, hl, hcm, hI⟩ := ht.len
  rw [List.length_map] at hlf hln hRf hRn hf hn
  rw [List.length_map, List.length_map]
  unfold maxLen at hcb hcf hcn hcm
  obtain ⟨hfl, hnl, hidx⟩ := hx
  have HBW1 := Lib.hid ((Below.refl w.heap.size w).alloc (Nat.le_refl _) (.cells #[.slice B base.length cb, .slice F fs.length cf, .slice N ns.length cn] 193))
  have hblk := Blk.new w 193 #[.slice B base.length cb, .slice F fs.length cf, .slice N ns.length cn]
  have HBX : Hid (∀ W, Below (w.alloc (.cells #[.slice B base.length cb, .slice F fs.length cf, .slice N ns.length cn] 193)).heap.size (w.alloc (.cells #[.slice B base.length cb, .slice F fs.length cf, .slice N ns.length cn] 193)) W →
      W.cell? ⟨w.heap.size, 0, none⟩ = some (.slice B base.length cb) ∧ W.cell? ⟨w.heap.size, 1, none⟩ = some (.slice F fs.length cf) ∧ W.cell? ⟨w.heap.size, 2, none⟩ = some (.slice N ns.length cn)) := fun W hW => by
    have := hblk.below hW hblk.lt
    exact ⟨this.cell 0, this.cell 1, this.cell 2⟩
  clear hblk
  have HSB := Lib.hid hb
  have HSF := Lib.hid hf
  have HSN := Lib.hid hn
  have HST := Lib.hid ht
  have HID := Lib.hid hidx
  have HFL := Lib.hid hfl
  have HNL := Lib.hid hnl
  have HIB := Lib.hid hIb
  have HIT := Lib.hid hI
  have HRF := Lib.hid hRf
  have HRN := Lib.hid hRn
  by_cases h8 : t.length < 8
  · rw [m8_short h8]
    have h8' : (t.length : Int) < 8 := by omega
    obtain ⟨l, hL⟩ : ∃ l, t.length = l := ⟨_, rfl⟩
    rw [hL] at h8' hl ⊢
    clear hb hf hn ht hIb hRf hRn hI hidx h8 hL hfl hnl
    go_enter Tryz.func118, Tryz.ntmps118
    go_wp2
    go_ret2
    exact ⟨rfl, HBW1.out⟩
  · have h8' : (8 : Int) ≤ (t.length : Int) := by omega
    have hslt := slotF_lt (L := fs.length) (by omega) t
    have hfirst := hidx.1 _ hslt
    have hslot := fun (W : World) (hW : Below w.heap.size w W) => slot_any (.slice B base.length cb) (.slice F fs.length cf) (.slice N ns.length cn) (.slice T t.length c) fs t W (hf.below hW) (ht.below hW) (by omega) (by omega) (by omega)
    obtain ⟨adf, eF, hcf0⟩ := reads_at hRf (slotF fs.length t) _ (getD_iv fs _ hslt)
    subst eF
    obtain ⟨bl, hBL⟩ : ∃ l, base.length = l := ⟨_, rfl⟩
    obtain ⟨fl, hFL⟩ : ∃ l, fs.length = l := ⟨_, rfl⟩
    obtain ⟨nl, hNL⟩ : ∃ l, ns.length = l := ⟨_, rfl⟩
    obtain ⟨tl, hTL⟩ : ∃ l, t.length = l := ⟨_, rfl⟩
    rw [hBL] at hlb hfl hnl h20 HBW1 HBX HID HFL HNL hslot hfirst HSB ⊢
    rw [hFL] at hlf hfl hslt hcf0 HBW1 HBX HID HFL hslot hfirst HSF HRF ⊢
    rw [hNL] at hln hnl HBW1 HBX HNL hslot HSN HRN ⊢
    rw [hTL] at hl h8' hslot HST ⊢
    have HTL := Lib.hid hTL
    have HBLN := Lib.hid hBL
    have HNLN := Lib.hid hNL
    obtain ⟨s, hs⟩ : ∃ s, slotF fl t = s := ⟨_, rfl⟩
    rw [hs] at hslt hcf0 hslot hfirst
    have HS := Lib.hid hs
    obtain ⟨f0, hf0⟩ : ∃ f0, fs.getD s 0 = f0 := ⟨_, rfl⟩
    rw [hf0] at hcf0 hfirst
    have HFIRST := Lib.hid hfirst
    have HSLOT := Lib.hid hslot
    have HCF0 := Lib.hid hcf0
    obtain ⟨w1, hw1⟩ : ∃ w1, w.alloc (.cells #[.slice B bl cb, .slice (some adf) fl cf, .slice N nl cn] 193) = w1 := ⟨_, rfl⟩
    rw [hw1] at HBW1 HBX
    have HW1 := Lib.hid hw1
    have hs0 : (0 : Int) ≤ (s : Int) := by omega
    have hs1 : (s : Int) < (fl : Int) := by omega
    have hnm : Hid (nl = bl ∧ fl = bl + 1) := ⟨by omega, by omega⟩
    clear hb hf hn ht hIb hRf hRn hI hidx h8 hBL hFL hNL hTL hs hf0 hslot hcf0 hfirst hw1 hfl hnl
    go_enter Tryz.func118, Tryz.ntmps118
    go_wp2_with fail
    rw [HW1.out]
    have y0 : ∀ p : Aft w1, p.w'.cell? ⟨w.heap.size, 0, none⟩ = some (.slice B bl cb) := fun p => (HBX.out _ p.h).1
    have y1 : ∀ p : Aft w1, p.w'.cell? ⟨w.heap.size, 1, none⟩ = some (.slice (some adf) fl cf) := fun p => (HBX.out _ p.h).2.1
    have y2 : ∀ p : Aft w1, p.w'.cell? ⟨w.heap.size, 2, none⟩ = some (.slice N nl cn) := fun p => (HBX.out _ p.h).2.2
    have y3 : ∀ p : Aft w1, p.w'.cell? (adf.add s) = some (.int .i64 f0) := fun p => by
      have hW := HBW1.out.trans (p.h.mono HBW1.out.size)
      exact (hW.cell (World.block_lt_of_cell? w _ HCF0.out)).trans HCF0.out
    have HSL : Hid (∀ p : Aft w1, Calls Tryz.prog 158 #[.agg #[.slice B bl cb, .slice (some adf) fl cf, .slice N nl cn], .slice T tl c] p.w' fun e w' => e = .returned (.int .i64 (s : Int)) ∧ Below p.w'.heap.size p.w' w') := fun p => HSLOT.out _ (HBW1.out.trans (p.h.mono HBW1.out.size))
    refine aft_quiet (by kernel_rfl) (by kernel_rfl) ?_
    repeat (refine wpQuiet_step (fun K hK => ?_); go_simp; first | (refine hK _ ?_; clear hK K) | (apply Exists.intro; refine ⟨fun _ => ?_, hK _ ?_⟩; (first | (refine Calls.aft_of (HSL.out _))); clear hK K))
    refine wpQuiet_nil ?_
    intro _ hw'
    obtain ⟨p, hw''⟩ := hw'
    subst hw''
    have HBL := Lib.hid p.h
    clear y0 y1 y2 y3
    generalize p.w' = wl at *
    go_wp2_with fail
    go_loopw [6, 7, 8, 9, 10] (fun pl sz at_ _ _ wr => ∃ (k : Nat) (a : Int), at_ = .int .i64 a ∧ pl = .int .i64 (((best8 base t k).1 : Nat) : Int) ∧ sz = .int .i64 (((best8 base t k).2 : Nat) : Int) ∧ k ≤ bl ∧ IsNext (fun i => slotF fl (base.drop i)) (bl + 1 - 8) s k a ∧ Below w1.heap.size w1 wr) (fun _ _ at_ _ _ _ => atM bl at_)
    case atStart => exact ⟨0, f0, rfl, rfl, rfl, Nat.zero_le _, HFIRST.out, HBL.out⟩
    case round =>
      obtain ⟨k, a, rfl, rfl, rfl, hk, hnx, hbw⟩ := hrel
      have HBW := Lib.hid hbw
      have HWW := Lib.hid (HBW1.out.trans (hbw.mono HBW1.out.size))
      clear hbw
      rcases hnx with ⟨rfl, hno⟩ | ⟨p, rfl, hp1, hp2, hp3, hp4⟩
      · have hfin : m8 base t = best8 base t k := best8_to base t k base.length (by rw [HBLN.out]; exact hk) (fun i h1 h2 => .inl (lcp_gap (L := fl) (fun hi => by rw [HS.out]; exact hno i h1 (by rw [← HBLN.out]; exact hi))))
        have HM := Lib.hid hfin
        obtain ⟨r, hr⟩ : ∃ r, best8 base t k = r := ⟨_, rfl⟩
        rw [hr] at HM ⊢
        clear hno hfin hr hk
        go_wp2_with fail
        go_ret2
        exact ⟨by rw [HM.out]; rfl, HWW.out⟩
      · have hgap : best8 base t p = best8 base t k := best8_to base t k p hp1 (fun i h1 h2 => .inl (lcp_gap (L := fl) (fun hi => by rw [HS.out]; exact hp4 i h1 h2)))
        rw [← hgap]
        have hsz : (best8 base t p).2 ≤ tl := by
          rcases best8_ok base t p with h | ⟨_, _, h3⟩
          · rw [h]; exact Nat.zero_le _
          · rw [h3, ← HTL.out]; exact (lcp_le _ _).2
        have hnxt := HID.out.2 p (Nat.zero_le _) hp2
        simp only [] at hp3
        have hnxt : IsNext (fun i => slotF fl (base.drop i)) (bl + 1 - 8) s (p + 1) (ns.getD p 0) := by rw [← hp3]; exact hnxt
        obtain ⟨nx, hnxe⟩ : ∃ nx, ns.getD p 0 = nx := ⟨_, rfl⟩
        obtain ⟨adn, eN, hcn0⟩ := reads_at HRN.out p _ (getD_iv ns p (by rw [HNLN.out, HNL.out]; omega))
        subst eN
        rw [hnxe] at hnxt hcn0
        have HME : Hid (atM bl (.int .i64 nx) < atM bl (.int .i64 (p : Int))) := by
          unfold Hid
          rw [atM_nat]
          rcases hnxt with ⟨rfl, _⟩ | ⟨p', rfl, h1, h2, _⟩
          · rw [atM_none]; omega
          · rw [atM_nat]; omega
        have HNX := Lib.hid hnxt
        have HCN := Lib.hid hcn0
        have hlq := lcp_le (base.drop p) t
        rw [List.length_drop, HBLN.out, HTL.out] at hlq
        obtain ⟨mn, hmn1, hmn2, hmn3⟩ : ∃ mn, mn ≤ bl - p ∧ mn ≤ tl ∧ (mn = bl - p ∨ mn = tl) := ⟨min (bl - p) tl, by omega, by omega, by omega⟩
        have HBREAK : Hid (mn ≤ (best8 base t p).2 → m8 base t = best8 base t p) := fun hle => best8_to base t p base.length (by rw [HBLN.out]; omega) (fun i h1 h2 => .inr (by
          have h5 := lcp_le (base.drop i) t
          rw [List.length_drop, HBLN.out, HTL.out] at h5
          omega))
        have HSKIP : Hid (lcp (base.drop p) t ≤ (best8 base t p).2 → best8 base t (p + 1) = best8 base t p) := fun hle => best8_to base t p (p + 1) (by omega) (fun i h1 h2 => .inr (by
          have : i = p := by omega
          rw [this]; exact hle))
        have HLOW : Hid (lcp (base.drop p) t < 8 → best8 base t (p + 1) = best8 base t p) := fun hlt => best8_to base t p (p + 1) (by omega) (fun i h1 h2 => .inl (by
          have : i = p := by omega
          rw [this]; exact hlt))
        have HTAKE : Hid (8 ≤ lcp (base.drop p) t → (best8 base t p).2 < lcp (base.drop p) t → best8 base t (p + 1) = (p, lcp (base.drop p) t)) := fun h1 h2 => by rw [best8, if_pos ⟨h1, h2⟩]
        have HNOT : Hid (base.getD (p + (best8 base t p).2) 0 ≠ t.getD (best8 base t p).2 0 → lcp (base.drop p) t ≤ (best8 base t p).2) := fun hd => lcp_not (by
          rw [List.getD_eq_getElem?_getD, List.getElem?_drop, ← List.getD_eq_getElem?_getD]; exact hd)
        obtain ⟨sz, hsze⟩ : ∃ x, (best8 base t p).2 = x := ⟨_, rfl⟩
        obtain ⟨r, hr⟩ : ∃ r, best8 base t p = r := ⟨_, rfl⟩
        obtain ⟨q, hq⟩ : ∃ q, lcp (base.drop p) t = q := ⟨_, rfl⟩
        rw [hsze] at hsz HBREAK HSKIP HTAKE HNOT ⊢
        rw [hr] at HBREAK HSKIP HLOW hsze ⊢
        rw [hq] at hlq HSKIP HLOW HTAKE HNOT
        have HQ := Lib.hid hq
        have HSZE := Lib.hid hsze
        have hp0 : (0 : Int) ≤ (p : Int) := by omega
        have hpb : (p : Int) < (bl : Int) := by omega
        have hpn : (p : Int) < (nl : Int) := by have := HNL.out; omega
        have hpm : ((p : Int) != -1) = true := by rw [bne_iff_ne]; omega
        have hpb' : p + 8 ≤ bl := by omega
        obtain ⟨x0, x1, x2⟩ := HBX.out _ HBW.out
        clear hp1 hp2 hp3 hp4 hgap hnxt hnxe hcn0 hr hq hsze hk
        go_upto_region 7 with (fail)
        go_cut [9] (fun cx wx => cx = .int .i64 (mn : Int) ∧ wr = wx)
        case first =>
          go_wp2_with fail
          all_goals go_meet
          all_goals exact ⟨by congr 1; omega, rfl⟩
        case rest =>
          obtain ⟨rfl, rfl⟩ := hcut
          by_cases hbr : mn ≤ sz
          · have hbr2 : (mn : Int) ≤ (sz : Int) := by omega
            have HM := Lib.hid (HBREAK.out hbr)
            clear hbr hmn3
            go_wp2_with fail
            go_ret2
            exact ⟨by rw [HM.out, HSZE.out]; rfl, HWW.out⟩
          · have hbr2 : (sz : Int) < (mn : Int) := by omega
            obtain ⟨ab, rfl, hc1⟩ := (HIB.out.below HWW.out).at_ (p + sz) (by rw [HBLN.out]; omega)
            obtain ⟨at', rfl, hc2⟩ := (HIT.out.below HWW.out).at_ sz (by rw [HTL.out]; omega)
            have hi1 : (p : Int) + (sz : Int) < (bl : Int) := by omega
            have hi2 : (sz : Int) < (tl : Int) := by omega
            have hi3 : (0 : Int) ≤ (sz : Int) := by omega
            have hps : ((p + sz : Nat) : Int) = (p : Int) + (sz : Int) := by omega
            obtain ⟨ps, hpse⟩ : ∃ ps, p + sz = ps := ⟨_, rfl⟩
            rw [hpse] at hc1 hps HNOT
            have hwps : IntKind.i64.wrap ((p : Int) + (sz : Int)) = (ps : Int) := by rw [← hps]; exact IntWalk.i64_in _ (by omega)
            have hps0 : (0 : Int) ≤ (ps : Int) := by omega
            have hps1 : (ps : Int) < (bl : Int) := by omega
            have hsb := fun W => d_back (some ab) bl cb p (p : Int) rfl (by omega) W
            have hslb := (HSB.out.below HWW.out).back p (by rw [HBLN.out]; omega)
            rw [HBLN.out] at hslb
            obtain ⟨Bp, hBp⟩ : ∃ X, (if cb = p then some ab else (some ab).map (·.add p)) = X := ⟨_, rfl⟩
            rw [hBp] at hsb hslb
            have HSLB := Lib.hid hslb
            have HSTL := Lib.hid (HST.out.below HWW.out)
            have HPSE := Lib.hid hps
            clear hslb hBp hbr hpse hps
            by_cases heq : base.getD ps 0 = t.getD sz 0
            · rw [heq] at hc1
              obtain ⟨x, hx⟩ : ∃ x, bi (t.getD sz 0) = x := ⟨_, rfl⟩
              rw [hx] at hc1 hc2
              have hxx : (x != x) = false := bne_self_eq_false x
              clear hx heq
              go_wp2_with fail
              go_quiet (fail)
              have HW2 := Lib.hid (below_drewN HBW.out nq)
              have HSLQ : Hid (Sl (wr.drewN nq) (.slice Bp (bl - p) (cb - p)) (base.drop p)) := HSLB.out
              have HSTQ : Hid (Sl (wr.drewN nq) (.slice (some at') tl c) t) := HSTL.out
              generalize wr.drewN nq = wq at *
              clear x0 x1 x2 hc1 hc2
              obtain ⟨x0, x1, x2⟩ := HBX.out _ HW2.out
              go_wp2_with fail
              refine (common_any _ _ (base.drop p) t wq HSLQ.out HSTQ.out).mono ?_
              rw [HQ.out]
              rintro e w3 ⟨rfl, hb3⟩
              have HW3 := Lib.hid (HW2.out.trans (hb3.mono HW2.out.size))
              have HWW3 := Lib.hid (HBW1.out.trans (HW3.out.mono HBW1.out.size))
              clear hb3
              by_cases hq8 : 8 ≤ q
              · have hq8i : (8 : Int) ≤ (q : Int) := by omega
                by_cases hqs : sz < q
                · have hqsi : (sz : Int) < (q : Int) := by omega
                  have HB8 := Lib.hid (HTAKE.out hq8 hqs)
                  clear x0 x1 x2
                  obtain ⟨x0, x1, x2⟩ := HBX.out _ HW3.out
                  have hcn := (HWW3.out.cell (World.block_lt_of_cell? w _ HCN.out)).trans HCN.out
                  go_wp2_with fail
                  go_roundw
                  case rel => exact ⟨p + 1, nx, rfl, by rw [HB8.out], by rw [HB8.out], by omega, HNX.out, HW3.out⟩
                  case measure => exact HME.out
                · have hqsi : (q : Int) ≤ (sz : Int) := by omega
                  have HB8 := Lib.hid (HSKIP.out (by omega))
                  clear x0 x1 x2
                  obtain ⟨x0, x1, x2⟩ := HBX.out _ HW3.out
                  have hcn := (HWW3.out.cell (World.block_lt_of_cell? w _ HCN.out)).trans HCN.out
                  go_wp2_with fail
                  go_roundw
                  case rel => exact ⟨p + 1, nx, rfl, by rw [HB8.out], by rw [HB8.out]; exact congrArg (fun x : Nat => Value.int .i64 (x : Int)) HSZE.out.symm, by omega, HNX.out, HW3.out⟩
                  case measure => exact HME.out
              · have hq8i : (q : Int) < (8 : Int) := by omega
                have HB8 := Lib.hid (HLOW.out (by omega))
                clear x0 x1 x2
                obtain ⟨x0, x1, x2⟩ := HBX.out _ HW3.out
                have hcn := (HWW3.out.cell (World.block_lt_of_cell? w _ HCN.out)).trans HCN.out
                go_wp2_with fail
                go_roundw
                case rel => exact ⟨p + 1, nx, rfl, by rw [HB8.out], by rw [HB8.out]; exact congrArg (fun x : Nat => Value.int .i64 (x : Int)) HSZE.out.symm, by omega, HNX.out, HW3.out⟩
                case measure => exact HME.out
            · have hxx : (bi (base.getD ps 0) != bi (t.getD sz 0)) = true := by
                rw [bne_iff_ne]
                intro e
                exact heq (bi_inj e)
              have HB8 := Lib.hid (HSKIP.out (HNOT.out heq))
              generalize bi (base.getD ps 0) = x at *
              generalize bi (t.getD sz 0) = y at *
              have hcn := (HWW.out.cell (World.block_lt_of_cell? w _ HCN.out)).trans HCN.out
              clear heq
              go_wp2_with fail
              go_quiet (fail)
              go_wp2_with fail
              go_roundw
              case rel => exact ⟨p + 1, nx, rfl, by rw [HB8.out], by rw [HB8.out]; exact congrArg (fun x : Nat => Value.int .i64 (x : Int)) HSZE.out.symm, by omega, HNX.out, below_drewN HBW.out _⟩
              case measure => exact HME.out
end Go.Proofs.YteffiedolcjjlaaGreat.Sh
