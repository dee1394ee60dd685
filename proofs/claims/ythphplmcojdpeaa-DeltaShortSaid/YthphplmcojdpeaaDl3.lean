/- The document's own Sizes, num, step, Apply of a delta. -/
import Derived.Test.YthphplmcojdpeaaDl2
set_option linter.unusedVariables false
set_option linter.unusedSimpArgs false
namespace Go.Proofs.Ythphplmcojdpeaa
open Go.RowKit

set_option maxRecDepth 100000 in
set_option maxHeartbeats 800000 in
theorem rsizes_any (v : Value) (bs : List UInt8) (a b q e : Int) (w : World) (h : Sl w v bs) (hr : two bs 0 = (a, b, q, e)) :
    Calls Try.prog 18 #[v] w fun x w' => x = .returned (.tuple #[.int .i64 a, .int .i64 b, .int .i64 e]) ∧ Below w.heap.size w w' := by
  obtain ⟨a1, p1, e1, h1⟩ : ∃ a1 p1 e1, getR bs 0 = (a1, p1, e1) := ⟨_, _, _, rfl⟩
  obtain ⟨a2, p2, e2, h2⟩ : ∃ a2 p2 e2, getR bs p1 = (a2, p2, e2) := ⟨_, _, _, rfl⟩
  have hf := getR_fits bs 0 a1 p1 e1 h1
  have hf2 := getR_fits bs p1 a2 p2 e2 h2
  have HG := Lib.hid (rget_any v bs 0 a1 p1 e1 w h h1)
  have HG2 := Lib.hid (fun (W : World) (hW : Sl W v bs) => rget_any v bs p1 a2 p2 e2 W hW h2)
  have HS := Lib.hid h
  by_cases he : e1 = 0
  · subst he
    by_cases he2 : e2 = 0
    · subst he2
      rw [two_ok h1 h2] at hr
      injection hr with r1 r2
      injection r2 with r2 r3
      injection r3 with r3 r4
      subst r1 r2 r3 r4
      clear hf hf2 h1 h2 h
      go_enter Try.func18, Try.ntmps18
      go_wp2_with fail
      refine HG.out.mono ?_
      rintro x w1 ⟨rfl, hb1⟩
      have HB1 := Lib.hid hb1
      clear hb1
      go_wp2_with fail
      refine (HG2.out w1 (HS.out.below HB1.out)).mono ?_
      rintro x w2 ⟨rfl, hb2⟩
      have HB2 := Lib.hid (HB1.out.trans (hb2.mono HB1.out.size))
      clear hb2
      go_wp2
      go_ret3
      exact ⟨rfl, HB2.out⟩
    · obtain ⟨rfl, rfl, b1, b2⟩ := hf2 he2
      rw [two_snd h1 h2 he2] at hr
      injection hr with r1 r2
      injection r2 with r2 r3
      injection r3 with r3 r4
      subst r1 r2 r3 r4
      have hne : (e2 != 0) = true := by simpa using he2
      clear hf hf2 h1 h2 h he2
      go_enter Try.func18, Try.ntmps18
      go_wp2_with fail
      refine HG.out.mono ?_
      rintro x w1 ⟨rfl, hb1⟩
      have HB1 := Lib.hid hb1
      clear hb1
      go_wp2_with fail
      refine (HG2.out w1 (HS.out.below HB1.out)).mono ?_
      rintro x w2 ⟨rfl, hb2⟩
      have HB2 := Lib.hid (HB1.out.trans (hb2.mono HB1.out.size))
      clear hb2
      go_wp2
      go_ret3
      exact ⟨rfl, HB2.out⟩
  · obtain ⟨rfl, rfl, b1, b2⟩ := hf he
    rw [two_fst h1 he] at hr
    injection hr with r1 r2
    injection r2 with r2 r3
    injection r3 with r3 r4
    subst r1 r2 r3 r4
    have hne : (e1 != 0) = true := by simpa using he
    clear hf hf2 h1 h2 h he
    go_enter Try.func18, Try.ntmps18
    go_wp2_with fail
    refine HG.out.mono ?_
    rintro x w1 ⟨rfl, hb1⟩
    have HB1 := Lib.hid hb1
    clear hb1
    go_wp2
    go_ret3
    exact ⟨rfl, HB1.out⟩

set_option maxRecDepth 100000 in
set_option maxHeartbeats 800000 in
theorem rnum_any (n : Nat) (w : World) (h : n ≤ 72057594037927936) : Calls Try.prog 25 #[.int .i64 (n : Int)] w (OwnPost w (putL n)) := by
  have HP := Lib.hid (rput_any n w h)
  clear h
  go_enter Try.func25, Try.ntmps25
  go_wp2_with fail
  refine HP.out.mono ?_
  rintro x w1 ⟨v, rfl, ho, hb⟩
  have HO := Lib.hid ho
  have HB := Lib.hid hb
  clear ho hb
  go_wp2
  go_ret
  exact ⟨v, rfl, HO.out, HB.out⟩

/-- The document's step: what goes beyond the target is refused there. -/
def stepR (base d : List UInt8) (k : Nat) (left : Int) : List UInt8 × Int × Int := if (stepD base d k).2.2 ≠ 0 then stepD base d k else if left < ((stepD base d k).1.length : Int) then ([], 0, 3) else stepD base d k
theorem stepR_err {base d : List UInt8} {k : Nat} {left e : Int} (h : stepD base d k = ([], 0, e)) (he : e ≠ 0) : stepR base d k left = ([], 0, e) := by unfold stepR; rw [h]; exact if_pos he
theorem stepR_long {base d p : List UInt8} {k : Nat} {left q : Int} (h : stepD base d k = (p, q, 0)) (hl : left < (p.length : Int)) : stepR base d k left = ([], 0, 3) := by unfold stepR; rw [h]; rw [if_neg (by simp)]; exact if_pos hl
theorem stepR_ok {base d p : List UInt8} {k : Nat} {left q : Int} (h : stepD base d k = (p, q, 0)) (hl : (p.length : Int) ≤ left) : stepR base d k left = (p, q, 0) := by unfold stepR; rw [h]; rw [if_neg (by simp)]; exact if_neg (by simp only; omega)

def StepRPost (w : World) (s : List UInt8 × Int × Int) (e : Ending) (w' : World) : Prop := ∃ v, e = .returned (.tuple #[v, .int .i64 s.2.1, .int .i64 s.2.2]) ∧ Sl w' v s.1 ∧ Below w.heap.size w w'

set_option maxRecDepth 100000 in
set_option maxHeartbeats 1600000 in
theorem rstep_copy (vb vd : Value) (base d : List UInt8) (k : Nat) (left : Int) (w : World) (hb : Sl w vb base) (hd : Sl w vd d) (hk : k < d.length) (h1 : d.getD k 0 = 1) :
    Calls Try.prog 29 #[vb, vd, .int .i64 (k : Int), .int .i64 left] w (StepRPost w (stepR base d k left)) := by
  obtain ⟨A, c, rfl, hl, hcm, hI⟩ := hb.len
  obtain ⟨D, cd, rfl, hld, hcmd, hId⟩ := hd.len
  obtain ⟨ad, rfl, hcell⟩ := hId.at_ k hk
  rw [h1, bi1] at hcell
  unfold maxLen at hcm hcmd
  have hk2 : (k : Int) < (d.length : Int) := by omega
  have hk3 : (0 : Int) ≤ (k : Int) := by omega
  have HD := Lib.hid hd
  have HB := Lib.hid hb
  have ek : ((k + 1 : Nat) : Int) = (k : Int) + 1 := by omega
  rcases getR_cases d (k + 1) hk with ⟨e, h, he⟩ | ⟨a, h, hla, ha, _⟩
  · rw [stepR_err (copy_err h1 (two_fst h (by omega)) (by omega)) (by omega)]
    rw [ek] at h
    have HG := Lib.hid (rget_any _ d _ _ _ _ w hd h)
    have hne : (e != 0) = true := by rcases he with rfl | rfl <;> rfl
    have heq : (e == 0) = false := by rcases he with rfl | rfl <;> rfl
    obtain ⟨l, hL⟩ : ∃ l, d.length = l := ⟨_, rfl⟩
    rw [hL] at hld hk2 HG ⊢
    clear h h1 hd hI hb hL hk HD he
    go_enter Try.func29, Try.ntmps29
    go_wp2_with fail
    refine HG.out.mono ?_
    rintro x w1 ⟨rfl, hb1⟩
    have HB1 := Lib.hid hb1
    clear hb1 hcell
    go_wp2
    go_ret3
    exact ⟨_, rfl, Sl.nil_ _, HB1.out⟩
  · have HG := Lib.hid (rget_any _ d _ _ _ _ w hd h)
    rw [ek] at HG
    have ha2 : (a : Int) ≤ 72057594037927936 := by omega
    have ha3 : (0 : Int) ≤ (a : Int) := by omega
    rcases getR_cases d _ hla with ⟨e, h', he⟩ | ⟨b, h', hlb, hbb, _⟩
    · rw [stepR_err (copy_err h1 (two_snd h h' (by omega)) (by omega)) (by omega)]
      have HG2 := Lib.hid (fun (W : World) (hW : Sl W (.slice (some ad) d.length cd) d) => rget_any _ d _ _ _ _ W hW h')
      have hne : (e != 0) = true := by rcases he with rfl | rfl <;> rfl
      obtain ⟨p1, hp1⟩ : ∃ p1, ((k + 1 + (putL a).length : Nat) : Int) = p1 := ⟨_, rfl⟩
      rw [hp1] at HG HG2
      obtain ⟨l, hL⟩ : ∃ l, d.length = l := ⟨_, rfl⟩
      rw [hL] at hld hk2 HG HG2 HD ⊢
      clear h h' h1 hd hI hb hL hk he hla hp1
      go_enter Try.func29, Try.ntmps29
      go_wp2_with fail
      refine HG.out.mono ?_
      rintro x w1 ⟨rfl, hb1⟩
      have HB1 := Lib.hid hb1
      clear hb1 hcell
      go_wp2_with fail
      refine (HG2.out _ (HD.out.below HB1.out)).mono ?_
      rintro x w2 ⟨rfl, hb2⟩
      have HB2 := Lib.hid (HB1.out.trans (hb2.mono HB1.out.size))
      clear hb2
      go_wp2
      go_ret3
      exact ⟨_, rfl, Sl.nil_ _, HB2.out⟩
    · have htwo := two_ok h h'
      have HG2 := Lib.hid (fun (W : World) (hW : Sl W (.slice (some ad) d.length cd) d) => rget_any _ d _ _ _ _ W hW h')
      have hb2 : (b : Int) ≤ 72057594037927936 := by omega
      have hb3 : (0 : Int) ≤ (b : Int) := by omega
      obtain ⟨p1, hp1⟩ : ∃ p1, ((k + 1 + (putL a).length : Nat) : Int) = p1 := ⟨_, rfl⟩
      rw [hp1] at HG HG2
      obtain ⟨q, hq⟩ : ∃ q, ((k + 1 + (putL a).length + (putL b).length : Nat) : Int) = q := ⟨_, rfl⟩
      rw [hq] at HG2 htwo
      by_cases hz : b = 0
      · subst hz
        rw [stepR_err (copy_zero h1 htwo) (by omega)]
        obtain ⟨l, hL⟩ : ∃ l, d.length = l := ⟨_, rfl⟩
        rw [hL] at hld hk2 HG HG2 HD ⊢
        clear h h' h1 hd hI hb hL hk hla hp1 hq htwo hb2 hb3
        go_enter Try.func29, Try.ntmps29
        go_wp2_with fail
        refine HG.out.mono ?_
        rintro x w1 ⟨rfl, hb1⟩
        have HB1 := Lib.hid hb1
        clear hb1 hcell
        go_wp2_with fail
        refine (HG2.out _ (HD.out.below HB1.out)).mono ?_
        rintro x w2 ⟨rfl, hb2⟩
        have HB2 := Lib.hid (HB1.out.trans (hb2.mono HB1.out.size))
        clear hb2
        go_wp2
        go_ret3
        exact ⟨_, rfl, Sl.nil_ _, HB2.out⟩
      · have hz2 : ((b : Int) == 0) = false := beq_eq_false_iff_ne.2 (by omega)
        by_cases hr : a + b ≤ base.length
        · have hs0 := copy_ok h1 htwo hz hr
          have hpl : ((base.drop a).take b).length = b := by simp; omega
          have hr1 : (a : Int) ≤ (base.length : Int) := by omega
          have hr2 : (b : Int) ≤ (base.length : Int) - (a : Int) := by omega
          by_cases hlf : left < (b : Int)
          · rw [stepR_long hs0 (by rw [hpl]; exact hlf)]
            obtain ⟨l, hL⟩ : ∃ l, d.length = l := ⟨_, rfl⟩
            rw [hL] at hld hk2 HG HG2 HD ⊢
            obtain ⟨lb, hLB⟩ : ∃ l, base.length = l := ⟨_, rfl⟩
            rw [hLB] at hl hr1 hr2 ⊢
            clear h h' h1 hd hI hb hL hk hla hp1 hq htwo hs0 hpl hLB hz HB
            go_enter Try.func29, Try.ntmps29
            go_wp2_with fail
            refine HG.out.mono ?_
            rintro x w1 ⟨rfl, hb1⟩
            have HB1 := Lib.hid hb1
            clear hb1 hcell
            go_wp2_with fail
            refine (HG2.out _ (HD.out.below HB1.out)).mono ?_
            rintro x w2 ⟨rfl, hb2⟩
            have HB2 := Lib.hid (HB1.out.trans (hb2.mono HB1.out.size))
            clear hb2
            go_wp2
            go_ret3
            exact ⟨_, rfl, Sl.nil_ _, HB2.out⟩
          · have hlf2 : (b : Int) ≤ left := by omega
            rw [stepR_ok hs0 (by rw [hpl]; exact hlf2)]
            have HS := Lib.hid (fun W (hW : Below w.heap.size w W) => (hb.below hW).mid a (a + b) (by omega) hr)
            rw [show a + b - a = b from by omega] at HS
            have hs := fun W => d_mid A base.length c a (a + b) (a : Int) ((a : Int) + (b : Int)) rfl (by omega) (by omega) (by omega) W
            rw [show a + b - a = b from by omega] at hs
            obtain ⟨T, hT⟩ : ∃ T, (if c = a then A else A.map (·.add a)) = T := ⟨_, rfl⟩
            rw [hT] at hs HS
            obtain ⟨l, hL⟩ : ∃ l, d.length = l := ⟨_, rfl⟩
            rw [hL] at hld hk2 HG HG2 HD ⊢
            obtain ⟨lb, hLB⟩ : ∃ l, base.length = l := ⟨_, rfl⟩
            rw [hLB] at hl hr1 hr2 hs ⊢
            clear h h' h1 hd hI hb hL hk hla hp1 hq htwo hs0 hpl hLB hz HB hT hr hlf
            go_enter Try.func29, Try.ntmps29
            go_wp2_with fail
            refine HG.out.mono ?_
            rintro x w1 ⟨rfl, hb1⟩
            have HB1 := Lib.hid hb1
            clear hb1 hcell
            go_wp2_with fail
            refine (HG2.out _ (HD.out.below HB1.out)).mono ?_
            rintro x w2 ⟨rfl, hb2⟩
            have HB2 := Lib.hid (HB1.out.trans (hb2.mono HB1.out.size))
            clear hb2
            go_wp2
            go_ret3
            exact ⟨_, rfl, HS.out _ HB2.out, HB2.out⟩
        · rw [stepR_err (copy_range h1 htwo (by omega) (by omega)) (by omega)]
          have hor : (base.length : Int) < (a : Int) ∨ (a : Int) ≤ (base.length : Int) ∧ (base.length : Int) - (a : Int) < (b : Int) := by omega
          obtain ⟨l, hL⟩ : ∃ l, d.length = l := ⟨_, rfl⟩
          rw [hL] at hld hk2 HG HG2 HD ⊢
          obtain ⟨lb, hLB⟩ : ∃ l, base.length = l := ⟨_, rfl⟩
          rw [hLB] at hl hor ⊢
          clear h h' h1 hd hI hb hL hk hla hp1 hq htwo hLB hz HB hr
          rcases hor with hr1 | ⟨hr1, hr2⟩
          all_goals
            go_enter Try.func29, Try.ntmps29
            go_wp2_with fail
            refine HG.out.mono ?_
            rintro x w1 ⟨rfl, hb1⟩
            have HB1 := Lib.hid hb1
            clear hb1 hcell
            go_wp2_with fail
            refine (HG2.out _ (HD.out.below HB1.out)).mono ?_
            rintro x w2 ⟨rfl, hb2⟩
            have HB2 := Lib.hid (HB1.out.trans (hb2.mono HB1.out.size))
            clear hb2
            go_wp2
            go_ret3
            exact ⟨_, rfl, Sl.nil_ _, HB2.out⟩
end Go.Proofs.Ythphplmcojdpeaa
