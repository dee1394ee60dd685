/- Texts put together: VShDl3, VShDl4, VShDm7, VShDm8, VPkR, VTo0, VTo1. -/
import Derived.Test.YtpfjlhpahmhkhaaGreatQv36
import Derived.Test.YtpfjlhpahmhkhaaGreatQv35
import Derived.Test.YtpfjlhpahmhkhaaGreatQv38
import Derived.Test.YtpfjlhpahmhkhaaGreatQv44
import Derived.Test.YtpfjlhpahmhkhaaGreatQv15
import Derived.Test.YtpfjlhpahmhkhaaGreatQv16
import Derived.Test.YtpfjlhpahmhkhaaGreatQv21
import Derived.Test.YtpfjlhpahmhkhaaGreatQv27
/- The document's own Sizes, num, step, Apply of a delta. -/
set_option linter.unusedVariables false
set_option linter.unusedSimpArgs false
namespace Go.Proofs.YtpfjlhpahmhkhaaGreat.Sh
open Go.RowKit
set_option maxRecDepth 100000 in
set_option maxHeartbeats 800000 in
theorem rsizes_any (v : Value) (bs : List UInt8) (a b q e : Int) (w : World) (h : Sl w v bs) (hr : two bs 0 = (a, b, q, e)) :
  Calls Tryz.prog 304 #[v] w fun x w' => x = .returned (.tuple #[.int .i64 a, .int .i64 b, .int .i64 e]) ∧ Below w.heap.size w w' := by
 obtain ⟨a1, p1, e1, h1⟩ : ∃ a1 p1 e1, getR bs 0 = (a1, p1, e1) := ⟨_, _, _, rfl⟩
 obtain ⟨a2, p2, e2, h2⟩ : ∃ a2 p2 e2, getR bs p1 = (a2, p2, e2) := ⟨_, _, _, rfl⟩
 have hf := getR_fits bs 0 a1 p1 e1 h1
 have hf2 := getR_fits bs p1 a2 p2 e2 h2
 have HG := Lib.hid (rget_any v bs 0 a1 p1 e1 w h h1)
 have HG2 := Lib.hid (fun (W : World) (hW : Sl W v bs) => rget_any v bs p1 a2 p2 e2 W hW h2)
 have HS := Lib.hid h
 by_cases he : e1 = 0
 ·subst he
  by_cases he2 : e2 = 0
  ·subst he2
   rw [two_ok h1 h2] at hr
   injection hr with r1 r2
   injection r2 with r2 r3
   injection r3 with r3 r4
   subst r1 r2 r3 r4
   clear hf hf2 h1 h2 h
   go_enter Tryz.func304, Tryz.ntmps304
   go_wp2_with fail
   refine HG.out.mono ?_
   rintro x w1 ⟨rfl, hb1⟩
   have HB1 := Lib.hid hb1
   clear hb1
   go_wp2_with fail
   refine (HG2.out w1 (HS.out.below HB1.out)).mono ?_
   rintro x w2 ⟨rfl, hb2⟩
   have HB2 := Lib.hid (HB1.out.trans (hb2.mono HB1.out.size))
   clear hb2
   go_wp2
   go_ret3
   exact ⟨rfl, HB2.out⟩
  ·obtain ⟨rfl, rfl, b1, b2⟩ := hf2 he2
   rw [two_snd h1 h2 he2] at hr
   injection hr with r1 r2
   injection r2 with r2 r3
   injection r3 with r3 r4
   subst r1 r2 r3 r4
   have hne : (e2 != 0) = true := by simpa using he2
   clear hf hf2 h1 h2 h he2
   go_enter Tryz.func304, Tryz.ntmps304
   go_wp2_with fail
   refine HG.out.mono ?_
   rintro x w1 ⟨rfl, hb1⟩
   have HB1 := Lib.hid hb1
   clear hb1
   go_wp2_with fail
   refine (HG2.out w1 (HS.out.below HB1.out)).mono ?_
   rintro x w2 ⟨rfl, hb2⟩
   have HB2 := Lib.hid (HB1.out.trans (hb2.mono HB1.out.size))
   clear hb2
   go_wp2
   go_ret3
   exact ⟨rfl, HB2.out⟩
 ·obtain ⟨rfl, rfl, b1, b2⟩ := hf he
  rw [two_fst h1 he] at hr
  injection hr with r1 r2
  injection r2 with r2 r3
  injection r3 with r3 r4
  subst r1 r2 r3 r4
  have hne : (e1 != 0) = true := by simpa using he
  clear hf hf2 h1 h2 h he
  go_enter Tryz.func304, Tryz.ntmps304
  go_wp2_with fail
  refine HG.out.mono ?_
  rintro x w1 ⟨rfl, hb1⟩
  have HB1 := Lib.hid hb1
  clear hb1
  go_wp2
  go_ret3
  exact ⟨rfl, HB1.out⟩
set_option maxRecDepth 100000 in
set_option maxHeartbeats 800000 in
theorem rnum_any (n : Nat) (w : World) (h : n ≤ 72057594037927936) : Calls Tryz.prog 305 #[.int .i64 (n : Int)] w (OwnPost w (putL n)) := by
 have HP := Lib.hid (rput_any n w h)
 clear h
 go_enter Tryz.func305, Tryz.ntmps305
 go_wp2_with fail
 refine HP.out.mono ?_
 rintro x w1 ⟨v, rfl, ho, hb⟩
 have HO := Lib.hid ho
 have HB := Lib.hid hb
 clear ho hb
 go_wp2
 go_ret
 exact ⟨v, rfl, HO.out, HB.out⟩
def stepR (base d : List UInt8) (k : Nat) (left : Int) : List UInt8 × Int × Int := if (stepD base d k).2.2 ≠ 0 then stepD base d k else if left < ((stepD base d k).1.length : Int) then ([], 0, 3) else stepD base d k
theorem stepR_err {base d : List UInt8} {k : Nat} {left e : Int} (h : stepD base d k = ([], 0, e)) (he : e ≠ 0) : stepR base d k left = ([], 0, e) := by unfold stepR; rw [h]; exact if_pos he
theorem stepR_long {base d p : List UInt8} {k : Nat} {left q : Int} (h : stepD base d k = (p, q, 0)) (hl : left < (p.length : Int)) : stepR base d k left = ([], 0, 3) := by unfold stepR; rw [h]; rw [if_neg (by simp)]; exact if_pos hl
theorem stepR_ok {base d p : List UInt8} {k : Nat} {left q : Int} (h : stepD base d k = (p, q, 0)) (hl : (p.length : Int) ≤ left) : stepR base d k left = (p, q, 0) := by unfold stepR; rw [h]; rw [if_neg (by simp)]; exact if_neg (by simp only; omega)
def StepRPost (w : World) (s : List UInt8 × Int × Int) (e : Ending) (w' : World) : Prop := ∃ v, e = .returned (.tuple #[v, .int .i64 s.2.1, .int .i64 s.2.2]) ∧ Sl w' v s.1 ∧ Below w.heap.size w w'
set_option maxRecDepth 100000 in
set_option maxHeartbeats 1600000 in
theorem rstep_copy (vb vd : Value) (base d : List UInt8) (k : Nat) (left : Int) (w : World) (hb : Sl w vb base) (hd : Sl w vd d) (hk : k < d.length) (h1 : d.getD k 0 = 1) :
  Calls Tryz.prog 306 #[vb, vd, .int .i64 (k : Int), .int .i64 left] w (StepRPost w (stepR base d k left)) := by
 obtain ⟨A, c, rfl, hl, hcm, hI⟩ := hb.len
 obtain ⟨D, cd, rfl, hld, hcmd, hId⟩ := hd.len
 obtain ⟨ad, rfl, hcell⟩ := hId.at_ k hk
 rw [h1, bi1] at hcell
 unfold maxLen at hcm hcmd
 have hk2 : (k : Int) < (d.length : Int) := by omega
 have hk3 : (0 : Int) ≤ (k : Int) := by omega
 have HD := Lib.hid hd
 have HB := Lib.hid hb
 have ek : ((k + 1 : Nat) : Int) = (k : Int) + 1 := by omega
 rcases getR_cases d (k + 1) hk with ⟨e, h, he⟩ | ⟨a, h, hla, ha, _⟩
 ·rw [stepR_err (copy_err h1 (two_fst h (by omega)) (by omega)) (by omega)]
  rw [ek] at h
  have HG := Lib.hid (rget_any _ d _ _ _ _ w hd h)
  have hne : (e != 0) = true := by rcases he with rfl | rfl <;> rfl
  have heq : (e == 0) = false := by rcases he with rfl | rfl <;> rfl
  obtain ⟨l, hL⟩ : ∃ l, d.length = l := ⟨_, rfl⟩
  rw [hL] at hld hk2 HG ⊢
  clear h h1 hd hI hb hL hk HD he
  go_enter Tryz.func306, Tryz.ntmps306
  go_wp2_with fail
  refine HG.out.mono ?_
  rintro x w1 ⟨rfl, hb1⟩
  have HB1 := Lib.hid hb1
  clear hb1 hcell
  go_wp2
  go_ret3
  exact ⟨_, rfl, Sl.nil_ _, HB1.out⟩
 ·have HG := Lib.hid (rget_any _ d _ _ _ _ w hd h)
  rw [ek] at HG
  have ha2 : (a : Int) ≤ 72057594037927936 := by omega
  have ha3 : (0 : Int) ≤ (a : Int) := by omega
  rcases getR_cases d _ hla with ⟨e, h', he⟩ | ⟨b, h', hlb, hbb, _⟩
  ·rw [stepR_err (copy_err h1 (two_snd h h' (by omega)) (by omega)) (by omega)]
   have HG2 := Lib.hid (fun (W : World) (hW : Sl W (.slice (some ad) d.length cd) d) => rget_any _ d _ _ _ _ W hW h')
   have hne : (e != 0) = true := by rcases he with rfl | rfl <;> rfl
   obtain ⟨p1, hp1⟩ : ∃ p1, ((k + 1 + (putL a).length : Nat) : Int) = p1 := ⟨_, rfl⟩
   rw [hp1] at HG HG2
   obtain ⟨l, hL⟩ : ∃ l, d.length = l := ⟨_, rfl⟩
   rw [hL] at hld hk2 HG HG2 HD ⊢
   clear h h' h1 hd hI hb hL hk he hla hp1
   go_enter Tryz.func306, Tryz.ntmps306
   go_wp2_with fail
   refine HG.out.mono ?_
   rintro x w1 ⟨rfl, hb1⟩
   have HB1 := Lib.hid hb1
   clear hb1 hcell
   go_wp2_with fail
   refine (HG2.out _ (HD.out.below HB1.out)).mono ?_
   rintro x w2 ⟨rfl, hb2⟩
   have HB2 := Lib.hid (HB1.out.trans (hb2.mono HB1.out.size))
   clear hb2
   go_wp2
   go_ret3
   exact ⟨_, rfl, Sl.nil_ _, HB2.out⟩
  ·have htwo := two_ok h h'
   have HG2 := Lib.hid (fun (W : World) (hW : Sl W (.slice (some ad) d.length cd) d) => rget_any _ d _ _ _ _ W hW h')
   have hb2 : (b : Int) ≤ 72057594037927936 := by omega
   have hb3 : (0 : Int) ≤ (b : Int) := by omega
   obtain ⟨p1, hp1⟩ : ∃ p1, ((k + 1 + (putL a).length : Nat) : Int) = p1 := ⟨_, rfl⟩
   rw [hp1] at HG HG2
   obtain ⟨q, hq⟩ : ∃ q, ((k + 1 + (putL a).length + (putL b).length : Nat) : Int) = q := ⟨_, rfl⟩
   rw [hq] at HG2 htwo
   by_cases hz : b = 0
   ·subst hz
    rw [stepR_err (copy_zero h1 htwo) (by omega)]
    obtain ⟨l, hL⟩ : ∃ l, d.length = l := ⟨_, rfl⟩
    rw [hL] at hld hk2 HG HG2 HD ⊢
    clear h h' h1 hd hI hb hL hk hla hp1 hq htwo hb2 hb3
    go_enter Tryz.func306, Tryz.ntmps306
    go_wp2_with fail
    refine HG.out.mono ?_
    rintro x w1 ⟨rfl, hb1⟩
    have HB1 := Lib.hid hb1
    clear hb1 hcell
    go_wp2_with fail
    refine (HG2.out _ (HD.out.below HB1.out)).mono ?_
    rintro x w2 ⟨rfl, hb2⟩
    have HB2 := Lib.hid (HB1.out.trans (hb2.mono HB1.out.size))
    clear hb2
    go_wp2
    go_ret3
    exact ⟨_, rfl, Sl.nil_ _, HB2.out⟩
   ·have hz2 : ((b : Int) == 0) = false := beq_eq_false_iff_ne.2 (by omega)
    by_cases hr : a + b ≤ base.length
    ·have hs0 := copy_ok h1 htwo hz hr
     have hpl : ((base.drop a).take b).length = b := by simp; omega
     have hr1 : (a : Int) ≤ (base.length : Int) := by omega
     have hr2 : (b : Int) ≤ (base.length : Int) - (a : Int) := by omega
     by_cases hlf : left < (b : Int)
     ·rw [stepR_long hs0 (by rw [hpl]; exact hlf)]
      obtain ⟨l, hL⟩ : ∃ l, d.length = l := ⟨_, rfl⟩
      rw [hL] at hld hk2 HG HG2 HD ⊢
      obtain ⟨lb, hLB⟩ : ∃ l, base.length = l := ⟨_, rfl⟩
      rw [hLB] at hl hr1 hr2 ⊢
      clear h h' h1 hd hI hb hL hk hla hp1 hq htwo hs0 hpl hLB hz HB
      go_enter Tryz.func306, Tryz.ntmps306
      go_wp2_with fail
      refine HG.out.mono ?_
      rintro x w1 ⟨rfl, hb1⟩
      have HB1 := Lib.hid hb1
      clear hb1 hcell
      go_wp2_with fail
      refine (HG2.out _ (HD.out.below HB1.out)).mono ?_
      rintro x w2 ⟨rfl, hb2⟩
      have HB2 := Lib.hid (HB1.out.trans (hb2.mono HB1.out.size))
      clear hb2
      go_wp2
      go_ret3
      exact ⟨_, rfl, Sl.nil_ _, HB2.out⟩
     ·have hlf2 : (b : Int) ≤ left := by omega
      rw [stepR_ok hs0 (by rw [hpl]; exact hlf2)]
      have HS := Lib.hid (fun W (hW : Below w.heap.size w W) => (hb.below hW).mid a (a + b) (by omega) hr)
      rw [show a + b - a = b from by omega] at HS
      have hs := fun W => d_mid A base.length c a (a + b) (a : Int) ((a : Int) + (b : Int)) rfl (by omega) (by omega) (by omega) W
      rw [show a + b - a = b from by omega] at hs
      obtain ⟨T, hT⟩ : ∃ T, (if c = a then A else A.map (·.add a)) = T := ⟨_, rfl⟩
      rw [hT] at hs HS
      obtain ⟨l, hL⟩ : ∃ l, d.length = l := ⟨_, rfl⟩
      rw [hL] at hld hk2 HG HG2 HD ⊢
      obtain ⟨lb, hLB⟩ : ∃ l, base.length = l := ⟨_, rfl⟩
      rw [hLB] at hl hr1 hr2 hs ⊢
      clear h h' h1 hd hI hb hL hk hla hp1 hq htwo hs0 hpl hLB hz HB hT hr hlf
      go_enter Tryz.func306, Tryz.ntmps306
      go_wp2_with fail
      refine HG.out.mono ?_
      rintro x w1 ⟨rfl, hb1⟩
      have HB1 := Lib.hid hb1
      clear hb1 hcell
      go_wp2_with fail
      refine (HG2.out _ (HD.out.below HB1.out)).mono ?_
      rintro x w2 ⟨rfl, hb2⟩
      have HB2 := Lib.hid (HB1.out.trans (hb2.mono HB1.out.size))
      clear hb2
      go_wp2
      go_ret3
      exact ⟨_, rfl, HS.out _ HB2.out, HB2.out⟩
    ·rw [stepR_err (copy_range h1 htwo (by omega) (by omega)) (by omega)]
     have hor : (base.length : Int) < (a : Int) ∨ (a : Int) ≤ (base.length : Int) ∧ (base.length : Int) - (a : Int) < (b : Int) := by omega
     obtain ⟨l, hL⟩ : ∃ l, d.length = l := ⟨_, rfl⟩
     rw [hL] at hld hk2 HG HG2 HD ⊢
     obtain ⟨lb, hLB⟩ : ∃ l, base.length = l := ⟨_, rfl⟩
     rw [hLB] at hl hor ⊢
     clear h h' h1 hd hI hb hL hk hla hp1 hq htwo hLB hz HB hr
     rcases hor with hr1 | ⟨hr1, hr2⟩
     all_goals
      go_enter Tryz.func306, Tryz.ntmps306
      go_wp2_with fail
      refine HG.out.mono ?_
      rintro x w1 ⟨rfl, hb1⟩
      have HB1 := Lib.hid hb1
      clear hb1 hcell
      go_wp2_with fail
      refine (HG2.out _ (HD.out.below HB1.out)).mono ?_
      rintro x w2 ⟨rfl, hb2⟩
      have HB2 := Lib.hid (HB1.out.trans (hb2.mono HB1.out.size))
      clear hb2
      go_wp2
      go_ret3
      exact ⟨_, rfl, Sl.nil_ _, HB2.out⟩
end Go.Proofs.YtpfjlhpahmhkhaaGreat.Sh
/- The document's step (inserts, others), its Apply. -/
set_option linter.unusedVariables false
set_option linter.unusedSimpArgs false
namespace Go.Proofs.YtpfjlhpahmhkhaaGreat.Sh
open Go.RowKit
theorem d_kindn {d : List UInt8} {k : Nat} {u : UInt8} {n : Nat} (hu : d.getD k 0 ≠ u) (hn : u.toNat = n) : (bi (d.getD k 0) != (n : Int)) = true := by
 rw [bne, d_kind hu hn]; rfl
set_option maxRecDepth 100000 in
set_option maxHeartbeats 1600000 in
theorem rstep_ins (vb vd : Value) (base d : List UInt8) (k : Nat) (left : Int) (w : World) (hb : Sl w vb base) (hd : Sl w vd d) (hk : k < d.length) (h2 : d.getD k 0 = 2) :
  Calls Tryz.prog 306 #[vb, vd, .int .i64 (k : Int), .int .i64 left] w (StepRPost w (stepR base d k left)) := by
 obtain ⟨A, c, rfl, hl, hcm, hI⟩ := hb.len
 obtain ⟨D, cd, rfl, hld, hcmd, hId⟩ := hd.len
 obtain ⟨ad, rfl, hcell⟩ := hId.at_ k hk
 rw [h2, bi2] at hcell
 unfold maxLen at hcm hcmd
 have hk2 : (k : Int) < (d.length : Int) := by omega
 have hk3 : (0 : Int) ≤ (k : Int) := by omega
 have HD := Lib.hid hd
 have ek : ((k + 1 : Nat) : Int) = (k : Int) + 1 := by omega
 rcases getR_cases d (k + 1) hk with ⟨e, h, he⟩ | ⟨n, h, hla, hn, _⟩
 ·rw [stepR_err (ins_err h2 h (by omega)) (by omega)]
  rw [ek] at h
  have HG := Lib.hid (rget_any _ d _ _ _ _ w hd h)
  have hne : (e != 0) = true := by rcases he with rfl | rfl <;> rfl
  have heq : (e == 0) = false := by rcases he with rfl | rfl <;> rfl
  obtain ⟨l, hL⟩ : ∃ l, d.length = l := ⟨_, rfl⟩
  rw [hL] at hld hk2 HG ⊢
  clear h h2 hd hI hb hL hk HD he
  go_enter Tryz.func306, Tryz.ntmps306
  go_wp2_with fail
  refine HG.out.mono ?_
  rintro x w1 ⟨rfl, hb1⟩
  have HB1 := Lib.hid hb1
  clear hb1 hcell
  go_wp2
  go_ret3
  exact ⟨_, rfl, Sl.nil_ _, HB1.out⟩
 ·have HG := Lib.hid (rget_any _ d _ _ _ _ w hd h)
  rw [ek] at HG
  have hn2 : (n : Int) ≤ 72057594037927936 := by omega
  have hn3 : (0 : Int) ≤ (n : Int) := by omega
  obtain ⟨q, hQ⟩ : ∃ q, k + 1 + (putL n).length = q := ⟨_, rfl⟩
  rw [hQ] at h hla HG
  have hq3 : (0 : Int) ≤ (q : Int) := by omega
  have hq4 : (q : Int) ≤ (d.length : Int) := by omega
  by_cases hz : n = 0
  ·subst hz
   rw [stepR_err (ins_zero h2 h) (by omega)]
   obtain ⟨l, hL⟩ : ∃ l, d.length = l := ⟨_, rfl⟩
   rw [hL] at hld hk2 hq4 HG ⊢
   clear h h2 hd hI hb hL hk HD hQ hla
   go_enter Tryz.func306, Tryz.ntmps306
   go_wp2_with fail
   refine HG.out.mono ?_
   rintro x w1 ⟨rfl, hb1⟩
   have HB1 := Lib.hid hb1
   clear hb1 hcell
   go_wp2
   go_ret3
   exact ⟨_, rfl, Sl.nil_ _, HB1.out⟩
  ·have hz2 : ((n : Int) == 0) = false := beq_eq_false_iff_ne.2 (by omega)
   by_cases hr : q + n ≤ d.length
   ·have hs0 := ins_ok (base := base) h2 h hz hr
    have hpl : ((d.drop q).take n).length = n := by simp; omega
    have hr2 : (n : Int) ≤ (d.length : Int) - (q : Int) := by omega
    by_cases hlf : left < (n : Int)
    ·rw [stepR_long hs0 (by rw [hpl]; exact hlf)]
     obtain ⟨l, hL⟩ : ∃ l, d.length = l := ⟨_, rfl⟩
     rw [hL] at hld hk2 hq4 hr2 HG ⊢
     clear h h2 hd hI hb hL hk HD hQ hla hs0 hpl hz
     go_enter Tryz.func306, Tryz.ntmps306
     go_wp2_with fail
     refine HG.out.mono ?_
     rintro x w1 ⟨rfl, hb1⟩
     have HB1 := Lib.hid hb1
     clear hb1 hcell
     go_wp2
     go_ret3
     exact ⟨_, rfl, Sl.nil_ _, HB1.out⟩
    ·have hlf2 : (n : Int) ≤ left := by omega
     rw [stepR_ok hs0 (by rw [hpl]; exact hlf2)]
     have HS := Lib.hid (fun W (hW : Below w.heap.size w W) => (hd.below hW).mid q (q + n) (by omega) hr)
     rw [show q + n - q = n from by omega] at HS
     have hs := fun W => d_mid (some ad) d.length cd q (q + n) (q : Int) ((q : Int) + (n : Int)) rfl (by omega) (by omega) (by omega) W
     rw [show q + n - q = n from by omega] at hs
     obtain ⟨T, hT⟩ : ∃ T, (if cd = q then some ad else (some ad).map (·.add q)) = T := ⟨_, rfl⟩
     rw [hT] at hs HS
     obtain ⟨l, hL⟩ : ∃ l, d.length = l := ⟨_, rfl⟩
     rw [hL] at hld hk2 hq4 hr2 hs HG ⊢
     have e2 : (((q + n : Nat) : Int)) = (q : Int) + (n : Int) := by omega
     rw [e2]
     clear h h2 hd hI hb hL hk HD hQ hla hs0 hpl hz e2 hT hr hlf
     go_enter Tryz.func306, Tryz.ntmps306
     go_wp2_with fail
     refine HG.out.mono ?_
     rintro x w1 ⟨rfl, hb1⟩
     have HB1 := Lib.hid hb1
     clear hb1 hcell
     go_wp2
     go_ret3
     exact ⟨_, rfl, HS.out _ HB1.out, HB1.out⟩
   ·rw [stepR_err (ins_short h2 h (by omega) (by omega)) (by omega)]
    have hr2 : (d.length : Int) - (q : Int) < (n : Int) := by omega
    obtain ⟨l, hL⟩ : ∃ l, d.length = l := ⟨_, rfl⟩
    rw [hL] at hld hk2 hq4 hr2 HG ⊢
    clear h h2 hd hI hb hL hk HD hQ hla hz hr
    go_enter Tryz.func306, Tryz.ntmps306
    go_wp2_with fail
    refine HG.out.mono ?_
    rintro x w1 ⟨rfl, hb1⟩
    have HB1 := Lib.hid hb1
    clear hb1 hcell
    go_wp2
    go_ret3
    exact ⟨_, rfl, Sl.nil_ _, HB1.out⟩
set_option maxRecDepth 100000 in
set_option maxHeartbeats 1600000 in
theorem rstep_any (vb vd : Value) (base d : List UInt8) (k : Nat) (left : Int) (w : World) (hb : Sl w vb base) (hd : Sl w vd d) (hk : k < d.length) :
  Calls Tryz.prog 306 #[vb, vd, .int .i64 (k : Int), .int .i64 left] w (StepRPost w (stepR base d k left)) := by
 by_cases h1 : d.getD k 0 = 1
 ·exact rstep_copy vb vd base d k left w hb hd hk h1
 ·by_cases h2 : d.getD k 0 = 2
  ·exact rstep_ins vb vd base d k left w hb hd hk h2
  ·obtain ⟨D, cd, rfl, hld, hcmd, hId⟩ := hd.len
   obtain ⟨ad, rfl, hcell⟩ := hId.at_ k hk
   unfold maxLen at hcmd
   have hk2 : (k : Int) < (d.length : Int) := by omega
   have hk3 : (0 : Int) ≤ (k : Int) := by omega
   have n1 := d_kindn h1 (n := 1) rfl
   have n2 := d_kindn h2 (n := 2) rfl
   rw [stepR_err (step_none h1 h2) (by omega)]
   obtain ⟨u, hu⟩ : ∃ u, bi (d.getD k 0) = u := ⟨_, rfl⟩
   rw [hu] at hcell n1 n2
   obtain ⟨l, hL⟩ : ∃ l, d.length = l := ⟨_, rfl⟩
   rw [hL] at hld hk2 ⊢
   have n1' : (u != 1) = true := n1
   have n2' : (u != 2) = true := n2
   clear hL hd hId h1 h2 hb hk n1 n2 hu
   go_enter Tryz.func306, Tryz.ntmps306
   go_wp2
   go_ret3
   exact ⟨_, rfl, Sl.nil_ _, Below.refl _ _⟩
set_option maxRecDepth 100000 in
set_option maxHeartbeats 1600000 in
theorem rapply_any (vb vd : Value) (base d : List UInt8) (w : World) (hb : Sl w vb base) (hd : Sl w vd d) :
  Calls Tryz.prog 254 #[vb, vd] w (ApplyPost w (applyD base d)) := by
 obtain ⟨A, c, hvb, hl, hcm, hI⟩ := hb.len
 unfold maxLen at hcm
 rcases two_cases d 0 (Nat.zero_le _) with ⟨e, h, he⟩ | ⟨a, b, h, hq, ha, hb'⟩
 ·have h : two d 0 = (0, 0, 0, e) := h
  rw [apply_err h (by omega)]
  have HG := Lib.hid (rsizes_any vd d _ _ _ _ w hd h)
  have hne : (e != 0) = true := by rcases he with rfl | rfl <;> rfl
  subst hvb
  clear h hd hb hI he
  go_enter Tryz.func254, Tryz.ntmps254
  go_wp2_with fail
  refine HG.out.mono ?_
  rintro x w1 ⟨rfl, hb1⟩
  have HB1 := Lib.hid hb1
  clear hb1
  go_wp2
  go_ret2
  exact ⟨_, rfl, Own.nil_ _ _, HB1.out⟩
 ·rw [Nat.zero_add] at h hq
  have h : two d 0 = ((a : Int), (b : Int), (((putL a).length + (putL b).length : Nat) : Int), 0) := h
  have HG := Lib.hid (rsizes_any vd d _ _ _ _ w hd h)
  have HB := Lib.hid hb
  subst hvb
  obtain ⟨l, hL⟩ : ∃ l, base.length = l := ⟨_, rfl⟩
  rw [hL] at hl HB ⊢
  by_cases hal : a = l
  ·subst hal
   by_cases hbl : 20000 < b
   ·rw [apply_long h (by rw [hL]) (by omega)]
    have hbl2 : (20000 : Int) < (b : Int) := by omega
    clear h hd hb hI hbl hq HB hL hcm hl
    go_enter Tryz.func254, Tryz.ntmps254
    go_wp2_with fail
    refine HG.out.mono ?_
    rintro x w1 ⟨rfl, hb1⟩
    have HB1 := Lib.hid hb1
    clear hb1
    go_wp2
    go_ret2
    exact ⟨_, rfl, Own.nil_ _ _, HB1.out⟩
   ·have hrun := apply_run (base := base) (by rw [hL]; exact h) (by omega)
    obtain ⟨R, hR⟩ : ∃ R, applyD base d = R := ⟨_, rfl⟩
    rw [hR] at hrun ⊢
    have HRUN := Lib.hid hrun
    have HD := Lib.hid hd
    have hbl2 : (b : Int) ≤ (20000 : Int) := by omega
    have hb0 : (0 : Int) ≤ (b : Int) := by omega
    have HNA := Lib.hid (fun W => rnum_any a W ha)
    have HNB := Lib.hid (fun W => rnum_any b W hb')
    obtain ⟨n, hN⟩ : ∃ n, d.length = n := ⟨_, rfl⟩
    obtain ⟨D, cd, hvd, hld, hcmd, hId⟩ := hd.len
    unfold maxLen at hcmd
    subst hvd
    have h9a := putL_len9 ha
    have h9b := putL_len9 hb'
    rw [hN] at hq hld HRUN HG HD ⊢
    have HN := Lib.hid hN
    have HQ0 := Lib.hid hq
    clear h hd hb hI hrun hbl hId hN hR hL hq
    go_enter Tryz.func254, Tryz.ntmps254
    go_wp2_with fail
    refine HG.out.mono ?_
    rintro x w1 ⟨rfl, hb1⟩
    have HB1 := Lib.hid hb1
    clear hb1
    go_wp2_with fail
    refine (HNA.out _).mono ?_
    rintro x w2 ⟨v2, rfl, ho2, hb2⟩
    have HB2 := Lib.hid (HB1.out.trans (hb2.mono HB1.out.size))
    obtain ⟨A2, c2, rfl, hl2, hm2⟩ := ho2.length
    unfold maxLen at hm2
    obtain ⟨la, hla⟩ : ∃ la, (putL a).length = la := ⟨_, rfl⟩
    rw [hla] at h9a hl2 HRUN HQ0 ⊢
    clear hb2 ho2 hla
    go_wp2_with fail
    refine (HNB.out _).mono ?_
    rintro x w3 ⟨v3, rfl, ho3, hb3⟩
    have HB3 := Lib.hid (HB2.out.trans (hb3.mono HB2.out.size))
    obtain ⟨A3, c3, rfl, hl3, hm3⟩ := ho3.length
    unfold maxLen at hm3
    obtain ⟨lb, hlb⟩ : ∃ lb, (putL b).length = lb := ⟨_, rfl⟩
    rw [hlb] at h9b hl3 HRUN HQ0 ⊢
    clear hb3 ho3 hlb
    go_wp2_with fail
    go_loopw [9, 10] (fun x v wr => ∃ (k : Nat) (out : List UInt8) (f : Nat), x = .int .i64 k ∧ k ≤ n ∧ out.length ≤ b ∧ n - k < f ∧ Own wr w.heap.size v out ∧ Below w.heap.size w wr ∧ runD base d b f k out = R) (fun x _ _ => n - (intOf x).toNat)
    case atStart => exact ⟨la + lb, [], n + 1, rfl, HQ0.out, by simp, by omega, Own.nil_ _ _, HB3.out, HRUN.out.symm⟩
    case round =>
     obtain ⟨k, out, f, rfl, hk, hol, hf, ho, hbw, hrd⟩ := hrel
     obtain ⟨f, rfl⟩ : ∃ g, f = g + 1 := ⟨f - 1, by omega⟩
     obtain ⟨A1, c1, rfl, hl1, hm1⟩ := ho.length
     unfold maxLen at hm1
     have HO := Lib.hid ho
     have HBW := Lib.hid hbw
     have HRD := Lib.hid hrd
     have hwz := hbw.size
     have HDr := Lib.hid (HD.out.below hbw)
     have HBr := Lib.hid (HB.out.below hbw)
     clear ho hbw hrd
     obtain ⟨m, hM⟩ : ∃ m, out.length = m := ⟨_, rfl⟩
     rw [hM] at hol hl1 HO ⊢
     have HM := Lib.hid hM
     clear hM
     have hm5 : (m : Int) ≤ (b : Int) := by omega
     have hm4 : (0 : Int) ≤ (m : Int) := by omega
     by_cases hkn : k < n
     ·have hkn2 : (k : Int) < (n : Int) := by omega
      have hkd : k < d.length := by rw [HN.out]; exact hkn
      have HS := Lib.hid (rstep_any _ _ base d k ((b : Int) - (m : Int)) wr HBr.out HDr.out hkd)
      rcases step_cases base d k hkd with ⟨e, hs, h1, h2⟩ | ⟨p, q', hs, h1, h2, h3⟩
      ·rw [stepR_err hs (by omega)] at HS
       have hres := HRD.out
       rw [run_err hkd hs (by omega)] at hres
       have HRES := Lib.hid hres
       have hne : (e != 0) = true := by simp; omega
       clear hkd hs h1 h2 hkn hres
       go_wp2_with fail
       refine HS.out.mono ?_
       rintro x w4 ⟨v, rfl, hv, hb4⟩
       have HB4 := Lib.hid (HBW.out.trans (hb4.mono hwz))
       clear hv hb4
       go_wp2
       go_ret2
       exact ⟨_, by rw [← HRES.out]; rfl, by rw [← HRES.out]; exact Own.nil_ _ _, HB4.out⟩
      ·by_cases hlong : b < m + p.length
       ·rw [stepR_long hs (by omega)] at HS
        have hres := HRD.out
        rw [run_long hkd hs (by rw [HM.out]; exact hlong)] at hres
        have HRES := Lib.hid hres
        clear hkd hs hkn hres h1 h2 h3 hlong
        go_wp2_with fail
        refine HS.out.mono ?_
        rintro x w4 ⟨v, rfl, hv, hb4⟩
        have HB4 := Lib.hid (HBW.out.trans (hb4.mono hwz))
        clear hv hb4
        go_wp2
        go_ret2
        exact ⟨_, by rw [← HRES.out]; rfl, by rw [← HRES.out]; exact Own.nil_ _ _, HB4.out⟩
       ·rw [stepR_ok hs (by omega)] at HS
        have hres := HRD.out
        rw [run_on hkd hs (by rw [HM.out]; omega)] at hres
        have HRES := Lib.hid hres
        obtain ⟨pl, hpl⟩ : ∃ pl, p.length = pl := ⟨_, rfl⟩
        have hsm : out.length + pl ≤ 140737488355328 := by have := HM.out; omega
        have hmp : m + pl ≤ b := by omega
        have hq2 : q' ≤ n := by have := HN.out; omega
        have hkq : n - q' < f := by omega
        have HKQ := Lib.hid h1
        clear hkd hs hkn hres h2 h3 hlong h1
        go_wp2_with fail
        refine HS.out.mono ?_
        rintro x w4 ⟨v, rfl, hv, hb4⟩
        have HB4 := Lib.hid (HBW.out.trans (hb4.mono hwz))
        have HO4 := Lib.hid (HO.out.below hb4)
        obtain ⟨P, cp, rfl, hp1, hp2, hp3⟩ := hv.len
        have HP3 := Lib.hid hp3.reads
        have HPL := Lib.hid hpl
        unfold maxLen at hp2
        rw [hpl] at hp1 HP3 ⊢
        have hwz4 := HB4.out.size
        clear hv hp3 hpl hb4 hwz
        go_wp2_with (at_builtin; refine append_bytes rfl (.tmp 58) (.tmp 59) rfl w4 w.heap.size _ out rfl HO4.out _ P pl cp p rfl HP3.out hsm hwz4 ?_; intro v5 w5 ho5 hb5; have HO5 := Lib.hid ho5; have HB5 := Lib.hid hb5; clear ho5 hb5)
        refine ⟨⟨q', out ++ p, f, rfl, hq2, ?_, hkq, HO5.out, HB4.out.trans HB5.out, HRES.out⟩, ?_⟩
        ·rw [List.length_append, HM.out, HPL.out]; exact hmp
        ·have := HKQ.out; simp [intOf]; omega
     ·have hkn2 : (n : Int) ≤ (k : Int) := by omega
      have hres := HRD.out
      rw [run_end (by rw [HN.out]; omega), HM.out] at hres
      have HRES := Lib.hid hres
      clear hres hkn
      by_cases hsh : m < b
      ·have hsh2 : (m : Int) < (b : Int) := by omega
       have hres := HRES.out
       rw [if_pos hsh] at hres
       have HRES2 := Lib.hid hres
       clear hres hsh
       go_wp2
       go_ret2
       exact ⟨_, by rw [← HRES2.out]; rfl, by rw [← HRES2.out]; exact Own.nil_ _ _, HBW.out⟩
      ·have hsh2 : (b : Int) ≤ (m : Int) := by omega
       have hres := HRES.out
       rw [if_neg hsh] at hres
       have HRES2 := Lib.hid hres
       clear hres hsh
       go_wp2
       go_ret2
       exact ⟨_, by rw [← HRES2.out]; rfl, by rw [← HRES2.out]; exact HO.out, HBW.out⟩
  ·rw [apply_sum (base := base) h (by rw [hL]; omega)]
   have hne : ((a : Int) != (l : Int)) = true := by simp; omega
   clear h hd hb hI hq HB hal hL
   go_enter Tryz.func254, Tryz.ntmps254
   go_wp2_with fail
   refine HG.out.mono ?_
   rintro x w1 ⟨rfl, hb1⟩
   have HB1 := Lib.hid hb1
   clear hb1
   go_wp2
   go_ret2
   exact ⟨_, rfl, Own.nil_ _ _, HB1.out⟩
end Go.Proofs.YtpfjlhpahmhkhaaGreat.Sh
/- The document's own match. -/
set_option linter.unusedVariables false
set_option linter.unusedSimpArgs false
namespace Go.Proofs.YtpfjlhpahmhkhaaGreat.Sh
open Go.RowKit
end Go.Proofs.YtpfjlhpahmhkhaaGreat.Sh
/- The document's own Make. -/
set_option linter.unusedVariables false
set_option linter.unusedSimpArgs false
namespace Go.Proofs.YtpfjlhpahmhkhaaGreat.Sh
open Go.RowKit
def Two2 (w : World) (B : Nat) (v : Value) (bs : List UInt8) (u : Value) (cs : List UInt8) : Prop := Own w B v bs ∧ Own w B u cs ∧ (u.ownBlock = none ∨ u.ownBlock ≠ v.ownBlock)
section
variable {w w' : World} {B : Nat} {v u : Value} {bs cs : List UInt8}
theorem Two2.below (h : Two2 w B v bs u cs) (hb : Below w.heap.size w w') : Two2 w' B v bs u cs := ⟨h.1.below hb, h.2.1.below hb, h.2.2⟩
theorem Two2.alloc (h : Two2 w B v bs u cs) (o : Obj) : Two2 (w.alloc o) B v bs u cs := ⟨h.1.alloc o, h.2.1.alloc o, h.2.2⟩
theorem Two2.reads {A : Option Addr} {l c : Nat} (h : Two2 w B v bs (.slice A l c) cs) (hl : cs.length = l) : Reads w w.heap.size 1 A l (cs.map bv) := by
 obtain ⟨A', c', hv, _, _, hI, _⟩ := h.2.1.sl
 injection hv with e1 e2 e3
 subst e1
 have := hI.reads
 rwa [hl] at this
theorem Two2.nil_ (h : Own w B v bs) : Two2 w B v bs (.slice none 0 0) [] := ⟨h, Own.nil_ _ _, .inl rfl⟩
end
end Go.Proofs.YtpfjlhpahmhkhaaGreat.Sh
/- The document's own Write: what may be packed. -/
set_option linter.unusedVariables false
set_option linter.unusedSimpArgs false
namespace Go.Proofs.YtpfjlhpahmhkhaaGreat.Ob
open Go.RowKit Go.Proofs.YtpfjlhpahmhkhaaGreat.Sh
open Go.Proofs.YtpfjlhpahmhkhaaGreat.Tx (Shape InL TmpL OwnL Typed Only By Rd Datas list_appendL step_appendL)
theorem rdec_is (v : Value) (bs : List UInt8) (w : World) (h : Sl w v bs) (hlen : bs.length ≤ 1000000) : Calls Tryz.prog 127 #[v] w fun e w' => ∃ (k : Int) (A A2 A3 : Option Addr) (n c n2 c2 n3 c3 : Nat) (s1 s2 s3 : Int) (t1 t2 : ByteArray), e = .returned (.tuple #[.agg #[.int .i64 s1, .slice A n c, .slice A2 n2 c2, .string t1, .slice A3 n3 c3, .int .i64 s2, .int .i64 s3, .string t2], .int .i64 k]) ∧ (k == 0) = decB bs ∧ Below w.heap.size w w' := by
 refine (rdecode_any v bs w h hlen).mono ?_
 rintro e w' ⟨u, k, rfl, hd, hb⟩
 have hk : (k == 0) = decB bs ∧ ∃ o, ObV w' u o := by
  cases hB : decB bs with
  | true =>
   obtain ⟨h1, h2⟩ := hd.yes hB
   exact ⟨by rw [h1]; rfl, _, h2⟩
  | false =>
   refine ⟨?_, _, hd.no hB⟩
   by_cases h0 : bs = []
   ·rw [hd.short h0]; rfl
   ·rw [hd.form h0 hB]; rfl
 obtain ⟨hk, o, d, it, ps, rfl, ⟨A, c, rfl, _⟩, ⟨A2, c2, rfl, _⟩, ⟨A3, c3, rfl, _⟩⟩ := hk
 exact ⟨k, A, A2, A3, _, c, _, c2, _, c3, _, _, _, _, _, rfl, hk, hb⟩
end Go.Proofs.YtpfjlhpahmhkhaaGreat.Ob
/- The document's source: Get. -/
set_option linter.unusedVariables false
set_option linter.unusedSimpArgs false
namespace Go.Proofs.YtpfjlhpahmhkhaaGreat.Ob
open Go.RowKit Go.Proofs.YtpfjlhpahmhkhaaGreat.Sh
open Go.Proofs.YtpfjlhpahmhkhaaGreat.Tx (OwnV SlV sv Only Rd reads_at)
set_option maxRecDepth 100000 in
set_option maxHeartbeats 1600000 in
theorem sget_any {w : World} {vI vO : Value} {ids objs : List (List UInt8)} (id : ByteArray) (hI : Tx.SlV w vI ((ids.map str).map Tx.sv)) (hO : LsV w vO objs) (hlen : ids.length = objs.length) (hl : ids.length ≤ 1000000) (hs : ∀ x ∈ objs, x.length ≤ 1000000) :
  Calls Tryz.prog 126 #[.agg #[vI, vO, .pointer none], .string id] w (AskR (srcK ids objs) id w) := by
 obtain ⟨A, c, rfl, hlc, hcm⟩ := hO.slice
 have hI2 := hI
 obtain ⟨A3, c3, hv3, hlc3, hcm3, _⟩ := hI2
 rw [List.length_map, List.length_map] at hv3 hlc3
 subst hv3
 unfold maxLen at hcm hcm3
 have hb : Below w.heap.size w (w.alloc (.cells #[.slice A3 ids.length c3, .slice A objs.length c, .pointer none] 53)) := (Below.refl _ _).alloc (Nat.le_refl _) _
 have HIX := Lib.hid (hI.below hb)
 have HOX := Lib.hid (hO.below hb)
 have HBK : Hid (Blk (w.alloc (.cells #[.slice A3 ids.length c3, .slice A objs.length c, .pointer none] 53)) w.heap.size 53 #[.slice A3 ids.length c3, .slice A objs.length c, .pointer none]) := Blk.new _ _ _
 have HB := Lib.hid hb
 have HSL := Lib.hid hs
 obtain ⟨n, hn⟩ : ∃ n, ids.length = n := ⟨_, rfl⟩
 have hn2 : objs.length = n := by omega
 rw [hn] at HIX HOX HBK HB hlc3 hl ⊢
 rw [hn2] at HOX HIX HBK HB hlc ⊢
 have HN : Hid (ids.length = n ∧ objs.length = n) := ⟨hn, hn2⟩
 clear hI hO hlen hb hs hn hn2
 obtain ⟨W, hW⟩ : ∃ W, W = w.alloc (.cells #[.slice A3 n c3, .slice A n c, .pointer none] 53) := ⟨_, rfl⟩
 rw [← hW] at HIX HOX HBK HB
 have q0 := HBK.out.cell 0
 have q1 := HBK.out.cell 1
 have q2 := HBK.out.cell 2
 go_enter Tryz.func126, Tryz.ntmps126
 go_wp2_with fail
 rw [← hW]
 clear hW
 go_loopw [6] (fun x wr => ∃ i : Nat, i ≤ n ∧ x = .int .i64 (i : Int) ∧ wr = W ∧ ∀ (j : Nat) (u : List UInt8), j < i → ids[j]? = some u → u ≠ id.toList) (fun x _ => n - (intOf x).toNat)
 case atStart => exact ⟨0, Nat.zero_le _, rfl, rfl, fun j u hj => absurd hj (Nat.not_lt_zero _)⟩
 case round =>
  obtain ⟨i, hi, rfl, rfl, hno⟩ := hrel
  have HNO := Lib.hid hno
  clear hno
  have z0 : (0 : Int) ≤ (i : Int) := by omega
  by_cases hlt : i < n
  ·have z1 : (i : Int) < (n : Int) := by omega
   obtain ⟨u, hu⟩ : ∃ u, ids[i]? = some u := ⟨_, List.getElem?_eq_getElem (by have := HN.out; omega)⟩
   obtain ⟨x, hx⟩ : ∃ x, objs[i]? = some x := ⟨_, List.getElem?_eq_getElem (by have := HN.out; omega)⟩
   have HU := Lib.hid hu
   have HX := Lib.hid hx
   have HXL : Hid (x.length ≤ 1000000) := HSL.out x (List.mem_of_getElem? hx)
   obtain ⟨ad1, A4, c4, rfl, x1, _, _, hsx⟩ := HOX.out.at_ i x hx
   have HSX := Lib.hid hsx
   obtain ⟨ad3, rfl, x3⟩ : ∃ ad, A3 = some ad ∧ wr.cell? (ad.add i) = some (.string (str u)) := by
    obtain ⟨A', c', e', _, _, hrd, _⟩ := HIX.out
    injection e' with e' _ _
    subst e'
    exact Tx.reads_at hrd i (Tx.sv (str u)) (by rw [List.getElem?_map, List.getElem?_map, hu]; rfl)
   have st := str_toList u
   obtain ⟨xl, hxl⟩ : ∃ y, x.length = y := ⟨_, rfl⟩
   rw [hxl] at x1 HSX
   have HXN := Lib.hid hxl
   clear hu hx hsx hxl
   by_cases he : u = id.toList
   ·have t1 : (u == id.toList) = true := beq_iff_eq.2 he
    have HE := Lib.hid he
    clear he
    go_wp2_with fail
    refine (copyb_any _ x wr HSX.out (by rw [HXN.out]; have := HXL.out; rw [HXN.out] at this; omega)).mono ?_
    rintro e w2 ⟨v2, rfl, ho2, hb2⟩
    obtain ⟨A5, c5, rfl, _, _⟩ := ho2.length
    have HO2 := Lib.hid ho2
    have HB2 := Lib.hid (HB.out.trans (hb2.mono HB.out.size))
    have HS2 : Hid (w.heap.size ≤ wr.heap.size) := HB.out.size
    clear ho2 hb2
    rw [HXN.out] at HO2 ⊢
    go_wp2_with fail
    go_ret2
    exact ⟨A5, xl, c5, true, rfl, HB2.out, .inr ⟨x, srcK_at i HNO.out (by rw [HU.out, HE.out]) HX.out, rfl, HXN.out, Own.based HO2.out HS2.out⟩⟩
   ·have t1 : (u == id.toList) = false := beq_eq_false_iff_ne.2 he
    have HE := Lib.hid he
    clear he
    go_wp2_with fail
    go_roundw
    case rel => exact ⟨i + 1, by omega, by go_num, trivial, fun j u' hj hu' => by
     rcases Nat.lt_or_ge j i with h1 | h1
     ·exact HNO.out j u' h1 hu'
     ·have : j = i := by omega
      subst this
      rw [HU.out] at hu'
      injection hu' with hu'
      rw [← hu']
      exact HE.out⟩
    case measure => simp [intOf]; omega
  ·obtain rfl : i = n := by omega
   go_wp2_with fail
   go_ret2
   exact ⟨none, 0, 0, false, rfl, HB.out, .inl ⟨srcK_none fun j u hj hu => HNO.out j u (by have := HN.out; omega) hu, rfl, rfl, rfl, rfl⟩⟩
end Go.Proofs.YtpfjlhpahmhkhaaGreat.Ob
/- marlaw10's Told: the document's source, made. -/
set_option linter.unusedVariables false
set_option linter.unusedSimpArgs false
namespace Go.Proofs.YtpfjlhpahmhkhaaGreat.Ob
open Go.RowKit Go.Proofs.YtpfjlhpahmhkhaaGreat.Sh
open Go.Proofs.YtpfjlhpahmhkhaaGreat.Tx (OwnV SlV sv Only Rd reads_at Shape TmpL OwnL By Typed step_appendL)
structure TQ (w W : World) (F : Nat → Prop) (vI vO : Value) (ids objs : List (List UInt8)) : Prop where
 b4 : Blk W w.heap.size 53 #[.slice none 0 0, .slice none 0 0, .pointer none]
 b5 : Blk W (w.heap.size + 1) 53 #[vI, vO, .pointer none]
 ownI : Tx.OwnV 9 W (w.heap.size + 2) vI ((ids.map str).map Tx.sv)
 ownO : OwnL lstK 32 F W (w.heap.size + 2) vO objs
 fz : ∀ k, F k → w.heap.size + 2 ≤ k ∧ k < W.heap.size ∧ vI.ownBlock ≠ some k
 below : Below w.heap.size w W
section
variable {w W W' : World} {F : Nat → Prop} {vI vO v' : Value} {ids objs : List (List UInt8)} {o : List UInt8}
theorem TQ.bel (h : TQ w W F vI vO ids objs) (hb : Below W.heap.size W W') : TQ w W' F vI vO ids objs :=
 ⟨h.b4.below hb h.b4.lt, h.b5.below hb h.b5.lt, h.ownI.below hb, h.ownO.only (Only.of_below (M := fun _ => False) hb) (fun _ _ => id) (fun _ _ => id), fun k hk => ⟨(h.fz k hk).1, Nat.lt_of_lt_of_le (h.fz k hk).2.1 hb.size, (h.fz k hk).2.2⟩, h.below.trans (hb.mono h.below.size)⟩
theorem TQ.alloc (h : TQ w W F vI vO ids objs) (o : Go.Obj) : TQ w (W.alloc o) F vI vO ids objs := h.bel ((Below.refl _ _).alloc (Nat.le_refl _) o)
theorem TQ.drew (h : TQ w W F vI vO ids objs) : TQ w W.drew F vI vO ids objs := h.bel (Below.refl _ _).drew
theorem TQ.size (h : TQ w W F vI vO ids objs) : w.heap.size + 2 ≤ W.heap.size := h.b5.lt
theorem TQ.y0 (h : TQ w W F vI vO ids objs) : W.cell? ⟨w.heap.size + 1, 0, none⟩ = some vI := h.b5.cell 0
theorem TQ.y1 (h : TQ w W F vI vO ids objs) : W.cell? ⟨w.heap.size + 1, 1, none⟩ = some vO := h.b5.cell 1
theorem TQ.apart (h : TQ w W F vI vO ids objs) : ∀ k, vI.ownBlock = some k → vO.ownBlock ≠ some k := fun k h1 h2 => by
 obtain ⟨⟨ds, ho, _⟩, _⟩ := h.ownO
 rcases h.ownI.blk with ⟨rfl, _⟩ | ⟨g, c, cur, rfl, _, _, hg, _⟩
 ·cases h1
 ·have e1 : g = k := by simpa [Value.ownBlock] using h1
  subst e1
  exact own_blk_ne ho hg (by decide) h2
theorem TQ.appI (h : TQ w W F vI vO ids objs) (ho : Tx.OwnV 9 W' (w.heap.size + 2) v' (((ids ++ [o]).map str).map Tx.sv)) (hg : W.grownBy W' vI.ownBlock) (hkk : ∀ k, v'.ownBlock = some k → vI.ownBlock = some k ∨ W.heap.size ≤ k) :
  TQ w (W'.setCell ⟨w.heap.size + 1, 0, none⟩ v') F v' vO (ids ++ [o]) objs := by
 have hn : ∀ k, vI.ownBlock = some k → w.heap.size + 2 ≤ k := fun k hk => (h.ownI.lt k hk).1
 have on : Only (fun k => vI.ownBlock = some k) W W' := (Only.refl _ W).grown hg (fun k hk => .inl hk)
 have c4 : Blk W' w.heap.size 53 _ := on.blk h.b4 (fun e => by have := hn _ e; omega)
 have c5 : Blk W' (w.heap.size + 1) 53 _ := on.blk h.b5 (fun e => by have := hn _ e; omega)
 have hO : OwnL lstK 32 F W' (w.heap.size + 2) vO objs := h.ownO.only on (fun k hk e => (h.fz k hk).2.2 e) (fun k hk e => h.apart k e hk)
 have o2 : Only (fun k => k = w.heap.size + 1) W' (W'.setCell ⟨w.heap.size + 1, 0, none⟩ v') := Only.set_ (M := fun k => k = w.heap.size + 1) (g := w.heap.size + 1) (i := 0) (Only.refl _ W') (.inl rfl) _
 have hv' : ∀ k, v'.ownBlock = some k → w.heap.size + 2 ≤ k := fun k hk => (ho.lt k hk).1
 refine ⟨o2.blk c4 (by omega), c5.set_ 0 v', o2.own ho (fun k hk e => by have := hv' k hk; omega), hO.only o2 (fun k hk e => by have := (h.fz k hk).1; omega) (fun k hk e => by have := (hO.lt k hk).1; omega), fun k hk => ?_, ?_⟩
 ·have h1 := h.fz k hk
  have h2 := hg.size
  have h3 := o2.size
  refine ⟨h1.1, by omega, fun e => ?_⟩
  rcases hkk k e with h4 | h4
  ·exact h1.2.2 h4
  ·omega
 ·exact (h.below.grown hg h.below.size (fun k hk => by have := hn k hk; omega)).setCell (by show w.heap.size ≤ w.heap.size + 1; omega) _
theorem TQ.appO {F' : Nat → Prop} (h : TQ w W F vI vO ids objs) (hF : ∀ k, F' k → F k ∨ (k < W.heap.size ∧ w.heap.size + 2 ≤ k ∧ vI.ownBlock ≠ some k)) (ho : OwnL lstK 32 F' W' (w.heap.size + 2) v' (objs ++ [o])) (hg : W.grownBy W' vO.ownBlock) :
  TQ w (W'.setCell ⟨w.heap.size + 1, 1, none⟩ v') F' vI v' ids (objs ++ [o]) := by
 have hn : ∀ k, vO.ownBlock = some k → w.heap.size + 2 ≤ k := fun k hk => (h.ownO.lt k hk).1
 have on : Only (fun k => vO.ownBlock = some k) W W' := (Only.refl _ W).grown hg (fun k hk => .inl hk)
 have c4 : Blk W' w.heap.size 53 _ := on.blk h.b4 (fun e => by have := hn _ e; omega)
 have c5 : Blk W' (w.heap.size + 1) 53 _ := on.blk h.b5 (fun e => by have := hn _ e; omega)
 have hI : Tx.OwnV 9 W' (w.heap.size + 2) vI ((ids.map str).map Tx.sv) := on.own h.ownI (fun k hk e => h.apart k hk e)
 have o2 : Only (fun k => k = w.heap.size + 1) W' (W'.setCell ⟨w.heap.size + 1, 1, none⟩ v') := Only.set_ (M := fun k => k = w.heap.size + 1) (g := w.heap.size + 1) (i := 1) (Only.refl _ W') (.inl rfl) _
 refine ⟨o2.blk c4 (by omega), c5.set_ 1 v', o2.own hI (fun k hk e => by have := (hI.lt k hk).1; omega), ho.only o2 (fun k hk e => ?_) (fun k hk e => by have := (ho.lt k hk).1; omega), fun k hk => ?_, ?_⟩
 ·rcases hF k hk with h1 | h1
  ·have := (h.fz k h1).1; omega
  ·omega
 ·have h2 := hg.size
  have h3 := o2.size
  rcases hF k hk with h1 | h1
  ·have h4 := h.fz k h1
   exact ⟨h4.1, by omega, h4.2.2⟩
  ·exact ⟨h1.2.1, by omega, h1.2.2⟩
 ·exact (h.below.grown hg h.below.size (fun k hk => by have := hn k hk; omega)).setCell (by show w.heap.size ≤ w.heap.size + 1; omega) _
theorem TQ.g5O (h : TQ w W F vI vO ids objs) (hg : W.grownBy W' vO.ownBlock) : Blk W' (w.heap.size + 1) 53 #[vI, vO, .pointer none] := Blk.grown h.b5 hg (fun e => by have := (h.ownO.lt _ e.symm).1; omega)
theorem TQ.g5I (h : TQ w W F vI vO ids objs) (hg : W.grownBy W' vI.ownBlock) : Blk W' (w.heap.size + 1) 53 #[vI, vO, .pointer none] := Blk.grown h.b5 hg (fun e => by have := (h.ownI.lt _ e.symm).1; omega)
end
end Go.Proofs.YtpfjlhpahmhkhaaGreat.Ob
