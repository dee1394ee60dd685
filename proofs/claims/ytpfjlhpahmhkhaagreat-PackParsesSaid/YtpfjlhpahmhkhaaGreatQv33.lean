/- Texts put together: VShDl1, VShAf0, VShDm1, VShDm2. -/
import Derived.Test.YtpfjlhpahmhkhaaGreatQv28
import Derived.Test.YtpfjlhpahmhkhaaGreatQv20
import Derived.Test.YtpfjlhpahmhkhaaGreatQv31
import Derived.Test.YtpfjlhpahmhkhaaGreatQv11
import Derived.Deep.QuietTactic
import Derived.Test.YtpfjlhpahmhkhaaGreatQv29
/- Cuts of slices; the two numbers at a delta's head, its steps, both sides. -/
set_option linter.unusedVariables false
set_option linter.unusedSimpArgs false
namespace Go.Proofs.YtpfjlhpahmhkhaaGreat.Sh
open Go.RowKit
theorem d_size5 (w : World) : (sizeOf (Tryz.prog.elem 32)).run Tryz.prog w = .ok 1 w := by kernel_rfl
set_option maxRecDepth 100000 in
theorem d_back (A : Option Addr) (l c k : Nat) (n : Int) (hn : n = (k : Int)) (hkl : k ≤ l) (w : World) :
  (Instr.slice 32 (.slice A l c) (some (.int .i64 n)) none none).run Tryz.prog w = .ok (.slice (if c = k then A else A.map (·.add k)) (l - k) (c - k)) w := by
 subst hn
 rw [run_slice_l w 32 A l c Tryz.underlying32 .i64 k (by omega) (by omega), d_size5]
 show Result.ok (Value.slice (if c = k then A else A.map (·.add (k * 1))) _ _) _ = _
 rw [Nat.mul_one]
 rfl
set_option maxRecDepth 100000 in
theorem d_mid (A : Option Addr) (l c lo hi : Nat) (n m : Int) (hn : n = (lo : Int)) (hm : m = (hi : Int)) (h1 : lo ≤ hi) (h2 : hi ≤ c) (w : World) :
  (Instr.slice 32 (.slice A l c) (some (.int .i64 n)) (some (.int .i64 m)) none).run Tryz.prog w = .ok (.slice (if c = lo then A else A.map (·.add lo)) (hi - lo) (c - lo)) w := by
 subst hn hm
 rw [run_slice_lh w 32 A l c Tryz.underlying32 .i64 .i64 lo hi (by omega) (by omega) (by omega), d_size5]
 show Result.ok (Value.slice (if c = lo then A else A.map (·.add (lo * 1))) _ _) _ = _
 rw [Nat.mul_one]
 rfl
theorem In.drop_ {w : World} {A : Option Addr} {bs : List UInt8} (h : In w A bs) (k : Nat) : In w (A.map (·.add k)) (bs.drop k) := h.cut k _ (fun _ ad hA => by rw [hA]; rfl)
theorem Sl.mid {w : World} {A : Option Addr} {c : Nat} {bs : List UInt8} {l : Nat} (h : Sl w (.slice A l c) bs) (lo hi : Nat) (h1 : lo ≤ hi) (h2 : hi ≤ bs.length) :
  Sl w (.slice (if c = lo then A else A.map (·.add lo)) (hi - lo) (c - lo)) ((bs.drop lo).take (hi - lo)) := by
 obtain ⟨A', c', he, hl, hm, hi', hn⟩ := h
 injection he with e1 e2 e3
 subst e1 e3
 have hlk : ((bs.drop lo).take (hi - lo)).length = hi - lo := by simp; omega
 by_cases h0 : c = lo
 ·rw [if_pos h0]
  have h3 : (bs.drop lo).take (hi - lo) = [] := List.eq_nil_of_length_eq_zero (by omega)
  refine ⟨A, c - lo, by rw [hlk], by omega, by omega, by rw [h3]; exact In.nil w A, fun _ => h3⟩
 ·rw [if_neg h0]
  refine ⟨A.map (·.add lo), c - lo, by rw [hlk], by omega, by omega, (hi'.drop_ lo).take _, fun h => ?_⟩
  cases A with
  | none => rw [hn rfl]; simp
  | some x => cases h
theorem Sl.back {w : World} {A : Option Addr} {c : Nat} {bs : List UInt8} {l : Nat} (h : Sl w (.slice A l c) bs) (k : Nat) (hk : k ≤ bs.length) : Sl w (.slice (if c = k then A else A.map (·.add k)) (bs.length - k) (c - k)) (bs.drop k) := by
 have := h.mid k bs.length hk (Nat.le_refl _)
 rwa [List.take_of_length_le (by simp)] at this
theorem d_results4 {fn : Func} {t u v x : Tmp} (h : fn.results = #[.tmp t, .tmp u, .tmp v, .tmp x]) (tmps : Array Value) (P : Program) (w : World) :
  (results fn tmps).run P w = .ok (.tuple #[tmps.getD t undef, tmps.getD u undef, tmps.getD v undef, tmps.getD x undef]) w := by
 simp [results, h]
theorem getR_fits (bs : List UInt8) (i a p e : Int) (h : getR bs i = (a, p, e)) (he : e ≠ 0) : a = 0 ∧ p = 0 ∧ 1 ≤ e ∧ e ≤ 4 := by
 by_cases hi : i < 0 ∨ (bs.length : Int) < i
 ·rw [getR_range hi] at h
  injection h with h1 h2
  injection h2 with h2 h3
  exact ⟨h1.symm, h2.symm, by omega, by omega⟩
 ·obtain ⟨k, rfl⟩ := Int.eq_ofNat_of_zero_le (show 0 ≤ i by omega)
  rcases getR_cases bs k (by omega) with ⟨e', h', he'⟩ | ⟨n, h', _⟩
  ·rw [h'] at h
   injection h with h1 h2
   injection h2 with h2 h3
   exact ⟨h1.symm, h2.symm, by omega, by omega⟩
  ·rw [h'] at h
   injection h with h1 h2
   injection h2 with h2 h3
   exact absurd h3.symm he
set_option maxRecDepth 100000 in
set_option maxHeartbeats 800000 in
theorem gettwo_any (v : Value) (bs : List UInt8) (i a b q e : Int) (w : World) (h : Sl w v bs) (hr : two bs i = (a, b, q, e)) :
  Calls Tryz.prog 389 #[v, .int .i64 i] w fun x w' => x = .returned (.tuple #[.int .i64 a, .int .i64 b, .int .i64 q, .int .i64 e]) ∧ w = w' := by
 obtain ⟨a1, p1, e1, h1⟩ : ∃ a1 p1 e1, getR bs i = (a1, p1, e1) := ⟨_, _, _, rfl⟩
 obtain ⟨a2, p2, e2, h2⟩ : ∃ a2 p2 e2, getR bs p1 = (a2, p2, e2) := ⟨_, _, _, rfl⟩
 have hf := getR_fits bs i a1 p1 e1 h1
 have hf2 := getR_fits bs p1 a2 p2 e2 h2
 have HG := Lib.hid (get_any v bs i a1 p1 e1 w h h1)
 have HG2 := Lib.hid (get_any v bs p1 a2 p2 e2 w h h2)
 by_cases he : e1 = 0
 ·subst he
  by_cases he2 : e2 = 0
  ·subst he2
   rw [two_ok h1 h2] at hr
   injection hr with r1 r2
   injection r2 with r2 r3
   injection r3 with r3 r4
   subst r1 r2 r3 r4
   clear hf hf2 h1 h2 h
   go_enter Tryz.func389, Tryz.ntmps389
   go_wp2_with fail
   refine HG.out.mono ?_
   rintro x w' ⟨rfl, rfl⟩
   go_wp2_with fail
   refine HG2.out.mono ?_
   rintro x w' ⟨rfl, rfl⟩
   go_wp2
   (try simp only [Exit.inBlock, Exit.then]); refine bodyPost_ret (d_results4 rfl _ _ _) rfl ?_
   exact ⟨rfl, rfl⟩
  ·obtain ⟨rfl, rfl, b1, b2⟩ := hf2 he2
   rw [two_snd h1 h2 he2] at hr
   injection hr with r1 r2
   injection r2 with r2 r3
   injection r3 with r3 r4
   subst r1 r2 r3 r4
   have hne : (e2 != 0) = true := by simpa using he2
   clear hf hf2 h1 h2 h he2
   go_enter Tryz.func389, Tryz.ntmps389
   go_wp2_with fail
   refine HG.out.mono ?_
   rintro x w' ⟨rfl, rfl⟩
   go_wp2_with fail
   refine HG2.out.mono ?_
   rintro x w' ⟨rfl, rfl⟩
   go_wp2
   (try simp only [Exit.inBlock, Exit.then]); refine bodyPost_ret (d_results4 rfl _ _ _) rfl ?_
   exact ⟨rfl, rfl⟩
 ·obtain ⟨rfl, rfl, b1, b2⟩ := hf he
  rw [two_fst h1 he] at hr
  injection hr with r1 r2
  injection r2 with r2 r3
  injection r3 with r3 r4
  subst r1 r2 r3 r4
  have hne : (e1 != 0) = true := by simpa using he
  clear hf hf2 h1 h2 h he
  go_enter Tryz.func389, Tryz.ntmps389
  go_wp2_with fail
  refine HG.out.mono ?_
  rintro x w' ⟨rfl, rfl⟩
  go_wp2
  (try simp only [Exit.inBlock, Exit.then]); refine bodyPost_ret (d_results4 rfl _ _ _) rfl ?_
  exact ⟨rfl, rfl⟩
def StepPost (w : World) (s : List UInt8 × Int × Int) (e : Ending) (w' : World) : Prop := ∃ v, e = .returned (.tuple #[v, .int .i64 s.2.1, .int .i64 s.2.2]) ∧ Sl w v s.1 ∧ w = w'
set_option maxRecDepth 100000 in
set_option maxHeartbeats 800000 in
theorem copy_any (vb vd : Value) (base d : List UInt8) (k : Nat) (w : World) (hb : Sl w vb base) (hd : Sl w vd d) (hk : k < d.length) (h1 : d.getD k 0 = 1) :
  Calls Tryz.prog 396 #[vb, vd, .int .i64 ((k + 1 : Nat) : Int)] w (StepPost w (stepD base d k)) := by
 obtain ⟨A, c, rfl, hl, hcm, hI⟩ := hb.len
 rcases two_cases d (k + 1) hk with ⟨e, h, he⟩ | ⟨a, b, h, hq, ha, hb'⟩
 ·rw [copy_err h1 h (by omega)]
  have HG := Lib.hid (gettwo_any vd d _ _ _ _ _ w hd h)
  have hne : (e != 0) = true := by rcases he with rfl | rfl <;> rfl
  clear h h1 hd hI hk hb
  go_enter Tryz.func396, Tryz.ntmps396
  go_wp2_with fail
  refine HG.out.mono ?_
  rintro x w' ⟨rfl, rfl⟩
  go_wp2
  go_ret3
  exact ⟨_, rfl, Sl.nil_ _, rfl⟩
 ·have HG := Lib.hid (gettwo_any vd d _ _ _ _ _ w hd h)
  by_cases hz : b = 0
  ·subst hz
   rw [copy_zero h1 h]
   clear h h1 hd hI hk hb
   generalize ((k + 1 + (putL a).length + (putL 0).length : Nat) : Int) = q at *
   go_enter Tryz.func396, Tryz.ntmps396
   go_wp2_with fail
   refine HG.out.mono ?_
   rintro x w' ⟨rfl, rfl⟩
   go_wp2
   go_ret3
   exact ⟨_, rfl, Sl.nil_ _, rfl⟩
  ·have hz2 : ((b : Int) == 0) = false := beq_eq_false_iff_ne.2 (by omega)
   have ha2 : (a : Int) ≤ 72057594037927936 := by omega
   have hb2 : (b : Int) ≤ 72057594037927936 := by omega
   have ha3 : (0 : Int) ≤ (a : Int) := by omega
   have hb3 : (0 : Int) ≤ (b : Int) := by omega
   by_cases hr : a + b ≤ base.length
   ·rw [copy_ok h1 h hz hr]
    have HS := Lib.hid (hb.mid a (a + b) (by omega) hr)
    rw [show a + b - a = b from by omega] at HS
    have hs := fun W => d_mid A base.length c a (a + b) (a : Int) ((a : Int) + (b : Int)) rfl (by omega) (by omega) (by omega) W
    rw [show a + b - a = b from by omega] at hs
    obtain ⟨T, hT⟩ : ∃ T, (if c = a then A else A.map (·.add a)) = T := ⟨_, rfl⟩
    rw [hT] at hs HS
    have hr2 : (a : Int) + (b : Int) ≤ (base.length : Int) := by omega
    generalize ((k + 1 + (putL a).length + (putL b).length : Nat) : Int) = q at *
    obtain ⟨l, hL⟩ : ∃ l, base.length = l := ⟨_, rfl⟩
    rw [hL] at hl hr2 hs ⊢
    clear h h1 hd hI hk hb hz hr hT hL
    go_enter Tryz.func396, Tryz.ntmps396
    go_wp2_with fail
    refine HG.out.mono ?_
    rintro x w' ⟨rfl, rfl⟩
    go_wp2
    go_ret3
    exact ⟨_, rfl, HS.out, rfl⟩
   ·rw [copy_range h1 h (by omega) (by omega)]
    have hr2 : (base.length : Int) < (a : Int) + (b : Int) := by omega
    generalize ((k + 1 + (putL a).length + (putL b).length : Nat) : Int) = q at *
    obtain ⟨l, hL⟩ : ∃ l, base.length = l := ⟨_, rfl⟩
    rw [hL] at hl hr2 ⊢
    clear h h1 hd hI hk hb hz hr hL
    go_enter Tryz.func396, Tryz.ntmps396
    go_wp2_with fail
    refine HG.out.mono ?_
    rintro x w' ⟨rfl, rfl⟩
    go_wp2
    go_ret3
    exact ⟨_, rfl, Sl.nil_ _, rfl⟩
set_option maxRecDepth 100000 in
set_option maxHeartbeats 800000 in
theorem insert_any (vd : Value) (base d : List UInt8) (k : Nat) (w : World) (hd : Sl w vd d) (hk : k < d.length) (h2 : d.getD k 0 = 2) :
  Calls Tryz.prog 397 #[vd, .int .i64 ((k + 1 : Nat) : Int)] w (StepPost w (stepD base d k)) := by
 obtain ⟨A, c, rfl, hl, hcm, hI⟩ := hd.len
 rcases getR_cases d (k + 1) hk with ⟨e, h, he⟩ | ⟨n, h, hq, hn, _⟩
 ·rw [ins_err h2 h (by omega)]
  have HG := Lib.hid (get_any _ d _ _ _ _ w hd h)
  have hne : (e != 0) = true := by rcases he with rfl | rfl <;> rfl
  obtain ⟨l, hL⟩ : ∃ l, d.length = l := ⟨_, rfl⟩
  rw [hL] at hl HG ⊢
  clear h h2 hd hI hk hL
  go_enter Tryz.func397, Tryz.ntmps397
  go_wp2_with fail
  refine HG.out.mono ?_
  rintro x w' ⟨rfl, rfl⟩
  go_wp2
  go_ret3
  exact ⟨_, rfl, Sl.nil_ _, rfl⟩
 ·have HG := Lib.hid (get_any _ d _ _ _ _ w hd h)
  by_cases hz : n = 0
  ·subst hz
   rw [ins_zero h2 h]
   obtain ⟨l, hL⟩ : ∃ l, d.length = l := ⟨_, rfl⟩
   rw [hL] at hl HG ⊢
   clear h h2 hd hI hk hL hq
   generalize ((k + 1 + (putL 0).length : Nat) : Int) = q at *
   go_enter Tryz.func397, Tryz.ntmps397
   go_wp2_with fail
   refine HG.out.mono ?_
   rintro x w' ⟨rfl, rfl⟩
   go_wp2
   go_ret3
   exact ⟨_, rfl, Sl.nil_ _, rfl⟩
  ·have hz2 : ((n : Int) == 0) = false := beq_eq_false_iff_ne.2 (by omega)
   have hn2 : (n : Int) ≤ 72057594037927936 := by omega
   have hn3 : (0 : Int) ≤ (n : Int) := by omega
   obtain ⟨q, hQ⟩ : ∃ q, k + 1 + (putL n).length = q := ⟨_, rfl⟩
   rw [hQ] at h hq HG
   have hq3 : (0 : Int) ≤ (q : Int) := by omega
   have hq4 : (q : Int) ≤ (d.length : Int) := by omega
   unfold maxLen at hcm
   by_cases hr : q + n ≤ d.length
   ·rw [ins_ok h2 h hz hr]
    have HS := Lib.hid (hd.mid q (q + n) (by omega) hr)
    rw [show q + n - q = n from by omega] at HS
    have hs := fun W => d_mid A d.length c q (q + n) (q : Int) ((q : Int) + (n : Int)) rfl (by omega) (by omega) (by omega) W
    rw [show q + n - q = n from by omega] at hs
    obtain ⟨T, hT⟩ : ∃ T, (if c = q then A else A.map (·.add q)) = T := ⟨_, rfl⟩
    rw [hT] at hs HS
    have hr2 : (n : Int) ≤ (d.length : Int) - (q : Int) := by omega
    obtain ⟨l, hL⟩ : ∃ l, d.length = l := ⟨_, rfl⟩
    rw [hL] at hl hr2 hs hq4 HG ⊢
    have e2 : (((q + n : Nat) : Int)) = (q : Int) + (n : Int) := by omega
    rw [e2]
    clear h h2 hd hI hk hz hr hT hL hQ e2 hq
    go_enter Tryz.func397, Tryz.ntmps397
    go_wp2_with fail
    refine HG.out.mono ?_
    rintro x w' ⟨rfl, rfl⟩
    go_wp2
    go_ret3
    exact ⟨_, rfl, HS.out, rfl⟩
   ·rw [ins_short h2 h (by omega) (by omega)]
    have hr2 : (d.length : Int) - (q : Int) < (n : Int) := by omega
    obtain ⟨l, hL⟩ : ∃ l, d.length = l := ⟨_, rfl⟩
    rw [hL] at hl hr2 hq4 HG ⊢
    clear h h2 hd hI hk hz hr hL hQ hq
    go_enter Tryz.func397, Tryz.ntmps397
    go_wp2_with fail
    refine HG.out.mono ?_
    rintro x w' ⟨rfl, rfl⟩
    go_wp2
    go_ret3
    exact ⟨_, rfl, Sl.nil_ _, rfl⟩
theorem d_kind {d : List UInt8} {k : Nat} {u : UInt8} {n : Nat} (hu : d.getD k 0 ≠ u) (hn : u.toNat = n) : (bi (d.getD k 0) == (n : Int)) = false := by
 rw [beq_eq_false_iff_ne]
 intro e
 refine hu (bi_inj ?_)
 rw [e]
 unfold bi
 rw [hn]
theorem bi1 : bi 1 = 1 := by unfold bi; rfl
theorem bi2 : bi 2 = 2 := by unfold bi; rfl
set_option maxRecDepth 100000 in
set_option maxHeartbeats 800000 in
theorem step_any (vb vd : Value) (base d : List UInt8) (k : Nat) (w : World) (hb : Sl w vb base) (hd : Sl w vd d) (hk : k < d.length) :
  Calls Tryz.prog 390 #[vb, vd, .int .i64 (k : Int)] w (StepPost w (stepD base d k)) := by
 have HC := Lib.hid (copy_any vb vd base d k w hb hd hk)
 have HN := Lib.hid (insert_any vd base d k w hd hk)
 obtain ⟨A, c, rfl, hl, hcm, hI⟩ := hd.len
 obtain ⟨ad, rfl, hcell⟩ := hI.at_ k hk
 unfold maxLen at hcm
 have hk2 : (k : Int) < (d.length : Int) := by omega
 have hk3 : (0 : Int) ≤ (k : Int) := by omega
 by_cases h1 : d.getD k 0 = 1
 ·replace HC := Lib.hid (HC.out h1)
  rw [h1, bi1] at hcell
  rw [show ((k + 1 : Nat) : Int) = (k : Int) + 1 from by omega] at HC
  obtain ⟨s, hs⟩ : ∃ s, stepD base d k = s := ⟨_, rfl⟩
  rw [hs] at HC ⊢
  obtain ⟨l, hL⟩ : ∃ l, d.length = l := ⟨_, rfl⟩
  rw [hL] at hl hk2 HC ⊢
  clear hs hL HN hd hI h1 hb hk
  go_enter Tryz.func390, Tryz.ntmps390
  go_wp2_with fail
  refine HC.out.mono ?_
  rintro x w' ⟨v, rfl, hv, rfl⟩
  have HV := Lib.hid hv
  clear hv
  go_wp2
  go_ret3
  exact ⟨_, rfl, HV.out, rfl⟩
 ·have n1 := d_kind h1 (n := 1) rfl
  by_cases h2 : d.getD k 0 = 2
  ·replace HN := Lib.hid (HN.out h2)
   rw [h2, bi2] at hcell
   rw [show ((k + 1 : Nat) : Int) = (k : Int) + 1 from by omega] at HN
   obtain ⟨s, hs⟩ : ∃ s, stepD base d k = s := ⟨_, rfl⟩
   rw [hs] at HN ⊢
   obtain ⟨l, hL⟩ : ∃ l, d.length = l := ⟨_, rfl⟩
   rw [hL] at hl hk2 HN ⊢
   clear hs hL HC hd hI h1 h2 hb hk n1
   go_enter Tryz.func390, Tryz.ntmps390
   go_wp2_with fail
   refine HN.out.mono ?_
   rintro x w' ⟨v, rfl, hv, rfl⟩
   have HV := Lib.hid hv
   clear hv
   go_wp2
   go_ret3
   exact ⟨_, rfl, HV.out, rfl⟩
  ·have n2 := d_kind h2 (n := 2) rfl
   rw [step_none h1 h2]
   obtain ⟨u, hu⟩ : ∃ u, bi (d.getD k 0) = u := ⟨_, rfl⟩
   rw [hu] at hcell n1 n2
   obtain ⟨l, hL⟩ : ∃ l, d.length = l := ⟨_, rfl⟩
   rw [hL] at hl hk2 ⊢
   have n1' : (u == 1) = false := n1
   have n2' : (u == 2) = false := n2
   clear hL HC HN hd hI h1 h2 hb hk n1 n2 hu
   go_enter Tryz.func390, Tryz.ntmps390
   go_wp2
   go_ret3
   exact ⟨_, rfl, Sl.nil_ _, rfl⟩
end Go.Proofs.YtpfjlhpahmhkhaaGreat.Sh
/- A region that draws its order, whose operations only read, and whose callees lay blocks of their own: walked once. -/
set_option linter.unusedVariables false
set_option linter.unusedSimpArgs false
namespace Go.Proofs.YtpfjlhpahmhkhaaGreat.Sh
open Go.RowKit
structure Aft (w : World) where
 w' : World
 h : Below w.heap.size w w'
instance (w : World) : Inhabited (Aft w) := ⟨⟨w, Below.refl _ _⟩⟩
theorem aft_quiet {P : Program} {id : Nat} {Q : Exit → Act → World → Prop} {a : Act} {w : World} {l : List Oper} (hm : P.follows .mixedOrders = true) (hB : Region.lexB .any l.toArray = true)
  (h : wpQuiet P l.toArray (fun w' => ∃ p : Aft w, w' = p.w') (fun a' => ∀ w', (∃ p : Aft w, w' = p.w') → Q .normal a' w') l a) : (Code.region id l.toArray true).wp P Q a w :=
 wp_region_quiet (C := fun w' => ∃ p : Aft w, w' = p.w') hm hB ⟨⟨w.drew, (Below.refl _ _).drew⟩, rfl⟩ (by simpa using h)
theorem Calls.aft_of {P : Program} {f : FuncId} {args : Array Value} {w : World} {p : Aft w} {v : Value} (h : Calls P f args p.w' fun e w' => e = .returned v ∧ Below p.w'.heap.size p.w' w') : Calls P f args p.w' fun e w'' => e = .returned v ∧ ∃ q : Aft w, w'' = q.w' :=
 h.mono fun _ w'' ⟨he, hb⟩ => ⟨he, ⟨w'', p.h.trans (hb.mono p.h.size)⟩, rfl⟩
end Go.Proofs.YtpfjlhpahmhkhaaGreat.Sh
/- What two slices have in common; the slot of a piece. -/
set_option linter.unusedVariables false
set_option linter.unusedSimpArgs false
namespace Go.Proofs.YtpfjlhpahmhkhaaGreat.Sh
open Go.RowKit
set_option maxRecDepth 100000 in
set_option maxHeartbeats 1600000 in
theorem common_any (va vb : Value) (a b : List UInt8) (w : World) (ha : Sl w va a) (hb : Sl w vb b) :
  Calls Tryz.prog 339 #[va, vb] w fun e w' => e = .returned (.int .i64 ((lcp a b : Nat) : Int)) ∧ Below w.heap.size w w' := by
 obtain ⟨A, c, rfl, hl, hcm, hI⟩ := ha.len
 obtain ⟨B, cb, rfl, hlb, hcmb, hIb⟩ := hb.len
 unfold maxLen at hcm hcmb
 obtain ⟨hm1, hm2⟩ := lcp_le a b
 have HAT := Lib.hid (fun i (h : i < lcp a b) => lcp_at h)
 have HEND := Lib.hid (lcp_end a b)
 obtain ⟨m, hM⟩ : ∃ m, lcp a b = m := ⟨_, rfl⟩
 obtain ⟨la, hLA⟩ : ∃ l, a.length = l := ⟨_, rfl⟩
 obtain ⟨lb, hLB⟩ : ∃ l, b.length = l := ⟨_, rfl⟩
 rw [hM] at hm1 hm2 HAT HEND ⊢
 rw [hLA] at hl hm1 HEND ⊢
 rw [hLB] at hlb hm2 HEND ⊢
 have HI := Lib.hid hI
 have HIB := Lib.hid hIb
 have HLA := Lib.hid hLA
 have HLB := Lib.hid hLB
 clear hI hIb hLA hLB ha hb hM
 go_enter Tryz.func339, Tryz.ntmps339
 go_wp2
 case inr =>
  have hbl : la ≤ la ∧ la ≤ lb := by omega
  obtain ⟨hb1, hb2⟩ := hbl
  have hmb : m ≤ la := by omega
  have HEN : Hid (m < la → a.getD m 0 ≠ b.getD m 0) := fun h => HEND.out (by omega) (by omega)
  go_loopw [6, 13] (fun _ i wr => ∃ k : Nat, k ≤ m ∧ i = .int .i64 k ∧ Below w.heap.size w wr) (fun _ i _ => la - (intOf i).toNat)
  case atStart => exact ⟨0, Nat.zero_le _, rfl, Below.refl _ _⟩
  case round =>
   obtain ⟨k, hk, rfl, hbw⟩ := hrel
   have HBW := Lib.hid hbw
   clear hbw
   by_cases hkb : k < la
   ·have hkb2 : (k : Int) < (la : Int) := by omega
    have hk0 : (0 : Int) ≤ (k : Int) := by omega
    have hka2 : (k : Int) < (la : Int) := by omega
    have hkb3 : (k : Int) < (lb : Int) := by omega
    obtain ⟨ad, rfl, hcell⟩ := (HI.out.below HBW.out).at_ k (by rw [HLA.out]; omega)
    obtain ⟨ad2, rfl, hcell2⟩ := (HIB.out.below HBW.out).at_ k (by rw [HLB.out]; omega)
    by_cases hkm : k < m
    ·rw [HAT.out k hkm] at hcell
     generalize bi (b.getD k 0) = x at *
     have hne : (x != x) = false := bne_self_eq_false x
     clear hk hb1 hb2
     go_wp2_with fail
     go_quiet (fail)
     go_wp2
     go_roundw
     case rel => exact ⟨k + 1, by omega, by go_num, below_drewN HBW.out _⟩
     case measure => simp [intOf]; omega
    ·have hke : k = m := by omega
     have hne : (bi (a.getD k 0) != bi (b.getD k 0)) = true := by
      rw [bne_iff_ne]
      intro e
      exact HEN.out (by omega) (by rw [← hke]; exact bi_inj e)
     generalize bi (a.getD k 0) = x at *
     generalize bi (b.getD k 0) = y at *
     have HKE := Lib.hid hke
     clear hk hkm hb1 hb2 hke
     go_wp2_with fail
     go_quiet (fail)
     go_wp2
     go_ret
     exact ⟨by rw [← HKE.out]; rfl, below_drewN HBW.out _⟩
   ·have hkb2 : (la : Int) ≤ (k : Int) := by omega
    have hke : la = m := by omega
    have HKE := Lib.hid hke
    clear hk hkb hb1 hb2 hke
    go_wp2
    go_ret
    exact ⟨by rw [← HKE.out]; rfl, HBW.out⟩
 case inl =>
  have hbl : lb ≤ la ∧ lb ≤ lb := by omega
  obtain ⟨hb1, hb2⟩ := hbl
  have hmb : m ≤ lb := by omega
  have HEN : Hid (m < lb → a.getD m 0 ≠ b.getD m 0) := fun h => HEND.out (by omega) (by omega)
  go_loopw [6, 13] (fun _ i wr => ∃ k : Nat, k ≤ m ∧ i = .int .i64 k ∧ Below w.heap.size w wr) (fun _ i _ => lb - (intOf i).toNat)
  case atStart => exact ⟨0, Nat.zero_le _, rfl, Below.refl _ _⟩
  case round =>
   obtain ⟨k, hk, rfl, hbw⟩ := hrel
   have HBW := Lib.hid hbw
   clear hbw
   by_cases hkb : k < lb
   ·have hkb2 : (k : Int) < (lb : Int) := by omega
    have hk0 : (0 : Int) ≤ (k : Int) := by omega
    have hka2 : (k : Int) < (la : Int) := by omega
    have hkb3 : (k : Int) < (lb : Int) := by omega
    obtain ⟨ad, rfl, hcell⟩ := (HI.out.below HBW.out).at_ k (by rw [HLA.out]; omega)
    obtain ⟨ad2, rfl, hcell2⟩ := (HIB.out.below HBW.out).at_ k (by rw [HLB.out]; omega)
    by_cases hkm : k < m
    ·rw [HAT.out k hkm] at hcell
     generalize bi (b.getD k 0) = x at *
     have hne : (x != x) = false := bne_self_eq_false x
     clear hk hb1 hb2
     go_wp2_with fail
     go_quiet (fail)
     go_wp2
     go_roundw
     case rel => exact ⟨k + 1, by omega, by go_num, below_drewN HBW.out _⟩
     case measure => simp [intOf]; omega
    ·have hke : k = m := by omega
     have hne : (bi (a.getD k 0) != bi (b.getD k 0)) = true := by
      rw [bne_iff_ne]
      intro e
      exact HEN.out (by omega) (by rw [← hke]; exact bi_inj e)
     generalize bi (a.getD k 0) = x at *
     generalize bi (b.getD k 0) = y at *
     have HKE := Lib.hid hke
     clear hk hkm hb1 hb2 hke
     go_wp2_with fail
     go_quiet (fail)
     go_wp2
     go_ret
     exact ⟨by rw [← HKE.out]; rfl, below_drewN HBW.out _⟩
   ·have hkb2 : (lb : Int) ≤ (k : Int) := by omega
    have hke : lb = m := by omega
    have HKE := Lib.hid hke
    clear hk hkb hb1 hb2 hke
    go_wp2
    go_ret
    exact ⟨by rw [← HKE.out]; rfl, HBW.out⟩
def mixF (s : Int) (c : UInt8) : Int := IntKind.u64.wrap (bits .xor .u64 s (bi c) * 1099511628211)
def hashF (t : List UInt8) : Int := (t.take 8).foldl mixF 14695981039346656037
def slotF (L : Nat) (t : List UInt8) : Nat := (hashF t % (L : Int)).toNat
theorem mixF_pos (s : Int) (c : UInt8) : 0 ≤ mixF s c ∧ mixF s c ≤ 18446744073709551615 := by
 unfold mixF
 rw [IntKind.wrap_u64]
 omega
theorem fold_pos : ∀ (l : List UInt8) (s : Int), 0 ≤ s → s ≤ 18446744073709551615 → 0 ≤ l.foldl mixF s ∧ l.foldl mixF s ≤ 18446744073709551615
 | [], s, h1, h2 => ⟨h1, h2⟩
 | c :: l, s, _, _ => fold_pos l (mixF s c) (mixF_pos s c).1 (mixF_pos s c).2
theorem slotF_lt {L : Nat} (h : 0 < L) (t : List UInt8) : slotF L t < L := by
 unfold slotF
 have := Int.emod_lt_of_pos (hashF t) (show (0 : Int) < (L : Int) by omega)
 have := Int.emod_nonneg (hashF t) (show (L : Int) ≠ 0 by omega)
 omega
theorem slotF_cast {L : Nat} (h : 0 < L) (t : List UInt8) : ((slotF L t : Nat) : Int) = hashF t % (L : Int) := by
 unfold slotF
 have := Int.emod_nonneg (hashF t) (show (L : Int) ≠ 0 by omega)
 omega
theorem slotF_same {L : Nat} {a b : List UInt8} (h : 8 ≤ lcp a b) : slotF L a = slotF L b := by unfold slotF hashF; rw [lcp_take8 h]
end Go.Proofs.YtpfjlhpahmhkhaaGreat.Sh
/- The slot of a piece in an index. -/
set_option linter.unusedVariables false
set_option linter.unusedSimpArgs false
namespace Go.Proofs.YtpfjlhpahmhkhaaGreat.Sh
open Go.RowKit
set_option maxRecDepth 100000 in
theorem d_front (A : Option Addr) (l c k : Nat) (n : Int) (hn : n = (k : Int)) (hkc : k ≤ c) (w : World) :
  (Instr.slice 32 (.slice A l c) none (some (.int .i64 n)) none).run Tryz.prog w = .ok (.slice (if c = 0 then A else A.map (·.add 0)) k c) w := by
 subst hn
 rw [run_slice_h w 32 A l c Tryz.underlying32 .i64 k (by omega) (by omega), d_size5]
 rfl
theorem In.front {w : World} {A : Option Addr} {bs : List UInt8} (h : In w A bs) (c k : Nat) (hk : k ≤ bs.length) : In w (if c = 0 then A else A.map (·.add 0)) (bs.take k) := by
 have hA0 : (if c = 0 then A else A.map (·.add 0)) = A := by
  split
  ·rfl
  ·cases A with
   | none => rfl
   | some x => show some (x.add 0) = some x; simp [Addr.add]
 rw [hA0]
 exact h.take k
theorem conv_u64 (c : UInt8) : IntKind.u64.wrap (bi c) = bi c := by
 have := bi_lt c
 rw [IntKind.wrap_u64]
 omega
theorem fold_step (t : List UInt8) (k : Nat) (hk : k < t.length) (s : Int) : (t.take (k + 1)).foldl mixF s = IntKind.u64.wrap (bits .xor .u64 ((t.take k).foldl mixF s) (bi (t.getD k 0)) * 1099511628211) := by
 rw [List.take_succ_eq_append_getElem hk, List.foldl_append, List.getD_eq_getElem?_getD, List.getElem?_eq_getElem hk]
 rfl
set_option maxRecDepth 100000 in
set_option maxHeartbeats 1600000 in
theorem slot_any (vb vf vn vt : Value) (fs : List Int) (t : List UInt8) (w : World) (hf : SlV w vf (fs.map iv)) (ht : Sl w vt t) (h8 : 8 ≤ t.length) (h0 : 0 < fs.length) (hfl : fs.length ≤ 1000000) :
  Calls Tryz.prog 338 #[.agg #[vb, vf, vn], vt] w fun e w' => e = .returned (.int .i64 ((slotF fs.length t : Nat) : Int)) ∧ Below w.heap.size w w' := by
 obtain ⟨F, cf, rfl, hlf, hcf, hRf⟩ := hf.len
 obtain ⟨T, c, rfl, hl, hcm, hI⟩ := ht.len
 unfold maxLen at hcm hcf
 have hfr := fun W => d_front T t.length c 8 8 rfl (by omega) W
 have hIF := hI.front c 8 h8
 obtain ⟨T', hT'⟩ : ∃ T', (if c = 0 then T else T.map (·.add 0)) = T' := ⟨_, rfl⟩
 rw [hT'] at hfr hIF
 have htk : (t.take 8).length = 8 := by rw [List.length_take]; omega
 have HSC := Lib.hid (slotF_cast h0 t)
 have HSL := Lib.hid (slotF_lt h0 t)
 have hfp := fold_pos (t.take 8) 14695981039346656037 (by decide) (by decide)
 unfold hashF at HSC
 obtain ⟨q, hq⟩ : ∃ q, t.take 8 = q := ⟨_, rfl⟩
 rw [hq] at htk hIF HSC hfp
 have HI := Lib.hid hIF
 have HTK := Lib.hid htk
 rw [List.length_map] at hlf ⊢
 obtain ⟨L, hL⟩ : ∃ L, fs.length = L := ⟨_, rfl⟩
 obtain ⟨l, hl'⟩ : ∃ l, t.length = l := ⟨_, rfl⟩
 rw [hL] at HSC HSL hlf h0 hfl ⊢
 rw [hl'] at hfr hl h8 ⊢
 obtain ⟨sl, hsl⟩ : ∃ s, slotF L t = s := ⟨_, rfl⟩
 rw [hsl] at HSC HSL ⊢
 have HBX := Lib.hid ((Below.refl w.heap.size w).alloc (Nat.le_refl _) (.cells #[vb, .slice F L cf, vn] 372))
 clear hIF htk hL hl' hq hsl hI hRf hf ht hT'
 go_enter Tryz.func338, Tryz.ntmps338
 go_wp2
 go_loop [5, 7, 11] (fun s _ i => ∃ k : Nat, k ≤ 8 ∧ i = .int .i64 k ∧ s = .int .u64 ((q.take k).foldl mixF 14695981039346656037)) (fun _ _ i => 8 - (intOf i).toNat)
 case atStart => exact ⟨0, by omega, rfl, rfl⟩
 case round =>
  obtain ⟨k, hk, rfl, rfl⟩ := hrel
  by_cases hlt : k < 8
  ·obtain ⟨ad, rfl, hcell⟩ := (HI.out.below HBX.out).at_ k (by rw [HTK.out]; exact hlt)
   have hcv := conv_u64 (q.getD k 0)
   have HFS := Lib.hid (fold_step q k (by rw [HTK.out]; exact hlt) 14695981039346656037)
   generalize bi (q.getD k 0) = x at *
   generalize (q.take k).foldl mixF 14695981039346656037 = s at *
   have hk2 : (k : Int) < 8 := by omega
   have hk0 : (0 : Int) ≤ (k : Int) := by omega
   go_wp2
   go_round
   case rel => exact ⟨k + 1, by omega, by go_num, by rw [HFS.out]⟩
   case measure => simp [intOf]; omega
  ·obtain rfl : k = 8 := by omega
   rw [List.take_of_length_le (by rw [HTK.out]; exact Nat.le_refl _)]
   obtain ⟨S, hS⟩ : ∃ S, q.foldl mixF 14695981039346656037 = S := ⟨_, rfl⟩
   rw [hS] at HSC hfp ⊢
   obtain ⟨hS0, hS1⟩ := hfp
   have e0 : IntKind.u64.wrap (L : Int) = (L : Int) := by rw [IntKind.wrap_u64]; omega
   have e1 : S.tmod (L : Int) = (sl : Int) := by rw [Int.tmod_eq_emod_of_nonneg hS0]; exact HSC.out.symm
   have e2 : S % (L : Int) = (sl : Int) := HSC.out.symm
   have e3 : IntKind.i64.wrap (sl : Int) = (sl : Int) := IntWalk.i64_in _ (by have := HSL.out; omega)
   have e4 : IntKind.u64.wrap (sl : Int) = (sl : Int) := by rw [IntKind.wrap_u64]; have := HSL.out; omega
   have e5 : ((L : Int) == 0) = false := beq_eq_false_iff_ne.2 (by omega)
   have e6 : (0 : Int) < (L : Int) := by omega
   clear hS
   go_wp2
   go_ret
   exact ⟨rfl, HBX.out⟩
end Go.Proofs.YtpfjlhpahmhkhaaGreat.Sh
