/- Texts put together: YShN4, YShDl1. -/
import Derived.Test.YtodlaikemoedfaaGreatQp15
import Derived.Test.YtodlaikemoedfaaGreatQp03
import Derived.Test.YtodlaikemoedfaaGreatQp32
/- The reference's Get. -/
namespace Go.Proofs.YtodlaikemoedfaaGreat.Sh
open Go.RowKit

/-- What is asked of the bytes ahead of the walk: b stands at k .. k+m behind which it ends or a byte below 128 stands. -/
def Run (bs : List UInt8) (k m : Nat) : Prop := k + m ≤ bs.length ∧ ∀ j, j < m → 128 ≤ (bs.getD (k + j) 0).toNat
end Go.Proofs.YtodlaikemoedfaaGreat.Sh
/- Cuts of slices; the two numbers at a delta's head, its steps, both sides. -/
set_option linter.unusedVariables false
set_option linter.unusedSimpArgs false
namespace Go.Proofs.YtodlaikemoedfaaGreat.Sh
open Go.RowKit

theorem d_size5 (w : World) : (sizeOf (Tryz.prog.elem 25)).run Tryz.prog w = .ok 1 w := by kernel_rfl
set_option maxRecDepth 100000 in
theorem d_back (A : Option Addr) (l c k : Nat) (n : Int) (hn : n = (k : Int)) (hkl : k ≤ l) (w : World) :
    (Instr.slice 25 (.slice A l c) (some (.int .i64 n)) none none).run Tryz.prog w = .ok (.slice (if c = k then A else A.map (·.add k)) (l - k) (c - k)) w := by
  subst hn
  rw [run_slice_l w 25 A l c Tryz.underlying25 .i64 k (by omega) (by omega), d_size5]
  show Result.ok (Value.slice (if c = k then A else A.map (·.add (k * 1))) _ _) _ = _
  rw [Nat.mul_one]
  rfl
set_option maxRecDepth 100000 in
theorem d_mid (A : Option Addr) (l c lo hi : Nat) (n m : Int) (hn : n = (lo : Int)) (hm : m = (hi : Int)) (h1 : lo ≤ hi) (h2 : hi ≤ c) (w : World) :
    (Instr.slice 25 (.slice A l c) (some (.int .i64 n)) (some (.int .i64 m)) none).run Tryz.prog w = .ok (.slice (if c = lo then A else A.map (·.add lo)) (hi - lo) (c - lo)) w := by
  subst hn hm
  rw [run_slice_lh w 25 A l c Tryz.underlying25 .i64 .i64 lo hi (by omega) (by omega) (by omega), d_size5]
  show Result.ok (Value.slice (if c = lo then A else A.map (·.add (lo * 1))) _ _) _ = _
  rw [Nat.mul_one]
  rfl
theorem In.drop_ {w : World} {A : Option Addr} {bs : List UInt8} (h : In w A bs) (k : Nat) : In w (A.map (·.add k)) (bs.drop k) := h.cut k _ (fun _ ad hA => by rw [hA]; rfl)
theorem Sl.mid {w : World} {A : Option Addr} {c : Nat} {bs : List UInt8} {l : Nat} (h : Sl w (.slice A l c) bs) (lo hi : Nat) (h1 : lo ≤ hi) (h2 : hi ≤ bs.length) :
    Sl w (.slice (if c = lo then A else A.map (·.add lo)) (hi - lo) (c - lo)) ((bs.drop lo).take (hi - lo)) := by
  obtain ⟨A', c', he, hl, hm, hi', hn⟩ := h
  injection he with e1 e2 e3
  subst e1 e3
  have hlk : ((bs.drop lo).take (hi - lo)).length = hi - lo := by simp; omega
  by_cases h0 : c = lo
  · rw [if_pos h0]
    have h3 : (bs.drop lo).take (hi - lo) = [] := List.eq_nil_of_length_eq_zero (by omega)
    refine ⟨A, c - lo, by rw [hlk], by omega, by omega, by rw [h3]; exact In.nil w A, fun _ => h3⟩
  · rw [if_neg h0]
    refine ⟨A.map (·.add lo), c - lo, by rw [hlk], by omega, by omega, (hi'.drop_ lo).take _, fun h => ?_⟩
    cases A with
    | none => rw [hn rfl]; simp
    | some x => cases h
theorem Sl.back {w : World} {A : Option Addr} {c : Nat} {bs : List UInt8} {l : Nat} (h : Sl w (.slice A l c) bs) (k : Nat) (hk : k ≤ bs.length) : Sl w (.slice (if c = k then A else A.map (·.add k)) (bs.length - k) (c - k)) (bs.drop k) := by
  have := h.mid k bs.length hk (Nat.le_refl _)
  rwa [List.take_of_length_le (by simp)] at this

theorem d_results4 {fn : Func} {t u v x : Tmp} (h : fn.results = #[.tmp t, .tmp u, .tmp v, .tmp x]) (tmps : Array Value) (P : Program) (w : World) :
    (results fn tmps).run P w = .ok (.tuple #[tmps.getD t undef, tmps.getD u undef, tmps.getD v undef, tmps.getD x undef]) w := by
  simp [results, h]

/-- What reading answers is a number that fits. -/
theorem getR_fits (bs : List UInt8) (i a p e : Int) (h : getR bs i = (a, p, e)) (he : e ≠ 0) : a = 0 ∧ p = 0 ∧ 1 ≤ e ∧ e ≤ 4 := by
  by_cases hi : i < 0 ∨ (bs.length : Int) < i
  · rw [getR_range hi] at h
    injection h with h1 h2
    injection h2 with h2 h3
    exact ⟨h1.symm, h2.symm, by omega, by omega⟩
  · obtain ⟨k, rfl⟩ := Int.eq_ofNat_of_zero_le (show 0 ≤ i by omega)
    rcases getR_cases bs k (by omega) with ⟨e', h', he'⟩ | ⟨n, h', _⟩
    · rw [h'] at h
      injection h with h1 h2
      injection h2 with h2 h3
      exact ⟨h1.symm, h2.symm, by omega, by omega⟩
    · rw [h'] at h
      injection h with h1 h2
      injection h2 with h2 h3
      exact absurd h3.symm he

set_option maxRecDepth 100000 in
set_option maxHeartbeats 800000 in
theorem gettwo_any (v : Value) (bs : List UInt8) (i a b q e : Int) (w : World) (h : Sl w v bs) (hr : two bs i = (a, b, q, e)) :
    Calls Tryz.prog 142 #[v, .int .i64 i] w fun x w' => x = .returned (.tuple #[.int .i64 a, .int .i64 b, .int .i64 q, .int .i64 e]) ∧ w = w' := by
  obtain ⟨a1, p1, e1, h1⟩ : ∃ a1 p1 e1, getR bs i = (a1, p1, e1) := ⟨_, _, _, rfl⟩
  obtain ⟨a2, p2, e2, h2⟩ : ∃ a2 p2 e2, getR bs p1 = (a2, p2, e2) := ⟨_, _, _, rfl⟩
  have hf := getR_fits bs i a1 p1 e1 h1
  have hf2 := getR_fits bs p1 a2 p2 e2 h2
  have HG := Lib.hid (get_any v bs i a1 p1 e1 w h h1)
  have HG2 := Lib.hid (get_any v bs p1 a2 p2 e2 w h h2)
  by_cases he : e1 = 0
  · subst he
    by_cases he2 : e2 = 0
    · subst he2
      rw [two_ok h1 h2] at hr
      injection hr with r1 r2
      injection r2 with r2 r3
      injection r3 with r3 r4
      subst r1 r2 r3 r4
      clear hf hf2 h1 h2 h
      go_enter Tryz.func142, Tryz.ntmps142
      go_wp2_with fail
      refine HG.out.mono ?_
      rintro x w' ⟨rfl, rfl⟩
      go_wp2_with fail
      refine HG2.out.mono ?_
      rintro x w' ⟨rfl, rfl⟩
      go_wp2
      (try simp only [Exit.inBlock, Exit.then]); refine bodyPost_ret (d_results4 rfl _ _ _) rfl ?_
      exact ⟨rfl, rfl⟩
    · obtain ⟨rfl, rfl, b1, b2⟩ := hf2 he2
      rw [two_snd h1 h2 he2] at hr
      injection hr with r1 r2
      injection r2 with r2 r3
      injection r3 with r3 r4
      subst r1 r2 r3 r4
      have hne : (e2 != 0) = true := by simpa using he2
      clear hf hf2 h1 h2 h he2
      go_enter Tryz.func142, Tryz.ntmps142
      go_wp2_with fail
      refine HG.out.mono ?_
      rintro x w' ⟨rfl, rfl⟩
      go_wp2_with fail
      refine HG2.out.mono ?_
      rintro x w' ⟨rfl, rfl⟩
      go_wp2
      (try simp only [Exit.inBlock, Exit.then]); refine bodyPost_ret (d_results4 rfl _ _ _) rfl ?_
      exact ⟨rfl, rfl⟩
  · obtain ⟨rfl, rfl, b1, b2⟩ := hf he
    rw [two_fst h1 he] at hr
    injection hr with r1 r2
    injection r2 with r2 r3
    injection r3 with r3 r4
    subst r1 r2 r3 r4
    have hne : (e1 != 0) = true := by simpa using he
    clear hf hf2 h1 h2 h he
    go_enter Tryz.func142, Tryz.ntmps142
    go_wp2_with fail
    refine HG.out.mono ?_
    rintro x w' ⟨rfl, rfl⟩
    go_wp2
    (try simp only [Exit.inBlock, Exit.then]); refine bodyPost_ret (d_results4 rfl _ _ _) rfl ?_
    exact ⟨rfl, rfl⟩

/-- What a step's reading leaves: the world, the piece, its end, what is wrong. -/
def StepPost (w : World) (s : List UInt8 × Int × Int) (e : Ending) (w' : World) : Prop := ∃ v, e = .returned (.tuple #[v, .int .i64 s.2.1, .int .i64 s.2.2]) ∧ Sl w v s.1 ∧ w = w'

set_option maxRecDepth 100000 in
set_option maxHeartbeats 800000 in
theorem copy_any (vb vd : Value) (base d : List UInt8) (k : Nat) (w : World) (hb : Sl w vb base) (hd : Sl w vd d) (hk : k < d.length) (h1 : d.getD k 0 = 1) :
    Calls Tryz.prog 156 #[vb, vd, .int .i64 ((k + 1 : Nat) : Int)] w (StepPost w (stepD base d k)) := by
  obtain ⟨A, c, rfl, hl, hcm, hI⟩ := hb.len
  rcases two_cases d (k + 1) hk with ⟨e, h, he⟩ | ⟨a, b, h, hq, ha, hb'⟩
  · rw [copy_err h1 h (by omega)]
    have HG := Lib.hid (gettwo_any vd d _ _ _ _ _ w hd h)
    have hne : (e != 0) = true := by rcases he with rfl | rfl <;> rfl
    clear h h1 hd hI hk hb
    go_enter Tryz.func156, Tryz.ntmps156
    go_wp2_with fail
    refine HG.out.mono ?_
    rintro x w' ⟨rfl, rfl⟩
    go_wp2
    go_ret3
    exact ⟨_, rfl, Sl.nil_ _, rfl⟩
  · have HG := Lib.hid (gettwo_any vd d _ _ _ _ _ w hd h)
    by_cases hz : b = 0
    · subst hz
      rw [copy_zero h1 h]
      clear h h1 hd hI hk hb
      generalize ((k + 1 + (putL a).length + (putL 0).length : Nat) : Int) = q at *
      go_enter Tryz.func156, Tryz.ntmps156
      go_wp2_with fail
      refine HG.out.mono ?_
      rintro x w' ⟨rfl, rfl⟩
      go_wp2
      go_ret3
      exact ⟨_, rfl, Sl.nil_ _, rfl⟩
    · have hz2 : ((b : Int) == 0) = false := beq_eq_false_iff_ne.2 (by omega)
      have ha2 : (a : Int) ≤ 72057594037927936 := by omega
      have hb2 : (b : Int) ≤ 72057594037927936 := by omega
      have ha3 : (0 : Int) ≤ (a : Int) := by omega
      have hb3 : (0 : Int) ≤ (b : Int) := by omega
      by_cases hr : a + b ≤ base.length
      · rw [copy_ok h1 h hz hr]
        have HS := Lib.hid (hb.mid a (a + b) (by omega) hr)
        rw [show a + b - a = b from by omega] at HS
        have hs := fun W => d_mid A base.length c a (a + b) (a : Int) ((a : Int) + (b : Int)) rfl (by omega) (by omega) (by omega) W
        rw [show a + b - a = b from by omega] at hs
        obtain ⟨T, hT⟩ : ∃ T, (if c = a then A else A.map (·.add a)) = T := ⟨_, rfl⟩
        rw [hT] at hs HS
        have hr2 : (a : Int) + (b : Int) ≤ (base.length : Int) := by omega
        generalize ((k + 1 + (putL a).length + (putL b).length : Nat) : Int) = q at *
        obtain ⟨l, hL⟩ : ∃ l, base.length = l := ⟨_, rfl⟩
        rw [hL] at hl hr2 hs ⊢
        clear h h1 hd hI hk hb hz hr hT hL
        go_enter Tryz.func156, Tryz.ntmps156
        go_wp2_with fail
        refine HG.out.mono ?_
        rintro x w' ⟨rfl, rfl⟩
        go_wp2
        go_ret3
        exact ⟨_, rfl, HS.out, rfl⟩
      · rw [copy_range h1 h (by omega) (by omega)]
        have hr2 : (base.length : Int) < (a : Int) + (b : Int) := by omega
        generalize ((k + 1 + (putL a).length + (putL b).length : Nat) : Int) = q at *
        obtain ⟨l, hL⟩ : ∃ l, base.length = l := ⟨_, rfl⟩
        rw [hL] at hl hr2 ⊢
        clear h h1 hd hI hk hb hz hr hL
        go_enter Tryz.func156, Tryz.ntmps156
        go_wp2_with fail
        refine HG.out.mono ?_
        rintro x w' ⟨rfl, rfl⟩
        go_wp2
        go_ret3
        exact ⟨_, rfl, Sl.nil_ _, rfl⟩

set_option maxRecDepth 100000 in
set_option maxHeartbeats 800000 in
theorem insert_any (vd : Value) (base d : List UInt8) (k : Nat) (w : World) (hd : Sl w vd d) (hk : k < d.length) (h2 : d.getD k 0 = 2) :
    Calls Tryz.prog 157 #[vd, .int .i64 ((k + 1 : Nat) : Int)] w (StepPost w (stepD base d k)) := by
  obtain ⟨A, c, rfl, hl, hcm, hI⟩ := hd.len
  rcases getR_cases d (k + 1) hk with ⟨e, h, he⟩ | ⟨n, h, hq, hn, _⟩
  · rw [ins_err h2 h (by omega)]
    have HG := Lib.hid (get_any _ d _ _ _ _ w hd h)
    have hne : (e != 0) = true := by rcases he with rfl | rfl <;> rfl
    obtain ⟨l, hL⟩ : ∃ l, d.length = l := ⟨_, rfl⟩
    rw [hL] at hl HG ⊢
    clear h h2 hd hI hk hL
    go_enter Tryz.func157, Tryz.ntmps157
    go_wp2_with fail
    refine HG.out.mono ?_
    rintro x w' ⟨rfl, rfl⟩
    go_wp2
    go_ret3
    exact ⟨_, rfl, Sl.nil_ _, rfl⟩
  · have HG := Lib.hid (get_any _ d _ _ _ _ w hd h)
    by_cases hz : n = 0
    · subst hz
      rw [ins_zero h2 h]
      obtain ⟨l, hL⟩ : ∃ l, d.length = l := ⟨_, rfl⟩
      rw [hL] at hl HG ⊢
      clear h h2 hd hI hk hL hq
      generalize ((k + 1 + (putL 0).length : Nat) : Int) = q at *
      go_enter Tryz.func157, Tryz.ntmps157
      go_wp2_with fail
      refine HG.out.mono ?_
      rintro x w' ⟨rfl, rfl⟩
      go_wp2
      go_ret3
      exact ⟨_, rfl, Sl.nil_ _, rfl⟩
    · have hz2 : ((n : Int) == 0) = false := beq_eq_false_iff_ne.2 (by omega)
      have hn2 : (n : Int) ≤ 72057594037927936 := by omega
      have hn3 : (0 : Int) ≤ (n : Int) := by omega
      obtain ⟨q, hQ⟩ : ∃ q, k + 1 + (putL n).length = q := ⟨_, rfl⟩
      rw [hQ] at h hq HG
      have hq3 : (0 : Int) ≤ (q : Int) := by omega
      have hq4 : (q : Int) ≤ (d.length : Int) := by omega
      unfold maxLen at hcm
      by_cases hr : q + n ≤ d.length
      · rw [ins_ok h2 h hz hr]
        have HS := Lib.hid (hd.mid q (q + n) (by omega) hr)
        rw [show q + n - q = n from by omega] at HS
        have hs := fun W => d_mid A d.length c q (q + n) (q : Int) ((q : Int) + (n : Int)) rfl (by omega) (by omega) (by omega) W
        rw [show q + n - q = n from by omega] at hs
        obtain ⟨T, hT⟩ : ∃ T, (if c = q then A else A.map (·.add q)) = T := ⟨_, rfl⟩
        rw [hT] at hs HS
        have hr2 : (n : Int) ≤ (d.length : Int) - (q : Int) := by omega
        obtain ⟨l, hL⟩ : ∃ l, d.length = l := ⟨_, rfl⟩
        rw [hL] at hl hr2 hs hq4 HG ⊢
        have e2 : (((q + n : Nat) : Int)) = (q : Int) + (n : Int) := by omega
        rw [e2]
        clear h h2 hd hI hk hz hr hT hL hQ e2 hq
        go_enter Tryz.func157, Tryz.ntmps157
        go_wp2_with fail
        refine HG.out.mono ?_
        rintro x w' ⟨rfl, rfl⟩
        go_wp2
        go_ret3
        exact ⟨_, rfl, HS.out, rfl⟩
      · rw [ins_short h2 h (by omega) (by omega)]
        have hr2 : (d.length : Int) - (q : Int) < (n : Int) := by omega
        obtain ⟨l, hL⟩ : ∃ l, d.length = l := ⟨_, rfl⟩
        rw [hL] at hl hr2 hq4 HG ⊢
        clear h h2 hd hI hk hz hr hL hQ hq
        go_enter Tryz.func157, Tryz.ntmps157
        go_wp2_with fail
        refine HG.out.mono ?_
        rintro x w' ⟨rfl, rfl⟩
        go_wp2
        go_ret3
        exact ⟨_, rfl, Sl.nil_ _, rfl⟩

theorem d_kind {d : List UInt8} {k : Nat} {u : UInt8} {n : Nat} (hu : d.getD k 0 ≠ u) (hn : u.toNat = n) : (bi (d.getD k 0) == (n : Int)) = false := by
  rw [beq_eq_false_iff_ne]
  intro e
  refine hu (bi_inj ?_)
  rw [e]
  unfold bi
  rw [hn]
theorem bi1 : bi 1 = 1 := by unfold bi; rfl
theorem bi2 : bi 2 = 2 := by unfold bi; rfl

set_option maxRecDepth 100000 in
set_option maxHeartbeats 800000 in
theorem step_any (vb vd : Value) (base d : List UInt8) (k : Nat) (w : World) (hb : Sl w vb base) (hd : Sl w vd d) (hk : k < d.length) :
    Calls Tryz.prog 143 #[vb, vd, .int .i64 (k : Int)] w (StepPost w (stepD base d k)) := by
  have HC := Lib.hid (copy_any vb vd base d k w hb hd hk)
  have HN := Lib.hid (insert_any vd base d k w hd hk)
  obtain ⟨A, c, rfl, hl, hcm, hI⟩ := hd.len
  obtain ⟨ad, rfl, hcell⟩ := hI.at_ k hk
  unfold maxLen at hcm
  have hk2 : (k : Int) < (d.length : Int) := by omega
  have hk3 : (0 : Int) ≤ (k : Int) := by omega
  by_cases h1 : d.getD k 0 = 1
  · replace HC := Lib.hid (HC.out h1)
    rw [h1, bi1] at hcell
    rw [show ((k + 1 : Nat) : Int) = (k : Int) + 1 from by omega] at HC
    obtain ⟨s, hs⟩ : ∃ s, stepD base d k = s := ⟨_, rfl⟩
    rw [hs] at HC ⊢
    obtain ⟨l, hL⟩ : ∃ l, d.length = l := ⟨_, rfl⟩
    rw [hL] at hl hk2 HC ⊢
    clear hs hL HN hd hI h1 hb hk
    go_enter Tryz.func143, Tryz.ntmps143
    go_wp2_with fail
    refine HC.out.mono ?_
    rintro x w' ⟨v, rfl, hv, rfl⟩
    have HV := Lib.hid hv
    clear hv
    go_wp2
    go_ret3
    exact ⟨_, rfl, HV.out, rfl⟩
  · have n1 := d_kind h1 (n := 1) rfl
    by_cases h2 : d.getD k 0 = 2
    · replace HN := Lib.hid (HN.out h2)
      rw [h2, bi2] at hcell
      rw [show ((k + 1 : Nat) : Int) = (k : Int) + 1 from by omega] at HN
      obtain ⟨s, hs⟩ : ∃ s, stepD base d k = s := ⟨_, rfl⟩
      rw [hs] at HN ⊢
      obtain ⟨l, hL⟩ : ∃ l, d.length = l := ⟨_, rfl⟩
      rw [hL] at hl hk2 HN ⊢
      clear hs hL HC hd hI h1 h2 hb hk n1
      go_enter Tryz.func143, Tryz.ntmps143
      go_wp2_with fail
      refine HN.out.mono ?_
      rintro x w' ⟨v, rfl, hv, rfl⟩
      have HV := Lib.hid hv
      clear hv
      go_wp2
      go_ret3
      exact ⟨_, rfl, HV.out, rfl⟩
    · have n2 := d_kind h2 (n := 2) rfl
      rw [step_none h1 h2]
      obtain ⟨u, hu⟩ : ∃ u, bi (d.getD k 0) = u := ⟨_, rfl⟩
      rw [hu] at hcell n1 n2
      obtain ⟨l, hL⟩ : ∃ l, d.length = l := ⟨_, rfl⟩
      rw [hL] at hl hk2 ⊢
      have n1' : (u == 1) = false := n1
      have n2' : (u == 2) = false := n2
      clear hL HC HN hd hI h1 h2 hb hk n1 n2 hu
      go_enter Tryz.func143, Tryz.ntmps143
      go_wp2
      go_ret3
      exact ⟨_, rfl, Sl.nil_ _, rfl⟩
end Go.Proofs.YtodlaikemoedfaaGreat.Sh
