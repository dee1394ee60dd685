/- Texts put together: VShDm5, VShDm6, VPkF. -/
import Derived.Test.YtpfjlhpahmhkhaaGreatQv34
import Derived.Test.YtpfjlhpahmhkhaaGreatQv32
import Derived.ArgAppend
import Derived.Lib.SlBytesConst
/- Numbers, inserts, copies put behind a delta. -/
set_option linter.unusedVariables false
set_option linter.unusedSimpArgs false
namespace Go.Proofs.YtpfjlhpahmhkhaaGreat.Sh
open Go.RowKit
theorem encs_flush (p : List UInt8) : encs (flushS p) = if p = [] then [] else 2 :: (putL p.length ++ p) := by
 unfold flushS
 split
 ·rfl
 ·simp [encs, encS]
def Firm (w : World) (B : Nat) (v : Value) (p : List UInt8) : Prop := ∀ W, Below B w W → Sl W v p
def GrowPost (w : World) (B : Nat) (bs : List UInt8) (e : Ending) (w' : World) : Prop := ∃ v, e = .returned v ∧ Own w' B v bs ∧ Below B w w'
set_option maxRecDepth 100000 in
set_option maxHeartbeats 800000 in
theorem putnum_any (B : Nat) (v : Value) (bs : List UInt8) (n : Nat) (w : World) (ho : Own w B v bs) (hB : B ≤ w.heap.size) (hn : n ≤ 72057594037927936) (hsm : bs.length ≤ 100000000) :
  Calls Tryz.prog 291 #[v, .int .i64 (n : Int)] w (GrowPost w B (bs ++ putL n)) := by
 have HP := Lib.hid (put_any n w hn)
 have HO := Lib.hid ho
 have h9 := putL_len9 hn
 clear ho hn
 go_enter Tryz.func291, Tryz.ntmps291
 go_wp2_with fail
 refine HP.out.mono ?_
 rintro e w1 ⟨v1, rfl, ho1, hb1⟩
 have HO1 := Lib.hid (HO.out.below hb1)
 obtain ⟨A1, c1, rfl, hl1, hm1, hI1, _⟩ := ho1.sl
 have HR := Lib.hid hI1.reads
 have HB1 := Lib.hid (hb1.mono hB)
 have hz : B ≤ w1.heap.size := Nat.le_trans hB hb1.size
 obtain ⟨l, hl⟩ : ∃ l, (putL n).length = l := ⟨_, rfl⟩
 rw [hl] at h9 hl1 HR ⊢
 have hs : bs.length + l ≤ 140737488355328 := by omega
 clear ho1 hI1 hb1 hl
 go_wp2_with (at_builtin; refine append_bytes rfl (.tmp 12) (.tmp 13) rfl w1 B v bs rfl HO1.out _ A1 l c1 (putL n) rfl HR.out hs hz ?_; intro v3 w3 ho3 hb3; have HO3 := Lib.hid ho3; have HB3 := Lib.hid hb3; clear ho3 hb3)
 go_ret
 exact ⟨v3, rfl, HO3.out, HB1.out.trans HB3.out⟩
set_option maxRecDepth 100000 in
set_option maxHeartbeats 800000 in
theorem putcopy_any (B : Nat) (v : Value) (bs : List UInt8) (p n : Nat) (w : World) (ho : Own w B v bs) (hB : B ≤ w.heap.size) (hp : p ≤ 72057594037927936) (hn : n ≤ 72057594037927936) (hsm : bs.length ≤ 50000000) :
  Calls Tryz.prog 294 #[v, .int .i64 (p : Int), .int .i64 (n : Int)] w (GrowPost w B (bs ++ encS (.cop p n))) := by
 have HO := Lib.hid ho
 have h9 := putL_len9 hp
 have hs : bs.length + 1 ≤ 140737488355328 := by omega
 have HN1 := Lib.hid (fun W v (h : Own W B v (bs ++ [1])) (hz : B ≤ W.heap.size) => putnum_any B v (bs ++ [1]) p W h hz hp (by simp; omega))
 have HN2 := Lib.hid (fun W v (h : Own W B v (bs ++ [1] ++ putL p)) (hz : B ≤ W.heap.size) => putnum_any B v (bs ++ [1] ++ putL p) n W h hz hn (by simp; omega))
 clear ho hp hn h9
 go_enter Tryz.func294, Tryz.ntmps294
 go_wp2_with (at_builtin; refine append_byte rfl (.tmp 7) (.tmp 8) rfl w B v bs rfl HO.out _ 1 bi1 rfl hs hB ?_; intro v3 w3 ho3 hb3; have HO3 := Lib.hid ho3; have HB3 := Lib.hid hb3; clear ho3 hb3)
 refine (HN1.out w3 v3 HO3.out (Nat.le_trans hB HB3.out.size)).mono ?_
 rintro e w4 ⟨v4, rfl, ho4, hb4⟩
 have HO4 := Lib.hid ho4
 have HB4 := Lib.hid (HB3.out.trans hb4)
 clear ho4 hb4
 go_wp2_with fail
 refine (HN2.out w4 v4 HO4.out (Nat.le_trans hB HB4.out.size)).mono ?_
 rintro e w5 ⟨v5, rfl, ho5, hb5⟩
 have HO5 := Lib.hid ho5
 have HB5 := Lib.hid (HB4.out.trans hb5)
 clear ho5 hb5
 go_wp2_with fail
 go_ret
 refine ⟨v5, rfl, ?_, HB5.out⟩
 have e : bs ++ encS (.cop p n) = bs ++ [1] ++ putL p ++ putL n := by simp [encS]
 rw [e]
 exact HO5.out
set_option maxRecDepth 100000 in
set_option maxHeartbeats 800000 in
theorem putins_any (B : Nat) (v vp : Value) (bs p : List UInt8) (w : World) (ho : Own w B v bs) (hB : B ≤ w.heap.size) (hp : Firm w B vp p) (hpl : p.length ≤ 100000) (hsm : bs.length ≤ 50000000) :
  Calls Tryz.prog 293 #[v, vp] w (GrowPost w B (bs ++ encs (flushS p))) := by
 obtain ⟨A, c, rfl, hl, hcm, _⟩ := (hp w (Below.refl _ _)).len
 unfold maxLen at hcm
 have HO := Lib.hid ho
 have HP := Lib.hid hp
 obtain ⟨l, hL⟩ : ∃ l, p.length = l := ⟨_, rfl⟩
 rw [hL] at hl hpl HP ⊢
 have HL := Lib.hid hL
 rw [encs_flush]
 by_cases h0 : l = 0
 ·subst h0
  rw [if_pos (List.eq_nil_of_length_eq_zero hL), List.append_nil]
  clear ho hp hL
  go_enter Tryz.func293, Tryz.ntmps293
  go_wp2
  go_ret
  exact ⟨v, rfl, HO.out, Below.refl _ _⟩
 ·have hne : p ≠ [] := fun e => h0 (by rw [← hL, e]; rfl)
  rw [if_neg hne]
  have hz : ((l : Int) == 0) = false := beq_eq_false_iff_ne.2 (by omega)
  have hs : bs.length + 1 ≤ 140737488355328 := by omega
  have hs2 : (bs ++ [2] ++ putL l).length + l ≤ 140737488355328 := by
   have := putL_len9 (show l ≤ 72057594037927936 by omega)
   simp; omega
  have HN1 := Lib.hid (fun W v (h : Own W B v (bs ++ [2])) (hz : B ≤ W.heap.size) => putnum_any B v (bs ++ [2]) l W h hz (by omega) (by simp; omega))
  clear ho hp hL hne h0
  go_enter Tryz.func293, Tryz.ntmps293
  go_wp2_with (at_builtin; refine append_byte rfl (.tmp 9) (.tmp 10) rfl w B v bs rfl HO.out _ 2 bi2 rfl hs hB ?_; intro v3 w3 ho3 hb3; have HO3 := Lib.hid ho3; have HB3 := Lib.hid hb3; clear ho3 hb3)
  refine (HN1.out w3 v3 HO3.out (Nat.le_trans hB HB3.out.size)).mono ?_
  rintro e w4 ⟨v4, rfl, ho4, hb4⟩
  have HO4 := Lib.hid ho4
  have HB4 := Lib.hid (HB3.out.trans hb4)
  have hz4 : B ≤ w4.heap.size := Nat.le_trans hB HB4.out.size
  have hr := HP.out w4 HB4.out
  obtain ⟨A', c', he, _, _, hI, _⟩ := hr
  injection he with e1 e2 e3
  subst e1 e3
  have hrd := hI.reads
  rw [HL.out] at hrd
  have HR := Lib.hid hrd
  clear ho4 hb4 hI hrd e2
  go_wp2_with (at_builtin; refine append_bytes rfl (.tmp 16) (.tmp 17) rfl w4 B v4 _ rfl HO4.out _ A l c p rfl HR.out hs2 hz4 ?_; intro v5 w5 ho5 hb5; have HO5 := Lib.hid ho5; have HB5 := Lib.hid hb5; clear ho5 hb5)
  go_ret
  refine ⟨v5, rfl, ?_, HB4.out.trans HB5.out⟩
  have e : bs ++ 2 :: (putL p.length ++ p) = bs ++ [2] ++ putL l ++ p := by rw [HL.out]; simp
  rw [e]
  exact HO5.out
theorem flush_len (p : List UInt8) (h : p.length ≤ 72057594037927936) : (encs (flushS p)).length ≤ 11 * p.length := by
 rw [encs_flush]
 split
 ·simp
 ·rename_i hne
  have := putL_len9 h
  have : 0 < p.length := List.length_pos_iff.2 hne
  simp; omega
theorem steps_len (base : List UInt8) (hb : base.length ≤ 72057594037927936) : ∀ (f : Nat) (t ins : List UInt8), ins.length + t.length ≤ 72057594037927936 → (encs (stepsD (m8 base) f t ins)).length ≤ 30 * (ins.length + t.length) := by
 intro f
 induction f with
 | zero => intro t ins h; have := flush_len ins (by omega); show (encs (flushS ins)).length ≤ _; omega
 | succ f ih =>
  intro t ins h
  rcases Nat.eq_zero_or_pos t.length with h0 | h0
  ·have : t = [] := List.eq_nil_of_length_eq_zero h0
   subst this
   rw [steps_end]
   have := flush_len ins (by omega)
   omega
  ·rcases m8_ok base t with hm | ⟨h1, h2, h3, h4⟩
   ·rw [steps_in h0 (by rw [hm])]
    have := ih (t.drop 1) (ins ++ t.take 1) (by simp; omega)
    have e1 : (ins ++ t.take 1).length + (t.drop 1).length = ins.length + t.length := by simp; omega
    rw [e1] at this
    exact this
   ·rw [steps_cop h0 (by omega), encs_append, encs_cons, List.length_append, List.length_append]
    have a1 := flush_len ins (by omega)
    have a2 := ih (t.drop (m8 base t).2) [] (by simp; omega)
    have a3 := putL_len9 (show (m8 base t).1 ≤ 72057594037927936 by omega)
    have a4 := putL_len9 (show (m8 base t).2 ≤ 72057594037927936 by omega)
    have a5 : (encS (.cop (m8 base t).1 (m8 base t).2)).length = 1 + (putL (m8 base t).1).length + (putL (m8 base t).2).length := by simp [encS]; omega
    simp at a2
    omega
theorem make_len (base target : List UInt8) (hb : base.length ≤ 20000) (ht : target.length ≤ 20000) : (makeD base target).length ≤ 700000 := by
 have a1 := steps_len base (by omega) target.length target [] (by simp; omega)
 have a2 := putL_len9 (show base.length ≤ 72057594037927936 by omega)
 have a3 := putL_len9 (show target.length ≤ 72057594037927936 by omega)
 unfold makeD headD
 simp at a1 ⊢
 omega
theorem take_more {t : List UInt8} {a k : Nat} (h : a ≤ k) : (t.take k).drop a ++ (t.drop k).take 1 = (t.take (k + 1)).drop a := by
 by_cases hk : k < t.length
 ·rw [List.take_succ_eq_append_getElem hk, List.drop_append_of_le_length (by rw [List.length_take]; omega)]
  congr 1
  rw [List.drop_eq_getElem_cons hk]
  rfl
 ·have e1 : t.drop k = [] := List.drop_of_length_le (by omega)
  have e2 : t.take k = t := List.take_of_length_le (by omega)
  have e3 : t.take (k + 1) = t := List.take_of_length_le (by omega)
  rw [e1, e2, e3]
  simp
end Go.Proofs.YtpfjlhpahmhkhaaGreat.Sh
/- Make of a delta. -/
set_option linter.unusedVariables false
set_option linter.unusedSimpArgs false
namespace Go.Proofs.YtpfjlhpahmhkhaaGreat.Sh
open Go.RowKit
theorem Own.base_ {w : World} {B B' : Nat} {v : Value} {bs : List UInt8} (h : Own w B v bs) (hB : B' ≤ B) : Own w B' v bs := (h.ownV.base hB).own
theorem drop_take_ (t : List UInt8) (a k : Nat) : (t.take k).drop a = (t.drop a).take (k - a) := List.drop_take
set_option maxRecDepth 100000 in
set_option maxHeartbeats 3200000 in
theorem make_any (vb vt : Value) (base target : List UInt8) (w : World) (hb : Sl w vb base) (ht : Sl w vt target) (hb20 : base.length ≤ 20000) (ht20 : target.length ≤ 20000) :
  Calls Tryz.prog 243 #[vb, vt] w (OwnPost w (makeD base target)) := by
 obtain ⟨B, cb, rfl, hlb, hcb, hIb⟩ := hb.len
 obtain ⟨T, c, rfl, hl, hcm, hI⟩ := ht.len
 unfold maxLen at hcb hcm
 have HDL := Lib.hid (make_len base target hb20 ht20)
 have HDE : Hid (makeD base target = putL base.length ++ putL target.length ++ encs (stepsD (m8 base) target.length target [])) := rfl
 have HIX := Lib.hid (index_any _ base w hb hb20)
 have HSB := Lib.hid hb
 have HST := Lib.hid ht
 have HB20 := Lib.hid hb20
 have HMO := Lib.hid (m8_ok base)
 have HSL := Lib.hid (fun (W : World) (vf vn v : Value) (fs ns : List Int) (t : List UInt8) (hW : Below w.heap.size w W) (hf : SlV W vf (fs.map iv)) (hn : SlV W vn (ns.map iv)) (hv : Sl W v t) (hx : IdxOf base fs ns) => match_any (.slice B base.length cb) vf vn v base t fs ns W (hb.below hW) hf hn hv hx hb20)
 obtain ⟨D, hD⟩ : ∃ D, makeD base target = D := ⟨_, rfl⟩
 rw [hD] at HDL HDE ⊢
 obtain ⟨bl, hBL⟩ : ∃ l, base.length = l := ⟨_, rfl⟩
 obtain ⟨tl, hTL⟩ : ∃ l, target.length = l := ⟨_, rfl⟩
 rw [hBL] at hlb hb20 HIX HDE HSL HSB HB20 ⊢
 rw [hTL] at hl ht20 HDE HST ⊢
 have HBL := Lib.hid hBL
 have HTL := Lib.hid hTL
 have g1 : (bl : Int) ≤ 20000 := by omega
 have g2 : (tl : Int) ≤ 20000 := by omega
 have HFIRM : Hid (∀ W0 B0, w.heap.size ≤ B0 → Below w.heap.size w W0 → ∀ (a k : Nat), a ≤ k → k ≤ tl → Firm W0 B0 (.slice (if c = a then T else T.map (·.add a)) (k - a) (c - a)) ((target.drop a).take (k - a))) := fun W0 B0 hB0 h0 a k h1 h2 W hW =>
  (HST.out.below (h0.trans (hW.mono hB0))).mid a k h1 (by rw [HTL.out]; exact h2)
 clear hb ht hIb hI hD hBL hTL
 go_enter Tryz.func243, Tryz.ntmps243
 go_wp2_with fail
 refine HIX.out.mono ?_
 rintro e w1 ⟨vf, vn, fs, ns, rfl, hf, hn, hix, hb1⟩
 obtain ⟨F, cf, rfl, _, _, _⟩ := hf.len
 obtain ⟨N, cn, rfl, _, _, _⟩ := hn.len
 obtain ⟨fl, hfl⟩ : ∃ l, (fs.map iv).length = l := ⟨_, rfl⟩
 obtain ⟨nl, hnl⟩ : ∃ l, (ns.map iv).length = l := ⟨_, rfl⟩
 rw [hfl] at hf ⊢
 rw [hnl] at hn ⊢
 have HF := Lib.hid hf
 have HN := Lib.hid hn
 have HX := Lib.hid hix
 have hblk := Blk.new w1 372 #[.slice B bl cb, .slice F fl cf, .slice N nl cn]
 have hb2 := (Below.refl w1.heap.size w1).alloc (Nat.le_refl _) (.cells #[.slice B bl cb, .slice F fl cf, .slice N nl cn] 372)
 have hb1s := hb1.size
 have HB1 := Lib.hid hb1
 clear hf hn hix hb1 hfl hnl
 go_wp2_with fail
 have HBLK := Lib.hid hblk
 have HB2 := Lib.hid hb2
 clear hblk hb2
 generalize w1.alloc (.cells #[.slice B bl cb, .slice F fl cf, .slice N nl cn] 372) = w2 at *
 have HBW2 := Lib.hid (HB1.out.trans (HB2.out.mono HB1.out.size))
 have hwle := HBW2.out.size
 refine (putnum_any w2.heap.size (.slice none 0 0) [] bl w2 (Own.nil_ _ _) (Nat.le_refl _) (by omega) (by simp)).mono ?_
 rintro e w3 ⟨v3, rfl, ho3, hb3⟩
 have HO3 := Lib.hid ho3
 have HB3 := Lib.hid hb3
 clear ho3 hb3
 go_wp2_with fail
 refine (putnum_any w2.heap.size v3 _ tl w3 HO3.out HB3.out.size (by omega) (by have := putL_len9 (show bl ≤ 72057594037927936 by omega); simp; omega)).mono ?_
 rintro e w4 ⟨v4, rfl, ho4, hb4⟩
 have HO4 := Lib.hid ho4
 have HB4 := Lib.hid (HB3.out.trans hb4)
 clear ho4 hb4
 go_wp2_with fail
 go_loopw [6, 7, 8, 9, 10] (fun v td at_ _ _ wr => ∃ (dl : List UInt8) (k told f : Nat), td = .int .i64 (told : Int) ∧ at_ = .int .i64 (k : Int) ∧ told ≤ k ∧ k ≤ tl ∧ tl - k ≤ f ∧ Own wr w2.heap.size v dl ∧ Below w2.heap.size w2 wr ∧ D = dl ++ encs (stepsD (m8 base) f (target.drop k) ((target.take k).drop told))) (fun _ _ at_ _ _ _ => tl - (intOf at_).toNat)
 case atStart => exact ⟨_, 0, 0, tl, rfl, rfl, Nat.le_refl _, Nat.zero_le _, by omega, HO4.out, HB4.out, by rw [HDE.out]; simp⟩
 case round =>
  clear HO3 HO4 HB3 HB4
  obtain ⟨dl, k, told, f, rfl, rfl, htk, hk, hf, ho, hbw, hDeq⟩ := hrel
  have HO := Lib.hid ho
  have HBW := Lib.hid hbw
  have HDQ := Lib.hid hDeq
  have hwz := hbw.size
  have HBWW := Lib.hid (HBW2.out.trans (hbw.mono hwle))
  have hdl : dl.length ≤ 700000 := by
   have := HDL.out
   rw [hDeq, List.length_append] at this
   omega
  clear ho hbw hDeq
  by_cases hkt : k < tl
  ·have hkt2 : (k : Int) < (tl : Int) := by omega
   have hk0 : (0 : Int) ≤ (k : Int) := by omega
   obtain ⟨f, rfl⟩ : ∃ f', f = f' + 1 := ⟨f - 1, by omega⟩
   have htpos : 0 < (target.drop k).length := by rw [List.length_drop, HTL.out]; omega
   have hsb := fun W => d_back T tl c k (k : Int) rfl (by omega) W
   have y0 : ∀ p : Aft wr, p.w'.cell? ⟨w1.heap.size, 0, none⟩ = some (.slice B bl cb) := fun p => ((HBLK.out.below HBW.out HBLK.out.lt).below p.h (HBLK.out.below HBW.out HBLK.out.lt).lt).cell 0
   have y1 : ∀ p : Aft wr, p.w'.cell? ⟨w1.heap.size, 1, none⟩ = some (.slice F fl cf) := fun p => ((HBLK.out.below HBW.out HBLK.out.lt).below p.h (HBLK.out.below HBW.out HBLK.out.lt).lt).cell 1
   have y2 : ∀ p : Aft wr, p.w'.cell? ⟨w1.heap.size, 2, none⟩ = some (.slice N nl cn) := fun p => ((HBLK.out.below HBW.out HBLK.out.lt).below p.h (HBLK.out.below HBW.out HBLK.out.lt).lt).cell 2
   have HM : Hid (∀ p : Aft wr, Calls Tryz.prog 292 #[.agg #[.slice B bl cb, .slice F fl cf, .slice N nl cn], .slice (if c = k then T else T.map (·.add k)) (tl - k) (c - k)] p.w' fun e w' => e = .returned (.tuple #[.int .i64 (((m8 base (target.drop k)).1 : Nat) : Int), .int .i64 (((m8 base (target.drop k)).2 : Nat) : Int)]) ∧ Below p.w'.heap.size p.w' w') := fun p => by
    have h2p : Below w2.heap.size w2 p.w' := HBW.out.trans (p.h.mono hwz)
    have h1p : Below w1.heap.size w1 p.w' := HB2.out.trans (h2p.mono HB2.out.size)
    have h0p : Below w.heap.size w p.w' := HB1.out.trans (h1p.mono hb1s)
    have hsl := (HST.out.below h0p).back k (by rw [HTL.out]; exact hk)
    rw [HTL.out] at hsl
    exact HSL.out p.w' _ _ _ fs ns (target.drop k) h0p (HF.out.below h1p) (HN.out.below h1p) hsl HX.out
   obtain ⟨Tk, hTk⟩ : ∃ X, (if c = k then T else T.map (·.add k)) = X := ⟨_, rfl⟩
   rw [hTk] at hsb HM
   have hmo := HMO.out (target.drop k)
   rw [HBL.out, List.length_drop, HTL.out] at hmo
   have HIN : Hid ((m8 base (target.drop k)).2 = 0 → D = dl ++ encs (stepsD (m8 base) f (target.drop (k + 1)) ((target.take (k + 1)).drop told))) := fun h0 => by
    rw [HDQ.out, steps_in htpos h0, List.drop_drop, take_more htk]
   have HCO : Hid ((m8 base (target.drop k)).2 ≠ 0 → D = (dl ++ encs (flushS ((target.drop told).take (k - told)))) ++ encS (.cop (m8 base (target.drop k)).1 (m8 base (target.drop k)).2) ++ encs (stepsD (m8 base) f (target.drop (k + (m8 base (target.drop k)).2)) [])) := fun h0 => by
    rw [HDQ.out, steps_cop htpos h0, encs_append, encs_cons, List.drop_drop, drop_take_]
    simp only [List.append_assoc]
   obtain ⟨pl, hpl⟩ : ∃ x, (m8 base (target.drop k)).1 = x := ⟨_, rfl⟩
   obtain ⟨sz, hsz⟩ : ∃ x, (m8 base (target.drop k)).2 = x := ⟨_, rfl⟩
   have hmo2 : sz = 0 ∨ (8 ≤ sz ∧ pl + sz ≤ bl ∧ sz ≤ tl - k) := by
    rcases hmo with h | ⟨h1, h2, h3, _⟩
    ·exact .inl (by rw [← hsz, h])
    ·exact .inr ⟨by omega, by omega, by omega⟩
   rw [hpl, hsz] at HM HCO
   rw [hsz] at HIN
   clear hTk hpl hsz hmo htpos
   go_wp2_with fail
   refine aft_quiet (by kernel_rfl) (by kernel_rfl) ?_
   repeat (refine wpQuiet_step (fun K hK => ?_); go_simp; first | (refine hK _ ?_; clear hK K) | (apply Exists.intro; refine ⟨fun _ => ?_, hK _ ?_⟩; (first | (refine Calls.aft_of (HM.out _))); clear hK K))
   refine wpQuiet_nil ?_
   intro _ hw'
   obtain ⟨p, hw''⟩ := hw'
   subst hw''
   have HO1 := Lib.hid (HO.out.below p.h)
   have HBW1 := Lib.hid (HBW.out.trans (p.h.mono hwz))
   have HBW0 := Lib.hid (HBWW.out.trans (p.h.mono HBWW.out.size))
   have hwz1 : w2.heap.size ≤ p.w'.heap.size := Nat.le_trans hwz p.h.size
   clear y0 y1 y2
   generalize p.w' = wq at *
   rcases hmo2 with rfl | ⟨h8, hps, hst⟩
   ·have HIN2 := Lib.hid (HIN.out rfl)
    go_wp2_with fail
    go_roundw
    case rel => exact ⟨dl, k + 1, told, f, rfl, by go_num, by omega, by omega, by omega, HO1.out, HBW1.out, HIN2.out⟩
    case measure => simp [intOf]; omega
   ·have hz : ((sz : Int) == 0) = false := beq_eq_false_iff_ne.2 (by omega)
    have HCO2 := Lib.hid (HCO.out (by omega))
    have hms := fun W => d_mid T tl c told k (told : Int) (k : Int) rfl rfl htk (by omega) W
    have HFI := Lib.hid (HFIRM.out wq w2.heap.size hwle HBW0.out told k htk hk)
    obtain ⟨Tm, hTm⟩ : ∃ X, (if c = told then T else T.map (·.add told)) = X := ⟨_, rfl⟩
    rw [hTm] at hms HFI
    have ht0 : (0 : Int) ≤ (told : Int) := by omega
    have ht1 : (told : Int) ≤ (k : Int) := by omega
    have hw56 : (k : Int) + (sz : Int) ≤ 40000 := by omega
    have hpll : ((target.drop told).take (k - told)).length ≤ 100000 := by simp; omega
    have hflen := flush_len ((target.drop told).take (k - told)) (by omega)
    have hpll2 : ((target.drop told).take (k - told)).length ≤ 20000 := by simp; omega
    have hdl2 : (dl ++ encs (flushS ((target.drop told).take (k - told)))).length ≤ 50000000 := by rw [List.length_append]; omega
    clear hTm hflen
    go_wp2_with fail
    refine (putins_any w2.heap.size _ _ dl _ wq HO1.out hwz1 HFI.out hpll (by omega)).mono ?_
    rintro e w5 ⟨v5, rfl, ho5, hb5⟩
    have HO5 := Lib.hid ho5
    have HB5 := Lib.hid (HBW1.out.trans hb5)
    clear ho5 hb5
    go_wp2_with fail
    refine (putcopy_any w2.heap.size v5 _ pl sz w5 HO5.out HB5.out.size (by omega) (by omega) hdl2).mono ?_
    rintro e w6 ⟨v6, rfl, ho6, hb6⟩
    have HO6 := Lib.hid ho6
    have HB6 := Lib.hid (HB5.out.trans hb6)
    clear ho6 hb6
    go_wp2_with fail
    go_roundw
    case rel =>
     refine ⟨_, k + sz, k + sz, f, by go_num, by go_num, Nat.le_refl _, by omega, by omega, HO6.out, HB6.out, ?_⟩
     rw [show (target.take (k + sz)).drop (k + sz) = [] from List.drop_of_length_le (by rw [List.length_take]; omega)]
     exact HCO2.out
    case measure => simp [intOf]; omega
  ·obtain rfl : k = tl := by omega
   have hkk : ¬ (k : Int) < (k : Int) := by omega
   have hms := fun W => d_back T k c told (told : Int) rfl htk W
   have HFI := Lib.hid (HFIRM.out wr w2.heap.size hwle HBWW.out told k htk hk)
   obtain ⟨Tm, hTm⟩ : ∃ X, (if c = told then T else T.map (·.add told)) = X := ⟨_, rfl⟩
   rw [hTm] at hms HFI
   have ht0 : (0 : Int) ≤ (told : Int) := by omega
   have ht1 : (told : Int) ≤ (k : Int) := by omega
   have hpll : ((target.drop told).take (k - told)).length ≤ 100000 := by simp; omega
   have hres : D = dl ++ encs (flushS ((target.drop told).take (k - told))) := by
    rw [HDQ.out, List.drop_of_length_le (by rw [HTL.out]; exact Nat.le_refl _), steps_end, drop_take_]
   have HRES := Lib.hid hres
   clear hTm hres hkt
   go_wp2_with fail
   refine (putins_any w2.heap.size _ _ dl _ wr HO.out hwz HFI.out hpll (by omega)).mono ?_
   rintro e w5 ⟨v5, rfl, ho5, hb5⟩
   have HO5 := Lib.hid ho5
   have HB5 := Lib.hid (HBWW.out.trans (hb5.mono hwle))
   clear ho5 hb5
   go_wp2_with fail
   go_ret
   exact ⟨v5, rfl, by rw [HRES.out]; exact HO5.out.base_ hwle, HB5.out⟩
end Go.Proofs.YtpfjlhpahmhkhaaGreat.Sh
/- Package pack: mayPack, putObject. -/
set_option linter.unusedVariables false
set_option linter.unusedSimpArgs false
namespace Go.Proofs.YtpfjlhpahmhkhaaGreat.Ob
open Go.RowKit Go.Proofs.YtpfjlhpahmhkhaaGreat.Sh
open Go.Proofs.YtpfjlhpahmhkhaaGreat.Tx (Shape InL TmpL OwnL Typed Only By Rd Datas list_appendL step_appendL)
set_option maxRecDepth 100000 in
set_option maxHeartbeats 3200000 in
theorem mayPack_any (v : Value) (l : List (List UInt8)) (w : World) (h : LsV w v l) (hl : l.length ≤ 1000000) : Calls Tryz.prog 179 #[v] w fun e w' => e = .returned (.int .i64 (writeP l).1) ∧ Below w.heap.size w w' := by
 obtain ⟨A, c, rfl, hlc, hcm⟩ := h.slice
 have HLV := Lib.hid h
 obtain ⟨n, hn⟩ : ∃ n, l.length = n := ⟨_, rfl⟩
 rw [hn] at hlc HLV hl ⊢
 have HN := Lib.hid hn
 obtain ⟨r, hr⟩ : ∃ r, (writeP l).1 = r := ⟨_, rfl⟩
 have HR := Lib.hid hr
 rw [hr]
 clear h hcm hn hr
 by_cases h5 : n ≤ 512
 ·have z : (n : Int) ≤ 512 := by omega
  go_enter Tryz.func179, Tryz.ntmps179
  go_wp2_with fail
  go_loopw [12] (fun x wr => ∃ i : Nat, i ≤ n ∧ x = .int .i64 (i : Int) ∧ Below w.heap.size w wr ∧ ∀ (j : Nat) (o : List UInt8), j < i → l[j]? = some o → o.length ≤ 20000) (fun x _ => n - (intOf x).toNat)
  case atStart => exact ⟨0, Nat.zero_le _, rfl, Below.refl _ _, fun j o hj => by omega⟩
  case round =>
   obtain ⟨i, hi, rfl, hb, hall⟩ := hrel
   have HB := Lib.hid hb
   have HALL := Lib.hid hall
   clear hb hall
   have z0 : (0 : Int) ≤ (i : Int) := by omega
   by_cases hlt : i < n
   ·have z1 : (i : Int) < (n : Int) := by omega
    have hgi : l[i]? = some (l[i]'(by have := HN.out; omega)) := List.getElem?_eq_getElem _
    obtain ⟨o, ho⟩ : ∃ o, (l[i]'(by have := HN.out; omega)) = o := ⟨_, rfl⟩
    rw [ho] at hgi
    obtain ⟨ad, A2, c2, rfl, y0, _, _, hs⟩ := (HLV.out.below HB.out).at_ i o hgi
    have HGI := Lib.hid hgi
    obtain ⟨ol, hol⟩ : ∃ m, o.length = m := ⟨_, rfl⟩
    rw [hol] at y0
    have HOL := Lib.hid hol
    clear hgi ho hs hol
    by_cases h20 : ol ≤ 20000
    ·have z2 : (ol : Int) ≤ 20000 := by omega
     go_wp2_with fail
     go_roundw
     case rel => exact ⟨i + 1, by omega, by go_num, HB.out, fun j o' hj ho' => by
      by_cases e : j = i
      ·subst e
       have : o' = o := by have := HGI.out; rw [this] at ho'; injection ho' with ho'; exact ho'.symm
       rw [this, HOL.out]; exact h20
      ·exact HALL.out j o' (by omega) ho'⟩
     case measure => simp [intOf]; omega
    ·have z2 : (20000 : Int) < (ol : Int) := by omega
     have hre : r = 3 := by
      rw [← HR.out, write_long (by have := HN.out; omega) ⟨o, List.mem_of_getElem? HGI.out, by rw [HOL.out]; omega⟩]
     subst hre
     go_wp2_with fail
     go_ret
     exact ⟨rfl, HB.out⟩
   ·obtain rfl : i = n := by omega
    have hle : ∀ o ∈ l, o.length ≤ 20000 := fun o ho => by
     obtain ⟨j, hj, e⟩ := List.getElem_of_mem ho
     exact HALL.out j o (by rw [← HN.out]; exact hj) (by rw [List.getElem?_eq_getElem hj, e])
    have HLE := Lib.hid hle
    have HB2 := Lib.hid HB.out
    clear hle hlt
    go_wp2_with fail
    go_loopw [22] (fun x wq => ∃ j : Nat, j ≤ i ∧ x = .int .i64 (j : Int) ∧ Below w.heap.size w wq ∧ ∀ (m : Nat) (o : List UInt8), m < j → l[m]? = some o → decB o = true) (fun x _ => i - (intOf x).toNat)
    case atStart => exact ⟨0, Nat.zero_le _, rfl, HB.out, fun j o hj => by omega⟩
    case round =>
     obtain ⟨j, hj, rfl, hb, hall⟩ := hrel
     have HBJ := Lib.hid hb
     have HAJ := Lib.hid hall
     clear hb hall
     have z0 : (0 : Int) ≤ (j : Int) := by omega
     by_cases hlt : j < i
     ·have z1 : (j : Int) < (i : Int) := by omega
      have hgi : l[j]? = some (l[j]'(by have := HN.out; omega)) := List.getElem?_eq_getElem _
      obtain ⟨o, ho⟩ : ∃ o, (l[j]'(by have := HN.out; omega)) = o := ⟨_, rfl⟩
      rw [ho] at hgi
      obtain ⟨ad, A2, c2, rfl, y0, _, _, hs⟩ := (HLV.out.below HBJ.out).at_ j o hgi
      have HGI := Lib.hid hgi
      have HS := Lib.hid hs
      have HOM : Hid (o ∈ l) := List.mem_of_getElem? hgi
      clear hgi ho hs
      go_wp2_with fail
      refine (mayBe_any _ o _ HS.out (by have := HLE.out o HOM.out; omega)).mono ?_
      rintro y w3 ⟨rfl, hb3⟩
      have HB3 := Lib.hid (HBJ.out.trans (hb3.mono HBJ.out.size))
      clear hb3
      obtain ⟨t, ht⟩ : ∃ t, decB o = t := ⟨_, rfl⟩
      rw [ht]
      have HT := Lib.hid ht
      clear ht y0
      cases t with
      | true =>
       go_wp2_with fail
       go_roundw
       case rel => exact ⟨j + 1, by omega, by go_num, HB3.out, fun m o' hm ho' => by
        by_cases e : m = j
        ·subst e
         have : o' = o := by have := HGI.out; rw [this] at ho'; injection ho' with ho'; exact ho'.symm
         rw [this]; exact HT.out
        ·exact HAJ.out m o' (by omega) ho'⟩
       case measure => simp [intOf]; omega
      | false =>
       have hre : r = 4 := by
        rw [← HR.out, write_form (by have := HN.out; omega) HLE.out ⟨o, HOM.out, HT.out⟩]
       subst hre
       go_wp2_with fail
       go_ret
       exact ⟨rfl, HB3.out⟩
     ·obtain rfl : j = i := by omega
      have hre : r = 0 := by
       rw [← HR.out, write_ok (by have := HN.out; omega) HLE.out (fun o ho => by
        obtain ⟨m, hm, e⟩ := List.getElem_of_mem ho
        exact HAJ.out m o (by rw [← HN.out]; exact hm) (by rw [List.getElem?_eq_getElem hm, e]))]
      subst hre
      go_wp2_with fail
      go_ret
      exact ⟨rfl, HBJ.out⟩
 ·have z : (512 : Int) < (n : Int) := by omega
  have hre : r = 14 := by rw [← HR.out, write_limit (by have := HN.out; omega)]
  subst hre
  go_enter Tryz.func179, Tryz.ntmps179
  go_wp2_with fail
  go_ret
  exact ⟨rfl, Below.refl _ _⟩
end Go.Proofs.YtpfjlhpahmhkhaaGreat.Ob
