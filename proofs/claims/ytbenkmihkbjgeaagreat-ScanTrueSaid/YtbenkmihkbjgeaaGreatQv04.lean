/- Texts put together: VTn4, VTn5, VTn6, VTn7, VTn8. -/
import Derived.Test.YtbenkmihkbjgeaaGreatQv03
/- The reference's Join, Under, Parents, Copy. -/
namespace Go.Proofs.YtbenkmihkbjgeaaGreat.Tx
open Go.RowKit Go.Proofs.YtbenkmihkbjgeaaGreat.Sh
theorem str_append (a b : List UInt8) : str a ++ str b = str (a ++ b) := by
 unfold str
 apply ByteArray.ext
 rw [ByteArray.data_append]
 simp
def underB (d s : List UInt8) : Bool := pathB d && pathB s && decide (d.length + 1 < s.length) && (s.take d.length == d) && (s[d.length]? == some 47)
set_option maxRecDepth 100000 in
set_option maxHeartbeats 1600000 in
theorem runder_any (ds cs : List UInt8) (w : World) (hd : ds.length ≤ 1000000) (hn : cs.length ≤ 1000000) : Calls Tryz.prog 86 #[.string (str ds), .string (str cs)] w (BoolPost w (underB ds cs)) := by
 have hsz := str_size cs
 have hdz := str_size ds
 obtain ⟨t1, ht1⟩ : ∃ t, pathB ds = t := ⟨_, rfl⟩
 have HT1 := Lib.hid ht1
 cases t1 with
 | false =>
  have HR : Hid (underB ds cs = false) := by unfold Hid underB; rw [ht1]; rfl
  clear ht1
  go_enter Tryz.func86, Tryz.ntmps86
  go_wp2_with fail
  refine (rpath_any ds _ hd).mono ?_
  rintro e w1 ⟨rfl, hb⟩
  rw [HT1.out]
  have HB := Lib.hid hb
  clear hb
  go_wp2_with fail
  go_ret
  exact ⟨by rw [HR.out]; rfl, HB.out⟩
 | true =>
  obtain ⟨t2, ht2⟩ : ∃ t, pathB cs = t := ⟨_, rfl⟩
  have HT2 := Lib.hid ht2
  have HU : Hid (underB ds cs = (t2 && decide (ds.length + 1 < cs.length) && (cs.take ds.length == ds) && (cs[ds.length]? == some 47))) := by unfold Hid underB; rw [ht1, ht2, Bool.true_and]
  clear ht1 ht2
  have hdl : Hid (ds.length ≤ 200) := pathB_len HT1.out
  cases t2 with
  | false =>
   go_enter Tryz.func86, Tryz.ntmps86
   go_wp2_with fail
   refine (rpath_any ds _ hd).mono ?_
   rintro e w1 ⟨rfl, hb⟩
   rw [HT1.out]
   have HB := Lib.hid hb
   clear hb
   go_wp2_with fail
   refine (rpath_any cs _ hn).mono ?_
   rintro e w2 ⟨rfl, hb⟩
   rw [HT2.out]
   have HB2 := Lib.hid (HB.out.trans (hb.mono HB.out.size))
   clear hb
   go_wp2_with fail
   go_ret
   exact ⟨by rw [HU.out]; rfl, HB2.out⟩
  | true =>
   have hcl : Hid (cs.length ≤ 200) := pathB_len HT2.out
   obtain ⟨l, hL⟩ : ∃ l, cs.length = l := ⟨_, rfl⟩
   obtain ⟨m, hM⟩ : ∃ m, ds.length = m := ⟨_, rfl⟩
   rw [hL] at hsz hn
   rw [hM] at hdz hd
   have n0 : (0 : Int) ≤ (l : Int) := by omega
   have n1 : (l : Int) ≤ 200 := by have := hcl.out; omega
   have n2 : (0 : Int) ≤ (m : Int) := by omega
   have n3 : (m : Int) ≤ 200 := by have := hdl.out; omega
   have HL := Lib.hid hL
   have HM := Lib.hid hM
   clear hL hM
   by_cases h1 : m + 1 < l
   ·have z1 : (m : Int) + 1 < (l : Int) := by omega
    have z2 : (m : Int) ≤ (l : Int) := by omega
    have z3 : (m : Int) < (l : Int) := by omega
    have hix := index_str cs m (by rw [HL.out]; omega)
    obtain ⟨x, hx⟩ : ∃ x, cs.getD m 0 = x := ⟨_, rfl⟩
    have hx' : cs[m]? = some x := by rw [← hx, List.getD_eq_getElem?_getD, List.getElem?_eq_getElem (by rw [HL.out]; omega)]; rfl
    rw [hx] at hix
    have hU2 : underB ds cs = ((cs.take m == ds) && (x == 47)) := by
     rw [HU.out, HL.out, HM.out, hx']
     simp [h1]
    have HU2 := Lib.hid hU2
    clear hx hx' hU2
    have hsl := slice_str cs 0 m
    have htl := str_toList ds
    have htl2 := str_toList ((cs.take m).drop 0)
    rw [List.drop_zero] at htl2 hsl
    by_cases h2 : cs.take m = ds
    ·have e1 : (((str cs).extract 0 m).toList == (str ds).toList) = true := by rw [hsl, htl2, htl, h2]; exact beq_self_eq_true _
     have H2 : Hid ((cs.take m == ds) = true) := by unfold Hid; rw [h2]; exact beq_self_eq_true _
     clear hsl htl htl2 h2
     by_cases h3 : x = 47
     ·subst h3
      rw [bi47] at hix
      go_enter Tryz.func86, Tryz.ntmps86
      go_wp2_with fail
      refine (rpath_any ds _ (by rw [HM.out]; exact hd)).mono ?_
      rintro e w1 ⟨rfl, hb⟩
      rw [HT1.out]
      have HB := Lib.hid hb
      clear hb
      go_wp2_with fail
      refine (rpath_any cs _ (by rw [HL.out]; exact hn)).mono ?_
      rintro e w2 ⟨rfl, hb⟩
      rw [HT2.out]
      have HB2 := Lib.hid (HB.out.trans (hb.mono HB.out.size))
      clear hb
      go_wp2_with fail
      go_ret
      exact ⟨by rw [HU2.out, H2.out]; rfl, HB2.out⟩
     ·have e3 : (bi x == 47) = false := by rw [← bi47, beq_eq_false_iff_ne]; exact fun e => h3 (bi_inj e)
      have H3 : Hid ((x == 47) = false) := by unfold Hid; simpa using h3
      generalize bi x = y at *
      clear h3
      go_enter Tryz.func86, Tryz.ntmps86
      go_wp2_with fail
      refine (rpath_any ds _ (by rw [HM.out]; exact hd)).mono ?_
      rintro e w1 ⟨rfl, hb⟩
      rw [HT1.out]
      have HB := Lib.hid hb
      clear hb
      go_wp2_with fail
      refine (rpath_any cs _ (by rw [HL.out]; exact hn)).mono ?_
      rintro e w2 ⟨rfl, hb⟩
      rw [HT2.out]
      have HB2 := Lib.hid (HB.out.trans (hb.mono HB.out.size))
      clear hb
      go_wp2_with fail
      go_ret
      exact ⟨by rw [HU2.out, H2.out, H3.out]; rfl, HB2.out⟩
    ·have e1 : (((str cs).extract 0 m).toList == (str ds).toList) = false := by rw [hsl, htl2, htl]; exact list_other h2
     have H2 : Hid ((cs.take m == ds) = false) := list_other h2
     clear hsl htl htl2 h2 hix
     go_enter Tryz.func86, Tryz.ntmps86
     go_wp2_with fail
     refine (rpath_any ds _ (by rw [HM.out]; exact hd)).mono ?_
     rintro e w1 ⟨rfl, hb⟩
     rw [HT1.out]
     have HB := Lib.hid hb
     clear hb
     go_wp2_with fail
     refine (rpath_any cs _ (by rw [HL.out]; exact hn)).mono ?_
     rintro e w2 ⟨rfl, hb⟩
     rw [HT2.out]
     have HB2 := Lib.hid (HB.out.trans (hb.mono HB.out.size))
     clear hb
     go_wp2_with fail
     go_ret
     exact ⟨by rw [HU2.out, H2.out]; rfl, HB2.out⟩
   ·have z1 : (l : Int) ≤ (m : Int) + 1 := by omega
    have HU2 : Hid (underB ds cs = false) := by
     unfold Hid
     rw [HU.out, HL.out, HM.out]
     simp [h1]
    go_enter Tryz.func86, Tryz.ntmps86
    go_wp2_with fail
    refine (rpath_any ds _ (by rw [HM.out]; exact hd)).mono ?_
    rintro e w1 ⟨rfl, hb⟩
    rw [HT1.out]
    have HB := Lib.hid hb
    clear hb
    go_wp2_with fail
    refine (rpath_any cs _ (by rw [HL.out]; exact hn)).mono ?_
    rintro e w2 ⟨rfl, hb⟩
    rw [HT2.out]
    have HB2 := Lib.hid (HB.out.trans (hb.mono HB.out.size))
    clear hb
    go_wp2_with fail
    go_ret
    exact ⟨by rw [HU2.out]; rfl, HB2.out⟩
end Go.Proofs.YtbenkmihkbjgeaaGreat.Tx
/- The reference's Parents, Copy. -/
namespace Go.Proofs.YtbenkmihkbjgeaaGreat.Tx
open Go.RowKit Go.Proofs.YtbenkmihkbjgeaaGreat.Sh
def parP (s : List UInt8) : Nat → List (List UInt8)
 | 0 => []
 | k + 1 => if s[k]? = some 47 then parP s k ++ [s.take k] else parP s k
def parentsL (s : List UInt8) : List (List UInt8) := if pathB s = true then parP s s.length else []
theorem parP_len (s : List UInt8) : ∀ k, (parP s k).length ≤ k
 | 0 => Nat.le_refl _
 | k + 1 => by
  have := parP_len s k
  unfold parP
  split
  ·simp; omega
  ·omega
def copyL (s id : List UInt8) (n : Int) : List UInt8 := s ++ [126] ++ id.take 8 ++ List.replicate (min n 100).toNat 126
end Go.Proofs.YtbenkmihkbjgeaaGreat.Tx
/- The reference's Join. -/
namespace Go.Proofs.YtbenkmihkbjgeaaGreat.Tx
open Go.RowKit Go.Proofs.YtbenkmihkbjgeaaGreat.Sh
def joinOk (l : List (List UInt8)) : Bool := !l.isEmpty && ((splitL 47 (joinL 47 l)).length == l.length) && pathB (joinL 47 l)
def joinT (l : List (List UInt8)) : List UInt8 := if joinOk l = true then joinL 47 l else []
def joinE (l : List (List UInt8)) : Int := if joinOk l = true then 0 else 6
def JoinPost (w : World) (l : List (List UInt8)) (e : Ending) (w' : World) : Prop := e = .returned (.tuple #[.string (str (joinT l)), .int .i64 (joinE l)]) ∧ Below w.heap.size w w'
end Go.Proofs.YtbenkmihkbjgeaaGreat.Tx
/- The reference's takes. -/
namespace Go.Proofs.YtbenkmihkbjgeaaGreat.Tx
open Go.RowKit Go.Proofs.YtbenkmihkbjgeaaGreat.Sh
def takesB (fr : List UInt8) (star : Bool) (bk s : List UInt8) : Bool := if star = true then decide (fr.length + bk.length ≤ s.length) && (s.take fr.length == fr) && (s.drop (s.length - bk.length) == bk) else s == fr
theorem same_texts (a b : List UInt8) : ((str a).toList == (str b).toList) = (a == b) := by rw [str_toList, str_toList]
set_option maxRecDepth 100000 in
set_option maxHeartbeats 1600000 in
theorem rtakes_any (fr bk cs : List UInt8) (star : Bool) (w : World) (h1 : fr.length ≤ 1000000) (h2 : bk.length ≤ 1000000) (h3 : cs.length ≤ 1000000) :
  Calls Tryz.prog 115 #[.string (str fr), .bool star, .string (str bk), .string (str cs)] w fun e w' => e = .returned (.bool (takesB fr star bk cs)) ∧ w = w' := by
 cases star with
 | false =>
  obtain ⟨t, ht⟩ : ∃ t, (cs == fr) = t := ⟨_, rfl⟩
  have HR : Hid (takesB fr false bk cs = t) := by unfold Hid takesB; rw [if_neg (by decide)]; exact ht
  have e1 : ((str cs).toList == (str fr).toList) = t := by rw [same_texts, ht]
  clear ht
  go_enter Tryz.func115, Tryz.ntmps115
  go_wp2
  go_ret
  exact ⟨by rw [HR.out]; rfl, rfl⟩
 | true =>
  have hz1 := str_size fr
  have hz2 := str_size bk
  have hz3 := str_size cs
  have HU : Hid (takesB fr true bk cs = (decide (fr.length + bk.length ≤ cs.length) && (cs.take fr.length == fr) && (cs.drop (cs.length - bk.length) == bk))) := by unfold Hid takesB; rw [if_pos rfl]
  have hs1 := slice_str cs 0 fr.length
  have hs2 := slice_str cs (cs.length - bk.length) cs.length
  rw [List.drop_zero] at hs1
  rw [List.take_of_length_le (Nat.le_refl _)] at hs2
  have q1 := same_texts (cs.take fr.length) fr
  have q2 := same_texts (cs.drop (cs.length - bk.length)) bk
  obtain ⟨f, hf⟩ : ∃ f, fr.length = f := ⟨_, rfl⟩
  obtain ⟨b, hb⟩ : ∃ b, bk.length = b := ⟨_, rfl⟩
  obtain ⟨l, hl⟩ : ∃ l, cs.length = l := ⟨_, rfl⟩
  rw [hf] at hz1 h1 HU hs1 q1
  rw [hb] at hz2 h2 HU hs2 q2
  rw [hl] at hz3 h3 HU hs2 q2
  clear hf hb hl
  obtain ⟨t1, ht1⟩ : ∃ t, (cs.take f == fr) = t := ⟨_, rfl⟩
  obtain ⟨t2, ht2⟩ : ∃ t, (cs.drop (l - b) == bk) = t := ⟨_, rfl⟩
  rw [ht1, ht2] at HU
  rw [ht1, ← hs1] at q1
  rw [ht2, ← hs2] at q2
  clear ht1 ht2 hs1 hs2
  have f0 : (0 : Int) ≤ (f : Int) := by omega
  have b0 : (0 : Int) ≤ (b : Int) := by omega
  have l0 : (0 : Int) ≤ (l : Int) := by omega
  have f1 : (f : Int) ≤ 1000000 := by omega
  have b1 : (b : Int) ≤ 1000000 := by omega
  have l1 : (l : Int) ≤ 1000000 := by omega
  by_cases hle : f + b ≤ l
  ·have z1 : (f : Int) + (b : Int) ≤ (l : Int) := by omega
   have z2 : (f : Int) ≤ (l : Int) := by omega
   have z3 : (b : Int) ≤ (l : Int) := by omega
   obtain ⟨d, hd⟩ : ∃ d, l - b = d := ⟨_, rfl⟩
   have hdi : (l : Int) - (b : Int) = (d : Int) := by omega
   have d0 : (0 : Int) ≤ (d : Int) := by omega
   have d1 : (d : Int) ≤ (l : Int) := by omega
   rw [hd] at q2
   have HU2 : Hid (takesB fr true bk cs = (t1 && t2)) := by unfold Hid; rw [HU.out]; simp [hle]
   clear hd
   cases t1
   all_goals
    go_enter Tryz.func115, Tryz.ntmps115
    go_wp2
    go_ret
    exact ⟨by rw [HU2.out]; rfl, rfl⟩
  ·have z1 : (l : Int) < (f : Int) + (b : Int) := by omega
   have HU2 : Hid (takesB fr true bk cs = false) := by unfold Hid; rw [HU.out]; simp [hle]
   clear q1 q2
   go_enter Tryz.func115, Tryz.ntmps115
   go_wp2
   go_ret
   exact ⟨by rw [HU2.out]; rfl, rfl⟩
end Go.Proofs.YtbenkmihkbjgeaaGreat.Tx
/- The reference's pattern, Pattern. -/
namespace Go.Proofs.YtbenkmihkbjgeaaGreat.Tx
open Go.RowKit Go.Proofs.YtbenkmihkbjgeaaGreat.Sh
def patDir (p : List UInt8) : Bool := p.getLast? == some 47
def patCore (p : List UInt8) : List UInt8 := if patDir p = true then p.take (p.length - 1) else p
def patL (p : List UInt8) : Option (List UInt8 × Bool × List UInt8 × Bool) :=
 if nameB (patCore p) = true then
  match splitL 42 (patCore p) with
  | [_] => some (patCore p, false, [], patDir p)
  | [a, b] => if a.isEmpty = b.isEmpty then none else some (a, true, b, patDir p)
  | _ => none
 else none
def patV : Option (List UInt8 × Bool × List UInt8 × Bool) → Value
 | none => .tuple #[.string ⟨#[]⟩, .bool false, .string ⟨#[]⟩, .bool false, .bool false]
 | some (a, s, b, d) => .tuple #[.string (str a), .bool s, .string (str b), .bool d, .bool true]
def PatPost (w : World) (p : List UInt8) (e : Ending) (w' : World) : Prop := e = .returned (patV (patL p)) ∧ Below w.heap.size w w'
theorem bi42 : bi 42 = 42 := by unfold bi; rfl
theorem sign42 (cs : List UInt8) (w : World) (hn : cs.length ≤ 1000000) : Calls Tryz.prog 142 #[.string (str cs), .int .u8 42] w (TextsPost w ((splitL 42 cs).map str)) := by
 have h := rsplit_any cs 42 w hn
 rw [bi42] at h
 exact h
theorem patL_no {p : List UInt8} (h : nameB (patCore p) = false) : patL p = none := by unfold patL; rw [if_neg (by rw [h]; decide)]
theorem patL_one {p q y : List UInt8} (hc : patCore p = q) (hn : nameB q = true) (hs : splitL 42 q = [y]) : patL p = some (q, false, [], patDir p) := by
 unfold patL; rw [hc, if_pos hn, hs]
theorem patL_two {p q a b : List UInt8} (hc : patCore p = q) (hn : nameB q = true) (hs : splitL 42 q = [a, b]) : patL p = if a.isEmpty = b.isEmpty then none else some (a, true, b, patDir p) := by
 unfold patL; rw [hc, if_pos hn, hs]
theorem patL_ahead {p q b : List UInt8} (hc : patCore p = q) (hn : nameB q = true) (hs : splitL 42 q = [[], b]) (hb : 0 < b.length) : patL p = some ([], true, b, patDir p) := by
 rw [patL_two hc hn hs, if_neg]
 cases b with
 | nil => simp at hb
 | cons y r => simp
theorem patL_behind {p q a : List UInt8} (hc : patCore p = q) (hn : nameB q = true) (hs : splitL 42 q = [a, []]) (ha : 0 < a.length) : patL p = some (a, true, [], patDir p) := by
 rw [patL_two hc hn hs, if_neg]
 cases a with
 | nil => simp at ha
 | cons y r => simp
theorem patL_both {p q a b : List UInt8} (hc : patCore p = q) (hn : nameB q = true) (hs : splitL 42 q = [a, b]) (ha : 0 < a.length) (hb : 0 < b.length) : patL p = none := by
 rw [patL_two hc hn hs, if_pos]
 cases a with
 | nil => simp at ha
 | cons y r =>
  cases b with
  | nil => simp at hb
  | cons z t => rfl
theorem patL_many {p q : List UInt8} (hc : patCore p = q) (hn : nameB q = true) (hs : 2 < (splitL 42 q).length) : patL p = none := by
 unfold patL
 rw [hc, if_pos hn]
 split
 ·rename_i h; rw [h] at hs; simp at hs
 ·rename_i h; rw [h] at hs; simp at hs
 ·rfl
theorem text_there {b : List UInt8} (h : 0 < b.length) : (str b).toList.isEmpty = false ∧ ((str b).toList == []) = false := by
 rw [str_toList]
 cases b with
 | nil => simp at h
 | cons c r => exact ⟨rfl, rfl⟩
theorem empty_ahead (x : ByteArray) : (⟨#[]⟩ : ByteArray) ++ x = x := by
 apply ByteArray.ext
 rw [ByteArray.data_append]
 simp
theorem empty_behind (x : ByteArray) : x ++ (⟨#[]⟩ : ByteArray) = x := by
 apply ByteArray.ext
 rw [ByteArray.data_append]
 simp
theorem pat_dir (cs : List UInt8) (k : Nat) (hk : cs.length = k + 1) : patDir cs = (cs.getD k 0 == 47) := by
 unfold patDir
 rw [List.getLast?_eq_getElem?, hk, Nat.add_sub_cancel, List.getD_eq_getElem?_getD, List.getElem?_eq_getElem (by omega)]
 simp
set_option maxRecDepth 100000 in
set_option maxHeartbeats 3200000 in
theorem pattern_any (cs : List UInt8) (w : World) (hn : cs.length ≤ 1000000) : Calls Tryz.prog 114 #[.string (str cs)] w (PatPost w cs) := by
 have hsz := str_size cs
 rcases Nat.eq_zero_or_pos cs.length with h0 | h0
 ·have hc : cs = [] := List.eq_nil_of_length_eq_zero h0
  subst hc
  have HR : Hid (patL [] = none) := rfl
  have e1 : nameB [] = false := rfl
  go_enter Tryz.func114, Tryz.ntmps114
  go_wp2_with fail
  refine (rname_any [] _ (by simp)).mono ?_
  rintro e w1 ⟨rfl, rfl⟩
  rw [e1]
  go_wp2_with fail
  exact bodyPost_ret (v := patV none) (by simp [results, Tryz.results114, go_sem, patV]) rfl ⟨by rw [HR.out], Below.refl _ _⟩
 ·obtain ⟨k, hk⟩ : ∃ k, cs.length = k + 1 := ⟨cs.length - 1, by omega⟩
  have hdir := pat_dir cs k hk
  have hix := index_str cs k (by omega)
  have hsl := slice_str cs 0 k
  rw [List.drop_zero] at hsl
  obtain ⟨x, hx⟩ : ∃ x, cs.getD k 0 = x := ⟨_, rfl⟩
  rw [hx] at hix hdir
  rw [hk] at hsz hn
  have HK := Lib.hid hk
  have k0 : (0 : Int) ≤ (k : Int) := by omega
  have k1 : (k : Int) ≤ 1000000 := by omega
  clear hx hk h0
  have hq0 : (x = 47 ∧ patDir cs = true ∧ patCore cs = cs.take k) ∨ ((bi x == 47) = false ∧ patDir cs = false ∧ patCore cs = cs) := by
   by_cases h3 : x = 47
   ·left
    subst h3
    have hd : patDir cs = true := by rw [hdir]; rfl
    exact ⟨rfl, hd, by unfold patCore; rw [if_pos hd, HK.out]; rfl⟩
   ·right
    have hd : patDir cs = false := by rw [hdir]; simpa using h3
    exact ⟨by rw [← bi47, beq_eq_false_iff_ne]; exact fun e => h3 (bi_inj e), hd, by unfold patCore; rw [if_neg (by rw [hd]; decide)]⟩
  have hql : (cs.take k).length ≤ 1000000 ∧ cs.length ≤ 1000000 := by
   rw [HK.out]
   exact ⟨by rw [List.length_take]; omega, hn⟩
  have HQL := Lib.hid hql
  clear hdir hql
  rcases hq0 with ⟨h3, hd, hc⟩ | ⟨h3, hd, hc⟩
  ·subst h3
   rw [bi47] at hix
   obtain ⟨q, hq⟩ : ∃ q, cs.take k = q := ⟨_, rfl⟩
   rw [hq] at hc hsl
   have HQ : Hid (q.length ≤ 1000000) := by unfold Hid; rw [← hq]; exact HQL.out.1
   have HD := Lib.hid hd
   have HC := Lib.hid hc
   clear hd hc hq HQL
   go_enter Tryz.func114, Tryz.ntmps114
   go_wp2_with fail
   clear hsl hix
   refine (rname_any q _ HQ.out).mono ?_
   rintro e w1 ⟨rfl, rfl⟩
   obtain ⟨t, ht⟩ : ∃ t, nameB q = t := ⟨_, rfl⟩
   rw [ht]
   have HT := Lib.hid ht
   clear ht
   cases t with
   | false =>
    have HR : Hid (patL _ = none) := patL_no (by rw [HC.out]; exact HT.out)
    go_wp2_with fail
    exact bodyPost_ret (v := patV none) (by simp [results, Tryz.results114, go_sem, patV]) rfl ⟨by rw [HR.out], Below.refl _ _⟩
   | true =>
    go_wp2_with fail
    refine (sign42 q _ HQ.out).mono ?_
    rintro e w2 ⟨v, rfl, ho, hb⟩
    obtain ⟨A, c, rfl, hvc, hvm⟩ := ho.length
    obtain ⟨n, hN⟩ : ∃ n, (splitL 42 q).length = n := ⟨_, rfl⟩
    rw [List.length_map, List.length_map, hN] at ho hvc ⊢
    have hn2 : n ≤ 1000001 := by have h1 := splitL_length_le 42 q; have h2 := HQ.out; omega
    unfold maxLen at hvm
    have HN := Lib.hid hN
    have HO := Lib.hid ho
    have HB := Lib.hid hb
    clear ho hb hN
    have hcases : n = 1 ∨ n = 2 ∨ 2 < n := by
     have h1 := splitL_ne 42 q
     have h2 := HN.out
     rcases Nat.eq_zero_or_pos n with e | e
     ·rw [e] at h2; exact absurd (List.eq_nil_of_length_eq_zero h2) h1
     ·omega
    rcases hcases with rfl | rfl | h2
    ·obtain ⟨y, hy⟩ := List.length_eq_one_iff.1 HN.out
     have HR := Lib.hid (patL_one HC.out HT.out hy)
     clear hy
     go_wp2_with fail
     exact bodyPost_ret (v := patV (some (q, false, [], patDir _))) (by rw [HD.out]; simp [results, Tryz.results114, go_sem, patV]; rfl) rfl ⟨by rw [HR.out], HB.out⟩
    ·obtain ⟨a, b, hab⟩ : ∃ a b, splitL 42 q = [a, b] := by
      have h := HN.out
      match hh : splitL 42 q, h with
      | [a, b], _ => exact ⟨a, b, rfl⟩
     have h2 := patL_two HC.out HT.out hab
     have hal : a.length ≤ 1000000 := Nat.le_trans (piece_len (g := 42) (s := q) (by rw [hab]; simp)) HQ.out
     have hbl : b.length ≤ 1000000 := Nat.le_trans (piece_len (g := 42) (s := q) (by rw [hab]; simp)) HQ.out
     have ho := HO.out
     rw [hab] at ho
     obtain ⟨ad, rfl, hc0⟩ := piece_at ho 0 (by simp)
     obtain ⟨ad', e, hc1⟩ := piece_at ho 1 (by simp)
     injection e with e
     subst e
     rw [show ad.add 0 = ad by unfold Addr.add; simp] at hc0
     have hc0' : w2.cell? ad = some (.string (str a)) := hc0
     have hc1' : w2.cell? ⟨ad.block, ad.off + 1, none⟩ = some (.string (str b)) := by
      rw [← show ad.add 1 = ⟨ad.block, ad.off + 1, none⟩ by unfold Addr.add; rw [if_neg (by omega)]]
      exact hc1
     clear hc0 hc1 ho
     rcases Nat.eq_zero_or_pos a.length with ha | ha
     ·have ha' : a = [] := List.eq_nil_of_length_eq_zero ha
      subst ha'
      rcases Nat.eq_zero_or_pos b.length with hb0 | hb0
      ·have hb' : b = [] := List.eq_nil_of_length_eq_zero hb0
       subst hb'
       have HR := Lib.hid h2
       change w2.cell? ad = some (.string ⟨#[]⟩) at hc0'
       change w2.cell? ⟨ad.block, ad.off + 1, none⟩ = some (.string ⟨#[]⟩) at hc1'
       have hem : ((⟨#[]⟩ : ByteArray) ++ ⟨#[]⟩) = ⟨#[]⟩ := rfl
       clear h2 hab ha hb0 hal hbl
       go_wp2_with fail
       go_quiet (fail)
       go_wp2_with fail
       exact bodyPost_ret (v := patV none) (by simp [results, Tryz.results114, go_sem, patV]) rfl ⟨by rw [HR.out]; rfl, below_drewN HB.out _⟩
      ·have HR := Lib.hid (patL_ahead HC.out HT.out hab hb0)
       obtain ⟨t1, t2⟩ := text_there hb0
       have hbz := str_size b
       have hem := empty_ahead (str b)
       change w2.cell? ad = some (.string ⟨#[]⟩) at hc0'
       obtain ⟨xb, hxb⟩ : ∃ xb, str b = xb := ⟨_, rfl⟩
       obtain ⟨lb, hlb⟩ : ∃ lb, b.length = lb := ⟨_, rfl⟩
       rw [hxb] at t1 t2 hbz hem hc1'
       rw [hlb] at hbz hbl
       have HXB := Lib.hid hxb
       have b0 : (0 : Int) ≤ (lb : Int) := by omega
       have b1 : (lb : Int) ≤ 1000000 := by omega
       clear h2 hab ha hb0 hal hxb hlb
       go_wp2_with fail
       go_quiet (fail)
       go_wp2_with fail
       go_quiet (fail)
       go_wp2_with fail
       exact bodyPost_ret (v := patV (some ([], true, b, patDir _))) (by rw [HD.out]; simp [results, Tryz.results114, go_sem, patV, HXB.out]; rfl) rfl ⟨by rw [HR.out], below_drewN (below_drewN HB.out _) _⟩
     ·rcases Nat.eq_zero_or_pos b.length with hb0 | hb0
      ·have hb' : b = [] := List.eq_nil_of_length_eq_zero hb0
       subst hb'
       have HR := Lib.hid (patL_behind HC.out HT.out hab ha)
       obtain ⟨t1, t2⟩ := text_there ha
       have hbz := str_size a
       have hem := empty_behind (str a)
       change w2.cell? ⟨ad.block, ad.off + 1, none⟩ = some (.string ⟨#[]⟩) at hc1'
       obtain ⟨xb, hxb⟩ : ∃ xb, str a = xb := ⟨_, rfl⟩
       obtain ⟨lb, hlb⟩ : ∃ lb, a.length = lb := ⟨_, rfl⟩
       rw [hxb] at t1 t2 hbz hem hc0'
       rw [hlb] at hbz hal
       have HXB := Lib.hid hxb
       have b0 : (0 : Int) ≤ (lb : Int) := by omega
       have b1 : (lb : Int) ≤ 1000000 := by omega
       clear h2 hab ha hb0 hbl hxb hlb
       go_wp2_with fail
       go_quiet (fail)
       go_wp2_with fail
       go_quiet (fail)
       go_wp2_with fail
       exact bodyPost_ret (v := patV (some (a, true, [], patDir _))) (by rw [HD.out]; simp [results, Tryz.results114, go_sem, patV, HXB.out]; rfl) rfl ⟨by rw [HR.out], below_drewN (below_drewN HB.out _) _⟩
      ·have HR := Lib.hid (patL_both HC.out HT.out hab ha hb0)
       obtain ⟨t1, t2⟩ := text_there ha
       obtain ⟨t3, t4⟩ := text_there hb0
       obtain ⟨xa, hxa⟩ : ∃ xa, str a = xa := ⟨_, rfl⟩
       obtain ⟨xb, hxb⟩ : ∃ xb, str b = xb := ⟨_, rfl⟩
       rw [hxa] at t1 t2 hc0'
       rw [hxb] at t3 t4 hc1'
       clear h2 hab ha hb0 hal hbl hxa hxb
       go_wp2_with fail
       go_quiet (fail)
       go_wp2_with fail
       exact bodyPost_ret (v := patV none) (by simp [results, Tryz.results114, go_sem, patV]) rfl ⟨by rw [HR.out], below_drewN HB.out _⟩
    ·have HR := Lib.hid (patL_many HC.out HT.out (by rw [HN.out]; exact h2))
     have z1 : (2 : Int) < (n : Int) := by omega
     have z2 : ((n : Int) == 1) = false := by rw [beq_eq_false_iff_ne]; omega
     go_wp2_with fail
     go_quiet (fail)
     go_wp2_with fail
     exact bodyPost_ret (v := patV none) (by simp [results, Tryz.results114, go_sem, patV]) rfl ⟨by rw [HR.out], below_drewN HB.out _⟩
  ·have HQ := Lib.hid HQL.out.2
   have HD := Lib.hid hd
   have HC := Lib.hid hc
   clear hd hc HQL hsl
   generalize bi x = y at *
   go_enter Tryz.func114, Tryz.ntmps114
   go_wp2_with fail
   clear hix
   refine (rname_any cs _ HQ.out).mono ?_
   rintro e w1 ⟨rfl, rfl⟩
   obtain ⟨t, ht⟩ : ∃ t, nameB cs = t := ⟨_, rfl⟩
   rw [ht]
   have HT := Lib.hid ht
   clear ht
   cases t with
   | false =>
    have HR : Hid (patL _ = none) := patL_no (by rw [HC.out]; exact HT.out)
    go_wp2_with fail
    exact bodyPost_ret (v := patV none) (by simp [results, Tryz.results114, go_sem, patV]) rfl ⟨by rw [HR.out], Below.refl _ _⟩
   | true =>
    go_wp2_with fail
    refine (sign42 cs _ HQ.out).mono ?_
    rintro e w2 ⟨v, rfl, ho, hb⟩
    obtain ⟨A, c, rfl, hvc, hvm⟩ := ho.length
    obtain ⟨n, hN⟩ : ∃ n, (splitL 42 cs).length = n := ⟨_, rfl⟩
    rw [List.length_map, List.length_map, hN] at ho hvc ⊢
    have hn2 : n ≤ 1000001 := by have h1 := splitL_length_le 42 cs; have h2 := HQ.out; omega
    unfold maxLen at hvm
    have HN := Lib.hid hN
    have HO := Lib.hid ho
    have HB := Lib.hid hb
    clear ho hb hN
    have hcases : n = 1 ∨ n = 2 ∨ 2 < n := by
     have h1 := splitL_ne 42 cs
     have h2 := HN.out
     rcases Nat.eq_zero_or_pos n with e | e
     ·rw [e] at h2; exact absurd (List.eq_nil_of_length_eq_zero h2) h1
     ·omega
    rcases hcases with rfl | rfl | h2
    ·obtain ⟨y, hy⟩ := List.length_eq_one_iff.1 HN.out
     have HR := Lib.hid (patL_one HC.out HT.out hy)
     clear hy
     go_wp2_with fail
     exact bodyPost_ret (v := patV (some (cs, false, [], patDir _))) (by rw [HD.out]; simp [results, Tryz.results114, go_sem, patV]; rfl) rfl ⟨by rw [HR.out], HB.out⟩
    ·obtain ⟨a, b, hab⟩ : ∃ a b, splitL 42 cs = [a, b] := by
      have h := HN.out
      match hh : splitL 42 cs, h with
      | [a, b], _ => exact ⟨a, b, rfl⟩
     have h2 := patL_two HC.out HT.out hab
     have hal : a.length ≤ 1000000 := Nat.le_trans (piece_len (g := 42) (s := cs) (by rw [hab]; simp)) HQ.out
     have hbl : b.length ≤ 1000000 := Nat.le_trans (piece_len (g := 42) (s := cs) (by rw [hab]; simp)) HQ.out
     have ho := HO.out
     rw [hab] at ho
     obtain ⟨ad, rfl, hc0⟩ := piece_at ho 0 (by simp)
     obtain ⟨ad', e, hc1⟩ := piece_at ho 1 (by simp)
     injection e with e
     subst e
     rw [show ad.add 0 = ad by unfold Addr.add; simp] at hc0
     have hc0' : w2.cell? ad = some (.string (str a)) := hc0
     have hc1' : w2.cell? ⟨ad.block, ad.off + 1, none⟩ = some (.string (str b)) := by
      rw [← show ad.add 1 = ⟨ad.block, ad.off + 1, none⟩ by unfold Addr.add; rw [if_neg (by omega)]]
      exact hc1
     clear hc0 hc1 ho
     rcases Nat.eq_zero_or_pos a.length with ha | ha
     ·have ha' : a = [] := List.eq_nil_of_length_eq_zero ha
      subst ha'
      rcases Nat.eq_zero_or_pos b.length with hb0 | hb0
      ·have hb' : b = [] := List.eq_nil_of_length_eq_zero hb0
       subst hb'
       have HR := Lib.hid h2
       change w2.cell? ad = some (.string ⟨#[]⟩) at hc0'
       change w2.cell? ⟨ad.block, ad.off + 1, none⟩ = some (.string ⟨#[]⟩) at hc1'
       have hem : ((⟨#[]⟩ : ByteArray) ++ ⟨#[]⟩) = ⟨#[]⟩ := rfl
       clear h2 hab ha hb0 hal hbl
       go_wp2_with fail
       go_quiet (fail)
       go_wp2_with fail
       exact bodyPost_ret (v := patV none) (by simp [results, Tryz.results114, go_sem, patV]) rfl ⟨by rw [HR.out]; rfl, below_drewN HB.out _⟩
      ·have HR := Lib.hid (patL_ahead HC.out HT.out hab hb0)
       obtain ⟨t1, t2⟩ := text_there hb0
       have hbz := str_size b
       have hem := empty_ahead (str b)
       change w2.cell? ad = some (.string ⟨#[]⟩) at hc0'
       obtain ⟨xb, hxb⟩ : ∃ xb, str b = xb := ⟨_, rfl⟩
       obtain ⟨lb, hlb⟩ : ∃ lb, b.length = lb := ⟨_, rfl⟩
       rw [hxb] at t1 t2 hbz hem hc1'
       rw [hlb] at hbz hbl
       have HXB := Lib.hid hxb
       have b0 : (0 : Int) ≤ (lb : Int) := by omega
       have b1 : (lb : Int) ≤ 1000000 := by omega
       clear h2 hab ha hb0 hal hxb hlb
       go_wp2_with fail
       go_quiet (fail)
       go_wp2_with fail
       go_quiet (fail)
       go_wp2_with fail
       exact bodyPost_ret (v := patV (some ([], true, b, patDir _))) (by rw [HD.out]; simp [results, Tryz.results114, go_sem, patV, HXB.out]; rfl) rfl ⟨by rw [HR.out], below_drewN (below_drewN HB.out _) _⟩
     ·rcases Nat.eq_zero_or_pos b.length with hb0 | hb0
      ·have hb' : b = [] := List.eq_nil_of_length_eq_zero hb0
       subst hb'
       have HR := Lib.hid (patL_behind HC.out HT.out hab ha)
       obtain ⟨t1, t2⟩ := text_there ha
       have hbz := str_size a
       have hem := empty_behind (str a)
       change w2.cell? ⟨ad.block, ad.off + 1, none⟩ = some (.string ⟨#[]⟩) at hc1'
       obtain ⟨xb, hxb⟩ : ∃ xb, str a = xb := ⟨_, rfl⟩
       obtain ⟨lb, hlb⟩ : ∃ lb, a.length = lb := ⟨_, rfl⟩
       rw [hxb] at t1 t2 hbz hem hc0'
       rw [hlb] at hbz hal
       have HXB := Lib.hid hxb
       have b0 : (0 : Int) ≤ (lb : Int) := by omega
       have b1 : (lb : Int) ≤ 1000000 := by omega
       clear h2 hab ha hb0 hbl hxb hlb
       go_wp2_with fail
       go_quiet (fail)
       go_wp2_with fail
       go_quiet (fail)
       go_wp2_with fail
       exact bodyPost_ret (v := patV (some (a, true, [], patDir _))) (by rw [HD.out]; simp [results, Tryz.results114, go_sem, patV, HXB.out]; rfl) rfl ⟨by rw [HR.out], below_drewN (below_drewN HB.out _) _⟩
      ·have HR := Lib.hid (patL_both HC.out HT.out hab ha hb0)
       obtain ⟨t1, t2⟩ := text_there ha
       obtain ⟨t3, t4⟩ := text_there hb0
       obtain ⟨xa, hxa⟩ : ∃ xa, str a = xa := ⟨_, rfl⟩
       obtain ⟨xb, hxb⟩ : ∃ xb, str b = xb := ⟨_, rfl⟩
       rw [hxa] at t1 t2 hc0'
       rw [hxb] at t3 t4 hc1'
       clear h2 hab ha hb0 hal hbl hxa hxb
       go_wp2_with fail
       go_quiet (fail)
       go_wp2_with fail
       exact bodyPost_ret (v := patV none) (by simp [results, Tryz.results114, go_sem, patV]) rfl ⟨by rw [HR.out], below_drewN HB.out _⟩
    ·have HR := Lib.hid (patL_many HC.out HT.out (by rw [HN.out]; exact h2))
     have z1 : (2 : Int) < (n : Int) := by omega
     have z2 : ((n : Int) == 1) = false := by rw [beq_eq_false_iff_ne]; omega
     go_wp2_with fail
     go_quiet (fail)
     go_wp2_with fail
     exact bodyPost_ret (v := patV none) (by simp [results, Tryz.results114, go_sem, patV]) rfl ⟨by rw [HR.out], below_drewN HB.out _⟩
end Go.Proofs.YtbenkmihkbjgeaaGreat.Tx
