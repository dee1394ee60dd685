/- Texts put together: VShR2, VRo1, VOb2, VOb3. -/
import Derived.Test.YtpfjlhpahmhkhaaGreatQv12
import Derived.Test.YtpfjlhpahmhkhaaGreatQv03
import Derived.Test.YtpfjlhpahmhkhaaGreatQv13
/- The reference: Unhex, Valid. -/
namespace Go.Proofs.YtpfjlhpahmhkhaaGreat.Sh
open Go.RowKit
def dgi (c : UInt8) : Int := match dv c with | some v => bi v | none => -1
set_option maxHeartbeats 400000 in
theorem digit_any (c : UInt8) (w : World) : Calls Tryz.prog 282 #[.int .u8 (bi c)] w fun e w' => e = .returned (.int .i64 (dgi c)) ∧ w = w' := by
 have hb := bi_lt c
 rcases dv_cases c with ⟨h1, h2⟩ | ⟨h1, h1', h2⟩ | ⟨h1, h1', h2⟩ | ⟨h1, h1', h2⟩ | ⟨h1, h2⟩
 ·have hd : dgi c = -1 := by unfold dgi; rw [h2]
  rw [hd]
  clear hd h2
  generalize bi c = x at *
  go_enter Tryz.func282, Tryz.ntmps282
  go_wp2
  go_ret
  exact ⟨rfl, rfl⟩
 ·have hd : dgi c = bi c - 48 := by unfold dgi; rw [h2]; exact bi_sub (bi c - 48) (by omega) (by omega)
  rw [hd]
  clear hd h2
  generalize bi c = x at *
  go_enter Tryz.func282, Tryz.ntmps282
  go_wp2
  go_ret
  exact ⟨rfl, rfl⟩
 ·have hd : dgi c = -1 := by unfold dgi; rw [h2]
  rw [hd]
  clear hd h2
  generalize bi c = x at *
  go_enter Tryz.func282, Tryz.ntmps282
  go_wp2
  go_ret
  exact ⟨rfl, rfl⟩
 ·have hd : dgi c = bi c - 87 := by unfold dgi; rw [h2]; exact bi_sub (bi c - 87) (by omega) (by omega)
  rw [hd]
  clear hd h2
  generalize bi c = x at *
  have e1 : x - 97 + 10 = x - 87 := by omega
  go_enter Tryz.func282, Tryz.ntmps282
  go_wp2
  go_ret
  exact ⟨by rw [← e1]; rfl, rfl⟩
 ·have hd : dgi c = -1 := by unfold dgi; rw [h2]
  rw [hd]
  clear hd h2
  generalize bi c = x at *
  go_enter Tryz.func282, Tryz.ntmps282
  go_wp2
  go_ret
  exact ⟨rfl, rfl⟩
theorem dgi_some {c v : UInt8} (h : dv c = some v) : dgi c = bi v := by unfold dgi; rw [h]
theorem dgi_none {c : UInt8} (h : dv c = none) : dgi c = -1 := by unfold dgi; rw [h]
theorem bi_un2 {x1 x2 v1 v2 : UInt8} (h1 : dv x1 = some v1) (h2 : dv x2 = some v2) : IntKind.u8.wrap (16 * bi v1 + bi v2) = bi (un2 x1 x2) := by
 have l1 := dv_lt _ _ h1
 have l2 := dv_lt _ _ h2
 unfold un2
 rw [dvv_of h1, dvv_of h2, ← byte_of]
 congr 1
 unfold bi
 omega
theorem bi_16 {x v : UInt8} (h : dv x = some v) : 0 ≤ bi v ∧ bi v < 16 := by
 have := dv_lt _ _ h
 unfold bi
 omega
def RUPost (w : World) (cs : List UInt8) (e : Ending) (w' : World) : Prop :=
 ((hexOk cs = true ∧ ∃ v, e = .returned (.tuple #[v, .bool true]) ∧ Own w' w.heap.size v (unhexL cs)) ∨ (hexOk cs = false ∧ e = .returned (.tuple #[.slice none 0 0, .bool false]))) ∧ Below w.heap.size w w'
theorem hexOk_not {cs : List UInt8} {k : Nat} (hk : k < cs.length) {x : UInt8} (hx : cs.getD k 0 = x) (h : dv x = none) : hexOk cs = false := by
 cases hh : hexOk cs with
 | false => rfl
 | true =>
  obtain ⟨v, hv⟩ := hexOk_at hh k hk
  rw [hx, h] at hv
  cases hv
set_option maxRecDepth 100000 in
set_option maxHeartbeats 800000 in
theorem runhex_any (cs : List UInt8) (w : World) (hl : cs.length ≤ 140737488351232) : Calls Tryz.prog 223 #[.string (str cs)] w (RUPost w cs) := by
 have hsz := str_size cs
 obtain ⟨l, hL⟩ : ∃ l, cs.length = l := ⟨_, rfl⟩
 rw [hL] at hsz hl
 have HL := Lib.hid hL
 clear hL
 by_cases hev : l % 2 = 0
 ·obtain ⟨m, rfl⟩ : ∃ m, l = 2 * m := ⟨l / 2, by omega⟩
  have e1 : ((2 * m : Nat) : Int) % 2 = 0 := by omega
  have e2 : ((2 * m : Nat) : Int).tmod 2 = 0 := by rw [Int.tmod_eq_emod_of_nonneg (by omega)]; omega
  have e3 : (2 * (m : Int)) % 2 = 0 := by omega
  have e4 : (2 * (m : Int)).tmod 2 = 0 := by rw [Int.tmod_eq_emod_of_nonneg (by omega)]; omega
  have HEV := Lib.hid hev
  clear hev
  go_enter Tryz.func223, Tryz.ntmps223
  go_wp2_with fail
  clear e1 e2 e3 e4
  go_loopw [4, 5] (fun v i wr => ∃ k : Nat, k ≤ m ∧ i = .int .i64 (2 * (k : Int)) ∧ (∀ j, j < 2 * k → ∃ v, dv (cs.getD j 0) = some v) ∧ Own wr w.heap.size v (unhexN cs k) ∧ Below w.heap.size w wr) (fun _ i _ => 2 * m - (intOf i).toNat)
  case atStart => exact ⟨0, by omega, rfl, fun j hj => by omega, Own.nil_ _ _, Below.refl _ _⟩
  case round =>
   obtain ⟨k, hk, rfl, hall, ho, hbw⟩ := hrel
   have HALL := Lib.hid hall
   have HO := Lib.hid ho
   have HBW := Lib.hid hbw
   have hwz := hbw.size
   clear hall ho hbw
   by_cases hlt : k < m
   ·have hidx1 : ∀ w : World, (Instr.index 9 (.string (str cs)) (.int .i64 (2 * (k : Int)))).run Tryz.prog w = .ok (.int .u8 (bi (cs.getD (2 * k) 0))) w := index_str cs (2 * k) (by rw [HL.out]; omega)
    have hidx2 : ∀ w : World, (Instr.index 9 (.string (str cs)) (.int .i64 (2 * (k : Int) + 1))).run Tryz.prog w = .ok (.int .u8 (bi (cs.getD (2 * k + 1) 0))) w := index_str cs (2 * k + 1) (by rw [HL.out]; omega)
    have hnx := Lib.hid (unhexN_next cs k)
    obtain ⟨x1, hx1⟩ : ∃ x, cs.getD (2 * k) 0 = x := ⟨_, rfl⟩
    obtain ⟨x2, hx2⟩ : ∃ x, cs.getD (2 * k + 1) 0 = x := ⟨_, rfl⟩
    rw [hx1] at hidx1 hnx
    rw [hx2] at hidx2 hnx
    have HX1 := Lib.hid hx1
    have HX2 := Lib.hid hx2
    clear hx1 hx2
    have q1 : IntKind.i64.wrap (2 * (k : Int) + 1) = 2 * (k : Int) + 1 := IntWalk.i64_in _ (by omega)
    go_wp2_with fail
    go_quiet ((go_at_call 282; first | exact Calls.quiet_of_same ((digit_any _ _).mono fun _ _ h => ⟨h.1, h.2.symm⟩) | exact quiet_add_left (digit_any _ _) | exact quiet_left (digit_any _ _)))
    clear hidx1 hidx2 q1
    cases hv1 : dv x1 with
    | none =>
     have g1 := dgi_none hv1
     have HN := Lib.hid (hexOk_not (by rw [HL.out]; omega) HX1.out hv1)
     clear hv1
     go_wp2_with fail
     go_ret2
     exact ⟨.inr ⟨HN.out, rfl⟩, below_drewN HBW.out _⟩
    | some v1 =>
     have g1 := dgi_some hv1
     have l1 := bi_16 hv1
     have HV1 := Lib.hid hv1
     clear hv1
     cases hv2 : dv x2 with
     | none =>
      have g2 := dgi_none hv2
      have HN := Lib.hid (hexOk_not (by rw [HL.out]; omega) HX2.out hv2)
      clear hv2
      go_wp2_with fail
      go_ret2
      exact ⟨.inr ⟨HN.out, rfl⟩, below_drewN HBW.out _⟩
     | some v2 =>
      have g2 := dgi_some hv2
      have l2 := bi_16 hv2
      have HV2 := Lib.hid hv2
      have w1 : IntKind.i64.wrap (16 * bi v1) = 16 * bi v1 := IntWalk.i64_in _ (by omega)
      have w2 : IntKind.i64.wrap (16 * bi v1 + bi v2) = 16 * bi v1 + bi v2 := IntWalk.i64_in _ (by omega)
      have hor := bi_un2 HV1.out HV2.out
      have hlen : (unhexN cs k).length + 1 ≤ 140737488355328 := by rw [unhexN_length]; omega
      clear hv2
      go_wp2_with (at_builtin; refine append_byte rfl (.tmp 33) (.tmp 39) rfl _ w.heap.size u4 (unhexN cs k) rfl (by exact HO.out) _ (un2 x1 x2) rfl rfl hlen (by exact hwz) ?_; intro v3 w3 ho3 hb3; have HO3 := Lib.hid ho3; have HB3 := Lib.hid hb3; clear ho3 hb3)
      refine ⟨⟨k + 1, by omega, by congr 1, ?_, ?_, (below_drewN HBW.out _).trans HB3.out⟩, ?_⟩
      ·intro j hj
       by_cases e1 : j = 2 * k
       ·rw [e1, HX1.out]; exact ⟨v1, HV1.out⟩
       by_cases e2 : j = 2 * k + 1
       ·rw [e2, HX2.out]; exact ⟨v2, HV2.out⟩
       exact HALL.out j (by omega)
      ·rw [hnx.out]; exact HO3.out
      ·simp [intOf]; omega
   ·obtain rfl : k = m := by omega
    have ho' : Own wr w.heap.size u4 (unhexL cs) := by
     unfold unhexL
     rw [HL.out, show 2 * k / 2 = k from by omega]
     exact HO.out
    have HO' := Lib.hid ho'
    clear ho'
    go_wp2
    go_ret2
    refine ⟨.inl ⟨hexOk_of (by rw [HL.out]; omega) (by rw [HL.out]; exact HALL.out), u4, rfl, HO'.out⟩, HBW.out⟩
 ·have e1 : ((l : Int) % 2 != 0) = true := by rw [bne_iff_ne]; omega
  have e2 : ((l : Int) % 2 == 0) = false := beq_eq_false_iff_ne.2 (by omega)
  have e3 : ((l : Int).tmod 2 != 0) = true := by rw [bne_iff_ne, Int.tmod_eq_emod_of_nonneg (by omega)]; omega
  have HEV := Lib.hid hev
  clear hev
  go_enter Tryz.func223, Tryz.ntmps223
  go_wp2
  go_ret2
  refine ⟨.inr ⟨?_, rfl⟩, Below.refl _ _⟩
  cases hh : hexOk cs with
  | false => rfl
  | true => exact absurd (by have := hexOk_even hh; rw [HL.out] at this; exact this) HEV.out
theorem runhex_yes (cs : List UInt8) (w : World) (h : hexOk cs = true) (hl : cs.length ≤ 140737488351232) : Calls Tryz.prog 223 #[.string (str cs)] w (UnPost w (unhexL cs)) :=
 (runhex_any cs w hl).mono fun e w' ⟨h1, h2⟩ => by
  rcases h1 with ⟨_, v, he, ho⟩ | ⟨h1, _⟩
  ·exact ⟨v, he, ho, h2⟩
  ·rw [h] at h1; cases h1
theorem runhex_no (cs : List UInt8) (w : World) (h : hexOk cs = false) (hl : cs.length ≤ 140737488351232) : Calls Tryz.prog 223 #[.string (str cs)] w fun e w' => e = .returned (.tuple #[.slice none 0 0, .bool false]) ∧ Below w.heap.size w w' :=
 (runhex_any cs w hl).mono fun e w' ⟨h1, h2⟩ => by
  rcases h1 with ⟨h1, _⟩ | ⟨_, he⟩
  ·rw [h] at h1; cases h1
  ·exact ⟨he, h2⟩
set_option maxHeartbeats 400000 in
theorem rvalid_any (cs : List UInt8) (t : Bool) (ht : (cs.length == 64 && hexOk cs) = t) (w : World) (hl : cs.length ≤ 140737488351232) : Calls Tryz.prog 147 #[.string (str cs)] w fun e w' => e = .returned (.bool t) ∧ Below w.heap.size w w' := by
 cases hx : hexOk cs with
 | false =>
  rw [hx, Bool.and_false] at ht
  subst ht
  have HX := Lib.hid hx
  clear hx
  go_enter Tryz.func147, Tryz.ntmps147
  go_wp2_with fail
  refine (runhex_no cs _ HX.out hl).mono ?_
  rintro e w' ⟨rfl, hb⟩
  have HB := Lib.hid hb
  clear hb
  go_wp2_with fail
  go_ret
  exact ⟨rfl, HB.out⟩
 | true =>
  rw [hx, Bool.and_true] at ht
  have HX := Lib.hid hx
  have hev := hexOk_even hx
  obtain ⟨m, hm⟩ : ∃ m, cs.length = 2 * m := ⟨cs.length / 2, by omega⟩
  have ht2 : ((m : Int) == 32) = t := by
   rw [← ht, Bool.eq_iff_iff, beq_iff_eq, beq_iff_eq, hm]
   omega
  have HM := Lib.hid hm
  clear hx hev ht hm
  go_enter Tryz.func147, Tryz.ntmps147
  go_wp2_with fail
  refine (runhex_yes cs _ HX.out hl).mono ?_
  rintro e w' ⟨v, rfl, ho, hb⟩
  obtain ⟨A, c, hv, _⟩ := ho.sl
  rw [unhexL_length, HM.out, show 2 * m / 2 = m from by omega] at hv
  subst hv
  have HB := Lib.hid hb
  clear hb ho
  go_wp2_with fail
  go_ret
  exact ⟨rfl, HB.out⟩
end Go.Proofs.YtpfjlhpahmhkhaaGreat.Sh
/- The document's Name, of a text of any length. -/
namespace Go.Proofs.YtpfjlhpahmhkhaaGreat.Tx
open Go.RowKit Go.Proofs.YtpfjlhpahmhkhaaGreat.Sh
set_option maxRecDepth 100000 in
set_option maxHeartbeats 1600000 in
theorem rname_all (cs : List UInt8) (w : World) : Calls Tryz.prog 222 #[.string (str cs)] w fun e w' => e = .returned (.bool (nameB cs)) ∧ w = w' := by
 have hsz := str_size cs
 have htl := str_toList cs
 obtain ⟨l, hL⟩ : ∃ l, cs.length = l := ⟨_, rfl⟩
 rw [hL] at hsz
 have HL := Lib.hid hL
 have n0 : (0 : Int) ≤ (l : Int) := by omega
 clear hL
 by_cases h1 : l < 1
 ·have HR : Hid (nameB cs = false) := by
   unfold Hid
   rw [nameB_eq, HL.out]
   simp [show ¬ (1 ≤ l) from by omega]
  obtain rfl : l = 0 := by omega
  clear htl h1 n0
  go_enter Tryz.func222, Tryz.ntmps222
  go_wp2
  go_ret
  exact ⟨by rw [HR.out]; rfl, rfl⟩
 ·by_cases h2 : 64 < l
  ·have HR : Hid (nameB cs = false) := by
    unfold Hid
    rw [nameB_eq, HL.out]
    simp [show ¬ (l ≤ 64) from by omega]
   have z1 : (1 : Int) ≤ (l : Int) := by omega
   have z2 : (64 : Int) < (l : Int) := by omega
   clear htl
   go_enter Tryz.func222, Tryz.ntmps222
   go_wp2
   go_ret
   exact ⟨by rw [HR.out]; rfl, rfl⟩
  ·have z1 : (1 : Int) ≤ (l : Int) := by omega
   have z2 : (l : Int) ≤ 64 := by omega
   by_cases h3 : cs = [46]
   ·have HR : Hid (nameB cs = false) := by subst h3; rfl
    have e1 : ((str cs).toList == [46]) = true := by rw [htl, h3]; rfl
    clear htl h3
    go_enter Tryz.func222, Tryz.ntmps222
    go_wp2
    go_ret
    exact ⟨by rw [HR.out]; rfl, rfl⟩
   ·have e1 : ((str cs).toList == [46]) = false := by rw [htl]; exact list_other h3
    by_cases h4 : cs = [46, 46]
    ·have HR : Hid (nameB cs = false) := by subst h4; rfl
     have e2 : ((str cs).toList == [46, 46]) = true := by rw [htl, h4]; rfl
     clear htl h3 h4
     go_enter Tryz.func222, Tryz.ntmps222
     go_wp2
     go_ret
     exact ⟨by rw [HR.out]; rfl, rfl⟩
    ·have e2 : ((str cs).toList == [46, 46]) = false := by rw [htl]; exact list_other h4
     have H3 := Lib.hid h3
     have H4 := Lib.hid h4
     clear htl h3 h4
     go_enter Tryz.func222, Tryz.ntmps222
     go_wp2
     clear e1 e2
     go_loop [3] (fun i => ∃ k : Nat, k ≤ l ∧ i = .int .i64 k ∧ ∀ (j : Nat) (c : UInt8), j < k → cs[j]? = some c → okc c = true) (fun i => l - (intOf i).toNat)
     case atStart => exact ⟨0, by omega, rfl, fun j c hj => by omega⟩
     case round =>
      obtain ⟨k, hk, rfl, hok⟩ := hrel
      have HOK := Lib.hid hok
      clear hok
      have k0 : (0 : Int) ≤ (k : Int) := by omega
      by_cases hlt : k < l
      ·have k1 : (k : Int) < (l : Int) := by omega
       have hkc : k < cs.length := by rw [HL.out]; exact hlt
       have hix := index_str cs k hkc
       obtain ⟨x, hx⟩ : ∃ x, cs.getD k 0 = x := ⟨_, rfl⟩
       have hx' : cs[k]? = some x := by rw [← hx, List.getD_eq_getElem?_getD, List.getElem?_eq_getElem hkc]; rfl
       rw [hx] at hix
       have HX := Lib.hid hx'
       clear hx hx' hkc
       rcases okc_cases x with ⟨ho, c1⟩ | ⟨ho, c1, c2⟩ | ⟨ho, c1, c2, c3⟩ | ⟨ho, c1, c2, c3⟩
       ·have HR : Hid (nameB cs = false) := nameB_bad HX.out ho
        clear ho
        generalize bi x = y at *
        go_wp2
        go_ret
        exact ⟨by rw [HR.out]; rfl, rfl⟩
       ·have HR : Hid (nameB cs = false) := nameB_bad HX.out ho
        clear ho
        generalize bi x = y at *
        go_wp2
        go_ret
        exact ⟨by rw [HR.out]; rfl, rfl⟩
       ·have HR : Hid (nameB cs = false) := nameB_bad HX.out ho
        have hy : bi x = 47 := by subst c3; unfold bi; rfl
        rw [hy] at hix c1 c2
        clear ho c3 hy
        go_wp2
        go_ret
        exact ⟨by rw [HR.out]; rfl, rfl⟩
       ·have HO := Lib.hid ho
        clear ho
        generalize bi x = y at *
        go_wp2
        go_round
        case rel =>
         refine ⟨k + 1, by omega, by go_num, fun j c hj hc => ?_⟩
         by_cases e : j = k
         ·subst e; rw [HX.out] at hc; injection hc with hc; subst hc; exact HO.out
         ·exact HOK.out j c (by omega) hc
        case measure => simp [intOf]; omega
      ·have HR : Hid (nameB cs = true) := by
        unfold Hid
        refine nameB_good (by rw [HL.out]; omega) (by rw [HL.out]; omega) (list_other H3.out) (list_other H4.out) (fun j c hc => HOK.out j c ?_ hc)
        have := (List.getElem?_eq_some_iff.1 hc).1
        rw [HL.out] at this
        omega
       obtain rfl : k = l := by omega
       go_wp2
       go_ret
       exact ⟨by rw [HR.out]; rfl, rfl⟩
end Go.Proofs.YtpfjlhpahmhkhaaGreat.Tx
/- slices.Equal (of bytes, of texts, of items). -/
namespace Go.Proofs.YtpfjlhpahmhkhaaGreat.Ob
open Go.RowKit Go.Proofs.YtpfjlhpahmhkhaaGreat.Sh
open Go.Proofs.YtpfjlhpahmhkhaaGreat.Tx (OwnV SlV sv bl nameB reads_at texts_at toList_ne')
theorem take_snoc {α : Type} [Inhabited α] {xs ys : List α} {k : Nat} (h1 : k < xs.length) (h2 : k < ys.length) (ht : xs.take k = ys.take k) (he : xs[k] = ys[k]) : xs.take (k + 1) = ys.take (k + 1) := by
 rw [List.take_succ_eq_append_getElem h1, List.take_succ_eq_append_getElem h2, ht, he]
set_option maxRecDepth 100000 in
set_option maxHeartbeats 800000 in
theorem eqb_any (v v' : Value) (xs ys : List UInt8) (w : World) (h : Sl w v xs) (h' : Sl w v' ys) : Calls Tryz.prog 349 #[v, v'] w (BoolPost w (xs == ys)) := by
 obtain ⟨A, c, rfl, hlc, hcm, hR⟩ := h.len
 obtain ⟨A', c', rfl, hlc', hcm', hR'⟩ := h'.len
 unfold maxLen at hcm hcm'
 have HR := Lib.hid hR
 have HR' := Lib.hid hR'
 obtain ⟨l, hl⟩ : ∃ l, xs.length = l := ⟨_, rfl⟩
 obtain ⟨m, hm⟩ : ∃ m, ys.length = m := ⟨_, rfl⟩
 obtain ⟨t, ht⟩ : ∃ t, (xs == ys) = t := ⟨_, rfl⟩
 rw [hl] at hlc ⊢
 rw [hm] at hlc' ⊢
 rw [ht]
 have HL := Lib.hid hl
 have HM := Lib.hid hm
 have HT := Lib.hid ht
 clear h h' hR hR' hl hm ht
 by_cases hlm : l = m
 ·subst hlm
  go_enter Tryz.func349, Tryz.ntmps349
  go_wp2
  go_loopw [13] (fun i wr => ∃ k : Nat, k ≤ l ∧ i = .int .i64 k ∧ Below w.heap.size w wr ∧ xs.take k = ys.take k) (fun i _ => l - (intOf i).toNat)
  case atStart => exact ⟨0, Nat.zero_le _, rfl, Below.refl _ _, rfl⟩
  case round =>
   obtain ⟨k, hk, rfl, hb, htk⟩ := hrel
   have HB := Lib.hid hb
   have HTK := Lib.hid htk
   clear hb htk
   by_cases hlt : k < l
   ·have hkl : k < xs.length := by rw [HL.out]; exact hlt
    have hkm : k < ys.length := by rw [HM.out]; exact hlt
    obtain ⟨ad, rfl, hcell⟩ := (HR.out.below HB.out).at_ k hkl
    obtain ⟨ad', rfl, hcell'⟩ := (HR'.out.below HB.out).at_ k hkm
    rw [List.getD_eq_getElem?_getD, List.getElem?_eq_getElem hkl] at hcell
    rw [List.getD_eq_getElem?_getD, List.getElem?_eq_getElem hkm] at hcell'
    have z0 : (0 : Int) ≤ (k : Int) := by omega
    have z1 : (k : Int) < (l : Int) := by omega
    by_cases he : xs[k] = ys[k]
    ·have HS := Lib.hid (take_snoc hkl hkm HTK.out he)
     rw [← he] at hcell'
     clear he
     replace hcell : wr.cell? (ad.add k) = some (.int .u8 (bi xs[k])) := hcell
     replace hcell' : wr.cell? (ad'.add k) = some (.int .u8 (bi xs[k])) := hcell'
     generalize bi xs[k] = x at *
     clear hkl hkm
     go_wp2_with fail
     go_quiet (fail)
     go_wp2
     go_roundw
     case rel => exact ⟨k + 1, by omega, by go_num, below_drewN HB.out _, HS.out⟩
     case measure => simp [intOf]; omega
    ·have htt : t = false := by
      rw [← HT.out, beq_eq_false_iff_ne]
      rintro rfl
      exact he rfl
     subst htt
     have hne : bi xs[k] ≠ bi ys[k] := fun e => he (bi_inj e)
     clear he
     replace hcell : wr.cell? (ad.add k) = some (.int .u8 (bi xs[k])) := hcell
     replace hcell' : wr.cell? (ad'.add k) = some (.int .u8 (bi ys[k])) := hcell'
     generalize bi xs[k] = x at *
     generalize bi ys[k] = y at *
     clear hkl hkm
     have hne' : (x == y) = false := beq_eq_false_iff_ne.2 hne
     clear hne
     go_wp2_with fail
     go_quiet (fail)
     go_wp2
     go_ret
     exact ⟨rfl, below_drewN HB.out _⟩
   ·have htt : t = true := by
     rw [← HT.out, beq_iff_eq]
     have := HTK.out
     rwa [List.take_of_length_le (by rw [HL.out]; omega), List.take_of_length_le (by rw [HM.out]; omega)] at this
    subst htt
    go_wp2
    go_ret
    exact ⟨rfl, HB.out⟩
 ·have htt : t = false := by
   rw [← HT.out, beq_eq_false_iff_ne]
   rintro rfl
   exact hlm (HL.out.symm.trans HM.out)
  subst htt
  have hne : ((l : Int) == (m : Int)) = false := beq_eq_false_iff_ne.2 (by omega)
  clear hlm
  go_enter Tryz.func349, Tryz.ntmps349
  go_wp2
  go_ret
  exact ⟨rfl, Below.refl _ _⟩
set_option maxRecDepth 100000 in
set_option maxHeartbeats 800000 in
theorem eqt_any (v v' : Value) (xs ys : List (List UInt8)) (w : World) (h : Tx.SlV w v ((xs.map str).map Tx.sv)) (h' : Tx.SlV w v' ((ys.map str).map Tx.sv)) : Calls Tryz.prog 351 #[v, v'] w (BoolPost w (xs == ys)) := by
 obtain ⟨A, c, rfl, hlc, hcm, hR⟩ := h.len
 obtain ⟨A', c', rfl, hlc', hcm', hR'⟩ := h'.len
 simp only [List.length_map] at hlc hR hlc' hR' ⊢
 unfold maxLen at hcm hcm'
 have HR := Lib.hid hR
 have HR' := Lib.hid hR'
 obtain ⟨l, hl⟩ : ∃ l, xs.length = l := ⟨_, rfl⟩
 obtain ⟨m, hm⟩ : ∃ m, ys.length = m := ⟨_, rfl⟩
 obtain ⟨t, ht⟩ : ∃ t, (xs == ys) = t := ⟨_, rfl⟩
 rw [hl] at hlc ⊢
 rw [hm] at hlc' ⊢
 rw [ht]
 have HL := Lib.hid hl
 have HM := Lib.hid hm
 have HT := Lib.hid ht
 clear h h' hR hR' hl hm ht
 by_cases hlm : l = m
 ·subst hlm
  go_enter Tryz.func351, Tryz.ntmps351
  go_wp2
  go_loopw [13] (fun i wr => ∃ k : Nat, k ≤ l ∧ i = .int .i64 k ∧ Below w.heap.size w wr ∧ xs.take k = ys.take k) (fun i _ => l - (intOf i).toNat)
  case atStart => exact ⟨0, Nat.zero_le _, rfl, Below.refl _ _, rfl⟩
  case round =>
   obtain ⟨k, hk, rfl, hb, htk⟩ := hrel
   have HB := Lib.hid hb
   have HTK := Lib.hid htk
   clear hb htk
   by_cases hlt : k < l
   ·have hkl : k < xs.length := by rw [HL.out]; exact hlt
    have hkm : k < ys.length := by rw [HM.out]; exact hlt
    obtain ⟨ad, rfl, hcell⟩ := Tx.reads_at ((HR.out.below HB.out).more HB.out.size) k (Tx.sv (str xs[k])) (by rw [List.map_map, List.getElem?_map, List.getElem?_eq_getElem hkl]; rfl)
    obtain ⟨ad', rfl, hcell'⟩ := Tx.reads_at ((HR'.out.below HB.out).more HB.out.size) k (Tx.sv (str ys[k])) (by rw [List.map_map, List.getElem?_map, List.getElem?_eq_getElem hkm]; rfl)
    have z0 : (0 : Int) ≤ (k : Int) := by omega
    have z1 : (k : Int) < (l : Int) := by omega
    by_cases he : xs[k] = ys[k]
    ·have HS := Lib.hid (take_snoc hkl hkm HTK.out he)
     rw [← he] at hcell'
     clear he
     replace hcell : wr.cell? (ad.add k) = some (.string (str xs[k])) := hcell
     replace hcell' : wr.cell? (ad'.add k) = some (.string (str xs[k])) := hcell'
     generalize str xs[k] = x at *
     clear hkl hkm
     go_wp2_with fail
     go_quiet (fail)
     go_wp2
     go_roundw
     case rel => exact ⟨k + 1, by omega, by go_num, below_drewN HB.out _, HS.out⟩
     case measure => simp [intOf]; omega
    ·have htt : t = false := by
      rw [← HT.out, beq_eq_false_iff_ne]
      rintro rfl
      exact he rfl
     subst htt
     have hne : str xs[k] ≠ str ys[k] := fun e => he (str_inj e)
     clear he
     replace hcell : wr.cell? (ad.add k) = some (.string (str xs[k])) := hcell
     replace hcell' : wr.cell? (ad'.add k) = some (.string (str ys[k])) := hcell'
     generalize str xs[k] = x at *
     generalize str ys[k] = y at *
     clear hkl hkm
     have hne' := toList_ne' hne
     clear hne
     go_wp2_with fail
     go_quiet (fail)
     go_wp2
     go_ret
     exact ⟨rfl, below_drewN HB.out _⟩
   ·have htt : t = true := by
     rw [← HT.out, beq_iff_eq]
     have := HTK.out
     rwa [List.take_of_length_le (by rw [HL.out]; omega), List.take_of_length_le (by rw [HM.out]; omega)] at this
    subst htt
    go_wp2
    go_ret
    exact ⟨rfl, HB.out⟩
 ·have htt : t = false := by
   rw [← HT.out, beq_eq_false_iff_ne]
   rintro rfl
   exact hlm (HL.out.symm.trans HM.out)
  subst htt
  have hne : ((l : Int) == (m : Int)) = false := beq_eq_false_iff_ne.2 (by omega)
  clear hlm
  go_enter Tryz.func351, Tryz.ntmps351
  go_wp2
  go_ret
  exact ⟨rfl, Below.refl _ _⟩
set_option maxRecDepth 100000 in
set_option maxHeartbeats 800000 in
theorem eqi_any (v v' : Value) (xs ys : List ItM) (w : World) (h : SlI w v xs) (h' : SlI w v' ys) : Calls Tryz.prog 350 #[v, v'] w (BoolPost w (xs == ys)) := by
 obtain ⟨A, c, rfl, hlc, hcm, _, hR⟩ := h
 obtain ⟨A', c', rfl, hlc', hcm', _, hR'⟩ := h'
 unfold maxLen at hcm hcm'
 have HR := Lib.hid hR
 have HR' := Lib.hid hR'
 obtain ⟨l, hl⟩ : ∃ l, xs.length = l := ⟨_, rfl⟩
 obtain ⟨m, hm⟩ : ∃ m, ys.length = m := ⟨_, rfl⟩
 obtain ⟨t, ht⟩ : ∃ t, (xs == ys) = t := ⟨_, rfl⟩
 rw [hl] at hlc ⊢
 rw [hm] at hlc' ⊢
 rw [ht]
 have HL := Lib.hid hl
 have HM := Lib.hid hm
 have HT := Lib.hid ht
 clear hR hR' hl hm ht
 by_cases hlm : l = m
 ·subst hlm
  go_enter Tryz.func350, Tryz.ntmps350
  go_wp2
  go_loopw [13] (fun i wr => ∃ k : Nat, k ≤ l ∧ i = .int .i64 k ∧ Below w.heap.size w wr ∧ xs.take k = ys.take k) (fun i _ => l - (intOf i).toNat)
  case atStart => exact ⟨0, Nat.zero_le _, rfl, Below.refl _ _, rfl⟩
  case round =>
   obtain ⟨k, hk, rfl, hb, htk⟩ := hrel
   have HB := Lib.hid hb
   have HTK := Lib.hid htk
   clear hb htk
   by_cases hlt : k < l
   ·have hkl : k < xs.length := by rw [HL.out]; exact hlt
    have hkm : k < ys.length := by rw [HM.out]; exact hlt
    obtain ⟨ad, rfl, c0, c1, c2⟩ := items_at (HR.out.below HB.out) rfl k xs[k] (List.getElem?_eq_getElem hkl)
    obtain ⟨ad', rfl, d0, d1, d2⟩ := items_at (HR'.out.below HB.out) rfl k ys[k] (List.getElem?_eq_getElem hkm)
    have z0 : (0 : Int) ≤ (k : Int) := by omega
    have z1 : (k : Int) < (l : Int) := by omega
    obtain ⟨p, hp⟩ : ∃ p, xs[k] = p := ⟨_, rfl⟩
    obtain ⟨q, hq⟩ : ∃ q, ys[k] = q := ⟨_, rfl⟩
    obtain ⟨r, hr⟩ : ∃ r, (p == q) = r := ⟨_, rfl⟩
    have HS : Hid (r = true → xs.take (k + 1) = ys.take (k + 1)) := fun e => take_snoc hkl hkm HTK.out (by rw [hp, hq]; rw [e] at hr; exact beq_iff_eq.1 hr)
    have HN : Hid (r = false → t = false) := fun e => by
     rw [← HT.out, beq_eq_false_iff_ne]
     rintro rfl
     rw [e] at hr
     exact (beq_eq_false_iff_ne.1 hr) (hp.symm.trans hq)
    rw [hp] at c0 c1 c2
    rw [hq] at d0 d1 d2
    clear hp hq hkl hkm
    cases r with
    | true =>
     have HSS := Lib.hid (HS.out rfl)
     obtain rfl : p = q := beq_iff_eq.1 hr
     clear hr HS HN
     generalize p.1 = x0 at *
     generalize str p.2.1 = x1 at *
     generalize str p.2.2 = x2 at *
     go_wp2_with fail
     go_quiet (fail)
     go_wp2
     go_roundw
     case rel => exact ⟨k + 1, by omega, by go_num, below_drewN HB.out _, HSS.out⟩
     case measure => simp [intOf]; omega
    | false =>
     obtain rfl := HN.out rfl
     clear HS HN
     obtain ⟨p0, p1, p2⟩ := p
     obtain ⟨q0, q1, q2⟩ := q
     replace c0 : wr.cell? (ad.add (k * 3)) = some (.int .i64 p0) := c0
     replace c1 : wr.cell? ⟨(ad.add (k * 3)).block, (ad.add (k * 3)).off + 1, none⟩ = some (.string (str p1)) := c1
     replace c2 : wr.cell? ⟨(ad.add (k * 3)).block, (ad.add (k * 3)).off + 2, none⟩ = some (.string (str p2)) := c2
     replace d0 : wr.cell? (ad'.add (k * 3)) = some (.int .i64 q0) := d0
     replace d1 : wr.cell? ⟨(ad'.add (k * 3)).block, (ad'.add (k * 3)).off + 1, none⟩ = some (.string (str q1)) := d1
     replace d2 : wr.cell? ⟨(ad'.add (k * 3)).block, (ad'.add (k * 3)).off + 2, none⟩ = some (.string (str q2)) := d2
     by_cases e0 : p0 = q0
     ·subst e0
      by_cases e1 : p1 = q1
      ·subst e1
       have hne := toList_ne' (fun e => (beq_eq_false_iff_ne.1 hr) (by rw [str_inj e]) : str p2 ≠ str q2)
       clear hr
       generalize str p1 = x1 at *
       generalize str p2 = x2 at *
       generalize str q2 = y2 at *
       go_wp2_with fail
       go_quiet (fail)
       go_wp2
       go_ret
       exact ⟨rfl, below_drewN HB.out _⟩
      ·have hne := toList_ne' (fun e => e1 (str_inj e) : str p1 ≠ str q1)
       clear hr e1
       generalize str p1 = x1 at *
       generalize str q1 = y1 at *
       generalize str p2 = x2 at *
       generalize str q2 = y2 at *
       go_wp2_with fail
       go_quiet (fail)
       go_wp2
       go_ret
       exact ⟨rfl, below_drewN HB.out _⟩
     ·have hne : (p0 == q0) = false := beq_eq_false_iff_ne.2 e0
      clear hr e0
      generalize str p1 = x1 at *
      generalize str q1 = y1 at *
      generalize str p2 = x2 at *
      generalize str q2 = y2 at *
      go_wp2_with fail
      go_quiet (fail)
      go_wp2
      go_ret
      exact ⟨rfl, below_drewN HB.out _⟩
   ·have htt : t = true := by
     rw [← HT.out, beq_iff_eq]
     have := HTK.out
     rwa [List.take_of_length_le (by rw [HL.out]; omega), List.take_of_length_le (by rw [HM.out]; omega)] at this
    subst htt
    go_wp2
    go_ret
    exact ⟨rfl, HB.out⟩
 ·have htt : t = false := by
   rw [← HT.out, beq_eq_false_iff_ne]
   rintro rfl
   exact hlm (HL.out.symm.trans HM.out)
  subst htt
  have hne : ((l : Int) == (m : Int)) = false := beq_eq_false_iff_ne.2 (by omega)
  clear hlm
  go_enter Tryz.func350, Tryz.ntmps350
  go_wp2
  go_ret
  exact ⟨rfl, Below.refl _ _⟩
end Go.Proofs.YtpfjlhpahmhkhaaGreat.Ob
/- obj: what may be of a message, of parents. -/
namespace Go.Proofs.YtpfjlhpahmhkhaaGreat.Ob
open Go.RowKit Go.Proofs.YtpfjlhpahmhkhaaGreat.Sh
open Go.Proofs.YtpfjlhpahmhkhaaGreat.Tx (OwnV SlV sv bl nameB reads_at texts_at toList_ne')
theorem all_bad {f : Nat → Bool} {n k : Nat} (hk : k < n) (h : f k = false) : (List.range n).all f = false := by
 rw [List.all_eq_false]
 exact ⟨k, List.mem_range.2 hk, by rw [h]; simp⟩
theorem all_next {f : Nat → Bool} {k : Nat} (h : (List.range k).all f = true) (hk : f k = true) : (List.range (k + 1)).all f = true := by
 rw [List.range_succ, List.all_append, h]
 simp [hk]
def validB (cs : List UInt8) : Bool := cs.length == 64 && hexOk cs
theorem valid_all (cs : List UInt8) (w : World) : Calls Tryz.prog 280 #[.string (str cs)] w fun e w' => e = .returned (.bool (validB cs)) ∧ w = w' := by
 by_cases h64 : cs.length = 64
 ·exact valid_any cs _ rfl w (by omega)
 ·have hb : validB cs = false := by unfold validB; rw [beq_eq_false_iff_ne.2 h64]; rfl
  rw [hb]
  have hsz := str_size cs
  obtain ⟨l, hL⟩ : ∃ l, cs.length = l := ⟨_, rfl⟩
  rw [hL] at hsz h64
  have e1 : ((l : Int) == 64) = false := beq_eq_false_iff_ne.2 (by omega)
  clear hL
  go_enter Tryz.func280, Tryz.ntmps280
  go_wp2_with fail
  go_ret
  exact ⟨rfl, rfl⟩
theorem name_all (cs : List UInt8) (w : World) : Calls Tryz.prog 276 #[.string (str cs)] w fun e w' => e = .returned (.bool (nameB cs)) ∧ w = w' := Tx.cname_all cs w
def okm (c : UInt8) : Bool := decide (32 ≤ bi c) && decide (bi c ≤ 126)
def msgB (s : List UInt8) : Bool := decide (s.length ≤ 200) && (List.range s.length).all fun j => okm (s.getD j 0)
set_option maxRecDepth 100000 in
set_option maxHeartbeats 800000 in
theorem msg_any (cs : List UInt8) (w : World) : Calls Tryz.prog 310 #[.string (str cs)] w fun e w' => e = .returned (.bool (msgB cs)) ∧ w = w' := by
 have hsz := str_size cs
 obtain ⟨l, hL⟩ : ∃ l, cs.length = l := ⟨_, rfl⟩
 obtain ⟨t, ht⟩ : ∃ t, msgB cs = t := ⟨_, rfl⟩
 rw [ht]
 unfold msgB at ht
 rw [hL] at hsz ht
 have HL := Lib.hid hL
 have HT := Lib.hid ht
 have n0 : (0 : Int) ≤ (l : Int) := by omega
 clear hL ht
 by_cases h2 : 200 < l
 ·have htt : t = false := by
   rw [← HT.out]
   simp [show ¬ (l ≤ 200) from by omega]
  subst htt
  have l2 : (200 : Int) < (l : Int) := by omega
  clear h2
  go_enter Tryz.func310, Tryz.ntmps310
  go_wp2
  go_ret
  exact ⟨rfl, rfl⟩
 ·have l2 : (l : Int) ≤ 200 := by omega
  have HN := Lib.hid h2
  clear h2
  go_enter Tryz.func310, Tryz.ntmps310
  go_wp2
  go_loop [9] (fun i => ∃ k : Nat, k ≤ l ∧ i = .int .i64 k ∧ (List.range k).all (fun j => okm (cs.getD j 0)) = true) (fun i => l - (intOf i).toNat)
  case atStart => exact ⟨0, by omega, rfl, rfl⟩
  case round =>
   obtain ⟨k, hk, rfl, hok⟩ := hrel
   have HOK := Lib.hid hok
   clear hok
   have k0 : (0 : Int) ≤ (k : Int) := by omega
   by_cases hlt : k < l
   ·have k1 : (k : Int) < (l : Int) := by omega
    have hix := index_str cs k (by rw [HL.out]; exact hlt)
    obtain ⟨x, hx⟩ : ∃ x, cs.getD k 0 = x := ⟨_, rfl⟩
    rw [hx] at hix
    have HX := Lib.hid hx
    clear hx
    by_cases c1 : bi x < 32
    ·have htt : t = false := by
      rw [← HT.out, all_bad hlt (by rw [HX.out]; unfold okm; simp [show ¬ (32 ≤ bi x) from by omega])]
      simp
     subst htt
     generalize bi x = y at *
     go_wp2
     go_ret
     exact ⟨rfl, rfl⟩
    ·have c1' : 32 ≤ bi x := by omega
     clear c1
     by_cases c2 : 126 < bi x
     ·have htt : t = false := by
       rw [← HT.out, all_bad hlt (by rw [HX.out]; unfold okm; simp [show ¬ (bi x ≤ 126) from by omega])]
       simp
      subst htt
      generalize bi x = y at *
      go_wp2
      go_ret
      exact ⟨rfl, rfl⟩
     ·have c2' : bi x ≤ 126 := by omega
      have HO := Lib.hid (all_next HOK.out (show okm (cs.getD k 0) = true from by rw [HX.out]; unfold okm; simp [c1', c2']))
      clear c2
      generalize bi x = y at *
      go_wp2
      go_round
      case rel => exact ⟨k + 1, by omega, by go_num, HO.out⟩
      case measure => simp [intOf]; omega
   ·obtain rfl : k = l := by omega
    have htt : t = true := by
     rw [← HT.out, HOK.out]
     simp
     omega
    subst htt
    go_wp2
    go_ret
    exact ⟨rfl, rfl⟩
def parB (ids : List (List UInt8)) : Bool := decide (ids.length ≤ 2) && (List.range ids.length).all fun j => validB (ids.getD j []) && (decide (j = 0) || bl (ids.getD (j - 1) []) (ids.getD j []))
theorem par_at {w : World} {B : Nat} {ids : List (List UInt8)} {A : Option Addr} {n : Nat} (h : Reads w B 1 A n ((ids.map str).map Tx.sv)) (k : Nat) (hk : k < ids.length) : ∃ ad, A = some ad ∧ w.cell? (ad.add k) = some (.string (str (ids.getD k []))) := by
 have : ((ids.map str).map Tx.sv)[k]? = some (Tx.sv (str (ids.getD k []))) := by
  rw [List.map_map, List.getElem?_map, List.getElem?_eq_getElem hk, List.getD_eq_getElem?_getD, List.getElem?_eq_getElem hk]
  rfl
 exact Tx.reads_at h k _ this
set_option maxRecDepth 100000 in
set_option maxHeartbeats 800000 in
theorem par_any (v : Value) (ids : List (List UInt8)) (w : World) (h : Tx.SlV w v ((ids.map str).map Tx.sv)) : Calls Tryz.prog 309 #[v] w fun e w' => e = .returned (.bool (parB ids)) ∧ w = w' := by
 obtain ⟨A, c, rfl, hlc, hcm, hR⟩ := h.len
 rw [List.length_map, List.length_map] at hlc hR ⊢
 have HR := Lib.hid hR
 unfold maxLen at hcm
 obtain ⟨l, hL⟩ : ∃ l, ids.length = l := ⟨_, rfl⟩
 obtain ⟨t, ht⟩ : ∃ t, parB ids = t := ⟨_, rfl⟩
 rw [ht]
 unfold parB at ht
 rw [hL] at hlc ht ⊢
 have HL := Lib.hid hL
 have HT := Lib.hid ht
 clear hL ht h hR
 by_cases h2 : 2 < l
 ·have htt : t = false := by
   rw [← HT.out]
   simp [show ¬ (l ≤ 2) from by omega]
  subst htt
  have l2 : (2 : Int) < (l : Int) := by omega
  clear h2
  go_enter Tryz.func309, Tryz.ntmps309
  go_wp2
  go_ret
  exact ⟨rfl, rfl⟩
 ·have l2 : (l : Int) ≤ 2 := by omega
  have HN := Lib.hid h2
  clear h2
  go_enter Tryz.func309, Tryz.ntmps309
  go_wp2
  go_loop [10] (fun i => ∃ k : Nat, k ≤ l ∧ i = .int .i64 k ∧ (List.range k).all (fun j => validB (ids.getD j []) && (decide (j = 0) || bl (ids.getD (j - 1) []) (ids.getD j []))) = true) (fun i => l - (intOf i).toNat)
  case atStart => exact ⟨0, by omega, rfl, rfl⟩
  case round =>
   obtain ⟨k, hk, rfl, hok⟩ := hrel
   have HOK := Lib.hid hok
   clear hok
   have k0 : (0 : Int) ≤ (k : Int) := by omega
   by_cases hlt : k < l
   ·have k1 : (k : Int) < (l : Int) := by omega
    obtain ⟨ad, rfl, hcell⟩ := par_at HR.out k (by rw [HL.out]; exact hlt)
    obtain ⟨x, hx⟩ : ∃ x, ids.getD k [] = x := ⟨_, rfl⟩
    rw [hx] at hcell
    have HX := Lib.hid hx
    obtain ⟨b, hb⟩ : ∃ b, validB x = b := ⟨_, rfl⟩
    have HB := Lib.hid hb
    clear hx hb
    cases b with
    | false =>
     have htt : t = false := by
      rw [← HT.out, all_bad hlt (by rw [HX.out, HB.out]; rfl)]
      simp
     subst htt
     go_wp2_with fail
     refine (valid_all x _).mono ?_
     rw [HB.out]
     rintro e w' ⟨rfl, rfl⟩
     go_wp2
     go_ret
     exact ⟨rfl, rfl⟩
    | true =>
     rcases Nat.eq_zero_or_pos k with h0 | h0
     ·have HO := Lib.hid (all_next HOK.out (show (validB (ids.getD k []) && (decide (k = 0) || bl (ids.getD (k - 1) []) (ids.getD k []))) = true from by rw [HX.out, HB.out]; simp [h0]))
      have kz : (k : Int) ≤ 0 := by omega
      clear h0
      go_wp2_with fail
      refine (valid_all x _).mono ?_
      rw [HB.out]
      rintro e w' ⟨rfl, rfl⟩
      go_wp2
      go_round
      case rel => exact ⟨k + 1, by omega, by go_num, HO.out⟩
      case measure => simp [intOf]; omega
     ·obtain ⟨j, hj⟩ : ∃ j, k = j + 1 := ⟨k - 1, by omega⟩
      have hkj : (k : Int) - 1 = (j : Int) := by omega
      have hwj : IntKind.i64.wrap ((k : Int) - 1) = (j : Int) := by rw [IntKind.wrap_i64]; omega
      have kp : (0 : Int) < (k : Int) := by omega
      obtain ⟨ad', had, hcell'⟩ := par_at HR.out j (by rw [HL.out]; omega)
      injection had with had
      subst had
      obtain ⟨y, hy⟩ : ∃ y, ids.getD j [] = y := ⟨_, rfl⟩
      rw [hy] at hcell'
      obtain ⟨r, hr⟩ : ∃ r, Op.bytesLess (str y).toList (str x).toList = r := ⟨_, rfl⟩
      have hr' : bl y x = r := by rw [str_toList, str_toList] at hr; exact hr
      have j0 : (0 : Int) ≤ (j : Int) := by omega
      have j1 : (j : Int) < (l : Int) := by omega
      have HY := Lib.hid hy
      have HJ := Lib.hid hj
      have HRR := Lib.hid hr'
      clear hy hr' hj
      have hf : (validB (ids.getD k []) && (decide (k = 0) || bl (ids.getD (k - 1) []) (ids.getD k []))) = r := by
       rw [HX.out, HB.out, show k - 1 = j from by have := HJ.out; omega, HY.out, HRR.out]
       simp [show k ≠ 0 from by omega]
      have HF := Lib.hid hf
      clear hf h0
      cases r with
      | false =>
       have htt : t = false := by
        rw [← HT.out, all_bad hlt HF.out]
        simp
       subst htt
       go_wp2_with fail
       refine (valid_all x _).mono ?_
       rw [HB.out]
       rintro e w' ⟨rfl, rfl⟩
       go_wp2
       go_ret
       exact ⟨rfl, rfl⟩
      | true =>
       have HO := Lib.hid (all_next HOK.out HF.out)
       go_wp2_with fail
       refine (valid_all x _).mono ?_
       rw [HB.out]
       rintro e w' ⟨rfl, rfl⟩
       go_wp2
       go_round
       case rel => exact ⟨k + 1, by omega, by go_num, HO.out⟩
       case measure => simp [intOf]; omega
   ·obtain rfl : k = l := by omega
    have htt : t = true := by
     rw [← HT.out, HOK.out]
     simp
     omega
    subst htt
    go_wp2
    go_ret
    exact ⟨rfl, rfl⟩
end Go.Proofs.YtpfjlhpahmhkhaaGreat.Ob
