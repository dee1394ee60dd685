/- Texts put together: UShR2, URo1, URo2. -/
import Derived.Test.YtbenkmihkbjgeaaGreatQu33
import Derived.Test.YtbenkmihkbjgeaaGreatQu23
import Derived.Test.YtbenkmihkbjgeaaGreatQu03
import Derived.Test.YtbenkmihkbjgeaaGreatQu34
import Derived.Deep.RegionHeld3
/- The reference: Unhex, Valid. -/
namespace Go.Proofs.YtbenkmihkbjgeaaGreat.Sh
open Go.RowKit
def dgi (c : UInt8) : Int := match dv c with | some v => bi v | none => -1
set_option maxHeartbeats 400000 in
theorem digit_any (c : UInt8) (w : World) : Calls Tryz.prog 184 #[.int .u8 (bi c)] w fun e w' => e = .returned (.int .i64 (dgi c)) ∧ w = w' := by
 have hb := bi_lt c
 rcases dv_cases c with ⟨h1, h2⟩ | ⟨h1, h1', h2⟩ | ⟨h1, h1', h2⟩ | ⟨h1, h1', h2⟩ | ⟨h1, h2⟩
 ·have hd : dgi c = -1 := by unfold dgi; rw [h2]
  rw [hd]
  clear hd h2
  generalize bi c = x at *
  go_enter Tryz.func184, Tryz.ntmps184
  go_wp2
  go_ret
  exact ⟨rfl, rfl⟩
 ·have hd : dgi c = bi c - 48 := by unfold dgi; rw [h2]; exact bi_sub (bi c - 48) (by omega) (by omega)
  rw [hd]
  clear hd h2
  generalize bi c = x at *
  go_enter Tryz.func184, Tryz.ntmps184
  go_wp2
  go_ret
  exact ⟨rfl, rfl⟩
 ·have hd : dgi c = -1 := by unfold dgi; rw [h2]
  rw [hd]
  clear hd h2
  generalize bi c = x at *
  go_enter Tryz.func184, Tryz.ntmps184
  go_wp2
  go_ret
  exact ⟨rfl, rfl⟩
 ·have hd : dgi c = bi c - 87 := by unfold dgi; rw [h2]; exact bi_sub (bi c - 87) (by omega) (by omega)
  rw [hd]
  clear hd h2
  generalize bi c = x at *
  have e1 : x - 97 + 10 = x - 87 := by omega
  go_enter Tryz.func184, Tryz.ntmps184
  go_wp2
  go_ret
  exact ⟨by rw [← e1]; rfl, rfl⟩
 ·have hd : dgi c = -1 := by unfold dgi; rw [h2]
  rw [hd]
  clear hd h2
  generalize bi c = x at *
  go_enter Tryz.func184, Tryz.ntmps184
  go_wp2
  go_ret
  exact ⟨rfl, rfl⟩
theorem dgi_some {c v : UInt8} (h : dv c = some v) : dgi c = bi v := by unfold dgi; rw [h]
theorem dgi_none {c : UInt8} (h : dv c = none) : dgi c = -1 := by unfold dgi; rw [h]
theorem bi_un2 {x1 x2 v1 v2 : UInt8} (h1 : dv x1 = some v1) (h2 : dv x2 = some v2) : IntKind.u8.wrap (16 * bi v1 + bi v2) = bi (un2 x1 x2) := by
 have l1 := dv_lt _ _ h1
 have l2 := dv_lt _ _ h2
 unfold un2
 rw [dvv_of h1, dvv_of h2, ← byte_of]
 congr 1
 unfold bi
 omega
theorem bi_16 {x v : UInt8} (h : dv x = some v) : 0 ≤ bi v ∧ bi v < 16 := by
 have := dv_lt _ _ h
 unfold bi
 omega
def RUPost (w : World) (cs : List UInt8) (e : Ending) (w' : World) : Prop :=
 ((hexOk cs = true ∧ ∃ v, e = .returned (.tuple #[v, .bool true]) ∧ Own w' w.heap.size v (unhexL cs)) ∨ (hexOk cs = false ∧ e = .returned (.tuple #[.slice none 0 0, .bool false]))) ∧ Below w.heap.size w w'
theorem hexOk_not {cs : List UInt8} {k : Nat} (hk : k < cs.length) {x : UInt8} (hx : cs.getD k 0 = x) (h : dv x = none) : hexOk cs = false := by
 cases hh : hexOk cs with
 | false => rfl
 | true =>
  obtain ⟨v, hv⟩ := hexOk_at hh k hk
  rw [hx, h] at hv
  cases hv
set_option maxRecDepth 100000 in
set_option maxHeartbeats 800000 in
theorem runhex_any (cs : List UInt8) (w : World) (hl : cs.length ≤ 140737488351232) : Calls Tryz.prog 144 #[.string (str cs)] w (RUPost w cs) := by
 have hsz := str_size cs
 obtain ⟨l, hL⟩ : ∃ l, cs.length = l := ⟨_, rfl⟩
 rw [hL] at hsz hl
 have HL := Lib.hid hL
 clear hL
 by_cases hev : l % 2 = 0
 ·obtain ⟨m, rfl⟩ : ∃ m, l = 2 * m := ⟨l / 2, by omega⟩
  have e1 : ((2 * m : Nat) : Int) % 2 = 0 := by omega
  have e2 : ((2 * m : Nat) : Int).tmod 2 = 0 := by rw [Int.tmod_eq_emod_of_nonneg (by omega)]; omega
  have e3 : (2 * (m : Int)) % 2 = 0 := by omega
  have e4 : (2 * (m : Int)).tmod 2 = 0 := by rw [Int.tmod_eq_emod_of_nonneg (by omega)]; omega
  have HEV := Lib.hid hev
  clear hev
  go_enter Tryz.func144, Tryz.ntmps144
  go_wp2_with fail
  clear e1 e2 e3 e4
  go_loopw [4, 5] (fun v i wr => ∃ k : Nat, k ≤ m ∧ i = .int .i64 (2 * (k : Int)) ∧ (∀ j, j < 2 * k → ∃ v, dv (cs.getD j 0) = some v) ∧ Own wr w.heap.size v (unhexN cs k) ∧ Below w.heap.size w wr) (fun _ i _ => 2 * m - (intOf i).toNat)
  case atStart => exact ⟨0, by omega, rfl, fun j hj => by omega, Own.nil_ _ _, Below.refl _ _⟩
  case round =>
   obtain ⟨k, hk, rfl, hall, ho, hbw⟩ := hrel
   have HALL := Lib.hid hall
   have HO := Lib.hid ho
   have HBW := Lib.hid hbw
   have hwz := hbw.size
   clear hall ho hbw
   by_cases hlt : k < m
   ·have hidx1 : ∀ w : World, (Instr.index 9 (.string (str cs)) (.int .i64 (2 * (k : Int)))).run Tryz.prog w = .ok (.int .u8 (bi (cs.getD (2 * k) 0))) w := index_str cs (2 * k) (by rw [HL.out]; omega)
    have hidx2 : ∀ w : World, (Instr.index 9 (.string (str cs)) (.int .i64 (2 * (k : Int) + 1))).run Tryz.prog w = .ok (.int .u8 (bi (cs.getD (2 * k + 1) 0))) w := index_str cs (2 * k + 1) (by rw [HL.out]; omega)
    have hnx := Lib.hid (unhexN_next cs k)
    obtain ⟨x1, hx1⟩ : ∃ x, cs.getD (2 * k) 0 = x := ⟨_, rfl⟩
    obtain ⟨x2, hx2⟩ : ∃ x, cs.getD (2 * k + 1) 0 = x := ⟨_, rfl⟩
    rw [hx1] at hidx1 hnx
    rw [hx2] at hidx2 hnx
    have HX1 := Lib.hid hx1
    have HX2 := Lib.hid hx2
    clear hx1 hx2
    have q1 : IntKind.i64.wrap (2 * (k : Int) + 1) = 2 * (k : Int) + 1 := IntWalk.i64_in _ (by omega)
    go_wp2_with fail
    go_quiet ((go_at_call 184; first | exact Calls.quiet_of_same ((digit_any _ _).mono fun _ _ h => ⟨h.1, h.2.symm⟩) | exact quiet_add_left (digit_any _ _) | exact quiet_left (digit_any _ _)))
    clear hidx1 hidx2 q1
    cases hv1 : dv x1 with
    | none =>
     have g1 := dgi_none hv1
     have HN := Lib.hid (hexOk_not (by rw [HL.out]; omega) HX1.out hv1)
     clear hv1
     go_wp2_with fail
     go_ret2
     exact ⟨.inr ⟨HN.out, rfl⟩, below_drewN HBW.out _⟩
    | some v1 =>
     have g1 := dgi_some hv1
     have l1 := bi_16 hv1
     have HV1 := Lib.hid hv1
     clear hv1
     cases hv2 : dv x2 with
     | none =>
      have g2 := dgi_none hv2
      have HN := Lib.hid (hexOk_not (by rw [HL.out]; omega) HX2.out hv2)
      clear hv2
      go_wp2_with fail
      go_ret2
      exact ⟨.inr ⟨HN.out, rfl⟩, below_drewN HBW.out _⟩
     | some v2 =>
      have g2 := dgi_some hv2
      have l2 := bi_16 hv2
      have HV2 := Lib.hid hv2
      have w1 : IntKind.i64.wrap (16 * bi v1) = 16 * bi v1 := IntWalk.i64_in _ (by omega)
      have w2 : IntKind.i64.wrap (16 * bi v1 + bi v2) = 16 * bi v1 + bi v2 := IntWalk.i64_in _ (by omega)
      have hor := bi_un2 HV1.out HV2.out
      have hlen : (unhexN cs k).length + 1 ≤ 140737488355328 := by rw [unhexN_length]; omega
      clear hv2
      go_wp2_with (at_builtin; refine append_byte rfl (.tmp 33) (.tmp 39) rfl _ w.heap.size u4 (unhexN cs k) rfl (by exact HO.out) _ (un2 x1 x2) rfl rfl hlen (by exact hwz) ?_; intro v3 w3 ho3 hb3; have HO3 := Lib.hid ho3; have HB3 := Lib.hid hb3; clear ho3 hb3)
      refine ⟨⟨k + 1, by omega, by congr 1, ?_, ?_, (below_drewN HBW.out _).trans HB3.out⟩, ?_⟩
      ·intro j hj
       by_cases e1 : j = 2 * k
       ·rw [e1, HX1.out]; exact ⟨v1, HV1.out⟩
       by_cases e2 : j = 2 * k + 1
       ·rw [e2, HX2.out]; exact ⟨v2, HV2.out⟩
       exact HALL.out j (by omega)
      ·rw [hnx.out]; exact HO3.out
      ·simp [intOf]; omega
   ·obtain rfl : k = m := by omega
    have ho' : Own wr w.heap.size u4 (unhexL cs) := by
     unfold unhexL
     rw [HL.out, show 2 * k / 2 = k from by omega]
     exact HO.out
    have HO' := Lib.hid ho'
    clear ho'
    go_wp2
    go_ret2
    refine ⟨.inl ⟨hexOk_of (by rw [HL.out]; omega) (by rw [HL.out]; exact HALL.out), u4, rfl, HO'.out⟩, HBW.out⟩
 ·have e1 : ((l : Int) % 2 != 0) = true := by rw [bne_iff_ne]; omega
  have e2 : ((l : Int) % 2 == 0) = false := beq_eq_false_iff_ne.2 (by omega)
  have e3 : ((l : Int).tmod 2 != 0) = true := by rw [bne_iff_ne, Int.tmod_eq_emod_of_nonneg (by omega)]; omega
  have HEV := Lib.hid hev
  clear hev
  go_enter Tryz.func144, Tryz.ntmps144
  go_wp2
  go_ret2
  refine ⟨.inr ⟨?_, rfl⟩, Below.refl _ _⟩
  cases hh : hexOk cs with
  | false => rfl
  | true => exact absurd (by have := hexOk_even hh; rw [HL.out] at this; exact this) HEV.out
theorem runhex_yes (cs : List UInt8) (w : World) (h : hexOk cs = true) (hl : cs.length ≤ 140737488351232) : Calls Tryz.prog 144 #[.string (str cs)] w (UnPost w (unhexL cs)) :=
 (runhex_any cs w hl).mono fun e w' ⟨h1, h2⟩ => by
  rcases h1 with ⟨_, v, he, ho⟩ | ⟨h1, _⟩
  ·exact ⟨v, he, ho, h2⟩
  ·rw [h] at h1; cases h1
theorem runhex_no (cs : List UInt8) (w : World) (h : hexOk cs = false) (hl : cs.length ≤ 140737488351232) : Calls Tryz.prog 144 #[.string (str cs)] w fun e w' => e = .returned (.tuple #[.slice none 0 0, .bool false]) ∧ Below w.heap.size w w' :=
 (runhex_any cs w hl).mono fun e w' ⟨h1, h2⟩ => by
  rcases h1 with ⟨h1, _⟩ | ⟨_, he⟩
  ·rw [h] at h1; cases h1
  ·exact ⟨he, h2⟩
set_option maxHeartbeats 400000 in
theorem rvalid_any (cs : List UInt8) (t : Bool) (ht : (cs.length == 64 && hexOk cs) = t) (w : World) (hl : cs.length ≤ 140737488351232) : Calls Tryz.prog 94 #[.string (str cs)] w fun e w' => e = .returned (.bool t) ∧ Below w.heap.size w w' := by
 cases hx : hexOk cs with
 | false =>
  rw [hx, Bool.and_false] at ht
  subst ht
  have HX := Lib.hid hx
  clear hx
  go_enter Tryz.func94, Tryz.ntmps94
  go_wp2_with fail
  refine (runhex_no cs _ HX.out hl).mono ?_
  rintro e w' ⟨rfl, hb⟩
  have HB := Lib.hid hb
  clear hb
  go_wp2_with fail
  go_ret
  exact ⟨rfl, HB.out⟩
 | true =>
  rw [hx, Bool.and_true] at ht
  have HX := Lib.hid hx
  have hev := hexOk_even hx
  obtain ⟨m, hm⟩ : ∃ m, cs.length = 2 * m := ⟨cs.length / 2, by omega⟩
  have ht2 : ((m : Int) == 32) = t := by
   rw [← ht, Bool.eq_iff_iff, beq_iff_eq, beq_iff_eq, hm]
   omega
  have HM := Lib.hid hm
  clear hx hev ht hm
  go_enter Tryz.func94, Tryz.ntmps94
  go_wp2_with fail
  refine (runhex_yes cs _ HX.out hl).mono ?_
  rintro e w' ⟨v, rfl, ho, hb⟩
  obtain ⟨A, c, hv, _⟩ := ho.sl
  rw [unhexL_length, HM.out, show 2 * m / 2 = m from by omega] at hv
  subst hv
  have HB := Lib.hid hb
  clear hb ho
  go_wp2_with fail
  go_ret
  exact ⟨rfl, HB.out⟩
end Go.Proofs.YtbenkmihkbjgeaaGreat.Sh
/- The document's Name, of a text of any length. -/
namespace Go.Proofs.YtbenkmihkbjgeaaGreat.Tx
open Go.RowKit Go.Proofs.YtbenkmihkbjgeaaGreat.Sh
end Go.Proofs.YtbenkmihkbjgeaaGreat.Tx
/- The document's Valid, valid, Rises, Msg. -/
namespace Go.Proofs.YtbenkmihkbjgeaaGreat.Ob
open Go.RowKit Go.Proofs.YtbenkmihkbjgeaaGreat.Sh
open Go.Proofs.YtbenkmihkbjgeaaGreat.Tx (OwnV SlV sv bl nameB reads_at texts_at toList_ne')
theorem rvalid_all (cs : List UInt8) (w : World) (hl : cs.length ≤ 140737488351232) : Calls Tryz.prog 94 #[.string (str cs)] w (BoolPost w (validB cs)) := rvalid_any cs (validB cs) rfl w hl
def validsB (ids : List (List UInt8)) : Bool := (List.range ids.length).all fun j => validB (ids.getD j [])
def risesB (ids : List (List UInt8)) : Bool := (List.range (ids.length - 1)).all fun j => bl (ids.getD j []) (ids.getD (j + 1) [])
theorem leq_not (x y : List UInt8) : (bl x y || x == y) = !bl y x := by
 rcases Tx.bl_tri x y with h | h | h
 ·rw [h, Tx.bl_asymm x y h]; rfl
 ·subst h; rw [Tx.bl_irr]; simp
 ·rw [h, Tx.bl_asymm y x h]
  have : x ≠ y := fun e => by rw [e, Tx.bl_irr] at h; cases h
  simp [this]
end Go.Proofs.YtbenkmihkbjgeaaGreat.Ob
