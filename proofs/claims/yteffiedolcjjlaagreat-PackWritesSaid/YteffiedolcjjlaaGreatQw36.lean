/- Texts put together: YShR2, YRo1, YRo2. -/
import Derived.Test.YteffiedolcjjlaaGreatQw11
import Derived.Test.YteffiedolcjjlaaGreatQw12
import Derived.Test.YteffiedolcjjlaaGreatQw14
import Derived.Deep.RegionHeld3
/- The reference: Unhex, Valid. -/
namespace Go.Proofs.YteffiedolcjjlaaGreat.Sh
open Go.RowKit

/-- A digit's number, -1: it is none. -/
def dgi (c : UInt8) : Int := match dv c with | some v => bi v | none => -1
set_option maxHeartbeats 400000 in
theorem digit_any (c : UInt8) (w : World) : Calls Tryz.prog 189 #[.int .u8 (bi c)] w fun e w' => e = .returned (.int .i64 (dgi c)) ∧ w = w' := by
  have hb := bi_lt c
  rcases dv_cases c with ⟨h1, h2⟩ | ⟨h1, h1', h2⟩ | ⟨h1, h1', h2⟩ | ⟨h1, h1', h2⟩ | ⟨h1, h2⟩
  · have hd : dgi c = -1 := by unfold dgi; rw [h2]
    rw [hd]
    clear hd h2
    generalize bi c = x at *
    go_enter Tryz.func189, Tryz.ntmps189
    go_wp2
    go_ret
    exact ⟨rfl, rfl⟩
  · have hd : dgi c = bi c - 48 := by unfold dgi; rw [h2]; exact bi_sub (bi c - 48) (by omega) (by omega)
    rw [hd]
    clear hd h2
    generalize bi c = x at *
    go_enter Tryz.func189, Tryz.ntmps189
    go_wp2
    go_ret
    exact ⟨rfl, rfl⟩
  · have hd : dgi c = -1 := by unfold dgi; rw [h2]
    rw [hd]
    clear hd h2
    generalize bi c = x at *
    go_enter Tryz.func189, Tryz.ntmps189
    go_wp2
    go_ret
    exact ⟨rfl, rfl⟩
  · have hd : dgi c = bi c - 87 := by unfold dgi; rw [h2]; exact bi_sub (bi c - 87) (by omega) (by omega)
    rw [hd]
    clear hd h2
    generalize bi c = x at *
    have e1 : x - 97 + 10 = x - 87 := by omega
    go_enter Tryz.func189, Tryz.ntmps189
    go_wp2
    go_ret
    exact ⟨by rw [← e1]; rfl, rfl⟩
  · have hd : dgi c = -1 := by unfold dgi; rw [h2]
    rw [hd]
    clear hd h2
    generalize bi c = x at *
    go_enter Tryz.func189, Tryz.ntmps189
    go_wp2
    go_ret
    exact ⟨rfl, rfl⟩

theorem dgi_some {c v : UInt8} (h : dv c = some v) : dgi c = bi v := by unfold dgi; rw [h]
theorem dgi_none {c : UInt8} (h : dv c = none) : dgi c = -1 := by unfold dgi; rw [h]
theorem bi_un2 {x1 x2 v1 v2 : UInt8} (h1 : dv x1 = some v1) (h2 : dv x2 = some v2) : IntKind.u8.wrap (16 * bi v1 + bi v2) = bi (un2 x1 x2) := by
  have l1 := dv_lt _ _ h1
  have l2 := dv_lt _ _ h2
  unfold un2
  rw [dvv_of h1, dvv_of h2, ← byte_of]
  congr 1
  unfold bi
  omega
theorem bi_16 {x v : UInt8} (h : dv x = some v) : 0 ≤ bi v ∧ bi v < 16 := by
  have := dv_lt _ _ h
  unfold bi
  omega

def RUPost (w : World) (cs : List UInt8) (e : Ending) (w' : World) : Prop :=
  ((hexOk cs = true ∧ ∃ v, e = .returned (.tuple #[v, .bool true]) ∧ Own w' w.heap.size v (unhexL cs)) ∨ (hexOk cs = false ∧ e = .returned (.tuple #[.slice none 0 0, .bool false]))) ∧ Below w.heap.size w w'
theorem hexOk_not {cs : List UInt8} {k : Nat} (hk : k < cs.length) {x : UInt8} (hx : cs.getD k 0 = x) (h : dv x = none) : hexOk cs = false := by
  cases hh : hexOk cs with
  | false => rfl
  | true =>
    obtain ⟨v, hv⟩ := hexOk_at hh k hk
    rw [hx, h] at hv
    cases hv

set_option maxRecDepth 100000 in
set_option maxHeartbeats 800000 in
theorem runhex_any (cs : List UInt8) (w : World) (hl : cs.length ≤ 140737488351232) : Calls Tryz.prog 152 #[.string (str cs)] w (RUPost w cs) := by
  have hsz := str_size cs
  obtain ⟨l, hL⟩ : ∃ l, cs.length = l := ⟨_, rfl⟩
  rw [hL] at hsz hl
  have HL := Lib.hid hL
  clear hL
  by_cases hev : l % 2 = 0
  · obtain ⟨m, rfl⟩ : ∃ m, l = 2 * m := ⟨l / 2, by omega⟩
    have e1 : ((2 * m : Nat) : Int) % 2 = 0 := by omega
    have e2 : ((2 * m : Nat) : Int).tmod 2 = 0 := by rw [Int.tmod_eq_emod_of_nonneg (by omega)]; omega
    have e3 : (2 * (m : Int)) % 2 = 0 := by omega
    have e4 : (2 * (m : Int)).tmod 2 = 0 := by rw [Int.tmod_eq_emod_of_nonneg (by omega)]; omega
    have HEV := Lib.hid hev
    clear hev
    go_enter Tryz.func152, Tryz.ntmps152
    go_wp2_with fail
    clear e1 e2 e3 e4
    go_loopw [4, 5] (fun v i wr => ∃ k : Nat, k ≤ m ∧ i = .int .i64 (2 * (k : Int)) ∧ (∀ j, j < 2 * k → ∃ v, dv (cs.getD j 0) = some v) ∧ Own wr w.heap.size v (unhexN cs k) ∧ Below w.heap.size w wr) (fun _ i _ => 2 * m - (intOf i).toNat)
    case atStart => exact ⟨0, by omega, rfl, fun j hj => by omega, Own.nil_ _ _, Below.refl _ _⟩
    case round =>
      obtain ⟨k, hk, rfl, hall, ho, hbw⟩ := hrel
      have HALL := Lib.hid hall
      have HO := Lib.hid ho
      have HBW := Lib.hid hbw
      have hwz := hbw.size
      clear hall ho hbw
      by_cases hlt : k < m
      · have hidx1 : ∀ w : World, (Instr.index 9 (.string (str cs)) (.int .i64 (2 * (k : Int)))).run Tryz.prog w = .ok (.int .u8 (bi (cs.getD (2 * k) 0))) w := index_str cs (2 * k) (by rw [HL.out]; omega)
        have hidx2 : ∀ w : World, (Instr.index 9 (.string (str cs)) (.int .i64 (2 * (k : Int) + 1))).run Tryz.prog w = .ok (.int .u8 (bi (cs.getD (2 * k + 1) 0))) w := index_str cs (2 * k + 1) (by rw [HL.out]; omega)
        have hnx := Lib.hid (unhexN_next cs k)
        obtain ⟨x1, hx1⟩ : ∃ x, cs.getD (2 * k) 0 = x := ⟨_, rfl⟩
        obtain ⟨x2, hx2⟩ : ∃ x, cs.getD (2 * k + 1) 0 = x := ⟨_, rfl⟩
        rw [hx1] at hidx1 hnx
        rw [hx2] at hidx2 hnx
        have HX1 := Lib.hid hx1
        have HX2 := Lib.hid hx2
        clear hx1 hx2
        have q1 : IntKind.i64.wrap (2 * (k : Int) + 1) = 2 * (k : Int) + 1 := IntWalk.i64_in _ (by omega)
        go_wp2_with fail
        go_quiet ((go_at_call 189; first | exact Calls.quiet_of_same ((digit_any _ _).mono fun _ _ h => ⟨h.1, h.2.symm⟩) | exact quiet_add_left (digit_any _ _) | exact quiet_left (digit_any _ _)))
        clear hidx1 hidx2 q1
        cases hv1 : dv x1 with
        | none =>
          have g1 := dgi_none hv1
          have HN := Lib.hid (hexOk_not (by rw [HL.out]; omega) HX1.out hv1)
          clear hv1
          go_wp2_with fail
          go_ret2
          exact ⟨.inr ⟨HN.out, rfl⟩, below_drewN HBW.out _⟩
        | some v1 =>
          have g1 := dgi_some hv1
          have l1 := bi_16 hv1
          have HV1 := Lib.hid hv1
          clear hv1
          cases hv2 : dv x2 with
          | none =>
            have g2 := dgi_none hv2
            have HN := Lib.hid (hexOk_not (by rw [HL.out]; omega) HX2.out hv2)
            clear hv2
            go_wp2_with fail
            go_ret2
            exact ⟨.inr ⟨HN.out, rfl⟩, below_drewN HBW.out _⟩
          | some v2 =>
            have g2 := dgi_some hv2
            have l2 := bi_16 hv2
            have HV2 := Lib.hid hv2
            have w1 : IntKind.i64.wrap (16 * bi v1) = 16 * bi v1 := IntWalk.i64_in _ (by omega)
            have w2 : IntKind.i64.wrap (16 * bi v1 + bi v2) = 16 * bi v1 + bi v2 := IntWalk.i64_in _ (by omega)
            have hor := bi_un2 HV1.out HV2.out
            have hlen : (unhexN cs k).length + 1 ≤ 140737488355328 := by rw [unhexN_length]; omega
            clear hv2
            go_wp2_with (at_builtin; refine append_byte rfl (.tmp 33) (.tmp 39) rfl _ w.heap.size u4 (unhexN cs k) rfl (by exact HO.out) _ (un2 x1 x2) rfl rfl hlen (by exact hwz) ?_; intro v3 w3 ho3 hb3; have HO3 := Lib.hid ho3; have HB3 := Lib.hid hb3; clear ho3 hb3)
            refine ⟨⟨k + 1, by omega, by congr 1, ?_, ?_, (below_drewN HBW.out _).trans HB3.out⟩, ?_⟩
            · intro j hj
              by_cases e1 : j = 2 * k
              · rw [e1, HX1.out]; exact ⟨v1, HV1.out⟩
              by_cases e2 : j = 2 * k + 1
              · rw [e2, HX2.out]; exact ⟨v2, HV2.out⟩
              exact HALL.out j (by omega)
            · rw [hnx.out]; exact HO3.out
            · simp [intOf]; omega
      · obtain rfl : k = m := by omega
        have ho' : Own wr w.heap.size u4 (unhexL cs) := by
          unfold unhexL
          rw [HL.out, show 2 * k / 2 = k from by omega]
          exact HO.out
        have HO' := Lib.hid ho'
        clear ho'
        go_wp2
        go_ret2
        refine ⟨.inl ⟨hexOk_of (by rw [HL.out]; omega) (by rw [HL.out]; exact HALL.out), u4, rfl, HO'.out⟩, HBW.out⟩
  · have e1 : ((l : Int) % 2 != 0) = true := by rw [bne_iff_ne]; omega
    have e2 : ((l : Int) % 2 == 0) = false := beq_eq_false_iff_ne.2 (by omega)
    have e3 : ((l : Int).tmod 2 != 0) = true := by rw [bne_iff_ne, Int.tmod_eq_emod_of_nonneg (by omega)]; omega
    have HEV := Lib.hid hev
    clear hev
    go_enter Tryz.func152, Tryz.ntmps152
    go_wp2
    go_ret2
    refine ⟨.inr ⟨?_, rfl⟩, Below.refl _ _⟩
    cases hh : hexOk cs with
    | false => rfl
    | true => exact absurd (by have := hexOk_even hh; rw [HL.out] at this; exact this) HEV.out
theorem runhex_yes (cs : List UInt8) (w : World) (h : hexOk cs = true) (hl : cs.length ≤ 140737488351232) : Calls Tryz.prog 152 #[.string (str cs)] w (UnPost w (unhexL cs)) :=
  (runhex_any cs w hl).mono fun e w' ⟨h1, h2⟩ => by
    rcases h1 with ⟨_, v, he, ho⟩ | ⟨h1, _⟩
    · exact ⟨v, he, ho, h2⟩
    · rw [h] at h1; cases h1
theorem runhex_no (cs : List UInt8) (w : World) (h : hexOk cs = false) (hl : cs.length ≤ 140737488351232) : Calls Tryz.prog 152 #[.string (str cs)] w fun e w' => e = .returned (.tuple #[.slice none 0 0, .bool false]) ∧ Below w.heap.size w w' :=
  (runhex_any cs w hl).mono fun e w' ⟨h1, h2⟩ => by
    rcases h1 with ⟨h1, _⟩ | ⟨_, he⟩
    · rw [h] at h1; cases h1
    · exact ⟨he, h2⟩

set_option maxHeartbeats 400000 in
theorem rvalid_any (cs : List UInt8) (t : Bool) (ht : (cs.length == 64 && hexOk cs) = t) (w : World) (hl : cs.length ≤ 140737488351232) : Calls Tryz.prog 111 #[.string (str cs)] w fun e w' => e = .returned (.bool t) ∧ Below w.heap.size w w' := by
  cases hx : hexOk cs with
  | false =>
    rw [hx, Bool.and_false] at ht
    subst ht
    have HX := Lib.hid hx
    clear hx
    go_enter Tryz.func111, Tryz.ntmps111
    go_wp2_with fail
    refine (runhex_no cs _ HX.out hl).mono ?_
    rintro e w' ⟨rfl, hb⟩
    have HB := Lib.hid hb
    clear hb
    go_wp2_with fail
    go_ret
    exact ⟨rfl, HB.out⟩
  | true =>
    rw [hx, Bool.and_true] at ht
    have HX := Lib.hid hx
    have hev := hexOk_even hx
    obtain ⟨m, hm⟩ : ∃ m, cs.length = 2 * m := ⟨cs.length / 2, by omega⟩
    have ht2 : ((m : Int) == 32) = t := by
      rw [← ht, Bool.eq_iff_iff, beq_iff_eq, beq_iff_eq, hm]
      omega
    have HM := Lib.hid hm
    clear hx hev ht hm
    go_enter Tryz.func111, Tryz.ntmps111
    go_wp2_with fail
    refine (runhex_yes cs _ HX.out hl).mono ?_
    rintro e w' ⟨v, rfl, ho, hb⟩
    obtain ⟨A, c, hv, _⟩ := ho.sl
    rw [unhexL_length, HM.out, show 2 * m / 2 = m from by omega] at hv
    subst hv
    have HB := Lib.hid hb
    clear hb ho
    go_wp2_with fail
    go_ret
    exact ⟨rfl, HB.out⟩
end Go.Proofs.YteffiedolcjjlaaGreat.Sh
/- The document's Name, of a text of any length. -/
namespace Go.Proofs.YteffiedolcjjlaaGreat.Tx
open Go.RowKit Go.Proofs.YteffiedolcjjlaaGreat.Sh

set_option maxRecDepth 100000 in
set_option maxHeartbeats 1600000 in
theorem rname_all (cs : List UInt8) (w : World) : Calls Tryz.prog 193 #[.string (str cs)] w fun e w' => e = .returned (.bool (nameB cs)) ∧ w = w' := by
  have hsz := str_size cs
  have htl := str_toList cs
  obtain ⟨l, hL⟩ : ∃ l, cs.length = l := ⟨_, rfl⟩
  rw [hL] at hsz
  have HL := Lib.hid hL
  have n0 : (0 : Int) ≤ (l : Int) := by omega
  clear hL
  by_cases h1 : l < 1
  · have HR : Hid (nameB cs = false) := by
      unfold Hid
      rw [nameB_eq, HL.out]
      simp [show ¬ (1 ≤ l) from by omega]
    obtain rfl : l = 0 := by omega
    clear htl h1 n0
    go_enter Tryz.func193, Tryz.ntmps193
    go_wp2
    go_ret
    exact ⟨by rw [HR.out]; rfl, rfl⟩
  · by_cases h2 : 64 < l
    · have HR : Hid (nameB cs = false) := by
        unfold Hid
        rw [nameB_eq, HL.out]
        simp [show ¬ (l ≤ 64) from by omega]
      have z1 : (1 : Int) ≤ (l : Int) := by omega
      have z2 : (64 : Int) < (l : Int) := by omega
      clear htl
      go_enter Tryz.func193, Tryz.ntmps193
      go_wp2
      go_ret
      exact ⟨by rw [HR.out]; rfl, rfl⟩
    · have z1 : (1 : Int) ≤ (l : Int) := by omega
      have z2 : (l : Int) ≤ 64 := by omega
      by_cases h3 : cs = [46]
      · have HR : Hid (nameB cs = false) := by subst h3; rfl
        have e1 : ((str cs).toList == [46]) = true := by rw [htl, h3]; rfl
        clear htl h3
        go_enter Tryz.func193, Tryz.ntmps193
        go_wp2
        go_ret
        exact ⟨by rw [HR.out]; rfl, rfl⟩
      · have e1 : ((str cs).toList == [46]) = false := by rw [htl]; exact list_other h3
        by_cases h4 : cs = [46, 46]
        · have HR : Hid (nameB cs = false) := by subst h4; rfl
          have e2 : ((str cs).toList == [46, 46]) = true := by rw [htl, h4]; rfl
          clear htl h3 h4
          go_enter Tryz.func193, Tryz.ntmps193
          go_wp2
          go_ret
          exact ⟨by rw [HR.out]; rfl, rfl⟩
        · have e2 : ((str cs).toList == [46, 46]) = false := by rw [htl]; exact list_other h4
          have H3 := Lib.hid h3
          have H4 := Lib.hid h4
          clear htl h3 h4
          go_enter Tryz.func193, Tryz.ntmps193
          go_wp2
          clear e1 e2
          go_loop [3] (fun i => ∃ k : Nat, k ≤ l ∧ i = .int .i64 k ∧ ∀ (j : Nat) (c : UInt8), j < k → cs[j]? = some c → okc c = true) (fun i => l - (intOf i).toNat)
          case atStart => exact ⟨0, by omega, rfl, fun j c hj => by omega⟩
          case round =>
            obtain ⟨k, hk, rfl, hok⟩ := hrel
            have HOK := Lib.hid hok
            clear hok
            have k0 : (0 : Int) ≤ (k : Int) := by omega
            by_cases hlt : k < l
            · have k1 : (k : Int) < (l : Int) := by omega
              have hkc : k < cs.length := by rw [HL.out]; exact hlt
              have hix := index_str cs k hkc
              obtain ⟨x, hx⟩ : ∃ x, cs.getD k 0 = x := ⟨_, rfl⟩
              have hx' : cs[k]? = some x := by rw [← hx, List.getD_eq_getElem?_getD, List.getElem?_eq_getElem hkc]; rfl
              rw [hx] at hix
              have HX := Lib.hid hx'
              clear hx hx' hkc
              rcases okc_cases x with ⟨ho, c1⟩ | ⟨ho, c1, c2⟩ | ⟨ho, c1, c2, c3⟩ | ⟨ho, c1, c2, c3⟩
              · have HR : Hid (nameB cs = false) := nameB_bad HX.out ho
                clear ho
                generalize bi x = y at *
                go_wp2
                go_ret
                exact ⟨by rw [HR.out]; rfl, rfl⟩
              · have HR : Hid (nameB cs = false) := nameB_bad HX.out ho
                clear ho
                generalize bi x = y at *
                go_wp2
                go_ret
                exact ⟨by rw [HR.out]; rfl, rfl⟩
              · have HR : Hid (nameB cs = false) := nameB_bad HX.out ho
                have hy : bi x = 47 := by subst c3; unfold bi; rfl
                rw [hy] at hix c1 c2
                clear ho c3 hy
                go_wp2
                go_ret
                exact ⟨by rw [HR.out]; rfl, rfl⟩
              · have HO := Lib.hid ho
                clear ho
                generalize bi x = y at *
                go_wp2
                go_round
                case rel =>
                  refine ⟨k + 1, by omega, by go_num, fun j c hj hc => ?_⟩
                  by_cases e : j = k
                  · subst e; rw [HX.out] at hc; injection hc with hc; subst hc; exact HO.out
                  · exact HOK.out j c (by omega) hc
                case measure => simp [intOf]; omega
            · have HR : Hid (nameB cs = true) := by
                unfold Hid
                refine nameB_good (by rw [HL.out]; omega) (by rw [HL.out]; omega) (list_other H3.out) (list_other H4.out) (fun j c hc => HOK.out j c ?_ hc)
                have := (List.getElem?_eq_some_iff.1 hc).1
                rw [HL.out] at this
                omega
              obtain rfl : k = l := by omega
              go_wp2
              go_ret
              exact ⟨by rw [HR.out]; rfl, rfl⟩
end Go.Proofs.YteffiedolcjjlaaGreat.Tx
/- The document's Valid, valid, Rises, Msg. -/
namespace Go.Proofs.YteffiedolcjjlaaGreat.Ob
open Go.RowKit Go.Proofs.YteffiedolcjjlaaGreat.Sh
open Go.Proofs.YteffiedolcjjlaaGreat.Tx (OwnV SlV sv bl nameB reads_at texts_at toList_ne')

/-- 'wpAnyH_take' with the op's target told as a number, so that the frame behind it is a plain one. -/
theorem take_at {P : Program} {md : Region.Mode} {ops : Array Oper} {Q : Exit → Act → World → Prop} {S : World → Prop} {i d : Nat} {oi : Oper} {v : Value} {fuel : Nat} {listed : Array Bool} {a : Act} {w : World} (hi : ops[i]? = some oi) (hd : oi.dst = some d)
    (hs : Region.noSelect ops = true) (hf : Region.free md ops listed i = true) (hr : (Region.ready md ops listed).contains i = true)
    (hQ : ∀ c a w, Q (.panic c) (a.put (some d) v) w → Q (.panic c) a w) (hy : YieldsIf P ops S oi v a) (hS : S w)
    (h : wpAnyH P md ops Q S fuel (listed.setIfInBounds i true) (a.put (some d) v) w) : wpAnyH P md ops Q S (fuel + 1) listed a w :=
  wpAnyH_take hi hs hf hr (by rw [hd]; exact hQ) hy hS (by rw [hd]; exact h)
theorem rvalid_all (cs : List UInt8) (w : World) (hl : cs.length ≤ 140737488351232) : Calls Tryz.prog 111 #[.string (str cs)] w (BoolPost w (validB cs)) := rvalid_any cs (validB cs) rfl w hl
theorem rname_all (cs : List UInt8) (w : World) : Calls Tryz.prog 193 #[.string (str cs)] w fun e w' => e = .returned (.bool (nameB cs)) ∧ w = w' := Tx.rname_all cs w
def validsB (ids : List (List UInt8)) : Bool := (List.range ids.length).all fun j => validB (ids.getD j [])
def risesB (ids : List (List UInt8)) : Bool := (List.range (ids.length - 1)).all fun j => bl (ids.getD j []) (ids.getD (j + 1) [])
theorem leq_not (x y : List UInt8) : (bl x y || x == y) = !bl y x := by
  rcases Tx.bl_tri x y with h | h | h
  · rw [h, Tx.bl_asymm x y h]; rfl
  · subst h; rw [Tx.bl_irr]; simp
  · rw [h, Tx.bl_asymm y x h]
    have : x ≠ y := fun e => by rw [e, Tx.bl_irr] at h; cases h
    simp [this]
theorem parB_eq (ids : List (List UInt8)) : parB ids = (decide (ids.length ≤ 2) && (validsB ids && risesB ids)) := by
  unfold parB validsB risesB
  rw [Bool.eq_iff_iff]
  simp only [Bool.and_eq_true, decide_eq_true_eq, List.all_eq_true, List.mem_range, Bool.or_eq_true]
  constructor
  · rintro ⟨h1, h2⟩
    refine ⟨h1, fun j hj => (h2 j hj).1, fun j hj => ?_⟩
    have := (h2 (j + 1) (by omega)).2
    rcases this with h | h
    · omega
    · simpa using h
  · rintro ⟨h1, h2, h3⟩
    refine ⟨h1, fun j hj => ⟨h2 j hj, ?_⟩⟩
    cases j with
    | zero => exact .inl rfl
    | succ j => exact .inr (by simpa using h3 j (by omega))
set_option maxRecDepth 100000 in
set_option maxHeartbeats 800000 in
theorem rvalids_any (v : Value) (ids : List (List UInt8)) (w : World) (h : SlV w v ((ids.map str).map sv)) (hs : ∀ x ∈ ids, x.length ≤ 140737488351232) : Calls Tryz.prog 155 #[v] w (BoolPost w (validsB ids)) := by
  obtain ⟨A, c, rfl, hlc, hcm, hR⟩ := h.len
  rw [List.length_map, List.length_map] at hlc hR ⊢
  have HR := Lib.hid hR
  have HS := Lib.hid hs
  unfold maxLen at hcm
  obtain ⟨l, hL⟩ : ∃ l, ids.length = l := ⟨_, rfl⟩
  obtain ⟨t, ht⟩ : ∃ t, validsB ids = t := ⟨_, rfl⟩
  rw [ht]
  unfold validsB at ht
  rw [hL] at hlc ht ⊢
  have HL := Lib.hid hL
  have HT := Lib.hid ht
  clear hL ht h hR hs
  go_enter Tryz.func155, Tryz.ntmps155
  go_wp2
  go_loopw [3] (fun i wr => ∃ k : Nat, k ≤ l ∧ i = .int .i64 k ∧ Below w.heap.size w wr ∧ (List.range k).all (fun j => validB (ids.getD j [])) = true) (fun i _ => l - (intOf i).toNat)
  case atStart => exact ⟨0, by omega, rfl, Below.refl _ _, rfl⟩
  case round =>
    obtain ⟨k, hk, rfl, hb, hok⟩ := hrel
    have HB := Lib.hid hb
    have HOK := Lib.hid hok
    clear hb hok
    have k0 : (0 : Int) ≤ (k : Int) := by omega
    by_cases hlt : k < l
    · have k1 : (k : Int) < (l : Int) := by omega
      have hkl : k < ids.length := by rw [HL.out]; exact hlt
      obtain ⟨ad, rfl, hcell⟩ := par_at (HR.out.below HB.out) k hkl
      have hxs : (ids.getD k []).length ≤ 140737488351232 := by
        rw [List.getD_eq_getElem?_getD, List.getElem?_eq_getElem hkl]
        exact HS.out _ (List.getElem_mem hkl)
      obtain ⟨x, hx⟩ : ∃ x, ids.getD k [] = x := ⟨_, rfl⟩
      rw [hx] at hcell hxs
      have HX := Lib.hid hx
      have HXS := Lib.hid hxs
      obtain ⟨b, hbv⟩ : ∃ b, validB x = b := ⟨_, rfl⟩
      have HBV := Lib.hid hbv
      clear hx hxs hbv hkl
      cases b with
      | false =>
        have htt : t = false := by rw [← HT.out, all_bad hlt (by rw [HX.out, HBV.out])]
        subst htt
        go_wp2_with fail
        refine (rvalid_all x _ HXS.out).mono ?_
        rw [HBV.out]
        rintro e w' ⟨rfl, hb'⟩
        have HB' := Lib.hid (Below.after HB.out hb')
        clear hb' hcell
        go_wp2_with fail
        go_ret
        exact ⟨rfl, HB'.out⟩
      | true =>
        have HO := Lib.hid (all_next HOK.out (show validB (ids.getD k []) = true from by rw [HX.out, HBV.out]))
        go_wp2_with fail
        refine (rvalid_all x _ HXS.out).mono ?_
        rw [HBV.out]
        rintro e w' ⟨rfl, hb'⟩
        have HB' := Lib.hid (Below.after HB.out hb')
        clear hb' hcell
        go_wp2_with fail
        go_roundw
        case rel => exact ⟨k + 1, by omega, by go_num, HB'.out, HO.out⟩
        case measure => simp [intOf]; omega
    · obtain rfl : k = l := by omega
      have htt : t = true := by rw [← HT.out, HOK.out]
      subst htt
      go_wp2
      go_ret
      exact ⟨rfl, HB.out⟩
set_option maxRecDepth 100000 in
set_option maxHeartbeats 800000 in
theorem rrises_any (v : Value) (ids : List (List UInt8)) (w : World) (h : SlV w v ((ids.map str).map sv)) : Calls Tryz.prog 156 #[v] w (BoolPost w (risesB ids)) := by
  obtain ⟨A, c, rfl, hlc, hcm, hR⟩ := h.len
  rw [List.length_map, List.length_map] at hlc hR ⊢
  have HR := Lib.hid hR
  unfold maxLen at hcm
  obtain ⟨l, hL⟩ : ∃ l, ids.length = l := ⟨_, rfl⟩
  obtain ⟨t, ht⟩ : ∃ t, risesB ids = t := ⟨_, rfl⟩
  rw [ht]
  unfold risesB at ht
  rw [hL] at hlc ht ⊢
  have HL := Lib.hid hL
  have HT := Lib.hid ht
  clear hL ht h hR
  go_enter Tryz.func156, Tryz.ntmps156
  go_wp2
  go_loopw [3] (fun i wr => ∃ k : Nat, (k + 1 ≤ l ∨ k = 0) ∧ i = .int .i64 ((k : Int) + 1) ∧ Below w.heap.size w wr ∧ (List.range k).all (fun j => bl (ids.getD j []) (ids.getD (j + 1) [])) = true) (fun i _ => l - (intOf i).toNat)
  case atStart => exact ⟨0, .inr rfl, rfl, Below.refl _ _, rfl⟩
  case round =>
    obtain ⟨k, hk, rfl, hb, hok⟩ := hrel
    have HB := Lib.hid hb
    have HOK := Lib.hid hok
    have HK := Lib.hid hk
    clear hb hok hk
    have k0 : (0 : Int) ≤ (k : Int) := by omega
    by_cases hlt : k + 1 < l
    · obtain ⟨m, hm⟩ : ∃ m : Nat, k + 1 = m := ⟨_, rfl⟩
      have hmi : (k : Int) + 1 = (m : Int) := by omega
      rw [hmi]
      have m0 : (0 : Int) ≤ (m : Int) := by omega
      have m1 : (m : Int) < (l : Int) := by omega
      have k1 : (k : Int) < (l : Int) := by omega
      have hml : m < ids.length := by rw [HL.out]; omega
      have hkl : k < ids.length := by rw [HL.out]; omega
      obtain ⟨ad, rfl, hcell⟩ := par_at (HR.out.below HB.out) m hml
      obtain ⟨ad', had, hcell'⟩ := par_at (HR.out.below HB.out) k hkl
      injection had with had
      subst had
      obtain ⟨x, hx⟩ : ∃ x, ids.getD m [] = x := ⟨_, rfl⟩
      obtain ⟨y, hy⟩ : ∃ y, ids.getD k [] = y := ⟨_, rfl⟩
      rw [hx] at hcell
      rw [hy] at hcell'
      have hj : (m : Int) - 1 = (k : Int) := by omega
      have hw : IntKind.i64.wrap ((m : Int) - 1) = (k : Int) := by rw [IntKind.wrap_i64]; omega
      have hl2 : m ≤ 9223372036854775807 := by omega
      obtain ⟨r, hr⟩ : ∃ r, bl y x = r := ⟨_, rfl⟩
      have hle : (Op.bytesLess (str x).toList (str y).toList || (str x).toList == (str y).toList) = !r := by
        rw [str_toList, str_toList, ← hr]
        exact leq_not x y
      have HR2 := Lib.hid hr
      have HX := Lib.hid hx
      have HY := Lib.hid hy
      have HM := Lib.hid hm
      clear hr hx hy hml hkl hmi hm
      have HLT := Lib.hid hlt
      clear hlt
      cases r with
      | false =>
        have htt : t = false := by
          rw [← HT.out]
          exact all_bad (k := k) (by have := HLT.out; omega) (by rw [HM.out, HX.out, HY.out, HR2.out])
        subst htt
        have hle2 : (Op.bytesLess (str x).toList (str y).toList || (str x).toList == (str y).toList) = true := hle
        clear hle
        go_wp2_with fail
        go_quiet (fail)
        go_wp2_with fail
        go_ret
        exact ⟨rfl, below_drewN HB.out _⟩
      | true =>
        have hle2 : (Op.bytesLess (str x).toList (str y).toList || (str x).toList == (str y).toList) = false := hle
        clear hle
        have HO := Lib.hid (all_next HOK.out (show bl (ids.getD k []) (ids.getD (k + 1) []) = true from by rw [HM.out, HX.out, HY.out, HR2.out]))
        go_wp2_with fail
        go_quiet (fail)
        go_wp2_with fail
        go_roundw
        case rel => exact ⟨k + 1, .inl (by have := HLT.out; omega), by have := HM.out; congr 1; omega, below_drewN HB.out _, HO.out⟩
        case measure => have := HM.out; have := HLT.out; simp [intOf]; omega
    · have htt : t = true := by
        rw [← HT.out]
        have e : l - 1 = k := by have := HK.out; omega
        rw [e, HOK.out]
      subst htt
      have hge : (l : Int) ≤ (k : Int) + 1 := by omega
      have HLT := Lib.hid hlt
      clear hlt
      go_wp2
      go_ret
      exact ⟨rfl, HB.out⟩
set_option maxRecDepth 100000 in
set_option maxHeartbeats 800000 in
theorem rmsg_any (cs : List UInt8) (w : World) (hln : cs.length ≤ 140737488351232) : Calls Tryz.prog 157 #[.string (str cs)] w fun e w' => e = .returned (.bool (msgB cs)) ∧ w = w' := by
  have hsz := str_size cs
  obtain ⟨l, hL⟩ : ∃ l, cs.length = l := ⟨_, rfl⟩
  obtain ⟨t, ht⟩ : ∃ t, msgB cs = t := ⟨_, rfl⟩
  rw [ht]
  unfold msgB at ht
  rw [hL] at hsz ht hln
  have HL := Lib.hid hL
  have HT := Lib.hid ht
  have n0 : (0 : Int) ≤ (l : Int) := by omega
  clear hL ht
  go_enter Tryz.func157, Tryz.ntmps157
  go_wp2
  go_loop [3] (fun i => ∃ k : Nat, k ≤ l ∧ i = .int .i64 k ∧ (List.range k).all (fun j => okm (cs.getD j 0)) = true) (fun i => l - (intOf i).toNat)
  case atStart => exact ⟨0, by omega, rfl, rfl⟩
  case round =>
    obtain ⟨k, hk, rfl, hok⟩ := hrel
    have HOK := Lib.hid hok
    clear hok
    have k0 : (0 : Int) ≤ (k : Int) := by omega
    by_cases hlt : k < l
    · have k1 : (k : Int) < (l : Int) := by omega
      have hix := index_str cs k (by rw [HL.out]; exact hlt)
      obtain ⟨x, hx⟩ : ∃ x, cs.getD k 0 = x := ⟨_, rfl⟩
      rw [hx] at hix
      have HX := Lib.hid hx
      clear hx
      by_cases c1 : bi x < 32
      · have htt : t = false := by
          rw [← HT.out, all_bad hlt (by rw [HX.out]; unfold okm; simp [show ¬ (32 ≤ bi x) from by omega])]
          simp
        subst htt
        generalize bi x = y at *
        go_wp2
        go_ret
        exact ⟨rfl, rfl⟩
      · have c1' : 32 ≤ bi x := by omega
        clear c1
        by_cases c2 : 126 < bi x
        · have htt : t = false := by
            rw [← HT.out, all_bad hlt (by rw [HX.out]; unfold okm; simp [show ¬ (bi x ≤ 126) from by omega])]
            simp
          subst htt
          generalize bi x = y at *
          go_wp2
          go_ret
          exact ⟨rfl, rfl⟩
        · have c2' : bi x ≤ 126 := by omega
          have HO := Lib.hid (all_next HOK.out (show okm (cs.getD k 0) = true from by rw [HX.out]; unfold okm; simp [c1', c2']))
          clear c2
          generalize bi x = y at *
          go_wp2
          go_round
          case rel => exact ⟨k + 1, by omega, by go_num, HO.out⟩
          case measure => simp [intOf]; omega
    · obtain rfl : k = l := by omega
      by_cases h2 : k ≤ 200
      · have h2' : (k : Int) ≤ 200 := by omega
        have htt : t = true := by
          rw [← HT.out, HOK.out]
          simp [h2]
        subst htt
        clear h2
        go_wp2
        go_ret
        have HD : decide ((k : Int) ≤ 200) = true := by simp; omega
        refine ⟨?_, rfl⟩
        first | rfl | (show Ending.returned (.bool (decide ((k : Int) ≤ 200))) = _; rw [HD])
      · have h2' : (200 : Int) < (k : Int) := by omega
        have htt : t = false := by
          rw [← HT.out]
          simp [h2]
        subst htt
        clear h2
        go_wp2
        go_ret
        have HD : decide ((k : Int) ≤ 200) = false := by simp; omega
        refine ⟨?_, rfl⟩
        show Ending.returned (.bool (decide ((k : Int) ≤ 200))) = _
        rw [HD]
end Go.Proofs.YteffiedolcjjlaaGreat.Ob
