/- Texts put together: ZRz2. -/
import Derived.Test.YtlgmbljfjfcpoaaGreatQs42
import Derived.Test.YtlgmbljfjfcpoaaGreatQs46
import Derived.Test.YtlgmbljfjfcpoaaGreatQs39
/- marlaw8.RefsEither: the walk. -/
set_option linter.unusedVariables false
set_option linter.unusedSimpArgs false
namespace Go.Proofs.YtlgmbljfjfcpoaaGreat.Tx
open Go.RowKit Go.Maps Go.Proofs.YtlgmbljfjfcpoaaGreat.Sh

abbrev domOf {A B : Prop} (_ : A → B) : Prop := A
theorem withid {G : Prop} (k : (G → G) → G) : G := k id
theorem GoC.unl : ∀ {l : List (List UInt8)} {c : CSt} {i : Nat}, GoC c i → GoC (unlC c l) (i + l.length)
  | [], _, _, h => h
  | n :: l, c, i, h => by
    show GoC (if remE c (lockP n) = 0 then unlC (remC c (lockP n)) l else remC c (lockP n)) (i + (l.length + 1))
    split
    · have := GoC.unl (l := l) (h.rem (lockP n))
      exact this.upto (by omega)
    · exact (h.rem (lockP n)).upto (by omega)
theorem GoC.ulk {c : CSt} {i : Nat} (h : GoC c i) (hl : (rlsV c lockD).length ≤ 1) : GoC (ulkC c) (i + 2) := by
  unfold ulkC
  split
  · exact (GoC.unl h.bg).upto (by omega)
  · exact h.bg.upto (by omega)
theorem FcAt.widen {F F' M : Nat → Prop} {w : World} {b : Nat} {c : CSt} (h : FcAt F w b c M) (h1 : ∀ k, F k → F' k) (h2 : ∀ k, F' k → ¬ M k) (h3 : ∀ k, F' k → k < w.heap.size) : FcAt F' w b c M := by
  obtain ⟨x, hx, hm⟩ := h
  exact ⟨x, hx.mono h1 (fun k hk hf => h2 k hk ((hm k).2 hf)) h3, hm⟩
theorem GoC.small' {c : CSt} {i : Nat} (h : GoC c i) (hi : i ≤ 3900) : CSmall c := h.fits.small (by omega)
section
variable {w w1 : World} {b : Nat} {c : CSt}
theorem up_mine (h : Mine w w1 b c) : Calls Tryz.prog 11 #[.pointer (some ⟨b, 0, none⟩)] w1 fun e w' => e = .returned (.bool (!c.down)) ∧ w1 = w' := by
  obtain ⟨F, M, h1, h2, h3⟩ := h
  exact up_any h1
theorem crash_mine (keep torn : Int) (h : Mine w w1 b c) (hs : CSmall c) : Calls Tryz.prog 13 #[.pointer (some ⟨b, 0, none⟩), .int .i64 keep, .int .i64 torn] w1 fun e w' => e = .returned (.tuple #[]) ∧ Mine w w' b (crC c keep torn) := by
  obtain ⟨F, M, h1, h2, h3⟩ := h
  exact (crash_any F M b c keep torn w1 h1 hs).mono fun e w' h => ⟨h.1, Mine.of h2 h3 h.2⟩
theorem reboot_mine (h : Mine w w1 b c) : Calls Tryz.prog 22 #[.pointer (some ⟨b, 0, none⟩)] w1 fun e w' => e = .returned (.tuple #[]) ∧ Mine w w' b { c with down := false } := by
  obtain ⟨F, M, h1, h2, h3⟩ := h
  exact (reboot_any h1).mono fun e w' h => ⟨h.1, Mine.of h2 h3 h.2⟩
theorem noplan_mine (h : Mine w w1 b c) : Calls Tryz.prog 8 #[.pointer (some ⟨b, 0, none⟩), .slice none 0 0] w1 fun e w' => e = .returned (.tuple #[]) ∧ Mine w w' b { c with plan := [] } := by
  obtain ⟨F, M, h1, h2, h3⟩ := h
  refine (plan_any F M b c (.slice none 0 0) [] w1 h1 (InL.nil_ evK F w1).tmp (Nat.zero_le _) (fun e he => by cases he)).mono ?_
  rintro e w' ⟨he, R, hR, hp⟩
  have : R = [] := List.eq_nil_of_length_eq_zero hR.len
  subst this
  exact ⟨he, Mine.of h2 h3 hp⟩
theorem plan_mine {wc : World} {G : Nat → Prop} {T : TypeId} {v : Value} {l : List EvM} (h : Mine w wc b c) (hb : Below wc.heap.size wc w1) (hv : OwnL evK T G w1 wc.heap.size v l) (hG : ∀ k, G k → k < w.heap.size) (hn : l.length ≤ 1000000) (hd : ∀ e ∈ l, e.data.length ≤ 140737488351232) :
    Calls Tryz.prog 8 #[.pointer (some ⟨b, 0, none⟩), v] w1 fun e w' => e = .returned (.tuple #[]) ∧ ∃ R, PlanR c l R ∧ Mine w w' b { c with plan := R } := by
  obtain ⟨F, M, h1, h2, h3⟩ := h
  have hz := h3.size
  have hz2 := hb.size
  have hw : FcAt (fun k => F k ∨ (G k ∨ (wc.heap.size ≤ k ∧ k < w1.heap.size))) w1 b c M := by
    refine (h1.below hb).widen (fun k hk => .inl hk) (fun k hk hm => ?_) (fun k hk => ?_)
    · rcases hk with hk | hk | hk
      · exact h1.apart_ k hk hm
      · have := hG k hk; have := h2 k hm; omega
      · have := h1.lt k hm; omega
    · rcases hk with hk | hk | hk
      · have := h1.low k hk; omega
      · have := hG k hk; omega
      · exact hk.2
  refine (plan_any _ M b c v l w1 hw (hv.rin.mono (fun k _ hk => .inr hk)).tmp hn (fun e he => Nat.le_trans (hd e he) (by decide))).mono ?_
  rintro e w' ⟨he, R, hR, hp⟩
  exact ⟨he, R, hR, Mine.of h2 (h3.trans (hb.mono hz)) hp⟩
end
set_option maxRecDepth 100000 in
set_option maxHeartbeats 12800000 in
theorem either_any (G : Nat → Prop) (a b o : List UInt8) (v : Value) (l : List EvM) (keep torn : Int) (w : World) (h : InL evK G w v l) (hG : ∀ k, G k → k < w.heap.size) (hdl : ∀ e ∈ l, e.data.length ≤ 140737488351232) :
    Calls Tryz.prog 4 #[.string (Tx.str a), .string (Tx.str b), .string (Tx.str o), v, .int .i64 keep, .int .i64 torn] w (Yes w) := by
  have HL := Lib.hid h
  have HG := Lib.hid hG
  have HDL := Lib.hid hdl
  obtain ⟨A, c, rfl, hlc, hcm⟩ := evs_slice h.tmp
  obtain ⟨n, hnn⟩ : ∃ n, l.length = n := ⟨_, rfl⟩
  have HN := Lib.hid hnn
  rw [hnn] at hlc HL ⊢
  unfold maxLen at hcm
  have hsa := str_size a
  have hsb := str_size b
  have hso := str_size o
  obtain ⟨la, hla⟩ : ∃ x, a.length = x := ⟨_, rfl⟩
  obtain ⟨lb, hlb⟩ : ∃ x, b.length = x := ⟨_, rfl⟩
  obtain ⟨lo, hlo⟩ : ∃ x, o.length = x := ⟨_, rfl⟩
  rw [hla] at hsa
  rw [hlb] at hsb
  rw [hlo] at hso
  have HLA := Lib.hid hla
  have HLB := Lib.hid hlb
  have HLO := Lib.hid hlo
  clear h hnn hG hdl hla hlb hlo
  go_enter Tryz.func4, Tryz.ntmps4
  go_wp2_with fail
  refine (rfirst_any w).mono ?_
  rintro e w1 ⟨rfl, hb1⟩
  have HB1 := Lib.hid hb1
  clear hb1
  go_wp2_with fail
  refine (new_any (fun _ => False) 1048576 w1 (fun _ h => h.elim)).mono ?_
  rintro e w2 ⟨hb2, ⟨h1, _⟩ | ⟨_, b0, M, _, hM, rfl, hat⟩⟩
  · exact absurd h1 (by decide)
  have H2 : Hid (Mine w w2 b0 (newC 1048576)) := ⟨_, M, hat, fun k hk => Nat.le_trans HB1.out.size (hM k hk), HB1.out.trans (hb2.mono HB1.out.size)⟩
  clear hb2 hM hat
  have HEND : Hid (∀ w', Below w.heap.size w w' → Calls Tryz.prog 17 #[] w' fun e w'' => e = .returned (.bool true) ∧ Below w.heap.size w w'') := fun w' hb => (rfirst_any w').mono fun e w'' h => ⟨h.1, hb.trans (h.2.mono hb.size)⟩
  go_upto_region 4 with (fail)
  go_cut [73] (fun cv wx => ∃ t, cv = .bool t ∧ Mine w wx b0 (newC 1048576) ∧ (t = false → (n ≤ 60 ∧ ∀ e ∈ l, e.path.length ≤ 400) ∧ validB b = true ∧ (a = [] ∨ validB a = true) ∧ validB o = true))
  case first =>
    have HL2 : Hid (InL evK G w2 (.slice A n c) l) := by obtain ⟨_, _, _, _, hbm⟩ := H2.out; exact HL.out.below hbm
    go_wp2_with fail
    refine (fewev_any G _ l w2 HL2.out.tmp).mono ?_
    rintro e w3 ⟨tf, rfl, htf, hb3⟩
    have H3 := Lib.hid (H2.out.below hb3)
    have HTF := Lib.hid htf
    clear hb3 htf
    cases tf with
    | false =>
      go_wp2_with fail
      go_meet
      exact ⟨true, rfl, H3.out, fun h => (by cases h)⟩
    | true =>
      have HF := Lib.hid (HTF.out rfl)
      clear HTF
      by_cases ha : 100 < la
      · have ka : (100 : Int) < (la : Int) := by omega
        clear ha
        go_wp2_with fail
        go_meet
        exact ⟨true, rfl, H3.out, fun h => (by cases h)⟩
      have ka : ¬ (100 : Int) < (la : Int) := by omega
      have HKa := Lib.hid ka
      have HXa : Hid (a.length ≤ 900000) := by unfold Hid; rw [HLA.out]; omega
      by_cases hb : 100 < lb
      · have kb : (100 : Int) < (lb : Int) := by omega
        clear hb
        go_wp2_with fail
        go_meet
        exact ⟨true, rfl, H3.out, fun h => (by cases h)⟩
      have kb : ¬ (100 : Int) < (lb : Int) := by omega
      have HKb := Lib.hid kb
      have HXb : Hid (b.length ≤ 900000) := by unfold Hid; rw [HLB.out]; omega
      by_cases ho : 100 < lo
      · have ko : (100 : Int) < (lo : Int) := by omega
        clear ho
        go_wp2_with fail
        go_meet
        exact ⟨true, rfl, H3.out, fun h => (by cases h)⟩
      have ko : ¬ (100 : Int) < (lo : Int) := by omega
      have HKo := Lib.hid ko
      have HXo : Hid (o.length ≤ 900000) := by unfold Hid; rw [HLO.out]; omega
      obtain ⟨vb, hvb⟩ : ∃ t, validB b = t := ⟨_, rfl⟩
      have HVB := Lib.hid hvb
      clear hvb
      go_wp2_with fail
      refine (valid_any b vb HVB.out w3 (by have := HXb.out; omega)).mono ?_
      rintro e w4 ⟨rfl, rfl⟩
      cases vb with
      | false =>
        go_wp2_with fail
        go_meet
        exact ⟨true, rfl, H3.out, fun h => (by cases h)⟩
      | true =>
        by_cases hae : a = []
        · have HAE := Lib.hid hae
          obtain ⟨z2, z3⟩ := str_nil hae
          clear hae
          obtain ⟨vo, hvo⟩ : ∃ t, validB o = t := ⟨_, rfl⟩
          have HVO := Lib.hid hvo
          clear hvo
          go_wp2_with fail
          refine (valid_any o vo HVO.out w3 (by have := HXo.out; omega)).mono ?_
          rintro e w4 ⟨rfl, rfl⟩
          cases vo with
          | false =>
            go_wp2_with fail
            go_meet
            exact ⟨true, rfl, H3.out, fun h => (by cases h)⟩
          | true =>
            go_wp2_with fail
            go_meet
            exact ⟨false, by rw [decide_eq_false (show ¬ (100 : Int) < (la : Int) from by have h := HKa.out; omega), decide_eq_false (show ¬ (100 : Int) < (lb : Int) from by have h := HKb.out; omega), decide_eq_false (show ¬ (100 : Int) < (lo : Int) from by have h := HKo.out; omega)]; rfl, H3.out, fun _ => ⟨by have h := HF.out; rw [HN.out] at h; exact h, HVB.out, .inl HAE.out, HVO.out⟩⟩
        · have HAE := Lib.hid hae
          obtain ⟨z2, z3⟩ := str_some hae
          clear hae
          obtain ⟨va, hva⟩ : ∃ t, validB a = t := ⟨_, rfl⟩
          have HVA := Lib.hid hva
          clear hva
          go_wp2_with fail
          refine (valid_any a va HVA.out w3 (by have := HXa.out; omega)).mono ?_
          rintro e w4 ⟨rfl, rfl⟩
          cases va with
          | false =>
            go_wp2_with fail
            go_meet
            exact ⟨true, rfl, H3.out, fun h => (by cases h)⟩
          | true =>
            obtain ⟨vo, hvo⟩ : ∃ t, validB o = t := ⟨_, rfl⟩
            have HVO := Lib.hid hvo
            clear hvo
            go_wp2_with fail
            refine (valid_any o vo HVO.out w3 (by have := HXo.out; omega)).mono ?_
            rintro e w4 ⟨rfl, rfl⟩
            cases vo with
            | false =>
              go_wp2_with fail
              go_meet
              exact ⟨true, rfl, H3.out, fun h => (by cases h)⟩
            | true =>
              go_wp2_with fail
              go_meet
              exact ⟨false, by rw [decide_eq_false (show ¬ (100 : Int) < (la : Int) from by have h := HKa.out; omega), decide_eq_false (show ¬ (100 : Int) < (lb : Int) from by have h := HKb.out; omega), decide_eq_false (show ¬ (100 : Int) < (lo : Int) from by have h := HKo.out; omega)]; rfl, H3.out, fun _ => ⟨by have h := HF.out; rw [HN.out] at h; exact h, HVB.out, .inr HVA.out, HVO.out⟩⟩
  case rest =>
    obtain ⟨t, rfl, hm3, ht⟩ := hcut
    have H3 := Lib.hid hm3
    have HT := Lib.hid ht
    clear hm3 ht
    cases t with
    | true =>
      go_wp2_with fail
      obtain ⟨_, _, _, _, hbm⟩ := H3.out
      refine (HEND.out _ hbm).mono ?_
      rintro e w4 ⟨rfl, hb4⟩
      have HB4 := Lib.hid hb4
      clear hb4 hbm
      go_wp2_with fail
      go_ret
      exact ⟨rfl, HB4.out⟩
    | false =>
      have HPRE := Lib.hid (HT.out rfl)
      clear HT
      have hn60 : n ≤ 60 := HPRE.out.1.1
      go_wp2_with fail
      go_loopw [15] (fun i wr => ∃ k : Nat, k ≤ n ∧ i = .int .i64 k ∧ Mine w wr b0 (newC 1048576) ∧ ∀ e ∈ l.take k, e.kind ≠ 4 ∧ e.kind ≠ 5) (fun i _ => n - (intOf i).toNat)
      case atStart => exact ⟨0, by omega, rfl, H3.out, fun e he => (by simp at he)⟩
      case round =>
        obtain ⟨k, hk, rfl, hm, hks⟩ := hrel
        have HM := Lib.hid hm
        have HKS := Lib.hid hks
        have hbm : Below w.heap.size w wr := by obtain ⟨_, _, _, _, hbm⟩ := hm; exact hbm
        clear hm hks
        have k0 : (0 : Int) ≤ (k : Int) := by omega
        by_cases hlt : k < n
        · have k1 : (k : Int) < (n : Int) := by omega
          obtain ⟨ev, he⟩ : ∃ e, l[k]? = some e := ⟨_, List.getElem?_eq_getElem (by rw [HN.out]; exact hlt)⟩
          obtain ⟨ad, dA, dc, rfl, hby, x0, x1, x2, x3, x4, x5, x6⟩ := ev_cells (show EvsTmp G wr (.slice A n c) l from (HL.out.below hbm).tmp) k ev he
          have HX : Hid (l.take (k + 1) = l.take k ++ [ev]) := by
            obtain ⟨hl, e1⟩ := List.getElem?_eq_some_iff.1 he
            show l.take (k + 1) = l.take k ++ [ev]
            rw [List.take_succ_eq_append_getElem hl, e1]
          obtain ⟨kd, hkd⟩ : ∃ x, ev.kind = x := ⟨_, rfl⟩
          rw [hkd] at x1
          have HKD := Lib.hid hkd
          clear hby x0 x2 x3 x4 x5 x6 he hkd
          by_cases h4 : kd = 4
          · subst h4
            go_wp2_with fail
            refine (HEND.out wr hbm).mono ?_
            rintro e w4 ⟨rfl, hb4⟩
            have HB4 := Lib.hid hb4
            clear hb4 hbm
            go_wp2_with fail
            go_ret
            exact ⟨rfl, HB4.out⟩
          · have y4 : (kd == 4) = false := by rw [beq_eq_false_iff_ne]; exact h4
            by_cases h5 : kd = 5
            · subst h5
              clear h4 y4
              go_wp2_with fail
              refine (HEND.out wr hbm).mono ?_
              rintro e w4 ⟨rfl, hb4⟩
              have HB4 := Lib.hid hb4
              clear hb4 hbm
              go_wp2_with fail
              go_ret
              exact ⟨rfl, HB4.out⟩
            · have y5 : (kd == 5) = false := by rw [beq_eq_false_iff_ne]; exact h5
              have H45 : Hid (kd ≠ 4 ∧ kd ≠ 5) := ⟨h4, h5⟩
              clear h4 h5 hbm
              go_wp2_with fail
              go_roundw
              case rel =>
                refine ⟨k + 1, by omega, by go_num, HM.out, fun e he => ?_⟩
                rw [HX.out] at he
                rcases List.mem_append.1 he with he | he
                · exact HKS.out e he
                · rw [List.mem_singleton.1 he, HKD.out]; exact H45.out
              case measure => simp [intOf]; omega
        · obtain rfl : n = k := by omega
          have HKA : Hid (∀ e ∈ l, e.kind ≠ 4 ∧ e.kind ≠ 5) := by
            have h := HKS.out
            rw [List.take_of_length_le (Nat.le_of_eq HN.out)] at h
            exact h
          clear hbm
          go_upto_region 11 with (fail)
          have HXA : Hid (a.length ≤ 900000) := by
            unfold Hid
            rcases HPRE.out.2.2.1 with h | h
            · rw [h]; decide
            · rw [valid_len h]; omega
          have HXB : Hid (b.length ≤ 900000) := by unfold Hid; rw [valid_len HPRE.out.2.1]; omega
          have HXO : Hid (o.length ≤ 900000) := by unfold Hid; rw [valid_len HPRE.out.2.2.2]; omega
          go_cut [113] (fun cv wx => cv = .bool false ∧ ∃ c2, Mine w wx b0 c2 ∧ EiS a b o c2 ∧ GoC c2 10)
          case first =>
            have HOR := Lib.hid (other_row HPRE.out.2.2.2).1
            go_wp2_with fail
            refine (set_mine otN [] o HM.out (GoC.new_ 1048576) (by omega) (by decide) (by decide) HXO.out).mono ?_
            rintro e w4 ⟨rfl, hm4⟩
            rw [HOR.out]
            have HM4 := Lib.hid hm4
            clear hm4
            by_cases hae : a = []
            · subst hae
              obtain ⟨z2, z3⟩ := str_nil (p := []) rfl
              have HES : Hid (EiS [] b o (setC (newC 1048576) otN [] o)) := ei_none HPRE.out.2.2.2
              go_wp2_with fail
              go_meet
              exact ⟨rfl, _, HM4.out, HES.out, ((GoC.new_ 1048576).set_ otN [] o).upto (by omega)⟩
            · have HVA : Hid (validB a = true) := HPRE.out.2.2.1.resolve_left hae
              obtain ⟨z2, z3⟩ := str_some hae
              have HES := Lib.hid (ei_some (a := a) (b := b) HVA.out HPRE.out.2.2.2)
              clear hae
              go_wp2_with fail
              refine (set_mine hdN [] a HM4.out ((GoC.new_ 1048576).set_ otN [] o) (by omega) (by decide) (by decide) HXA.out).mono ?_
              rintro e w5 ⟨rfl, hm5⟩
              rw [HES.out.1]
              have HM5 := Lib.hid hm5
              clear hm5
              go_wp2_with fail
              go_meet
              exact ⟨rfl, _, HM5.out, HES.out.2, (((GoC.new_ 1048576).set_ otN [] o).set_ hdN [] a)⟩
          case rest =>
            refine withid fun hid => ?_
            let rec auxa : domOf hid := by
              clear auxa
              delta domOf
              clear hid
              obtain ⟨rfl, c2, hm, hes, hgo⟩ := hcut
              have HM2 := Lib.hid hm
              have HES := Lib.hid hes
              have HGO := Lib.hid hgo
              clear hm hes hgo
              have HC0 : Hid (0 ≤ c2.calls ∧ c2.calls ≤ 10) := HGO.out.calls
              go_wp2_with fail
              go_loopw [16, 17] (fun u i wr => ∃ (k : Nat) (es : List EvM), k ≤ n ∧ i = .int .i64 k ∧ OwnL evK 32 G wr wc.heap.size u es ∧ Below wc.heap.size wc wr ∧ es.length ≤ k ∧ ∀ e ∈ es, (e.kind ≠ 4 ∧ e.kind ≠ 5) ∧ e.path.length ≤ 400 ∧ e.data.length ≤ 140737488351232) (fun _ i _ => n - (intOf i).toNat)
              case atStart => exact ⟨0, [], by omega, rfl, OwnL.nil_ _ _ _ _ _, Below.refl _ _, Nat.le_refl _, fun e he => (by cases he)⟩
              case round =>
                obtain ⟨k, es, hk, rfl, ho, hb, hel, hep⟩ := hrel
                obtain ⟨A1, tn, c1, hu3⟩ : ∃ A1 tn c1, u16 = .slice A1 tn c1 := by
                  obtain ⟨A1, c1, hu, _, _⟩ := evs_slice ho.tmp
                  exact ⟨_, _, _, hu⟩
                subst hu3
                have HO := Lib.hid ho
                have HB := Lib.hid hb
                have HEL := Lib.hid hel
                have HEP := Lib.hid hep
                have k0 : (0 : Int) ≤ (k : Int) := by omega
                have HMR := Lib.hid (HM2.out.below hb)
                have hbm : Below w.heap.size w wr := by obtain ⟨_, _, _, _, hbm⟩ := HMR.out; exact hbm
                clear ho hb hel hep
                by_cases hlt : k < n
                · have k1 : (k : Int) < (n : Int) := by omega
                  obtain ⟨ev, he⟩ : ∃ e, l[k]? = some e := ⟨_, List.getElem?_eq_getElem (by rw [HN.out]; exact hlt)⟩
                  have HEV : Hid ((ev.kind ≠ 4 ∧ ev.kind ≠ 5) ∧ ev.path.length ≤ 400 ∧ ev.data.length ≤ 140737488351232) := by
                    have hm := List.mem_of_getElem? he
                    exact ⟨HKA.out _ hm, HPRE.out.1.2 _ hm, HDL.out _ hm⟩
                  obtain ⟨ad, dA, dc, hAd, hby, x0, x1, x2, x3, x4, x5, x6⟩ := ev_cells (show EvsTmp G wr (.slice A n c) l from (HL.out.below hbm).tmp) k ev he
                  rw [hAd]
                  clear hAd
                  clear he
                  obtain ⟨at_, kind, mode, kp, tr, path, data⟩ := ev
                  dsimp only at x0 x1 x2 x3 x4 x5 x6 hby
                  obtain ⟨dl, hdl⟩ : ∃ dl, data.length = dl := ⟨_, rfl⟩
                  rw [hdl] at x6 hby
                  have HBY := Lib.hid hby
                  have HDLL := Lib.hid hdl
                  clear hby hdl hbm
                  go_upto_region 18 with (fail)
                  have hwa0 : Below wr.heap.size wr (wr.alloc (.cells #[.int .i64 at_, .int .i64 kind, .int .i64 mode, .int .i64 kp, .int .i64 tr, .string (str path), .slice dA dl dc] 32)) := (Below.refl _ _).alloc (Nat.le_refl _) _
                  have HWA0 : Hid (Below wc.heap.size wc (wr.alloc (.cells #[.int .i64 at_, .int .i64 kind, .int .i64 mode, .int .i64 kp, .int .i64 tr, .string (str path), .slice dA dl dc] 32))) := HB.out.trans (hwa0.mono HB.out.size)
                  have HOA0 : Hid (OwnL evK 32 G (wr.alloc (.cells #[.int .i64 at_, .int .i64 kind, .int .i64 mode, .int .i64 kp, .int .i64 tr, .string (str path), .slice dA dl dc] 32)) wc.heap.size (.slice A1 tn c1) es) := HO.out.alloc _
                  clear hwa0
                  by_cases hc : 0 < at_ ∧ at_ < 100
                  · obtain ⟨hc0, hc1⟩ := hc
                    have hcc0 : (0 : Int) ≤ c2.calls := HC0.out.1
                    have hcc1 : c2.calls ≤ 10 := HC0.out.2
                    obtain ⟨cl, hcl⟩ : ∃ x, c2.calls = x := ⟨_, rfl⟩
                    rw [hcl] at hcc0 hcc1
                    have HCL := Lib.hid hcl
                    clear hcl
                    obtain ⟨an, han⟩ : ∃ x, at_ + cl = x := ⟨_, rfl⟩
                    have hwrp : IntKind.i64.wrap (at_ + cl) = an := by rw [← han]; exact IntWalk.i64_in _ (by omega)
                    go_upto_region 19 with (fail)
                    go_cut [18] (fun cv wx => cv = .pointer (some ⟨wr.heap.size, 0, none⟩) ∧ wx = (wr.alloc (.cells #[.int .i64 an, .int .i64 kind, .int .i64 mode, .int .i64 kp, .int .i64 tr, .string (str path), .slice dA dl dc] 32)).drew)
                    case first =>
                      obtain ⟨F2, M2, f1, f2, f3⟩ := HMR.out
                      have HFA : Hid (FcAt F2 (wr.alloc (.cells #[.int .i64 at_, .int .i64 kind, .int .i64 mode, .int .i64 kp, .int .i64 tr, .string (str path), .slice dA dl dc] 32)) b0 c2 M2) := f1.below ((Below.refl _ _).alloc (Nat.le_refl _) _)
                      have z0 : (wr.alloc (.cells #[.int .i64 at_, .int .i64 kind, .int .i64 mode, .int .i64 kp, .int .i64 tr, .string (str path), .slice dA dl dc] 32)).cell? ⟨wr.heap.size, 0, none⟩ = some (.int .i64 at_) := (Blk.new wr 32 #[.int .i64 at_, .int .i64 kind, .int .i64 mode, .int .i64 kp, .int .i64 tr, .string (str path), .slice dA dl dc]).cell 0
                      clear f1 f2 f3 han
                      go_region_with ((go_at_call 20; refine (calls_any (by first | exact HFA.out | exact HFA.out.drew_)).mono ?_; rintro e wz ⟨rfl, rfl⟩; rw [HCL.out]))
                      all_goals (go_wp2_with fail)
                      all_goals go_meet
                      all_goals exact ⟨rfl, rfl⟩
                    case rest =>
                      obtain ⟨rfl, hwn⟩ := hcut
                      obtain ⟨wb, hwb⟩ : ∃ x, x = wr.alloc (.cells #[.int .i64 an, .int .i64 kind, .int .i64 mode, .int .i64 kp, .int .i64 tr, .string (str path), .slice dA dl dc] 32) := ⟨_, rfl⟩
                      rw [← hwb] at hwn
                      subst hwn
                      have hzb : wb.heap.size = wr.heap.size + 1 := by rw [hwb]; simp
                      have hwbb : Below wr.heap.size wr wb := by rw [hwb]; exact (Below.refl _ _).alloc (Nat.le_refl _) _
                      have hbk : Blk wb wr.heap.size 32 #[.int .i64 an, .int .i64 kind, .int .i64 mode, .int .i64 kp, .int .i64 tr, .string (str path), .slice dA dl dc] := by rw [hwb]; exact Blk.new _ _ _
                      clear hwb
                      have hw1 : Below wr.heap.size wr (wb.alloc (.cells #[.int .i64 an, .int .i64 kind, .int .i64 mode, .int .i64 kp, .int .i64 tr, .string (str path), .slice dA dl dc] 32)) := hwbb.alloc (by omega) _
                      have hw2 : Below wr.heap.size wr (wb.alloc (.cells #[.int .i64 an, .int .i64 kind, .int .i64 mode, .int .i64 kp, .int .i64 tr, .string (str path), .slice dA dl dc] 32)).drew := ⟨hw1.os, hw1.tape, hw1.output, hw1.size, hw1.block⟩
                      clear hw1
                      have HW2 := Lib.hid hw2
                      have HBY2 : Hid (By G (wb.alloc (.cells #[.int .i64 an, .int .i64 kind, .int .i64 mode, .int .i64 kp, .int .i64 tr, .string (str path), .slice dA dl dc] 32)).drew (.slice dA dl dc) data) := HBY.out.only (Only.of_below (M := fun _ => False) hw2) (fun _ _ => id)
                      have HOA : Hid (OwnL evK 32 G (wb.alloc (.cells #[.int .i64 an, .int .i64 kind, .int .i64 mode, .int .i64 kp, .int .i64 tr, .string (str path), .slice dA dl dc] 32)).drew wc.heap.size (.slice A1 tn c1) es) := HO.out.only (Only.of_below (M := fun _ => False) hw2) (fun _ _ => id) (fun _ _ => id)
                      have HTA := Lib.hid (TmpL.one (K := evK) (F := G) (a := (⟨an, kind, mode, kp, tr, path, data⟩ : EvM)) (d := .slice dA dl dc) (show Blk (wb.alloc (.cells #[.int .i64 an, .int .i64 kind, .int .i64 mode, .int .i64 kp, .int .i64 tr, .string (str path), .slice dA dl dc] 32)).drew wb.heap.size 32 #[.int .i64 an, .int .i64 kind, .int .i64 mode, .int .i64 kp, .int .i64 tr, .string (str path), .slice dA dl dc] from Blk.new wb 32 #[.int .i64 an, .int .i64 kind, .int .i64 mode, .int .i64 kp, .int .i64 tr, .string (str path), .slice dA dl dc]) rfl (show By G _ (.slice dA dl dc) data from HBY2.out))
                      have HLL : Hid (es.length + [(⟨an, kind, mode, kp, tr, path, data⟩ : EvM)].length ≤ 2000000) := by unfold Hid; rw [List.length_singleton]; have := HEL.out; omega
                      have HZ : Hid (wc.heap.size ≤ (wb.alloc (.cells #[.int .i64 an, .int .i64 kind, .int .i64 mode, .int .i64 kp, .int .i64 tr, .string (str path), .slice dA dl dc] 32)).drew.heap.size) := Nat.le_trans HB.out.size hw2.size
                      have HFZ : Hid (∀ q, G q → q < (wb.alloc (.cells #[.int .i64 an, .int .i64 kind, .int .i64 mode, .int .i64 kp, .int .i64 tr, .string (str path), .slice dA dl dc] 32)).drew.heap.size) := fun q hq => by
                        have h1 := HG.out q hq
                        have h2 : w.heap.size ≤ wr.heap.size := by obtain ⟨_, _, _, _, h⟩ := HMR.out; exact h.size
                        have h3 := hw2.size
                        omega
                      have HLT : Hid (∀ q, (Value.slice A1 tn c1).ownBlock = some q → wc.heap.size ≤ q) := fun q hq => (HO.out.lt q hq).1
                      have z0 := hbk.cell 0
                      have z1 := hbk.cell 1
                      have z2 := hbk.cell 2
                      have z3 := hbk.cell 3
                      have z4 := hbk.cell 4
                      have z5 := hbk.cell 5
                      have z6 := hbk.cell 6
                      clear hw2 hwbb hzb han hwrp x0 x1 x2 x3 x4 x5 x6
                      go_wp2_with (at_builtin; refine list_appendL typed_fe (v := .slice A1 tn c1) (ex := .slice (some ⟨wb.heap.size, 0, none⟩) 1 1) (l2 := [(⟨an, kind, mode, kp, tr, path, data⟩ : EvM)]) rfl (.tmp 138) (.tmp 140) rfl (by exact HOA.out) (by exact HTA.out) (by rfl) (by rfl) HLL.out (by exact HZ.out) (by exact HFZ.out) ?_; intro v5 w5 ho5 hg5 hk5; have HO5 := Lib.hid ho5; have HG5 := Lib.hid hg5; clear ho5 hg5 hk5)
                      go_roundw
                      case rel =>
                        refine ⟨k + 1, _, by omega, by go_num, HO5.out, ?_, Nat.le_trans (Nat.le_of_eq (@List.length_append EvM es [(⟨an, kind, mode, kp, tr, path, data⟩ : EvM)])) (Nat.succ_le_succ HEL.out), fun e he => ?_⟩
                        · exact (HB.out.trans (HW2.out.mono HB.out.size)).grown HG5.out HZ.out (fun j hj => HLT.out j hj)
                        · rcases List.mem_append.1 he with he | he
                          · exact HEP.out e he
                          · rw [List.mem_singleton.1 he]; exact HEV.out
                      case measure => simp [intOf]; omega
                  · have z0 : (wr.alloc (.cells #[.int .i64 at_, .int .i64 kind, .int .i64 mode, .int .i64 kp, .int .i64 tr, .string (str path), .slice dA dl dc] 32)).cell? ⟨wr.heap.size, 0, none⟩ = some (.int .i64 at_) := (Blk.new wr 32 #[.int .i64 at_, .int .i64 kind, .int .i64 mode, .int .i64 kp, .int .i64 tr, .string (str path), .slice dA dl dc]).cell 0
                    by_cases hc0 : 0 < at_
                    · have hc1 : ¬ at_ < 100 := fun h => hc ⟨hc0, h⟩
                      clear hc
                      go_wp2_with fail
                      go_roundw
                      case rel => exact ⟨k + 1, es, by omega, by go_num, HOA0.out, HWA0.out, by have := HEL.out; omega, HEP.out⟩
                      case measure => simp [intOf]; omega
                    · skip
                      clear hc
                      go_wp2_with fail
                      go_roundw
                      case rel => exact ⟨k + 1, es, by omega, by go_num, HOA0.out, HWA0.out, by have := HEL.out; omega, HEP.out⟩
                      case measure => simp [intOf]; omega
                · obtain rfl : n = k := by omega
                  clear hbm
                  have HN60 : Hid (n ≤ 60) := hn60
                  go_wp2_with fail
                  refine (plan_mine HM2.out HB.out HO.out HG.out (by have := HEL.out; omega) (fun e he => (HEP.out e he).2.2)).mono ?_
                  rintro e w5 ⟨rfl, R, hR, hm5⟩
                  have HRK : Hid ((∀ e ∈ R, e.kind ≠ 4 ∧ e.kind ≠ 5) ∧ R.length ≤ 60 ∧ ∀ e ∈ R, e.path.length ≤ 400) := by
                    refine ⟨fun e he => (HEP.out e (hR.mem e he).1).1, ?_, fun e he => (HEP.out e (hR.mem e he).1).2.1⟩
                    rw [hR.len]
                    have h1 := List.length_filter_le (fun e : EvM => decide (c2.calls < e.at_)) es
                    have := HEL.out
                    omega
                  obtain ⟨c3, hc3⟩ : ∃ x : CSt, x = { c2 with plan := R } := ⟨_, rfl⟩
                  have HJ3 : Hid (JInv a b o c3) := by rw [hc3]; exact HES.out.plan HRK.out.1
                  have HG3 : Hid (GoC c3 10) := by rw [hc3]; exact ⟨HGO.out.fits.plan R, HGO.out.calls, HRK.out.2.1, HRK.out.2.2⟩
                  have HR3 : Hid (c3.room = 1048576) := by rw [hc3]; exact HES.out.room
                  rw [← hc3] at hm5
                  have HM5 := Lib.hid hm5
                  have HVBO : Hid (validB b = true ∧ validB o = true ∧ (a = [] ∨ validB a = true)) := ⟨HPRE.out.2.1, HPRE.out.2.2.2, HPRE.out.2.2.1⟩
                  clear hR hm5 hc3 hn60
                  go_wp2_with fail
                  refine (set_mine hdN a b HM5.out HG3.out (by omega) (by decide) HXA.out HXB.out).mono ?_
                  rintro e w6 ⟨rfl, hm6⟩
                  obtain ⟨e4, he4⟩ : ∃ x, setE c3 hdN a b = x := ⟨_, rfl⟩
                  obtain ⟨c4, hc4⟩ : ∃ x, setC c3 hdN a b = x := ⟨_, rfl⟩
                  have HE4 := Lib.hid he4
                  have HC4 := Lib.hid hc4
                  have HJ4 : Hid (JInv a b o c4) := by rw [← hc4]; exact HJ3.out.set_ HVBO.out.1 a
                  have HG4 : Hid (GoC c4 15) := by rw [← hc4]; exact HG3.out.set_ hdN a b
                  have HR4 : Hid (c4.room = 1048576) := by rw [← hc4]; exact (set_room c3 hdN a b).trans HR3.out
                  rw [hc4] at hm6
                  rw [he4]
                  have HM6 := Lib.hid hm6
                  clear hm6 he4 hc4
                  have HB0 : Hid (b ≠ [] ∧ o ≠ []) := ⟨valid_ne HVBO.out.1, valid_ne HVBO.out.2.1⟩
                  have HEI : Hid (isB c4.here hdN a = true ∨ isB c4.here hdN b = true) := HJ4.out.now.either HB0.out.1
                  go_upto_region 23 with (fail)
                  go_cut [162] (fun cv wx => cv = .bool false ∧ Mine w wx b0 c4)
                  case first =>
                    go_wp2_with fail
                    refine (up_mine HM6.out).mono ?_
                    rintro e w7 ⟨rfl, rfl⟩
                    obtain ⟨dn, hdn⟩ : ∃ x, c4.down = x := ⟨_, rfl⟩
                    rw [hdn]
                    clear hdn
                    cases dn with
                    | true =>
                      go_wp2_with fail
                      go_meet
                      exact ⟨rfl, HM6.out⟩
                    | false =>
                      go_wp2_with fail
                      refine (is_mine hdN a HM6.out (HG4.out.small' (by omega)) (by decide) HXA.out).mono ?_
                      rintro e w8 ⟨rfl, hm8⟩
                      have HM8 := Lib.hid hm8
                      clear hm8
                      obtain ⟨ia, hia⟩ : ∃ x, isB c4.here hdN a = x := ⟨_, rfl⟩
                      rw [hia] at HEI ⊢
                      clear hia
                      cases ia with
                      | true =>
                        go_wp2_with fail
                        go_meet
                        exact ⟨rfl, HM8.out⟩
                      | false =>
                        have HIB : Hid (isB c4.here hdN b = true) := HEI.out.resolve_left (by decide)
                        go_wp2_with fail
                        refine (is_mine hdN b HM8.out (HG4.out.small' (by omega)) (by decide) HXB.out).mono ?_
                        rintro e w9 ⟨rfl, hm9⟩
                        have HM9 := Lib.hid hm9
                        rw [HIB.out]
                        clear hm9
                        go_wp2_with fail
                        go_meet
                        exact ⟨rfl, HM9.out⟩
                  case rest =>
                    refine withid fun hid => ?_
                    let rec auxc : domOf hid := by
                      clear auxc
                      delta domOf
                      clear hid
                      obtain ⟨rfl, hm7⟩ := hcut
                      have HM7 := Lib.hid hm7
                      clear hm7
                      go_wp2_with fail
                      refine (crash_mine keep torn HM7.out (HG4.out.small' (by omega))).mono ?_
                      rintro e w8 ⟨rfl, hm8⟩
                      obtain ⟨c5, hc5⟩ : ∃ x, crC c4 keep torn = x := ⟨_, rfl⟩
                      have HJ5 : Hid (JInv a b o c5) := by rw [← hc5]; exact HJ4.out.cr keep torn
                      have HG5' : Hid (GoC c5 16) := by
                        rw [← hc5]
                        exact HG4.out.does (o := ⟨10, 0, keep, torn, [], [], [], []⟩) ⟨Nat.zero_le _, Nat.zero_le _, Nat.zero_le _, Nat.zero_le _, fun _ h => (by cases h)⟩
                      have HR5 : Hid (c5.room = 1048576) := by rw [← hc5]; exact (cr_plan c4 keep torn).2.2.trans HR4.out
                      have HEI5 : Hid (isB c5.here hdN a = true ∨ isB c5.here hdN b = true) := HJ5.out.now.either HB0.out.1
                      have HOT5 : Hid (isB c5.here otN o = true) := HJ5.out.now.rest HB0.out.2
                      have HSD : Hid (e4 = 0 → isB c5.here hdN b = true) := fun h => by
                        obtain ⟨s1, s2, s3, s4, s5⟩ := HJ3.out.said HVBO.out.1 (HE4.out.trans h)
                        rw [HC4.out] at s1 s2 s3 s4 s5
                        have h1 : c5.here = c4.here := by rw [← hc5]; exact HJ4.out.crashed (n := []) s1 s2 s3 keep torn
                        rw [h1]
                        exact is_of HB0.out.1 s4 s5
                      rw [hc5] at hm8
                      have HM8 := Lib.hid hm8
                      clear hm8 hc5
                      go_upto_region 26 with (fail)
                      go_cut [192] (fun cv wx => cv = .bool false ∧ Mine w wx b0 c5)
                      case first =>
                        obtain ⟨ia, hia⟩ : ∃ x, isB c5.here hdN a = x := ⟨_, rfl⟩
                        have HIA := Lib.hid hia
                        obtain ⟨ib, hib⟩ : ∃ x, isB c5.here hdN b = x := ⟨_, rfl⟩
                        have HIB := Lib.hid hib
                        rw [hia, hib] at HEI5
                        rw [hib] at HSD
                        clear hia hib
                        by_cases h0 : e4 = 0
                        · subst h0
                          have hb1 : ib = true := HSD.out rfl
                          subst hb1
                          go_wp2_with fail
                          refine (is_mine hdN b HM8.out (HG5'.out.small' (by omega)) (by decide) HXB.out).mono ?_
                          rintro e w9 ⟨rfl, hm9⟩
                          have HM9 := Lib.hid hm9
                          rw [HIB.out]
                          clear hm9
                          cases ia with
                          | true =>
                            go_wp2_with fail
                            refine (is_mine hdN a HM9.out (HG5'.out.small' (by omega)) (by decide) HXA.out).mono ?_
                            rintro e w10 ⟨rfl, hm10⟩
                            have HM10 := Lib.hid hm10
                            rw [HIA.out]
                            clear hm10
                            go_wp2_with fail
                            refine (is_mine otN o HM10.out (HG5'.out.small' (by omega)) (by decide) HXO.out).mono ?_
                            rintro e w11 ⟨rfl, hm11⟩
                            have HM11 := Lib.hid hm11
                            rw [HOT5.out]
                            clear hm11
                            go_wp2_with fail
                            go_meet
                            exact ⟨rfl, HM11.out⟩
                          | false =>
                            go_wp2_with fail
                            refine (is_mine hdN a HM9.out (HG5'.out.small' (by omega)) (by decide) HXA.out).mono ?_
                            rintro e w10 ⟨rfl, hm10⟩
                            have HM10 := Lib.hid hm10
                            rw [HIA.out]
                            clear hm10
                            go_wp2_with fail
                            refine (is_mine hdN b HM10.out (HG5'.out.small' (by omega)) (by decide) HXB.out).mono ?_
                            rintro e w11 ⟨rfl, hm11⟩
                            have HM11 := Lib.hid hm11
                            rw [HIB.out]
                            clear hm11
                            go_wp2_with fail
                            refine (is_mine otN o HM11.out (HG5'.out.small' (by omega)) (by decide) HXO.out).mono ?_
                            rintro e w12 ⟨rfl, hm12⟩
                            have HM12 := Lib.hid hm12
                            rw [HOT5.out]
                            clear hm12
                            go_wp2_with fail
                            go_meet
                            exact ⟨rfl, HM12.out⟩
                        · have y0 : (e4 == 0) = false := by rw [beq_eq_false_iff_ne]; exact h0
                          clear h0
                          cases ia with
                          | true =>
                            go_wp2_with fail
                            refine (is_mine hdN a HM8.out (HG5'.out.small' (by omega)) (by decide) HXA.out).mono ?_
                            rintro e w10 ⟨rfl, hm10⟩
                            have HM10 := Lib.hid hm10
                            rw [HIA.out]
                            clear hm10
                            go_wp2_with fail
                            refine (is_mine otN o HM10.out (HG5'.out.small' (by omega)) (by decide) HXO.out).mono ?_
                            rintro e w11 ⟨rfl, hm11⟩
                            have HM11 := Lib.hid hm11
                            rw [HOT5.out]
                            clear hm11
                            go_wp2_with fail
                            go_meet
                            exact ⟨rfl, HM11.out⟩
                          | false =>
                            have hb1 : ib = true := HEI5.out.resolve_left (by decide)
                            subst hb1
                            go_wp2_with fail
                            refine (is_mine hdN a HM8.out (HG5'.out.small' (by omega)) (by decide) HXA.out).mono ?_
                            rintro e w10 ⟨rfl, hm10⟩
                            have HM10 := Lib.hid hm10
                            rw [HIA.out]
                            clear hm10
                            go_wp2_with fail
                            refine (is_mine hdN b HM10.out (HG5'.out.small' (by omega)) (by decide) HXB.out).mono ?_
                            rintro e w11 ⟨rfl, hm11⟩
                            have HM11 := Lib.hid hm11
                            rw [HIB.out]
                            clear hm11
                            go_wp2_with fail
                            refine (is_mine otN o HM11.out (HG5'.out.small' (by omega)) (by decide) HXO.out).mono ?_
                            rintro e w12 ⟨rfl, hm12⟩
                            have HM12 := Lib.hid hm12
                            rw [HOT5.out]
                            clear hm12
                            go_wp2_with fail
                            go_meet
                            exact ⟨rfl, HM12.out⟩
                      case rest =>
                        obtain ⟨rfl, hm9⟩ := hcut
                        have HM9 := Lib.hid hm9
                        clear hm9
                        go_wp2_with fail
                        refine (reboot_mine HM9.out).mono ?_
                        rintro e w10 ⟨rfl, hm10⟩
                        have HM10 := Lib.hid hm10
                        clear hm10
                        go_wp2_with fail
                        refine (noplan_mine HM10.out).mono ?_
                        rintro e w11 ⟨rfl, hm11⟩
                        obtain ⟨c7, hc7⟩ : ∃ x : CSt, x = { { c5 with down := false } with plan := [] } := ⟨_, rfl⟩
                        have HEC : Hid (EiC a b o c7) := by
                          refine ⟨⟨by rw [hc7], by rw [hc7]⟩, by rw [hc7]; exact HR5.out, by rw [hc7]; exact HJ5.out.now⟩
                        have HG7 : Hid (GoC c7 16) := by
                          rw [hc7]
                          have h := HG5'.out
                          exact ⟨⟨h.fits.here, h.fits.both, h.fits.users, h.fits.time0, h.fits.time, h.fits.hrow, h.fits.drow, h.fits.prow⟩, h.calls, Nat.zero_le _, fun e he => (by cases he)⟩
                        rw [← hc7] at hm11
                        have HM11 := Lib.hid hm11
                        clear hm11 hc7
                        have HUL := Lib.hid HEC.out.unlock
                        have HRL : Hid ((rlsV c7 lockD).length ≤ 1 ∧ ∀ n ∈ rlsV c7 lockD, n.length ≤ 900000) := by
                          unfold Hid
                          rw [HEC.out.locks]
                          split
                          · exact ⟨by decide, fun q hq => by rw [List.mem_singleton.1 hq]; decide⟩
                          · exact ⟨by decide, fun q hq => (by cases hq)⟩
                        go_wp2_with fail
                        refine (unlock_mine HM11.out HG7.out (by have := HRL.out.1; omega) HRL.out.2).mono ?_
                        rintro e w12 ⟨rfl, hm12⟩
                        rw [HUL.out.1]
                        obtain ⟨un, hun⟩ : ∃ x, ulkN c7 = x := ⟨_, rfl⟩
                        rw [hun]
                        have HG8 : Hid (GoC (ulkC c7) 18) := HG7.out.ulk HRL.out.1
                        have HLS : Hid (setE (ulkC c7) hdN (if isB (ulkC c7).here hdN b = true then b else a) o = 0 ∧ isB (setC (ulkC c7) hdN (if isB (ulkC c7).here hdN b = true then b else a) o).here hdN o = true) := HUL.out.2.1.last HUL.out.2.2 HVBO.out.2.2 HVBO.out.1 HVBO.out.2.1
                        obtain ⟨c8, hc8⟩ : ∃ x, ulkC c7 = x := ⟨_, rfl⟩
                        rw [hc8] at hm12 HG8 HLS
                        have HM12 := Lib.hid hm12
                        clear hm12 hun hc8
                        obtain ⟨ib, hib⟩ : ∃ x, isB c8.here hdN b = x := ⟨_, rfl⟩
                        have HIB := Lib.hid hib
                        rw [hib] at HLS
                        clear hib
                        cases ib with
                        | true =>
                          have HLT : Hid (setE c8 hdN b o = 0 ∧ isB (setC c8 hdN b o).here hdN o = true) := HLS.out
                          go_wp2_with fail
                          refine (is_mine hdN b HM12.out (HG8.out.small' (by omega)) (by decide) HXB.out).mono ?_
                          rintro e w13 ⟨rfl, hm13⟩
                          have HM13 := Lib.hid hm13
                          rw [HIB.out]
                          clear hm13
                          go_wp2_with fail
                          obtain ⟨F9, M9, q1, q2, q3⟩ := HM13.out
                          refine (rfirst_any _).mono ?_
                          rintro e w14 ⟨rfl, hb14⟩
                          have HM14 : Hid (Mine w w14 b0 c8) := Mine.below ⟨F9, M9, q1, q2, q3⟩ hb14
                          clear q1 q2 q3 hb14
                          go_wp2_with fail
                          refine (set_mine hdN b o HM14.out HG8.out (by omega) (by decide) HXB.out HXO.out).mono ?_
                          rintro e w15 ⟨rfl, hm15⟩
                          have HM15 := Lib.hid hm15
                          rw [HLT.out.1]
                          clear hm15
                          go_wp2_with fail
                          refine (is_mine hdN o HM15.out ((HG8.out.set_ hdN b o).small' (by omega)) (by decide) HXO.out).mono ?_
                          rintro e w16 ⟨rfl, hm16⟩
                          have HM16 := Lib.hid hm16
                          rw [HLT.out.2]
                          clear hm16
                          go_wp2_with fail
                          go_ret
                          obtain ⟨_, _, _, _, hbz⟩ := HM16.out
                          exact ⟨rfl, hbz⟩
                        | false =>
                          have HLT : Hid (setE c8 hdN a o = 0 ∧ isB (setC c8 hdN a o).here hdN o = true) := HLS.out
                          go_wp2_with fail
                          refine (is_mine hdN b HM12.out (HG8.out.small' (by omega)) (by decide) HXB.out).mono ?_
                          rintro e w13 ⟨rfl, hm13⟩
                          have HM13 := Lib.hid hm13
                          rw [HIB.out]
                          clear hm13
                          go_wp2_with fail
                          obtain ⟨F9, M9, q1, q2, q3⟩ := HM13.out
                          refine (rfirst_any _).mono ?_
                          rintro e w14 ⟨rfl, hb14⟩
                          have HM14 : Hid (Mine w w14 b0 c8) := Mine.below ⟨F9, M9, q1, q2, q3⟩ hb14
                          clear q1 q2 q3 hb14
                          go_wp2_with fail
                          refine (set_mine hdN a o HM14.out HG8.out (by omega) (by decide) HXA.out HXO.out).mono ?_
                          rintro e w15 ⟨rfl, hm15⟩
                          have HM15 := Lib.hid hm15
                          rw [HLT.out.1]
                          clear hm15
                          go_wp2_with fail
                          refine (is_mine hdN o HM15.out ((HG8.out.set_ hdN a o).small' (by omega)) (by decide) HXO.out).mono ?_
                          rintro e w16 ⟨rfl, hm16⟩
                          have HM16 := Lib.hid hm16
                          rw [HLT.out.2]
                          clear hm16
                          go_wp2_with fail
                          go_ret
                          obtain ⟨_, _, _, _, hbz⟩ := HM16.out
                          exact ⟨rfl, hbz⟩
                    exact auxc
            exact auxa
end Go.Proofs.YtlgmbljfjfcpoaaGreat.Tx
