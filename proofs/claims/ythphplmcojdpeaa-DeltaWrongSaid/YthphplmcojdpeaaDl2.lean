/- Apply of a delta; the document's own Sizes, step, Apply. -/
import Derived.Test.YthphplmcojdpeaaDl1
set_option linter.unusedVariables false
set_option linter.unusedSimpArgs false
namespace Go.Proofs.Ythphplmcojdpeaa
open Go.RowKit

/-- What Apply leaves: new bytes, what is wrong. -/
def ApplyPost (w : World) (r : List UInt8 × Int) (e : Ending) (w' : World) : Prop := ∃ v, e = .returned (.tuple #[v, .int .i64 r.2]) ∧ Own w' w.heap.size v r.1 ∧ Below w.heap.size w w'

set_option maxRecDepth 100000 in
set_option maxHeartbeats 1600000 in
theorem apply_any (vb vd : Value) (base d : List UInt8) (w : World) (hb : Sl w vb base) (hd : Sl w vd d) :
    Calls Try.prog 15 #[vb, vd] w (ApplyPost w (applyD base d)) := by
  obtain ⟨A, c, hvb, hl, hcm, hI⟩ := hb.len
  unfold maxLen at hcm
  rcases two_cases d 0 (Nat.zero_le _) with ⟨e, h, he⟩ | ⟨a, b, h, hq, ha, hb'⟩
  · have h : two d 0 = (0, 0, 0, e) := h
    rw [apply_err h (by omega)]
    have HG := Lib.hid (gettwo_any vd d _ _ _ _ _ w hd h)
    have hne : (e != 0) = true := by rcases he with rfl | rfl <;> rfl
    subst hvb
    clear h hd hb hI he
    go_enter Try.func15, Try.ntmps15
    go_wp2_with fail
    refine HG.out.mono ?_
    rintro x w' ⟨rfl, rfl⟩
    go_wp2
    go_ret2
    exact ⟨_, rfl, Own.nil_ _ _, Below.refl _ _⟩
  · rw [Nat.zero_add] at h hq
    have h : two d 0 = ((a : Int), (b : Int), (((putL a).length + (putL b).length : Nat) : Int), 0) := h
    have HG := Lib.hid (gettwo_any vd d _ _ _ _ _ w hd h)
    obtain ⟨q, hQ⟩ : ∃ q, (putL a).length + (putL b).length = q := ⟨_, rfl⟩
    rw [hQ] at h hq HG
    have HB := Lib.hid hb
    subst hvb
    obtain ⟨l, hL⟩ : ∃ l, base.length = l := ⟨_, rfl⟩
    rw [hL] at hl HB ⊢
    by_cases hal : a = l
    · subst hal
      by_cases hbl : 20000 < b
      · rw [apply_long h (by rw [hL]) (by omega)]
        have hbl2 : (20000 : Int) < (b : Int) := by omega
        clear h hd hb hI hbl hQ hq HB hL hcm hl
        go_enter Try.func15, Try.ntmps15
        go_wp2_with fail
        refine HG.out.mono ?_
        rintro x w' ⟨rfl, rfl⟩
        go_wp2
        go_ret2
        exact ⟨_, rfl, Own.nil_ _ _, Below.refl _ _⟩
      · have hrun := apply_run (base := base) (by rw [hL]; exact h) (by omega)
        obtain ⟨R, hR⟩ : ∃ R, applyD base d = R := ⟨_, rfl⟩
        rw [hR] at hrun ⊢
        have HRUN := Lib.hid hrun
        have HD := Lib.hid hd
        have hbl2 : (b : Int) ≤ (20000 : Int) := by omega
        have hb0 : (0 : Int) ≤ (b : Int) := by omega
        have hown := own_made w b (by unfold maxLen; omega)
        have hmk : ∀ w : World, (Instr.makeSlice 22 (.int .i64 0) (.int .i64 (b : Int))).run Try.prog w = .ok (.slice (some ⟨w.heap.size, 0, none⟩) 0 b) (w.alloc (.cells (madeCells #[.int .u8 0] b) 5)) := fun w => make_bytes b (by omega) w
        obtain ⟨n, hN⟩ : ∃ n, d.length = n := ⟨_, rfl⟩
        obtain ⟨D, cd, hvd, hld, hcmd, hId⟩ := hd.len
        unfold maxLen at hcmd
        subst hvd
        rw [hN] at hq hld HRUN HG HD ⊢
        have HN := Lib.hid hN
        clear h hd hb hI hrun hbl hQ hId hN hR hL
        go_enter Try.func15, Try.ntmps15
        go_wp2_with fail
        refine HG.out.mono ?_
        rintro x w' ⟨rfl, rfl⟩
        go_wp2_with fail
        have hO0 : Own (w.alloc (.cells (madeCells #[.int .u8 0] b) 5)) w.heap.size (.slice (some ⟨w.heap.size, 0, none⟩) 0 b) [] := by simpa [Own] using hown
        have HO0 := Lib.hid hO0
        have HBW0 := Lib.hid ((Below.refl w.heap.size w).alloc (Nat.le_refl _) (.cells (madeCells #[.int .u8 0] b) 5))
        clear hmk hown hO0
        generalize w.alloc (.cells (madeCells #[.int .u8 0] b) 5) = W0 at *
        go_loopw [8, 10] (fun x v wr => ∃ (k : Nat) (out : List UInt8) (f : Nat), x = .int .i64 k ∧ k ≤ n ∧ out.length ≤ b ∧ n - k < f ∧ Own wr w.heap.size v out ∧ Below w.heap.size w wr ∧ runD base d b f k out = R) (fun x _ _ => n - (intOf x).toNat)
        case atStart => exact ⟨q, [], n + 1, rfl, hq, by simp, by omega, HO0.out, HBW0.out, HRUN.out.symm⟩
        case round =>
          obtain ⟨k, out, f, rfl, hk, hol, hf, ho, hbw, hrd⟩ := hrel
          obtain ⟨f, rfl⟩ : ∃ g, f = g + 1 := ⟨f - 1, by omega⟩
          obtain ⟨A1, c1, rfl, hl1, hm1⟩ := ho.length
          unfold maxLen at hm1
          have HO := Lib.hid ho
          have HBW := Lib.hid hbw
          have HRD := Lib.hid hrd
          have hwz := hbw.size
          have HDr := Lib.hid (HD.out.below hbw)
          have HBr := Lib.hid (HB.out.below hbw)
          clear ho hbw hrd hq
          obtain ⟨m, hM⟩ : ∃ m, out.length = m := ⟨_, rfl⟩
          rw [hM] at hol hl1 HO ⊢
          have HM := Lib.hid hM
          clear hM
          have hm3 : (m : Int) ≤ (b : Int) := by omega
          have hm4 : (0 : Int) ≤ (m : Int) := by omega
          by_cases hkn : k < n
          · have hkn2 : (k : Int) < (n : Int) := by omega
            have hkd : k < d.length := by rw [HN.out]; exact hkn
            have HS := Lib.hid (step_any _ _ base d k wr HBr.out HDr.out hkd)
            rcases step_cases base d k hkd with ⟨e, hs, h1, h2⟩ | ⟨p, q', hs, h1, h2, h3⟩
            · rw [hs] at HS
              have hres := HRD.out
              rw [run_err hkd hs (by omega)] at hres
              have hne : (e != 0) = true := by simp; omega
              clear hkd hs h1 h2 hkn
              go_wp2_with fail
              refine HS.out.mono ?_
              rintro x w' ⟨v, rfl, hv, rfl⟩
              clear hv
              go_wp2
              go_ret2
              exact ⟨_, by rw [← hres]; rfl, by rw [← hres]; exact Own.nil_ _ _, HBW.out⟩
            · rw [hs] at HS
              by_cases hlong : b < m + p.length
              · have hres := HRD.out
                rw [run_long hkd hs (by rw [HM.out]; exact hlong)] at hres
                have HRES := Lib.hid hres
                have hlg : (b : Int) - (m : Int) < (p.length : Int) := by omega
                obtain ⟨pl, hpl⟩ : ∃ pl, p.length = pl := ⟨_, rfl⟩
                clear hkd hs hkn hres h1 h2 h3 hlong
                go_wp2_with fail
                refine HS.out.mono ?_
                rintro x w' ⟨v, rfl, hv, rfl⟩
                obtain ⟨P, cp, rfl, hp1, hp2, hp3⟩ := hv.len
                unfold maxLen at hp2
                rw [hpl] at hlg hp1 ⊢
                clear hv hp3 hpl
                go_wp2
                go_ret2
                exact ⟨_, by rw [← HRES.out]; rfl, by rw [← HRES.out]; exact Own.nil_ _ _, HBW.out⟩
              · have hres := HRD.out
                rw [run_on hkd hs (by rw [HM.out]; omega)] at hres
                have HRES := Lib.hid hres
                have hlg : (p.length : Int) ≤ (b : Int) - (m : Int) := by omega
                obtain ⟨pl, hpl⟩ : ∃ pl, p.length = pl := ⟨_, rfl⟩
                have hsm : out.length + pl ≤ 140737488355328 := by have := HM.out; omega
                have hmp : m + pl ≤ b := by omega
                have hq2 : q' ≤ n := by have := HN.out; omega
                have hkq : n - q' < f := by omega
                have HKQ := Lib.hid h1
                clear hkd hs hkn hres h2 h3 hlong h1
                go_wp2_with fail
                refine HS.out.mono ?_
                rintro x w' ⟨v, rfl, hv, rfl⟩
                obtain ⟨P, cp, rfl, hp1, hp2, hp3⟩ := hv.len
                have HP3 := Lib.hid hp3.reads
                have HPL := Lib.hid hpl
                unfold maxLen at hp2
                rw [hpl] at hlg hp1 HP3 ⊢
                clear hv hp3 hpl
                go_wp2_with (at_builtin; refine append_bytes rfl (.tmp 57) (.tmp 58) rfl wr w.heap.size _ out rfl HO.out _ P pl cp p rfl HP3.out hsm hwz ?_; intro v3 w3 ho3 hb3; have HO3 := Lib.hid ho3; have HB3 := Lib.hid hb3; clear ho3 hb3)
                refine ⟨⟨q', out ++ p, f, rfl, hq2, ?_, hkq, HO3.out, HBW.out.trans HB3.out, HRES.out⟩, ?_⟩
                · rw [List.length_append, HM.out, HPL.out]; exact hmp
                · have := HKQ.out; simp [intOf]; omega
          · have hkn2 : (n : Int) ≤ (k : Int) := by omega
            have hres := HRD.out
            rw [run_end (by rw [HN.out]; omega), HM.out] at hres
            have HRES := Lib.hid hres
            clear hres hkn
            by_cases hsh : m < b
            · have hsh2 : (m : Int) < (b : Int) := by omega
              have hres := HRES.out
              rw [if_pos hsh] at hres
              have HRES2 := Lib.hid hres
              clear hres hsh
              go_wp2
              go_ret2
              exact ⟨_, by rw [← HRES2.out]; rfl, by rw [← HRES2.out]; exact Own.nil_ _ _, HBW.out⟩
            · have hsh2 : (b : Int) ≤ (m : Int) := by omega
              have hres := HRES.out
              rw [if_neg hsh] at hres
              have HRES2 := Lib.hid hres
              clear hres hsh
              go_wp2
              go_ret2
              exact ⟨_, by rw [← HRES2.out]; rfl, by rw [← HRES2.out]; exact HO.out, HBW.out⟩
    · rw [apply_sum (base := base) h (by rw [hL]; omega)]
      have hne : ((a : Int) != (l : Int)) = true := by simp; omega
      clear h hd hb hI hq hQ HB hal hL
      go_enter Try.func15, Try.ntmps15
      go_wp2_with fail
      refine HG.out.mono ?_
      rintro x w' ⟨rfl, rfl⟩
      go_wp2
      go_ret2
      exact ⟨_, rfl, Own.nil_ _ _, Below.refl _ _⟩
end Go.Proofs.Ythphplmcojdpeaa
