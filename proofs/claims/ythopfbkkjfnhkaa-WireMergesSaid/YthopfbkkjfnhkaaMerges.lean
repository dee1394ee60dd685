/- The walk of WireMerges. -/
import Derived.Test.YthopfbkkjfnhkaaSorts
namespace Go.Proofs.Ythopfbkkjfnhkaa
open Go.RowKit

set_option maxRecDepth 100000 in
set_option maxHeartbeats 1600000 in
theorem merges_any (v0 v1 v2 : Value) (xs ys zs : List ByteArray) (w : World) (h0 : SlV w v0 (xs.map sv)) (h1 : SlV w v1 (ys.map sv)) (h2 : SlV w v2 (zs.map sv)) (z0 : ∀ t ∈ xs, t.size ≤ maxLen) (z1 : ∀ t ∈ ys, t.size ≤ maxLen) (z2 : ∀ t ∈ zs, t.size ≤ maxLen) :
    Calls Try.prog 8 #[v0, v1, v2] w (Yes w) := by
  have H0 := Lib.hid h0
  have H1 := Lib.hid h1
  have H2 := Lib.hid h2
  have Z0 := Lib.hid z0
  have Z1 := Lib.hid z1
  have Z2 := Lib.hid z2
  clear h0 h1 h2 z0 z1 z2
  go_enter Try.func8, Try.ntmps8
  go_wp2_with fail
  refine (first_then (Below.refl _ _)).mono ?_
  rintro e w1 ⟨rfl, hb1⟩
  have HB1 := Lib.hid hb1
  clear hb1
  go_wp2_with fail
  refine (few_any v0 xs _ (H0.out.below HB1.out) Z0.out).mono ?_
  rintro e w2 ⟨t0, rfl, hf0, rfl⟩
  have HF0 := Lib.hid hf0
  clear hf0
  cases t0 with
  | false =>
    go_wp2_with fail
    refine (first_then HB1.out).mono ?_
    rintro e w3 ⟨rfl, hb3⟩
    go_wp2
    go_ret
    exact ⟨rfl, hb3⟩
  | true =>
    go_wp2_with fail
    refine (few_any v1 ys _ (H1.out.below HB1.out) Z1.out).mono ?_
    rintro e w3 ⟨t1, rfl, hf1, rfl⟩
    have HF1 := Lib.hid hf1
    clear hf1
    cases t1 with
    | false =>
      go_wp2_with fail
      refine (first_then HB1.out).mono ?_
      rintro e w3 ⟨rfl, hb3⟩
      go_wp2
      go_ret
      exact ⟨rfl, hb3⟩
    | true =>
      go_wp2_with fail
      refine (few_any v2 zs _ (H2.out.below HB1.out) Z2.out).mono ?_
      rintro e w3 ⟨t2, rfl, hf2, rfl⟩
      have HF2 := Lib.hid hf2
      clear hf2
      cases t2 with
      | false =>
        go_wp2_with fail
        refine (first_then HB1.out).mono ?_
        rintro e w3 ⟨rfl, hb3⟩
        go_wp2
        go_ret
        exact ⟨rfl, hb3⟩
      | true =>
        have n0 := HF0.out (by first | rfl | trivial)
        have n1 := HF1.out (by first | rfl | trivial)
        have n2 := HF2.out (by first | rfl | trivial)
        go_wp2_with fail
        refine (merge_any v0 v1 xs ys _ (H0.out.below HB1.out) (H1.out.below HB1.out) (by omega) (by omega)).mono ?_
        rintro e w4 ⟨v4, rfl, ho4, hb4⟩
        have HB4 := Lib.hid (HB1.out.trans (hb4.mono HB1.out.size))
        have hsl := ho4.slv
        obtain ⟨ms, hms⟩ : ∃ ms, uniqT (xs ++ ys) = ms := ⟨_, rfl⟩
        rw [hms] at hsl
        have HMS := Lib.hid hms
        have hml : ms.length ≤ 800 := by have := uniqT_len (xs ++ ys); rw [hms, List.length_append] at this; omega
        have hmem : ∀ z, z ∈ ms ↔ z ∈ xs ∨ z ∈ ys := fun z => by rw [← hms, (uniqT_spec _).2 z, List.mem_append]
        have HMEM := Lib.hid hmem
        have HM := Lib.hid hsl
        obtain ⟨A, c, hv, hlc, hcm, hR⟩ := hsl.len
        rw [List.length_map] at hv hlc hR
        obtain ⟨l, hl⟩ : ∃ l, ms.length = l := ⟨_, rfl⟩
        rw [hl] at hv hlc hml
        have HL := Lib.hid hl
        have HR := Lib.hid hR
        subst hv
        unfold maxLen at hcm
        clear hms hsl hl hR ho4 hb4 hmem
        go_wp2_with fail
        go_loopw [8] (fun i wr => ∃ k : Nat, k ≤ l ∧ i = .int .i64 k ∧ Below w4.heap.size w4 wr) (fun i _ => l - (intOf i).toNat)
        case atStart => exact ⟨0, Nat.zero_le _, rfl, Below.refl _ _⟩
        case round =>
          obtain ⟨k, hk, rfl, hbw⟩ := hrel
          have HBW := Lib.hid hbw
          have HW := Lib.hid (HB4.out.trans (hbw.mono HB4.out.size))
          clear hbw
          by_cases hlt : k < l
          · have hkl : k < ms.length := by rw [HL.out]; exact hlt
            obtain ⟨ad, rfl, hcell⟩ := texts_at ((HR.out.below HBW.out).more HBW.out.size) k hkl
            have hmk := (HMEM.out ms[k]).1 (List.getElem_mem hkl)
            generalize ms[k] = x at *
            have z0 : (0 : Int) ≤ (k : Int) := by omega
            have z1 : (k : Int) < (l : Int) := by omega
            clear hkl
            have hA := has_any v0 xs x wr (H0.out.below HW.out)
            have hB := has_any v1 ys x wr (H1.out.below HW.out)
            by_cases hx : x ∈ xs
            · rw [hasT_yes hx] at hA
              have HA := Lib.hid hA
              clear hA hB hmk hx
              go_wp2_with fail
              refine HA.out.mono ?_
              rintro e w5 ⟨rfl, rfl⟩
              go_wp2
              go_roundw
              case rel => exact ⟨k + 1, by omega, by go_num, HBW.out⟩
              case measure => simp [intOf]; omega
            · rw [hasT_no hx] at hA
              rw [hasT_yes (hmk.resolve_left hx)] at hB
              have HA := Lib.hid hA
              have HBB := Lib.hid hB
              clear hA hB hmk hx
              go_wp2_with fail
              refine HA.out.mono ?_
              rintro e w5 ⟨rfl, rfl⟩
              go_wp2_with fail
              refine HBB.out.mono ?_
              rintro e w5 ⟨rfl, rfl⟩
              go_wp2
              go_roundw
              case rel => exact ⟨k + 1, by omega, by go_num, HBW.out⟩
              case measure => simp [intOf]; omega
          · obtain rfl : k = l := by omega
            have HMW := Lib.hid (HM.out.below HBW.out)
            have hnA : (xs ++ ys).length ≤ 800 := by rw [List.length_append]; omega
            have e1 : uniqT (ys ++ xs) = ms := by rw [← HMS.out]; exact uniqT_same (fun z => by rw [List.mem_append, List.mem_append]; exact Or.comm)
            have e2 : uniqT (ms ++ xs) = ms := by
              rw [← HMS.out]
              exact uniqT_same (fun z => by rw [List.mem_append, (uniqT_spec _).2 z, List.mem_append]; constructor; (rintro (h | h); exact h; exact .inl h); exact .inl)
            have E1 := Lib.hid e1
            have E2 := Lib.hid e2
            clear e1 e2 hnA
            go_wp2_with fail
            refine (first_any _).mono ?_
            rintro e w5 ⟨rfl, hb5⟩
            have HB5 := Lib.hid (HW.out.trans (hb5.mono HW.out.size))
            have HM5 := Lib.hid (HMW.out.below hb5)
            clear hb5
            go_wp2_with fail
            refine (merge_any v1 v0 ys xs _ (H1.out.below HB5.out) (H0.out.below HB5.out) (by omega) (by omega)).mono ?_
            rintro e w6 ⟨v6, rfl, ho6, hb6⟩
            rw [E1.out] at ho6
            have HB6 := Lib.hid (HB5.out.trans (hb6.mono HB5.out.size))
            have HM6 := Lib.hid (HM5.out.below hb6)
            have HS6 := Lib.hid ho6.slv
            clear ho6 hb6
            go_wp2_with fail
            have hts := texts_same v6 _ ms _ HS6.out HM6.out
            refine hts.mono ?_
            rintro e w7 ⟨rfl, hb7⟩
            have HB7 := Lib.hid (HB6.out.trans (hb7.mono HB6.out.size))
            have HM7 := Lib.hid (HM6.out.below hb7)
            clear hb7 hts
            go_wp2_with fail
            refine (merge_any _ v0 ms xs _ HM7.out (H0.out.below HB7.out) (by rw [HL.out]; omega) (by omega)).mono ?_
            rintro e w8 ⟨v8, rfl, ho8, hb8⟩
            rw [E2.out] at ho8
            have HB8 := Lib.hid (HB7.out.trans (hb8.mono HB7.out.size))
            have HM8 := Lib.hid (HM7.out.below hb8)
            have HS8 := Lib.hid ho8.slv
            clear ho8 hb8
            go_wp2_with fail
            refine (texts_same v8 _ ms _ HS8.out HM8.out).mono ?_
            rintro e w9 ⟨rfl, hb9⟩
            have HB9 := Lib.hid (HB8.out.trans (hb9.mono HB8.out.size))
            have HM9 := Lib.hid (HM8.out.below hb9)
            clear hb9
            go_wp2_with fail
            refine (merge_any _ v2 ms zs _ HM9.out (H2.out.below HB9.out) (by rw [HL.out]; omega) (by omega)).mono ?_
            rintro e w10 ⟨v10, rfl, ho10, hb10⟩
            have HB10 := Lib.hid (HB9.out.trans (hb10.mono HB9.out.size))
            have HS10 := Lib.hid ho10.slv
            clear ho10 hb10
            go_wp2_with fail
            refine (merge_any v1 v2 ys zs _ (H1.out.below HB10.out) (H2.out.below HB10.out) (by omega) (by omega)).mono ?_
            rintro e w11 ⟨v11, rfl, ho11, hb11⟩
            have HB11 := Lib.hid (HB10.out.trans (hb11.mono HB10.out.size))
            have HS11 := Lib.hid (HS10.out.below hb11)
            have HT11 := Lib.hid ho11.slv
            clear ho11 hb11
            have hbc : (uniqT (ys ++ zs)).length ≤ 800 := by have := uniqT_len (ys ++ zs); rw [List.length_append] at this; omega
            go_wp2_with fail
            refine (merge_any v0 v11 xs (uniqT (ys ++ zs)) _ (H0.out.below HB11.out) HT11.out (by omega) (by omega)).mono ?_
            rintro e w12 ⟨v12, rfl, ho12, hb12⟩
            have HB12 := Lib.hid (HB11.out.trans (hb12.mono HB11.out.size))
            have HS12 := Lib.hid (HS11.out.below hb12)
            have e3 : uniqT (xs ++ uniqT (ys ++ zs)) = uniqT (ms ++ zs) := uniqT_same (fun z => by
              rw [List.mem_append, List.mem_append, (uniqT_spec _).2 z, List.mem_append, HMEM.out z, or_assoc])
            rw [e3] at ho12
            have HT12 := Lib.hid ho12.slv
            clear ho12 hb12 e3 hbc
            go_wp2_with fail
            refine (texts_same v10 v12 (uniqT (ms ++ zs)) _ HS12.out HT12.out).mono ?_
            rintro e w13 ⟨rfl, hb13⟩
            have HB13 := Lib.hid (HB12.out.trans (hb13.mono HB12.out.size))
            clear hb13
            go_wp2
            go_ret
            exact ⟨rfl, HB13.out⟩

theorem wireMerges_walk (a0 : Option Addr) (len0 cap0 : Nat) (z0 : List ByteArray) (a1 : Option Addr) (len1 cap1 : Nat) (z1 : List ByteArray) (a2 : Option Addr) (len2 cap2 : Nat) (z2 : List ByteArray) (w : World) (w0 : IsTexts w a0 len0 cap0 z0) (w1 : IsTexts w a1 len1 cap1 z1) (w2 : IsTexts w a2 len2 cap2 z2) :
    Calls Try.prog 8 #[.slice a0 len0 cap0, .slice a1 len1 cap1, .slice a2 len2 cap2] w (Yes w) := by
  obtain ⟨xs, _, h0, s0⟩ := w0.slv
  obtain ⟨ys, _, h1, s1⟩ := w1.slv
  obtain ⟨zs, _, h2, s2⟩ := w2.slv
  exact merges_any _ _ _ xs ys zs w h0 h1 h2 s0 s1 s2
end Go.Proofs.Ythopfbkkjfnhkaa
