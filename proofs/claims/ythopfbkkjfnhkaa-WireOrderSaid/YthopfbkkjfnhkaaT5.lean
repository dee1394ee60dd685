/- Few; wire's Unique and Merge. -/
import Derived.Test.YthopfbkkjfnhkaaT4
import Derived.Test.YthopfbkkjfnhkaaQ4
namespace Go.Proofs.Ythopfbkkjfnhkaa
open Go.RowKit

def FewPost (w : World) (l : Nat) (e : Ending) (w' : World) : Prop := ∃ t, e = .returned (.bool t) ∧ (t = true → l ≤ 400) ∧ w = w'
set_option maxRecDepth 100000 in
set_option maxHeartbeats 800000 in
theorem few_any (v : Value) (xs : List ByteArray) (w : World) (h : SlV w v (xs.map sv)) (hsz : ∀ s ∈ xs, s.size ≤ maxLen) : Calls Try.prog 22 #[v] w (FewPost w xs.length) := by
  obtain ⟨A, c, rfl, hlc, hcm, hR⟩ := h.len
  rw [List.length_map] at hlc hR ⊢
  have HR := Lib.hid hR
  have HSZ := Lib.hid hsz
  unfold maxLen at hcm
  obtain ⟨l, hl⟩ : ∃ l, xs.length = l := ⟨_, rfl⟩
  rw [hl] at hlc ⊢
  have HL := Lib.hid hl
  clear h hR hl hsz
  go_enter Try.func22, Try.ntmps22
  go_wp2
  go_loop [3, 4] (fun n i => ∃ k m : Nat, k ≤ l ∧ k ≤ 400 ∧ i = .int .i64 k ∧ n = .int .i64 m ∧ m ≤ k * 6001) (fun _ i => l - (intOf i).toNat)
  case atStart => exact ⟨0, 0, Nat.zero_le _, Nat.zero_le _, rfl, rfl, Nat.zero_le _⟩
  case round =>
    obtain ⟨k, m, hk, hk4, rfl, rfl, hm⟩ := hrel
    have m0 : (0 : Int) ≤ (m : Int) := by omega
    have m1 : (m : Int) ≤ 2400400 := by omega
    by_cases hlt : k < l
    · have z1 : (k : Int) < (l : Int) := by omega
      by_cases h400 : k < 400
      · have z2 : (k : Int) < 400 := by omega
        have hkl : k < xs.length := by rw [HL.out]; exact hlt
        obtain ⟨ad, rfl, hcell⟩ := texts_at HR.out k hkl
        have hs := HSZ.out xs[k] (List.getElem_mem hkl)
        unfold maxLen at hs
        generalize xs[k] = x at *
        have z0 : (0 : Int) ≤ (k : Int) := by omega
        have s0 : (0 : Int) ≤ (x.size : Int) := by omega
        have s1 : (x.size : Int) ≤ 9223372036854775807 := by omega
        clear hkl
        by_cases hsm : x.size ≤ 6001
        · have s2 : (x.size : Int) ≤ 6001 := by omega
          go_wp2
          go_round
          case rel => exact ⟨k + 1, m + x.size, by omega, by omega, by go_num, by go_num, by omega⟩
          case measure => simp [intOf]; omega
        · have s2 : (6001 : Int) < (x.size : Int) := by omega
          go_wp2
          go_round
          case rel => exact ⟨k + 1, m + 6001, by omega, by omega, by go_num, by go_num, by omega⟩
          case measure => simp [intOf]; omega
      · obtain rfl : k = 400 := by omega
        have z3 : (400 : Int) < (l : Int) := by omega
        rw [show ((400 : Nat) : Int) = 400 from rfl]
        go_wp2
        go_ret
        exact ⟨false, rfl, (fun h => by cases h), rfl⟩
    · obtain rfl : k = l := by omega
      have z3 : (k : Int) ≤ 400 := by omega
      go_wp2
      go_ret
      exact ⟨_, rfl, fun _ => hk4, rfl⟩

set_option maxRecDepth 100000 in
set_option maxHeartbeats 800000 in
theorem uniq_any (v : Value) (xs : List ByteArray) (w : World) (h : SlV w v (xs.map sv)) (hn : xs.length ≤ 1000000) : Calls Try.prog 27 #[v] w (TextsPost w (uniqT xs)) := by
  have hso := sort_any v xs w h hn
  have HSO := Lib.hid hso
  clear hso h
  go_enter Try.func27, Try.ntmps27
  go_wp2_with fail
  refine (HSO.out).mono ?_
  rintro e w1 ⟨v1, rfl, ho1, hb1⟩
  have HB1 := Lib.hid hb1
  have hsl := ho1.slv
  have hz1 := hb1.size
  obtain ⟨ts, hts⟩ : ∃ ts, sortT xs = ts := ⟨_, rfl⟩
  have hun : uniqT xs = ddN ts ts.length := by rw [← hts]; rfl
  have HUN := Lib.hid hun
  have htl : ts.length ≤ 1000000 := by rw [← hts, sortT_length]; exact hn
  rw [hts] at hsl
  obtain ⟨A, c, hv, hlc, hcm, hR⟩ := hsl.len
  rw [List.length_map] at hlc hR hv
  obtain ⟨l, hl⟩ : ∃ l, ts.length = l := ⟨_, rfl⟩
  rw [hl] at hlc htl hv
  have HR := Lib.hid hR
  have HL := Lib.hid hl
  subst hv
  unfold maxLen at hcm
  clear hl hR hsl hun hts ho1 hb1 HSO
  go_wp2_with fail
  go_loopw [4, 5, 6, 11] (fun v _ _ i wr => ∃ k : Nat, k ≤ l ∧ i = .int .i64 k ∧ OwnV 9 wr w1.heap.size v ((ddN ts k).map sv) ∧ Below w1.heap.size w1 wr) (fun _ _ _ i _ => l - (intOf i).toNat)
  case atStart => exact ⟨0, Nat.zero_le _, rfl, OwnV.nil_ _ _, Below.refl _ _⟩
  case round =>
    obtain ⟨k, hk, rfl, ho, hbw⟩ := hrel
    have hwz := hbw.size
    have HO := Lib.hid ho
    have HBW := Lib.hid hbw
    clear ho hbw
    by_cases hlt : k < l
    · have hkl : k < ts.length := by rw [HL.out]; exact hlt
      have HRW := Lib.hid ((HR.out.below HBW.out).more HBW.out.size)
      obtain ⟨ad, rfl, hcell⟩ := texts_at HRW.out k hkl
      have hsm : (ddN ts k).length + 1 ≤ 2000000 := by have := ddN_len ts k; omega
      have z0 : (0 : Int) ≤ (k : Int) := by omega
      have z1 : (k : Int) < (l : Int) := by omega
      obtain ⟨x, hx⟩ : ∃ x, ts[k] = x := ⟨_, rfl⟩
      rw [hx] at hcell
      have hcases : (((k : Int) == 0) = true ∧ ddN ts (k + 1) = ddN ts k ++ [x]) ∨ (∃ (j : Nat) (y : ByteArray), (k : Int) - 1 = (j : Int) ∧ ((k : Int) == 0) = false ∧ wr.cell? (ad.add j) = some (.string y) ∧ j < l ∧
          (((x.toList == y.toList) = true ∧ ddN ts (k + 1) = ddN ts k) ∨ ((x.toList == y.toList) = false ∧ ddN ts (k + 1) = ddN ts k ++ [x]))) := by
        by_cases hk0 : k = 0
        · subst hk0
          exact .inl ⟨rfl, by rw [ddN_first ts hkl, hx]⟩
        · right
          obtain ⟨j, rfl⟩ : ∃ j, k = j + 1 := ⟨k - 1, by omega⟩
          obtain ⟨ad', he, hcell'⟩ := texts_at HRW.out j (by omega)
          injection he with he
          subst he
          refine ⟨j, ts[j]'(by omega), by omega, by rw [beq_eq_false_iff_ne]; omega, hcell', by omega, ?_⟩
          by_cases hsame : ts[j + 1] = ts[j]'(by omega)
          · exact .inl ⟨by rw [← hx, hsame, beq_self_eq_true], ddN_skip ts j hkl hsame⟩
          · exact .inr ⟨by rw [← hx]; exact toList_ne hsame, by rw [ddN_more ts j hkl hsame, hx]⟩
      clear hx hkl
      rcases hcases with ⟨t0, hn⟩ | ⟨j, y, hj, t0, hcy, hjl, ⟨t1, hn⟩ | ⟨t1, hn⟩⟩
      · have hnx := Lib.hid hn
        clear hn
        go_wp2_with (at_builtin; refine append_text rfl (.tmp 27) (.tmp 29) rfl wr w1.heap.size u4 _ rfl HO.out x rfl hsm hwz ?_; intro v3 w3 ho3 hb3; have HO3 := Lib.hid ho3; have HB3 := Lib.hid hb3; clear ho3 hb3)
        go_roundw
        case rel => exact ⟨k + 1, by omega, by go_num, by rw [hnx.out]; exact HO3.out, HBW.out.trans HB3.out⟩
        case measure => simp [intOf]; omega
      · have hnx := Lib.hid hn
        have j0 : (0 : Int) ≤ (j : Int) := by omega
        have j1 : (j : Int) < (l : Int) := by omega
        have t2 : (x.toList != y.toList) = false := by rw [bne, t1]; rfl
        clear hn
        go_wp2
        go_roundw
        case rel => exact ⟨k + 1, by omega, by go_num, by rw [hnx.out]; exact HO.out, HBW.out⟩
        case measure => simp [intOf]; omega
      · have hnx := Lib.hid hn
        have j0 : (0 : Int) ≤ (j : Int) := by omega
        have j1 : (j : Int) < (l : Int) := by omega
        have t2 : (x.toList != y.toList) = true := by rw [bne, t1]; rfl
        clear hn
        go_wp2_with (at_builtin; refine append_text rfl (.tmp 27) (.tmp 29) rfl wr w1.heap.size u4 _ rfl HO.out x rfl hsm hwz ?_; intro v3 w3 ho3 hb3; have HO3 := Lib.hid ho3; have HB3 := Lib.hid hb3; clear ho3 hb3)
        go_roundw
        case rel => exact ⟨k + 1, by omega, by go_num, by rw [hnx.out]; exact HO3.out, HBW.out.trans HB3.out⟩
        case measure => simp [intOf]; omega
    · obtain rfl : k = l := by omega
      have hres := Lib.hid (HO.out.base hz1)
      go_wp2
      go_ret
      refine ⟨u4, rfl, ?_, HB1.out.trans (HBW.out.mono hz1)⟩
      rw [HUN.out, HL.out]
      exact hres.out

set_option maxRecDepth 100000 in
set_option maxHeartbeats 800000 in
theorem merge_any (v v' : Value) (xs ys : List ByteArray) (w : World) (h : SlV w v (xs.map sv)) (h' : SlV w v' (ys.map sv)) (hn : xs.length ≤ 400000) (hn' : ys.length ≤ 400000) : Calls Try.prog 29 #[v, v'] w (TextsPost w (uniqT (xs ++ ys))) := by
  obtain ⟨A, c, rfl, hlc, hcm, hR⟩ := h.len
  obtain ⟨A', c', rfl, hlc', hcm', hR'⟩ := h'.len
  rw [List.length_map] at hlc hR hlc' hR' ⊢
  rw [List.length_map]
  unfold maxLen at hcm hcm'
  obtain ⟨l, hl⟩ : ∃ l, xs.length = l := ⟨_, rfl⟩
  obtain ⟨l', hl'⟩ : ∃ l', ys.length = l' := ⟨_, rfl⟩
  rw [hl] at hlc hR hn ⊢
  rw [hl'] at hlc' hR' hn' ⊢
  have HR := Lib.hid hR
  have HR' := Lib.hid hR'
  have HL := Lib.hid hl
  have HL' := Lib.hid hl'
  have n0 : (0 : Int) ≤ (l : Int) := by omega
  have n1 : (l : Int) ≤ 400000 := by omega
  have n2 : (0 : Int) ≤ (l' : Int) := by omega
  have n3 : (l' : Int) ≤ 400000 := by omega
  have hmk : ∀ w : World, (Instr.makeSlice 36 (.int .i64 0) (.int .i64 ((l : Int) + (l' : Int)))).run Try.prog w = .ok (.slice (some ⟨w.heap.size, 0, none⟩) 0 (l + l')) (w.alloc (.cells (madeCells #[.string ⟨#[]⟩] (l + l')) 9)) := fun w => by
    have := make_texts 0 (l + l') (Nat.zero_le _) (by omega) w
    rwa [Int.natCast_add] at this
  have hown : OwnV 9 (w.alloc (.cells (madeCells #[.string ⟨#[]⟩] (l + l')) 9)) w.heap.size (.slice (some ⟨w.heap.size, 0, none⟩) 0 (l + l')) ([].map sv) :=
    World.ownsRow_made w _ (l + l') (Nat.le_refl _) (by unfold maxLen; omega) (by rw [size_madeCells]; omega)
  have hb0 : Below w.heap.size w (w.alloc (.cells (madeCells #[.string ⟨#[]⟩] (l + l')) 9)) := (Below.refl _ _).alloc (Nat.le_refl _) _
  have hr0 := (HR.out.below hb0).more hb0.size
  have HR0 := Lib.hid hr0
  have HOWN := Lib.hid hown
  have HB0 := Lib.hid hb0
  have hsm : ([] : List ByteArray).length + l ≤ 2000000 := by simp; omega
  have hsm2 : ([] ++ xs).length + l' ≤ 2000000 := by rw [List.nil_append, HL.out]; omega
  have hz : w.heap.size ≤ (w.alloc (.cells (madeCells #[.string ⟨#[]⟩] (l + l')) 9)).heap.size := by simp
  clear hl hl' h h' hR hR' hown hb0 hr0
  go_enter Try.func29, Try.ntmps29
  go_wp2_with (first
    | (at_builtin; refine append_texts rfl (.tmp 15) (.tmp 16) rfl w3 w.heap.size v3 ([] ++ xs) rfl HO3.out _ A' l' c' ys rfl HRR.out hsm2 hz3 ?_; intro v4 w4 ho4 hb4; have HO4 := Lib.hid ho4; have HB4 := Lib.hid (HB3.out.trans hb4); clear ho4 hb4)
    | (at_builtin; refine append_texts rfl (.tmp 12) (.tmp 13) rfl _ w.heap.size (.slice (some ⟨w.heap.size, 0, none⟩) 0 (l + l')) [] rfl HOWN.out _ A l c xs rfl HR0.out hsm hz ?_; intro v3 w3 ho3 hb3; have HO3 := Lib.hid ho3; have HB3 := Lib.hid (HB0.out.trans hb3); have hz3 := HB3.out.size; have HRR := Lib.hid (HR'.out.below HB3.out); clear ho3 hb3))
  have hsl := HO4.out.slv
  have hz4 := HB4.out.size
  have hun := uniq_any v4 _ w4 hsl (by rw [List.nil_append, List.length_append, HL.out, HL'.out]; omega)
  rw [List.nil_append] at hun
  refine hun.mono ?_
  rintro e w5 ⟨v5, rfl, ho5, hb5⟩
  have HO5 := Lib.hid (ho5.base hz4)
  have HB5 := Lib.hid (HB4.out.trans (hb5.mono hz4))
  clear hun hsl ho5 hb5
  go_wp2
  go_ret
  exact ⟨v5, rfl, HO5.out, HB5.out⟩
end Go.Proofs.Ythopfbkkjfnhkaa
