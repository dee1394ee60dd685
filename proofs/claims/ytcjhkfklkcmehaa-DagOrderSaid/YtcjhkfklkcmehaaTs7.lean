/- Few; wire's Unique and Merge. -/
import Derived.Test.YtcjhkfklkcmehaaTs6
import Derived.Test.YtcjhkfklkcmehaaTs1
namespace Go.Proofs.Ytcjhkfklkcmehaa.Tx
open Go.RowKit Go.Proofs.Ytcjhkfklkcmehaa.Sh

set_option maxRecDepth 100000 in
set_option maxHeartbeats 800000 in
theorem uniq_any (v : Value) (xs : List ByteArray) (w : World) (h : SlV w v (xs.map sv)) (hn : xs.length ≤ 1000000) : Calls Try.prog 37 #[v] w (TextsPost w (uniqT xs)) := by
  have hso := sort_any v xs w h hn
  have HSO := Lib.hid hso
  clear hso h
  go_enter Try.func37, Try.ntmps37
  go_wp2_with fail
  refine (HSO.out).mono ?_
  rintro e w1 ⟨v1, rfl, ho1, hb1⟩
  have HB1 := Lib.hid hb1
  have hsl := ho1.slv
  have hz1 := hb1.size
  obtain ⟨ts, hts⟩ : ∃ ts, sortT xs = ts := ⟨_, rfl⟩
  have hun : uniqT xs = ddN ts ts.length := by rw [← hts]; rfl
  have HUN := Lib.hid hun
  have htl : ts.length ≤ 1000000 := by rw [← hts, sortT_length]; exact hn
  rw [hts] at hsl
  obtain ⟨A, c, hv, hlc, hcm, hR⟩ := hsl.len
  rw [List.length_map] at hlc hR hv
  obtain ⟨l, hl⟩ : ∃ l, ts.length = l := ⟨_, rfl⟩
  rw [hl] at hlc htl hv
  have HR := Lib.hid hR
  have HL := Lib.hid hl
  subst hv
  unfold maxLen at hcm
  clear hl hR hsl hun hts ho1 hb1 HSO
  go_wp2_with fail
  go_loopw [4, 5, 6, 11] (fun v _ _ i wr => ∃ k : Nat, k ≤ l ∧ i = .int .i64 k ∧ OwnV 9 wr w1.heap.size v ((ddN ts k).map sv) ∧ Below w1.heap.size w1 wr) (fun _ _ _ i _ => l - (intOf i).toNat)
  case atStart => exact ⟨0, Nat.zero_le _, rfl, OwnV.nil_ _ _, Below.refl _ _⟩
  case round =>
    obtain ⟨k, hk, rfl, ho, hbw⟩ := hrel
    have hwz := hbw.size
    have HO := Lib.hid ho
    have HBW := Lib.hid hbw
    clear ho hbw
    by_cases hlt : k < l
    · have hkl : k < ts.length := by rw [HL.out]; exact hlt
      have HRW := Lib.hid ((HR.out.below HBW.out).more HBW.out.size)
      obtain ⟨ad, rfl, hcell⟩ := texts_at HRW.out k hkl
      have hsm : (ddN ts k).length + 1 ≤ 2000000 := by have := ddN_len ts k; omega
      have z0 : (0 : Int) ≤ (k : Int) := by omega
      have z1 : (k : Int) < (l : Int) := by omega
      obtain ⟨x, hx⟩ : ∃ x, ts[k] = x := ⟨_, rfl⟩
      rw [hx] at hcell
      have hcases : (((k : Int) == 0) = true ∧ ddN ts (k + 1) = ddN ts k ++ [x]) ∨ (∃ (j : Nat) (y : ByteArray), (k : Int) - 1 = (j : Int) ∧ ((k : Int) == 0) = false ∧ wr.cell? (ad.add j) = some (.string y) ∧ j < l ∧
          (((x.toList == y.toList) = true ∧ ddN ts (k + 1) = ddN ts k) ∨ ((x.toList == y.toList) = false ∧ ddN ts (k + 1) = ddN ts k ++ [x]))) := by
        by_cases hk0 : k = 0
        · subst hk0
          exact .inl ⟨rfl, by rw [ddN_first ts hkl, hx]⟩
        · right
          obtain ⟨j, rfl⟩ : ∃ j, k = j + 1 := ⟨k - 1, by omega⟩
          obtain ⟨ad', he, hcell'⟩ := texts_at HRW.out j (by omega)
          injection he with he
          subst he
          refine ⟨j, ts[j]'(by omega), by omega, by rw [beq_eq_false_iff_ne]; omega, hcell', by omega, ?_⟩
          by_cases hsame : ts[j + 1] = ts[j]'(by omega)
          · exact .inl ⟨by rw [← hx, hsame, beq_self_eq_true], ddN_skip ts j hkl hsame⟩
          · exact .inr ⟨by rw [← hx]; exact toList_ne hsame, by rw [ddN_more ts j hkl hsame, hx]⟩
      clear hx hkl
      rcases hcases with ⟨t0, hn⟩ | ⟨j, y, hj, t0, hcy, hjl, ⟨t1, hn⟩ | ⟨t1, hn⟩⟩
      · have hnx := Lib.hid hn
        clear hn
        go_wp2_with (at_builtin; refine append_text rfl (.tmp 27) (.tmp 29) rfl wr w1.heap.size u4 _ rfl HO.out x rfl hsm hwz ?_; intro v3 w3 ho3 hb3; have HO3 := Lib.hid ho3; have HB3 := Lib.hid hb3; clear ho3 hb3)
        go_roundw
        case rel => exact ⟨k + 1, by omega, by go_num, by rw [hnx.out]; exact HO3.out, HBW.out.trans HB3.out⟩
        case measure => simp [intOf]; omega
      · have hnx := Lib.hid hn
        have j0 : (0 : Int) ≤ (j : Int) := by omega
        have j1 : (j : Int) < (l : Int) := by omega
        have t2 : (x.toList != y.toList) = false := by rw [bne, t1]; rfl
        clear hn
        go_wp2
        go_roundw
        case rel => exact ⟨k + 1, by omega, by go_num, by rw [hnx.out]; exact HO.out, HBW.out⟩
        case measure => simp [intOf]; omega
      · have hnx := Lib.hid hn
        have j0 : (0 : Int) ≤ (j : Int) := by omega
        have j1 : (j : Int) < (l : Int) := by omega
        have t2 : (x.toList != y.toList) = true := by rw [bne, t1]; rfl
        clear hn
        go_wp2_with (at_builtin; refine append_text rfl (.tmp 27) (.tmp 29) rfl wr w1.heap.size u4 _ rfl HO.out x rfl hsm hwz ?_; intro v3 w3 ho3 hb3; have HO3 := Lib.hid ho3; have HB3 := Lib.hid hb3; clear ho3 hb3)
        go_roundw
        case rel => exact ⟨k + 1, by omega, by go_num, by rw [hnx.out]; exact HO3.out, HBW.out.trans HB3.out⟩
        case measure => simp [intOf]; omega
    · obtain rfl : k = l := by omega
      have hres := Lib.hid (HO.out.base hz1)
      go_wp2
      go_ret
      refine ⟨u4, rfl, ?_, HB1.out.trans (HBW.out.mono hz1)⟩
      rw [HUN.out, HL.out]
      exact hres.out

end Go.Proofs.Ytcjhkfklkcmehaa.Tx
