/- marref.Split. -/
import Derived.Test.YtchoklhadnoidaaTx0
import Derived.Test.YtchoklhadnoidaaTq0
namespace Go.Proofs.Ytchoklhadnoidaa.Tx
open Go.RowKit Go.Proofs.Ytchoklhadnoidaa.Sh

theorem slice_str (cs : List UInt8) (a b : Nat) : (str cs).extract a b = str ((cs.take b).drop a) := by
  unfold str
  apply ByteArray.ext
  rw [ByteArray.data_extract]
  apply Array.ext'
  rw [Array.toList_extract, List.extract_eq_take_drop, List.drop_take]

set_option maxRecDepth 100000 in
set_option maxHeartbeats 800000 in
theorem rsplit_any (cs : List UInt8) (g : UInt8) (w : World) (hn : cs.length ≤ 1000000) : Calls Try.prog 28 #[.string (str cs), .int .u8 (bi g)] w (TextsPost w ((splitL g cs).map str)) := by
  have hsz := str_size cs
  obtain ⟨l, hL⟩ : ∃ l, cs.length = l := ⟨_, rfl⟩
  rw [hL] at hsz hn
  have HL := Lib.hid hL
  clear hL
  go_enter Try.func28, Try.ntmps28
  go_wp2_with fail
  go_loopw [5, 6, 7] (fun v fr i wr => ∃ (k f : Nat) (ps : List (List UInt8)), k ≤ l + 1 ∧ f ≤ k ∧ ps.length ≤ f ∧ i = .int .i64 k ∧ fr = .int .i64 f ∧ (∀ j, f ≤ j → j < k → cs[j]? ≠ some g) ∧
      ((k ≤ l ∧ splitL g cs = ps ++ splitL g (cs.drop f)) ∨ (k = l + 1 ∧ f = k ∧ splitL g cs = ps)) ∧ OwnV 9 wr w.heap.size v ((ps.map str).map sv) ∧ Below w.heap.size w wr) (fun _ _ i _ => l + 1 - (intOf i).toNat)
  case atStart => exact ⟨0, 0, [], by omega, by omega, by simp, rfl, rfl, fun j h1 h2 => by omega, .inl ⟨by omega, by simp⟩, OwnV.nil_ _ _, Below.refl _ _⟩
  case round =>
    obtain ⟨k, f, ps, hk, hf, hpl, rfl, rfl, hno, hst, ho, hb⟩ := hrel
    have HO := Lib.hid ho
    have HB := Lib.hid hb
    have HNO := Lib.hid hno
    have hwz := hb.size
    clear ho hb hno
    have k0 : (0 : Int) ≤ (k : Int) := by omega
    have f0 : (0 : Int) ≤ (f : Int) := by omega
    have fk : (f : Int) ≤ (k : Int) := by omega
    by_cases hlt : k < l
    · have k1 : (k : Int) < (l : Int) := by omega
      have k2 : (k : Int) ≤ (l : Int) := by omega
      have k3 : ((k : Int) == (l : Int)) = false := by rw [beq_eq_false_iff_ne]; omega
      have hkc : k < cs.length := by rw [HL.out]; exact hlt
      have hix := index_str cs k hkc
      obtain ⟨x, hx⟩ : ∃ x, cs.getD k 0 = x := ⟨_, rfl⟩
      have hx' : cs[k]? = some x := by rw [← hx, List.getD_eq_getElem?_getD, List.getElem?_eq_getElem hkc]; rfl
      rw [hx] at hix
      have HX := Lib.hid hx'
      obtain ⟨_, hs⟩ | ⟨h0, _⟩ := hst
      rotate_left
      · omega
      have HS := Lib.hid hs
      clear hs hx hx' hkc
      by_cases hg : x = g
      · subst hg
        have e1 : (bi x == bi x) = true := beq_self_eq_true _
        have hsm : (ps.map str).length + 1 ≤ 2000000 := by rw [List.length_map]; omega
        go_wp2_with (at_builtin; refine append_text rfl (.tmp 25) (.tmp 30) rfl wr w.heap.size u5 (ps.map str) rfl HO.out ((str cs).extract f k) rfl hsm hwz ?_; intro v3 w3 ho3 hb3; have HO3 := Lib.hid ho3; have HB3 := Lib.hid hb3; clear ho3 hb3)
        go_roundw
        case rel =>
          have hlk : k < cs.length := by rw [HL.out]; exact hlt
          refine ⟨k + 1, k + 1, ps ++ [(cs.take k).drop f], by omega, by omega, by simp; omega, by go_num, by go_num, fun j h1 h2 => by omega, .inl ⟨by omega, ?_⟩, ?_, HB.out.trans (HB3.out.mono (Nat.le_refl _))⟩
          · rw [HS.out, drop_cut cs f k hf hlk]
            have hx2 : cs[k] = x := by have := HX.out; rw [List.getElem?_eq_getElem hlk] at this; injection this
            rw [hx2, splitL_cut (not_mem_cut HNO.out), List.append_assoc]
            rfl
          · have := HO3.out
            rw [slice_str] at this
            simpa using this
        case measure => simp [intOf]; omega
      · have e1 : (bi x == bi g) = false := by rw [beq_eq_false_iff_ne]; exact fun e => hg (bi_inj e)
        go_wp2
        go_roundw
        case rel =>
          refine ⟨k + 1, f, ps, by omega, by omega, hpl, by go_num, rfl, fun j h1 h2 => ?_, .inl ⟨by omega, HS.out⟩, HO.out, HB.out⟩
          by_cases hj : j = k
          · subst hj; rw [HX.out]; exact fun e => hg (by injection e)
          · exact HNO.out j h1 (by omega)
        case measure => simp [intOf]; omega
    · by_cases hl2 : k = l
      · subst hl2
        have k2 : (k : Int) ≤ (k : Int) := Int.le_refl _
        have k3 : ((k : Int) == (k : Int)) = true := beq_self_eq_true _
        obtain ⟨_, hs⟩ | ⟨h0, _⟩ := hst
        rotate_left
        · omega
        have HS := Lib.hid hs
        clear hs
        have hsm : (ps.map str).length + 1 ≤ 2000000 := by rw [List.length_map]; omega
        go_wp2_with (at_builtin; refine append_text rfl (.tmp 25) (.tmp 30) rfl wr w.heap.size u5 (ps.map str) rfl HO.out ((str cs).extract f k) rfl hsm hwz ?_; intro v3 w3 ho3 hb3; have HO3 := Lib.hid ho3; have HB3 := Lib.hid hb3; clear ho3 hb3)
        go_roundw
        case rel =>
          refine ⟨k + 1, k + 1, ps ++ [(cs.take k).drop f], by omega, by omega, by simp; omega, by go_num, by go_num, fun j h1 h2 => by omega, .inr ⟨rfl, rfl, ?_⟩, ?_, HB.out.trans (HB3.out.mono (Nat.le_refl _))⟩
          · rw [HS.out]
            have h1 := not_mem_cut HNO.out
            rw [List.take_of_length_le (by rw [HL.out]; exact Nat.le_refl _)] at h1 ⊢
            rw [splitL_none h1]
          · have := HO3.out
            rw [slice_str] at this
            simpa using this
        case measure => simp [intOf]
      · obtain ⟨h0, _⟩ | ⟨h0, h1, hs⟩ := hst
        · omega
        subst h0
        have HS := Lib.hid hs
        have k2 : ¬ (((l + 1 : Nat) : Int) ≤ (l : Int)) := by omega
        have k3 : (l : Int) < ((l + 1 : Nat) : Int) := by omega
        clear hs h1
        go_wp2
        go_ret
        exact ⟨u5, rfl, by rw [HS.out]; exact HO.out, HB.out⟩
end Go.Proofs.Ytchoklhadnoidaa.Tx
