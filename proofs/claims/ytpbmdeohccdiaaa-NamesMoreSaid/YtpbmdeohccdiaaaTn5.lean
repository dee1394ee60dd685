/- The reference's Parents, Copy. -/
import Derived.Test.YtpbmdeohccdiaaaTn4
namespace Go.Proofs.Ytpbmdeohccdiaaa.Tx
open Go.RowKit Go.Proofs.Ytpbmdeohccdiaaa.Sh

/-- What stands ahead of each sign ahead of place k. -/
def parP (s : List UInt8) : Nat → List (List UInt8)
  | 0 => []
  | k + 1 => if s[k]? = some 47 then parP s k ++ [s.take k] else parP s k
def parentsL (s : List UInt8) : List (List UInt8) := if pathB s = true then parP s s.length else []
theorem parP_len (s : List UInt8) : ∀ k, (parP s k).length ≤ k
  | 0 => Nat.le_refl _
  | k + 1 => by
    have := parP_len s k
    unfold parP
    split
    · simp; omega
    · omega

set_option maxRecDepth 100000 in
set_option maxHeartbeats 1600000 in
theorem rparents_any (cs : List UInt8) (w : World) (hn : cs.length ≤ 1000000) : Calls Try.prog 24 #[.string (str cs)] w (TextsPost w ((parentsL cs).map str)) := by
  have hsz := str_size cs
  obtain ⟨t, ht⟩ : ∃ t, pathB cs = t := ⟨_, rfl⟩
  have HT := Lib.hid ht
  clear ht
  cases t with
  | false =>
    have HP : Hid (parentsL cs = []) := by unfold Hid parentsL; rw [HT.out]; rfl
    go_enter Try.func24, Try.ntmps24
    go_wp2_with fail
    refine (rpath_any cs _ hn).mono ?_
    rintro e w1 ⟨rfl, hb⟩
    rw [HT.out]
    have HB := Lib.hid hb
    clear hb
    go_wp2_with fail
    go_ret
    exact ⟨_, rfl, by rw [HP.out]; exact OwnV.nil_ _ _, HB.out⟩
  | true =>
    have HP : Hid (parentsL cs = parP cs cs.length) := by unfold Hid parentsL; rw [HT.out]; rfl
    obtain ⟨l, hL⟩ : ∃ l, cs.length = l := ⟨_, rfl⟩
    rw [hL] at hsz hn
    have HL := Lib.hid hL
    clear hL
    go_enter Try.func24, Try.ntmps24
    go_wp2_with fail
    refine (rpath_any cs _ (by rw [HL.out]; exact hn)).mono ?_
    rintro e w1 ⟨rfl, hb⟩
    rw [HT.out]
    have HB := Lib.hid hb
    clear hb
    go_wp2_with fail
    go_loopw [3, 4] (fun v i wr => ∃ k : Nat, k ≤ l ∧ i = .int .i64 k ∧ OwnV 9 wr w.heap.size v (((parP cs k).map str).map sv) ∧ Below w.heap.size w wr) (fun _ i _ => l - (intOf i).toNat)
    case atStart => exact ⟨0, by omega, rfl, OwnV.nil_ _ _, HB.out⟩
    case round =>
      clear HB
      obtain ⟨k, hk, rfl, ho, hb⟩ := hrel
      have HO := Lib.hid ho
      have HB := Lib.hid hb
      have hwz := hb.size
      clear ho hb
      have k0 : (0 : Int) ≤ (k : Int) := by omega
      by_cases hlt : k < l
      · have k1 : (k : Int) < (l : Int) := by omega
        have k2 : (k : Int) ≤ (l : Int) := by omega
        have hkc : k < cs.length := by rw [HL.out]; exact hlt
        have hix := index_str cs k hkc
        obtain ⟨x, hx⟩ : ∃ x, cs.getD k 0 = x := ⟨_, rfl⟩
        have hx' : cs[k]? = some x := by rw [← hx, List.getD_eq_getElem?_getD, List.getElem?_eq_getElem hkc]; rfl
        rw [hx] at hix
        have HX := Lib.hid hx'
        clear hx hx' hkc
        by_cases h3 : x = 47
        · subst h3
          rw [bi47] at hix
          have hnx : Hid (parP cs (k + 1) = parP cs k ++ [cs.take k]) := by unfold Hid; rw [parP, if_pos HX.out]
          have hsm : ((parP cs k).map str).length + 1 ≤ 2000000 := by rw [List.length_map]; have := parP_len cs k; omega
          go_wp2_with (at_builtin; refine append_text rfl (.tmp 18) (.tmp 22) rfl wr w.heap.size u3 ((parP cs k).map str) rfl HO.out ((str cs).extract 0 k) rfl hsm hwz ?_; intro v3 w3 ho3 hb3; have HO3 := Lib.hid ho3; have HB3 := Lib.hid hb3; clear ho3 hb3)
          go_roundw
          case rel =>
            refine ⟨k + 1, by omega, by go_num, ?_, HB.out.trans (HB3.out.mono (Nat.le_refl _))⟩
            have := HO3.out
            rw [slice_str, List.drop_zero] at this
            rw [hnx.out]
            simpa using this
          case measure => simp [intOf]; omega
        · have hnx : Hid (parP cs (k + 1) = parP cs k) := by
            unfold Hid
            rw [parP, if_neg (by rw [HX.out]; exact fun e => h3 (by injection e))]
          have e3 : (bi x == 47) = false := by rw [← bi47, beq_eq_false_iff_ne]; exact fun e => h3 (bi_inj e)
          generalize bi x = y at *
          clear h3
          go_wp2
          go_roundw
          case rel => exact ⟨k + 1, by omega, by go_num, by rw [hnx.out]; exact HO.out, HB.out⟩
          case measure => simp [intOf]; omega
      · obtain rfl : k = l := by omega
        go_wp2
        go_ret
        exact ⟨u3, rfl, by rw [HP.out, HL.out]; exact HO.out, HB.out⟩

/-- A copy's name. -/
def copyL (s id : List UInt8) (n : Int) : List UInt8 := s ++ [126] ++ id.take 8 ++ List.replicate (min n 100).toNat 126
set_option maxRecDepth 100000 in
set_option maxHeartbeats 1600000 in
theorem rcopy_any (cs ids : List UInt8) (n : Int) (w : World) (hn : cs.length ≤ 1000000) (hi : ids.length ≤ 1000000) :
    Calls Try.prog 26 #[.string (str cs), .string (str ids), .int .i64 n] w fun e w' => e = .returned (.string (str (copyL cs ids n))) ∧ w = w' := by
  have hsz := str_size cs
  have hiz := str_size ids
  obtain ⟨N, hN⟩ : ∃ N, (min n 100).toNat = N := ⟨_, rfl⟩
  have hN100 : N ≤ 100 := by omega
  have HN := Lib.hid hN
  have i0 : (0 : Int) ≤ (ids.length : Int) := by omega
  have i1 : (ids.length : Int) ≤ 1000000 := by omega
  have hbase : ∃ m : Nat, m = min ids.length 8 ∧ Hid (str cs ++ ⟨#[126]⟩ ++ (str ids).extract 0 m = str (cs ++ [126] ++ ids.take 8)) := by
    refine ⟨_, rfl, ?_⟩
    unfold Hid
    rw [show (⟨#[126]⟩ : ByteArray) = str [126] from rfl, str_append, slice_str, str_append, List.drop_zero]
    congr 2
    rcases Nat.le_total ids.length 8 with h | h
    · rw [Nat.min_eq_left h, List.take_of_length_le (Nat.le_refl _), List.take_of_length_le h]
    · rw [Nat.min_eq_right h]
  clear hN
  obtain ⟨m, hm, HBASE⟩ := hbase
  obtain ⟨base, hbs⟩ : ∃ base, cs ++ [126] ++ ids.take 8 = base := ⟨_, rfl⟩
  have hbl : base.length ≤ 1000009 := by rw [← hbs]; simp; omega
  have HC : Hid (str (copyL cs ids n) = str (base ++ List.replicate N 126)) := by unfold Hid copyL; rw [HN.out, hbs]
  have HBS : Hid (str cs ++ ⟨#[126]⟩ ++ (str ids).extract 0 m = str base) := by unfold Hid; rw [HBASE.out, hbs]
  clear hbs HBASE
  obtain ⟨li, hli⟩ : ∃ li, ids.length = li := ⟨_, rfl⟩
  rw [hli] at hiz hm i0 i1 hi
  obtain ⟨lc, hlc⟩ : ∃ lc, cs.length = lc := ⟨_, rfl⟩
  rw [hlc] at hsz hn
  clear hli hlc
  have c0 : (0 : Int) ≤ (lc : Int) := by omega
  have c1 : (lc : Int) ≤ 1000000 := by omega
  have hcase : ((li : Int) ≤ 8 ∧ m = li) ∨ (8 < (li : Int) ∧ m = 8) := by omega
  rcases hcase with ⟨h8, rfl⟩ | ⟨h8, rfl⟩
  all_goals
    clear hm
    go_enter Try.func26, Try.ntmps26
    go_wp2_with fail
    go_loop [0, 7] (fun sv i => ∃ k : Nat, k ≤ N ∧ i = .int .i64 k ∧ sv = .string (str (base ++ List.replicate k 126))) (fun _ i => N - (intOf i).toNat)
    case atStart => exact ⟨0, Nat.zero_le _, rfl, by rw [HBS.out, List.replicate_zero, List.append_nil]⟩
    case round =>
      obtain ⟨k, hk, rfl, rfl⟩ := hrel
      have k0 : (0 : Int) ≤ (k : Int) := by omega
      have hN := HN.out
      have hbk := str_size (base ++ List.replicate k 126)
      rw [List.length_append, List.length_replicate] at hbk
      have hsn : Hid (str (base ++ List.replicate k 126) ++ ⟨#[126]⟩ = str (base ++ List.replicate (k + 1) 126)) := by
        unfold Hid
        rw [show (⟨#[126]⟩ : ByteArray) = str [126] from rfl, str_append, List.append_assoc, ← List.replicate_succ']
      have HBK := Lib.hid hbk
      have b0 : ((str (base ++ List.replicate k 126)).size : Int) ≤ 1000109 := by omega
      clear hbk
      by_cases hlt : k < N
      · have hcase2 : (n ≤ 100 ∧ (k : Int) < n) ∨ (100 < n ∧ (k : Int) < 100) := by omega
        clear hN
        obtain ⟨sk, hsk⟩ : ∃ sk, str (base ++ List.replicate k 126) = sk := ⟨_, rfl⟩
        rw [hsk] at hsn b0 ⊢
        clear hsk HBK
        rcases hcase2 with ⟨g1, g2⟩ | ⟨g1, g2⟩
        all_goals
          go_wp2
          all_goals
            go_round
            case rel => exact ⟨k + 1, by omega, by go_num, by rw [hsn.out]⟩
            case measure => simp [intOf]; omega
      · obtain rfl : k = N := by omega
        have hcase2 : (n ≤ 100 ∧ n ≤ (k : Int)) ∨ (100 < n ∧ (100 : Int) ≤ (k : Int)) := by omega
        clear hN
        rcases hcase2 with ⟨g1, g2⟩ | ⟨g1, g2⟩
        all_goals
          go_wp2
          all_goals
            go_ret
            exact ⟨by rw [HC.out]; rfl, rfl⟩
end Go.Proofs.Ytpbmdeohccdiaaa.Tx
