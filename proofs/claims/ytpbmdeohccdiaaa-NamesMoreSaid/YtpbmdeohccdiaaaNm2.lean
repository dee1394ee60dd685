/- few; the walks of NamesUnder, NamesPaths, NamesIgnored. -/
import Derived.Test.YtpbmdeohccdiaaaNm1
namespace Go.Proofs.Ytpbmdeohccdiaaa.Tx
open Go.RowKit Go.Proofs.Ytpbmdeohccdiaaa.Sh

def FewPost (w : World) (ls : List (List UInt8)) (e : Ending) (w' : World) : Prop := ∃ t, e = .returned (.bool t) ∧ (t = true → ls.length ≤ 100 ∧ ∀ p ∈ ls, p.length ≤ 5000) ∧ w = w'
set_option maxRecDepth 100000 in
set_option maxHeartbeats 1600000 in
theorem few_any (v : Value) (ls : List (List UInt8)) (w : World) (h : SlV w v ((ls.map str).map sv)) (hsz : ∀ s ∈ ls, s.length ≤ maxLen) : Calls Try.prog 10 #[v] w (FewPost w ls) := by
  obtain ⟨A, c, rfl, hlc, hcm, hR⟩ := h.len
  rw [List.length_map, List.length_map] at hlc hR ⊢
  have HR := Lib.hid hR
  have HSZ := Lib.hid hsz
  unfold maxLen at hcm
  obtain ⟨l, hl⟩ : ∃ l, ls.length = l := ⟨_, rfl⟩
  rw [hl] at hlc hR ⊢
  have HL := Lib.hid hl
  clear h hR hl hsz
  go_enter Try.func10, Try.ntmps10
  go_wp2
  go_loop [3, 4] (fun n i => ∃ k m : Nat, k ≤ l ∧ k ≤ 100 ∧ i = .int .i64 k ∧ n = .int .i64 m ∧ m ≤ k * 5001 ∧ ∀ (j : Nat) (hj : j < ls.length), j < k → min ls[j].length 5001 ≤ m) (fun _ i => l - (intOf i).toNat)
  case atStart => exact ⟨0, 0, Nat.zero_le _, Nat.zero_le _, rfl, rfl, Nat.zero_le _, fun j _ hj => by omega⟩
  case round =>
    obtain ⟨k, m, hk, hk4, rfl, rfl, hm, hall⟩ := hrel
    have HALL := Lib.hid hall
    clear hall
    have m0 : (0 : Int) ≤ (m : Int) := by omega
    have m1 : (m : Int) ≤ 500100 := by omega
    by_cases hlt : k < l
    · have z1 : (k : Int) < (l : Int) := by omega
      by_cases h400 : k < 100
      · have z2 : (k : Int) < 100 := by omega
        have hkl : k < ls.length := by rw [HL.out]; exact hlt
        obtain ⟨ad, hA, hcell⟩ := reads_at HR.out k (sv (str ls[k])) (by rw [List.map_map, List.getElem?_map, List.getElem?_eq_getElem hkl]; rfl)
        have hcell' : w.cell? (ad.add k) = some (.string (str ls[k])) := hcell
        subst hA
        have hs := HSZ.out ls[k] (List.getElem_mem hkl)
        have hz := str_size ls[k]
        unfold maxLen at hs
        obtain ⟨x, hx⟩ : ∃ x, str ls[k] = x := ⟨_, rfl⟩
        obtain ⟨y, hy⟩ : ∃ y, ls[k].length = y := ⟨_, rfl⟩
        rw [hx, hy] at hz
        rw [hx] at hcell'
        rw [hy] at hs
        have HY := Lib.hid hy
        have z0 : (0 : Int) ≤ (k : Int) := by omega
        have s0 : (0 : Int) ≤ (y : Int) := by omega
        have s1 : (y : Int) ≤ 9223372036854775807 := by omega
        clear hx hy hcell
        by_cases hsm : y ≤ 5001
        · have s2 : (y : Int) ≤ 5001 := by omega
          go_wp2
          go_round
          case rel =>
            refine ⟨k + 1, m + y, by omega, by omega, by go_num, by go_num, by omega, fun j hj hjk => ?_⟩
            by_cases e : j = k
            · subst e; rw [HY.out]; omega
            · have := HALL.out j hj (by omega); omega
          case measure => simp [intOf]; omega
        · have s2 : (5001 : Int) < (y : Int) := by omega
          go_wp2
          go_round
          case rel =>
            refine ⟨k + 1, m + 5001, by omega, by omega, by go_num, by go_num, by omega, fun j hj hjk => ?_⟩
            by_cases e : j = k
            · subst e; rw [HY.out]; omega
            · have := HALL.out j hj (by omega); omega
          case measure => simp [intOf]; omega
      · obtain rfl : k = 100 := by omega
        have z3 : (100 : Int) < (l : Int) := by omega
        rw [show ((100 : Nat) : Int) = 100 from rfl]
        go_wp2
        go_ret
        exact ⟨false, rfl, (fun h => by cases h), rfl⟩
    · obtain rfl : k = l := by omega
      have z3 : (k : Int) ≤ 100 := by omega
      by_cases hm5 : m ≤ 5000
      · have z4 : (m : Int) ≤ 5000 := by omega
        go_wp2
        go_ret
        refine ⟨true, rfl, fun _ => ⟨by rw [HL.out]; exact hk4, fun p hp => ?_⟩, rfl⟩
        obtain ⟨j, hj, rfl⟩ := List.getElem_of_mem hp
        have := HALL.out j hj (by rw [HL.out] at hj; exact hj)
        omega
      · have z4 : (5000 : Int) < (m : Int) := by omega
        go_wp2
        go_ret
        refine ⟨decide ((m : Int) ≤ 5000), rfl, fun h => ?_, rfl⟩
        simp at h
        omega

theorem str_of (a : ByteArray) : ∃ cs : List UInt8, a = str cs ∧ cs.length = a.size := ⟨a.data.toList, rfl, rfl⟩
theorem texts_of {w : World} {a : Option Addr} {len cap : Nat} {ss : List ByteArray} (h : IsTexts w a len cap ss) : ∃ ls : List (List UInt8), ls.length = len ∧ SlV w (.slice a len cap) ((ls.map str).map sv) ∧ ∀ p ∈ ls, p.length ≤ maxLen := by
  obtain ⟨ts, h1, h2, h3⟩ := h.slv
  refine ⟨ts.map fun t => t.data.toList, by simpa using h1, ?_, fun p hp => ?_⟩
  · have : (ts.map fun t => t.data.toList).map str = ts := by
      rw [List.map_map]
      conv => rhs; rw [← List.map_id ts]
      rfl
    rw [this]
    exact h2
  · obtain ⟨t, ht, rfl⟩ := List.mem_map.1 hp
    exact h3 t ht

set_option maxRecDepth 100000 in
set_option maxHeartbeats 1600000 in
theorem under_in (xs ys ids : List UInt8) (n : Int) (w : World) (h1 : xs.length ≤ 1000) (h2 : ys.length ≤ 1000) (h3 : ids.length ≤ 1000) :
    Calls Try.prog 4 #[.string (str xs), .string (str ys), .string (str ids), .int .i64 n] w (Yes w) := by
  have z1 := str_size xs
  have z2 := str_size ys
  have z3 := str_size ids
  have y1 : ((str xs).size : Int) ≤ 1000 := by omega
  have y2 : ((str ys).size : Int) ≤ 1000 := by omega
  have y3 : ((str ids).size : Int) ≤ 1000 := by omega
  clear z1 z2 z3
  go_enter Try.func4, Try.ntmps4
  go_wp2_with fail
  refine (first_then (Below.refl _ _)).mono ?_
  rintro e w1 ⟨rfl, hb1⟩
  have HB1 := Lib.hid hb1
  clear hb1
  go_wp2_with fail
  refine (first_then HB1.out).mono ?_
  rintro e w2 ⟨rfl, hb2⟩
  have HB2 := Lib.hid hb2
  clear hb2 HB1
  go_wp2_with fail
  refine (nunder_any xs ys _ (by omega) (by omega)).mono ?_
  rintro e w3 ⟨rfl, hb3⟩
  have HB3 := Lib.hid (HB2.out.trans (hb3.mono HB2.out.size))
  clear hb3 HB2
  go_wp2_with fail
  refine (runder_any xs ys _ (by omega) (by omega)).mono ?_
  rintro e w4 ⟨rfl, hb4⟩
  have HB4 := Lib.hid (HB3.out.trans (hb4.mono HB3.out.size))
  clear hb4 HB3
  generalize underB xs ys = t1
  have e1 : (t1 == t1) = true := beq_self_eq_true _
  go_wp2_with fail
  refine (nparents_any ys _ (by omega)).mono ?_
  rintro e w5 ⟨v5, rfl, ho5, hb5⟩
  have HO5 := Lib.hid ho5
  have HB5 := Lib.hid (HB4.out.trans (hb5.mono HB4.out.size))
  clear ho5 hb5 HB4
  go_wp2_with fail
  refine (rparents_any ys _ (by omega)).mono ?_
  rintro e w6 ⟨v6, rfl, ho6, hb6⟩
  have HO6 := Lib.hid ho6
  have HO5' := Lib.hid (HO5.out.below hb6)
  have HB6 := Lib.hid (HB5.out.trans (hb6.mono HB5.out.size))
  clear ho6 hb6 HB5 HO5
  go_wp2_with fail
  refine (texts_same v5 v6 _ _ HO5'.out.slv HO6.out.slv).mono ?_
  rintro e w7 ⟨rfl, hb7⟩
  have HB7 := Lib.hid (HB6.out.trans (hb7.mono HB6.out.size))
  clear hb7 HB6
  go_wp2_with fail
  refine (ncopy_any xs ids n _ (by omega) (by omega)).mono ?_
  rintro e w8 ⟨rfl, hb8⟩
  have HB8 := Lib.hid (HB7.out.trans (hb8.mono HB7.out.size))
  clear hb8 HB7
  go_wp2_with fail
  refine (rcopy_any xs ids n _ (by omega) (by omega)).mono ?_
  rintro e w9 ⟨rfl, rfl⟩
  generalize str (copyL xs ids n) = t2
  have e2 : (t2.toList == t2.toList) = true := beq_self_eq_true _
  go_wp2_with fail
  go_ret
  exact ⟨rfl, HB8.out⟩
end Go.Proofs.Ytpbmdeohccdiaaa.Tx
