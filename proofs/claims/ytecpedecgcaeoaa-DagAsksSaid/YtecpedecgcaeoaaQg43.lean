/- Texts put together: DgC. -/
import Derived.Test.YtecpedecgcaeoaaQg42
/- What the laws of the graph have in common: commits that came in; few, Few, made. -/
set_option linter.unusedVariables false
set_option linter.unusedSimpArgs false
namespace Go.Proofs.Ytecpedecgcaeoaa.Tx
open Go.RowKit Go.Maps Go.Proofs.Ytecpedecgcaeoaa.Sh

/-- A commit as a law is told of it. -/
structure LN where
  id : ByteArray
  par : List ByteArray
  stamp : Int
def lnK : ShapeV where
  α := LN
  cells := fun n d => [.string n.id, d, .int .i64 n.stamp]
  vals := fun n => n.par.map sv
  m := 3
  pos := by decide
  len := fun _ _ => rfl
  one := fun a d hd u hu => by
    simp only [List.mem_cons, List.not_mem_nil, or_false] at hu
    rcases hu with rfl | rfl | rfl
    · rfl
    · exact hd
    · rfl
/-- v reads as the commits l. -/
def LnV (w : World) (v : Value) (l : List LN) : Prop := TmpV lnK (fun _ => True) w v l
section
variable {w w' : World} {v : Value} {l : List LN}
theorem LnV.below (h : LnV w v l) (hb : Below w.heap.size w w') : LnV w' v l := TmpV.below (K := lnK) h hb
theorem LnV.slice (h : LnV w v l) : ∃ A c, v = .slice A l.length c ∧ l.length ≤ c ∧ c ≤ maxLen := TmpV.slice (K := lnK) h
theorem LnV.at_ {A : Option Addr} {n c : Nat} (h : LnV w (.slice A n c) l) (k : Nat) (a : LN) (hk : l[k]? = some a) : ∃ (ad : Addr) (A2 : Option Addr) (c2 : Nat), A = some ad ∧ w.cell? (ad.add (k * 3)) = some (.string a.id) ∧
    w.cell? ⟨(ad.add (k * 3)).block, (ad.add (k * 3)).off + 1, none⟩ = some (.slice A2 a.par.length c2) ∧ w.cell? ⟨(ad.add (k * 3)).block, (ad.add (k * 3)).off + 2, none⟩ = some (.int .i64 a.stamp) ∧ SlV w (.slice A2 a.par.length c2) (a.par.map sv) := by
  obtain ⟨ad, d, hA, hby, hc⟩ := TmpV.at_ (K := lnK) h k a hk
  have hs : SlV w d (a.par.map sv) := Rd.slv hby
  obtain ⟨A2, c2, rfl, _, _, _⟩ := hs.len
  rw [List.length_map] at hs hc
  refine ⟨ad, A2, c2, hA, hc 0 _ rfl, ?_, ?_, hs⟩
  · have := hc 1 _ rfl
    rw [show lnK.m = 3 from rfl, add_field _ _ 1 (by omega)] at this
    exact this
  · have := hc 2 _ rfl
    rw [show lnK.m = 3 from rfl, add_field _ _ 2 (by omega)] at this
    exact this
end
/-- Few and short: names, commits. -/
def FewT (xs : List ByteArray) : Prop := xs.length ≤ 20 ∧ ∀ s ∈ xs, s.size ≤ 100
def FewN (l : List LN) : Prop := l.length ≤ 40 ∧ ∀ n ∈ l, n.id.size ≤ 100 ∧ n.par.length ≤ 8 ∧ ∀ s ∈ n.par, s.size ≤ 100
def FewTPost (w : World) (xs : List ByteArray) (e : Ending) (w' : World) : Prop := ∃ t, e = .returned (.bool t) ∧ (t = true → FewT xs) ∧ w = w'
def FewNPost (w : World) (l : List LN) (e : Ending) (w' : World) : Prop := ∃ t, e = .returned (.bool t) ∧ (t = true → FewN l) ∧ w = w'
/-- The texts that a law is handed are no longer than any slice may be. -/
def ShT (xs : List ByteArray) : Prop := ∀ s ∈ xs, s.size ≤ maxLen
def ShN (l : List LN) : Prop := ∀ n ∈ l, n.id.size ≤ maxLen ∧ ∀ s ∈ n.par, s.size ≤ maxLen

set_option maxRecDepth 100000 in
set_option maxHeartbeats 1600000 in
theorem gfew_any (v : Value) (xs : List ByteArray) (w : World) (h : SlV w v (xs.map sv)) (hsh : ShT xs) : Calls Try.prog 7 #[v] w (FewTPost w xs) := by
  obtain ⟨A, c, rfl, hlc, hcm, hR⟩ := h.len
  rw [List.length_map] at hlc hR ⊢
  obtain ⟨l, hl⟩ : ∃ l, xs.length = l := ⟨_, rfl⟩
  rw [hl] at hlc ⊢
  unfold maxLen at hcm
  have HR := Lib.hid hR
  have HSH := Lib.hid hsh
  have HL := Lib.hid hl
  clear h hR hsh hl
  go_enter Try.func7, Try.ntmps7
  go_wp2
  go_loop [3] (fun i => ∃ k : Nat, k ≤ l ∧ k ≤ 20 ∧ i = .int .i64 k ∧ ∀ s ∈ xs.take k, s.size ≤ 100) (fun i => l - (intOf i).toNat)
  case atStart => exact ⟨0, Nat.zero_le _, Nat.zero_le _, rfl, fun s hs => by cases hs⟩
  case round =>
    obtain ⟨k, hk, hk2, rfl, hall⟩ := hrel
    have HALL := Lib.hid hall
    clear hall
    have z0 : (0 : Int) ≤ (k : Int) := by omega
    by_cases hlt : k < l
    · have z1 : (k : Int) < (l : Int) := by omega
      by_cases h20 : k < 20
      · have z2 : (k : Int) < 20 := by omega
        have hkl : k < xs.length := by rw [HL.out]; exact hlt
        obtain ⟨ad, rfl, hcell⟩ := texts_at HR.out k hkl
        have hsz := HSH.out xs[k] (List.getElem_mem hkl)
        unfold maxLen at hsz
        have HX := Lib.hid (show xs.take (k + 1) = xs.take k ++ [xs[k]] from List.take_succ_eq_append_getElem hkl)
        generalize xs[k] = x at *
        clear hkl
        have s0 : (0 : Int) ≤ (x.size : Int) := by omega
        have s1 : (x.size : Int) ≤ 9223372036854775807 := by omega
        by_cases hs : x.size ≤ 100
        · have s2 : (x.size : Int) ≤ 100 := by omega
          go_wp2
          go_round
          case rel =>
            refine ⟨k + 1, by omega, by omega, by go_num, ?_⟩
            intro s hs'
            rw [HX.out, List.mem_append, List.mem_singleton] at hs'
            rcases hs' with h | rfl
            · exact HALL.out s h
            · exact hs
          case measure => simp [intOf]; omega
        · have s2 : (100 : Int) < (x.size : Int) := by omega
          go_wp2
          go_ret
          exact ⟨false, rfl, (fun h => by cases h), rfl⟩
      · obtain rfl : k = 20 := by omega
        have z3 : (20 : Int) < (l : Int) := by omega
        rw [show ((20 : Nat) : Int) = 20 from rfl]
        go_wp2
        go_ret
        exact ⟨_, rfl, (fun h => absurd (of_decide_eq_true h) (by omega)), rfl⟩
    · obtain rfl : k = l := by omega
      have HE := Lib.hid (show xs.take k = xs from List.take_of_length_le (by rw [HL.out]; omega))
      have z3 : (k : Int) ≤ 20 := by omega
      go_wp2
      go_ret
      refine ⟨_, rfl, fun _ => ⟨by rw [HL.out]; omega, fun s hs => ?_⟩, rfl⟩
      have := HALL.out
      rw [HE.out] at this
      exact this s hs

set_option maxRecDepth 100000 in
set_option maxHeartbeats 3200000 in
theorem gFew_any (v : Value) (xs : List LN) (w : World) (h : LnV w v xs) (hsh : ShN xs) : Calls Try.prog 6 #[v] w (FewNPost w xs) := by
  obtain ⟨A, c, rfl, hlc, hcm⟩ := h.slice
  have hAT := fun k a hk => h.at_ k a hk
  obtain ⟨l, hl⟩ : ∃ l, xs.length = l := ⟨_, rfl⟩
  rw [hl] at hlc ⊢
  unfold maxLen at hcm
  have HAT := Lib.hid hAT
  have HSH := Lib.hid hsh
  have HL := Lib.hid hl
  clear h hAT hsh hl
  go_enter Try.func6, Try.ntmps6
  go_wp2
  go_loop [3, 4] (fun i _ => ∃ k : Nat, k ≤ l ∧ k ≤ 40 ∧ i = .int .i64 k ∧ ∀ n ∈ xs.take k, n.id.size ≤ 100 ∧ n.par.length ≤ 8 ∧ ∀ s ∈ n.par, s.size ≤ 100) (fun i _ => l - (intOf i).toNat)
  case atStart => exact ⟨0, Nat.zero_le _, Nat.zero_le _, rfl, fun s hs => by cases hs⟩
  case round =>
    obtain ⟨k, hk, hk2, rfl, hall⟩ := hrel
    have HALL := Lib.hid hall
    clear hall
    have z0 : (0 : Int) ≤ (k : Int) := by omega
    by_cases hlt : k < l
    · have z1 : (k : Int) < (l : Int) := by omega
      by_cases h40 : k < 40
      · have z2 : (k : Int) < 40 := by omega
        have hkl : k < xs.length := by rw [HL.out]; exact hlt
        obtain ⟨ad, A2, c2, rfl, c0, c1, _, hs2⟩ := HAT.out k xs[k] (List.getElem?_eq_getElem hkl)
        have hsz := HSH.out xs[k] (List.getElem_mem hkl)
        unfold maxLen at hsz
        have HX := Lib.hid (show xs.take (k + 1) = xs.take k ++ [xs[k]] from List.take_succ_eq_append_getElem hkl)
        generalize xs[k] = x at *
        obtain ⟨ix, hix⟩ : ∃ ix, x.id = ix := ⟨_, rfl⟩
        obtain ⟨ps, hps⟩ : ∃ ps, x.par = ps := ⟨_, rfl⟩
        rw [hix] at c0 hsz
        rw [hps] at c1 hs2 hsz
        have HIX := Lib.hid hix
        have HPS := Lib.hid hps
        have HSZ := Lib.hid hsz.2
        obtain ⟨hz, _⟩ := hsz
        obtain ⟨A3, c3, he, hm1, hm2, hR2⟩ := hs2.len
        injection he with e1 e2 e3
        subst e1 e3
        rw [List.length_map] at hm1 hR2
        obtain ⟨m, hm⟩ : ∃ m, ps.length = m := ⟨_, rfl⟩
        rw [hm] at c1 hm1
        unfold maxLen at hm2
        have HM := Lib.hid hm
        have HR2 := Lib.hid hR2
        clear hkl hs2 hix hps hm hR2 e2
        have s0 : (0 : Int) ≤ (ix.size : Int) := by omega
        have s1 : (ix.size : Int) ≤ 9223372036854775807 := by omega
        have m0 : (0 : Int) ≤ (m : Int) := by omega
        have m1 : (m : Int) ≤ 9223372036854775807 := by omega
        by_cases hs : ix.size ≤ 100
        · have s2 : (ix.size : Int) ≤ 100 := by omega
          by_cases h8 : m ≤ 8
          · have m2 : (m : Int) ≤ 8 := by omega
            go_wp2
            go_loop [4] (fun i => ∃ j : Nat, j ≤ m ∧ i = .int .i64 j ∧ ∀ s ∈ ps.take j, s.size ≤ 100) (fun i => m - (intOf i).toNat)
            case atStart => exact ⟨0, Nat.zero_le _, rfl, fun s hs => by cases hs⟩
            case round =>
              obtain ⟨j, hj, rfl, hal2⟩ := hrel
              have HAL2 := Lib.hid hal2
              clear hal2
              have y0 : (0 : Int) ≤ (j : Int) := by omega
              by_cases hjm : j < m
              · have y1 : (j : Int) < (m : Int) := by omega
                have hjl : j < ps.length := by rw [HM.out]; exact hjm
                obtain ⟨ad2, rfl, hc2⟩ := texts_at HR2.out j hjl
                have hsz2 := HSZ.out ps[j] (List.getElem_mem hjl)
                have HY := Lib.hid (show ps.take (j + 1) = ps.take j ++ [ps[j]] from List.take_succ_eq_append_getElem hjl)
                generalize ps[j] = y at *
                have t0 : (0 : Int) ≤ (y.size : Int) := by omega
                have t1 : (y.size : Int) ≤ 9223372036854775807 := by omega
                clear hjl
                by_cases hy : y.size ≤ 100
                · have t2 : (y.size : Int) ≤ 100 := by omega
                  go_wp2
                  go_round
                  case rel =>
                    refine ⟨j + 1, by omega, by go_num, ?_⟩
                    intro s hs'
                    rw [HY.out, List.mem_append, List.mem_singleton] at hs'
                    rcases hs' with h | rfl
                    · exact HAL2.out s h
                    · exact hy
                  case measure => simp [intOf]; omega
                · have t2 : (100 : Int) < (y.size : Int) := by omega
                  go_wp2
                  go_ret
                  exact ⟨false, rfl, (fun h => by cases h), rfl⟩
              · obtain rfl : j = m := by omega
                have HE := Lib.hid (show ps.take j = ps from List.take_of_length_le (by rw [HM.out]; omega))
                go_wp2
                go_round
                case rel =>
                  refine ⟨k + 1, by omega, by omega, by go_num, ?_⟩
                  intro n hn
                  rw [HX.out, List.mem_append, List.mem_singleton] at hn
                  rcases hn with h | rfl
                  · exact HALL.out n h
                  · refine ⟨by rw [HIX.out]; exact hs, by rw [HPS.out, HM.out]; omega, fun s hs' => ?_⟩
                    rw [HPS.out] at hs'
                    have := HAL2.out
                    rw [HE.out] at this
                    exact this s hs'
                case measure => simp [intOf]; omega
          · have m2 : (8 : Int) < (m : Int) := by omega
            go_wp2
            go_ret
            exact ⟨false, rfl, (fun h => by cases h), rfl⟩
        · have s2 : (100 : Int) < (ix.size : Int) := by omega
          go_wp2
          go_ret
          exact ⟨false, rfl, (fun h => by cases h), rfl⟩
      · obtain rfl : k = 40 := by omega
        have z3 : (40 : Int) < (l : Int) := by omega
        rw [show ((40 : Nat) : Int) = 40 from rfl]
        go_wp2
        go_ret
        exact ⟨_, rfl, (fun h => absurd (of_decide_eq_true h) (by omega)), rfl⟩
    · obtain rfl : k = l := by omega
      have HE := Lib.hid (show xs.take k = xs from List.take_of_length_le (by rw [HL.out]; omega))
      have z3 : (k : Int) ≤ 40 := by omega
      go_wp2
      go_ret
      refine ⟨_, rfl, fun _ => ⟨by rw [HL.out]; omega, fun n hn => ?_⟩, rfl⟩
      have := HALL.out
      rw [HE.out] at this
      exact this n hn
end Go.Proofs.Ytecpedecgcaeoaa.Tx
