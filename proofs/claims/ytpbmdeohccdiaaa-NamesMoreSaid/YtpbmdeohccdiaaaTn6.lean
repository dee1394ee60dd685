/- The reference's Join. -/
import Derived.Test.YtpbmdeohccdiaaaTn4
namespace Go.Proofs.Ytpbmdeohccdiaaa.Tx
open Go.RowKit Go.Proofs.Ytpbmdeohccdiaaa.Sh

theorem list_other' {a b : Nat} (h : a ≠ b) : (a == b) = false := by simpa using h
def joinOk (l : List (List UInt8)) : Bool := !l.isEmpty && ((splitL 47 (joinL 47 l)).length == l.length) && pathB (joinL 47 l)
def joinT (l : List (List UInt8)) : List UInt8 := if joinOk l = true then joinL 47 l else []
def joinE (l : List (List UInt8)) : Int := if joinOk l = true then 0 else 6
def JoinPost (w : World) (l : List (List UInt8)) (e : Ending) (w' : World) : Prop := e = .returned (.tuple #[.string (str (joinT l)), .int .i64 (joinE l)]) ∧ Below w.heap.size w w'
theorem joinL_len {g : UInt8} : ∀ (l : List (List UInt8)) (k : Nat), (joinL g (l.take k)).length ≤ (joinL g l).length
  | [], k => by simp
  | [p], k => by
    cases k with
    | zero => simp [joinL]
    | succ k => simp
  | p :: q :: r, k => by
    cases k with
    | zero => simp [joinL]
    | succ k =>
      cases k with
      | zero => simp [joinL]
      | succ k =>
        have h := joinL_len (g := g) (q :: r) (k + 1)
        have e1 : joinL g (p :: q :: r) = p ++ g :: joinL g (q :: r) := rfl
        have e2 : joinL g ((p :: q :: r).take (k + 1 + 1)) = p ++ g :: joinL g ((q :: r).take (k + 1)) := rfl
        rw [e1, e2]
        simp only [List.length_append, List.length_cons]
        omega
theorem joinOk_long {l : List (List UInt8)} {k : Nat} (h : 200 < (joinL 47 (l.take k)).length) : joinOk l = false := by
  have := joinL_len (g := 47) l k
  unfold joinOk
  rw [pathB_long (by omega), Bool.and_false]
theorem joinL_first {l : List (List UInt8)} (h : 0 < l.length) : joinL 47 (l.take 1) = l[0] := by
  cases l with
  | nil => simp at h
  | cons p r => rfl
theorem joinL_next {l : List (List UInt8)} {k : Nat} (h0 : 0 < k) (h : k < l.length) : joinL 47 (l.take (k + 1)) = joinL 47 (l.take k) ++ [47] ++ l[k] := by
  rw [List.take_succ_eq_append_getElem h, joinL_snoc _ (by intro e; have := congrArg List.length e; rw [List.length_take, Nat.min_eq_left (by omega), List.length_nil] at this; omega), List.append_assoc]
  rfl
theorem joined_no {l : List (List UInt8)} (h : joinOk l = false) : joinT l = [] ∧ joinE l = 6 := by unfold joinT joinE; rw [h]; exact ⟨rfl, rfl⟩
theorem joined_yes {l : List (List UInt8)} (h : joinOk l = true) : joinT l = joinL 47 l ∧ joinE l = 0 := by unfold joinT joinE; rw [h]; exact ⟨rfl, rfl⟩

set_option maxRecDepth 100000 in
set_option maxHeartbeats 3200000 in
theorem rjoin_any (v : Value) (ls : List (List UInt8)) (w : World) (h : SlV w v ((ls.map str).map sv)) (hn : ls.length ≤ 1000000) (hsz : ∀ p ∈ ls, p.length ≤ 1000000) :
    Calls Try.prog 13 #[v] w (JoinPost w ls) := by
  obtain ⟨A, c, rfl, hlc, hcm, hR⟩ := h.len
  rw [List.length_map, List.length_map] at hlc hR ⊢
  unfold maxLen at hcm
  obtain ⟨n, hN⟩ : ∃ n, ls.length = n := ⟨_, rfl⟩
  rw [hN] at hlc hn hR ⊢
  have HN := Lib.hid hN
  have HR := Lib.hid hR
  have HSZ := Lib.hid hsz
  clear h hN hR hsz
  go_enter Try.func13, Try.ntmps13
  go_wp2
  go_loop [4, 5] (fun sv i => ∃ k : Nat, k ≤ n ∧ i = .int .i64 k ∧ sv = .string (str (joinL 47 (ls.take k))) ∧ (joinL 47 (ls.take k)).length ≤ 200) (fun _ i => n - (intOf i).toNat)
  case atStart => exact ⟨0, Nat.zero_le _, rfl, rfl, Nat.zero_le _⟩
  case round =>
    obtain ⟨k, hk, rfl, rfl, hl⟩ := hrel
    have k0 : (0 : Int) ≤ (k : Int) := by omega
    by_cases hlt : k < n
    · have k1 : (k : Int) < (n : Int) := by omega
      have hkl : k < ls.length := by rw [HN.out]; exact hlt
      obtain ⟨ad, hA, hcell⟩ := reads_at HR.out k (sv (str ls[k])) (by rw [List.map_map, List.getElem?_map, List.getElem?_eq_getElem hkl]; rfl)
      have hcell' : w.cell? (ad.add k) = some (.string (str ls[k])) := hcell
      subst hA
      have hpl := HSZ.out ls[k] (List.getElem_mem hkl)
      have hpz := str_size ls[k]
      have hsz := str_size (joinL 47 (ls.take k))
      have hnext : (k = 0 ∧ str (joinL 47 (ls.take k)) ++ str ls[k] = str (joinL 47 (ls.take (k + 1))) ∧ (joinL 47 (ls.take (k + 1))).length = (joinL 47 (ls.take k)).length + ls[k].length) ∨
          (0 < k ∧ str (joinL 47 (ls.take k)) ++ ⟨#[47]⟩ ++ str ls[k] = str (joinL 47 (ls.take (k + 1))) ∧ (joinL 47 (ls.take (k + 1))).length = (joinL 47 (ls.take k)).length + 1 + ls[k].length) := by
        rcases Nat.eq_zero_or_pos k with e | e
        · left
          subst e
          have hf := joinL_first hkl
          refine ⟨rfl, ?_, ?_⟩
          · rw [str_append, Nat.zero_add, hf]; rfl
          · rw [Nat.zero_add, hf]; simp [joinL]
        · right
          have hf := joinL_next e hkl
          refine ⟨e, ?_, ?_⟩
          · rw [show (⟨#[47]⟩ : ByteArray) = str [47] from rfl, str_append, str_append, hf]
          · rw [hf]; simp; omega
      obtain ⟨sk, hsk⟩ : ∃ sk, str (joinL 47 (ls.take k)) = sk := ⟨_, rfl⟩
      obtain ⟨lk, hlk⟩ : ∃ lk, (joinL 47 (ls.take k)).length = lk := ⟨_, rfl⟩
      obtain ⟨x, hx⟩ : ∃ x, str ls[k] = x := ⟨_, rfl⟩
      obtain ⟨m, hm⟩ : ∃ m, ls[k].length = m := ⟨_, rfl⟩
      rw [hsk, hlk, hx, hm] at hnext
      rw [hsk, hlk] at hsz
      rw [hx, hm] at hpz
      rw [hlk] at hl
      rw [hm] at hpl
      rw [hx] at hcell'
      rw [hsk]
      clear hsk hlk hx hm hcell
      have b1 : (0 : Int) ≤ (lk : Int) := by omega
      have b2 : (lk : Int) ≤ 200 := by omega
      have b3 : (0 : Int) ≤ (m : Int) := by omega
      have b4 : (m : Int) ≤ 1000000 := by omega
      rcases hnext with ⟨e0, hn1, hn2⟩ | ⟨e0, hn1, hn2⟩
      · subst e0
        rw [show ad.add 0 = ad by unfold Addr.add; simp] at hcell'
        have HN1 := Lib.hid hn1
        have HN2 := Lib.hid hn2
        clear hn1 hn2
        by_cases hlong : 200 < lk + m
        · have HO : Hid (joinOk ls = false) := joinOk_long (k := 0 + 1) (by rw [HN2.out]; exact hlong)
          have z1 : (200 : Int) < (lk : Int) + (m : Int) := by omega
          have HJ := Lib.hid (joined_no HO.out)
          go_wp2
          go_ret2
          exact ⟨by rw [HJ.out.1, HJ.out.2]; rfl, Below.refl _ _⟩
        · have z1 : (lk : Int) + (m : Int) ≤ 200 := by omega
          go_wp2
          go_round
          case rel => exact ⟨0 + 1, by omega, by go_num, by rw [HN1.out], by rw [HN2.out]; omega⟩
          case measure => simp [intOf]; omega
      · have HN1 := Lib.hid hn1
        have HN2 := Lib.hid hn2
        have k2 : (0 : Int) < (k : Int) := by omega
        clear hn1 hn2
        by_cases hlong : 200 < lk + 1 + m
        · have HO : Hid (joinOk ls = false) := joinOk_long (k := k + 1) (by rw [HN2.out]; exact hlong)
          have z1 : (200 : Int) < (lk : Int) + 1 + (m : Int) := by omega
          have HJ := Lib.hid (joined_no HO.out)
          go_wp2
          go_ret2
          exact ⟨by rw [HJ.out.1, HJ.out.2]; rfl, Below.refl _ _⟩
        · have z1 : (lk : Int) + 1 + (m : Int) ≤ 200 := by omega
          go_wp2
          go_round
          case rel => exact ⟨k + 1, by omega, by go_num, by rw [HN1.out], by rw [HN2.out]; omega⟩
          case measure => simp [intOf]; omega
    · obtain rfl : k = n := by omega
      rw [List.take_of_length_le (by rw [HN.out]; exact Nat.le_refl _)] at hl ⊢
      obtain ⟨js, hjs⟩ : ∃ js, joinL 47 ls = js := ⟨_, rfl⟩
      rw [hjs] at hl ⊢
      have HJS := Lib.hid hjs
      have HL := Lib.hid hl
      clear hjs hl
      go_wp2_with fail
      refine (sign47 js _ (by have := HL.out; omega)).mono ?_
      rintro e w1 ⟨v, rfl, ho, hb⟩
      obtain ⟨Av, cv, rfl, hvc, hvm⟩ := ho.length
      obtain ⟨q, hq⟩ : ∃ q, (splitL 47 js).length = q := ⟨_, rfl⟩
      rw [List.length_map, List.length_map, hq] at hvc ⊢
      have hq2 : q ≤ 201 := by have h1 := splitL_length_le 47 js; have h2 := HL.out; omega
      unfold maxLen at hvm
      have HQ := Lib.hid hq
      have HB := Lib.hid hb
      clear ho hb hq
      by_cases h0 : k = 0
      · have HO : Hid (joinOk ls = false) := by
          unfold Hid joinOk
          have : ls = [] := List.eq_nil_of_length_eq_zero (by rw [HN.out]; exact h0)
          rw [this]
          rfl
        have HJ := Lib.hid (joined_no HO.out)
        subst h0
        go_wp2
        go_ret2
        exact ⟨by rw [HJ.out.1, HJ.out.2]; rfl, HB.out⟩
      · have e0 : ((k : Int) == 0) = false := by rw [beq_eq_false_iff_ne]; omega
        by_cases hqk : q = k
        · have e1 : ((q : Int) != (k : Int)) = false := by simp [hqk]
          have e1' : ((q : Int) == (k : Int)) = true := by simp [hqk]
          obtain ⟨t, ht⟩ : ∃ t, pathB js = t := ⟨_, rfl⟩
          have HO : Hid (joinOk ls = t) := by
            unfold Hid joinOk
            rw [HJS.out, HQ.out, HN.out, ht, hqk]
            have : ls.isEmpty = false := by
              cases ls with
              | nil => have := HN.out; simp at this; omega
              | cons p r => rfl
            rw [this]
            simp
          have HT := Lib.hid ht
          clear ht hqk
          go_wp2_with fail
          refine (rpath_any js _ (by have := HL.out; omega)).mono ?_
          rintro e w2 ⟨rfl, hb⟩
          rw [HT.out]
          have HB2 := Lib.hid (HB.out.trans (hb.mono HB.out.size))
          clear hb
          cases t with
          | false =>
            have HJ := Lib.hid (joined_no HO.out)
            go_wp2
            go_ret2
            exact ⟨by rw [HJ.out.1, HJ.out.2]; rfl, HB2.out⟩
          | true =>
            have HJ := Lib.hid (joined_yes HO.out)
            go_wp2
            go_ret2
            exact ⟨by rw [HJ.out.1, HJ.out.2, HJS.out]; rfl, HB2.out⟩
        · have e1 : ((q : Int) != (k : Int)) = true := by simp; omega
          have e1' : ((q : Int) == (k : Int)) = false := by rw [beq_eq_false_iff_ne]; omega
          have HO : Hid (joinOk ls = false) := by
            unfold Hid joinOk
            rw [HJS.out, HQ.out, HN.out, list_other' hqk]
            simp
          have HJ := Lib.hid (joined_no HO.out)
          go_wp2
          go_ret2
          exact ⟨by rw [HJ.out.1, HJ.out.2]; rfl, HB.out⟩
end Go.Proofs.Ytpbmdeohccdiaaa.Tx
