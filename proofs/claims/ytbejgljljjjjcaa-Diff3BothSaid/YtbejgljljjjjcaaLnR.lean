/- Bytes and numbers as they came in; what rises in a list of pairs. (No package's code in it.) -/
import Derived.Test.YtbejgljljjjjcaaLnA
set_option linter.unusedVariables false
set_option linter.unusedSimpArgs false
namespace Go.Proofs.Ytbejgljljjjjcaa.Ln
open Go.RowKit Go.Proofs.Ytbejgljljjjjcaa.Sh Go.Proofs.Ytbejgljljjjjcaa.Tx

/-- A slice of numbers that came in, as the walk is told of it. -/
def IsRow (k : IntKind) (w : World) (a : Option Addr) (len cap : Nat) (zs : List Int) : Prop :=
  (a = none ∧ len = 0 ∧ cap = 0 ∧ zs = []) ∨
  ∃ x, a = some x ∧ len ≤ cap ∧ cap ≤ maxLen ∧ zs.length = cap ∧ (∀ i, i < zs.length → w.cell? (x.add i) = some (.int k (zs.getD i 0))) ∧ ∀ n ∈ zs, (Lit.int k n).wf = true
theorem IsRow.vals {k : IntKind} {w : World} {a : Option Addr} {len cap : Nat} {zs : List Int} (h : IsRow k w a len cap zs) : ∃ l : List Int, l.length = len ∧ SlV w (.slice a len cap) (l.map (Value.int k)) ∧ ∀ n ∈ l, (Lit.int k n).wf = true := by
  rcases h with ⟨rfl, rfl, rfl, rfl⟩ | ⟨x, rfl, hl, hm, hz, hc, hw⟩
  · exact ⟨[], rfl, SlV.nil_ w, fun n hn => by cases hn⟩
  · refine ⟨zs.take len, by simp; omega, ⟨some x, cap, by simp; omega, by simp; omega, hm, ⟨by simp, fun h0 => ⟨x, rfl, ?_, fun j u hu => ?_⟩⟩, fun h => by cases h⟩, fun n hn => hw n (List.mem_of_mem_take hn)⟩
    · have h1 : 0 < zs.length := by simp at h0; omega
      have := World.block_lt_of_cell? w _ (hc 0 h1)
      rw [block_of_add] at this
      exact this
    · rw [List.getElem?_map, List.getElem?_take] at hu
      by_cases hj : j < len
      · rw [if_pos hj, List.getElem?_eq_getElem (by omega)] at hu
        rw [hc j (by omega), List.getD_eq_getElem?_getD, List.getElem?_eq_getElem (by omega)]
        exact hu
      · rw [if_neg hj] at hu; cases hu
theorem IsRow.bytes {w : World} {a : Option Addr} {len cap : Nat} {zs : List Int} (h : IsRow .u8 w a len cap zs) : ∃ bs : List UInt8, bs.length = len ∧ SlV w (.slice a len cap) (bs.map bv) := by
  obtain ⟨l, hl, hs, hw⟩ := h.vals
  refine ⟨l.map fun n => UInt8.ofNat n.toNat, by rw [List.length_map]; exact hl, ?_⟩
  have e : (l.map fun n => UInt8.ofNat n.toNat).map bv = l.map (Value.int .u8) := by
    rw [List.map_map]
    refine List.map_congr_left fun n hn => ?_
    have h1 : 0 ≤ n ∧ n ≤ 255 := by simpa [Lit.wf, IntKind.min, IntKind.max, IntKind.signed, IntKind.bits] using hw n hn
    show Value.int .u8 (bi (UInt8.ofNat n.toNat)) = _
    rw [bi_nat]
    congr 1
    have h2 : (UInt8.ofNat n.toNat).toNat = n.toNat := by
      rw [UInt8.toNat_ofNat']
      omega
    omega
  rw [e]
  exact hs
theorem IsRow.ints {w : World} {a : Option Addr} {len cap : Nat} {zs : List Int} (h : IsRow .i64 w a len cap zs) : ∃ l : List Int, l.length = len ∧ SlV w (.slice a len cap) (l.map iv) ∧ ∀ n ∈ l, -9223372036854775808 ≤ n ∧ n ≤ 9223372036854775807 := by
  obtain ⟨l, hl, hs, hw⟩ := h.vals
  exact ⟨l, hl, hs, fun n hn => by simpa [Lit.wf, IntKind.min, IntKind.max, IntKind.signed, IntKind.bits] using hw n hn⟩
theorem int_cell {w : World} {A : Option Addr} {n c : Nat} {xs : List Int} (h : SlV w (.slice A n c) (xs.map iv)) (k : Nat) (x : Int) (hk : xs[k]? = some x) : ∃ ad, A = some ad ∧ w.cell? (ad.add k) = some (.int .i64 x) := by
  obtain ⟨A', c', he, _, _, hR⟩ := h.len
  injection he with e1 e2 e3
  subst e1
  rw [List.length_map] at hR
  exact reads_at hR k _ (by rw [List.getElem?_map, hk]; rfl)
theorem byte_cell {w : World} {A : Option Addr} {n c : Nat} {xs : List UInt8} (h : SlV w (.slice A n c) (xs.map bv)) (k : Nat) (x : UInt8) (hk : xs[k]? = some x) : ∃ ad, A = some ad ∧ w.cell? (ad.add k) = some (.int .u8 (bi x)) := by
  obtain ⟨A', c', he, _, _, hR⟩ := h.len
  injection he with e1 e2 e3
  subst e1
  rw [List.length_map] at hR
  exact reads_at hR k _ (by rw [List.getElem?_map, hk]; rfl)
/-- A pair of the list bears one line, and stands behind i and j. -/
theorem prsOk_at {α : Type} {a b : List α} : ∀ {ps : List (Nat × Nat)} {i j : Nat}, PrsOk a b i j ps → ∀ (k p q : Nat), ps[k]? = some (p, q) → i ≤ p ∧ j ≤ q ∧ p < a.length ∧ q < b.length ∧ a[p]? = b[q]?
  | [], i, j, h, k, p, q, hk => by simp at hk
  | (p0, q0) :: ps, i, j, h, 0, p, q, hk => by
    simp at hk
    obtain ⟨rfl, rfl⟩ := hk
    exact ⟨h.1, h.2.1, h.2.2.1, h.2.2.2.1, h.2.2.2.2.1⟩
  | (p0, q0) :: ps, i, j, h, k + 1, p, q, hk => by
    have h1 := prsOk_at h.2.2.2.2.2 k p q (by simpa using hk)
    have h2 := h.1
    have h3 := h.2.1
    exact ⟨by omega, by omega, h1.2.2⟩
/-- The pairs rise. -/
theorem prsOk_up {α : Type} {a b : List α} : ∀ {ps : List (Nat × Nat)} {i j : Nat}, PrsOk a b i j ps → ∀ (k p q p' q' : Nat), ps[k]? = some (p, q) → ps[k + 1]? = some (p', q') → p < p' ∧ q < q'
  | [], i, j, h, k, p, q, p', q', hk, _ => by simp at hk
  | (p0, q0) :: ps, i, j, h, 0, p, q, p', q', hk, hk2 => by
    simp at hk
    obtain ⟨rfl, rfl⟩ := hk
    have h1 := prsOk_at h.2.2.2.2.2 0 p' q' (by simpa using hk2)
    exact ⟨by omega, by omega⟩
  | (p0, q0) :: ps, i, j, h, k + 1, p, q, p', q', hk, hk2 => prsOk_up h.2.2.2.2.2 k p q p' q' (by simpa using hk) (by simpa using hk2)
end Go.Proofs.Ytbejgljljjjjcaa.Ln
