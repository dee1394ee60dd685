/- Slices of slices; a Hasher beside another. -/
import Derived.Test.YtkceagckgpkfgaaC1
namespace Go.Proofs.Ytkceagckgpkfgaa
open Go.RowKit

theorem HH.grown {w w' : World} {b b2 : Nat} {all : List UInt8} (h : HH w b all) (hg : w.grownBy w' (some b2)) (hne : b ≠ b2) : HH w' b all := by
  obtain ⟨s, rest, d, ad, hB, hm, hst, hta⟩ := h
  exact ⟨s, rest, d, ad, hB.grown hg (by intro e; injection e with e; exact hne e), hm, hst, hta⟩
theorem HH.drew {w : World} {b : Nat} {all : List UInt8} (h : HH w b all) : HH w.drew b all := h
theorem Sl.drew {w : World} {v : Value} {bs : List UInt8} (h : Sl w v bs) : Sl w.drew v bs := h

theorem In.take {w : World} {A : Option Addr} {bs : List UInt8} (h : In w A bs) (k : Nat) : In w A (bs.take k) := by
  intro h0
  rw [List.length_take] at h0
  obtain ⟨ad, hA, hlt, hc⟩ := h (by omega)
  refine ⟨ad, hA, hlt, fun j hj => ?_⟩
  rw [List.length_take] at hj
  rw [hc j (by omega)]
  simp only [List.getD_eq_getElem?_getD, List.getElem?_take, if_pos (show j < k from by omega)]
theorem In.drop {w : World} {A : Option Addr} {bs : List UInt8} (h : In w A bs) (k : Nat) : In w (A.map (·.add k)) (bs.drop k) := by
  intro h0
  rw [List.length_drop] at h0
  obtain ⟨ad, rfl, hlt, hc⟩ := h (by omega)
  refine ⟨ad.add k, rfl, by rw [block_of_add]; exact hlt, fun j hj => ?_⟩
  rw [List.length_drop] at hj
  rw [add_of_add, hc (k + j) (by omega)]
  simp only [List.getD_eq_getElem?_getD, List.getElem?_drop]
theorem size5 (w : World) : (sizeOf (Try.prog.elem 22)).run Try.prog w = .ok 1 w := by kernel_rfl
theorem slice_front (A : Option Addr) (l c k : Nat) (n : Int) (hn : n = (k : Int)) (hkc : k ≤ c) (w : World) :
    (Instr.slice 22 (.slice A l c) none (some (.int .i64 n)) none).run Try.prog w = .ok (.slice (if c = 0 then A else A.map (·.add 0)) k c) w := by
  subst hn
  rw [run_slice_h w 22 A l c Try.underlying22 .i64 k (by omega) (by omega), size5]
  rfl
theorem slice_back (A : Option Addr) (l c k : Nat) (n : Int) (hn : n = (k : Int)) (hkl : k ≤ l) (w : World) :
    (Instr.slice 22 (.slice A l c) (some (.int .i64 n)) none none).run Try.prog w = .ok (.slice (if c = k then A else A.map (·.add k)) (l - k) (c - k)) w := by
  subst hn
  rw [run_slice_l w 22 A l c Try.underlying22 .i64 k (by omega) (by omega), size5]
  show Result.ok (Value.slice (if c = k then A else A.map (·.add (k * 1))) _ _) _ = _
  rw [Nat.mul_one]
  rfl
theorem Sl.front {w : World} {A : Option Addr} {c : Nat} {bs : List UInt8} (h : Sl w (.slice A bs.length c) bs) (k : Nat) (hk : k ≤ bs.length) : Sl w (.slice (if c = 0 then A else A.map (·.add 0)) k c) (bs.take k) := by
  obtain ⟨A', c', he, hl, hm, hi, hn⟩ := h
  injection he with e1 e2 e3
  subst e1 e3
  have hlk : (bs.take k).length = k := by rw [List.length_take]; omega
  have hA0 : (if c = 0 then A else A.map (·.add 0)) = A := by
    split
    · rfl
    · cases A with
      | none => rfl
      | some x => show some (x.add 0) = some x; simp [Addr.add]
  rw [hA0]
  refine ⟨A, c, by rw [hlk], by omega, hm, hi.take k, fun h => by rw [hn h]; simp⟩
theorem Sl.back {w : World} {A : Option Addr} {c : Nat} {bs : List UInt8} (h : Sl w (.slice A bs.length c) bs) (k : Nat) (hk : k ≤ bs.length) : Sl w (.slice (if c = k then A else A.map (·.add k)) (bs.length - k) (c - k)) (bs.drop k) := by
  obtain ⟨A', c', he, hl, hm, hi, hn⟩ := h
  injection he with e1 e2 e3
  subst e1 e3
  have hlk : (bs.drop k).length = bs.length - k := by rw [List.length_drop]
  by_cases h0 : c = k
  · rw [if_pos h0]
    have h1 : bs.drop k = [] := List.drop_eq_nil_of_le (by omega)
    refine ⟨A, c - k, by rw [hlk], by omega, by omega, by rw [h1]; exact In.nil w A, fun _ => h1⟩
  · rw [if_neg h0]
    refine ⟨A.map (·.add k), c - k, by rw [hlk], by omega, by omega, hi.drop k, fun h => ?_⟩
    cases A with
    | none => rw [hn rfl]; simp
    | some x => cases h
end Go.Proofs.Ytkceagckgpkfgaa
