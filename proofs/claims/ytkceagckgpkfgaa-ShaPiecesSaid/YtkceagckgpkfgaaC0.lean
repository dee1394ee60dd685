/- A Hasher's struct built out of a state, a rest and a size. -/
import Derived.Test.YtkceagckgpkfgaaBack
namespace Go.Proofs.Ytkceagckgpkfgaa
open Go.RowKit

theorem fold_set (vs : List Value) : ∀ (k off : Nat) (cells : Array Value), off + k + vs.length ≤ cells.size →
    (vs.zipIdx k).foldl (fun (cs : Array Value) (x : Value × Nat) => cs.setIfInBounds (off + x.2) x.1) cells = (cells.toList.take (off + k) ++ (vs ++ cells.toList.drop (off + k + vs.length))).toArray := by
  induction vs with
  | nil => intro k off cells _; simp
  | cons v r ih =>
    intro k off cells h
    have hl : off + k + (r.length + 1) ≤ cells.size := by simpa using h
    rw [List.zipIdx_cons, List.foldl_cons, ih (k + 1) off _ (by rw [Array.size_setIfInBounds]; omega)]
    congr 1
    rw [Array.toList_setIfInBounds, List.drop_set, if_pos (by omega), List.take_set, show off + (k + 1) = off + k + 1 from by omega, List.take_succ_eq_append_getElem (by simp; omega), List.set_append_right _ _ (by simp; omega)]
    simp only [List.length_take, Array.length_toList, List.length_cons, show off + k - min (off + k) cells.size = 0 from by omega, List.set_cons_zero, List.append_assoc, List.cons_append, List.nil_append]
    rw [show off + k + 1 + r.length = off + k + (r.length + 1) from by omega]
theorem fold_set0 (vs : Array Value) (off : Nat) (cells : Array Value) (h : off + vs.size ≤ cells.size) :
    Array.foldl (fun (cs : Array Value) (x : Value × Nat) => match x with | (c, j) => cs.setIfInBounds (off + j) c) cells vs.zipIdx = (cells.toList.take off ++ (vs.toList ++ cells.toList.drop (off + vs.size))).toArray := by
  have := fold_set vs.toList 0 off cells (by simpa using h)
  rw [← Array.foldl_toList, Array.toList_zipIdx]
  simpa using this

def z64 : List Value := List.replicate 64 (.int .u32 0)
def zr : List UInt8 := List.replicate 64 0
def stz : St := ⟨0, 0, 0, 0, 0, 0, 0, 0⟩
theorem zr_length : zr.length = 64 := by unfold zr; rw [List.length_replicate]
theorem z64_length : z64.length = 64 := by unfold z64; rw [List.length_replicate]
theorem zero66 : Try.zeroCells66 = (hcl stz zr 0 0 0 z64).toArray := by kernel_rfl
theorem built_fill (parts : List (Nat × Value)) : Try.prog.built 66 parts = Instr.fill (fun i => (#[(0, 8), (8, 64), (72, 1), (73, 3), (76, 64)] : Array (Nat × Nat))[i]?) Try.zeroCells66 parts := by kernel_rfl
theorem hz_size (s : St) (rest : List UInt8) (n : Nat) (hr : rest.length = 64) : (hcl s rest n 0 0 z64).toArray.size = 140 := by
  rw [List.size_toArray, hcl_length hr z64_length]
theorem built_e1 (s : St) : Array.foldl (fun (cs : Array Value) (x : Value × Nat) => match x with | (c, j) => cs.setIfInBounds (0 + j) c) (hcl stz zr 0 0 0 z64).toArray (stc s).zipIdx = (hcl s zr 0 0 0 z64).toArray := by
  rw [fold_set0 _ _ _ (by rw [hz_size _ _ _ zr_length]; show 0 + 8 ≤ 140; omega)]
  rfl
theorem built_e2 (s : St) (rest : List UInt8) (hr : rest.length = 64) : Array.foldl (fun (cs : Array Value) (x : Value × Nat) => match x with | (c, j) => cs.setIfInBounds (8 + j) c) (hcl s zr 0 0 0 z64).toArray (rest.map bv).toArray.zipIdx = (hcl s rest 0 0 0 z64).toArray := by
  rw [fold_set0 _ _ _ (by rw [hz_size _ _ _ zr_length, List.size_toArray, List.length_map, hr]; omega)]
  have h := hcl_rest (s := s) (n := 0) (d := 0) (m := 0) (ad := z64) zr_length 0 rest (by omega)
  have hsp : splice zr 0 rest = rest := by
    unfold splice
    rw [List.take_zero, List.nil_append, List.drop_eq_nil_of_le (by rw [zr_length, hr]; omega), List.append_nil]
  rw [hsp] at h
  exact congrArg List.toArray h
theorem built_e3 (s : St) (rest : List UInt8) (n : Nat) (hr : rest.length = 64) : Array.foldl (fun (cs : Array Value) (x : Value × Nat) => match x with | (c, j) => cs.setIfInBounds (72 + j) c) (hcl s rest 0 0 0 z64).toArray (#[.int .i64 (n : Int)] : Array Value).zipIdx = (hcl s rest n 0 0 z64).toArray := by
  rw [fold_set0 _ _ _ (by rw [hz_size _ _ _ hr]; show 72 + 1 ≤ 140; omega)]
  have hA : ∀ k : Nat, hcl s rest k 0 0 z64 = ((stc s).toList ++ rest.map bv) ++ ([.int .i64 k] ++ ([.int .u32 0, .int .i32 0, .int .u32 0] ++ z64)) := by
    intro k; unfold hcl; simp
  have hB : ((stc s).toList ++ rest.map bv).length = 72 := by rw [List.length_append, stc_length]; simp [hr]
  have h : (hcl s rest 0 0 0 z64).take 72 ++ ([.int .i64 (n : Int)] ++ (hcl s rest 0 0 0 z64).drop (72 + 1)) = hcl s rest n 0 0 z64 := by
    rw [hA 0, hA n, List.take_append_of_le_length (by omega), List.take_of_length_le (by omega), List.drop_append, List.drop_eq_nil_of_le (by omega), hB, List.nil_append]
    rfl
  exact congrArg List.toArray h
theorem fill_nil (place : Nat → Option (Nat × Nat)) (cells : Array Value) : Instr.fill place cells [] = some cells := rfl
theorem fill_cons (place : Nat → Option (Nat × Nat)) (cells : Array Value) (i : Nat) (v : Value) (r : List (Nat × Value)) (off size : Nat) (hp : place i = some (off, size)) (hv : v.cells.size = size) (hf : off + v.cells.size ≤ cells.size) :
    Instr.fill place cells ((i, v) :: r) = Instr.fill place (Array.foldl (fun (cs : Array Value) (x : Value × Nat) => match x with | (c, j) => cs.setIfInBounds (off + j) c) cells v.cells.zipIdx) r := by
  conv => lhs; unfold Instr.fill
  simp only [hp]
  rw [if_neg (by simp; omega)]
theorem built66 (s : St) (rest : List UInt8) (n : Nat) (hr : rest.length = 64) :
    Try.prog.built 66 [(0, .agg (stc s)), (1, .agg (rest.map bv).toArray), (2, .int .i64 n)] = some (hcl s rest n 0 0 z64).toArray := by
  have c1 : (Value.agg (stc s)).cells = stc s := rfl
  have c2 : (Value.agg (rest.map bv).toArray).cells = (rest.map bv).toArray := rfl
  have c3 : (Value.int .i64 (n : Int)).cells = #[.int .i64 (n : Int)] := rfl
  rw [built_fill, zero66]
  rw [fill_cons _ _ _ _ _ 0 8 rfl rfl (by rw [hz_size _ _ _ zr_length, c1]; show 0 + 8 ≤ 140; omega), c1, built_e1]
  rw [fill_cons _ _ _ _ _ 8 64 rfl (by rw [c2, List.size_toArray, List.length_map, hr]) (by rw [hz_size _ _ _ zr_length, c2, List.size_toArray, List.length_map, hr]; omega), c2, built_e2 s rest hr]
  rw [fill_cons _ _ _ _ _ 72 1 rfl rfl (by rw [hz_size _ _ _ hr, c3]; show 72 + 1 ≤ 140; omega), c3, built_e3 s rest n hr]
  rfl
end Go.Proofs.Ytkceagckgpkfgaa
