/- Copy. -/
import Derived.Test.YtkceagckgpkfgaaC0
namespace Go.Proofs.Ytkceagckgpkfgaa
open Go.RowKit

theorem HB.restAt {w : World} {b : Nat} {s : St} {rest : List UInt8} {n : Nat} {d m : Int} {ad : List Value} (h : HB w b s rest n d m ad) : w.rangeAt b 8 (rest.map bv) := by
  intro j v hv
  have hj : j < 64 := by
    have := (List.getElem?_eq_some_iff.1 hv).1
    simpa [h.2.1] using this
  rw [h.rest_ j hj, ← hv, List.getElem?_map, List.getElem?_eq_getElem (by rw [h.2.1]; exact hj), List.getD_eq_getElem?_getD, List.getElem?_eq_getElem (by rw [h.2.1]; exact hj)]
  rfl
theorem info52 : (Try.prog.info? 52).map (·.size) = some 64 := by kernel_rfl

theorem fold8 (s : St) (rest : List UInt8) (hr : rest.length = 64) : List.foldl (fun (cs : Array Value) (x : Value × Nat) => cs.setIfInBounds (8 + x.snd) x.fst) ((((((((Try.zeroCells66.setIfInBounds 0 (.int .u32 (wi s.a))).setIfInBounds 1 (.int .u32 (wi s.b))).setIfInBounds 2 (.int .u32 (wi s.c))).setIfInBounds 3 (.int .u32 (wi s.d))).setIfInBounds 4 (.int .u32 (wi s.e))).setIfInBounds 5 (.int .u32 (wi s.f))).setIfInBounds 6 (.int .u32 (wi s.g))).setIfInBounds 7 (.int .u32 (wi s.h))) (List.map bv rest).zipIdx = (hcl s rest 0 0 0 z64).toArray := by
  have e : ((((((((Try.zeroCells66.setIfInBounds 0 (.int .u32 (wi s.a))).setIfInBounds 1 (.int .u32 (wi s.b))).setIfInBounds 2 (.int .u32 (wi s.c))).setIfInBounds 3 (.int .u32 (wi s.d))).setIfInBounds 4 (.int .u32 (wi s.e))).setIfInBounds 5 (.int .u32 (wi s.f))).setIfInBounds 6 (.int .u32 (wi s.g))).setIfInBounds 7 (.int .u32 (wi s.h))) = (hcl s zr 0 0 0 z64).toArray := by
    rw [zero66]
    kernel_rfl
  rw [e, fold_set (List.map bv rest) 0 8 _ (by rw [hz_size _ _ _ zr_length, List.length_map, hr]; omega)]
  have h := hcl_rest (s := s) (n := 0) (d := 0) (m := 0) (ad := z64) zr_length 0 rest (by omega)
  have hsp : splice zr 0 rest = rest := by
    unfold splice
    rw [List.take_zero, List.nil_append, List.drop_eq_nil_of_le (by rw [zr_length, hr]; omega), List.append_nil]
  rw [hsp] at h
  exact congrArg List.toArray h
theorem set72 (s : St) (rest : List UInt8) (n : Nat) (hr : rest.length = 64) : (hcl s rest 0 0 0 z64).toArray.setIfInBounds 72 (.int .i64 (n : Int)) = (hcl s rest n 0 0 z64).toArray := by
  have h := built_e3 s rest n hr
  have e : Array.foldl (fun (cs : Array Value) (x : Value × Nat) => match x with | (c, j) => cs.setIfInBounds (72 + j) c) (hcl s rest 0 0 0 z64).toArray (#[.int .i64 (n : Int)] : Array Value).zipIdx = (hcl s rest 0 0 0 z64).toArray.setIfInBounds 72 (.int .i64 (n : Int)) := by simp
  rw [← e]
  exact h

set_option maxRecDepth 100000 in
set_option maxHeartbeats 1600000 in
theorem copy_any (b : Nat) (all : List UInt8) (w : World) (h : HH w b all) :
    Calls Try.prog 26 #[.pointer (some ⟨b, 0, none⟩)] w fun e w' => ∃ b2, e = .returned (.pointer (some ⟨b2, 0, none⟩)) ∧ HH w' b2 all ∧ w.heap.size ≤ b2 ∧ Below w.heap.size w w' := by
  obtain ⟨s, rest, d, ad, hB, hm, hst, hta⟩ := h
  have hbl := hB.lt
  have hrl := hB.2.1
  have hu52 := Try.underlying52
  have hi52 : (Try.prog.info? 52).map (·.size) = some (rest.map bv).length := by rw [List.length_map, hB.2.1]; exact info52
  have hl52 : (rest.map bv).length = 64 := by rw [List.length_map, hB.2.1]
  have ho52 := bv_one rest
  have hfold := fold8 s rest hrl
  have hset := set72 s rest all.length hrl
  have hXs := hz_size s rest 0 hrl
  generalize (hcl s rest 0 0 0 z64).toArray = X at hfold hset hXs
  have HSET := Lib.hid hset
  clear hset
  obtain ⟨x0, x1, x2, x3, x4, x5, x6, x7⟩ := hB.scells
  have r2 := hB.restAt
  have r3 := hB.size_
  have HST := Lib.hid hst
  have HTA := Lib.hid hta
  have HRL := Lib.hid hrl
  clear hB hm hst hta hrl
  go_enter Try.func26, Try.ntmps26
  go_wp2_with fail
  go_region_held3 (fun w' => w'.cell? ⟨b, 0, none⟩ = some (.int .u32 (wi s.a)) ∧ w'.cell? ⟨b, 1, none⟩ = some (.int .u32 (wi s.b)) ∧ w'.cell? ⟨b, 2, none⟩ = some (.int .u32 (wi s.c)) ∧ w'.cell? ⟨b, 3, none⟩ = some (.int .u32 (wi s.d)) ∧ w'.cell? ⟨b, 4, none⟩ = some (.int .u32 (wi s.e)) ∧ w'.cell? ⟨b, 5, none⟩ = some (.int .u32 (wi s.f)) ∧ w'.cell? ⟨b, 6, none⟩ = some (.int .u32 (wi s.g)) ∧ w'.cell? ⟨b, 7, none⟩ = some (.int .u32 (wi s.h)) ∧ w'.rangeAt b 8 (rest.map bv) ∧ w'.cell? ⟨b, 72, none⟩ = some (.int .i64 all.length)) (first | exact ⟨x0, x1, x2, x3, x4, x5, x6, x7, r2, r3⟩ | exact ⟨(World.cell?_alloc_lt _ _ ⟨b, 0, none⟩ hbl).trans x0, (World.cell?_alloc_lt _ _ ⟨b, 1, none⟩ hbl).trans x1, (World.cell?_alloc_lt _ _ ⟨b, 2, none⟩ hbl).trans x2, (World.cell?_alloc_lt _ _ ⟨b, 3, none⟩ hbl).trans x3, (World.cell?_alloc_lt _ _ ⟨b, 4, none⟩ hbl).trans x4, (World.cell?_alloc_lt _ _ ⟨b, 5, none⟩ hbl).trans x5, (World.cell?_alloc_lt _ _ ⟨b, 6, none⟩ hbl).trans x6, (World.cell?_alloc_lt _ _ ⟨b, 7, none⟩ hbl).trans x7, World.rangeAt_alloc r2 _, (World.cell?_alloc_lt _ _ ⟨b, 72, none⟩ hbl).trans r3⟩) (fail)
  go_wp2
  go_ret
  refine ⟨w.heap.size, rfl, ⟨s, rest, 0, z64, ⟨?_, HRL.out, z64_length⟩, .inl rfl, HST.out, HTA.out⟩, Nat.le_refl _, ((Below.refl _ _).alloc (Nat.le_refl _) _).drew⟩
  rw [HSET.out]
  exact heap_alloc_new w _
end Go.Proofs.Ytkceagckgpkfgaa
