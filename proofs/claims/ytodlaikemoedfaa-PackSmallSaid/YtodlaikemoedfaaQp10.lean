/- Texts put together: YShW8, YShH1. -/
import Derived.Test.YtodlaikemoedfaaQp09
import Derived.Laws.CopyOwn
/- New, Len. -/
namespace Go.Proofs.Ytodlaikemoedfaa.Sh
open Go.RowKit

def NewPost (w : World) (e : Ending) (w' : World) : Prop :=
  ∃ b ad, e = .returned (.pointer (some ⟨b, 0, none⟩)) ∧ HB w' b St.first (List.replicate 64 0) 0 0 0 ad ∧ w.heap.size ≤ b ∧ Below w.heap.size w w'

theorem new_cells : Array.foldl (fun (cs : Array Value) (x : Value × Nat) => cs.setIfInBounds x.snd x.fst) Try.zeroCells74 (stc St.first).zipIdx 0 (stc St.first).size = (hcl St.first (List.replicate 64 0) 0 0 0 (List.replicate 64 (.int .u32 0))).toArray := by kernel_rfl

set_option maxRecDepth 100000 in
set_option maxHeartbeats 800000 in
theorem new_any (w : World) : Calls Try.prog 16 #[] w (NewPost w) := by
  go_enter Try.func16, Try.ntmps16
  go_wp2_with fail
  refine (squares_any _).mono ?_
  rintro e w1 ⟨rfl, hb1⟩
  go_wp2_with fail
  rename_i cs heq
  have hcs : stc St.first = cs := by
    unfold stv at heq
    injection heq
  subst hcs
  go_ret
  refine ⟨w1.heap.size, List.replicate 64 (.int .u32 0), rfl, ?_, hb1.size, hb1.alloc hb1.size _⟩
  rw [new_cells]
  exact ⟨heap_alloc_new _ _, by simp, by simp⟩
end Go.Proofs.Ytodlaikemoedfaa.Sh
/- What a Hasher stands for; the bytes that are written to it. -/
namespace Go.Proofs.Ytodlaikemoedfaa.Sh
open Go.RowKit

/-! Plain lists -/
theorem blocks_append (s : St) (x y : List UInt8) (k : Nat) (h : 64 * k ≤ x.length) : blocks s (x ++ y) k = blocks s x k := by
  induction k with
  | zero => rw [blocks_zero, blocks_zero]
  | succ k ih =>
    rw [blocks_next, blocks_next, ih (by omega)]
    congr 1
    rw [List.drop_append_of_le_length (by omega), List.take_append_of_le_length (by rw [List.length_drop]; omega)]
theorem full_short (x y : List UInt8) (h : (x ++ y).length / 64 = x.length / 64) : full (x ++ y) = full x := by
  rw [full_eq, full_eq, h, blocks_append _ _ _ _ (by omega)]
theorem tail64_length (x : List UInt8) : (tail64 x).length = x.length % 64 := by
  unfold tail64
  rw [List.length_drop]
  omega
theorem tail64_short (x y : List UInt8) (h : (x ++ y).length / 64 = x.length / 64) : tail64 (x ++ y) = tail64 x ++ y := by
  unfold tail64
  rw [h, List.drop_append_of_le_length (by omega)]
theorem full_block (x y : List UInt8) (h : (tail64 x).length + y.length = 64) : full (x ++ y) = press (full x) (tail64 x ++ y) := by
  have hl := tail64_length x
  have e : (x ++ y).length / 64 = x.length / 64 + 1 := by rw [List.length_append]; omega
  rw [full_eq, e, blocks_next, blocks_append _ _ _ _ (by omega), ← full_eq]
  congr 1
  rw [List.drop_append_of_le_length (by omega)]
  show (tail64 x ++ y).take 64 = _
  rw [List.take_of_length_le (by rw [List.length_append]; omega)]
theorem tail64_none (x : List UInt8) (h : x.length % 64 = 0) : tail64 x = [] := by
  apply List.eq_nil_of_length_eq_zero
  rw [tail64_length, h]

/-! The block -/
section
variable {w w' : World} {b : Nat} {s : St} {rest : List UInt8} {n : Nat} {d m : Int} {ad : List Value}
theorem HB.set8 (h : HB w b s rest n d m ad) (t : St) :
    HB ((((((((w.setCell ⟨b, 0, none⟩ (.int .u32 (wi t.a))).setCell ⟨b, 1, none⟩ (.int .u32 (wi t.b))).setCell ⟨b, 2, none⟩ (.int .u32 (wi t.c))).setCell ⟨b, 3, none⟩ (.int .u32 (wi t.d))).setCell ⟨b, 4, none⟩ (.int .u32 (wi t.e))).setCell ⟨b, 5, none⟩ (.int .u32 (wi t.f))).setCell ⟨b, 6, none⟩ (.int .u32 (wi t.g))).setCell ⟨b, 7, none⟩ (.int .u32 (wi t.h))) b t rest n d m ad :=
  h.setState t
theorem HB.scells (h : HB w b s rest n d m ad) : w.cell? ⟨b, 0, none⟩ = some (.int .u32 (wi s.a)) ∧ w.cell? ⟨b, 1, none⟩ = some (.int .u32 (wi s.b)) ∧ w.cell? ⟨b, 2, none⟩ = some (.int .u32 (wi s.c)) ∧
    w.cell? ⟨b, 3, none⟩ = some (.int .u32 (wi s.d)) ∧ w.cell? ⟨b, 4, none⟩ = some (.int .u32 (wi s.e)) ∧ w.cell? ⟨b, 5, none⟩ = some (.int .u32 (wi s.f)) ∧ w.cell? ⟨b, 6, none⟩ = some (.int .u32 (wi s.g)) ∧ w.cell? ⟨b, 7, none⟩ = some (.int .u32 (wi s.h)) :=
  ⟨(h.cell_ 0).trans rfl, (h.cell_ 1).trans rfl, (h.cell_ 2).trans rfl, (h.cell_ 3).trans rfl, (h.cell_ 4).trans rfl, (h.cell_ 5).trans rfl, (h.cell_ 6).trans rfl, (h.cell_ 7).trans rfl⟩
theorem HB.sfrozen (h : HB w b s rest n d m ad) : w.frozen? ⟨b, 0, none⟩ = false ∧ w.frozen? ⟨b, 1, none⟩ = false ∧ w.frozen? ⟨b, 2, none⟩ = false ∧
    w.frozen? ⟨b, 3, none⟩ = false ∧ w.frozen? ⟨b, 4, none⟩ = false ∧ w.frozen? ⟨b, 5, none⟩ = false ∧ w.frozen? ⟨b, 6, none⟩ = false ∧ w.frozen? ⟨b, 7, none⟩ = false :=
  ⟨h.frozen_ 0, h.frozen_ 1, h.frozen_ 2, h.frozen_ 3, h.frozen_ 4, h.frozen_ 5, h.frozen_ 6, h.frozen_ 7⟩
theorem hcl_rest (hr : rest.length = 64) (off : Nat) (cs : List UInt8) (hf : off + cs.length ≤ 64) :
    (hcl s rest n d m ad).take (8 + off) ++ (cs.map bv ++ (hcl s rest n d m ad).drop (8 + off + (cs.map bv).length)) = hcl s (splice rest off cs) n d m ad := by
  unfold hcl splice
  have h8 := stc_length s
  rw [List.take_append, List.take_of_length_le (by omega), h8, show 8 + off - 8 = off from by omega, List.take_append_of_le_length (by simp [hr]; omega)]
  rw [List.drop_append, List.drop_eq_nil_of_le (by omega), h8, List.nil_append, List.length_map, show 8 + off + cs.length - 8 = off + cs.length from by omega, List.drop_append_of_le_length (by simp [hr]; omega)]
  simp [List.map_take, List.map_drop]
theorem HB.setRest (h : HB w b s rest n d m ad) (off : Nat) (cs : List UInt8) (hf : off + cs.length ≤ 64) :
    HB (w.setRow b ((hcl s rest n d m ad).toArray.toList.take (8 + off) ++ (cs.map bv ++ (hcl s rest n d m ad).toArray.toList.drop (8 + off + (cs.map bv).length))).toArray) b s (splice rest off cs) n d m ad := by
  refine ⟨?_, ?_, h.2.2⟩
  · have := h.1.row ((hcl s rest n d m ad).take (8 + off) ++ (cs.map bv ++ (hcl s rest n d m ad).drop (8 + off + (cs.map bv).length))).toArray
    rw [hcl_rest h.2.1 off cs hf] at this
    show Blk (w.setRow b ((hcl s rest n d m ad).take (8 + off) ++ (cs.map bv ++ (hcl s rest n d m ad).drop (8 + off + (cs.map bv).length))).toArray) b 74 _
    rw [hcl_rest h.2.1 off cs hf]
    exact this
  · rw [length_splice _ _ _ (by rw [h.2.1]; exact hf)]; exact h.2.1
end
theorem only_setRow {a w : World} {g : Nat} (h : a.grownBy w (some g)) (c : Array Value) : a.grownBy (w.setRow g c) (some g) :=
  ⟨h.os, h.tape, h.output, by simpa using h.size, fun i hi hne => (setRow_other w g i c (by intro e; exact hne (by rw [e]))).trans (h.block i hi hne)⟩

/-- The bytes bs, read by a slice that lies in another block than b. -/
def Src (w : World) (b : Nat) (A : Option Addr) (bs : List UInt8) : Prop :=
  0 < bs.length → ∃ ad, A = some ad ∧ ad.block ≠ b ∧ ad.block < w.heap.size ∧ ∀ j, j < bs.length → w.cell? (ad.add j) = some (.int .u8 (bi (bs.getD j 0)))
theorem Src.only {w w' : World} {b : Nat} {A : Option Addr} {bs : List UInt8} (h : Src w b A bs) (hg : w.grownBy w' (some b)) : Src w' b A bs := by
  intro h0
  obtain ⟨ad, hA, hne, hlt, hc⟩ := h h0
  refine ⟨ad, hA, hne, Nat.lt_of_lt_of_le hlt hg.size, fun j hj => ?_⟩
  rw [only_cell hg (by rw [block_of_add]; exact hlt) (by rw [block_of_add]; exact hne)]
  exact hc j hj
theorem Src.cut {w : World} {b : Nat} {A : Option Addr} {bs : List UInt8} (h : Src w b A bs) (k : Nat) (A' : Option Addr) (hA : k < bs.length → ∀ ad, A = some ad → A' = some (ad.add k)) : Src w b A' (bs.drop k) := by
  intro h0
  rw [List.length_drop] at h0
  obtain ⟨ad, rfl, hne, hlt, hc⟩ := h (by omega)
  refine ⟨ad.add k, hA (by omega) ad rfl, by rw [block_of_add]; exact hne, by rw [block_of_add]; exact hlt, fun j hj => ?_⟩
  rw [List.length_drop] at hj
  rw [add_of_add, hc (k + j) (by omega)]
  simp only [List.getD_eq_getElem?_getD, List.getElem?_drop]

theorem info5s : (Try.prog.info? 5).map (·.size) = some 1 := by kernel_rfl
/-- copy into a Hasher's rest. -/
theorem copy_rest {ops : Array Oper} {ro : List Oper} {o : Oper} {a : Act} {w : World} {Q : Exit → Act → World → Prop} (hgd : o.guard = none) (dd ss : Operand)
    (ho : o.op = .call { callee := .builtin .copy, args := #[dd, ss], argTypes := #[25, 25] }) (b : Nat) (s : St) (rest : List UInt8) (n : Nat) (d m : Int) (ad : List Value) (h : HB w b s rest n d m ad)
    (off dLen dCap : Nat) (hd : a.eval dd = .slice (some ⟨b, 8 + off, none⟩) dLen dCap) (A : Option Addr) (sLen sCap : Nat) (bs : List UInt8) (hl : bs.length = sLen) (hs : a.eval ss = .slice A sLen sCap) (hsrc : Src w b A bs)
    (k : Nat) (hk : k = Nat.min sLen dLen) (hf : off + k ≤ 64)
    (hK : ∀ w', HB w' b s (splice rest off (bs.take k)) n d m ad → w.grownBy w' (some b) → wpList Try.prog ops Q ro (a.put o.dst (.int .i64 (k : Int))) w') : wpList Try.prog ops Q (o :: ro) a w := by
  have hkl : k ≤ bs.length := by rw [hk, hl]; exact Nat.min_le_left _ _
  by_cases h0 : k = 0
  · subst h0
    refine wpList_copy_nothing hgd dd ss 25 25 ho 5 Try.underlying25 info5s _ _ dLen dCap sLen sCap hd hs hk.symm ?_
    refine hK w ?_ (World.grownBy.refl w _)
    have : splice rest off (bs.take 0) = rest := by simp [splice]
    rw [this]
    exact h
  · obtain ⟨adr, rfl, hne, hlt, hc⟩ := hsrc (by omega)
    refine wpList_copy_own hgd dd ss 25 25 ho 5 Try.underlying25 info5s b (8 + off) dLen dCap adr sLen sCap hd hs (hcl s rest n d m ad).toArray 74 h.1 ((bs.take k).map bv) (by simp [hk, hl]) ?_ ?_ (bv_one _) ?_
    · intro j v hv
      have hj : j < k := by
        have := (List.getElem?_eq_some_iff.1 hv).1
        simp at this
        omega
      rw [hc j (by omega), ← hv, List.getElem?_map, List.getElem?_take, if_pos hj, List.getElem?_eq_getElem (by omega), List.getD_eq_getElem?_getD, List.getElem?_eq_getElem (by omega)]
      rfl
    · simp [hcl_length h.2.1 h.2.2]
      omega
    · have hb := hK _ (h.setRest off (bs.take k) (by rw [List.length_take]; omega)) (only_setRow (World.grownBy.refl w _) _)
      have hg : goInt ((bs.take k).map bv).length = .int .i64 (k : Int) := by
        rw [List.length_map, List.length_take, Nat.min_eq_left hkl]; rfl
      rw [hg]
      exact hb
end Go.Proofs.Ytodlaikemoedfaa.Sh
