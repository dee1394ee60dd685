/- The document's: to which place of the other one each place is paired. -/
import Derived.Test.YtbejgljljjjjcaaDf4
import Derived.Test.YtbejgljljjjjcaaLnB
set_option linter.unusedVariables false
set_option linter.unusedSimpArgs false
namespace Go.Proofs.Ytbejgljljjjjcaa.Ln
open Go.RowKit Go.Proofs.Ytbejgljljjjjcaa.Sh Go.Proofs.Ytbejgljljjjjcaa.Tx

def atI : Option Nat → Int
  | none => -1
  | some v => (v : Int)
theorem atI_eq {o : Option Nat} {v : Nat} : atI o = (v : Int) ↔ o = some v := by
  cases o with
  | none => constructor
            · intro h; have h' : (-1 : Int) = (v : Int) := h; omega
            · intro h; cases h
  | some u => unfold atI; constructor
              · intro h; rw [Int.ofNat.inj h]
              · intro h; injection h with h; rw [h]
theorem atI_neg {o : Option Nat} : atI o < 0 ↔ o = none := by
  cases o with
  | none => simp [atI]
  | some u => simp [atI]
/-- A block of n whole numbers. -/
def FunI (w : World) (g n : Nat) (F : Nat → Int) : Prop := ∃ cur : Array Value, Blk w g 3 cur ∧ cur.size = n ∧ ∀ k, k < n → cur[k]? = some (.int .i64 (F k))
section
variable {w w' : World} {g n : Nat} {F : Nat → Int}
theorem FunI.cell (h : FunI w g n F) (k : Nat) (hk : k < n) : w.cell? ⟨g, k, none⟩ = some (.int .i64 (F k)) := by
  obtain ⟨cur, hb, hs, hc⟩ := h
  rw [hb.cell k, hc k hk]
theorem FunI.frozen (h : FunI w g n F) (k : Nat) : w.frozen? ⟨g, k, none⟩ = false := by
  obtain ⟨cur, hb, hs, hc⟩ := h
  exact hb.frozen k
theorem FunI.lt (h : FunI w g n F) : g < w.heap.size := by
  obtain ⟨cur, hb, hs, hc⟩ := h
  exact hb.lt
theorem FunI.set (h : FunI w g n F) (k : Nat) (v : Int) : FunI (w.setCell ⟨g, k, none⟩ (.int .i64 v)) g n (fun q => if q = k then v else F q) := by
  obtain ⟨cur, hb, hs, hc⟩ := h
  refine ⟨_, hb.set_ k _, by simp [hs], fun q hq => ?_⟩
  rw [Array.getElem?_setIfInBounds]
  dsimp only
  by_cases e : k = q
  · subst e
    rw [if_pos rfl, if_pos (by omega), if_pos rfl]
  · rw [if_neg e, if_neg (show ¬ q = k from fun e2 => e e2.symm)]
    exact hc q hq
theorem FunI.below (h : FunI w g n F) {B : Nat} (hb : Below B w w') (hg : g < B) : FunI w' g n F := by
  obtain ⟨cur, hb', hs, hc⟩ := h
  exact ⟨cur, hb'.below hb hg, hs, hc⟩
theorem FunI.congr {F' : Nat → Int} (h : FunI w g n F) (he : ∀ k, k < n → F k = F' k) : FunI w g n F' := by
  obtain ⟨cur, hb, hs, hc⟩ := h
  exact ⟨cur, hb, hs, fun k hk => by rw [hc k hk, he k hk]⟩
end
theorem FunI.made (w : World) (n : Nat) : FunI (w.alloc (.cells (madeCells #[.int .i64 0] n) 3)) w.heap.size n (fun _ => 0) := by
  have e : (madeCells #[.int .i64 0] n) = (List.replicate n (.int .i64 0 : Value)).toArray := by
    apply Array.ext'
    rw [toList_madeCells_one, List.toList_toArray]
  refine ⟨_, Blk.new w 3 _, by rw [e]; simp, fun k hk => ?_⟩
  rw [e, List.getElem?_toArray, List.getElem?_replicate, if_pos hk]
def ToP (w : World) (n : Nat) (P : List (Nat × Nat)) (e : Ending) (w' : World) : Prop := ∃ g, e = .returned (.slice (some ⟨g, 0, none⟩) n n) ∧ FunI w' g n (fun m => atI (atL P m)) ∧ w.heap.size ≤ g ∧ Below w.heap.size w w'
set_option maxRecDepth 100000 in
set_option maxHeartbeats 3200000 in
theorem to_any (v : Value) (P : List (Nat × Nat)) (n : Nat) (w : World) (h : SlK 2 w v (P.map prC)) (hP : P.length ≤ 200) (hn : n ≤ 200) (hp : ∀ p ∈ P, p.1 < n) :
    Calls Try.prog 28 #[v, .int .i64 (n : Int)] w (ToP w n P) := by
  obtain ⟨A, c, rfl, hc, hm, _⟩ := id h
  rw [List.length_map] at h hc ⊢
  unfold maxLen at hm
  have HK := Lib.hid (fun W (hW : Below w.heap.size w W) => h.below hW)
  have HP := Lib.hid hp
  unfold ToP
  obtain ⟨m, hm'⟩ : ∃ m, P.length = m := ⟨_, rfl⟩
  have HM := Lib.hid hm'
  rw [hm'] at hc hP HK ⊢
  have mk : ∀ W, (Instr.makeSlice 60 (.int .i64 (n : Int)) (.int .i64 (n : Int))).run Try.prog W = .ok (.slice (some ⟨W.heap.size, 0, none⟩) n n) (W.alloc (.cells (madeCells #[.int .i64 0] n) 3)) := fun W => make_ints n (by omega) W
  obtain ⟨w1, hw1⟩ : ∃ W, w.alloc (.cells (madeCells #[.int .i64 0] n) 3) = W := ⟨_, rfl⟩
  obtain ⟨g, hg⟩ : ∃ k, w.heap.size = k := ⟨_, rfl⟩
  have hk := mk w
  rw [hw1, hg] at hk
  have HB1 : Hid (Below w.heap.size w w1) := by unfold Hid; rw [← hw1]; exact (Below.refl _ _).alloc (Nat.le_refl _) _
  have HF : Hid (FunI w1 g n (fun _ => 0)) := by unfold Hid; rw [← hw1, ← hg]; exact FunI.made w n
  have HG : Hid (w.heap.size ≤ g) := Nat.le_of_eq hg
  clear h hp hm' mk hw1 hg
  go_enter Try.func28, Try.ntmps28
  go_wp2_with fail
  go_loopw [6] (fun x wr => ∃ (i : Nat) (F : Nat → Int), i ≤ n ∧ x = .int .i64 (i : Int) ∧ FunI wr g n F ∧ (∀ k, k < i → F k = -1) ∧ Below w.heap.size w wr) (fun x _ => n - (intOf x).toNat)
  case atStart => exact ⟨0, _, Nat.zero_le _, rfl, HF.out, fun k hk => absurd hk (Nat.not_lt_zero _), HB1.out⟩
  case round =>
    obtain ⟨i, F, hi, rfl, hf, hall, hb⟩ := hrel
    have HFI := Lib.hid hf
    have HAL := Lib.hid hall
    have HB := Lib.hid hb
    clear hf hall hb
    have z0 : (0 : Int) ≤ (i : Int) := by omega
    by_cases hin : i < n
    · have z1 : (i : Int) < (n : Int) := by omega
      have k0 := HFI.out.cell i hin
      have kf0 := HFI.out.frozen i
      go_wp2_with fail
      go_roundw
      case rel =>
        refine ⟨i + 1, _, by omega, by go_num, HFI.out.set i (-1), fun k hk => ?_, HB.out.setCell (by exact HG.out) _⟩
        by_cases e : k = i
        · rw [if_pos e]
        · rw [if_neg e]; exact HAL.out k (by omega)
      case measure => simp [intOf]; omega
    · obtain rfl : i = n := by omega
      have z1 : ¬ (i : Int) < (i : Int) := by omega
      have HF0 : Hid (FunI wr g i (fun q => atI (atL (P.take 0) q))) := HFI.out.congr (fun k hk => by rw [HAL.out k hk]; rfl)
      clear HFI HAL
      go_wp2_with fail
      go_loopw [7] (fun x wq => ∃ k : Nat, k ≤ m ∧ x = .int .i64 (k : Int) ∧ FunI wq g i (fun q => atI (atL (P.take k) q)) ∧ Below w.heap.size w wq) (fun x _ => m - (intOf x).toNat)
      case atStart => exact ⟨0, Nat.zero_le _, rfl, HF0.out, HB.out⟩
      case round =>
        obtain ⟨k, hk, rfl, hf, hb⟩ := hrel
        have HFI := Lib.hid hf
        have HB2 := Lib.hid hb
        clear hf hb
        have y0 : (0 : Int) ≤ (k : Int) := by omega
        by_cases hkm : k < m
        · have y1 : (k : Int) < (m : Int) := by omega
          have hkl : k < P.length := by rw [HM.out]; exact hkm
          obtain ⟨x, hx⟩ : ∃ x, P[k]? = some x := ⟨_, List.getElem?_eq_getElem hkl⟩
          obtain ⟨p, q⟩ := x
          have hpn : p < i := HP.out _ (List.mem_of_getElem? hx)
          obtain ⟨ad, rfl, x0, x1⟩ := pr_at (HK.out _ HB2.out) k p q hx
          have HX : Hid (P.take (k + 1) = P.take k ++ [(p, q)]) := by unfold Hid; rw [List.take_add_one, hx]; rfl
          have k0 := HFI.out.cell p hpn
          have kf0 := HFI.out.frozen p
          have p0 : (0 : Int) ≤ (p : Int) := by omega
          have p1 : (p : Int) < (i : Int) := by omega
          clear hx hkl
          go_wp2_with fail
          go_region
          go_wp2_with fail
          go_roundw
          case rel =>
            refine ⟨k + 1, by omega, by go_num, ?_, ?_⟩
            · rw [HX.out]
              refine FunI.congr (HFI.out.set p q) (fun j hj => ?_)
              rw [atL_snoc]
              by_cases e : j = p
              · rw [if_pos e, if_pos e.symm]; rfl
              · rw [if_neg e, if_neg (fun e' => e e'.symm)]
            · exact (HB2.out.setCell (by exact HG.out) _).drew
          case measure => simp [intOf]; omega
        · obtain rfl : k = m := by omega
          have y1 : ¬ (k : Int) < (k : Int) := by omega
          have HFE : Hid (FunI wr g i (fun q => atI (atL P q))) := by
            have := HFI.out
            rw [List.take_of_length_le (by rw [HM.out]; exact Nat.le_refl _)] at this
            exact this
          go_wp2_with fail
          go_ret
          exact ⟨g, rfl, HFE.out, HG.out, HB2.out⟩
end Go.Proofs.Ytbejgljljjjjcaa.Ln
