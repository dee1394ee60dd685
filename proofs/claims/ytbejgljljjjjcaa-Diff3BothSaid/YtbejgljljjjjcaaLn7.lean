/- Chapter 14: a table of numbers, row by row, in memory. (No package's code in it.) -/
import Derived.Test.YtbejgljljjjjcaaLn6
import Derived.BigRegion
set_option linter.unusedVariables false
set_option linter.unusedSimpArgs false
namespace Go.Proofs.Ytbejgljljjjjcaa.Ln
open Go.RowKit Go.Proofs.Ytbejgljljjjjcaa.Sh Go.Proofs.Ytbejgljljjjjcaa.Tx

theorem make_ints (k : Nat) (hk : k ≤ 2000000) (w : World) : (Instr.makeSlice 60 (.int .i64 (k : Int)) (.int .i64 (k : Int))).run Try.prog w = .ok (.slice (some ⟨w.heap.size, 0, none⟩) k k) (w.alloc (.cells (madeCells #[.int .i64 0] k) 3)) := by
  obtain ⟨i0, hi, hz0, hz1, hz2⟩ := info_parts info_int
  have hr := run_make (P := Try.prog) w 60 3 i0 (.int .i64 0) Try.underlying60 hi hz0 .i64 .i64 k k (by omega) (by omega) (by rw [hz2]; omega) (by omega)
  rw [hz1] at hr
  simpa [Value.cells] using hr
theorem info_ints : (Try.prog.info? 60).map (fun i => (i.zero, i.size, i.bytes)) = some (some (.slice none 0 0), 1, 24) := by kernel_rfl
theorem make_rows (k : Nat) (hk : k ≤ 2000000) (w : World) : (Instr.makeSlice 66 (.int .i64 (k : Int)) (.int .i64 (k : Int))).run Try.prog w = .ok (.slice (some ⟨w.heap.size, 0, none⟩) k k) (w.alloc (.cells (madeCells #[.slice none 0 0] k) 60)) := by
  obtain ⟨i0, hi, hz0, hz1, hz2⟩ := info_parts info_ints
  have hr := run_make (P := Try.prog) w 66 60 i0 (.slice none 0 0) Try.underlying66 hi hz0 .i64 .i64 k k (by omega) (by omega) (by rw [hz2]; omega) (by omega)
  rw [hz1] at hr
  simpa [Value.cells] using hr
/-- A row of m + 1 numbers, told by f. -/
def RowF (w : World) (g : Nat) (m : Nat) (f : Nat → Nat) : Prop := ∃ cur : Array Value, Blk w g 3 cur ∧ cur.size = m + 1 ∧ ∀ k, k ≤ m → cur[k]? = some (.int .i64 (f k : Int))
section
variable {w w' : World} {g m : Nat} {f : Nat → Nat}
theorem RowF.made (w : World) (m : Nat) : RowF (w.alloc (.cells (madeCells #[.int .i64 0] (m + 1)) 3)) w.heap.size m (fun _ => 0) := by
  have e : (madeCells #[.int .i64 0] (m + 1)) = (List.replicate (m + 1) (.int .i64 0 : Value)).toArray := by
    apply Array.ext'
    rw [toList_madeCells_one, List.toList_toArray]
  refine ⟨_, Blk.new w 3 _, by rw [e]; simp, fun k hk => ?_⟩
  rw [e, List.getElem?_toArray, List.getElem?_replicate, if_pos (by omega)]
  rfl
theorem RowF.cell (h : RowF w g m f) (k : Nat) (hk : k ≤ m) : w.cell? ⟨g, k, none⟩ = some (.int .i64 (f k : Int)) := by
  obtain ⟨cur, h1, h2, h3⟩ := h
  rw [h1.cell, h3 k hk]
theorem RowF.frozen (h : RowF w g m f) (k : Nat) : w.frozen? ⟨g, k, none⟩ = false := by
  obtain ⟨cur, h1, _⟩ := h
  exact h1.frozen k
theorem RowF.lt (h : RowF w g m f) : g < w.heap.size := by
  obtain ⟨cur, h1, _⟩ := h
  exact h1.lt
theorem RowF.set (h : RowF w g m f) (k v : Nat) : RowF (w.setCell ⟨g, k, none⟩ (.int .i64 (v : Int))) g m (fun q => if q = k then v else f q) := by
  obtain ⟨cur, h1, h2, h3⟩ := h
  refine ⟨_, h1.set_ k _, by simpa using h2, fun q hq => ?_⟩
  rw [Array.getElem?_setIfInBounds]
  dsimp only
  by_cases e : k = q
  · subst e
    rw [if_pos rfl, if_pos (by omega), if_pos rfl]
  · rw [if_neg e, if_neg (show ¬ q = k from fun e2 => e e2.symm)]
    exact h3 q hq
theorem RowF.far (h : RowF w g m f) {p : Addr} (hp : g ≠ p.block) (u : Value) : RowF (w.setCell p u) g m f := by
  obtain ⟨cur, h1, h2, h3⟩ := h
  exact ⟨cur, h1.far hp u, h2, h3⟩
theorem RowF.below (h : RowF w g m f) {B : Nat} (hb : Below B w w') (hg : g < B) : RowF w' g m f := by
  obtain ⟨cur, h1, h2, h3⟩ := h
  exact ⟨cur, h1.below hb hg, h2, h3⟩
theorem RowF.alloc (h : RowF w g m f) (o : Obj) : RowF (w.alloc o) g m f := by
  obtain ⟨cur, h1, h2, h3⟩ := h
  exact ⟨cur, h1.alloc o, h2, h3⟩
theorem RowF.congr {f' : Nat → Nat} (h : RowF w g m f) (he : ∀ k, k ≤ m → f k = f' k) : RowF w g m f' := by
  obtain ⟨cur, h1, h2, h3⟩ := h
  exact ⟨cur, h1, h2, fun k hk => by rw [h3 k hk, he k hk]⟩
end
/-- A table: its block g, the rows from lo on. -/
structure Mat (w0 w : World) (g n m lo : Nat) (r : Nat → Nat) (F : Nat → Nat → Nat) : Prop where
  blk : ∃ cur : Array Value, Blk w g 60 cur ∧ cur.size = n + 1 ∧ ∀ i, lo ≤ i → i ≤ n → cur[i]? = some (.slice (some ⟨r i, 0, none⟩) (m + 1) (m + 1))
  row : ∀ i, lo ≤ i → i ≤ n → RowF w (r i) m (F i)
  apart : ∀ i j, lo ≤ i → i ≤ n → lo ≤ j → j ≤ n → r i = r j → i = j
  old : ∀ i, lo ≤ i → i ≤ n → w0.heap.size ≤ r i
  gold : w0.heap.size ≤ g
  bel : Below w0.heap.size w0 w
section
variable {w0 w w' : World} {g n m lo : Nat} {r : Nat → Nat} {F : Nat → Nat → Nat}
theorem Mat.made (w0 w : World) (n m : Nat) (hb : Below w0.heap.size w0 w) : Mat w0 (w.alloc (.cells (madeCells #[.slice none 0 0] (n + 1)) 60)) w.heap.size n m (n + 1) (fun _ => 0) (fun _ _ => 0) where
  blk := by
    have e : (madeCells #[.slice none 0 0] (n + 1)) = (List.replicate (n + 1) (.slice none 0 0 : Value)).toArray := by
      apply Array.ext'
      rw [toList_madeCells_one, List.toList_toArray]
    exact ⟨_, Blk.new w 60 _, by rw [e]; simp, fun i h1 h2 => by omega⟩
  row := fun i h1 h2 => by omega
  apart := fun i j h1 h2 => by omega
  old := fun i h1 h2 => by omega
  gold := hb.size
  bel := hb.alloc hb.size _
theorem Mat.cell (h : Mat w0 w g n m lo r F) (i : Nat) (h1 : lo ≤ i) (h2 : i ≤ n) : w.cell? ⟨g, i, none⟩ = some (.slice (some ⟨r i, 0, none⟩) (m + 1) (m + 1)) := by
  obtain ⟨cur, h3, h4, h5⟩ := h.blk
  rw [h3.cell, h5 i h1 h2]
theorem Mat.frozen (h : Mat w0 w g n m lo r F) (i : Nat) : w.frozen? ⟨g, i, none⟩ = false := by
  obtain ⟨cur, h3, _⟩ := h.blk
  exact h3.frozen i
theorem Mat.some_ (h : Mat w0 w g n m lo r F) (i : Nat) (h2 : i ≤ n) : ∃ u, w.cell? ⟨g, i, none⟩ = some u := by
  obtain ⟨cur, h3, h4, _⟩ := h.blk
  exact ⟨cur[i]'(by omega), by rw [h3.cell]; exact Array.getElem?_eq_getElem (by omega)⟩
theorem Mat.alloc (h : Mat w0 w g n m lo r F) (o : Obj) : Mat w0 (w.alloc o) g n m lo r F where
  blk := by
    obtain ⟨cur, h3, h4⟩ := h.blk
    exact ⟨cur, h3.alloc o, h4⟩
  row := fun i h1 h2 => (h.row i h1 h2).alloc o
  apart := h.apart
  old := h.old
  gold := h.gold
  bel := h.bel.alloc h.bel.size o
theorem Mat.size (h : Mat w0 w g n m lo r F) : w0.heap.size ≤ w.heap.size := h.bel.size
theorem Mat.ne (h : Mat w0 w g n m lo r F) (i : Nat) (h1 : lo ≤ i) (h2 : i ≤ n) : r i ≠ g := by
  intro e
  obtain ⟨cur, h3, _⟩ := h.blk
  obtain ⟨cur2, h4, _⟩ := h.row i h1 h2
  rw [e] at h4
  exact Blk.ne_ h3 h4 (by decide) rfl
theorem Mat.congr {F' : Nat → Nat → Nat} (h : Mat w0 w g n m lo r F) (he : ∀ i k, lo ≤ i → i ≤ n → k ≤ m → F i k = F' i k) : Mat w0 w g n m lo r F' :=
  { h with row := fun i h1 h2 => (h.row i h1 h2).congr (fun k hk => he i k h1 h2 hk) }
theorem Mat.below (h : Mat w0 w g n m lo r F) (hb : Below w.heap.size w w') : Mat w0 w' g n m lo r F where
  blk := by
    obtain ⟨cur, h3, h4⟩ := h.blk
    exact ⟨cur, h3.below hb h3.lt, h4⟩
  row := fun i h1 h2 => (h.row i h1 h2).below hb (h.row i h1 h2).lt
  apart := h.apart
  old := h.old
  gold := h.gold
  bel := h.bel.trans (hb.mono h.bel.size)
theorem Mat.drew (h : Mat w0 w g n m lo r F) : Mat w0 w.drew g n m lo r F := h.below ((Below.refl _ _).drew)
theorem Mat.drewN (h : Mat w0 w g n m lo r F) (k : Nat) : Mat w0 (w.drewN k) g n m lo r F := h.below (below_drewN (Below.refl _ _) k)
/-- A row more. -/
theorem Mat.add (h : Mat w0 w g n m (lo + 1) r F) (hl : lo ≤ n) : Mat w0 ((w.alloc (.cells (madeCells #[.int .i64 0] (m + 1)) 3)).setCell ⟨g, lo, none⟩ (.slice (some ⟨w.heap.size, 0, none⟩) (m + 1) (m + 1))) g n m lo (fun q => if q = lo then w.heap.size else r q) (fun q k => if q = lo then 0 else F q k) where
  blk := by
    obtain ⟨cur, h3, h4, h5⟩ := h.blk
    refine ⟨_, (h3.alloc _).set_ lo _, by simpa using h4, fun i h1 h2 => ?_⟩
    rw [Array.getElem?_setIfInBounds]
    by_cases e : lo = i
    · subst e
      rw [if_pos rfl, if_pos (by omega), if_pos rfl]
    · rw [if_neg e, if_neg (fun e2 => e e2.symm)]
      exact h5 i (by omega) h2
  row := fun i h1 h2 => by
    obtain ⟨cur, h3, _⟩ := h.blk
    have hg := h3.lt
    by_cases e : i = lo
    · subst e
      simp only [if_true]
      exact (RowF.made w m).far (p := ⟨g, i, none⟩) (by show w.heap.size ≠ g; omega) _
    · simp only [if_neg e]
      exact ((h.row i (by omega) h2).alloc _).far (p := ⟨g, lo, none⟩) (h.ne i (by omega) h2) _
  apart := fun i j h1 h2 h3 h4 e => by
    by_cases e1 : i = lo
    · by_cases e2 : j = lo
      · omega
      · simp only [if_pos e1, if_neg e2] at e
        have := (h.row j (by omega) h4).lt
        omega
    · by_cases e2 : j = lo
      · simp only [if_neg e1, if_pos e2] at e
        have := (h.row i (by omega) h2).lt
        omega
      · simp only [if_neg e1, if_neg e2] at e
        exact h.apart i j (by omega) h2 (by omega) h4 e
  old := fun i h1 h2 => by
    by_cases e : i = lo
    · simp only [if_pos e]
      exact h.bel.size
    · simp only [if_neg e]
      exact h.old i (by omega) h2
  gold := h.gold
  bel := (h.bel.alloc h.bel.size _).setCell (p := ⟨g, lo, none⟩) h.gold _
/-- A number set. -/
theorem Mat.set (h : Mat w0 w g n m lo r F) (i k v : Nat) (h1 : lo ≤ i) (h2 : i ≤ n) : Mat w0 (w.setCell ⟨r i, k, none⟩ (.int .i64 (v : Int))) g n m lo r (fun q j => if q = i then (if j = k then v else F i j) else F q j) where
  blk := by
    obtain ⟨cur, h3, h4⟩ := h.blk
    exact ⟨cur, h3.far (p := ⟨r i, k, none⟩) (fun e => h.ne i h1 h2 e.symm) _, h4⟩
  row := fun q h3 h4 => by
    by_cases e : q = i
    · subst e
      simp only [if_true]
      exact (h.row q h3 h4).set k v
    · simp only [if_neg e]
      exact (h.row q h3 h4).far (p := ⟨r i, k, none⟩) (fun e2 => e (h.apart q i h3 h4 h1 h2 e2)) _
  apart := h.apart
  old := h.old
  gold := h.gold
  bel := h.bel.setCell (p := ⟨r i, k, none⟩) (h.old i h1 h2) _
end
/-- What the table holds while row i is filled, from place j on. -/
def tabF (a b : List ByteArray) (i j : Nat) (q k : Nat) : Nat := if q = i ∧ k < j then 0 else lenL (a.drop q) (b.drop k)
theorem tab_row {a b : List ByteArray} {n m i : Nat} (hn : a.length = n) (hm : b.length = m) {w0 w : World} {g : Nat} {r : Nat → Nat} (h : Mat w0 w g n m (i + 1) r (tabF a b (i + 1) 0)) (hi : i ≤ n) :
    ∃ r', Mat w0 ((w.alloc (.cells (madeCells #[.int .i64 0] (m + 1)) 3)).setCell ⟨g, i, none⟩ (.slice (some ⟨w.heap.size, 0, none⟩) (m + 1) (m + 1))) g n m i r' (tabF a b i m) := by
  refine ⟨_, (h.add hi).congr fun q k h1 h2 h3 => ?_⟩
  unfold tabF
  by_cases e : q = i
  · subst e
    rw [if_pos rfl]
    split
    · rfl
    · rename_i h9
      rw [table_end a b q k (.inr (by omega))]
  · rw [if_neg e, if_neg (show ¬ (q = i + 1 ∧ k < 0) from fun h => by omega), if_neg (show ¬ (q = i ∧ k < m) from fun h => e h.1)]
/-- The last row needs no filling. -/
theorem tab_last {a b : List ByteArray} {n m : Nat} (hn : a.length = n) {w0 w : World} {g : Nat} {r : Nat → Nat} (h : Mat w0 w g n m n r (tabF a b n m)) : Mat w0 w g n m n r (tabF a b n 0) :=
  h.congr fun q k h1 h2 h3 => by
    unfold tabF
    rw [if_neg (show ¬ (q = n ∧ k < 0) from fun h => by omega)]
    split
    · rename_i e
      rw [table_end a b q k (.inl (by omega))]
    · rfl
theorem tab_set {a b : List ByteArray} {n m i j v : Nat} {w0 w : World} {g : Nat} {r : Nat → Nat} (h : Mat w0 w g n m i r (tabF a b i (j + 1))) (hi : i ≤ n) (hv : v = lenL (a.drop i) (b.drop j)) : Mat w0 (w.setCell ⟨r i, j, none⟩ (.int .i64 (v : Int))) g n m i r (tabF a b i j) :=
  (h.set i j v (Nat.le_refl _) hi).congr fun q k h1 h2 h3 => by
    unfold tabF
    by_cases e : q = i
    · subst e
      rw [if_pos rfl]
      by_cases e2 : k = j
      · subst e2
        rw [if_pos rfl, if_neg (show ¬ (q = q ∧ k < k) from fun h => by omega), hv]
      · rw [if_neg e2]
        by_cases h4 : k < j
        · rw [if_pos (show q = q ∧ k < j + 1 from ⟨rfl, by omega⟩), if_pos (show q = q ∧ k < j from ⟨rfl, h4⟩)]
        · rw [if_neg (show ¬ (q = q ∧ k < j + 1) from fun h => by omega), if_neg (show ¬ (q = q ∧ k < j) from fun h => h4 h.2)]
    · rw [if_neg e, if_neg (show ¬ (q = i ∧ k < j + 1) from fun h => e h.1), if_neg (show ¬ (q = i ∧ k < j) from fun h => e h.1)]
theorem tab_done (a b : List ByteArray) (i : Nat) : tabF a b i 0 = tabF a b 0 0 := by
  funext q k
  unfold tabF
  rw [if_neg (show ¬ (q = i ∧ k < 0) from fun h => by omega), if_neg (show ¬ (q = 0 ∧ k < 0) from fun h => by omega)]
/-- What both sides' tables are. -/
def TabPost (w : World) (a b : List ByteArray) (e : Ending) (w' : World) : Prop := ∃ g r, e = .returned (.slice (some ⟨g, 0, none⟩) (a.length + 1) (a.length + 1)) ∧ Mat w w' g a.length b.length 0 r (tabF a b 0 0)
end Go.Proofs.Ytbejgljljjjjcaa.Ln
