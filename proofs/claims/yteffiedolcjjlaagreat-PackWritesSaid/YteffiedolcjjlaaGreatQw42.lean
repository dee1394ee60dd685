/- Texts put together: YShR3. -/
import Derived.Test.YteffiedolcjjlaaGreatQw11
import Derived.Test.YteffiedolcjjlaaGreatQw08
/- The reference's Sum: plain lists; what its blocks hold. -/
namespace Go.Proofs.YteffiedolcjjlaaGreat.Sh
open Go.RowKit

theorem blocks_add (s : St) (x y : List UInt8) (k j : Nat) (h : x.length = 64 * k) : blocks s (x ++ y) (k + j) = blocks (blocks s x k) y j := by
  induction j with
  | zero => rw [Nat.add_zero, blocks_zero, blocks_append _ _ _ _ (by omega)]
  | succ j ih =>
    rw [← Nat.add_assoc, blocks_next, blocks_next, ih]
    congr 1
    rw [List.drop_append, List.drop_eq_nil_of_le (by omega), List.nil_append, show 64 * (k + j) - x.length = 64 * j from by omega]
theorem sum_pad (bs : List UInt8) : sumOf bs = outB (blocks St.first (lastOf bs bs.length) ((lastOf bs bs.length).length / 64)) := by
  obtain ⟨n, hn⟩ : ∃ n, bs.length = n := ⟨_, rfl⟩
  obtain ⟨x, hx⟩ : ∃ x, bs.take (64 * (n / 64)) = x := ⟨_, rfl⟩
  have hxl : x.length = 64 * (n / 64) := by rw [← hx, List.length_take, hn]; omega
  have e1 : lastOf bs n = x ++ lastOf (tail64 bs) n := by
    unfold lastOf tail64
    rw [hn, ← hx, ← List.append_assoc, ← List.append_assoc, List.take_append_drop]
  have e2 : full bs = blocks St.first x (n / 64) := by
    rw [full_eq, hn]
    conv => lhs; rw [← List.take_append_drop (64 * (n / 64)) bs, hx]
    exact blocks_append _ _ _ _ (by omega)
  rw [sumOf_eq, hn, e1, e2, ← blocks_add _ _ _ _ _ hxl]
  congr 2
  rw [List.length_append, hxl]
  omega
theorem lastOf_len (bs : List UInt8) (n : Nat) (h : bs.length = n) : (lastOf bs n).length = n + zeros n + 9 := by
  unfold lastOf
  rw [List.length_append, List.length_append, List.length_cons, List.length_replicate, len8_length, h]
  omega
theorem lastOf_mul (bs : List UInt8) (n : Nat) (h : bs.length = n) : ∃ N, (lastOf bs n).length = 64 * N ∧ N ≤ n / 64 + 2 := by
  refine ⟨(n + zeros n + 9) / 64, ?_⟩
  rw [lastOf_len bs n h]
  unfold zeros
  omega

def RF (w0 w : World) (gk gh gm : Nat) (cur : Array Value) (s : St) : Prop :=
  Blk w gk 154 kv.toArray ∧ Blk w gh 154 (stc s) ∧ Blk w gm 5 cur ∧ Below w0.heap.size w0 w
section
variable {w0 w : World} {gk gh gm : Nat} {cur : Array Value} {s : St}
theorem RF.far (h : RF w0 w gk gh gm cur s) {p : Addr} (n1 : gk ≠ p.block) (n2 : gh ≠ p.block) (n3 : gm ≠ p.block) (hb : w0.heap.size ≤ p.block) (u : Value) : RF w0 (w.setCell p u) gk gh gm cur s :=
  ⟨h.1.far n1 u, h.2.1.far n2 u, h.2.2.1.far n3 u, h.2.2.2.setCell hb u⟩
theorem RF.drewN (h : RF w0 w gk gh gm cur s) (k : Nat) : RF w0 (w.drewN k) gk gh gm cur s := ⟨h.1, h.2.1, h.2.2.1, below_drewN h.2.2.2 k⟩
theorem RF.drew (h : RF w0 w gk gh gm cur s) : RF w0 w.drew gk gh gm cur s := ⟨h.1, h.2.1, h.2.2.1, h.2.2.2.drew⟩
theorem RF.alloc (h : RF w0 w gk gh gm cur s) (o : Obj) : RF w0 (w.alloc o) gk gh gm cur s := ⟨h.1.alloc o, h.2.1.alloc o, h.2.2.1.alloc o, h.2.2.2.alloc h.2.2.2.size o⟩
theorem RF.row (h : RF w0 w gk gh gm cur s) {g : Nat} (n1 : gk ≠ g) (n2 : gh ≠ g) (n3 : gm ≠ g) (hb : w0.heap.size ≤ g) (c : Array Value) : RF w0 (w.setRow g c) gk gh gm cur s :=
  ⟨h.1.rowFar n1 c, h.2.1.rowFar n2 c, h.2.2.1.rowFar n3 c, below_setRow h.2.2.2 hb c⟩
end

/-- Block g holds 64 words of which the first n are those of bs. -/
def Sc (bs : List UInt8) (w : World) (g n : Nat) : Prop :=
  ∃ cs, Blk w g 154 cs ∧ cs.size = 64 ∧ (∀ j, j < n → cs[j]? = some (wv (wd bs j))) ∧ ∀ j, j < 64 → ∃ u, cs[j]? = some (.int .u32 u)
theorem Sc.zero {bs bs' : List UInt8} {w : World} {g n : Nat} (h : Sc bs w g n) : Sc bs' w g 0 := by
  obtain ⟨cs, h1, h2, _, h4⟩ := h
  exact ⟨cs, h1, h2, fun j hj => by omega, h4⟩
theorem Sc.set {bs : List UInt8} {w : World} {g k : Nat} (h : Sc bs w g k) (hk : k < 64) (u : UInt32) (hu : u = wd bs k) : Sc bs (w.setCell ⟨g, k, none⟩ (.int .u32 (wi u))) g (k + 1) := by
  obtain ⟨cs, hb, hz, hd, hi⟩ := h
  rw [hu]
  have hget : ∀ j, (cs.setIfInBounds k (.int .u32 (wi (wd bs k))))[j]? = if k = j then some (wv (wd bs k)) else cs[j]? := by
    intro j
    rw [Array.getElem?_setIfInBounds]
    by_cases e : k = j
    · subst e; rw [if_pos rfl, if_pos (by omega), if_pos rfl]; rfl
    · rw [if_neg e, if_neg e]
  refine ⟨_, hb.set_ k _, ?_, ?_, ?_⟩
  · rw [Array.size_setIfInBounds]; exact hz
  · intro j hj
    rw [hget]
    by_cases e : k = j
    · subst e; rw [if_pos rfl]
    · rw [if_neg e]; exact hd j (by omega)
  · intro j hj
    rw [hget]
    by_cases e : k = j
    · subst e; rw [if_pos rfl]; exact ⟨_, rfl⟩
    · rw [if_neg e]; exact hi j hj
theorem Sc.drew {bs : List UInt8} {w : World} {g n : Nat} (h : Sc bs w g n) : Sc bs w.drew g n := h
theorem Sc.drewN {bs : List UInt8} {w : World} {g n : Nat} (h : Sc bs w g n) (k : Nat) : Sc bs (w.drewN k) g n := h
theorem Sc.alloc {bs : List UInt8} {w : World} {g n : Nat} (h : Sc bs w g n) (o : Obj) : Sc bs (w.alloc o) g n := by
  obtain ⟨cs, hb, r⟩ := h
  exact ⟨cs, hb.alloc o, r⟩
theorem Sc.far {bs : List UInt8} {w : World} {g n : Nat} (h : Sc bs w g n) {p : Addr} (hp : g ≠ p.block) (u : Value) : Sc bs (w.setCell p u) g n := by
  obtain ⟨cs, hb, r⟩ := h
  exact ⟨cs, hb.far hp u, r⟩
theorem Sc.row {bs : List UInt8} {w : World} {g n : Nat} (h : Sc bs w g n) {g' : Nat} (hp : g ≠ g') (c : Array Value) : Sc bs (w.setRow g' c) g n := by
  obtain ⟨cs, hb, r⟩ := h
  exact ⟨cs, hb.rowFar hp c, r⟩
theorem Sc.cell {bs : List UInt8} {w : World} {g n : Nat} (h : Sc bs w g n) (j : Nat) (hj : j < n) : w.cell? ⟨g, j, none⟩ = some (.int .u32 (wi (wd bs j))) := by
  obtain ⟨cs, hb, _, hd, _⟩ := h
  rw [hb.cell]; exact hd j hj
theorem Sc.any {bs : List UInt8} {w : World} {g n : Nat} (h : Sc bs w g n) (j : Nat) (hj : j < 64) : ∃ u, w.cell? ⟨g, j, none⟩ = some (.int .u32 u) := by
  obtain ⟨cs, hb, _, _, hi⟩ := h
  obtain ⟨u, hu⟩ := hi j hj
  exact ⟨u, by rw [hb.cell]; exact hu⟩
theorem Sc.frozen {bs : List UInt8} {w : World} {g n : Nat} (h : Sc bs w g n) (j : Nat) : w.frozen? ⟨g, j, none⟩ = false := by
  obtain ⟨cs, hb, _⟩ := h
  exact hb.frozen j
theorem made_any {c : Value} (k j : Nat) (hj : j < k) : (madeCells #[c] k)[j]? = some c := by
  rw [← Array.getElem?_toList, toList_madeCells_one, List.getElem?_replicate, if_pos hj]
theorem Sc.made (bs : List UInt8) (w : World) : Sc bs (w.alloc (.cells (madeCells #[.int .u32 0] 64) 154)) w.heap.size 0 := by
  refine ⟨_, heap_alloc_new _ _, by rw [size_madeCells], fun j hj => by omega, fun j hj => ⟨0, made_any 64 j hj⟩⟩

/-- h in the midst of being added to. -/
def mix (s t : St) (i : Nat) : Array Value := (((plus s t).list.take i ++ s.list.drop i).map wv).toArray
theorem mix_zero (s t : St) : mix s t 0 = stc s := rfl
theorem mix_all (s t : St) : mix s t 8 = stc (plus s t) := rfl
theorem mix_get (s t : St) (i : Nat) (hi : i < 8) : (mix s t i)[i]? = some (.int .u32 (wi (s.list.getD i 0))) := by
  obtain rfl | rfl | rfl | rfl | rfl | rfl | rfl | rfl : i = 0 ∨ i = 1 ∨ i = 2 ∨ i = 3 ∨ i = 4 ∨ i = 5 ∨ i = 6 ∨ i = 7 := by omega
  all_goals rfl
theorem stc_get (s : St) (i : Nat) (hi : i < 8) : (stc s)[i]? = some (.int .u32 (wi (s.list.getD i 0))) := by
  obtain rfl | rfl | rfl | rfl | rfl | rfl | rfl | rfl : i = 0 ∨ i = 1 ∨ i = 2 ∨ i = 3 ∨ i = 4 ∨ i = 5 ∨ i = 6 ∨ i = 7 := by omega
  all_goals rfl
theorem mix_set (s t : St) (i : Nat) (hi : i < 8) : (mix s t i).setIfInBounds i (.int .u32 (wi (s.list.getD i 0 + t.list.getD i 0))) = mix s t (i + 1) := by
  obtain rfl | rfl | rfl | rfl | rfl | rfl | rfl | rfl : i = 0 ∨ i = 1 ∨ i = 2 ∨ i = 3 ∨ i = 4 ∨ i = 5 ∨ i = 6 ∨ i = 7 := by omega
  all_goals simp [mix, St.list, plus, wv]
theorem make_words (w : World) :
    (Instr.makeSlice 152 (.int .i64 64) (.int .i64 64)).run Tryz.prog w = .ok (.slice (some ⟨w.heap.size, 0, none⟩) 64 64) (w.alloc (.cells (madeCells #[.int .u32 0] 64) 154)) := by
  kernel_rfl
end Go.Proofs.YteffiedolcjjlaaGreat.Sh
