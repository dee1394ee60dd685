/- Texts put together: ShW6, ShW7, ShW8. -/
import Derived.Test.YtcmlofgkcalhnaaQo03
/- The last blocks. -/
namespace Go.Proofs.Ytcmlofgkcalhnaa.Sh
open Go.RowKit

/-- v is a slice of the call's own (its block from B on) that holds the bytes bs. -/
def Own (w : World) (B : Nat) (v : Value) (bs : List UInt8) : Prop := w.ownsRow B 5 1 v bs.length (bs.map bv)

theorem info5 : (Try.prog.info? 5).map (fun i => (i.zero, i.size, i.bytes)) = some (some (.int .u8 0), 1, 1) := by kernel_rfl

theorem own_made (w : World) (c : Nat) (hc : c ≤ maxLen) : (w.alloc (.cells (madeCells #[.int .u8 0] c) 5)).ownsRow w.heap.size 5 1 (.slice (some ⟨w.heap.size, 0, none⟩) 0 c) 0 [] :=
  World.ownsRow_made w _ c (Nat.le_refl _) hc (by rw [size_madeCells]; omega)
theorem make_bytes (c : Nat) (hc : c ≤ 281474976710656) (w : World) :
    (Instr.makeSlice 29 (.int .i64 ((0 : Nat) : Int)) (.int .i64 (c : Int))).run Try.prog w = .ok (.slice (some ⟨w.heap.size, 0, none⟩) 0 c) (w.alloc (.cells (madeCells #[.int .u8 0] c) 5)) := by
  obtain ⟨i0, hi, hz0, hz1, hz2⟩ := info_parts info5
  have hr := run_make (P := Try.prog) w 29 5 i0 (.int .u8 0) Try.underlying29 hi hz0 .i64 .i64 0 c (by omega) (by omega) (by rw [hz2]; omega) (by omega)
  rw [hz1] at hr
  simpa [Value.cells] using hr

theorem bv_one (l : List UInt8) : ∀ u ∈ l.map bv, u.oneCell' = true := by
  intro u hu
  simp only [List.mem_map] at hu
  obtain ⟨x, _, rfl⟩ := hu
  rfl
theorem Own.alloc {w : World} {B : Nat} {v : Value} {bs : List UInt8} (h : Own w B v bs) (o : Obj) : Own (w.alloc o) B v bs := World.ownsRow.alloc h o
theorem Own.drew {w : World} {B : Nat} {v : Value} {bs : List UInt8} (h : Own w B v bs) : Own w.drew B v bs := h
theorem append_bytes {ops : Array Oper} {rest : List Oper} {o : Oper} {a : Act} {Q : Exit → Act → World → Prop} (hgd : o.guard = none) (s x : Operand)
    (ho : o.op = .call { callee := .builtin .append, args := #[s, x], argTypes := #[29, 29] }) (w : World) (B : Nat) (v : Value) (bs : List UInt8) (hs : a.eval s = v) (hown : Own w B v bs)
    (B' : Nat) (A : Option Addr) (m c : Nat) (news : List UInt8) (hx : a.eval x = .slice A m c) (hr : Reads w B' 1 A m (news.map bv)) (hsmall : bs.length + m ≤ 140737488355328) (hB : B ≤ w.heap.size)
    (h : ∀ v' w', Own w' B v' (bs ++ news) → Below B w w' → wpList Try.prog ops Q rest (a.put o.dst v') w') : wpList Try.prog ops Q (o :: rest) a w := by
  obtain ⟨i0, hi, hz0, hz1, hz2⟩ := info_parts info5
  have hm : news.length = m := by have := hr.1; simpa using this
  refine wpList_append_any w hgd s x 29 ho B 5 i0 (.int .u8 0) 1 1 Try.underlying29 hi hz0 hz1 hz2 rfl (by decide) v bs.length _ hs hown B' A m c _ hx hr (bv_one news) (by unfold maxLen; omega) (by omega) hB ?_
  intro v' w' h1 h2 _
  refine h v' w' ?_ ((Below.refl _ _).grown h2 hB (fun k hk => (hown.lt k hk).1))
  unfold Own
  rw [List.length_append, hm, List.map_append]
  exact h1
theorem reads_new (w : World) (bs : List UInt8) (cs : Array Value) (hcs : cs.toList = bs.map bv) (m : Nat) (hm : bs.length = m) : Reads (w.alloc (.cells cs 5)) (w.heap.size + 1) 1 (some ⟨w.heap.size, 0, none⟩) m (bs.map bv) := by
  refine ⟨by simp [hm], fun _ => ⟨_, rfl, by simp, fun j u hu => ?_⟩⟩
  rw [Addr.add_mid, cell_of_row _ _ _ cs 5 (0, 0) (heap_alloc_new w _), Nat.zero_add, ← hu, ← hcs]
  simp
theorem append_byte {ops : Array Oper} {rest : List Oper} {o : Oper} {a : Act} {Q : Exit → Act → World → Prop} (hgd : o.guard = none) (s x : Operand)
    (ho : o.op = .call { callee := .builtin .append, args := #[s, x], argTypes := #[29, 29] }) (w : World) (B : Nat) (v : Value) (bs : List UInt8) (hs : a.eval s = v) (hown : Own w B v bs)
    (k : Int) (u : UInt8) (hu : bi u = k) (hx : a.eval x = .slice (some ⟨w.heap.size, 0, none⟩) 1 1) (hsmall : bs.length + 1 ≤ 140737488355328) (hB : B ≤ w.heap.size)
    (h : ∀ v' w', Own w' B v' (bs ++ [u]) → Below B w w' → wpList Try.prog ops Q rest (a.put o.dst v') w') : wpList Try.prog ops Q (o :: rest) a (w.alloc (.cells #[.int .u8 k] 5)) := by
  subst hu
  refine append_bytes hgd s x ho _ B v bs hs (hown.alloc _) _ _ 1 1 [u] hx (reads_new _ [u] _ rfl 1 rfl) hsmall (by simp; omega) ?_
  intro v' w' h1 h2
  exact h v' w' h1 (((Below.refl _ _).alloc hB _).trans h2)
theorem Own.length {w : World} {B : Nat} {v : Value} {bs : List UInt8} (h : Own w B v bs) : ∃ A c, v = .slice A bs.length c ∧ bs.length ≤ c ∧ c ≤ maxLen := by
  rcases h.2 with ⟨rfl, h0⟩ | ⟨g, cap, cur, rfl, _, _, hc, hm, _⟩
  · exact ⟨none, 0, by rw [h0], by omega, by unfold maxLen; omega⟩
  · exact ⟨_, _, rfl, hc, hm⟩
theorem bi128 : bi 128 = 128 := by unfold bi; rfl
theorem bi0 : bi 0 = 0 := by unfold bi; rfl
def lenOf : Value → Nat
  | .slice _ n _ => n
  | _ => 0
theorem Own.lenOf {w : World} {B : Nat} {v : Value} {bs : List UInt8} (h : Own w B v bs) : lenOf v = bs.length := by
  obtain ⟨A, c, rfl, _⟩ := h.length
  rfl
theorem zeros_lt (n j : Nat) (h : j < zeros n) : (n % 64 + 1 + j) % 64 ≠ 56 := by unfold zeros at h; omega
theorem zeros_at (n : Nat) : (n % 64 + 1 + zeros n) % 64 = 56 := by unfold zeros; omega
theorem zeros_small (n : Nat) : zeros n < 64 := by unfold zeros; omega

theorem len8_length (n : Nat) : (len8 n).length = 8 := rfl
theorem len8_get (n k : Nat) (hk : k < 8) : (len8 n)[k]? = some (UInt8.ofNat (8 * n / 2 ^ (56 - 8 * k))) := by
  obtain rfl | rfl | rfl | rfl | rfl | rfl | rfl | rfl : k = 0 ∨ k = 1 ∨ k = 2 ∨ k = 3 ∨ k = 4 ∨ k = 5 ∨ k = 6 ∨ k = 7 := by omega
  all_goals first | rfl | (unfold len8; simp)
theorem len8_take (n k : Nat) (hk : k < 8) : (len8 n).take (k + 1) = (len8 n).take k ++ [UInt8.ofNat (8 * n / 2 ^ (56 - 8 * k))] := by
  rw [List.take_add_one, len8_get n k hk]
  rfl
theorem byte_of (x : Nat) : IntKind.u8.wrap (x : Int) = bi (UInt8.ofNat x) := by
  unfold bi
  rw [IntKind.wrap_u8, UInt8.toNat_ofNat']
  omega

end Go.Proofs.Ytcmlofgkcalhnaa.Sh
/- Sum. -/
namespace Go.Proofs.Ytcmlofgkcalhnaa.Sh
open Go.RowKit

theorem lastOf_length (rest : List UInt8) (n : Nat) (h : rest.length = n % 64) : ∃ N, (lastOf rest n).length = 64 * N := by
  refine ⟨(n % 64 + zeros n + 9) / 64, ?_⟩
  unfold lastOf
  rw [List.length_append, List.length_append, List.length_cons, List.length_replicate, len8_length, h]
  unfold zeros
  omega
theorem stc_one (s : St) : (stc s).all (·.oneCell') = true := by simp [stc, wv, Value.oneCell']
theorem sub_cells {w : World} {g o k M : Nat} {L : List UInt8} (h : ∀ j, j < M → w.cell? ⟨g, o + j, none⟩ = some (.int .u8 (bi (L.getD (64 * k + j) 0)))) (hM : 64 ≤ M) :
    ∀ i, i < 64 → w.cell? ((⟨g, o, none⟩ : Addr).add i) = some (.int .u8 (bi (((L.drop (64 * k)).take 64).getD i 0))) := by
  intro i hi
  rw [Addr.add_mid, h i (by omega)]
  simp only [List.getD_eq_getElem?_getD, List.getElem?_take, if_pos hi, List.getElem?_drop]
theorem stc_sets (s t : St) : ((((((((stc s).setIfInBounds 0 (.int .u32 (wi t.a))).setIfInBounds 1 (.int .u32 (wi t.b))).setIfInBounds 2 (.int .u32 (wi t.c))).setIfInBounds 3 (.int .u32 (wi t.d))).setIfInBounds 4 (.int .u32 (wi t.e))).setIfInBounds 5 (.int .u32 (wi t.f))).setIfInBounds 6 (.int .u32 (wi t.g))).setIfInBounds 7 (.int .u32 (wi t.h)) = stc t := by
  simp [stc, wv]
theorem only8 {a w : World} {g : Nat} (h : a.grownBy w (some g)) (u0 u1 u2 u3 u4 u5 u6 u7 : Value) :
    a.grownBy ((((((((w.setCell ⟨g, 0, none⟩ u0).setCell ⟨g, 1, none⟩ u1).setCell ⟨g, 2, none⟩ u2).setCell ⟨g, 3, none⟩ u3).setCell ⟨g, 4, none⟩ u4).setCell ⟨g, 5, none⟩ u5).setCell ⟨g, 6, none⟩ u6).setCell ⟨g, 7, none⟩ u7) (some g) :=
  only_setCell (only_setCell (only_setCell (only_setCell (only_setCell (only_setCell (only_setCell (only_setCell h (.inl rfl) _) (.inl rfl) _) (.inl rfl) _) (.inl rfl) _) (.inl rfl) _) (.inl rfl) _) (.inl rfl) _) (.inl rfl) _
theorem only_then_new {a w w1 : World} {g b : Nat} (h : a.grownBy w (some b)) (h1 : w.grownBy w1 (some g)) (hg : a.heap.size ≤ g) : a.grownBy w1 (some b) :=
  ⟨h1.os.trans h.os, h1.tape.trans h.tape, h1.output.trans h.output, Nat.le_trans h.size h1.size, fun i hi hne => (h1.block i (Nat.lt_of_lt_of_le hi h.size) (by intro e; injection e; omega)).trans (h.block i hi hne)⟩
theorem outB_take (t : St) (k : Nat) (hk : k < 8) : (outB t).take (4 * (k + 1)) = (outB t).take (4 * k) ++ be4 (t.list.getD k 0) := by
  obtain rfl | rfl | rfl | rfl | rfl | rfl | rfl | rfl : k = 0 ∨ k = 1 ∨ k = 2 ∨ k = 3 ∨ k = 4 ∨ k = 5 ∨ k = 6 ∨ k = 7 := by omega
  all_goals rfl
theorem outB_length (t : St) : (outB t).length = 32 := rfl
theorem wcut (u : UInt32) : IntKind.u8.wrap (wi u) = bi u.toUInt8 := by
  unfold wi bi
  rw [IntKind.wrap_u8, UInt32.toNat_toUInt8]
  omega
theorem Own.base {w : World} {B B' : Nat} {v : Value} {bs : List UInt8} (h : Own w B v bs) (hB : B' ≤ B) : Own w B' v bs := by
  unfold Own at h ⊢
  refine ⟨h.1, ?_⟩
  rcases h.2 with h0 | ⟨g, cap, cur, hv, hb, r⟩
  · exact .inl h0
  · exact .inr ⟨g, cap, cur, hv, by omega, r⟩
end Go.Proofs.Ytcmlofgkcalhnaa.Sh
/- New, Len. -/
namespace Go.Proofs.Ytcmlofgkcalhnaa.Sh
open Go.RowKit

end Go.Proofs.Ytcmlofgkcalhnaa.Sh
