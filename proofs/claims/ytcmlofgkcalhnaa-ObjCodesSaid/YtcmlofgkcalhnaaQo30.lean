/- Texts put together: Ob7. -/
import Derived.Test.YtcmlofgkcalhnaaQo29
/- obj: putNumber, putText, putHash. -/
namespace Go.Proofs.Ytcmlofgkcalhnaa.Ob
open Go.RowKit Go.Proofs.Ytcmlofgkcalhnaa.Sh
open Go.Proofs.Ytcmlofgkcalhnaa.Tx (OwnV SlV sv bl nameB reads_at texts_at toList_ne')

/-- What lies below B stays, and what is no row of bytes stays. -/
structure Kp (B : Nat) (w w' : World) : Prop where
  below : Below B w w'
  blk : ∀ k t cs, Blk w k t cs → t ≠ 5 → Blk w' k t cs
theorem Kp.refl (B : Nat) (w : World) : Kp B w w := ⟨Below.refl _ _, fun _ _ _ h _ => h⟩
theorem Kp.trans {B : Nat} {w w1 w2 : World} (h : Kp B w w1) (h2 : Kp B w1 w2) : Kp B w w2 := ⟨h.below.trans h2.below, fun k t cs hb ht => h2.blk k t cs (h.blk k t cs hb ht) ht⟩
theorem Kp.of_below {B : Nat} {w w' : World} (h : Below w.heap.size w w') (hB : B ≤ w.heap.size) : Kp B w w' := ⟨h.mono hB, fun _ _ _ hb _ => hb.below h hb.lt⟩
theorem Kp.alloc {B : Nat} {w w' : World} (h : Kp B w w') (hB : B ≤ w'.heap.size) (o : Obj) : Kp B w (w'.alloc o) := h.trans (Kp.of_below ((Below.refl _ _).alloc (Nat.le_refl _) o) hB)
theorem Kp.size {B : Nat} {w w' : World} (h : Kp B w w') : w.heap.size ≤ w'.heap.size := h.below.size
theorem Kp.grown {B : Nat} {w w' : World} {v : Value} {bs : List UInt8} (hown : Own w B v bs) (h : w.grownBy w' v.ownBlock) (hB : B ≤ w.heap.size) : Kp B w w' := by
  refine ⟨(Below.refl _ _).grown h hB (fun k hk => (World.ownsRow.lt hown k hk).1), fun k t cs hb ht => hb.grown h ?_⟩
  intro e
  rcases hown.2 with ⟨rfl, _⟩ | ⟨g, cap, cur, rfl, _, hg, _⟩
  · cases e
  · have e' : k = g := by simpa [Value.ownBlock] using e
    subst e'
    exact Blk.ne_ hb hg ht rfl
/-- A call that appends to bytes of one's own. -/
def AppPost (w : World) (B : Nat) (bs news : List UInt8) (e : Ending) (w' : World) : Prop := ∃ v, e = .returned v ∧ Own w' B v (bs ++ news) ∧ Kp B w w'
theorem bi_tx (u : UInt8) : Tx.bi u = bi u := by unfold Tx.bi bi; rfl
theorem app_bytes {ops : Array Oper} {rest : List Oper} {o : Oper} {a : Act} {Q : Exit → Act → World → Prop} (hgd : o.guard = none) (s x : Operand)
    (ho : o.op = .call { callee := .builtin .append, args := #[s, x], argTypes := #[29, 29] }) (w : World) (B : Nat) (v : Value) (bs : List UInt8) (hs : a.eval s = v) (hown : Own w B v bs)
    (B' : Nat) (A : Option Addr) (m c : Nat) (news : List UInt8) (hx : a.eval x = .slice A m c) (hr : Reads w B' 1 A m (news.map bv)) (hsmall : bs.length + m ≤ 140737488355328) (hB : B ≤ w.heap.size)
    (h : ∀ v' w', Own w' B v' (bs ++ news) → Kp B w w' → wpList Try.prog ops Q rest (a.put o.dst v') w') : wpList Try.prog ops Q (o :: rest) a w := by
  obtain ⟨i0, hi, hz0, hz1, hz2⟩ := info_parts info5
  have hm : news.length = m := by have := hr.1; simpa using this
  refine wpList_append_any w hgd s x 29 ho B 5 i0 (.int .u8 0) 1 1 Try.underlying29 hi hz0 hz1 hz2 rfl (by decide) v bs.length _ hs hown B' A m c _ hx hr (bv_one news) (by unfold maxLen; omega) (by omega) hB ?_
  intro v' w' h1 h2 _
  refine h v' w' ?_ (Kp.grown hown h2 hB)
  unfold Own
  rw [List.length_append, hm, List.map_append]
  exact h1
theorem app_byte {ops : Array Oper} {rest : List Oper} {o : Oper} {a : Act} {Q : Exit → Act → World → Prop} (hgd : o.guard = none) (s x : Operand)
    (ho : o.op = .call { callee := .builtin .append, args := #[s, x], argTypes := #[29, 29] }) (w : World) (B : Nat) (v : Value) (bs : List UInt8) (hs : a.eval s = v) (hown : Own w B v bs)
    (k : Int) (u : UInt8) (hu : bi u = k) (g : Nat) (hg : w.heap.size = g) (hx : a.eval x = .slice (some ⟨g, 0, none⟩) 1 1) (hsmall : bs.length + 1 ≤ 140737488355328) (hB : B ≤ w.heap.size)
    (h : ∀ v' w', Own w' B v' (bs ++ [u]) → Kp B w w' → wpList Try.prog ops Q rest (a.put o.dst v') w') : wpList Try.prog ops Q (o :: rest) a (w.alloc (.cells #[.int .u8 k] 5)) := by
  subst hu hg
  refine app_bytes hgd s x ho _ B v bs hs (hown.alloc _) _ _ 1 1 [u] hx (reads_new _ [u] _ rfl 1 rfl) hsmall (by simp; omega) ?_
  intro v' w' h1 h2
  exact h v' w' h1 (((Kp.refl _ _).alloc hB _).trans h2)
theorem str_cells (us : List UInt8) : Lib.strCells (str us) = us.map bv := by
  unfold Lib.strCells str
  apply List.map_congr_left
  intro u _
  unfold bv bi
  rfl
theorem app_str {ops : Array Oper} {rest : List Oper} {o : Oper} {a : Act} {Q : Exit → Act → World → Prop} (hgd : o.guard = none) (s x : Operand)
    (ho : o.op = .call { callee := .builtin .append, args := #[s, x], argTypes := #[29, 9] }) (w : World) (B : Nat) (v : Value) (bs : List UInt8) (hs : a.eval s = v) (hown : Own w B v bs)
    (us : List UInt8) (hx : a.eval x = .string (str us)) (hsmall : bs.length + us.length ≤ 140737488355328) (hB : B ≤ w.heap.size)
    (h : ∀ v' w', Own w' B v' (bs ++ us) → Kp B w w' → wpList Try.prog ops Q rest (a.put o.dst v') w') : wpList Try.prog ops Q (o :: rest) a w := by
  obtain ⟨i0, hi, hz0, hz1, hz2⟩ := info_parts info5
  have hsz := str_size us
  refine Lib.wpList_append_own_string w hgd s x 29 9 ho B 5 i0 Try.underlying29 Try.underlying9 hi hz0 hz1 hz2 v bs.length _ hs hown (str us) hx (by unfold maxLen; omega) (by omega) hB ?_
  intro v' w' h1 h2 _
  refine h v' w' ?_ (Kp.grown hown h2 hB)
  unfold Own
  rw [List.length_append, List.map_append, ← str_cells us, ← hsz]
  exact h1
theorem Own.based {w : World} {B B' : Nat} {v : Value} {bs : List UInt8} (h : Own w B v bs) (hB : B' ≤ B) : Own w B' v bs := by
  refine ⟨h.1, ?_⟩
  rcases h.2 with h0 | ⟨g, cap, cur, hv, hb, rest⟩
  · exact .inl h0
  · exact .inr ⟨g, cap, cur, hv, by omega, rest⟩
set_option maxRecDepth 100000 in
set_option maxHeartbeats 800000 in
theorem putNumber_any (v : Value) (bs : List UInt8) (n B : Nat) (w : World) (h : Own w B v bs) (hn : n ≤ 72057594037927936) (hl : bs.length ≤ 100000000) (hB : B ≤ w.heap.size) :
    Calls Try.prog 55 #[v, .int .i64 (n : Int)] w (AppPost w B bs (putL n)) := by
  have HO := Lib.hid h
  clear h
  go_enter Try.func55, Try.ntmps55
  go_wp2_with fail
  refine (put_any n w hn).mono ?_
  rintro e w1 ⟨u, rfl, hu, hb⟩
  obtain ⟨A, c, rfl, h1, h2, h3, h4⟩ := hu.sl
  have HI := Lib.hid h3.reads
  have HO1 := Lib.hid (HO.out.below hb)
  have HB1 := Lib.hid (Kp.of_below hb hB)
  have hz : B ≤ w1.heap.size := Nat.le_trans hB hb.size
  have hs := putL_len9 hn
  have hsm : bs.length + (putL n).length ≤ 140737488355328 := by omega
  obtain ⟨l, hl'⟩ : ∃ l, (putL n).length = l := ⟨_, rfl⟩
  have HLL := Lib.hid hl'
  rw [hl'] at HI hsm ⊢
  clear hu hb h1 h2 h3 h4 hs hl'
  go_wp2_with (at_builtin; refine app_bytes rfl (.tmp 12) (.tmp 13) rfl w1 B v bs rfl HO1.out _ A l c (putL n) rfl HI.out hsm hz ?_; intro v3 w3 ho3 hb3; have HO3 := Lib.hid ho3; have HB3 := Lib.hid hb3; clear ho3 hb3)
  go_ret
  exact ⟨v3, rfl, HO3.out, HB1.out.trans HB3.out⟩
set_option maxRecDepth 100000 in
set_option maxHeartbeats 800000 in
theorem putText_any (v : Value) (bs us : List UInt8) (B : Nat) (w : World) (h : Own w B v bs) (hn : us.length ≤ 1000000) (hl : bs.length ≤ 90000000) (hB : B ≤ w.heap.size) :
    Calls Try.prog 56 #[v, .string (str us)] w (AppPost w B bs (putL us.length ++ us)) := by
  have HO := Lib.hid h
  clear h
  have hsz := str_size us
  go_enter Try.func56, Try.ntmps56
  go_wp2_with fail
  refine (putNumber_any v bs us.length B w HO.out (by omega) (by omega) hB).mono ?_
  rintro e w1 ⟨u, rfl, hu, hb⟩
  have hs := putL_len9 (show us.length ≤ 72057594037927936 from by omega)
  have HO1 := Lib.hid hu
  have HB1 := Lib.hid hb
  have hz : B ≤ w1.heap.size := Nat.le_trans hB hb.size
  have hsm : (bs ++ putL us.length).length + us.length ≤ 140737488355328 := by rw [List.length_append]; omega
  clear hu hb hs
  go_wp2_with (at_builtin; refine app_str rfl (.tmp 8) (.tmp 9) rfl w1 B u _ rfl HO1.out us rfl hsm hz ?_; intro v3 w3 ho3 hb3; have HO3 := Lib.hid ho3; have HB3 := Lib.hid hb3; clear ho3 hb3)
  go_ret
  exact ⟨v3, rfl, by rw [← List.append_assoc]; exact HO3.out, HB1.out.trans HB3.out⟩
set_option maxRecDepth 100000 in
set_option maxHeartbeats 800000 in
theorem putHash_any (v : Value) (bs id : List UInt8) (B : Nat) (w : World) (h : Own w B v bs) (hn : validB id = true) (hl : bs.length ≤ 90000000) (hB : B ≤ w.heap.size) :
    Calls Try.prog 57 #[v, .string (str id)] w (AppPost w B bs (unhexL id)) := by
  have HO := Lib.hid h
  clear h
  unfold validB at hn
  rw [Bool.and_eq_true, beq_iff_eq] at hn
  have hlen := unhexL_length id
  have hsm : bs.length + (unhexL id).length ≤ 140737488355328 := by omega
  go_enter Try.func57, Try.ntmps57
  go_wp2_with fail
  refine (unhex_yes id w hn.2 (by omega)).mono ?_
  rintro e w1 ⟨u, rfl, hu, hb⟩
  obtain ⟨A, c, rfl, h1, h2, h3, h4⟩ := hu.sl
  have HI := Lib.hid h3.reads
  have HO1 := Lib.hid (HO.out.below hb)
  have HB1 := Lib.hid (Kp.of_below hb hB)
  have hz : B ≤ w1.heap.size := Nat.le_trans hB hb.size
  obtain ⟨l, hl'⟩ : ∃ l, (unhexL id).length = l := ⟨_, rfl⟩
  rw [hl'] at HI hsm ⊢
  clear hu hb h1 h2 h3 h4 hl' hlen hn
  go_wp2_with (at_builtin; refine app_bytes rfl (.tmp 12) (.tmp 13) rfl w1 B v bs rfl HO1.out _ A l c (unhexL id) rfl HI.out hsm hz ?_; intro v3 w3 ho3 hb3; have HO3 := Lib.hid ho3; have HB3 := Lib.hid hb3; clear ho3 hb3)
  go_ret
  exact ⟨v3, rfl, HO3.out, HB1.out.trans HB3.out⟩
end Go.Proofs.Ytcmlofgkcalhnaa.Ob
