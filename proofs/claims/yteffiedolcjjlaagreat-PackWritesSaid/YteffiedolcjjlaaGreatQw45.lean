/- Texts put together: YPkR, YPkW, YPkV. -/
import Derived.Test.YteffiedolcjjlaaGreatQw35
import Derived.Test.YteffiedolcjjlaaGreatQw41
import Derived.Test.YteffiedolcjjlaaGreatQw43
import Derived.Test.YteffiedolcjjlaaGreatQw44
import Derived.Deep.RegionLaw
/- The document's own Write: what may be packed. -/
set_option linter.unusedVariables false
set_option linter.unusedSimpArgs false
namespace Go.Proofs.YteffiedolcjjlaaGreat.Ob
open Go.RowKit Go.Proofs.YteffiedolcjjlaaGreat.Sh
open Go.Proofs.YteffiedolcjjlaaGreat.Tx (Shape InL TmpL OwnL Typed Only By Rd Datas list_appendL step_appendL)

/-- The document's Decode, as the laws of packs need it: is it one? -/
theorem rdec_is (v : Value) (bs : List UInt8) (w : World) (h : Sl w v bs) (hlen : bs.length ≤ 1000000) : Calls Tryz.prog 41 #[v] w fun e w' => ∃ (k : Int) (A A2 A3 : Option Addr) (n c n2 c2 n3 c3 : Nat) (s1 s2 s3 : Int) (t1 t2 : ByteArray), e = .returned (.tuple #[.agg #[.int .i64 s1, .slice A n c, .slice A2 n2 c2, .string t1, .slice A3 n3 c3, .int .i64 s2, .int .i64 s3, .string t2], .int .i64 k]) ∧ (k == 0) = decB bs ∧ Below w.heap.size w w' := by
  refine (rdecode_any v bs w h hlen).mono ?_
  rintro e w' ⟨u, k, rfl, hd, hb⟩
  have hk : (k == 0) = decB bs ∧ ∃ o, ObV w' u o := by
    cases hB : decB bs with
    | true =>
      obtain ⟨h1, h2⟩ := hd.yes hB
      exact ⟨by rw [h1]; rfl, _, h2⟩
    | false =>
      refine ⟨?_, _, hd.no hB⟩
      by_cases h0 : bs = []
      · rw [hd.short h0]; rfl
      · rw [hd.form h0 hB]; rfl
  obtain ⟨hk, o, d, it, ps, rfl, ⟨A, c, rfl, _⟩, ⟨A2, c2, rfl, _⟩, ⟨A3, c3, rfl, _⟩⟩ := hk
  exact ⟨k, A, A2, A3, _, c, _, c2, _, c3, _, _, _, _, _, rfl, hk, hb⟩
end Go.Proofs.YteffiedolcjjlaaGreat.Ob
/- The document's own Write. -/
set_option linter.unusedVariables false
set_option linter.unusedSimpArgs false
namespace Go.Proofs.YteffiedolcjjlaaGreat.Ob
open Go.RowKit Go.Proofs.YteffiedolcjjlaaGreat.Sh
open Go.Proofs.YteffiedolcjjlaaGreat.Tx (Shape InL TmpL OwnL Typed Only By Rd Datas list_appendL step_appendL step_enter)

theorem grown_of_only {w w' : World} {r : Option Nat} (h : Only (fun k => r = some k) w w') : w.grownBy w' r := ⟨h.os, h.tape, h.output, h.size, fun k hk hne => h.block k hk (fun e => hne e.symm)⟩
/-- What is written, and the depths, apart. -/
structure RW (w wr : World) (vo : Value) (out : List UInt8) (vd : Value) (ds : List Nat) : Prop where
  out_ : Own wr w.heap.size vo out
  dep : Sh.OwnV 3 wr w.heap.size vd (dsV ds)
  below : Below w.heap.size w wr
section
variable {w wr w' : World} {vo vd : Value} {out : List UInt8} {ds : List Nat}
theorem RW.then_ (h : RW w wr vo out vd ds) (hb : Below wr.heap.size wr w') : RW w w' vo out vd ds := ⟨h.out_.below hb, h.dep.below hb, h.below.trans (hb.mono h.below.size)⟩
theorem RW.grow {v' : Value} {out' : List UInt8} (h : RW w wr vo out vd ds) (ho : Own w' w.heap.size v' out') (hon : Only (fun k => vo.ownBlock = some k) wr w') : RW w w' v' out' vd ds :=
  ⟨ho, h.dep.kept (grown_of_only hon) (Sh.OwnV.unlike h.dep h.out_.ownV (by decide)), h.below.trans (grw_below h.out_ hon h.below.size)⟩
theorem RW.deep {v' : Value} {ds' : List Nat} (h : RW w wr vo out vd ds) (ho : Sh.OwnV 3 w' w.heap.size v' (dsV ds')) (hg : wr.grownBy w' vd.ownBlock) : RW w w' vo out v' ds' :=
  ⟨(Sh.OwnV.kept h.out_.ownV hg (Sh.OwnV.unlike h.out_.ownV h.dep (by decide))).own, ho, h.below.trans ((Below.refl _ _).grown hg h.below.size (fun k hk => (h.dep.lt k hk).1))⟩
theorem RW.sl {v : Value} {bs : List UInt8} (h : RW w wr vo out vd ds) (hs : Sl w v bs) : Sl wr v bs := hs.below h.below
end
theorem app_int {ops : Array Oper} {rest : List Oper} {o : Oper} {a : Act} {Q : Exit → Act → World → Prop} (hgd : o.guard = none) (s x : Operand)
    (ho : o.op = .call { callee := .builtin .append, args := #[s, x], argTypes := #[43, 43] }) (w : World) (B : Nat) (v : Value) (ds : List Nat) (hs : a.eval s = v) (hown : Sh.OwnV 3 w B v (dsV ds))
    (d : Nat) (k : Int) (hk : (d : Int) = k) (hx : a.eval x = .slice (some ⟨w.heap.size, 0, none⟩) 1 1) (hsmall : ds.length ≤ 1000000) (hB : B ≤ w.heap.size)
    (h : ∀ v' w', Sh.OwnV 3 w' B v' (dsV (ds ++ [d])) → (w.alloc (.cells #[.int .i64 k] 3)).grownBy w' v.ownBlock → wpList Tryz.prog ops Q rest (a.put o.dst v') w') : wpList Tryz.prog ops Q (o :: rest) a (w.alloc (.cells #[.int .i64 k] 3)) := by
  subst hk
  obtain ⟨i0, hi, hz0, hz1, hz2⟩ := info_parts info_int
  have hr : Reads (w.alloc (.cells #[.int .i64 (d : Int)] 3)) (w.heap.size + 1) 1 (some ⟨w.heap.size, 0, none⟩) 1 [Value.int .i64 (d : Int)] := by
    refine ⟨rfl, fun _ => ⟨_, rfl, by simp, fun j u hu => ?_⟩⟩
    rw [Addr.add_mid, cell_of_row _ _ _ _ 3 (0, 0) (heap_alloc_new w _), Nat.zero_add, ← hu]
    simp
  have hl : (dsV ds).length = ds.length := by unfold dsV; rw [List.length_map]
  refine wpList_append_any _ hgd s x 43 ho B 3 i0 (.int .i64 0) 1 8 Tryz.underlying43 hi hz0 hz1 hz2 rfl (by decide) v (dsV ds).length _ hs (hown.alloc _) _ _ 1 1 _ hx hr (fun u hu => by rw [List.mem_singleton] at hu; rw [hu]; rfl) (by unfold maxLen; omega) (by rw [hl]; omega) (by simp; omega) ?_
  intro v' w' h1 h2 _
  refine h v' w' ?_ h2
  unfold Sh.OwnV
  have e : dsV (ds ++ [d]) = dsV ds ++ [Value.int .i64 (d : Int)] := by unfold dsV; rw [List.map_append]; rfl
  rw [e, List.length_append]
  exact h1
section
variable {ops : Array Oper} {o : Oper} {a : Act} {Kk : Act → World → Prop} {Q : Exit → Act → World → Prop} {E : Prop}
theorem step_grw (hgd : o.guard = none) (s x : Operand)
    (ho : o.op = .call { callee := .builtin .append, args := #[s, x], argTypes := #[51, 51] }) (w : World) (B : Nat) (v : Value) (bs : List UInt8) (hs : a.eval s = v) (hown : Own w B v bs)
    (B' : Nat) (A : Option Addr) (m c : Nat) (news : List UInt8) (hx : a.eval x = .slice A m c) (hr : Reads w B' 1 A m (news.map bv)) (hsmall : bs.length + m ≤ 140737488355328) (hB : B ≤ w.heap.size)
    (h : ∀ v' w', Own w' B v' (bs ++ news) → Only (fun k => v.ownBlock = some k) w w' → (v'.ownBlock = v.ownBlock ∨ ∃ k, v'.ownBlock = some k ∧ w.heap.size ≤ k) → Kk (a.put o.dst v') w') : if Region.wanted o (yielded ops a.tmps) = true then Oper.wp Tryz.prog o a w Kk Q else E := by
  obtain ⟨i0, hi, hz0, hz1, hz2⟩ := info_parts info5
  have hm : news.length = m := by have := hr.1; simpa using this
  refine step_append_any w hgd s x 51 ho B 5 i0 (.int .u8 0) 1 1 Tryz.underlying51 hi hz0 hz1 hz2 rfl (by decide) v bs.length _ hs hown B' A m c _ hx hr (bv_one news) (by unfold maxLen; omega) (by omega) hB ?_
  intro v' w' h1 h2 h3
  refine h v' w' ?_ (only_grown h2) ?_
  · unfold Own
    rw [List.length_append, hm, List.map_append]
    exact h1
  · rcases h3 with h3 | h3
    · exact .inl h3
    · exact .inr ⟨_, h3, Nat.le_refl _⟩
end
end Go.Proofs.YteffiedolcjjlaaGreat.Ob
/- Bytes that lie apart from what is being written. -/
set_option linter.unusedVariables false
set_option linter.unusedSimpArgs false
namespace Go.Proofs.YteffiedolcjjlaaGreat.Ob
open Go.RowKit Go.Proofs.YteffiedolcjjlaaGreat.Sh
open Go.Proofs.YteffiedolcjjlaaGreat.Tx (Shape InL TmpL OwnL Typed Only By Rd Datas list_appendL step_appendL step_enter)

def Sep (vo : Value) (w : World) (vn : Value) (bs : List UInt8) : Prop := By (fun k => k < w.heap.size ∧ vo.ownBlock ≠ some k) w vn bs
section
variable {w wr w' : World} {vo vd vn : Value} {out bs : List UInt8} {ds : List Nat}
theorem Sep.below (h : Sep vo wr vn bs) (hb : Below wr.heap.size wr w') : Sep vo w' vn bs :=
  Tx.By.mono (Tx.By.only h (Only.of_below (M := fun _ => False) hb) (fun _ _ => id)) (fun k hk hf => ⟨hk, hf.2⟩)
theorem Sep.grow {v' : Value} (h : Sep vo wr vn bs) (ho : Only (fun k => vo.ownBlock = some k) wr w') (hk : v'.ownBlock = vo.ownBlock ∨ ∃ k, v'.ownBlock = some k ∧ wr.heap.size ≤ k) : Sep v' w' vn bs :=
  Tx.By.mono (Tx.By.only h ho (fun k hf hm => hf.2 hm)) (fun k hk' hf => ⟨hk', fun e => by
    rcases hk with hk | ⟨j, hk, hj⟩
    · exact hf.2 (hk ▸ e)
    · rw [hk] at e
      injection e with e
      have := hf.1
      omega⟩)
theorem Sep.sl (h : Sep vo wr vn bs) : Sl wr vn bs := by_sl h
theorem Sep.reads {A : Option Addr} {m c : Nat} (h : Sep vo wr (.slice A m c) bs) : Reads wr wr.heap.size 1 A m (bs.map bv) := by
  obtain ⟨A', c', e, _, _, hI, _⟩ := by_sl h
  injection e with e1 e2 _
  subst e1 e2
  exact hI.reads
/-- What lay there when the writing began. -/
theorem RW.sep {v : Value} (h : RW w wr vo out vd ds) (hs : Sl w v bs) : Sep vo wr v bs :=
  Tx.By.mono (Tx.By.only (sl_by hs) (Only.of_below (M := fun _ => False) h.below) (fun _ _ => id)) (fun k hk hf => ⟨hk, fun e => by have := (World.ownsRow.lt h.out_ k e).1; omega⟩)
/-- What is new since. -/
theorem RW.sep_new {B : Nat} (h : RW w wr vo out vd ds) (hb : Below wr.heap.size wr w') (ho : Own w' wr.heap.size vn bs) : Sep vo w' vn bs :=
  own_by ho (fun k hk => ⟨(World.ownsRow.lt ho k hk).2, fun e => by have := (World.ownsRow.lt h.out_ k e).2; have := (World.ownsRow.lt ho k hk).1; omega⟩)
theorem RW.sep_one (h : RW w wr vo out vd ds) (u : UInt8) : Sep vo (wr.alloc (.cells #[.int .u8 (bi u)] 5)) (.slice (some ⟨wr.heap.size, 0, none⟩) 1 1) [u] := by
  refine ⟨_, _, rfl, Nat.le_refl _, by unfold maxLen; omega, rfl, (fun e => by cases e), fun _ => ⟨_, rfl, ⟨by simp, fun e => by have := (World.ownsRow.lt h.out_ _ e).2; exact absurd this (Nat.lt_irrefl _)⟩, by simp, fun j x hx => ?_⟩⟩
  rw [Addr.add_mid, cell_of_row _ _ _ #[.int .u8 (bi u)] 5 (0, 0) (heap_alloc_new wr _), Nat.zero_add, ← hx, bv_tx]
  simp [bv]
theorem RW.alloc (h : RW w wr vo out vd ds) (o : Obj) : RW w (wr.alloc o) vo out vd ds := h.then_ ((Below.refl _ _).alloc (Nat.le_refl _) o)
theorem Sep.alloc (h : Sep vo wr vn bs) (o : Obj) : Sep vo (wr.alloc o) vn bs := h.below ((Below.refl _ _).alloc (Nat.le_refl _) o)
end
section
variable {ops : Array Oper} {o : Oper} {rest : List Oper} {a : Act} {Kk : Act → World → Prop} {Q : Exit → Act → World → Prop} {E : Prop}
theorem step_sep (hgd : o.guard = none) (s x : Operand)
    (ho : o.op = .call { callee := .builtin .append, args := #[s, x], argTypes := #[51, 51] }) {w0 w : World} {v : Value} {out : List UInt8} {vd : Value} {ds : List Nat} (h : RW w0 w v out vd ds) (hs : a.eval s = v)
    {A : Option Addr} {m c : Nat} {news : List UInt8} (hr : Sep v w (.slice A m c) news) (hx : a.eval x = .slice A m c) (hsmall : out.length + m ≤ 140737488355328)
    (hK : ∀ v' w', RW w0 w' v' (out ++ news) vd ds → (∀ vn bs, Sep v w vn bs → Sep v' w' vn bs) → Kk (a.put o.dst v') w') : if Region.wanted o (yielded ops a.tmps) = true then Oper.wp Tryz.prog o a w Kk Q else E :=
  step_grw hgd s x ho w _ v out hs h.out_ _ A m c news hx hr.reads hsmall h.below.size (fun v' w' h1 h2 h3 => hK v' w' (h.grow h1 h2) (fun vn bs hh => hh.grow h2 h3))
theorem app_sep (hgd : o.guard = none) (s x : Operand)
    (ho : o.op = .call { callee := .builtin .append, args := #[s, x], argTypes := #[51, 51] }) {w0 w : World} {v : Value} {out : List UInt8} {vd : Value} {ds : List Nat} (h : RW w0 w v out vd ds) (hs : a.eval s = v)
    {A : Option Addr} {m c : Nat} {news : List UInt8} (hr : Sep v w (.slice A m c) news) (hx : a.eval x = .slice A m c) (hsmall : out.length + m ≤ 140737488355328)
    (hK : ∀ v' w', RW w0 w' v' (out ++ news) vd ds → (∀ vn bs, Sep v w vn bs → Sep v' w' vn bs) → wpList Tryz.prog ops Q rest (a.put o.dst v') w') : wpList Tryz.prog ops Q (o :: rest) a w :=
  app_grw hgd s x ho w _ v out hs h.out_ _ A m c news hx hr.reads hsmall h.below.size (fun v' w' h1 h2 h3 => hK v' w' (h.grow h1 h2) (fun vn bs hh => hh.grow h2 h3))
end
end Go.Proofs.YteffiedolcjjlaaGreat.Ob
