/- Steps of regions that draw their order: appends. (No package's code in it.) -/
import Derived.Test.YtbejgljljjjjcaaLn5
set_option linter.unusedVariables false
set_option linter.unusedSimpArgs false
namespace Go.Proofs.Ytbejgljljjjjcaa.Ln
open Go.RowKit Go.Proofs.Ytbejgljljjjjcaa.Sh Go.Proofs.Ytbejgljljjjjcaa.Tx

/-- 'wpAnyH_take' with the op's target told as a number, so that the frame behind it is a plain one. -/
theorem take_at {P : Program} {md : Region.Mode} {ops : Array Oper} {Q : Exit → Act → World → Prop} {S : World → Prop} {i d : Nat} {oi : Oper} {v : Value} {fuel : Nat} {listed : Array Bool} {a : Act} {w : World} (hi : ops[i]? = some oi) (hd : oi.dst = some d)
    (hs : Region.noSelect ops = true) (hf : Region.free md ops listed i = true) (hr : (Region.ready md ops listed).contains i = true)
    (hQ : ∀ c a w, Q (.panic c) (a.put (some d) v) w → Q (.panic c) a w) (hy : YieldsIf P ops S oi v a) (hS : S w)
    (h : wpAnyH P md ops Q S fuel (listed.setIfInBounds i true) (a.put (some d) v) w) : wpAnyH P md ops Q S (fuel + 1) listed a w :=
  wpAnyH_take hi hs hf hr (by rw [hd]; exact hQ) hy hS (by rw [hd]; exact h)
/-- append of one row, as a step. -/
theorem sapp_row {k : Nat} {T TS : TypeId} {z : Value} {bt : Nat} (hT : Try.prog.underlying TS = some (.slice T)) (hin : (Try.prog.info? T).map (fun i => (i.zero, i.size, i.bytes)) = some (some z, k, bt)) (hz : z.cells.size = k) (hk : 0 < k) (hbt : bt ≤ 64)
    {ops : Array Oper} {o : Oper} {a : Act} {K : Act → World → Prop} {Q : Exit → Act → World → Prop} {E : Prop} (d : Nat) (hd : o.dst = some d) (hgd : o.guard = none) (s x : Operand)
    (ho : o.op = .call { callee := .builtin .append, args := #[s, x], argTypes := #[TS, TS] }) (w : World) (B : Nat) (v : Value) (rs : List (List Value)) (hs : a.eval s = v) (hown : OwnK k T w B v rs)
    (u : List Value) (hul : u.length = k) (hone : ∀ y ∈ u, y.oneCell' = true) (hx : a.eval x = .slice (some ⟨w.heap.size, 0, none⟩) 1 1) (hsmall : rs.length + 1 ≤ 2000000) (hB : B ≤ w.heap.size)
    (h : ∀ v' w', OwnK k T w' B v' (rs ++ [u]) → (w.alloc (.cells u.toArray T)).grownBy w' v.ownBlock → Below B w w' → K (a.put (some d) v') w') : if Region.wanted o (yielded ops a.tmps) = true then Oper.wp Try.prog o a (w.alloc (.cells u.toArray T)) K Q else E := by
  obtain ⟨i0, hi, hz0, hz1, hz2⟩ := info_parts hin
  obtain ⟨w2, hw2⟩ : ∃ W, W = w.alloc (.cells u.toArray T) := ⟨_, rfl⟩
  have hg : Blk w2 w.heap.size T u.toArray := by rw [hw2]; exact heap_alloc_new w _
  have hsz : w2.heap.size = w.heap.size + 1 := by rw [hw2]; simp
  have hown2 : OwnK k T w2 B v rs := by rw [hw2]; exact hown.alloc _
  have hb2 : Below B w w2 := by rw [hw2]; exact (Below.refl _ _).alloc hB _
  rw [← hw2] at h ⊢
  clear hw2
  have hr : Reads w2 w2.heap.size k (some ⟨w.heap.size, 0, none⟩) 1 u := by
    refine ⟨by omega, fun _ => ⟨_, rfl, hg.lt, fun j v hv => ?_⟩⟩
    rw [Addr.add_mid, Nat.zero_add, hg.cell j, ← hv]
    simp
  have hbb : (rs.length + 1) * bt ≤ 140737488355328 := by
    have := Nat.mul_le_mul hsmall hbt
    omega
  refine step_append_any w2 hgd s x TS ho B T i0 z k bt hT hi hz0 hz1 hz2 hz hk v rs.length _ hs hown2 w2.heap.size (some ⟨w.heap.size, 0, none⟩) 1 1 _ hx hr hone (by unfold maxLen; omega) hbb (by omega) ?_
  intro v' w' h1 h2 h3
  rw [hd]
  refine h v' w' ?_ h2 (hb2.trans ((Below.refl _ _).grown h2 (by omega) (fun k hk => (hown2.lt k hk).1)))
  unfold OwnK
  rw [List.length_append, List.flatten_append, List.flatten_singleton]
  exact h1
theorem sapp_ed {T TS : TypeId} (hT : Try.prog.underlying TS = some (.slice T)) (hin : (Try.prog.info? T).map (fun i => (i.zero, i.size, i.bytes)) = some (some (.agg #[.int .i64 0, .int .i64 0, .slice none 0 0]), 3, 40)) (hne : 9 ≠ T)
    {ops : Array Oper} {o : Oper} {a : Act} {K : Act → World → Prop} {Q : Exit → Act → World → Prop} {E : Prop} (dd : Nat) (hdd : o.dst = some dd) (hgd : o.guard = none) (s x : Operand)
    (ho : o.op = .call { callee := .builtin .append, args := #[s, x], argTypes := #[TS, TS] }) (w : World) (B : Nat) (v : Value) (l : List EdI) (hs : a.eval s = v) (hown : OwnEd T w B v l)
    (i n : Int) (d : Value) (ins : List ByteArray) (hd : OwnV 9 w B d (ins.map sv)) (hx : a.eval x = .slice (some ⟨w.heap.size, 0, none⟩) 1 1) (hsmall : l.length + 1 ≤ 2000000) (hB : B ≤ w.heap.size)
    (h : ∀ v' w', OwnEd T w' B v' (l ++ [⟨i, n, ins⟩]) → Below B w w' → K (a.put (some dd) v') w') : if Region.wanted o (yielded ops a.tmps) = true then Oper.wp Try.prog o a (w.alloc (.cells #[.int .i64 i, .int .i64 n, d] T)) K Q else E := by
  obtain ⟨L, rfl, h2, h3⟩ := hown
  rw [List.length_map] at hsmall
  refine sapp_row (k := 3) hT hin rfl (by decide) (by decide) dd hdd hgd s x ho w B v (L.map edC) hs h2 [.int .i64 i, .int .i64 n, d] rfl ?_ hx (by rw [List.length_map]; exact hsmall) hB ?_
  · intro y hy
    simp at hy
    rcases hy with rfl | rfl | rfl
    · rfl
    · rfl
    · exact slv_one hd.slv
  · intro v' w' h4 h5 h6
    refine h v' w' ⟨L ++ [(⟨i, n, ins⟩, d)], by rw [List.map_append]; rfl, by rw [List.map_append]; exact h4, fun y hy => ?_⟩ h6
    have key : ∀ (y : EdI × Value), OwnV 9 w B y.2 (y.1.ins.map sv) → OwnV 9 w' B y.2 (y.1.ins.map sv) := fun y hy => (hy.alloc _).kept h5 (OwnK.unlike hy h2 hne)
    rcases List.mem_append.1 hy with hy | hy
    · exact key y (h3 y hy)
    · rw [List.mem_singleton] at hy
      subst hy
      exact key _ hd
/-- append of texts, as a step. -/
theorem sapp_txt {ops : Array Oper} {o : Oper} {a : Act} {K : Act → World → Prop} {Q : Exit → Act → World → Prop} {E : Prop} (d : Nat) (hd : o.dst = some d) (hgd : o.guard = none) (s x : Operand)
    (ho : o.op = .call { callee := .builtin .append, args := #[s, x], argTypes := #[22, 22] }) (w : World) (B : Nat) (v : Value) (ts : List ByteArray) (hs : a.eval s = v) (hown : OwnV 9 w B v (ts.map sv))
    (B' : Nat) (A : Option Addr) (m c : Nat) (us : List ByteArray) (hx : a.eval x = .slice A m c) (hr : Reads w B' 1 A m (us.map sv)) (hsmall : ts.length + m ≤ 2000000) (hB : B ≤ w.heap.size)
    (h : ∀ v' w', OwnV 9 w' B v' ((ts ++ us).map sv) → Below B w w' → (∀ (g : Nat) (cs : Array Value) (E : TypeId), E ≠ 9 → Blk w g E cs → Blk w' g E cs) → K (a.put (some d) v') w') : if Region.wanted o (yielded ops a.tmps) = true then Oper.wp Try.prog o a w K Q else E := by
  obtain ⟨i0, hi, hz0, hz1, hz2⟩ := info_parts info_str
  have hm : us.length = m := by have := hr.1; simpa using this
  have hown' : w.ownsRow B 9 1 v ts.length (ts.map sv) := by have := hown; unfold OwnV at this; rwa [List.length_map] at this
  refine step_append_any w hgd s x 22 ho B 9 i0 (.string ⟨#[]⟩) 1 16 Try.underlying22 hi hz0 hz1 hz2 rfl (by decide) v ts.length _ hs hown' B' A m c _ hx hr (sv_one us) (by unfold maxLen; omega) (by omega) hB ?_
  intro v' w' h1 h2 h3
  rw [hd]
  refine h v' w' ?_ ((Below.refl _ _).grown h2 hB (fun k hk => (hown'.lt k hk).1)) (fun g cs E hE hg => hg.grown h2 (fun e => ?_))
  · unfold OwnV
    rw [List.length_map, List.length_append, hm, List.map_append]
    exact h1
  · rcases hown.blk with ⟨rfl, _⟩ | ⟨g', c', cur', rfl, _, _, hg', _⟩
    · simp [Value.ownBlock] at e
    · have e' : g = g' := by simpa [Value.ownBlock] using e
      subst e'
      exact Blk.ne_ hg hg' hE rfl
end Go.Proofs.Ytbejgljljjjjcaa.Ln
