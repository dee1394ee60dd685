/- Cuts of slices; rows of several cells: pairs, edits, in memory. (No package's code in it.) -/
import Derived.Test.YtbejgljljjjjcaaLn3
import Derived.Test.YtbejgljljjjjcaaTb0
import Derived.Test.YtbejgljljjjjcaaTn3
set_option linter.unusedVariables false
set_option linter.unusedSimpArgs false
namespace Go.Proofs.Ytbejgljljjjjcaa.Ln
open Go.RowKit Go.Proofs.Ytbejgljljjjjcaa.Sh Go.Proofs.Ytbejgljljjjjcaa.Tx

theorem size_txt (w : World) : (sizeOf (Try.prog.elem 22)).run Try.prog w = .ok 1 w := by kernel_rfl
theorem size_byt (w : World) : (sizeOf (Try.prog.elem 36)).run Try.prog w = .ok 1 w := by kernel_rfl
theorem t_mid (A : Option Addr) (l c lo hi : Nat) (n m : Int) (hn : n = (lo : Int)) (hm : m = (hi : Int)) (h1 : lo ≤ hi) (h2 : hi ≤ c) (w : World) :
    (Instr.slice 22 (.slice A l c) (some (.int .i64 n)) (some (.int .i64 m)) none).run Try.prog w = .ok (.slice (if c = lo then A else A.map (·.add lo)) (hi - lo) (c - lo)) w := by
  subst hn hm
  rw [run_slice_lh w 22 A l c Try.underlying22 .i64 .i64 lo hi (by omega) (by omega) (by omega), size_txt]
  show Result.ok (Value.slice (if c = lo then A else A.map (·.add (lo * 1))) _ _) _ = _
  rw [Nat.mul_one]
  rfl
theorem t_back (A : Option Addr) (l c k : Nat) (n : Int) (hn : n = (k : Int)) (hkl : k ≤ l) (w : World) :
    (Instr.slice 22 (.slice A l c) (some (.int .i64 n)) none none).run Try.prog w = .ok (.slice (if c = k then A else A.map (·.add k)) (l - k) (c - k)) w := by
  subst hn
  rw [run_slice_l w 22 A l c Try.underlying22 .i64 k (by omega) (by omega), size_txt]
  show Result.ok (Value.slice (if c = k then A else A.map (·.add (k * 1))) _ _) _ = _
  rw [Nat.mul_one]
  rfl
theorem t_front (A : Option Addr) (l c k : Nat) (n : Int) (hn : n = (k : Int)) (hkc : k ≤ c) (w : World) : (Instr.slice 22 (.slice A l c) none (some (.int .i64 n)) none).run Try.prog w = .ok (.slice A k c) w := by
  subst hn
  rw [run_slice_h w 22 A l c Try.underlying22 .i64 k (by omega) (by omega), size_txt]
  simp only [Result.andThen_ok, sliced, Int.toNat_natCast]
  by_cases h : c = 0
  · subst h; simp
  · have e : A.map (fun a => a.add 0) = A := by cases A <;> simp [Addr.add]
    simp [h, e]
theorem b_mid (A : Option Addr) (l c lo hi : Nat) (n m : Int) (hn : n = (lo : Int)) (hm : m = (hi : Int)) (h1 : lo ≤ hi) (h2 : hi ≤ c) (w : World) :
    (Instr.slice 36 (.slice A l c) (some (.int .i64 n)) (some (.int .i64 m)) none).run Try.prog w = .ok (.slice (if c = lo then A else A.map (·.add lo)) (hi - lo) (c - lo)) w := by
  subst hn hm
  rw [run_slice_lh w 36 A l c Try.underlying36 .i64 .i64 lo hi (by omega) (by omega) (by omega), size_byt]
  show Result.ok (Value.slice (if c = lo then A else A.map (·.add (lo * 1))) _ _) _ = _
  rw [Nat.mul_one]
  rfl
theorem b_back (A : Option Addr) (l c k : Nat) (n : Int) (hn : n = (k : Int)) (hkl : k ≤ l) (w : World) :
    (Instr.slice 36 (.slice A l c) (some (.int .i64 n)) none none).run Try.prog w = .ok (.slice (if c = k then A else A.map (·.add k)) (l - k) (c - k)) w := by
  subst hn
  rw [run_slice_l w 36 A l c Try.underlying36 .i64 k (by omega) (by omega), size_byt]
  show Result.ok (Value.slice (if c = k then A else A.map (·.add (k * 1))) _ _) _ = _
  rw [Nat.mul_one]
  rfl
theorem b_front (A : Option Addr) (l c k : Nat) (n : Int) (hn : n = (k : Int)) (hkc : k ≤ c) (w : World) : (Instr.slice 36 (.slice A l c) none (some (.int .i64 n)) none).run Try.prog w = .ok (.slice A k c) w := by
  subst hn
  rw [run_slice_h w 36 A l c Try.underlying36 .i64 k (by omega) (by omega), size_byt]
  simp only [Result.andThen_ok, sliced, Int.toNat_natCast]
  by_cases h : c = 0
  · subst h; simp
  · have e : A.map (fun a => a.add 0) = A := by cases A <;> simp [Addr.add]
    simp [h, e]
/-- A piece of a slice. -/
theorem slv_mid {w : World} {A : Option Addr} {n c : Nat} {vs : List Value} (h : SlV w (.slice A n c) vs) (lo hi : Nat) (h1 : lo ≤ hi) (h2 : hi ≤ vs.length) :
    SlV w (.slice (if c = lo then A else A.map (·.add lo)) (hi - lo) (c - lo)) ((vs.drop lo).take (hi - lo)) := by
  obtain ⟨A', c', he, hl, hm, hr, hn⟩ := h
  injection he with e1 e2 e3
  subst e1 e3
  have hlk : ((vs.drop lo).take (hi - lo)).length = hi - lo := by simp; omega
  have hcut := hr.cut (k := lo) (cap := c) (by omega) hl
  rw [Nat.mul_one] at hcut
  refine ⟨_, c - lo, by rw [hlk], by omega, by omega, ⟨by simp, fun h0 => ?_⟩, fun hA => ?_⟩
  · rw [hlk] at h0
    obtain ⟨ad, ea, hb, hc⟩ := hcut.2 (by omega)
    refine ⟨ad, ea, hb, fun j v hv => hc j v ?_⟩
    rw [List.getElem?_take] at hv
    split at hv
    · exact hv
    · cases hv
  · by_cases h0 : c = lo
    · exact List.eq_nil_of_length_eq_zero (by omega)
    · rw [if_neg h0] at hA
      cases A with
      | none => rw [hn rfl]; simp
      | some x => cases hA
theorem slv_back {w : World} {A : Option Addr} {n c : Nat} {vs : List Value} (h : SlV w (.slice A n c) vs) (k : Nat) (hk : k ≤ vs.length) : SlV w (.slice (if c = k then A else A.map (·.add k)) (vs.length - k) (c - k)) (vs.drop k) := by
  have := slv_mid h k vs.length hk (Nat.le_refl _)
  rwa [List.take_of_length_le (by simp)] at this
theorem slv_front {w : World} {A : Option Addr} {n c : Nat} {vs : List Value} (h : SlV w (.slice A n c) vs) (k : Nat) (hk : k ≤ vs.length) : SlV w (.slice A k c) (vs.take k) := by
  have hmid := slv_mid h 0 k (Nat.zero_le _) hk
  rw [List.drop_zero, Nat.sub_zero, Nat.sub_zero] at hmid
  have e : A.map (fun a => a.add 0) = A := by cases A <;> simp [Addr.add]
  rw [e] at hmid
  simpa using hmid

/-- A row of one's own, k cells a place. -/
def OwnK (k : Nat) (T : TypeId) (w : World) (B : Nat) (v : Value) (rs : List (List Value)) : Prop := w.ownsRow B T k v rs.length rs.flatten
section
variable {k : Nat} {T : TypeId} {w w' : World} {B : Nat} {v : Value} {rs : List (List Value)}
theorem OwnK.nil_ (k : Nat) (T : TypeId) (w : World) (B : Nat) : OwnK k T w B (.slice none 0 0) [] := World.ownsRow_nil w B T k
theorem OwnK.alloc (h : OwnK k T w B v rs) (o : Obj) : OwnK k T (w.alloc o) B v rs := World.ownsRow.alloc h o
theorem OwnK.below (h : OwnK k T w B v rs) (hb : Below w.heap.size w w') : OwnK k T w' B v rs := World.ownsRow.kept h (only_of_below hb none) (by cases hv : v.ownBlock <;> simp)
theorem OwnK.kept {row : Option Nat} (h : OwnK k T w B v rs) (hg : w.grownBy w' row) (hne : v.ownBlock = none ∨ v.ownBlock ≠ row) : OwnK k T w' B v rs := World.ownsRow.kept h hg hne
theorem OwnK.lt (h : OwnK k T w B v rs) (j : Nat) (hj : v.ownBlock = some j) : B ≤ j ∧ j < w.heap.size := World.ownsRow.lt h j hj
theorem OwnK.base {B' : Nat} (h : OwnK k T w B v rs) (hB : B' ≤ B) : OwnK k T w B' v rs := by
  refine ⟨h.1, ?_⟩
  rcases h.2 with h0 | ⟨g, cap, cur, hv, hb, rest⟩
  · exact .inl h0
  · exact .inr ⟨g, cap, cur, hv, by omega, rest⟩
theorem OwnK.slice (h : OwnK k T w B v rs) : ∃ A c, v = .slice A rs.length c ∧ rs.length ≤ c ∧ c ≤ maxLen := by
  rcases h.2 with ⟨rfl, h0⟩ | ⟨g, cap, cur, rfl, _, _, hc, hm, _⟩
  · exact ⟨none, 0, by rw [h0], by rw [h0]; exact Nat.zero_le _, by unfold maxLen; omega⟩
  · exact ⟨_, _, rfl, hc, hm⟩
theorem OwnK.reads {A : Option Addr} {n c : Nat} (h : OwnK k T w B (.slice A n c) rs) : Reads w w.heap.size k A rs.length rs.flatten := by
  obtain ⟨A', c', he, _⟩ := h.slice
  injection he with e1 e2 e3
  subst e1 e2 e3
  exact Reads.of_own h
theorem OwnK.unlike {E : TypeId} {d : Value} {ds : List Value} {B' : Nat} (h : OwnV E w B' d ds) (h' : OwnK k T w B v rs) (hne : E ≠ T) : d.ownBlock = none ∨ d.ownBlock ≠ v.ownBlock := by
  rcases h.blk with ⟨rfl, _⟩ | ⟨g, c, cur, rfl, _, _, hg, _⟩
  · exact .inl rfl
  · right
    rcases h'.2 with ⟨rfl, _⟩ | ⟨g', cap, cur', rfl, _, hg', _⟩
    · simp [Value.ownBlock]
    · intro e
      have e' : g = g' := by simpa [Value.ownBlock] using e
      subst e'
      exact Blk.ne_ hg hg' hne rfl
theorem flat_at {rs : List (List Value)} (hk : ∀ r ∈ rs, r.length = k) : ∀ (i : Nat) (r : List Value), rs[i]? = some r → ∀ (j : Nat) (u : Value), r[j]? = some u → rs.flatten[i * k + j]? = some u := by
  induction rs with
  | nil => intro i r h; simp at h
  | cons y l ih =>
    intro i r h j u hu
    have hy := hk y List.mem_cons_self
    cases i with
    | zero =>
      simp at h
      subst h
      have hj := (List.getElem?_eq_some_iff.1 hu).1
      rw [List.flatten_cons, List.getElem?_append_left (by omega), Nat.zero_mul, Nat.zero_add]
      exact hu
    | succ i =>
      have h0 := ih (fun r hr => hk r (List.mem_cons_of_mem _ hr)) i r (by simpa using h) j u hu
      rw [List.flatten_cons, Nat.succ_mul, List.getElem?_append_right (by omega), ← h0]
      congr 1
      omega
/-- One place of a row that reads. -/
theorem reads_row {A : Option Addr} {n : Nat} {D : Nat} (h : Reads w D k A n rs.flatten) (hk : ∀ r ∈ rs, r.length = k) (i : Nat) (hi : i < n) (r : List Value) (hr : rs[i]? = some r) :
    ∃ ad : Addr, A = some ad ∧ ∀ (j : Nat) (u : Value), r[j]? = some u → w.cell? (ad.add (i * k + j)) = some u := by
  obtain ⟨ad, e, _, hc⟩ := h.2 (by omega)
  exact ⟨ad, e, fun j u hu => hc _ u (flat_at hk i r hr j u hu)⟩
end
/-- append of one row: the world behind it has grown by the row alone. -/
theorem append_row {k : Nat} {T TS : TypeId} {z : Value} {bt : Nat} (hT : Try.prog.underlying TS = some (.slice T)) (hin : (Try.prog.info? T).map (fun i => (i.zero, i.size, i.bytes)) = some (some z, k, bt)) (hz : z.cells.size = k) (hk : 0 < k) (hbt : bt ≤ 64)
    {ops : Array Oper} {rest : List Oper} {o : Oper} {a : Act} {Q : Exit → Act → World → Prop} (hgd : o.guard = none) (s x : Operand)
    (ho : o.op = .call { callee := .builtin .append, args := #[s, x], argTypes := #[TS, TS] }) (w : World) (B : Nat) (v : Value) (rs : List (List Value)) (hs : a.eval s = v) (hown : OwnK k T w B v rs)
    (u : List Value) (hul : u.length = k) (hone : ∀ y ∈ u, y.oneCell' = true) (hx : a.eval x = .slice (some ⟨w.heap.size, 0, none⟩) 1 1) (hsmall : rs.length + 1 ≤ 2000000) (hB : B ≤ w.heap.size)
    (h : ∀ v' w', OwnK k T w' B v' (rs ++ [u]) → (w.alloc (.cells u.toArray T)).grownBy w' v.ownBlock → Below B w w' → wpList Try.prog ops Q rest (a.put o.dst v') w') : wpList Try.prog ops Q (o :: rest) a (w.alloc (.cells u.toArray T)) := by
  obtain ⟨i0, hi, hz0, hz1, hz2⟩ := info_parts hin
  obtain ⟨w2, hw2⟩ : ∃ W, W = w.alloc (.cells u.toArray T) := ⟨_, rfl⟩
  have hg : Blk w2 w.heap.size T u.toArray := by rw [hw2]; exact heap_alloc_new w _
  have hsz : w2.heap.size = w.heap.size + 1 := by rw [hw2]; simp
  have hown2 : OwnK k T w2 B v rs := by rw [hw2]; exact hown.alloc _
  have hb2 : Below B w w2 := by rw [hw2]; exact (Below.refl _ _).alloc hB _
  rw [← hw2] at h ⊢
  clear hw2
  have hr : Reads w2 w2.heap.size k (some ⟨w.heap.size, 0, none⟩) 1 u := by
    refine ⟨by omega, fun _ => ⟨_, rfl, hg.lt, fun j v hv => ?_⟩⟩
    rw [Addr.add_mid, Nat.zero_add, hg.cell j, ← hv]
    simp
  have hbb : (rs.length + 1) * bt ≤ 140737488355328 := by
    have := Nat.mul_le_mul hsmall hbt
    omega
  refine wpList_append_any w2 hgd s x TS ho B T i0 z k bt hT hi hz0 hz1 hz2 hz hk v rs.length _ hs hown2 w2.heap.size (some ⟨w.heap.size, 0, none⟩) 1 1 _ hx hr hone (by unfold maxLen; omega) hbb (by omega) ?_
  intro v' w' h1 h2 h3
  refine h v' w' ?_ h2 (hb2.trans ((Below.refl _ _).grown h2 (by omega) (fun k hk => (hown2.lt k hk).1)))
  unfold OwnK
  rw [List.length_append, List.flatten_append, List.flatten_singleton]
  exact h1
end Go.Proofs.Ytbejgljljjjjcaa.Ln
