/- Bytes, as slices of one-cell values; appended to, and made a text. (No package's code in it.) -/
import Derived.Test.YtbejgljljjjjcaaTx0
import Derived.Lib.AppendStr
namespace Go.Proofs.Ytbejgljljjjjcaa.Tx
open Go.RowKit Go.Proofs.Ytbejgljljjjjcaa.Sh

/-- A byte, as a value. -/
def bv (u : UInt8) : Value := .int .u8 (bi u)
theorem bv_one (l : List UInt8) : ∀ u ∈ l.map bv, u.oneCell' = true := by intro u hu; simp only [List.mem_map] at hu; obtain ⟨x, _, rfl⟩ := hu; rfl
theorem info_u8 : (Try.prog.info? 5).map (fun i => (i.zero, i.size, i.bytes)) = some (some (.int .u8 0), 1, 1) := by kernel_rfl
theorem append_bytes {ops : Array Oper} {rest : List Oper} {o : Oper} {a : Act} {Q : Exit → Act → World → Prop} (hgd : o.guard = none) (s x : Operand)
    (ho : o.op = .call { callee := .builtin .append, args := #[s, x], argTypes := #[36, 36] }) (w : World) (B : Nat) (v : Value) (bs : List UInt8) (hs : a.eval s = v) (hown : OwnV 5 w B v (bs.map bv))
    (B' : Nat) (A : Option Addr) (m c : Nat) (us : List UInt8) (hx : a.eval x = .slice A m c) (hr : Reads w B' 1 A m (us.map bv)) (hsmall : bs.length + m ≤ 140737488355328) (hB : B ≤ w.heap.size)
    (h : ∀ v' w', OwnV 5 w' B v' ((bs ++ us).map bv) → Below B w w' → wpList Try.prog ops Q rest (a.put o.dst v') w') : wpList Try.prog ops Q (o :: rest) a w := by
  obtain ⟨i0, hi, hz0, hz1, hz2⟩ := info_parts info_u8
  have hm : us.length = m := by have := hr.1; simpa using this
  have hown' : w.ownsRow B 5 1 v bs.length (bs.map bv) := by have := hown; unfold OwnV at this; rwa [List.length_map] at this
  refine wpList_append_any w hgd s x 36 ho B 5 i0 (.int .u8 0) 1 1 Try.underlying36 hi hz0 hz1 hz2 rfl (by decide) v bs.length _ hs hown' B' A m c _ hx hr (bv_one us) (by unfold maxLen; omega) (by omega) hB ?_
  intro v' w' h1 h2 _
  refine h v' w' ?_ ((Below.refl _ _).grown h2 hB (fun k hk => (hown'.lt k hk).1))
  unfold OwnV
  rw [List.length_map, List.length_append, hm, List.map_append]
  exact h1
theorem append_byte {ops : Array Oper} {rest : List Oper} {o : Oper} {a : Act} {Q : Exit → Act → World → Prop} (hgd : o.guard = none) (s x : Operand)
    (ho : o.op = .call { callee := .builtin .append, args := #[s, x], argTypes := #[36, 36] }) (w : World) (B : Nat) (v : Value) (bs : List UInt8) (hs : a.eval s = v) (hown : OwnV 5 w B v (bs.map bv))
    (k : Int) (u : UInt8) (hu : bi u = k) (hx : a.eval x = .slice (some ⟨w.heap.size, 0, none⟩) 1 1) (hsmall : bs.length + 1 ≤ 140737488355328) (hB : B ≤ w.heap.size)
    (h : ∀ v' w', OwnV 5 w' B v' ((bs ++ [u]).map bv) → Below B w w' → wpList Try.prog ops Q rest (a.put o.dst v') w') : wpList Try.prog ops Q (o :: rest) a (w.alloc (.cells #[.int .u8 k] 5)) := by
  subst hu
  have hr : Reads (w.alloc (.cells #[.int .u8 (bi u)] 5)) (w.heap.size + 1) 1 (some ⟨w.heap.size, 0, none⟩) 1 ([u].map bv) := by
    refine ⟨rfl, fun _ => ⟨_, rfl, by simp, fun j v hv => ?_⟩⟩
    rw [Addr.add_mid, cell_of_row _ _ _ _ 5 (0, 0) (heap_alloc_new w _), Nat.zero_add, ← hv]
    simp [bv]
  refine append_bytes hgd s x ho _ B v bs hs (hown.alloc _) _ _ 1 1 [u] hx hr hsmall (by simp; omega) ?_
  intro v' w' h1 h2
  exact h v' w' h1 (((Below.refl _ _).alloc hB _).trans h2)
theorem cells_str (us : List UInt8) : Lib.strCells (str us) = us.map bv := by
  unfold Lib.strCells str
  simp [bv, bi_nat]
/-- 'append(b, s...)', s a text. -/
theorem append_str {ops : Array Oper} {rest : List Oper} {o : Oper} {a : Act} {Q : Exit → Act → World → Prop} (hgd : o.guard = none) (s x : Operand)
    (ho : o.op = .call { callee := .builtin .append, args := #[s, x], argTypes := #[36, 9] }) (w : World) (B : Nat) (v : Value) (bs : List UInt8) (hs : a.eval s = v) (hown : OwnV 5 w B v (bs.map bv))
    (us : List UInt8) (hx : a.eval x = .string (str us)) (hsmall : bs.length + us.length ≤ 140737488355328) (hB : B ≤ w.heap.size)
    (h : ∀ v' w', OwnV 5 w' B v' ((bs ++ us).map bv) → Below B w w' → wpList Try.prog ops Q rest (a.put o.dst v') w') : wpList Try.prog ops Q (o :: rest) a w := by
  obtain ⟨i0, hi, hz0, hz1, hz2⟩ := info_parts info_u8
  have hown' : w.ownsRow B 5 1 v bs.length (bs.map bv) := by have := hown; unfold OwnV at this; rwa [List.length_map] at this
  have hsz := str_size us
  refine Lib.wpList_append_own_string w hgd s x 36 9 ho B 5 i0 Try.underlying36 Try.underlying9 hi hz0 hz1 hz2 v bs.length _ hs hown' (str us) hx (by unfold maxLen; omega) (by omega) hB ?_
  intro v' w' h1 h2 _
  refine h v' w' ?_ ((Below.refl _ _).grown h2 hB (fun k hk => (hown'.lt k hk).1))
  unfold OwnV
  rw [List.length_map, List.length_append, List.map_append, ← cells_str us, ← hsz]
  exact h1
theorem str_push (ns : List UInt8) : ∀ base : List UInt8, ((ns.map bi).foldl (fun r n => r.push (UInt8.ofNat n.toNat)) (str base)) = str (base ++ ns) := by
  induction ns with
  | nil => intro base; simp
  | cons n ns ih =>
    intro base
    have e : (str base).push (UInt8.ofNat (bi n).toNat) = str (base ++ [n]) := by
      have h : UInt8.ofNat (bi n).toNat = n := by rw [bi_nat]; simp
      rw [h]
      unfold str ByteArray.push
      simp
    rw [List.map_cons, List.foldl_cons, e, ih]
    simp
set_option maxRecDepth 100000 in
/-- 'string(b)'. -/
theorem conv_str (w : World) (A : Option Addr) (bs : List UInt8) (n c : Nat) (hn : bs.length = n) (h : SlV w (.slice A n c) (bs.map bv)) :
    (convert 36 9 (.slice A n c)).run Try.prog w = .ok (.string (str bs)) w := by
  subst hn
  obtain ⟨A', c', hv, _, _, hr, hA⟩ := h
  injection hv with e1 e2 e3
  subst e1 e3
  rw [run_convert_bytes_string w 36 9 5 A bs.length c Try.underlying36 Try.underlying5 Try.underlying9]
  rcases A with _ | ad
  · have h0 : bs = [] := by simpa using hA rfl
    subst h0
    simp [Conv.bytesToString, Sem.run_pure, str]
    rfl
  · have hl : (loadCells ad bs.length).run Try.prog w = .ok ((bs.map bi).map (Value.int .u8)).toArray w := by
      have := run_loadCells_list (P := Try.prog) w ad (bs.map bv) (fun j v hv => by
        obtain ⟨ad', e, hc⟩ := reads_at hr j v hv
        injection e with e
        rw [e]
        exact hc)
      have e : (bs.map bi).map (Value.int .u8) = bs.map bv := by rw [List.map_map]; rfl
      rw [e]
      simpa using this
    rw [run_bytesToString w ad bs.length c _ hl]
    have := str_push bs []
    rw [List.nil_append] at this
    have e0 : ByteArray.empty = str [] := rfl
    rw [e0, this]
end Go.Proofs.Ytbejgljljjjjcaa.Tx
