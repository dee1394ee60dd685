/- Texts put together: Tq3, Tb0. -/
import Derived.Test.YtcmlofgkcalhnaaQo12
import GoSem.Op.String
import Derived.Test.YtcmlofgkcalhnaaQo11
import Derived.Lib.AppendStr
/- Texts in order: plain lists. -/
namespace Go.Proofs.Ytcmlofgkcalhnaa.Tx

/-- Does a stand before b? -/
abbrev bl (a b : List UInt8) : Bool := Op.bytesLess a b
theorem bl_nil (b : List UInt8) : bl b [] = false := by cases b <;> rfl
theorem bl_cons (x y : UInt8) (a b : List UInt8) : bl (x :: a) (y :: b) = (decide (x < y) || (x == y && bl a b)) := by
  show Op.bytesLess _ _ = _
  rw [Op.bytesLess]
theorem bl_irr (a : List UInt8) : bl a a = false := by
  induction a with
  | nil => rfl
  | cons x a ih => rw [bl_cons, ih]; simp
theorem u8_tri (x y : UInt8) : x < y ∨ x = y ∨ y < x := by
  rcases Nat.lt_trichotomy x.toNat y.toNat with h | h | h
  · exact .inl h
  · exact .inr (.inl (UInt8.toNat_inj.1 h))
  · exact .inr (.inr h)
theorem u8_nlt {x y : UInt8} (h : x < y) : ¬ y < x ∧ x ≠ y := by
  have h' : x.toNat < y.toNat := h
  exact ⟨fun h2 => by have : y.toNat < x.toNat := h2; omega, fun e => by subst e; omega⟩
theorem bl_tri (a : List UInt8) : ∀ b : List UInt8, bl a b = true ∨ a = b ∨ bl b a = true := by
  induction a with
  | nil => intro b; cases b with | nil => exact .inr (.inl rfl) | cons y b => exact .inl rfl
  | cons x a ih =>
    intro b
    cases b with
    | nil => exact .inr (.inr rfl)
    | cons y b =>
      rw [bl_cons, bl_cons]
      rcases u8_tri x y with h | h | h
      · left; simp [h]
      · subst h
        rcases ih b with h | h | h
        · left; rw [h]; simp
        · right; left; rw [h]
        · right; right; rw [h]; simp
      · right; right; simp [h]
theorem bl_asymm (a : List UInt8) : ∀ b : List UInt8, bl a b = true → bl b a = false := by
  induction a with
  | nil => intro b _; exact bl_nil b
  | cons x a ih =>
    intro b h
    cases b with
    | nil => rw [bl_nil] at h; cases h
    | cons y b =>
      rw [bl_cons] at h ⊢
      rcases u8_tri x y with h1 | h1 | h1
      · have := u8_nlt h1
        simp [this.1]
        intro e; exact absurd e.symm this.2
      · subst h1
        have hb : bl a b = true := by simpa using h
        rw [ih b hb]
        simp
      · have := u8_nlt h1
        simp [this.1, this.2.symm] at h
theorem bl_trans (a : List UInt8) : ∀ b c : List UInt8, bl a b = true → bl b c = true → bl a c = true := by
  induction a with
  | nil =>
    intro b c h1 h2
    cases c with
    | nil => rw [bl_nil] at h2; cases h2
    | cons z c => rfl
  | cons x a ih =>
    intro b c h1 h2
    cases b with
    | nil => rw [bl_nil] at h1; cases h1
    | cons y b =>
      cases c with
      | nil => rw [bl_nil] at h2; cases h2
      | cons z c =>
        rw [bl_cons] at h1 h2 ⊢
        rcases u8_tri x y with g1 | g1 | g1
        · rcases u8_tri y z with g2 | g2 | g2
          · have : x < z := by have a1 : x.toNat < y.toNat := g1; have a2 : y.toNat < z.toNat := g2; show x.toNat < z.toNat; omega
            simp [this]
          · subst g2; simp [g1]
          · have := u8_nlt g2
            simp [this.1, this.2.symm] at h2
        · subst g1
          rcases u8_tri x z with g2 | g2 | g2
          · simp [g2]
          · subst g2
            have hb1 : bl a b = true := by simpa using h1
            have hb2 : bl b c = true := by simpa using h2
            rw [ih b c hb1 hb2]
            simp
          · have := u8_nlt g2
            simp [this.1, this.2.symm] at h2
        · have := u8_nlt g1
          simp [this.1, this.2.symm] at h1
/-- Compare. -/
def cmpL (a b : List UInt8) : Int := if bl a b then -1 else if a = b then 0 else 1
theorem cmpL_lt {a b : List UInt8} (h : bl a b = true) : cmpL a b = -1 := by unfold cmpL; rw [if_pos h]
theorem cmpL_eq (a : List UInt8) : cmpL a a = 0 := by unfold cmpL; rw [if_neg (by rw [bl_irr]; decide), if_pos rfl]
theorem cmpL_gt {a b : List UInt8} (h : bl b a = true) : cmpL a b = 1 := by
  unfold cmpL
  rw [if_neg (by rw [bl_asymm b a h]; decide), if_neg (by rintro rfl; rw [bl_irr] at h; cases h)]
theorem cmpL_neg (a b : List UInt8) : cmpL b a = - cmpL a b := by
  rcases bl_tri a b with h | h | h
  · rw [cmpL_lt h, cmpL_gt h]; rfl
  · subst h; rw [cmpL_eq]; rfl
  · rw [cmpL_lt h, cmpL_gt h]
theorem cmpL_cases (a b : List UInt8) : (Op.bytesLess a b = true ∧ cmpL a b = -1) ∨ (Op.bytesLess a b = false ∧ (a == b) = true ∧ cmpL a b = 0) ∨ (Op.bytesLess a b = false ∧ (a == b) = false ∧ cmpL a b = 1) := by
  rcases bl_tri a b with h | h | h
  · exact .inl ⟨h, cmpL_lt h⟩
  · subst h; exact .inr (.inl ⟨bl_irr a, beq_self_eq_true a, cmpL_eq a⟩)
  · refine .inr (.inr ⟨bl_asymm b a h, ?_, cmpL_gt h⟩)
    rw [beq_eq_false_iff_ne]; rintro rfl; rw [bl_irr] at h; cases h
end Go.Proofs.Ytcmlofgkcalhnaa.Tx
/- Bytes, as slices of one-cell values; appended to, and made a text. (No package's code in it.) -/
namespace Go.Proofs.Ytcmlofgkcalhnaa.Tx
open Go.RowKit Go.Proofs.Ytcmlofgkcalhnaa.Sh

/-- A byte, as a value. -/
def bv (u : UInt8) : Value := .int .u8 (bi u)
theorem bv_one (l : List UInt8) : ∀ u ∈ l.map bv, u.oneCell' = true := by intro u hu; simp only [List.mem_map] at hu; obtain ⟨x, _, rfl⟩ := hu; rfl
theorem info_u8 : (Try.prog.info? 5).map (fun i => (i.zero, i.size, i.bytes)) = some (some (.int .u8 0), 1, 1) := by kernel_rfl
theorem append_bytes {ops : Array Oper} {rest : List Oper} {o : Oper} {a : Act} {Q : Exit → Act → World → Prop} (hgd : o.guard = none) (s x : Operand)
    (ho : o.op = .call { callee := .builtin .append, args := #[s, x], argTypes := #[29, 29] }) (w : World) (B : Nat) (v : Value) (bs : List UInt8) (hs : a.eval s = v) (hown : OwnV 5 w B v (bs.map bv))
    (B' : Nat) (A : Option Addr) (m c : Nat) (us : List UInt8) (hx : a.eval x = .slice A m c) (hr : Reads w B' 1 A m (us.map bv)) (hsmall : bs.length + m ≤ 140737488355328) (hB : B ≤ w.heap.size)
    (h : ∀ v' w', OwnV 5 w' B v' ((bs ++ us).map bv) → Below B w w' → wpList Try.prog ops Q rest (a.put o.dst v') w') : wpList Try.prog ops Q (o :: rest) a w := by
  obtain ⟨i0, hi, hz0, hz1, hz2⟩ := info_parts info_u8
  have hm : us.length = m := by have := hr.1; simpa using this
  have hown' : w.ownsRow B 5 1 v bs.length (bs.map bv) := by have := hown; unfold OwnV at this; rwa [List.length_map] at this
  refine wpList_append_any w hgd s x 29 ho B 5 i0 (.int .u8 0) 1 1 Try.underlying29 hi hz0 hz1 hz2 rfl (by decide) v bs.length _ hs hown' B' A m c _ hx hr (bv_one us) (by unfold maxLen; omega) (by omega) hB ?_
  intro v' w' h1 h2 _
  refine h v' w' ?_ ((Below.refl _ _).grown h2 hB (fun k hk => (hown'.lt k hk).1))
  unfold OwnV
  rw [List.length_map, List.length_append, hm, List.map_append]
  exact h1
theorem append_byte {ops : Array Oper} {rest : List Oper} {o : Oper} {a : Act} {Q : Exit → Act → World → Prop} (hgd : o.guard = none) (s x : Operand)
    (ho : o.op = .call { callee := .builtin .append, args := #[s, x], argTypes := #[29, 29] }) (w : World) (B : Nat) (v : Value) (bs : List UInt8) (hs : a.eval s = v) (hown : OwnV 5 w B v (bs.map bv))
    (k : Int) (u : UInt8) (hu : bi u = k) (hx : a.eval x = .slice (some ⟨w.heap.size, 0, none⟩) 1 1) (hsmall : bs.length + 1 ≤ 140737488355328) (hB : B ≤ w.heap.size)
    (h : ∀ v' w', OwnV 5 w' B v' ((bs ++ [u]).map bv) → Below B w w' → wpList Try.prog ops Q rest (a.put o.dst v') w') : wpList Try.prog ops Q (o :: rest) a (w.alloc (.cells #[.int .u8 k] 5)) := by
  subst hu
  have hr : Reads (w.alloc (.cells #[.int .u8 (bi u)] 5)) (w.heap.size + 1) 1 (some ⟨w.heap.size, 0, none⟩) 1 ([u].map bv) := by
    refine ⟨rfl, fun _ => ⟨_, rfl, by simp, fun j v hv => ?_⟩⟩
    rw [Addr.add_mid, cell_of_row _ _ _ _ 5 (0, 0) (heap_alloc_new w _), Nat.zero_add, ← hv]
    simp [bv]
  refine append_bytes hgd s x ho _ B v bs hs (hown.alloc _) _ _ 1 1 [u] hx hr hsmall (by simp; omega) ?_
  intro v' w' h1 h2
  exact h v' w' h1 (((Below.refl _ _).alloc hB _).trans h2)
theorem cells_str (us : List UInt8) : Lib.strCells (str us) = us.map bv := by
  unfold Lib.strCells str
  simp [bv, bi_nat]
/-- 'append(b, s...)', s a text. -/
theorem append_str {ops : Array Oper} {rest : List Oper} {o : Oper} {a : Act} {Q : Exit → Act → World → Prop} (hgd : o.guard = none) (s x : Operand)
    (ho : o.op = .call { callee := .builtin .append, args := #[s, x], argTypes := #[29, 9] }) (w : World) (B : Nat) (v : Value) (bs : List UInt8) (hs : a.eval s = v) (hown : OwnV 5 w B v (bs.map bv))
    (us : List UInt8) (hx : a.eval x = .string (str us)) (hsmall : bs.length + us.length ≤ 140737488355328) (hB : B ≤ w.heap.size)
    (h : ∀ v' w', OwnV 5 w' B v' ((bs ++ us).map bv) → Below B w w' → wpList Try.prog ops Q rest (a.put o.dst v') w') : wpList Try.prog ops Q (o :: rest) a w := by
  obtain ⟨i0, hi, hz0, hz1, hz2⟩ := info_parts info_u8
  have hown' : w.ownsRow B 5 1 v bs.length (bs.map bv) := by have := hown; unfold OwnV at this; rwa [List.length_map] at this
  have hsz := str_size us
  refine Lib.wpList_append_own_string w hgd s x 29 9 ho B 5 i0 Try.underlying29 Try.underlying9 hi hz0 hz1 hz2 v bs.length _ hs hown' (str us) hx (by unfold maxLen; omega) (by omega) hB ?_
  intro v' w' h1 h2 _
  refine h v' w' ?_ ((Below.refl _ _).grown h2 hB (fun k hk => (hown'.lt k hk).1))
  unfold OwnV
  rw [List.length_map, List.length_append, List.map_append, ← cells_str us, ← hsz]
  exact h1
theorem str_push (ns : List UInt8) : ∀ base : List UInt8, ((ns.map bi).foldl (fun r n => r.push (UInt8.ofNat n.toNat)) (str base)) = str (base ++ ns) := by
  induction ns with
  | nil => intro base; simp
  | cons n ns ih =>
    intro base
    have e : (str base).push (UInt8.ofNat (bi n).toNat) = str (base ++ [n]) := by
      have h : UInt8.ofNat (bi n).toNat = n := by rw [bi_nat]; simp
      rw [h]
      unfold str ByteArray.push
      simp
    rw [List.map_cons, List.foldl_cons, e, ih]
    simp
set_option maxRecDepth 100000 in
/-- 'string(b)'. -/
theorem conv_str (w : World) (A : Option Addr) (bs : List UInt8) (n c : Nat) (hn : bs.length = n) (h : SlV w (.slice A n c) (bs.map bv)) :
    (convert 29 9 (.slice A n c)).run Try.prog w = .ok (.string (str bs)) w := by
  subst hn
  obtain ⟨A', c', hv, _, _, hr, hA⟩ := h
  injection hv with e1 e2 e3
  subst e1 e3
  rw [run_convert_bytes_string w 29 9 5 A bs.length c Try.underlying29 Try.underlying5 Try.underlying9]
  rcases A with _ | ad
  · have h0 : bs = [] := by simpa using hA rfl
    subst h0
    simp [Conv.bytesToString, Sem.run_pure, str]
    rfl
  · have hl : (loadCells ad bs.length).run Try.prog w = .ok ((bs.map bi).map (Value.int .u8)).toArray w := by
      have := run_loadCells_list (P := Try.prog) w ad (bs.map bv) (fun j v hv => by
        obtain ⟨ad', e, hc⟩ := reads_at hr j v hv
        injection e with e
        rw [e]
        exact hc)
      have e : (bs.map bi).map (Value.int .u8) = bs.map bv := by rw [List.map_map]; rfl
      rw [e]
      simpa using this
    rw [run_bytesToString w ad bs.length c _ hl]
    have := str_push bs []
    rw [List.nil_append] at this
    have e0 : ByteArray.empty = str [] := rfl
    rw [e0, this]
end Go.Proofs.Ytcmlofgkcalhnaa.Tx
