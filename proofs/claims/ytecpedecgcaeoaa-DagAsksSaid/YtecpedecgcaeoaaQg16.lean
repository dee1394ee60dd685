/- Texts put together: Fv1. -/
import Derived.Test.YtecpedecgcaeoaaQg15
/- Slices of structs, each with one slice of one-cell values in it (or none): to be read, of one's own, appended to. (No package's code in it; printed by mk_fv1.py.) -/
set_option linter.unusedVariables false
set_option linter.unusedSimpArgs false
namespace Go.Proofs.Ytecpedecgcaeoaa.Tx
open Go.RowKit Go.Proofs.Ytecpedecgcaeoaa.Sh

def VsV (F : Nat → Prop) (w : World) (v : Value) (bs : List Value) : Prop := Rd F w 1 v bs.length bs
def VssV (F : Nat → Prop) (w : World) (ds : List Value) (bss : List (List Value)) : Prop := ds.length = bss.length ∧ ∀ (i : Nat) (d : Value) (bs : List Value), ds[i]? = some d → bss[i]? = some bs → VsV F w d bs
theorem flatV_at {α : Type} {m : Nat} : ∀ {l : List (List α)}, (∀ x ∈ l, x.length = m) → ∀ (k : Nat) (x : List α), l[k]? = some x → ∀ (j : Nat) (u : α), x[j]? = some u → l.flatten[k * m + j]? = some u
  | [], _, k, x, h, _, _, _ => by simp at h
  | y :: r, hl, 0, x, h, j, u, hu => by
    simp at h
    subst h
    rw [List.flatten_cons, Nat.zero_mul, Nat.zero_add, List.getElem?_append_left (List.getElem?_eq_some_iff.1 hu).1]
    exact hu
  | y :: r, hl, k + 1, x, h, j, u, hu => by
    have hy : y.length = m := hl y List.mem_cons_self
    rw [List.getElem?_cons_succ] at h
    rw [List.flatten_cons, List.getElem?_append_right (by rw [hy, Nat.add_mul]; omega), hy, show (k + 1) * m + j - m = k * m + j from by rw [Nat.add_mul]; omega]
    exact flatV_at (fun z hz => hl z (List.mem_cons_of_mem _ hz)) k x h j u hu
theorem zipV_at {α β γ : Type} {f : α → β → γ} {l : List α} {m : List β} {k : Nat} {a : α} {b : β} (h1 : l[k]? = some a) (h2 : m[k]? = some b) : (List.zipWith f l m)[k]? = some (f a b) := by
  rw [List.getElem?_zipWith, h1, h2]
theorem VsV.slice {F : Nat → Prop} {w : World} {v : Value} {bs : List Value} (h : VsV F w v bs) : ∃ A c, v = .slice A bs.length c ∧ bs.length ≤ c ∧ c ≤ maxLen := by
  obtain ⟨A, c, h1, h2, h3, _⟩ := h
  exact ⟨A, c, h1, h2, h3⟩
theorem VsV.one {F : Nat → Prop} {w : World} {v : Value} {bs : List Value} (h : VsV F w v bs) : v.oneCell' = true := by
  obtain ⟨A, c, rfl, _⟩ := h
  rfl
theorem VsV.only {F M : Nat → Prop} {w w' : World} {v : Value} {bs : List Value} (h : VsV F w v bs) (ho : Only M w w') (hd : ∀ k, F k → ¬ M k) : VsV F w' v bs := Rd.only h ho hd
theorem VsV.mono {F F' : Nat → Prop} {w : World} {v : Value} {bs : List Value} (h : VsV F w v bs) (hF : ∀ k, k < w.heap.size → F k → F' k) : VsV F' w v bs := Rd.mono h hF
theorem VssV.only {F M : Nat → Prop} {w w' : World} {ds : List Value} {bss : List (List Value)} (h : VssV F w ds bss) (ho : Only M w w') (hd : ∀ k, F k → ¬ M k) : VssV F w' ds bss :=
  ⟨h.1, fun i d bs h1 h2 => (h.2 i d bs h1 h2).only ho hd⟩
theorem VssV.mono {F F' : Nat → Prop} {w : World} {ds : List Value} {bss : List (List Value)} (h : VssV F w ds bss) (hF : ∀ k, k < w.heap.size → F k → F' k) : VssV F' w ds bss :=
  ⟨h.1, fun i d bs h1 h2 => (h.2 i d bs h1 h2).mono hF⟩
theorem VssV.one {F : Nat → Prop} {w : World} {ds : List Value} {bss : List (List Value)} (h : VssV F w ds bss) : ∀ d ∈ ds, d.oneCell' = true := by
  intro d hd
  obtain ⟨i, hi, rfl⟩ := List.getElem_of_mem hd
  exact (h.2 i _ _ (List.getElem?_eq_getElem hi) (List.getElem?_eq_getElem (by rw [← h.1]; exact hi))).one
theorem VssV.nil_ {F : Nat → Prop} {w : World} : VssV F w [] [] := ⟨rfl, fun i d bs h => by simp at h⟩
theorem VssV.app {F : Nat → Prop} {w : World} {ds es : List Value} {bss css : List (List Value)} (h : VssV F w ds bss) (h2 : VssV F w es css) : VssV F w (ds ++ es) (bss ++ css) := by
  refine ⟨by simp [h.1, h2.1], fun i e b h3 h4 => ?_⟩
  by_cases hi : i < ds.length
  · rw [List.getElem?_append_left hi] at h3
    rw [List.getElem?_append_left (by rw [← h.1]; exact hi)] at h4
    exact h.2 i e b h3 h4
  · rw [List.getElem?_append_right (by omega)] at h3
    rw [List.getElem?_append_right (by rw [← h.1]; omega), ← h.1] at h4
    exact h2.2 _ e b h3 h4
theorem VssV.at_ {F : Nat → Prop} {w : World} {ds : List Value} {bss : List (List Value)} (h : VssV F w ds bss) {i : Nat} {bs : List Value} (hi : bss[i]? = some bs) : ∃ d, ds[i]? = some d ∧ VsV F w d bs := by
  have hl : i < ds.length := by rw [h.1]; exact (List.getElem?_eq_some_iff.1 hi).1
  exact ⟨ds[i], List.getElem?_eq_getElem hl, h.2 i _ _ (List.getElem?_eq_getElem hl) hi⟩
/-- How an element lies in memory; d: its bytes, as a value. -/
structure ShapeV where
  α : Type
  cells : α → Value → List Value
  vals : α → List Value
  m : Nat
  pos : 0 < m
  len : ∀ a d, (cells a d).length = m
  one : ∀ a d, d.oneCell' = true → ∀ u ∈ cells a d, u.oneCell' = true
section
variable (K : ShapeV)
def ShCV (l : List K.α) (ds : List Value) : List Value := (List.zipWith K.cells l ds).flatten
def InV (F : Nat → Prop) (w : World) (v : Value) (l : List K.α) : Prop := ∃ ds, Rd F w K.m v l.length (ShCV K l ds) ∧ VssV F w ds (l.map K.vals)
def TmpV (F : Nat → Prop) (w : World) (v : Value) (l : List K.α) : Prop := ∃ ds, Rd (fun _ => True) w K.m v l.length (ShCV K l ds) ∧ VssV F w ds (l.map K.vals)
def OwnS (T : TypeId) (F : Nat → Prop) (w : World) (B : Nat) (v : Value) (l : List K.α) : Prop := (∃ ds, w.ownsRow B T K.m v l.length (ShCV K l ds) ∧ VssV F w ds (l.map K.vals)) ∧ ∀ k, v.ownBlock = some k → ¬ F k
end
section
variable {K : ShapeV} {F F' M : Nat → Prop} {w w' : World} {v : Value} {l : List K.α} {T : TypeId} {B : Nat} {ds es : List Value}
theorem ShCV_at {k : Nat} {a : K.α} {d : Value} (h1 : l[k]? = some a) (h2 : ds[k]? = some d) (j : Nat) (u : Value) (hu : (K.cells a d)[j]? = some u) : (ShCV K l ds)[k * K.m + j]? = some u := by
  refine flatV_at (m := K.m) (fun x hx => ?_) k _ (zipV_at h1 h2) j u hu
  obtain ⟨i, hi, e⟩ := List.getElem_of_mem hx
  rw [List.getElem_zipWith] at e
  rw [← e]
  exact K.len _ _
theorem ShCV_app {l2 : List K.α} (h : ds.length = l.length) : ShCV K (l ++ l2) (ds ++ es) = ShCV K l ds ++ ShCV K l2 es := by
  unfold ShCV
  rw [List.zipWith_append h.symm, List.flatten_append]
theorem ShCV_one (hd : ∀ d ∈ ds, d.oneCell' = true) : ∀ u ∈ ShCV K l ds, u.oneCell' = true := by
  intro u hu
  unfold ShCV at hu
  obtain ⟨x, hx, hux⟩ := List.mem_flatten.1 hu
  obtain ⟨i, hi, e⟩ := List.getElem_of_mem hx
  rw [List.getElem_zipWith] at e
  rw [← e] at hux
  exact K.one _ _ (hd _ (List.getElem_mem _)) u hux
theorem ShCV_length (h : ds.length = l.length) : (ShCV K l ds).length = l.length * K.m := by
  unfold ShCV
  rw [List.length_flatten]
  have : (List.zipWith K.cells l ds).map List.length = List.replicate l.length K.m := by
    apply List.ext_getElem
    · simp [h]
    · intro i h1 h2
      simp [K.len]
  rw [this, List.sum_replicate_nat]
theorem InV.only (h : InV K F w v l) (ho : Only M w w') (hd : ∀ k, F k → ¬ M k) : InV K F w' v l := by
  obtain ⟨ds, h1, h2⟩ := h
  exact ⟨ds, h1.only ho hd, h2.only ho hd⟩
theorem InV.mono (h : InV K F w v l) (hF : ∀ k, k < w.heap.size → F k → F' k) : InV K F' w v l := by
  obtain ⟨ds, h1, h2⟩ := h
  exact ⟨ds, h1.mono hF, h2.mono hF⟩
theorem InV.below (h : InV K F w v l) (hb : Below w.heap.size w w') : InV K F w' v l := h.only (Only.of_below (M := fun _ => False) hb) (fun _ _ => id)
theorem InV.nil_ (K : ShapeV) (F : Nat → Prop) (w : World) : InV K F w (.slice none 0 0) [] := ⟨[], Rd.nil_ F w K.m, VssV.nil_⟩
theorem InV.tmp (h : InV K F w v l) : TmpV K F w v l := by
  obtain ⟨ds, h1, h2⟩ := h
  exact ⟨ds, h1.mono (fun _ _ _ => trivial), h2⟩
theorem TmpV.slice (h : TmpV K F w v l) : ∃ A c, v = .slice A l.length c ∧ l.length ≤ c ∧ c ≤ maxLen := by
  obtain ⟨ds, ⟨A, c, h1, h2, h3, _⟩, _⟩ := h
  exact ⟨A, c, h1, h2, h3⟩
theorem TmpV.below (h : TmpV K F w v l) (hb : Below w.heap.size w w') : TmpV K F w' v l := by
  obtain ⟨ds, h1, h2⟩ := h
  exact ⟨ds, h1.below hb, h2.only (Only.of_below (M := fun _ => False) hb) (fun _ _ => id)⟩
theorem TmpV.drew (h : TmpV K F w v l) : TmpV K F w.drew v l := h
theorem OwnS.drew (h : OwnS K T F w B v l) : OwnS K T F w.drew B v l := h
theorem OwnS.tmp (h : OwnS K T F w B v l) : TmpV K F w v l := by
  obtain ⟨⟨ds, h1, h2⟩, _⟩ := h
  exact ⟨ds, Rd.of_own h1 (fun _ _ => trivial), h2⟩
/-- An element's cells. -/
theorem TmpV.at_ {A : Option Addr} {n c : Nat} (h : TmpV K F w (.slice A n c) l) (k : Nat) (a : K.α) (hk : l[k]? = some a) :
    ∃ (ad : Addr) (d : Value), A = some ad ∧ VsV F w d (K.vals a) ∧ ∀ j u, (K.cells a d)[j]? = some u → w.cell? (ad.add (k * K.m + j)) = some u := by
  obtain ⟨ds, ⟨A', c', hv, _, _, _, _, h5⟩, hd⟩ := h
  injection hv with e1 e2 e3
  subst e1
  have hkl := (List.getElem?_eq_some_iff.1 hk).1
  obtain ⟨ad, hA, _, _, hc⟩ := h5 (by omega)
  obtain ⟨d, hdk, hby⟩ := hd.at_ (i := k) (bs := K.vals a) (by rw [List.getElem?_map, hk]; rfl)
  exact ⟨ad, d, hA, hby, fun j u hu => hc _ _ (ShCV_at hk hdk j u hu)⟩
theorem OwnS.nil_ (K : ShapeV) (T : TypeId) (F : Nat → Prop) (w : World) (B : Nat) : OwnS K T F w B (.slice none 0 0) [] := ⟨⟨[], World.ownsRow_nil w B _ _, VssV.nil_⟩, fun k h => by cases h⟩
theorem OwnS.rin (h : OwnS K T F w B v l) : InV K (fun k => F k ∨ (B ≤ k ∧ k < w.heap.size)) w v l := by
  obtain ⟨⟨ds, h1, h2⟩, _⟩ := h
  exact ⟨ds, Rd.of_own h1 (fun k hk => .inr (h1.lt k hk)), h2.mono (fun _ _ hk => .inl hk)⟩
theorem OwnS.base {B' : Nat} (h : OwnS K T F w B v l) (hB : B' ≤ B) : OwnS K T F w B' v l := by
  obtain ⟨⟨ds, h1, h2⟩, h3⟩ := h
  obtain ⟨g1, g2⟩ := h1
  exact ⟨⟨ds, ⟨g1, g2.imp id fun ⟨g, cap, cur, a1, a2, a3⟩ => ⟨g, cap, cur, a1, by omega, a3⟩⟩, h2⟩, h3⟩
theorem OwnS.only (h : OwnS K T F w B v l) (ho : Only M w w') (hd : ∀ k, F k → ¬ M k) (hv : ∀ k, v.ownBlock = some k → ¬ M k) : OwnS K T F w' B v l := by
  obtain ⟨⟨ds, h1, h2⟩, h3⟩ := h
  refine ⟨⟨ds, ?_, h2.only ho hd⟩, h3⟩
  refine ⟨h1.1, h1.2.imp id fun ⟨g, cap, cur, a1, a2, a3, a4⟩ => ⟨g, cap, cur, a1, a2, ?_, a4⟩⟩
  subst a1
  have hlt : g < w.heap.size := (Array.getElem?_eq_some_iff.1 a3).1
  rw [ho.block g hlt (hv g rfl)]
  exact a3
theorem OwnS.mono (h : OwnS K T F w B v l) (hF : ∀ k, k < w.heap.size → F k → F' k) (hn : ∀ k, v.ownBlock = some k → ¬ F' k) : OwnS K T F' w B v l := by
  obtain ⟨⟨ds, h1, h2⟩, _⟩ := h
  exact ⟨⟨ds, h1, h2.mono hF⟩, hn⟩
theorem OwnS.lt (h : OwnS K T F w B v l) (k : Nat) (hk : v.ownBlock = some k) : B ≤ k ∧ k < w.heap.size := by
  obtain ⟨⟨ds, h1, _⟩, _⟩ := h
  exact h1.lt k hk
theorem OwnS.alloc (h : OwnS K T F w B v l) (o : Obj) : OwnS K T F (w.alloc o) B v l := h.only ((Only.refl (fun _ => False) w).alloc o) (fun _ _ => id) (fun _ _ => id)
theorem TmpV.alloc (h : TmpV K F w v l) (o : Obj) : TmpV K F (w.alloc o) v l := h.below ((Below.refl _ _).alloc (Nat.le_refl _) o)
theorem TmpV.one {g : Nat} {a : K.α} {d : Value} {cs : Array Value} (hg : Blk w g T cs) (hcs : cs.toList = K.cells a d) (hd : VsV F w d (K.vals a)) : TmpV K F w (.slice (some ⟨g, 0, none⟩) 1 1) [a] := by
  refine ⟨[d], ⟨some ⟨g, 0, none⟩, 1, rfl, Nat.le_refl _, by unfold maxLen; omega, ?_, (fun e => by cases e), fun _ => ⟨_, rfl, trivial, hg.lt, fun j u hu => ?_⟩⟩, ?_⟩
  · simp [ShCV, K.len]
  · rw [Addr.add_mid, hg.cell, Nat.zero_add, ← Array.getElem?_toList, hcs, ← hu]
    simp [ShCV]
  · refine ⟨rfl, fun i e b h1 h2 => ?_⟩
    have hi : i = 0 := by have := (List.getElem?_eq_some_iff.1 h1).1; simpa using this
    subst hi
    simp at h1 h2
    subst h1 h2
    exact hd
theorem OwnS.empty {g : Nat} (hg : Blk w g T #[]) (hB : B ≤ g) (hF : ¬ F g) : OwnS K T F w B (.slice (some ⟨g, 0, none⟩) 0 0) [] :=
  ⟨⟨[], ⟨by simp [ShCV], .inr ⟨g, 0, #[], rfl, hB, hg, Nat.le_refl _, by unfold maxLen; omega, by simp, by simp [ShCV]⟩⟩, VssV.nil_⟩, fun k hk hf => by
    have e : g = k := by simpa [Value.ownBlock] using hk
    exact hF (by rw [e]; exact hf)⟩
end
/-- A call of a Go function, as one step of a region that draws its order ('go_region_law'). -/
theorem step_enterV {P : Program} {ops : Array Oper} {o : Oper} {a : Act} {w : World} {Kk : Act → World → Prop} {Q : Exit → Act → World → Prop} {E : Prop} (hgd : o.guard = none) (f : FuncId) (vs : Array Value) {R : Ending → World → Prop} (hrun : (execOp a.eval o).run P w = .ok (.enter f vs) w)
    (hc : Calls P f vs w R) (hR : ∀ e w', R e w' → ∃ v, e = .returned v ∧ Kk (a.put o.dst v) w') : if Region.wanted o (yielded ops a.tmps) = true then Oper.wp P o a w Kk Q else E := by
  have hw : Region.wanted o (yielded ops a.tmps) = true := by simp [Region.wanted, hgd]
  rw [if_pos hw]
  unfold Oper.wp
  rw [hrun, Oper.upon_enter]
  refine hc.mono ?_
  intro e w' h
  obtain ⟨v, rfl, hk⟩ := hR e w' h
  exact hk
/-- What the program says of the element's type and the slice's. -/
structure TypedV (P : Program) (K : ShapeV) (T S : TypeId) (z : Value) (bytes : Nat) : Prop where
  info : (P.info? T).map (fun i => (i.zero, i.size, i.bytes)) = some (some z, K.m, bytes)
  under : P.underlying S = some (.slice T)
  cells : z.cells.size = K.m
  small : bytes ≤ 256
section
variable {P : Program} {K : ShapeV} {T S : TypeId} {z : Value} {bytes : Nat} (D : TypedV P K T S z bytes)
include D
theorem step_appendV {ops : Array Oper} {o : Oper} {a : Act} {Kk : Act → World → Prop} {Q : Exit → Act → World → Prop} {E : Prop} (hgd : o.guard = none) (s x : Operand)
    (ho : o.op = .call { callee := .builtin .append, args := #[s, x], argTypes := #[S, S] }) {F : Nat → Prop} {w : World} {B : Nat} {v : Value} {l : List K.α} {ex : Value} {l2 : List K.α} (hown : OwnS K T F w B v l) (hr : TmpV K F w ex l2) (hs : a.eval s = v) (hx : a.eval x = ex)
    (hsmall : l.length + l2.length ≤ 2000000) (hB : B ≤ w.heap.size) (hF : ∀ k, F k → k < w.heap.size)
    (h : ∀ v' w', OwnS K T F w' B v' (l ++ l2) → w.grownBy w' v.ownBlock → (v'.ownBlock = v.ownBlock ∨ v'.ownBlock = some w.heap.size) → Kk (a.put o.dst v') w') : if Region.wanted o (yielded ops a.tmps) = true then Oper.wp P o a w Kk Q else E := by
  obtain ⟨i0, hi, hz0, hz1, hz2⟩ := info_parts D.info
  obtain ⟨⟨ds, hown', hds⟩, hne⟩ := hown
  obtain ⟨es, hrd, hes⟩ := hr
  obtain ⟨A, c, rfl, h1, h2, hrr⟩ := hrd.reads
  have hsm := D.small
  refine step_append_any w hgd s x S ho B T i0 z K.m bytes D.under hi hz0 hz1 hz2 D.cells K.pos v l.length _ hs hown' w.heap.size A l2.length c _ hx hrr (ShCV_one hes.one) (by unfold maxLen; omega) (Nat.le_trans (Nat.mul_le_mul hsmall hsm) (by decide)) hB ?_
  intro v' w' g1 g2 g3
  have ho : Only (fun k => v.ownBlock = some k) w w' := ⟨g2.os, g2.tape, g2.output, g2.size, fun k hk hn => g2.block k hk (fun e => hn e.symm)⟩
  refine h v' w' ⟨⟨ds ++ es, ?_, ?_⟩, fun k hk => ?_⟩ g2 g3
  · rw [List.length_append, ShCV_app (by rw [hds.1]; simp)]
    exact g1
  · rw [List.map_append]
    exact (hds.only ho (fun k hk he => hne k he hk)).app (hes.only ho (fun k hk he => hne k he hk))
  · rcases g3 with g3 | g3
    · exact hne k (by rw [← g3]; exact hk)
    · rw [g3] at hk
      injection hk with hk
      intro hf
      have := hF k hf
      omega
theorem list_appendV {ops : Array Oper} {rest : List Oper} {o : Oper} {a : Act} {Q : Exit → Act → World → Prop} (hgd : o.guard = none) (s x : Operand)
    (ho : o.op = .call { callee := .builtin .append, args := #[s, x], argTypes := #[S, S] }) {F : Nat → Prop} {w : World} {B : Nat} {v : Value} {l : List K.α} {ex : Value} {l2 : List K.α} (hown : OwnS K T F w B v l) (hr : TmpV K F w ex l2) (hs : a.eval s = v) (hx : a.eval x = ex)
    (hsmall : l.length + l2.length ≤ 2000000) (hB : B ≤ w.heap.size) (hF : ∀ k, F k → k < w.heap.size)
    (h : ∀ v' w', OwnS K T F w' B v' (l ++ l2) → w.grownBy w' v.ownBlock → (v'.ownBlock = v.ownBlock ∨ v'.ownBlock = some w.heap.size) → wpList P ops Q rest (a.put o.dst v') w') : wpList P ops Q (o :: rest) a w := by
  obtain ⟨i0, hi, hz0, hz1, hz2⟩ := info_parts D.info
  obtain ⟨⟨ds, hown', hds⟩, hne⟩ := hown
  obtain ⟨es, hrd, hes⟩ := hr
  obtain ⟨A, c, rfl, h1, h2, hrr⟩ := hrd.reads
  have hsm := D.small
  refine wpList_append_any w hgd s x S ho B T i0 z K.m bytes D.under hi hz0 hz1 hz2 D.cells K.pos v l.length _ hs hown' w.heap.size A l2.length c _ hx hrr (ShCV_one hes.one) (by unfold maxLen; omega) (Nat.le_trans (Nat.mul_le_mul hsmall hsm) (by decide)) hB ?_
  intro v' w' g1 g2 g3
  have ho : Only (fun k => v.ownBlock = some k) w w' := ⟨g2.os, g2.tape, g2.output, g2.size, fun k hk hn => g2.block k hk (fun e => hn e.symm)⟩
  refine h v' w' ⟨⟨ds ++ es, ?_, ?_⟩, fun k hk => ?_⟩ g2 g3
  · rw [List.length_append, ShCV_app (by rw [hds.1]; simp)]
    exact g1
  · rw [List.map_append]
    exact (hds.only ho (fun k hk he => hne k he hk)).app (hes.only ho (fun k hk he => hne k he hk))
  · rcases g3 with g3 | g3
    · exact hne k (by rw [← g3]; exact hk)
    · rw [g3] at hk
      injection hk with hk
      intro hf
      have := hF k hf
      omega
end
end Go.Proofs.Ytecpedecgcaeoaa.Tx
