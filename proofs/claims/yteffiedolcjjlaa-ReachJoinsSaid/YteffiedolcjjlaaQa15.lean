/- Texts put together: YFv1, YMp0, YRc0. -/
import Derived.Test.YteffiedolcjjlaaQa03
import Derived.Test.YteffiedolcjjlaaQa14
import Derived.Maps.OwnSet
import Derived.Maps.OwnOps
import Derived.Maps.StringElems
import Derived.Sort.KeysCollected
/- Slices of structs, each with one slice of one-cell values in it (or none): to be read, of one's own, appended to. (No package's code in it; printed by mk_fv1.py.) -/
set_option linter.unusedVariables false
set_option linter.unusedSimpArgs false
namespace Go.Proofs.Yteffiedolcjjlaa.Tx
open Go.RowKit Go.Proofs.Yteffiedolcjjlaa.Sh

def VsV (F : Nat → Prop) (w : World) (v : Value) (bs : List Value) : Prop := Rd F w 1 v bs.length bs
def VssV (F : Nat → Prop) (w : World) (ds : List Value) (bss : List (List Value)) : Prop := ds.length = bss.length ∧ ∀ (i : Nat) (d : Value) (bs : List Value), ds[i]? = some d → bss[i]? = some bs → VsV F w d bs
theorem flatV_at {α : Type} {m : Nat} : ∀ {l : List (List α)}, (∀ x ∈ l, x.length = m) → ∀ (k : Nat) (x : List α), l[k]? = some x → ∀ (j : Nat) (u : α), x[j]? = some u → l.flatten[k * m + j]? = some u
  | [], _, k, x, h, _, _, _ => by simp at h
  | y :: r, hl, 0, x, h, j, u, hu => by
    simp at h
    subst h
    rw [List.flatten_cons, Nat.zero_mul, Nat.zero_add, List.getElem?_append_left (List.getElem?_eq_some_iff.1 hu).1]
    exact hu
  | y :: r, hl, k + 1, x, h, j, u, hu => by
    have hy : y.length = m := hl y List.mem_cons_self
    rw [List.getElem?_cons_succ] at h
    rw [List.flatten_cons, List.getElem?_append_right (by rw [hy, Nat.add_mul]; omega), hy, show (k + 1) * m + j - m = k * m + j from by rw [Nat.add_mul]; omega]
    exact flatV_at (fun z hz => hl z (List.mem_cons_of_mem _ hz)) k x h j u hu
theorem zipV_at {α β γ : Type} {f : α → β → γ} {l : List α} {m : List β} {k : Nat} {a : α} {b : β} (h1 : l[k]? = some a) (h2 : m[k]? = some b) : (List.zipWith f l m)[k]? = some (f a b) := by
  rw [List.getElem?_zipWith, h1, h2]
theorem VsV.slice {F : Nat → Prop} {w : World} {v : Value} {bs : List Value} (h : VsV F w v bs) : ∃ A c, v = .slice A bs.length c ∧ bs.length ≤ c ∧ c ≤ maxLen := by
  obtain ⟨A, c, h1, h2, h3, _⟩ := h
  exact ⟨A, c, h1, h2, h3⟩
theorem VsV.one {F : Nat → Prop} {w : World} {v : Value} {bs : List Value} (h : VsV F w v bs) : v.oneCell' = true := by
  obtain ⟨A, c, rfl, _⟩ := h
  rfl
theorem VsV.only {F M : Nat → Prop} {w w' : World} {v : Value} {bs : List Value} (h : VsV F w v bs) (ho : Only M w w') (hd : ∀ k, F k → ¬ M k) : VsV F w' v bs := Rd.only h ho hd
theorem VsV.mono {F F' : Nat → Prop} {w : World} {v : Value} {bs : List Value} (h : VsV F w v bs) (hF : ∀ k, k < w.heap.size → F k → F' k) : VsV F' w v bs := Rd.mono h hF
theorem VssV.only {F M : Nat → Prop} {w w' : World} {ds : List Value} {bss : List (List Value)} (h : VssV F w ds bss) (ho : Only M w w') (hd : ∀ k, F k → ¬ M k) : VssV F w' ds bss :=
  ⟨h.1, fun i d bs h1 h2 => (h.2 i d bs h1 h2).only ho hd⟩
theorem VssV.mono {F F' : Nat → Prop} {w : World} {ds : List Value} {bss : List (List Value)} (h : VssV F w ds bss) (hF : ∀ k, k < w.heap.size → F k → F' k) : VssV F' w ds bss :=
  ⟨h.1, fun i d bs h1 h2 => (h.2 i d bs h1 h2).mono hF⟩
theorem VssV.one {F : Nat → Prop} {w : World} {ds : List Value} {bss : List (List Value)} (h : VssV F w ds bss) : ∀ d ∈ ds, d.oneCell' = true := by
  intro d hd
  obtain ⟨i, hi, rfl⟩ := List.getElem_of_mem hd
  exact (h.2 i _ _ (List.getElem?_eq_getElem hi) (List.getElem?_eq_getElem (by rw [← h.1]; exact hi))).one
theorem VssV.nil_ {F : Nat → Prop} {w : World} : VssV F w [] [] := ⟨rfl, fun i d bs h => by simp at h⟩
theorem VssV.app {F : Nat → Prop} {w : World} {ds es : List Value} {bss css : List (List Value)} (h : VssV F w ds bss) (h2 : VssV F w es css) : VssV F w (ds ++ es) (bss ++ css) := by
  refine ⟨by simp [h.1, h2.1], fun i e b h3 h4 => ?_⟩
  by_cases hi : i < ds.length
  · rw [List.getElem?_append_left hi] at h3
    rw [List.getElem?_append_left (by rw [← h.1]; exact hi)] at h4
    exact h.2 i e b h3 h4
  · rw [List.getElem?_append_right (by omega)] at h3
    rw [List.getElem?_append_right (by rw [← h.1]; omega), ← h.1] at h4
    exact h2.2 _ e b h3 h4
theorem VssV.at_ {F : Nat → Prop} {w : World} {ds : List Value} {bss : List (List Value)} (h : VssV F w ds bss) {i : Nat} {bs : List Value} (hi : bss[i]? = some bs) : ∃ d, ds[i]? = some d ∧ VsV F w d bs := by
  have hl : i < ds.length := by rw [h.1]; exact (List.getElem?_eq_some_iff.1 hi).1
  exact ⟨ds[i], List.getElem?_eq_getElem hl, h.2 i _ _ (List.getElem?_eq_getElem hl) hi⟩
/-- How an element lies in memory; d: its bytes, as a value. -/
structure ShapeV where
  α : Type
  cells : α → Value → List Value
  vals : α → List Value
  m : Nat
  pos : 0 < m
  len : ∀ a d, (cells a d).length = m
  one : ∀ a d, d.oneCell' = true → ∀ u ∈ cells a d, u.oneCell' = true
section
variable (K : ShapeV)
def ShCV (l : List K.α) (ds : List Value) : List Value := (List.zipWith K.cells l ds).flatten
def InV (F : Nat → Prop) (w : World) (v : Value) (l : List K.α) : Prop := ∃ ds, Rd F w K.m v l.length (ShCV K l ds) ∧ VssV F w ds (l.map K.vals)
def TmpV (F : Nat → Prop) (w : World) (v : Value) (l : List K.α) : Prop := ∃ ds, Rd (fun _ => True) w K.m v l.length (ShCV K l ds) ∧ VssV F w ds (l.map K.vals)
def OwnS (T : TypeId) (F : Nat → Prop) (w : World) (B : Nat) (v : Value) (l : List K.α) : Prop := (∃ ds, w.ownsRow B T K.m v l.length (ShCV K l ds) ∧ VssV F w ds (l.map K.vals)) ∧ ∀ k, v.ownBlock = some k → ¬ F k
end
section
variable {K : ShapeV} {F F' M : Nat → Prop} {w w' : World} {v : Value} {l : List K.α} {T : TypeId} {B : Nat} {ds es : List Value}
theorem ShCV_at {k : Nat} {a : K.α} {d : Value} (h1 : l[k]? = some a) (h2 : ds[k]? = some d) (j : Nat) (u : Value) (hu : (K.cells a d)[j]? = some u) : (ShCV K l ds)[k * K.m + j]? = some u := by
  refine flatV_at (m := K.m) (fun x hx => ?_) k _ (zipV_at h1 h2) j u hu
  obtain ⟨i, hi, e⟩ := List.getElem_of_mem hx
  rw [List.getElem_zipWith] at e
  rw [← e]
  exact K.len _ _
theorem InV.only (h : InV K F w v l) (ho : Only M w w') (hd : ∀ k, F k → ¬ M k) : InV K F w' v l := by
  obtain ⟨ds, h1, h2⟩ := h
  exact ⟨ds, h1.only ho hd, h2.only ho hd⟩
theorem InV.mono (h : InV K F w v l) (hF : ∀ k, k < w.heap.size → F k → F' k) : InV K F' w v l := by
  obtain ⟨ds, h1, h2⟩ := h
  exact ⟨ds, h1.mono hF, h2.mono hF⟩
theorem InV.below (h : InV K F w v l) (hb : Below w.heap.size w w') : InV K F w' v l := h.only (Only.of_below (M := fun _ => False) hb) (fun _ _ => id)
theorem InV.nil_ (K : ShapeV) (F : Nat → Prop) (w : World) : InV K F w (.slice none 0 0) [] := ⟨[], Rd.nil_ F w K.m, VssV.nil_⟩
theorem InV.tmp (h : InV K F w v l) : TmpV K F w v l := by
  obtain ⟨ds, h1, h2⟩ := h
  exact ⟨ds, h1.mono (fun _ _ _ => trivial), h2⟩
theorem TmpV.slice (h : TmpV K F w v l) : ∃ A c, v = .slice A l.length c ∧ l.length ≤ c ∧ c ≤ maxLen := by
  obtain ⟨ds, ⟨A, c, h1, h2, h3, _⟩, _⟩ := h
  exact ⟨A, c, h1, h2, h3⟩
theorem TmpV.below (h : TmpV K F w v l) (hb : Below w.heap.size w w') : TmpV K F w' v l := by
  obtain ⟨ds, h1, h2⟩ := h
  exact ⟨ds, h1.below hb, h2.only (Only.of_below (M := fun _ => False) hb) (fun _ _ => id)⟩
theorem TmpV.drew (h : TmpV K F w v l) : TmpV K F w.drew v l := h
theorem OwnS.drew (h : OwnS K T F w B v l) : OwnS K T F w.drew B v l := h
theorem OwnS.tmp (h : OwnS K T F w B v l) : TmpV K F w v l := by
  obtain ⟨⟨ds, h1, h2⟩, _⟩ := h
  exact ⟨ds, Rd.of_own h1 (fun _ _ => trivial), h2⟩
/-- An element's cells. -/
theorem TmpV.at_ {A : Option Addr} {n c : Nat} (h : TmpV K F w (.slice A n c) l) (k : Nat) (a : K.α) (hk : l[k]? = some a) :
    ∃ (ad : Addr) (d : Value), A = some ad ∧ VsV F w d (K.vals a) ∧ ∀ j u, (K.cells a d)[j]? = some u → w.cell? (ad.add (k * K.m + j)) = some u := by
  obtain ⟨ds, ⟨A', c', hv, _, _, _, _, h5⟩, hd⟩ := h
  injection hv with e1 e2 e3
  subst e1
  have hkl := (List.getElem?_eq_some_iff.1 hk).1
  obtain ⟨ad, hA, _, _, hc⟩ := h5 (by omega)
  obtain ⟨d, hdk, hby⟩ := hd.at_ (i := k) (bs := K.vals a) (by rw [List.getElem?_map, hk]; rfl)
  exact ⟨ad, d, hA, hby, fun j u hu => hc _ _ (ShCV_at hk hdk j u hu)⟩
theorem OwnS.nil_ (K : ShapeV) (T : TypeId) (F : Nat → Prop) (w : World) (B : Nat) : OwnS K T F w B (.slice none 0 0) [] := ⟨⟨[], World.ownsRow_nil w B _ _, VssV.nil_⟩, fun k h => by cases h⟩
theorem OwnS.base {B' : Nat} (h : OwnS K T F w B v l) (hB : B' ≤ B) : OwnS K T F w B' v l := by
  obtain ⟨⟨ds, h1, h2⟩, h3⟩ := h
  obtain ⟨g1, g2⟩ := h1
  exact ⟨⟨ds, ⟨g1, g2.imp id fun ⟨g, cap, cur, a1, a2, a3⟩ => ⟨g, cap, cur, a1, by omega, a3⟩⟩, h2⟩, h3⟩
theorem OwnS.only (h : OwnS K T F w B v l) (ho : Only M w w') (hd : ∀ k, F k → ¬ M k) (hv : ∀ k, v.ownBlock = some k → ¬ M k) : OwnS K T F w' B v l := by
  obtain ⟨⟨ds, h1, h2⟩, h3⟩ := h
  refine ⟨⟨ds, ?_, h2.only ho hd⟩, h3⟩
  refine ⟨h1.1, h1.2.imp id fun ⟨g, cap, cur, a1, a2, a3, a4⟩ => ⟨g, cap, cur, a1, a2, ?_, a4⟩⟩
  subst a1
  have hlt : g < w.heap.size := (Array.getElem?_eq_some_iff.1 a3).1
  rw [ho.block g hlt (hv g rfl)]
  exact a3
theorem OwnS.mono (h : OwnS K T F w B v l) (hF : ∀ k, k < w.heap.size → F k → F' k) (hn : ∀ k, v.ownBlock = some k → ¬ F' k) : OwnS K T F' w B v l := by
  obtain ⟨⟨ds, h1, h2⟩, _⟩ := h
  exact ⟨⟨ds, h1, h2.mono hF⟩, hn⟩
theorem OwnS.lt (h : OwnS K T F w B v l) (k : Nat) (hk : v.ownBlock = some k) : B ≤ k ∧ k < w.heap.size := by
  obtain ⟨⟨ds, h1, _⟩, _⟩ := h
  exact h1.lt k hk
theorem OwnS.alloc (h : OwnS K T F w B v l) (o : Obj) : OwnS K T F (w.alloc o) B v l := h.only ((Only.refl (fun _ => False) w).alloc o) (fun _ _ => id) (fun _ _ => id)
theorem TmpV.alloc (h : TmpV K F w v l) (o : Obj) : TmpV K F (w.alloc o) v l := h.below ((Below.refl _ _).alloc (Nat.le_refl _) o)
theorem TmpV.one {g : Nat} {a : K.α} {d : Value} {cs : Array Value} (hg : Blk w g T cs) (hcs : cs.toList = K.cells a d) (hd : VsV F w d (K.vals a)) : TmpV K F w (.slice (some ⟨g, 0, none⟩) 1 1) [a] := by
  refine ⟨[d], ⟨some ⟨g, 0, none⟩, 1, rfl, Nat.le_refl _, by unfold maxLen; omega, ?_, (fun e => by cases e), fun _ => ⟨_, rfl, trivial, hg.lt, fun j u hu => ?_⟩⟩, ?_⟩
  · simp [ShCV, K.len]
  · rw [Addr.add_mid, hg.cell, Nat.zero_add, ← Array.getElem?_toList, hcs, ← hu]
    simp [ShCV]
  · refine ⟨rfl, fun i e b h1 h2 => ?_⟩
    have hi : i = 0 := by have := (List.getElem?_eq_some_iff.1 h1).1; simpa using this
    subst hi
    simp at h1 h2
    subst h1 h2
    exact hd
theorem OwnS.empty {g : Nat} (hg : Blk w g T #[]) (hB : B ≤ g) (hF : ¬ F g) : OwnS K T F w B (.slice (some ⟨g, 0, none⟩) 0 0) [] :=
  ⟨⟨[], ⟨by simp [ShCV], .inr ⟨g, 0, #[], rfl, hB, hg, Nat.le_refl _, by unfold maxLen; omega, by simp, by simp [ShCV]⟩⟩, VssV.nil_⟩, fun k hk hf => by
    have e : g = k := by simpa [Value.ownBlock] using hk
    exact hF (by rw [e]; exact hf)⟩
end
/-- What the program says of the element's type and the slice's. -/
structure TypedV (P : Program) (K : ShapeV) (T S : TypeId) (z : Value) (bytes : Nat) : Prop where
  info : (P.info? T).map (fun i => (i.zero, i.size, i.bytes)) = some (some z, K.m, bytes)
  under : P.underlying S = some (.slice T)
  cells : z.cells.size = K.m
  small : bytes ≤ 256
section
variable {P : Program} {K : ShapeV} {T S : TypeId} {z : Value} {bytes : Nat} (D : TypedV P K T S z bytes)
include D
end
end Go.Proofs.Yteffiedolcjjlaa.Tx
/- Maps of texts to numbers, of one's own. (No package's code in it.) -/
set_option linter.unusedVariables false
set_option linter.unusedSimpArgs false
namespace Go.Proofs.Yteffiedolcjjlaa.Tx
open Go.RowKit Go.Maps Go.Proofs.Yteffiedolcjjlaa.Sh

theorem lawS : Keyed Try.prog 9 := string_keyed Try.underlying9
theorem isK (p : List UInt8) : WideAt.IsKeyLit (.string p) := trivial
theorem key_ba (s : ByteArray) (hp : s.size ≤ 1000000) : keyOf Try.prog 9 (.string s) = some (.string s.toList) := by
  have := Go.WideMaps.keyOf_string_mk (P := Try.prog) (s := s) Try.underlying9 (by unfold maxLen; omega)
  rw [this, ByteArray.toList_eq]
section
variable {H : Type} {P : Program} {k : TypeId} {R : Value → Option (DataW H × List MemPlace)} {w w' : World} {b n : Nat} {D : DataW H}
theorem own_exact (h : w.ownsMap P k R b n D) : w.ownsMap P k R b (Maps.size D) D := by
  obtain ⟨es, clock, hb, F, hs, hD⟩ := h
  refine ⟨es, clock, hb, F, ?_, hD⟩
  rw [hD, Maps.size_eq, length_sorted]
  simp
theorem own_only {M : Nat → Prop} (h : w.ownsMap P k R b n D) (ho : Only M w w') (hn : ¬ M b) : w'.ownsMap P k R b n D := by
  have hlt := h.lt
  obtain ⟨es, clock, hb, F, hs, hD⟩ := h
  exact ⟨es, clock, (ho.block b hlt hn).trans hb, F, hs, hD⟩
/-- A block of cells is no map. -/
theorem own_cells {g : Nat} {T : TypeId} {cs : Array Value} (h : w.ownsMap P k R b n D) (hg : Blk w g T cs) : b ≠ g := by
  rintro rfl
  obtain ⟨es, clock, hb, _⟩ := h
  unfold Blk at hg
  rw [hb] at hg
  cases hg
end
theorem own_keys {H : Type} {R : Value → Option (DataW H × List MemPlace)} {w : World} {b n : Nat} {D : DataW H} (h : w.ownsMap Try.prog 9 R b n D) :
    ∃ es, D = .map es ∧ es.Pairwise (fun p q => p.1 ≠ q.1) ∧ ∀ e ∈ es, ∃ x, e.1 = .string x := by
  obtain ⟨es, rfl, hp⟩ := h.tidy lawS
  obtain ⟨es', he, hk⟩ := h.keysOf
  cases he
  refine ⟨es, rfl, hp, fun e he => ?_⟩
  obtain ⟨v, hv⟩ := hk e he
  obtain ⟨x, _, hx, _⟩ := Maps.keyOf_str Try.underlying9 hv
  exact ⟨x, hx⟩
theorem own_isMap {H : Type} {R : Value → Option (DataW H × List MemPlace)} {w : World} {b n : Nat} {D : DataW H} (h : w.ownsMap Try.prog 9 R b n D) : Maps.IsMap D := by
  obtain ⟨es, rfl, _, _⟩ := own_keys h
  exact ⟨es, rfl⟩
theorem within_ {α : Type} [DecidableEq α] : ∀ {l ds : List α}, l.Nodup → (∀ x ∈ l, x ∈ ds) → l.length ≤ ds.length
  | [], ds, _, _ => Nat.zero_le _
  | x :: l, ds, hn, hs => by
    have hx : x ∈ ds := hs x List.mem_cons_self
    have hn' := List.nodup_cons.1 hn
    have := within_ (ds := ds.erase x) hn'.2 fun y hy => (List.mem_erase_of_ne (fun e => hn'.1 (by rw [← e]; exact hy))).2 (hs y (List.mem_cons_of_mem _ hy))
    have hl := List.length_erase_of_mem hx
    have h0 : 0 < ds.length := List.length_pos_of_mem hx
    rw [List.length_cons]
    omega
def strOf' : Lit → List UInt8
  | .string x => x
  | _ => []
theorem own_within {H : Type} {R : Value → Option (DataW H × List MemPlace)} {w : World} {b n : Nat} {D : DataW H} (h : w.ownsMap Try.prog 9 R b n D) {ds : List (List UInt8)} (hm : ∀ x, Maps.has D (.string x) = true → x ∈ ds) : Maps.size D ≤ ds.length := by
  obtain ⟨es, rfl, hp, hk⟩ := own_keys h
  rw [Maps.size_eq]
  have hl : (es.map fun p => strOf' p.1).length = es.length := List.length_map _
  rw [← hl]
  refine within_ (List.pairwise_map.2 (hp.imp_of_mem ?_)) (fun x hx => ?_)
  · intro p q hp' hq' hne e
    refine hne ?_
    obtain ⟨a, ha⟩ := hk p hp'
    obtain ⟨c, hc⟩ := hk q hq'
    rw [ha, hc] at e ⊢
    exact congrArg _ e
  · obtain ⟨p, hp', rfl⟩ := List.mem_map.1 hx
    obtain ⟨a, ha⟩ := hk p hp'
    refine hm _ (List.any_eq_true.2 ⟨p, hp', ?_⟩)
    rw [ha]
    exact beq_self_eq_true a
end Go.Proofs.Yteffiedolcjjlaa.Tx
/- Closures, plainly: who is reached from whom, by names; a list of work. (No package's code in it.) -/
set_option linter.unusedVariables false
set_option linter.unusedSimpArgs false
namespace Go.Proofs.Yteffiedolcjjlaa.Tx

/-- s is one of fr, or is named (and so on) by one of them. -/
inductive RB (nx : ByteArray → List ByteArray) (fr : List ByteArray) : ByteArray → Prop where
  | here {s : ByteArray} : s ∈ fr → RB nx fr s
  | step {s t : ByteArray} : RB nx fr s → t ∈ nx s → RB nx fr t
section
variable {nx nx' : ByteArray → List ByteArray} {fr f2 : List ByteArray} {s t : ByteArray}
theorem RB.trans (h : RB nx fr s) (hf : ∀ f ∈ fr, RB nx f2 f) : RB nx f2 s := by
  induction h with
  | here h => exact hf _ h
  | step _ h2 ih => exact ih.step h2
theorem RB.mono (h : RB nx fr s) (hf : ∀ f ∈ fr, f ∈ f2) : RB nx f2 s := h.trans fun f hx => .here (hf f hx)
theorem RB.app : RB nx (fr ++ f2) s ↔ RB nx fr s ∨ RB nx f2 s := by
  constructor
  · intro h
    induction h with
    | here h => exact (List.mem_append.1 h).imp .here .here
    | step _ h2 ih => exact ih.imp (·.step h2) (·.step h2)
  · rintro (h | h)
    · exact h.mono fun f hf => List.mem_append_left _ hf
    · exact h.mono fun f hf => List.mem_append_right _ hf
/-- What holds of the first ones, and of what is named by one of whom it holds, holds of all that is reached. -/
theorem RB.all {P : ByteArray → Prop} (h : RB nx fr s) (h0 : ∀ f ∈ fr, P f) (h1 : ∀ a, P a → ∀ b ∈ nx a, P b) : P s := by
  induction h with
  | here h => exact h0 _ h
  | step _ h2 ih => exact h1 _ ih _ h2
end

/-- One text more, if it is not met yet. -/
def add1 (acc : List ByteArray) (x : ByteArray) : List ByteArray := if hasT acc x then acc else acc ++ [x]
def addW (acc xs : List ByteArray) : List ByteArray := xs.foldl add1 acc
section
variable {acc xs : List ByteArray} {x y : ByteArray}
theorem addW_snoc (acc xs : List ByteArray) (x : ByteArray) : addW acc (xs ++ [x]) = add1 (addW acc xs) x := by unfold addW; rw [List.foldl_append]; rfl
theorem addW_take {k : Nat} (hk : k < xs.length) : addW acc (xs.take (k + 1)) = add1 (addW acc (xs.take k)) xs[k] := by
  rw [List.take_succ_eq_append_getElem hk, addW_snoc]
theorem add1_old (h : hasT acc x = true) : add1 acc x = acc := if_pos h
theorem add1_new (h : hasT acc x = false) : add1 acc x = acc ++ [x] := if_neg (by rw [h]; decide)
theorem mem_add1 : y ∈ add1 acc x ↔ y ∈ acc ∨ y = x := by
  cases h : hasT acc x with
  | true =>
    rw [add1_old h]
    exact ⟨.inl, fun h' => h'.elim id fun e => by rw [e]; exact hasT_iff.1 h⟩
  | false => rw [add1_new h, List.mem_append, List.mem_singleton]
theorem add1_nodup (h : acc.Nodup) : (add1 acc x).Nodup := by
  cases hx : hasT acc x with
  | true => rw [add1_old hx]; exact h
  | false =>
    rw [add1_new hx, List.nodup_append]
    refine ⟨h, List.pairwise_singleton _ _, fun a ha b hb e => ?_⟩
    rw [List.mem_singleton] at hb
    subst hb e
    rw [hasT_yes ha] at hx
    cases hx
theorem add1_len : (add1 acc x).length ≤ acc.length + 1 := by
  unfold add1
  split
  · omega
  · rw [List.length_append]; exact Nat.le_refl _
theorem add1_pre : acc <+: add1 acc x := by
  unfold add1
  split
  · exact List.prefix_refl _
  · exact List.prefix_append _ _
theorem addW_ind {P : List ByteArray → Prop} (h0 : P acc) (h1 : ∀ l, P l → ∀ x ∈ xs, P (add1 l x)) : P (addW acc xs) := by
  induction xs generalizing acc with
  | nil => exact h0
  | cons x xs ih => exact ih (h1 _ h0 x List.mem_cons_self) (fun l hl y hy => h1 l hl y (List.mem_cons_of_mem _ hy))
theorem mem_addW (y : ByteArray) : y ∈ addW acc xs ↔ y ∈ acc ∨ y ∈ xs := by
  induction xs generalizing acc with
  | nil => simp [addW]
  | cons x xs ih =>
    show y ∈ addW (add1 acc x) xs ↔ _
    rw [ih, mem_add1, List.mem_cons]
    exact ⟨fun h => h.elim (fun h => h.elim .inl fun e => .inr (.inl e)) fun h => .inr (.inr h), fun h => h.elim (fun h => .inl (.inl h)) fun h => h.elim (fun e => .inl (.inr e)) .inr⟩
theorem addW_nodup (h : acc.Nodup) : (addW acc xs).Nodup := addW_ind (P := List.Nodup) h fun l hl x _ => add1_nodup hl
theorem addW_pre : acc <+: addW acc xs := addW_ind (P := fun l => acc <+: l) (List.prefix_refl _) fun l hl x _ => hl.trans add1_pre
theorem addW_len : (addW acc xs).length ≤ acc.length + xs.length := by
  induction xs generalizing acc with
  | nil => exact Nat.le_refl _
  | cons x xs ih =>
    have h1 := ih (acc := add1 acc x)
    have h2 := add1_len (acc := acc) (x := x)
    show (addW (add1 acc x) xs).length ≤ _
    rw [List.length_cons]
    omega
end

/-- The list of work: of the first k all that they name stands in it. -/
structure WK (nx : ByteArray → List ByteArray) (fr xs : List ByteArray) (k : Nat) : Prop where
  nodup : xs.Nodup
  frm : ∀ f ∈ fr, f ∈ xs
  rb : ∀ s ∈ xs, RB nx fr s
  le : k ≤ xs.length
  cl : ∀ j s, j < k → xs[j]? = some s → ∀ t ∈ nx s, t ∈ xs
section
variable {nx : ByteArray → List ByteArray} {fr xs : List ByteArray} {k : Nat} {s : ByteArray}
theorem WK.start : WK nx fr (addW [] fr) 0 := ⟨addW_nodup List.Pairwise.nil, fun f hf => (mem_addW f).2 (.inr hf), fun s hs => ((mem_addW s).1 hs).elim (fun h => by cases h) .here, Nat.zero_le _, fun j s hj => absurd hj (Nat.not_lt_zero _)⟩
theorem WK.next (h : WK nx fr xs k) (hk : xs[k]? = some s) : WK nx fr (addW xs (nx s)) (k + 1) := by
  have hl := (List.getElem?_eq_some_iff.1 hk).1
  have hp : xs <+: addW xs (nx s) := addW_pre
  refine ⟨addW_nodup h.nodup, fun f hf => (mem_addW f).2 (.inl (h.frm f hf)), fun t ht => ?_, Nat.le_trans hl hp.length_le, fun j t hj ht u hu => ?_⟩
  · rcases (mem_addW t).1 ht with h1 | h1
    · exact h.rb t h1
    · exact (h.rb s (List.mem_of_getElem? hk)).step h1
  · have ht' : xs[j]? = some t := by
      obtain ⟨r, hr⟩ := hp
      rw [← hr, List.getElem?_append_left (by omega)] at ht
      exact ht
    rcases Nat.lt_or_ge j k with hjk | hjk
    · exact (mem_addW u).2 (.inl (h.cl j t hjk ht' u hu))
    · have : j = k := by omega
      subst this
      rw [hk] at ht'
      injection ht' with ht'
      subst ht'
      exact (mem_addW u).2 (.inr hu)
/-- All worked through: just what is reached. -/
theorem WK.done (h : WK nx fr xs xs.length) : s ∈ xs ↔ RB nx fr s := by
  refine ⟨h.rb s, fun hs => ?_⟩
  refine hs.all h.frm fun a ha b hb => ?_
  obtain ⟨j, hj, rfl⟩ := List.getElem_of_mem ha
  exact h.cl j _ hj (List.getElem?_eq_getElem hj) b hb
/-- Where all that is reached stands in one list, there are no more than stand there. -/
theorem WK.within (h : WK nx fr xs k) {S : List ByteArray} (hS : ∀ s, RB nx fr s → s ∈ S) : xs.length ≤ S.length := within_ h.nodup fun s hs => hS s (h.rb s hs)
end
/-- Lists without doubles, of which one has all of the other's. -/
theorem nodup_len {a b : List ByteArray} (ha : a.Nodup) (h : ∀ x ∈ a, x ∈ b) : a.length ≤ b.length := within_ ha h
theorem strict_nd {l : List ByteArray} (h : Strict l) : l.Nodup := h.imp fun {a b} hab e => by rw [e, bl_irr] at hab; cases hab
theorem sort_strict' {l : List ByteArray} (h : l.Nodup) : Strict (sortT l) := by
  have h1 := sortT_sorted l
  have h2 : (sortT l).Nodup := (sortT_perm l).nodup_iff.2 h
  refine (List.Pairwise.and h1 h2).imp ?_
  rintro a b ⟨hab, hne⟩
  rcases tle_cases hab with h3 | h3
  · exact h3
  · exact absurd h3 hne
theorem mem_sort (x : ByteArray) (l : List ByteArray) : x ∈ sortT l ↔ x ∈ l := (sortT_perm l).mem_iff
end Go.Proofs.Yteffiedolcjjlaa.Tx
