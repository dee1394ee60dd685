/- Texts put together: UFx0, UFx1, UFx2, UFx3, UFx4, UFr1, UFm1, UFx5, UFx6, UFx7, UFx8, UFx9, UFx10, UFx11, UFx12, UFm2. -/
import Derived.Test.YtbenkmihkbjgeaaGreatQu02
import Derived.Test.YtbenkmihkbjgeaaGreatQu04
import Derived.Test.YtbenkmihkbjgeaaGreatQu03
/- The file system's rows, changes and events in memory, as the reference keeps them. -/
namespace Go.Proofs.YtbenkmihkbjgeaaGreat.Tx
open Go.RowKit Go.Proofs.YtbenkmihkbjgeaaGreat.Sh
def By (F : Nat → Prop) (w : World) (v : Value) (bs : List UInt8) : Prop := Rd F w 1 v bs.length (bs.map bv)
def rowC (r : RowM) (d : Value) : List Value := [.string (str r.path), iv r.f.mode, d, iv r.f.time]
def rowsC (R : List RowM) (ds : List Value) : List Value := (List.zipWith rowC R ds).flatten
def Datas (F : Nat → Prop) (w : World) (ds : List Value) (bss : List (List UInt8)) : Prop := ds.length = bss.length ∧ ∀ (i : Nat) (d : Value) (bs : List UInt8), ds[i]? = some d → bss[i]? = some bs → By F w d bs
def RowsIn (F : Nat → Prop) (w : World) (v : Value) (R : List RowM) : Prop := ∃ ds, Rd F w 4 v R.length (rowsC R ds) ∧ Datas F w ds (R.map fun r => r.f.data)
theorem flat_at {α : Type} {m : Nat} : ∀ {l : List (List α)}, (∀ x ∈ l, x.length = m) → ∀ (k : Nat) (x : List α), l[k]? = some x → ∀ (j : Nat) (u : α), x[j]? = some u → l.flatten[k * m + j]? = some u
 | [], _, k, x, h, _, _, _ => by simp at h
 | y :: r, hl, 0, x, h, j, u, hu => by
  simp at h
  subst h
  rw [List.flatten_cons, Nat.zero_mul, Nat.zero_add, List.getElem?_append_left (List.getElem?_eq_some_iff.1 hu).1]
  exact hu
 | y :: r, hl, k + 1, x, h, j, u, hu => by
  have hy : y.length = m := hl y List.mem_cons_self
  rw [List.getElem?_cons_succ] at h
  rw [List.flatten_cons, List.getElem?_append_right (by rw [hy, Nat.add_mul]; omega), hy, show (k + 1) * m + j - m = k * m + j from by rw [Nat.add_mul]; omega]
  exact flat_at (fun z hz => hl z (List.mem_cons_of_mem _ hz)) k x h j u hu
theorem zip_at {α β γ : Type} {f : α → β → γ} {l : List α} {m : List β} {k : Nat} {a : α} {b : β} (h1 : l[k]? = some a) (h2 : m[k]? = some b) : (List.zipWith f l m)[k]? = some (f a b) := by
 rw [List.getElem?_zipWith, h1, h2]
theorem By.slice {F : Nat → Prop} {w : World} {v : Value} {bs : List UInt8} (h : By F w v bs) : ∃ A c, v = .slice A bs.length c ∧ bs.length ≤ c ∧ c ≤ maxLen := by
 obtain ⟨A, c, h1, h2, h3, _⟩ := h
 exact ⟨A, c, h1, h2, h3⟩
theorem By.one {F : Nat → Prop} {w : World} {v : Value} {bs : List UInt8} (h : By F w v bs) : v.oneCell' = true := by
 obtain ⟨A, c, rfl, _⟩ := h
 rfl
theorem By.only {F M : Nat → Prop} {w w' : World} {v : Value} {bs : List UInt8} (h : By F w v bs) (ho : Only M w w') (hd : ∀ k, F k → ¬ M k) : By F w' v bs := Rd.only h ho hd
theorem By.mono {F F' : Nat → Prop} {w : World} {v : Value} {bs : List UInt8} (h : By F w v bs) (hF : ∀ k, k < w.heap.size → F k → F' k) : By F' w v bs := Rd.mono h hF
theorem Datas.only {F M : Nat → Prop} {w w' : World} {ds : List Value} {bss : List (List UInt8)} (h : Datas F w ds bss) (ho : Only M w w') (hd : ∀ k, F k → ¬ M k) : Datas F w' ds bss :=
 ⟨h.1, fun i d bs h1 h2 => (h.2 i d bs h1 h2).only ho hd⟩
theorem Datas.mono {F F' : Nat → Prop} {w : World} {ds : List Value} {bss : List (List UInt8)} (h : Datas F w ds bss) (hF : ∀ k, k < w.heap.size → F k → F' k) : Datas F' w ds bss :=
 ⟨h.1, fun i d bs h1 h2 => (h.2 i d bs h1 h2).mono hF⟩
theorem Datas.one {F : Nat → Prop} {w : World} {ds : List Value} {bss : List (List UInt8)} (h : Datas F w ds bss) : ∀ d ∈ ds, d.oneCell' = true := by
 intro d hd
 obtain ⟨i, hi, rfl⟩ := List.getElem_of_mem hd
 exact (h.2 i _ _ (List.getElem?_eq_getElem hi) (List.getElem?_eq_getElem (by rw [← h.1]; exact hi))).one
theorem Datas.app {F : Nat → Prop} {w : World} {ds es : List Value} {bss css : List (List UInt8)} (h : Datas F w ds bss) (h2 : Datas F w es css) : Datas F w (ds ++ es) (bss ++ css) := by
 refine ⟨by simp [h.1, h2.1], fun i e b h3 h4 => ?_⟩
 by_cases hi : i < ds.length
 ·rw [List.getElem?_append_left hi] at h3
  rw [List.getElem?_append_left (by rw [← h.1]; exact hi)] at h4
  exact h.2 i e b h3 h4
 ·rw [List.getElem?_append_right (by omega)] at h3
  rw [List.getElem?_append_right (by rw [← h.1]; omega), ← h.1] at h4
  exact h2.2 _ e b h3 h4
theorem Datas.nil_ {F : Nat → Prop} {w : World} : Datas F w [] [] := ⟨rfl, fun i d bs h => by simp at h⟩
theorem Datas.at_ {F : Nat → Prop} {w : World} {ds : List Value} {bss : List (List UInt8)} (h : Datas F w ds bss) {i : Nat} {bs : List UInt8} (hi : bss[i]? = some bs) : ∃ d, ds[i]? = some d ∧ By F w d bs := by
 have hl : i < ds.length := by rw [h.1]; exact (List.getElem?_eq_some_iff.1 hi).1
 exact ⟨ds[i], List.getElem?_eq_getElem hl, h.2 i _ _ (List.getElem?_eq_getElem hl) hi⟩
end Go.Proofs.YtbenkmihkbjgeaaGreat.Tx
/- The reference's file system: find, used, may. -/
namespace Go.Proofs.YtbenkmihkbjgeaaGreat.Tx
open Go.RowKit Go.Proofs.YtbenkmihkbjgeaaGreat.Sh
def findZ (R : List RowM) (p : List UInt8) : Int := match findM R p with
 | none => -1
 | some i => (i : Int)
theorem str_ne {a b : List UInt8} (h : a ≠ b) : ((str a).toList == (str b).toList) = false := by rw [str_toList, str_toList]; exact list_other h
theorem str_eq' {a b : List UInt8} (h : a = b) : ((str a).toList == (str b).toList) = true := by subst h; exact beq_self_eq_true _
end Go.Proofs.YtbenkmihkbjgeaaGreat.Tx
/- The reference's file system: may, without. -/
namespace Go.Proofs.YtbenkmihkbjgeaaGreat.Tx
open Go.RowKit Go.Proofs.YtbenkmihkbjgeaaGreat.Sh
def RowsOwn (F : Nat → Prop) (w : World) (B : Nat) (v : Value) (R : List RowM) : Prop := (∃ ds, w.ownsRow B 175 4 v R.length (rowsC R ds) ∧ Datas F w ds (R.map fun r => r.f.data)) ∧ ∀ k, v.ownBlock = some k → ¬ F k
def RowsTmp (F : Nat → Prop) (w : World) (v : Value) (R : List RowM) : Prop := ∃ ds, Rd (fun _ => True) w 4 v R.length (rowsC R ds) ∧ Datas F w ds (R.map fun r => r.f.data)
end Go.Proofs.YtbenkmihkbjgeaaGreat.Tx
/- The reference's file system: with. -/
namespace Go.Proofs.YtbenkmihkbjgeaaGreat.Tx
open Go.RowKit Go.Proofs.YtbenkmihkbjgeaaGreat.Sh
structure W3 (F : Nat → Prop) (w1 W : World) (v : Value) (S : List RowM) (lit : Value) (T : List RowM) : Prop where
 below : Below w1.heap.size w1 W
 own : RowsOwn F W w1.heap.size v S
 tmp : RowsTmp F W lit T
 apart : lit = .slice none 0 0 ∨ ∃ g, lit = .slice (some ⟨g, 0, none⟩) 1 1 ∧ g < W.heap.size ∧ some g ≠ v.ownBlock
end Go.Proofs.YtbenkmihkbjgeaaGreat.Tx
/- The reference's file system: apply. -/
namespace Go.Proofs.YtbenkmihkbjgeaaGreat.Tx
open Go.RowKit Go.Proofs.YtbenkmihkbjgeaaGreat.Sh
theorem find_at {R : List RowM} {p : List UInt8} {i : Nat} (h : findM R p = some i) : ∃ r, R[i]? = some r ∧ r.path = p := by
 unfold findM at h
 rw [List.findIdx?_eq_some_iff_getElem] at h
 obtain ⟨hl, h1, _⟩ := h
 exact ⟨R[i], List.getElem?_eq_getElem hl, by simpa using h1⟩
end Go.Proofs.YtbenkmihkbjgeaaGreat.Tx
/- Slices of structs, each with one slice of bytes in it (or none): to be read, of one's own, appended to. (No package's code in it.) -/
namespace Go.Proofs.YtbenkmihkbjgeaaGreat.Tx
open Go.RowKit Go.Proofs.YtbenkmihkbjgeaaGreat.Sh
structure Shape where
 α : Type
 cells : α → Value → List Value
 data : α → List UInt8
 m : Nat
 pos : 0 < m
 len : ∀ a d, (cells a d).length = m
 one : ∀ a d, d.oneCell' = true → ∀ u ∈ cells a d, u.oneCell' = true
section
variable (K : Shape)
def ShC (l : List K.α) (ds : List Value) : List Value := (List.zipWith K.cells l ds).flatten
def InL (F : Nat → Prop) (w : World) (v : Value) (l : List K.α) : Prop := ∃ ds, Rd F w K.m v l.length (ShC K l ds) ∧ Datas F w ds (l.map K.data)
def TmpL (F : Nat → Prop) (w : World) (v : Value) (l : List K.α) : Prop := ∃ ds, Rd (fun _ => True) w K.m v l.length (ShC K l ds) ∧ Datas F w ds (l.map K.data)
def OwnL (T : TypeId) (F : Nat → Prop) (w : World) (B : Nat) (v : Value) (l : List K.α) : Prop := (∃ ds, w.ownsRow B T K.m v l.length (ShC K l ds) ∧ Datas F w ds (l.map K.data)) ∧ ∀ k, v.ownBlock = some k → ¬ F k
end
section
variable {K : Shape} {F F' M : Nat → Prop} {w w' : World} {v : Value} {l : List K.α} {T : TypeId} {B : Nat} {ds es : List Value}
theorem ShC_at {k : Nat} {a : K.α} {d : Value} (h1 : l[k]? = some a) (h2 : ds[k]? = some d) (j : Nat) (u : Value) (hu : (K.cells a d)[j]? = some u) : (ShC K l ds)[k * K.m + j]? = some u := by
 refine flat_at (m := K.m) (fun x hx => ?_) k _ (zip_at h1 h2) j u hu
 obtain ⟨i, hi, e⟩ := List.getElem_of_mem hx
 rw [List.getElem_zipWith] at e
 rw [← e]
 exact K.len _ _
theorem ShC_app {l2 : List K.α} (h : ds.length = l.length) : ShC K (l ++ l2) (ds ++ es) = ShC K l ds ++ ShC K l2 es := by
 unfold ShC
 rw [List.zipWith_append h.symm, List.flatten_append]
theorem ShC_one (hd : ∀ d ∈ ds, d.oneCell' = true) : ∀ u ∈ ShC K l ds, u.oneCell' = true := by
 intro u hu
 unfold ShC at hu
 obtain ⟨x, hx, hux⟩ := List.mem_flatten.1 hu
 obtain ⟨i, hi, e⟩ := List.getElem_of_mem hx
 rw [List.getElem_zipWith] at e
 rw [← e] at hux
 exact K.one _ _ (hd _ (List.getElem_mem _)) u hux
theorem ShC_length (h : ds.length = l.length) : (ShC K l ds).length = l.length * K.m := by
 unfold ShC
 rw [List.length_flatten]
 have : (List.zipWith K.cells l ds).map List.length = List.replicate l.length K.m := by
  apply List.ext_getElem
  ·simp [h]
  ·intro i h1 h2
   simp [K.len]
 rw [this, List.sum_replicate_nat]
theorem InL.only (h : InL K F w v l) (ho : Only M w w') (hd : ∀ k, F k → ¬ M k) : InL K F w' v l := by
 obtain ⟨ds, h1, h2⟩ := h
 exact ⟨ds, h1.only ho hd, h2.only ho hd⟩
theorem InL.mono (h : InL K F w v l) (hF : ∀ k, k < w.heap.size → F k → F' k) : InL K F' w v l := by
 obtain ⟨ds, h1, h2⟩ := h
 exact ⟨ds, h1.mono hF, h2.mono hF⟩
theorem InL.below (h : InL K F w v l) (hb : Below w.heap.size w w') : InL K F w' v l := h.only (Only.of_below (M := fun _ => False) hb) (fun _ _ => id)
theorem InL.nil_ (K : Shape) (F : Nat → Prop) (w : World) : InL K F w (.slice none 0 0) [] := ⟨[], Rd.nil_ F w K.m, Datas.nil_⟩
theorem InL.tmp (h : InL K F w v l) : TmpL K F w v l := by
 obtain ⟨ds, h1, h2⟩ := h
 exact ⟨ds, h1.mono (fun _ _ _ => trivial), h2⟩
theorem TmpL.slice (h : TmpL K F w v l) : ∃ A c, v = .slice A l.length c ∧ l.length ≤ c ∧ c ≤ maxLen := by
 obtain ⟨ds, ⟨A, c, h1, h2, h3, _⟩, _⟩ := h
 exact ⟨A, c, h1, h2, h3⟩
theorem TmpL.below (h : TmpL K F w v l) (hb : Below w.heap.size w w') : TmpL K F w' v l := by
 obtain ⟨ds, h1, h2⟩ := h
 exact ⟨ds, h1.below hb, h2.only (Only.of_below (M := fun _ => False) hb) (fun _ _ => id)⟩
theorem TmpL.drew (h : TmpL K F w v l) : TmpL K F w.drew v l := h
theorem OwnL.drew (h : OwnL K T F w B v l) : OwnL K T F w.drew B v l := h
theorem OwnL.tmp (h : OwnL K T F w B v l) : TmpL K F w v l := by
 obtain ⟨⟨ds, h1, h2⟩, _⟩ := h
 exact ⟨ds, Rd.of_own h1 (fun _ _ => trivial), h2⟩
theorem TmpL.at_ {A : Option Addr} {n c : Nat} (h : TmpL K F w (.slice A n c) l) (k : Nat) (a : K.α) (hk : l[k]? = some a) :
  ∃ (ad : Addr) (d : Value), A = some ad ∧ By F w d (K.data a) ∧ ∀ j u, (K.cells a d)[j]? = some u → w.cell? (ad.add (k * K.m + j)) = some u := by
 obtain ⟨ds, ⟨A', c', hv, _, _, _, _, h5⟩, hd⟩ := h
 injection hv with e1 e2 e3
 subst e1
 have hkl := (List.getElem?_eq_some_iff.1 hk).1
 obtain ⟨ad, hA, _, _, hc⟩ := h5 (by omega)
 obtain ⟨d, hdk, hby⟩ := hd.at_ (i := k) (bs := K.data a) (by rw [List.getElem?_map, hk]; rfl)
 exact ⟨ad, d, hA, hby, fun j u hu => hc _ _ (ShC_at hk hdk j u hu)⟩
theorem OwnL.nil_ (K : Shape) (T : TypeId) (F : Nat → Prop) (w : World) (B : Nat) : OwnL K T F w B (.slice none 0 0) [] := ⟨⟨[], World.ownsRow_nil w B _ _, Datas.nil_⟩, fun k h => by cases h⟩
theorem OwnL.only (h : OwnL K T F w B v l) (ho : Only M w w') (hd : ∀ k, F k → ¬ M k) (hv : ∀ k, v.ownBlock = some k → ¬ M k) : OwnL K T F w' B v l := by
 obtain ⟨⟨ds, h1, h2⟩, h3⟩ := h
 refine ⟨⟨ds, ?_, h2.only ho hd⟩, h3⟩
 refine ⟨h1.1, h1.2.imp id fun ⟨g, cap, cur, a1, a2, a3, a4⟩ => ⟨g, cap, cur, a1, a2, ?_, a4⟩⟩
 subst a1
 have hlt : g < w.heap.size := (Array.getElem?_eq_some_iff.1 a3).1
 rw [ho.block g hlt (hv g rfl)]
 exact a3
theorem OwnL.mono (h : OwnL K T F w B v l) (hF : ∀ k, k < w.heap.size → F k → F' k) (hn : ∀ k, v.ownBlock = some k → ¬ F' k) : OwnL K T F' w B v l := by
 obtain ⟨⟨ds, h1, h2⟩, _⟩ := h
 exact ⟨⟨ds, h1, h2.mono hF⟩, hn⟩
theorem OwnL.lt (h : OwnL K T F w B v l) (k : Nat) (hk : v.ownBlock = some k) : B ≤ k ∧ k < w.heap.size := by
 obtain ⟨⟨ds, h1, _⟩, _⟩ := h
 exact h1.lt k hk
theorem OwnL.alloc (h : OwnL K T F w B v l) (o : Obj) : OwnL K T F (w.alloc o) B v l := h.only ((Only.refl (fun _ => False) w).alloc o) (fun _ _ => id) (fun _ _ => id)
theorem TmpL.one {g : Nat} {a : K.α} {d : Value} {cs : Array Value} (hg : Blk w g T cs) (hcs : cs.toList = K.cells a d) (hd : By F w d (K.data a)) : TmpL K F w (.slice (some ⟨g, 0, none⟩) 1 1) [a] := by
 refine ⟨[d], ⟨some ⟨g, 0, none⟩, 1, rfl, Nat.le_refl _, by unfold maxLen; omega, ?_, (fun e => by cases e), fun _ => ⟨_, rfl, trivial, hg.lt, fun j u hu => ?_⟩⟩, ?_⟩
 ·simp [ShC, K.len]
 ·rw [Addr.add_mid, hg.cell, Nat.zero_add, ← Array.getElem?_toList, hcs, ← hu]
  simp [ShC]
 ·refine ⟨rfl, fun i e b h1 h2 => ?_⟩
  have hi : i = 0 := by have := (List.getElem?_eq_some_iff.1 h1).1; simpa using this
  subst hi
  simp at h1 h2
  subst h1 h2
  exact hd
end
structure Typed (P : Program) (K : Shape) (T S : TypeId) (z : Value) (bytes : Nat) : Prop where
 info : (P.info? T).map (fun i => (i.zero, i.size, i.bytes)) = some (some z, K.m, bytes)
 under : P.underlying S = some (.slice T)
 cells : z.cells.size = K.m
 small : bytes ≤ 256
section
variable {P : Program} {K : Shape} {T S : TypeId} {z : Value} {bytes : Nat} (D : Typed P K T S z bytes)
include D
theorem step_appendL {ops : Array Oper} {o : Oper} {a : Act} {Kk : Act → World → Prop} {Q : Exit → Act → World → Prop} {E : Prop} (hgd : o.guard = none) (s x : Operand)
  (ho : o.op = .call { callee := .builtin .append, args := #[s, x], argTypes := #[S, S] }) {F : Nat → Prop} {w : World} {B : Nat} {v : Value} {l : List K.α} {ex : Value} {l2 : List K.α} (hown : OwnL K T F w B v l) (hr : TmpL K F w ex l2) (hs : a.eval s = v) (hx : a.eval x = ex)
  (hsmall : l.length + l2.length ≤ 2000000) (hB : B ≤ w.heap.size) (hF : ∀ k, F k → k < w.heap.size)
  (h : ∀ v' w', OwnL K T F w' B v' (l ++ l2) → w.grownBy w' v.ownBlock → (v'.ownBlock = v.ownBlock ∨ v'.ownBlock = some w.heap.size) → Kk (a.put o.dst v') w') : if Region.wanted o (yielded ops a.tmps) = true then Oper.wp P o a w Kk Q else E := by
 obtain ⟨i0, hi, hz0, hz1, hz2⟩ := info_parts D.info
 obtain ⟨⟨ds, hown', hds⟩, hne⟩ := hown
 obtain ⟨es, hrd, hes⟩ := hr
 obtain ⟨A, c, rfl, h1, h2, hrr⟩ := hrd.reads
 have hsm := D.small
 refine step_append_any w hgd s x S ho B T i0 z K.m bytes D.under hi hz0 hz1 hz2 D.cells K.pos v l.length _ hs hown' w.heap.size A l2.length c _ hx hrr (ShC_one hes.one) (by unfold maxLen; omega) (Nat.le_trans (Nat.mul_le_mul hsmall hsm) (by decide)) hB ?_
 intro v' w' g1 g2 g3
 have ho : Only (fun k => v.ownBlock = some k) w w' := ⟨g2.os, g2.tape, g2.output, g2.size, fun k hk hn => g2.block k hk (fun e => hn e.symm)⟩
 refine h v' w' ⟨⟨ds ++ es, ?_, ?_⟩, fun k hk => ?_⟩ g2 g3
 ·rw [List.length_append, ShC_app (by rw [hds.1]; simp)]
  exact g1
 ·rw [List.map_append]
  exact (hds.only ho (fun k hk he => hne k he hk)).app (hes.only ho (fun k hk he => hne k he hk))
 ·rcases g3 with g3 | g3
  ·exact hne k (by rw [← g3]; exact hk)
  ·rw [g3] at hk
   injection hk with hk
   intro hf
   have := hF k hf
   omega
end
end Go.Proofs.YtbenkmihkbjgeaaGreat.Tx
/- A file system that falls, as plain data: its calls. (No Go in it.) -/
namespace Go.Proofs.YtbenkmihkbjgeaaGreat.Tx
def changeM (st : FSM) (o : OpM) : FSM :=
 let o' : OpM := if o.kind = 1 then { o with f := { o.f with time := st.time + 1 } } else o
 { st with time := st.time + 1, now := applyM st.now o', pending := st.pending ++ [o'] }
def safeM (st : FSM) : FSM := { st with sure := st.now, pending := [] }
def oldM (R : List RowM) (p : List UInt8) : Nat := match findM R p with
 | none => 0
 | some i => match R[i]? with
  | none => 0
  | some r => r.f.data.length
def putE (st : FSM) (p : List UInt8) (mode : Int) (data : List UInt8) (only full : Bool) (room : Int) : Int :=
 if pathB p = false then 6
 else if mode < 1 ∨ 3 < mode then 1
 else if 20000 < data.length then 3
 else if (findM st.now p).isSome = true ∧ only = true then 8
 else if (findM st.now p).isNone = true ∧ mayM st.now p = false then 9
 else if full = true ∨ room < (usedM st.now : Int) - oldM st.now p + data.length then 10
 else 0
def putM (st : FSM) (p : List UInt8) (mode : Int) (data : List UInt8) (only full : Bool) (room : Int) : FSM :=
 if putE st p mode data only full room = 0 then changeM st ⟨1, [], p, ⟨mode, data, 0⟩⟩ else st
def dropE (st : FSM) (p : List UInt8) : Int := if pathB p = false then 6 else if (findM st.now p).isNone = true then 7 else 0
def dropM (st : FSM) (p : List UInt8) : FSM := if dropE st p = 0 then changeM st ⟨3, p, [], ⟨0, [], 0⟩⟩ else st
def userWE (st : FSM) (p : List UInt8) (mode : Int) (data : List UInt8) : Int := if st.down = true then 12 else putE st p mode data false false 1152921504606846976
def userWM (st : FSM) (p : List UInt8) (mode : Int) (data : List UInt8) : FSM :=
 if userWE st p mode data = 0 then
  let s := safeM (putM st p mode data false false 1152921504606846976)
  { s with user := s.user ++ [⟨s.calls, 4, mode, 0, 0, p, data⟩] }
 else st
def userRE (st : FSM) (p : List UInt8) : Int := if st.down = true then 12 else dropE st p
def userRM (st : FSM) (p : List UInt8) : FSM :=
 if userRE st p = 0 then
  let s := safeM (dropM st p)
  { s with user := s.user ++ [⟨s.calls, 5, 0, 0, 0, p, []⟩] }
 else st
def againM (st : FSM) (n : Nat) : List RowM := (st.pending.take n).foldl applyM st.sure
def crashM (st : FSM) (keep torn : Int) : FSM :=
 if st.down = true then st
 else
  let n := (min (max keep 0) (st.pending.length : Int)).toNat
  let l := againM st n
  let l2 := match st.pending[n]? with
   | none => l
   | some o => if o.kind = 1 ∧ 0 ≤ torn ∧ torn < (o.f.data.length : Int) then applyM l { o with f := { o.f with data := o.f.data.take torn.toNat } } else l
  { safeM { st with now := l2 } with down := true }
end Go.Proofs.YtbenkmihkbjgeaaGreat.Tx
/- The reference's file system in memory; change. -/
namespace Go.Proofs.YtbenkmihkbjgeaaGreat.Tx
open Go.RowKit Go.Proofs.YtbenkmihkbjgeaaGreat.Sh
def opK : Shape where
 α := OpM
 cells := fun o d => [.int .i64 o.kind, .string (str o.fr), .string (str o.to), .int .i64 o.f.mode, d, .int .i64 o.f.time]
 data := fun o => o.f.data
 m := 6
 pos := by decide
 len := fun _ _ => rfl
 one := fun a d hd u hu => by
  simp only [List.mem_cons, List.not_mem_nil, or_false] at hu
  rcases hu with rfl | rfl | rfl | rfl | rfl | rfl <;> first | rfl | exact hd
def evK : Shape where
 α := EvM
 cells := fun e d => [.int .i64 e.at_, .int .i64 e.kind, .int .i64 e.mode, .int .i64 e.keep, .int .i64 e.torn, .string (str e.path), d]
 data := fun e => e.data
 m := 7
 pos := by decide
 len := fun _ _ => rfl
 one := fun a d hd u hu => by
  simp only [List.mem_cons, List.not_mem_nil, or_false] at hu
  rcases hu with rfl | rfl | rfl | rfl | rfl | rfl | rfl <;> first | rfl | exact hd
structure FsV where
 now : Value
 sure : Value
 pending : Value
 plan : Value
 user : Value
def fsC (st : FSM) (x : FsV) : Array Value := #[.int .i64 st.room, x.now, x.sure, x.pending, x.plan, .int .i64 st.calls, .int .i64 st.time, .bool st.down, x.user]
def fsM (b : Nat) (x : FsV) : Nat → Prop := fun k => k = b ∨ x.pending.ownBlock = some k ∨ x.user.ownBlock = some k
structure RefX (F : Nat → Prop) (w : World) (b : Nat) (st : FSM) (x : FsV) : Prop where
 blk : Blk w b 97 (fsC st x)
 now : RowsIn F w x.now st.now
 sure : RowsIn F w x.sure st.sure
 pending : OwnL opK 189 F w 0 x.pending st.pending
 plan : InL evK F w x.plan st.plan
 user : OwnL evK 148 F w 0 x.user st.user
 self : ¬ F b
 low : ∀ k, F k → k < w.heap.size
def RefAt (F : Nat → Prop) (w : World) (b : Nat) (st : FSM) (M : Nat → Prop) : Prop := ∃ x, RefX F w b st x ∧ ∀ k, M k ↔ fsM b x k
def FsPost (F M : Nat → Prop) (w : World) (b : Nat) (st' : FSM) (w' : World) : Prop := ∃ M', RefAt (grow F w w' M') w' b st' M' ∧ Only M w w' ∧ ∀ k, M' k → M k ∨ w.heap.size ≤ k
end Go.Proofs.YtbenkmihkbjgeaaGreat.Tx
/- The reference's file system: change. -/
namespace Go.Proofs.YtbenkmihkbjgeaaGreat.Tx
open Go.RowKit Go.Proofs.YtbenkmihkbjgeaaGreat.Sh
def opOf (st : FSM) (o : OpM) : OpM := if o.kind = 1 then { o with f := { o.f with time := st.time + 1 } } else o
end Go.Proofs.YtbenkmihkbjgeaaGreat.Tx
/- The reference's file system: copies of bytes, safe, drop. -/
namespace Go.Proofs.YtbenkmihkbjgeaaGreat.Tx
open Go.RowKit Go.Proofs.YtbenkmihkbjgeaaGreat.Sh
theorem OwnL.toG {K : Shape} {T : TypeId} {F F0 M' : Nat → Prop} {w wf : World} {B : Nat} {v : Value} {l : List K.α} (h : OwnL K T F0 wf B v l) (hF : ∀ k, k < wf.heap.size → F0 k → grow F w wf M' k) (hm : ∀ k, v.ownBlock = some k → M' k) (hn : ∀ k, v.ownBlock = some k → ¬ F k) : OwnL K T (grow F w wf M') wf B v l :=
 h.mono hF (fun k hk hg => by
  rcases hg with hf | ⟨_, _, hn'⟩
  ·exact hn k hk hf
  ·exact hn' (hm k hk))
theorem OwnV.by_ {w : World} {B : Nat} {v : Value} {bs : List UInt8} {F : Nat → Prop} (h : OwnV 5 w B v (bs.map bv)) : By (fun k => F k ∨ (B ≤ k ∧ k < w.heap.size)) w v bs := by
 have h' : w.ownsRow B 5 1 v bs.length (bs.map bv) := by have := h; unfold OwnV at this; rwa [List.length_map] at this
 exact Rd.of_own h' (fun k hk => .inr (h'.lt k hk))
end Go.Proofs.YtbenkmihkbjgeaaGreat.Tx
/- The reference's file system: drop, put. -/
namespace Go.Proofs.YtbenkmihkbjgeaaGreat.Tx
open Go.RowKit Go.Proofs.YtbenkmihkbjgeaaGreat.Sh
theorem By.nil_ (F : Nat → Prop) (w : World) : By F w (.slice none 0 0) [] := Rd.nil_ F w 1
end Go.Proofs.YtbenkmihkbjgeaaGreat.Tx
/- The reference's file system: put. -/
namespace Go.Proofs.YtbenkmihkbjgeaaGreat.Tx
open Go.RowKit Go.Proofs.YtbenkmihkbjgeaaGreat.Sh
end Go.Proofs.YtbenkmihkbjgeaaGreat.Tx
/- The reference's file system: what users do. -/
namespace Go.Proofs.YtbenkmihkbjgeaaGreat.Tx
open Go.RowKit Go.Proofs.YtbenkmihkbjgeaaGreat.Sh
theorem By.slv {F : Nat → Prop} {w : World} {v : Value} {bs : List UInt8} (h : By F w v bs) : SlV w v (bs.map bv) := by
 unfold By at h
 refine Rd.slv (F := F) ?_
 rw [List.length_map]
 exact h
end Go.Proofs.YtbenkmihkbjgeaaGreat.Tx
/- The reference's file system: Crash. -/
namespace Go.Proofs.YtbenkmihkbjgeaaGreat.Tx
open Go.RowKit Go.Proofs.YtbenkmihkbjgeaaGreat.Sh
def OpsTmp (F : Nat → Prop) (w : World) (v : Value) (l : List OpM) : Prop := TmpL opK F w v l
theorem size_byte (w : World) : (sizeOf (Tryz.prog.elem 45)).run Tryz.prog w = .ok 1 w := by kernel_rfl
set_option maxRecDepth 100000 in
theorem bytes_front (A : Option Addr) (l c k : Nat) (hkc : k ≤ c) (w : World) : (Instr.slice 45 (.slice A l c) none (some (.int .i64 (k : Int))) none).run Tryz.prog w = .ok (.slice A k c) w := by
 rw [run_slice_h w 45 A l c Tryz.underlying45 .i64 k (by omega) (by omega), size_byte]
 simp only [Result.andThen_ok, sliced, Int.toNat_natCast]
 by_cases h : c = 0
 ·subst h; simp
 ·have e : A.map (fun a => a.add 0) = A := by cases A <;> simp [Addr.add]
  simp [h, e]
theorem By.take {F : Nat → Prop} {w : World} {A : Option Addr} {n c : Nat} {bs : List UInt8} (h : By F w (.slice A n c) bs) (k : Nat) (hk : k ≤ n) : By F w (.slice A k c) (bs.take k) := by
 obtain ⟨A', c', hv, h1, h2, h3, h4, h5⟩ := h
 injection hv with e1 e2 e3
 subst e1 e3
 have hl : (bs.take k).length = k := by rw [List.length_take]; omega
 refine ⟨A, c, by rw [hl], by rw [hl]; omega, h2, by simp, fun e => by rw [hl]; have := h4 e; omega, fun hn => ?_⟩
 obtain ⟨ad, e, hf, hlt, hc⟩ := h5 (by rw [hl] at hn; omega)
 refine ⟨ad, e, hf, hlt, fun j u hu => hc j u ?_⟩
 rw [List.map_take, List.getElem?_take] at hu
 split at hu
 ·exact hu
 ·cases hu
end Go.Proofs.YtbenkmihkbjgeaaGreat.Tx
/- The reference's file system: Crash's walk. -/
namespace Go.Proofs.YtbenkmihkbjgeaaGreat.Tx
open Go.RowKit Go.Proofs.YtbenkmihkbjgeaaGreat.Sh
def keepM (st : FSM) (keep : Int) : Nat := (min (max keep 0) (st.pending.length : Int)).toNat
def tornM (st : FSM) (keep torn : Int) : List RowM := match st.pending[keepM st keep]? with
 | none => againM st (keepM st keep)
 | some o => if o.kind = 1 ∧ 0 ≤ torn ∧ torn < (o.f.data.length : Int) then applyM (againM st (keepM st keep)) { o with f := { o.f with data := o.f.data.take torn.toNat } } else againM st (keepM st keep)
def tornB (st : FSM) (keep torn : Int) : Bool := match st.pending[keepM st keep]? with
 | none => false
 | some o => decide (o.kind = 1 ∧ 0 ≤ torn ∧ torn < (o.f.data.length : Int))
def NewRows (F : Nat → Prop) (w : World) (v : Value) (l : List RowM) (wx : World) : Prop := RowsIn (fun k => F k ∨ (w.heap.size ≤ k ∧ k < wx.heap.size)) wx v l ∧ Below w.heap.size w wx
end Go.Proofs.YtbenkmihkbjgeaaGreat.Tx
/- A file system that falls, as plain data: how great it may grow; a call's beginning. (No Go in it.) -/
namespace Go.Proofs.YtbenkmihkbjgeaaGreat.Tx
structure Fits (st : FSM) (N : Nat) : Prop where
 now : st.now.length ≤ N
 both : st.sure.length + st.pending.length ≤ N
 user : st.user.length ≤ N
 time0 : 0 ≤ st.time
 time : st.time ≤ (N : Int)
 nrow : ∀ r ∈ st.now, r.path.length ≤ 1000 ∧ r.f.data.length ≤ 20000
 srow : ∀ r ∈ st.sure, r.path.length ≤ 1000 ∧ r.f.data.length ≤ 20000
 prow : ∀ o ∈ st.pending, o.to.length ≤ 1000 ∧ o.f.data.length ≤ 20000
theorem without_sub {R : List RowM} {p : List UInt8} {r : RowM} (h : r ∈ withoutM R p) : r ∈ R := (List.mem_filter.1 h).1
theorem with_mem {R : List RowM} {p : List UInt8} {f : FileM} {r : RowM} (h : r ∈ withM R p f) : r ∈ R ∨ r = ⟨p, f⟩ := by
 unfold withM at h
 simp only [List.append_assoc, List.mem_append, List.mem_singleton] at h
 rcases h with h | h | h
 ·exact .inl (without_sub (List.mem_of_mem_take h))
 ·exact .inr h
 ·exact .inl (without_sub (List.mem_of_mem_drop h))
theorem used_bound : ∀ {R : List RowM} {d : Nat}, (∀ r ∈ R, r.f.data.length ≤ d) → usedM R ≤ R.length * d
 | [], d, _ => by simp [usedM]
 | r :: R, d, h => by
  have ih := used_bound (R := R) (d := d) (fun x hx => h x (List.mem_cons_of_mem _ hx))
  have h1 := h r List.mem_cons_self
  unfold usedM at ih ⊢
  rw [List.map_cons, List.sum_cons, List.length_cons, Nat.add_mul]
  omega
structure BegM where
 full : Bool
 broken : Bool
 st : FSM
def evM (s : BegM) (e : EvM) : BegM :=
 if e.at_ = s.st.calls then
  if e.kind = 1 then { s with st := crashM s.st e.keep e.torn }
  else if e.kind = 2 then { s with full := true }
  else if e.kind = 3 then { s with broken := true }
  else if e.kind = 4 then { s with st := userWM s.st e.path e.mode e.data }
  else if e.kind = 5 then { s with st := userRM s.st e.path }
  else s
 else s
def begM (st : FSM) (k : Nat) : BegM := (st.plan.take k).foldl evM ⟨false, false, { st with calls := st.calls + 1 }⟩
def beginM (st : FSM) : BegM := begM st st.plan.length
def beginE (st : FSM) : Int := if (beginM st).st.down = true then 12 else if (beginM st).broken = true then 11 else 0
end Go.Proofs.YtbenkmihkbjgeaaGreat.Tx
