/- Texts put together: YFr1, YFm1, YFx5, YFx6, YFx7, YFx8, YFx9, YFx10, YFx11, YFx12. -/
import Derived.Test.YtlgmbljfjfcpoaaGreatQt06
import Derived.Test.YtlgmbljfjfcpoaaGreatQt05
import Derived.Test.YtlgmbljfjfcpoaaGreatQt04
/- Slices of structs, each with one slice of bytes in it (or none): to be read, of one's own, appended to. (No package's code in it.) -/
namespace Go.Proofs.YtlgmbljfjfcpoaaGreat.Tx
open Go.RowKit Go.Proofs.YtlgmbljfjfcpoaaGreat.Sh

/-- How an element lies in memory; d: its bytes, as a value. -/
structure Shape where
  α : Type
  cells : α → Value → List Value
  data : α → List UInt8
  m : Nat
  pos : 0 < m
  len : ∀ a d, (cells a d).length = m
  one : ∀ a d, d.oneCell' = true → ∀ u ∈ cells a d, u.oneCell' = true
section
variable (K : Shape)
def ShC (l : List K.α) (ds : List Value) : List Value := (List.zipWith K.cells l ds).flatten
def InL (F : Nat → Prop) (w : World) (v : Value) (l : List K.α) : Prop := ∃ ds, Rd F w K.m v l.length (ShC K l ds) ∧ Datas F w ds (l.map K.data)
def TmpL (F : Nat → Prop) (w : World) (v : Value) (l : List K.α) : Prop := ∃ ds, Rd (fun _ => True) w K.m v l.length (ShC K l ds) ∧ Datas F w ds (l.map K.data)
def OwnL (T : TypeId) (F : Nat → Prop) (w : World) (B : Nat) (v : Value) (l : List K.α) : Prop := (∃ ds, w.ownsRow B T K.m v l.length (ShC K l ds) ∧ Datas F w ds (l.map K.data)) ∧ ∀ k, v.ownBlock = some k → ¬ F k
end
section
variable {K : Shape} {F F' M : Nat → Prop} {w w' : World} {v : Value} {l : List K.α} {T : TypeId} {B : Nat} {ds es : List Value}
theorem ShC_at {k : Nat} {a : K.α} {d : Value} (h1 : l[k]? = some a) (h2 : ds[k]? = some d) (j : Nat) (u : Value) (hu : (K.cells a d)[j]? = some u) : (ShC K l ds)[k * K.m + j]? = some u := by
  refine flat_at (m := K.m) (fun x hx => ?_) k _ (zip_at h1 h2) j u hu
  obtain ⟨i, hi, e⟩ := List.getElem_of_mem hx
  rw [List.getElem_zipWith] at e
  rw [← e]
  exact K.len _ _
theorem ShC_app {l2 : List K.α} (h : ds.length = l.length) : ShC K (l ++ l2) (ds ++ es) = ShC K l ds ++ ShC K l2 es := by
  unfold ShC
  rw [List.zipWith_append h.symm, List.flatten_append]
theorem ShC_one (hd : ∀ d ∈ ds, d.oneCell' = true) : ∀ u ∈ ShC K l ds, u.oneCell' = true := by
  intro u hu
  unfold ShC at hu
  obtain ⟨x, hx, hux⟩ := List.mem_flatten.1 hu
  obtain ⟨i, hi, e⟩ := List.getElem_of_mem hx
  rw [List.getElem_zipWith] at e
  rw [← e] at hux
  exact K.one _ _ (hd _ (List.getElem_mem _)) u hux
theorem ShC_length (h : ds.length = l.length) : (ShC K l ds).length = l.length * K.m := by
  unfold ShC
  rw [List.length_flatten]
  have : (List.zipWith K.cells l ds).map List.length = List.replicate l.length K.m := by
    apply List.ext_getElem
    · simp [h]
    · intro i h1 h2
      simp [K.len]
  rw [this, List.sum_replicate_nat]
theorem InL.only (h : InL K F w v l) (ho : Only M w w') (hd : ∀ k, F k → ¬ M k) : InL K F w' v l := by
  obtain ⟨ds, h1, h2⟩ := h
  exact ⟨ds, h1.only ho hd, h2.only ho hd⟩
theorem InL.mono (h : InL K F w v l) (hF : ∀ k, k < w.heap.size → F k → F' k) : InL K F' w v l := by
  obtain ⟨ds, h1, h2⟩ := h
  exact ⟨ds, h1.mono hF, h2.mono hF⟩
theorem InL.below (h : InL K F w v l) (hb : Below w.heap.size w w') : InL K F w' v l := h.only (Only.of_below (M := fun _ => False) hb) (fun _ _ => id)
theorem InL.nil_ (K : Shape) (F : Nat → Prop) (w : World) : InL K F w (.slice none 0 0) [] := ⟨[], Rd.nil_ F w K.m, Datas.nil_⟩
theorem InL.tmp (h : InL K F w v l) : TmpL K F w v l := by
  obtain ⟨ds, h1, h2⟩ := h
  exact ⟨ds, h1.mono (fun _ _ _ => trivial), h2⟩
theorem TmpL.slice (h : TmpL K F w v l) : ∃ A c, v = .slice A l.length c ∧ l.length ≤ c ∧ c ≤ maxLen := by
  obtain ⟨ds, ⟨A, c, h1, h2, h3, _⟩, _⟩ := h
  exact ⟨A, c, h1, h2, h3⟩
theorem TmpL.below (h : TmpL K F w v l) (hb : Below w.heap.size w w') : TmpL K F w' v l := by
  obtain ⟨ds, h1, h2⟩ := h
  exact ⟨ds, h1.below hb, h2.only (Only.of_below (M := fun _ => False) hb) (fun _ _ => id)⟩
theorem TmpL.drew (h : TmpL K F w v l) : TmpL K F w.drew v l := h
theorem OwnL.drew (h : OwnL K T F w B v l) : OwnL K T F w.drew B v l := h
theorem OwnL.tmp (h : OwnL K T F w B v l) : TmpL K F w v l := by
  obtain ⟨⟨ds, h1, h2⟩, _⟩ := h
  exact ⟨ds, Rd.of_own h1 (fun _ _ => trivial), h2⟩
/-- An element's cells. -/
theorem TmpL.at_ {A : Option Addr} {n c : Nat} (h : TmpL K F w (.slice A n c) l) (k : Nat) (a : K.α) (hk : l[k]? = some a) :
    ∃ (ad : Addr) (d : Value), A = some ad ∧ By F w d (K.data a) ∧ ∀ j u, (K.cells a d)[j]? = some u → w.cell? (ad.add (k * K.m + j)) = some u := by
  obtain ⟨ds, ⟨A', c', hv, _, _, _, _, h5⟩, hd⟩ := h
  injection hv with e1 e2 e3
  subst e1
  have hkl := (List.getElem?_eq_some_iff.1 hk).1
  obtain ⟨ad, hA, _, _, hc⟩ := h5 (by omega)
  obtain ⟨d, hdk, hby⟩ := hd.at_ (i := k) (bs := K.data a) (by rw [List.getElem?_map, hk]; rfl)
  exact ⟨ad, d, hA, hby, fun j u hu => hc _ _ (ShC_at hk hdk j u hu)⟩
theorem OwnL.nil_ (K : Shape) (T : TypeId) (F : Nat → Prop) (w : World) (B : Nat) : OwnL K T F w B (.slice none 0 0) [] := ⟨⟨[], World.ownsRow_nil w B _ _, Datas.nil_⟩, fun k h => by cases h⟩
theorem OwnL.base {B' : Nat} (h : OwnL K T F w B v l) (hB : B' ≤ B) : OwnL K T F w B' v l := by
  obtain ⟨⟨ds, h1, h2⟩, h3⟩ := h
  obtain ⟨g1, g2⟩ := h1
  exact ⟨⟨ds, ⟨g1, g2.imp id fun ⟨g, cap, cur, a1, a2, a3⟩ => ⟨g, cap, cur, a1, by omega, a3⟩⟩, h2⟩, h3⟩
theorem OwnL.only (h : OwnL K T F w B v l) (ho : Only M w w') (hd : ∀ k, F k → ¬ M k) (hv : ∀ k, v.ownBlock = some k → ¬ M k) : OwnL K T F w' B v l := by
  obtain ⟨⟨ds, h1, h2⟩, h3⟩ := h
  refine ⟨⟨ds, ?_, h2.only ho hd⟩, h3⟩
  refine ⟨h1.1, h1.2.imp id fun ⟨g, cap, cur, a1, a2, a3, a4⟩ => ⟨g, cap, cur, a1, a2, ?_, a4⟩⟩
  subst a1
  have hlt : g < w.heap.size := (Array.getElem?_eq_some_iff.1 a3).1
  rw [ho.block g hlt (hv g rfl)]
  exact a3
theorem OwnL.mono (h : OwnL K T F w B v l) (hF : ∀ k, k < w.heap.size → F k → F' k) (hn : ∀ k, v.ownBlock = some k → ¬ F' k) : OwnL K T F' w B v l := by
  obtain ⟨⟨ds, h1, h2⟩, _⟩ := h
  exact ⟨⟨ds, h1, h2.mono hF⟩, hn⟩
theorem OwnL.lt (h : OwnL K T F w B v l) (k : Nat) (hk : v.ownBlock = some k) : B ≤ k ∧ k < w.heap.size := by
  obtain ⟨⟨ds, h1, _⟩, _⟩ := h
  exact h1.lt k hk
theorem OwnL.alloc (h : OwnL K T F w B v l) (o : Obj) : OwnL K T F (w.alloc o) B v l := h.only ((Only.refl (fun _ => False) w).alloc o) (fun _ _ => id) (fun _ _ => id)
theorem TmpL.alloc (h : TmpL K F w v l) (o : Obj) : TmpL K F (w.alloc o) v l := h.below ((Below.refl _ _).alloc (Nat.le_refl _) o)
theorem TmpL.one {g : Nat} {a : K.α} {d : Value} {cs : Array Value} (hg : Blk w g T cs) (hcs : cs.toList = K.cells a d) (hd : By F w d (K.data a)) : TmpL K F w (.slice (some ⟨g, 0, none⟩) 1 1) [a] := by
  refine ⟨[d], ⟨some ⟨g, 0, none⟩, 1, rfl, Nat.le_refl _, by unfold maxLen; omega, ?_, (fun e => by cases e), fun _ => ⟨_, rfl, trivial, hg.lt, fun j u hu => ?_⟩⟩, ?_⟩
  · simp [ShC, K.len]
  · rw [Addr.add_mid, hg.cell, Nat.zero_add, ← Array.getElem?_toList, hcs, ← hu]
    simp [ShC]
  · refine ⟨rfl, fun i e b h1 h2 => ?_⟩
    have hi : i = 0 := by have := (List.getElem?_eq_some_iff.1 h1).1; simpa using this
    subst hi
    simp at h1 h2
    subst h1 h2
    exact hd
theorem OwnL.empty {g : Nat} (hg : Blk w g T #[]) (hB : B ≤ g) (hF : ¬ F g) : OwnL K T F w B (.slice (some ⟨g, 0, none⟩) 0 0) [] :=
  ⟨⟨[], ⟨by simp [ShC], .inr ⟨g, 0, #[], rfl, hB, hg, Nat.le_refl _, by unfold maxLen; omega, by simp, by simp [ShC]⟩⟩, Datas.nil_⟩, fun k hk hf => by
    have e : g = k := by simpa [Value.ownBlock] using hk
    exact hF (by rw [e]; exact hf)⟩
end
/-- What the program says of the element's type and the slice's. -/
structure Typed (P : Program) (K : Shape) (T S : TypeId) (z : Value) (bytes : Nat) : Prop where
  info : (P.info? T).map (fun i => (i.zero, i.size, i.bytes)) = some (some z, K.m, bytes)
  under : P.underlying S = some (.slice T)
  cells : z.cells.size = K.m
  small : bytes ≤ 256
section
variable {P : Program} {K : Shape} {T S : TypeId} {z : Value} {bytes : Nat} (D : Typed P K T S z bytes)
include D
theorem step_appendL {ops : Array Oper} {o : Oper} {a : Act} {Kk : Act → World → Prop} {Q : Exit → Act → World → Prop} {E : Prop} (hgd : o.guard = none) (s x : Operand)
    (ho : o.op = .call { callee := .builtin .append, args := #[s, x], argTypes := #[S, S] }) {F : Nat → Prop} {w : World} {B : Nat} {v : Value} {l : List K.α} {ex : Value} {l2 : List K.α} (hown : OwnL K T F w B v l) (hr : TmpL K F w ex l2) (hs : a.eval s = v) (hx : a.eval x = ex)
    (hsmall : l.length + l2.length ≤ 2000000) (hB : B ≤ w.heap.size) (hF : ∀ k, F k → k < w.heap.size)
    (h : ∀ v' w', OwnL K T F w' B v' (l ++ l2) → w.grownBy w' v.ownBlock → (v'.ownBlock = v.ownBlock ∨ v'.ownBlock = some w.heap.size) → Kk (a.put o.dst v') w') : if Region.wanted o (yielded ops a.tmps) = true then Oper.wp P o a w Kk Q else E := by
  obtain ⟨i0, hi, hz0, hz1, hz2⟩ := info_parts D.info
  obtain ⟨⟨ds, hown', hds⟩, hne⟩ := hown
  obtain ⟨es, hrd, hes⟩ := hr
  obtain ⟨A, c, rfl, h1, h2, hrr⟩ := hrd.reads
  have hsm := D.small
  refine step_append_any w hgd s x S ho B T i0 z K.m bytes D.under hi hz0 hz1 hz2 D.cells K.pos v l.length _ hs hown' w.heap.size A l2.length c _ hx hrr (ShC_one hes.one) (by unfold maxLen; omega) (Nat.le_trans (Nat.mul_le_mul hsmall hsm) (by decide)) hB ?_
  intro v' w' g1 g2 g3
  have ho : Only (fun k => v.ownBlock = some k) w w' := ⟨g2.os, g2.tape, g2.output, g2.size, fun k hk hn => g2.block k hk (fun e => hn e.symm)⟩
  refine h v' w' ⟨⟨ds ++ es, ?_, ?_⟩, fun k hk => ?_⟩ g2 g3
  · rw [List.length_append, ShC_app (by rw [hds.1]; simp)]
    exact g1
  · rw [List.map_append]
    exact (hds.only ho (fun k hk he => hne k he hk)).app (hes.only ho (fun k hk he => hne k he hk))
  · rcases g3 with g3 | g3
    · exact hne k (by rw [← g3]; exact hk)
    · rw [g3] at hk
      injection hk with hk
      intro hf
      have := hF k hf
      omega
theorem list_appendL {ops : Array Oper} {rest : List Oper} {o : Oper} {a : Act} {Q : Exit → Act → World → Prop} (hgd : o.guard = none) (s x : Operand)
    (ho : o.op = .call { callee := .builtin .append, args := #[s, x], argTypes := #[S, S] }) {F : Nat → Prop} {w : World} {B : Nat} {v : Value} {l : List K.α} {ex : Value} {l2 : List K.α} (hown : OwnL K T F w B v l) (hr : TmpL K F w ex l2) (hs : a.eval s = v) (hx : a.eval x = ex)
    (hsmall : l.length + l2.length ≤ 2000000) (hB : B ≤ w.heap.size) (hF : ∀ k, F k → k < w.heap.size)
    (h : ∀ v' w', OwnL K T F w' B v' (l ++ l2) → w.grownBy w' v.ownBlock → (v'.ownBlock = v.ownBlock ∨ v'.ownBlock = some w.heap.size) → wpList P ops Q rest (a.put o.dst v') w') : wpList P ops Q (o :: rest) a w := by
  obtain ⟨i0, hi, hz0, hz1, hz2⟩ := info_parts D.info
  obtain ⟨⟨ds, hown', hds⟩, hne⟩ := hown
  obtain ⟨es, hrd, hes⟩ := hr
  obtain ⟨A, c, rfl, h1, h2, hrr⟩ := hrd.reads
  have hsm := D.small
  refine wpList_append_any w hgd s x S ho B T i0 z K.m bytes D.under hi hz0 hz1 hz2 D.cells K.pos v l.length _ hs hown' w.heap.size A l2.length c _ hx hrr (ShC_one hes.one) (by unfold maxLen; omega) (Nat.le_trans (Nat.mul_le_mul hsmall hsm) (by decide)) hB ?_
  intro v' w' g1 g2 g3
  have ho : Only (fun k => v.ownBlock = some k) w w' := ⟨g2.os, g2.tape, g2.output, g2.size, fun k hk hn => g2.block k hk (fun e => hn e.symm)⟩
  refine h v' w' ⟨⟨ds ++ es, ?_, ?_⟩, fun k hk => ?_⟩ g2 g3
  · rw [List.length_append, ShC_app (by rw [hds.1]; simp)]
    exact g1
  · rw [List.map_append]
    exact (hds.only ho (fun k hk he => hne k he hk)).app (hes.only ho (fun k hk he => hne k he hk))
  · rcases g3 with g3 | g3
    · exact hne k (by rw [← g3]; exact hk)
    · rw [g3] at hk
      injection hk with hk
      intro hf
      have := hF k hf
      omega
end
end Go.Proofs.YtlgmbljfjfcpoaaGreat.Tx
/- A file system that falls, as plain data: its calls. (No Go in it.) -/
namespace Go.Proofs.YtlgmbljfjfcpoaaGreat.Tx

def changeM (st : FSM) (o : OpM) : FSM :=
  let o' : OpM := if o.kind = 1 then { o with f := { o.f with time := st.time + 1 } } else o
  { st with time := st.time + 1, now := applyM st.now o', pending := st.pending ++ [o'] }
def safeM (st : FSM) : FSM := { st with sure := st.now, pending := [] }
/-- How many bytes a file at p has; 0: there is none. -/
def oldM (R : List RowM) (p : List UInt8) : Nat := match findM R p with
  | none => 0
  | some i => match R[i]? with
    | none => 0
    | some r => r.f.data.length
def putE (st : FSM) (p : List UInt8) (mode : Int) (data : List UInt8) (only full : Bool) (room : Int) : Int :=
  if pathB p = false then 6
  else if mode < 1 ∨ 3 < mode then 1
  else if 20000 < data.length then 3
  else if (findM st.now p).isSome = true ∧ only = true then 8
  else if (findM st.now p).isNone = true ∧ mayM st.now p = false then 9
  else if full = true ∨ room < (usedM st.now : Int) - oldM st.now p + data.length then 10
  else 0
def putM (st : FSM) (p : List UInt8) (mode : Int) (data : List UInt8) (only full : Bool) (room : Int) : FSM :=
  if putE st p mode data only full room = 0 then changeM st ⟨1, [], p, ⟨mode, data, 0⟩⟩ else st
def dropE (st : FSM) (p : List UInt8) : Int := if pathB p = false then 6 else if (findM st.now p).isNone = true then 7 else 0
def dropM (st : FSM) (p : List UInt8) : FSM := if dropE st p = 0 then changeM st ⟨3, p, [], ⟨0, [], 0⟩⟩ else st
def userWE (st : FSM) (p : List UInt8) (mode : Int) (data : List UInt8) : Int := if st.down = true then 12 else putE st p mode data false false 1152921504606846976
def userWM (st : FSM) (p : List UInt8) (mode : Int) (data : List UInt8) : FSM :=
  if userWE st p mode data = 0 then
    let s := safeM (putM st p mode data false false 1152921504606846976)
    { s with user := s.user ++ [⟨s.calls, 4, mode, 0, 0, p, data⟩] }
  else st
def userRE (st : FSM) (p : List UInt8) : Int := if st.down = true then 12 else dropE st p
def userRM (st : FSM) (p : List UInt8) : FSM :=
  if userRE st p = 0 then
    let s := safeM (dropM st p)
    { s with user := s.user ++ [⟨s.calls, 5, 0, 0, 0, p, []⟩] }
  else st
/-- The first n pending changes made again. -/
def againM (st : FSM) (n : Nat) : List RowM := (st.pending.take n).foldl applyM st.sure
def crashM (st : FSM) (keep torn : Int) : FSM :=
  if st.down = true then st
  else
    let n := (min (max keep 0) (st.pending.length : Int)).toNat
    let l := againM st n
    let l2 := match st.pending[n]? with
      | none => l
      | some o => if o.kind = 1 ∧ 0 ≤ torn ∧ torn < (o.f.data.length : Int) then applyM l { o with f := { o.f with data := o.f.data.take torn.toNat } } else l
    { safeM { st with now := l2 } with down := true }
end Go.Proofs.YtlgmbljfjfcpoaaGreat.Tx
/- The reference's file system in memory; change. -/
namespace Go.Proofs.YtlgmbljfjfcpoaaGreat.Tx
open Go.RowKit Go.Proofs.YtlgmbljfjfcpoaaGreat.Sh

def opK : Shape where
  α := OpM
  cells := fun o d => [.int .i64 o.kind, .string (str o.fr), .string (str o.to), .int .i64 o.f.mode, d, .int .i64 o.f.time]
  data := fun o => o.f.data
  m := 6
  pos := by decide
  len := fun _ _ => rfl
  one := fun a d hd u hu => by
    simp only [List.mem_cons, List.not_mem_nil, or_false] at hu
    rcases hu with rfl | rfl | rfl | rfl | rfl | rfl <;> first | rfl | exact hd
def evK : Shape where
  α := EvM
  cells := fun e d => [.int .i64 e.at_, .int .i64 e.kind, .int .i64 e.mode, .int .i64 e.keep, .int .i64 e.torn, .string (str e.path), d]
  data := fun e => e.data
  m := 7
  pos := by decide
  len := fun _ _ => rfl
  one := fun a d hd u hu => by
    simp only [List.mem_cons, List.not_mem_nil, or_false] at hu
    rcases hu with rfl | rfl | rfl | rfl | rfl | rfl | rfl <;> first | rfl | exact hd
/-- The five slices of a file system in memory. -/
structure FsV where
  now : Value
  sure : Value
  pending : Value
  plan : Value
  user : Value
def fsC (st : FSM) (x : FsV) : Array Value := #[.int .i64 st.room, x.now, x.sure, x.pending, x.plan, .int .i64 st.calls, .int .i64 st.time, .bool st.down, x.user]
/-- The blocks that may change under it. -/
def fsM (b : Nat) (x : FsV) : Nat → Prop := fun k => k = b ∨ x.pending.ownBlock = some k ∨ x.user.ownBlock = some k
end Go.Proofs.YtlgmbljfjfcpoaaGreat.Tx
/- The reference's file system: change. -/
namespace Go.Proofs.YtlgmbljfjfcpoaaGreat.Tx
open Go.RowKit Go.Proofs.YtlgmbljfjfcpoaaGreat.Sh

def opOf (st : FSM) (o : OpM) : OpM := if o.kind = 1 then { o with f := { o.f with time := st.time + 1 } } else o
theorem opOf_yes {st : FSM} {o : OpM} (h : o.kind = 1) : opOf st o = { o with f := { o.f with time := st.time + 1 } } := by unfold opOf; rw [if_pos h]
theorem opOf_no {st : FSM} {o : OpM} (h : o.kind ≠ 1) : opOf st o = o := by unfold opOf; rw [if_neg h]

end Go.Proofs.YtlgmbljfjfcpoaaGreat.Tx
/- The reference's file system: copies of bytes, safe, drop. -/
namespace Go.Proofs.YtlgmbljfjfcpoaaGreat.Tx
open Go.RowKit Go.Proofs.YtlgmbljfjfcpoaaGreat.Sh

theorem OwnL.toG {K : Shape} {T : TypeId} {F F0 M' : Nat → Prop} {w wf : World} {B : Nat} {v : Value} {l : List K.α} (h : OwnL K T F0 wf B v l) (hF : ∀ k, k < wf.heap.size → F0 k → grow F w wf M' k) (hm : ∀ k, v.ownBlock = some k → M' k) (hn : ∀ k, v.ownBlock = some k → ¬ F k) : OwnL K T (grow F w wf M') wf B v l :=
  h.mono hF (fun k hk hg => by
    rcases hg with hf | ⟨_, _, hn'⟩
    · exact hn k hk hf
    · exact hn' (hm k hk))
/-- New bytes, as bytes that stay. -/
theorem OwnV.by_ {w : World} {B : Nat} {v : Value} {bs : List UInt8} {F : Nat → Prop} (h : OwnV 5 w B v (bs.map bv)) : By (fun k => F k ∨ (B ≤ k ∧ k < w.heap.size)) w v bs := by
  have h' : w.ownsRow B 5 1 v bs.length (bs.map bv) := by have := h; unfold OwnV at this; rwa [List.length_map] at this
  exact Rd.of_own h' (fun k hk => .inr (h'.lt k hk))

end Go.Proofs.YtlgmbljfjfcpoaaGreat.Tx
/- The reference's file system: drop, put. -/
namespace Go.Proofs.YtlgmbljfjfcpoaaGreat.Tx
open Go.RowKit Go.Proofs.YtlgmbljfjfcpoaaGreat.Sh

theorem By.nil_ (F : Nat → Prop) (w : World) : By F w (.slice none 0 0) [] := Rd.nil_ F w 1

end Go.Proofs.YtlgmbljfjfcpoaaGreat.Tx
/- The reference's file system: put. -/
namespace Go.Proofs.YtlgmbljfjfcpoaaGreat.Tx
open Go.RowKit Go.Proofs.YtlgmbljfjfcpoaaGreat.Sh

end Go.Proofs.YtlgmbljfjfcpoaaGreat.Tx
/- The reference's file system: what users do. -/
namespace Go.Proofs.YtlgmbljfjfcpoaaGreat.Tx
open Go.RowKit Go.Proofs.YtlgmbljfjfcpoaaGreat.Sh

theorem putE_len {st : FSM} {p : List UInt8} {mode : Int} {data : List UInt8} {only full : Bool} {room : Int} (h : putE st p mode data only full room = 0) : data.length ≤ 20000 := by
  unfold putE at h
  split at h
  · cases h
  · split at h
    · cases h
    · split at h
      · cases h
      · omega
theorem By.slv {F : Nat → Prop} {w : World} {v : Value} {bs : List UInt8} (h : By F w v bs) : SlV w v (bs.map bv) := by
  unfold By at h
  refine Rd.slv (F := F) ?_
  rw [List.length_map]
  exact h
end Go.Proofs.YtlgmbljfjfcpoaaGreat.Tx
/- The reference's file system: Crash. -/
namespace Go.Proofs.YtlgmbljfjfcpoaaGreat.Tx
open Go.RowKit Go.Proofs.YtlgmbljfjfcpoaaGreat.Sh

theorem apply_len (R : List RowM) (o : OpM) : (applyM R o).length ≤ R.length + 1 := by
  have hw : ∀ (R : List RowM) p f, (withM R p f).length ≤ R.length + 1 := fun R p f => by
    unfold withM
    have := without_le R p
    simp only [List.length_append, List.length_take, List.length_drop, List.length_singleton]
    omega
  unfold applyM
  split
  · exact hw _ _ _
  · split
    · split
      · omega
      · split
        · omega
        · have h1 := hw (withoutM R o.fr) o.to
          rename_i r _
          have h2 := h1 r.f
          have h3 := without_le R o.fr
          omega
    · have := without_le R o.fr; omega
theorem again_next {st : FSM} {k : Nat} {o : OpM} (h : st.pending[k]? = some o) : againM st (k + 1) = applyM (againM st k) o := by
  unfold againM
  obtain ⟨hl, e⟩ := List.getElem?_eq_some_iff.1 h
  rw [List.take_succ_eq_append_getElem hl, List.foldl_append, e]
  rfl
theorem again_len (st : FSM) : ∀ k, (againM st k).length ≤ st.sure.length + k
  | 0 => by simp [againM]
  | k + 1 => by
    have ih := again_len st k
    cases h : st.pending[k]? with
    | none =>
      have hl : st.pending.length ≤ k := by simpa using h
      have e : againM st (k + 1) = againM st k := by
        unfold againM
        rw [List.take_of_length_le hl, List.take_of_length_le (by omega)]
      rw [e]; omega
    | some o =>
      rw [again_next h]
      have := apply_len (againM st k) o
      omega
/-- Changes that are read. -/
def OpsTmp (F : Nat → Prop) (w : World) (v : Value) (l : List OpM) : Prop := TmpL opK F w v l
theorem OpsTmp.below {F : Nat → Prop} {w w' : World} {v : Value} {l : List OpM} (h : OpsTmp F w v l) (hb : Below w.heap.size w w') : OpsTmp F w' v l := TmpL.below h hb
theorem size_byte (w : World) : (sizeOf (Tryz.prog.elem 25)).run Tryz.prog w = .ok 1 w := by kernel_rfl
set_option maxRecDepth 100000 in
theorem bytes_front (A : Option Addr) (l c k : Nat) (hkc : k ≤ c) (w : World) : (Instr.slice 25 (.slice A l c) none (some (.int .i64 (k : Int))) none).run Tryz.prog w = .ok (.slice A k c) w := by
  rw [run_slice_h w 25 A l c Tryz.underlying25 .i64 k (by omega) (by omega), size_byte]
  simp only [Result.andThen_ok, sliced, Int.toNat_natCast]
  by_cases h : c = 0
  · subst h; simp
  · have e : A.map (fun a => a.add 0) = A := by cases A <;> simp [Addr.add]
    simp [h, e]
theorem By.take {F : Nat → Prop} {w : World} {A : Option Addr} {n c : Nat} {bs : List UInt8} (h : By F w (.slice A n c) bs) (k : Nat) (hk : k ≤ n) : By F w (.slice A k c) (bs.take k) := by
  obtain ⟨A', c', hv, h1, h2, h3, h4, h5⟩ := h
  injection hv with e1 e2 e3
  subst e1 e3
  have hl : (bs.take k).length = k := by rw [List.length_take]; omega
  refine ⟨A, c, by rw [hl], by rw [hl]; omega, h2, by simp, fun e => by rw [hl]; have := h4 e; omega, fun hn => ?_⟩
  obtain ⟨ad, e, hf, hlt, hc⟩ := h5 (by rw [hl] at hn; omega)
  refine ⟨ad, e, hf, hlt, fun j u hu => hc j u ?_⟩
  rw [List.map_take, List.getElem?_take] at hu
  split at hu
  · exact hu
  · cases hu
end Go.Proofs.YtlgmbljfjfcpoaaGreat.Tx
/- The reference's file system: Crash's walk. -/
namespace Go.Proofs.YtlgmbljfjfcpoaaGreat.Tx
open Go.RowKit Go.Proofs.YtlgmbljfjfcpoaaGreat.Sh

/-- How many of the pending changes a crash makes again; what is there then. -/
def keepM (st : FSM) (keep : Int) : Nat := (min (max keep 0) (st.pending.length : Int)).toNat
def tornM (st : FSM) (keep torn : Int) : List RowM := match st.pending[keepM st keep]? with
  | none => againM st (keepM st keep)
  | some o => if o.kind = 1 ∧ 0 ≤ torn ∧ torn < (o.f.data.length : Int) then applyM (againM st (keepM st keep)) { o with f := { o.f with data := o.f.data.take torn.toNat } } else againM st (keepM st keep)
def tornB (st : FSM) (keep torn : Int) : Bool := match st.pending[keepM st keep]? with
  | none => false
  | some o => decide (o.kind = 1 ∧ 0 ≤ torn ∧ torn < (o.f.data.length : Int))
theorem crash_down {st : FSM} (h : st.down = true) (keep torn : Int) : crashM st keep torn = st := by unfold crashM; rw [if_pos h]
theorem crash_up {st : FSM} (h : st.down = false) (keep torn : Int) : crashM st keep torn = { safeM { st with now := tornM st keep torn } with down := true } := by
  unfold crashM
  rw [if_neg (by rw [h]; decide)]
  rfl
def NewRows (F : Nat → Prop) (w : World) (v : Value) (l : List RowM) (wx : World) : Prop := RowsIn (fun k => F k ∨ (w.heap.size ≤ k ∧ k < wx.heap.size)) wx v l ∧ Below w.heap.size w wx

end Go.Proofs.YtlgmbljfjfcpoaaGreat.Tx
