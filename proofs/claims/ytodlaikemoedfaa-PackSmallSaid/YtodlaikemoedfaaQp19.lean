/- Texts put together: YTq3, YTb0, YOb0. -/
import Derived.Test.YtodlaikemoedfaaQp18
import GoSem.Op.String
import Derived.Test.YtodlaikemoedfaaQp17
import Derived.Lib.AppendStr
import Derived.Test.YtodlaikemoedfaaQp15
/- Texts in order: plain lists. -/
namespace Go.Proofs.Ytodlaikemoedfaa.Tx

/-- Does a stand before b? -/
abbrev bl (a b : List UInt8) : Bool := Op.bytesLess a b
/-- Compare. -/
def cmpL (a b : List UInt8) : Int := if bl a b then -1 else if a = b then 0 else 1
end Go.Proofs.Ytodlaikemoedfaa.Tx
/- Bytes, as slices of one-cell values; appended to, and made a text. (No package's code in it.) -/
namespace Go.Proofs.Ytodlaikemoedfaa.Tx
open Go.RowKit Go.Proofs.Ytodlaikemoedfaa.Sh

/-- A byte, as a value. -/
def bv (u : UInt8) : Value := .int .u8 (bi u)
theorem bv_one (l : List UInt8) : ∀ u ∈ l.map bv, u.oneCell' = true := by intro u hu; simp only [List.mem_map] at hu; obtain ⟨x, _, rfl⟩ := hu; rfl
theorem info_u8 : (Try.prog.info? 5).map (fun i => (i.zero, i.size, i.bytes)) = some (some (.int .u8 0), 1, 1) := by kernel_rfl
theorem append_bytes {ops : Array Oper} {rest : List Oper} {o : Oper} {a : Act} {Q : Exit → Act → World → Prop} (hgd : o.guard = none) (s x : Operand)
    (ho : o.op = .call { callee := .builtin .append, args := #[s, x], argTypes := #[25, 25] }) (w : World) (B : Nat) (v : Value) (bs : List UInt8) (hs : a.eval s = v) (hown : OwnV 5 w B v (bs.map bv))
    (B' : Nat) (A : Option Addr) (m c : Nat) (us : List UInt8) (hx : a.eval x = .slice A m c) (hr : Reads w B' 1 A m (us.map bv)) (hsmall : bs.length + m ≤ 140737488355328) (hB : B ≤ w.heap.size)
    (h : ∀ v' w', OwnV 5 w' B v' ((bs ++ us).map bv) → Below B w w' → wpList Try.prog ops Q rest (a.put o.dst v') w') : wpList Try.prog ops Q (o :: rest) a w := by
  obtain ⟨i0, hi, hz0, hz1, hz2⟩ := info_parts info_u8
  have hm : us.length = m := by have := hr.1; simpa using this
  have hown' : w.ownsRow B 5 1 v bs.length (bs.map bv) := by have := hown; unfold OwnV at this; rwa [List.length_map] at this
  refine wpList_append_any w hgd s x 25 ho B 5 i0 (.int .u8 0) 1 1 Try.underlying25 hi hz0 hz1 hz2 rfl (by decide) v bs.length _ hs hown' B' A m c _ hx hr (bv_one us) (by unfold maxLen; omega) (by omega) hB ?_
  intro v' w' h1 h2 _
  refine h v' w' ?_ ((Below.refl _ _).grown h2 hB (fun k hk => (hown'.lt k hk).1))
  unfold OwnV
  rw [List.length_map, List.length_append, hm, List.map_append]
  exact h1
theorem append_byte {ops : Array Oper} {rest : List Oper} {o : Oper} {a : Act} {Q : Exit → Act → World → Prop} (hgd : o.guard = none) (s x : Operand)
    (ho : o.op = .call { callee := .builtin .append, args := #[s, x], argTypes := #[25, 25] }) (w : World) (B : Nat) (v : Value) (bs : List UInt8) (hs : a.eval s = v) (hown : OwnV 5 w B v (bs.map bv))
    (k : Int) (u : UInt8) (hu : bi u = k) (hx : a.eval x = .slice (some ⟨w.heap.size, 0, none⟩) 1 1) (hsmall : bs.length + 1 ≤ 140737488355328) (hB : B ≤ w.heap.size)
    (h : ∀ v' w', OwnV 5 w' B v' ((bs ++ [u]).map bv) → Below B w w' → wpList Try.prog ops Q rest (a.put o.dst v') w') : wpList Try.prog ops Q (o :: rest) a (w.alloc (.cells #[.int .u8 k] 5)) := by
  subst hu
  have hr : Reads (w.alloc (.cells #[.int .u8 (bi u)] 5)) (w.heap.size + 1) 1 (some ⟨w.heap.size, 0, none⟩) 1 ([u].map bv) := by
    refine ⟨rfl, fun _ => ⟨_, rfl, by simp, fun j v hv => ?_⟩⟩
    rw [Addr.add_mid, cell_of_row _ _ _ _ 5 (0, 0) (heap_alloc_new w _), Nat.zero_add, ← hv]
    simp [bv]
  refine append_bytes hgd s x ho _ B v bs hs (hown.alloc _) _ _ 1 1 [u] hx hr hsmall (by simp; omega) ?_
  intro v' w' h1 h2
  exact h v' w' h1 (((Below.refl _ _).alloc hB _).trans h2)
theorem str_push (ns : List UInt8) : ∀ base : List UInt8, ((ns.map bi).foldl (fun r n => r.push (UInt8.ofNat n.toNat)) (str base)) = str (base ++ ns) := by
  induction ns with
  | nil => intro base; simp
  | cons n ns ih =>
    intro base
    have e : (str base).push (UInt8.ofNat (bi n).toNat) = str (base ++ [n]) := by
      have h : UInt8.ofNat (bi n).toNat = n := by rw [bi_nat]; simp
      rw [h]
      unfold str ByteArray.push
      simp
    rw [List.map_cons, List.foldl_cons, e, ih]
    simp
set_option maxRecDepth 100000 in
/-- 'string(b)'. -/
theorem conv_str (w : World) (A : Option Addr) (bs : List UInt8) (n c : Nat) (hn : bs.length = n) (h : SlV w (.slice A n c) (bs.map bv)) :
    (convert 25 9 (.slice A n c)).run Try.prog w = .ok (.string (str bs)) w := by
  subst hn
  obtain ⟨A', c', hv, _, _, hr, hA⟩ := h
  injection hv with e1 e2 e3
  subst e1 e3
  rw [run_convert_bytes_string w 25 9 5 A bs.length c Try.underlying25 Try.underlying5 Try.underlying9]
  rcases A with _ | ad
  · have h0 : bs = [] := by simpa using hA rfl
    subst h0
    simp [Conv.bytesToString, Sem.run_pure, str]
    rfl
  · have hl : (loadCells ad bs.length).run Try.prog w = .ok ((bs.map bi).map (Value.int .u8)).toArray w := by
      have := run_loadCells_list (P := Try.prog) w ad (bs.map bv) (fun j v hv => by
        obtain ⟨ad', e, hc⟩ := reads_at hr j v hv
        injection e with e
        rw [e]
        exact hc)
      have e : (bs.map bi).map (Value.int .u8) = bs.map bv := by rw [List.map_map]; rfl
      rw [e]
      simpa using this
    rw [run_bytesToString w ad bs.length c _ hl]
    have := str_push bs []
    rw [List.nil_append] at this
    have e0 : ByteArray.empty = str [] := rfl
    rw [e0, this]
end Go.Proofs.Ytodlaikemoedfaa.Tx
/- Objects: plain, and as values. -/
namespace Go.Proofs.Ytodlaikemoedfaa.Ob
open Go.RowKit Go.Proofs.Ytodlaikemoedfaa.Sh
open Go.Proofs.Ytodlaikemoedfaa.Tx (OwnV SlV sv bl nameB reads_at texts_at toList_ne')

/-- An item: its mode, its name, its hash. -/
abbrev ItM := Int × List UInt8 × List UInt8
/-- An object. -/
structure ObM where
  kind : Int
  data : List UInt8
  items : List ItM
  tree : List UInt8
  parents : List (List UInt8)
  stamp : Int
  author : Int
  msg : List UInt8
def itC (x : ItM) : List Value := [.int .i64 x.1, .string (str x.2.1), .string (str x.2.2)]
theorem itC_one (l : List ItM) : ∀ u ∈ l.flatMap itC, u.oneCell' = true := by
  intro u hu
  rw [List.mem_flatMap] at hu
  obtain ⟨x, _, hx⟩ := hu
  simp [itC] at hx
  rcases hx with rfl | rfl | rfl <;> rfl
theorem itC_at (l : List ItM) : ∀ (k : Nat) (x : ItM), l[k]? = some x → (l.flatMap itC)[k * 3]? = some (.int .i64 x.1) ∧ (l.flatMap itC)[k * 3 + 1]? = some (.string (str x.2.1)) ∧ (l.flatMap itC)[k * 3 + 2]? = some (.string (str x.2.2)) := by
  induction l with
  | nil => intro k x h; simp at h
  | cons y l ih =>
    intro k x h
    cases k with
    | zero =>
      simp at h
      subst h
      exact ⟨rfl, rfl, rfl⟩
    | succ k =>
      obtain ⟨h0, h1, h2⟩ := ih k x (by simpa using h)
      have e : ∀ j, ((y :: l).flatMap itC)[(k + 1) * 3 + j]? = (l.flatMap itC)[k * 3 + j]? := by
        intro j
        rw [List.flatMap_cons, List.getElem?_append_right (by simp [itC]; omega)]
        congr 1
        simp [itC]
        omega
      exact ⟨(e 0).trans h0, (e 1).trans h1, (e 2).trans h2⟩
/-- v is a slice that reads as the items l. -/
def SlI (w : World) (v : Value) (l : List ItM) : Prop := ∃ A c, v = .slice A l.length c ∧ l.length ≤ c ∧ c ≤ maxLen ∧ (A = none → l = []) ∧ Reads w w.heap.size 3 A l.length (l.flatMap itC)
def OwnI (T : TypeId) (w : World) (B : Nat) (v : Value) (l : List ItM) : Prop := w.ownsRow B T 3 v l.length (l.flatMap itC)
section
variable {T : TypeId} {w w' : World} {B : Nat} {v : Value} {l : List ItM}
theorem SlI.below (h : SlI w v l) (hb : Below w.heap.size w w') : SlI w' v l := by
  obtain ⟨A, c, hv, h1, h2, h3, h4⟩ := h
  exact ⟨A, c, hv, h1, h2, h3, (h4.below hb).more hb.size⟩
theorem SlI.nil_ (w : World) : SlI w (.slice none 0 0) [] := ⟨none, 0, rfl, by simp, by unfold maxLen; omega, fun _ => rfl, ⟨by simp, fun h => absurd h (by simp)⟩⟩
theorem items_at {A : Option Addr} {n : Nat} (h : Reads w B 3 A n (l.flatMap itC)) (hn : n = l.length) (k : Nat) (x : ItM) (hk : l[k]? = some x) :
    ∃ ad, A = some ad ∧ w.cell? (ad.add (k * 3)) = some (.int .i64 x.1) ∧ w.cell? ⟨(ad.add (k * 3)).block, (ad.add (k * 3)).off + 1, none⟩ = some (.string (str x.2.1)) ∧ w.cell? ⟨(ad.add (k * 3)).block, (ad.add (k * 3)).off + 2, none⟩ = some (.string (str x.2.2)) := by
  have hl : k < l.length := (List.getElem?_eq_some_iff.1 hk).1
  obtain ⟨ad, e, _, hc⟩ := h.2 (by omega)
  obtain ⟨h0, h1, h2⟩ := itC_at l k x hk
  refine ⟨ad, e, hc _ _ h0, ?_, ?_⟩
  · rw [← Tx.add_field' ad (k * 3) 1 (by omega)]
    exact hc _ _ h1
  · rw [← Tx.add_field' ad (k * 3) 2 (by omega)]
    exact hc _ _ h2
theorem OwnI.nil_ (T : TypeId) (w : World) (B : Nat) : OwnI T w B (.slice none 0 0) [] := World.ownsRow_nil w B T 3
theorem OwnI.alloc (h : OwnI T w B v l) (o : Obj) : OwnI T (w.alloc o) B v l := World.ownsRow.alloc h o
theorem OwnI.drew (h : OwnI T w B v l) : OwnI T w.drew B v l := h
theorem OwnI.below (h : OwnI T w B v l) (hb : Below w.heap.size w w') : OwnI T w' B v l :=
  World.ownsRow.kept h (only_of_below hb none) (by cases hv : v.ownBlock <;> simp)
theorem OwnI.lt (h : OwnI T w B v l) (k : Nat) (hk : v.ownBlock = some k) : B ≤ k ∧ k < w.heap.size := World.ownsRow.lt h k hk
theorem OwnI.base {B' : Nat} (h : OwnI T w B v l) (hB : B' ≤ B) : OwnI T w B' v l := by
  refine ⟨h.1, ?_⟩
  rcases h.2 with h0 | ⟨g, cap, cur, hv, hb, rest⟩
  · exact .inl h0
  · exact .inr ⟨g, cap, cur, hv, by omega, rest⟩
theorem OwnI.slI (h : OwnI T w B v l) : SlI w v l := by
  rcases h.2 with ⟨rfl, h0⟩ | ⟨g, cap, cur, rfl, hb, hg, hc, hm, hcs, htk⟩
  · have : l = [] := List.eq_nil_of_length_eq_zero h0
    subst this
    exact SlI.nil_ w
  · have hr := Reads.of_own (show w.ownsRow B T 3 (.slice (some ⟨g, 0, none⟩) l.length cap) l.length (l.flatMap itC) from h)
    exact ⟨_, cap, rfl, hc, hm, (fun e => by cases e), hr⟩
end
/-- v is an object's value. -/
def ObV (w : World) (v : Value) (o : ObM) : Prop := ∃ d it ps, v = .agg #[.int .i64 o.kind, d, it, .string (str o.tree), ps, .int .i64 o.stamp, .int .i64 o.author, .string (str o.msg)] ∧ Sl w d o.data ∧ SlI w it o.items ∧ SlV w ps ((o.parents.map str).map sv)
theorem ObV.below {w w' : World} {v : Value} {o : ObM} (h : ObV w v o) (hb : Below w.heap.size w w') : ObV w' v o := by
  obtain ⟨d, it, ps, hv, h1, h2, h3⟩ := h
  exact ⟨d, it, ps, hv, h1.below hb, h2.below hb, h3.below hb⟩
/-- What a call that answers a bool leaves. -/
def BoolPost (w : World) (t : Bool) (e : Ending) (w' : World) : Prop := e = .returned (.bool t) ∧ Below w.heap.size w w'
end Go.Proofs.Ytodlaikemoedfaa.Ob
