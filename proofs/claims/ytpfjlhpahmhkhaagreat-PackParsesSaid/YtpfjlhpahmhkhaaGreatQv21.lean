/- Texts put together: VOb7, VOb8, VOb9, VOb10, VOb11, VOb12, VOb13. -/
import Derived.Test.YtpfjlhpahmhkhaaGreatQv20
import Derived.IntWalk
/- obj: putNumber, putText, putHash. -/
namespace Go.Proofs.YtpfjlhpahmhkhaaGreat.Ob
open Go.RowKit Go.Proofs.YtpfjlhpahmhkhaaGreat.Sh
open Go.Proofs.YtpfjlhpahmhkhaaGreat.Tx (OwnV SlV sv bl nameB reads_at texts_at toList_ne')
structure Kp (B : Nat) (w w' : World) : Prop where
 below : Below B w w'
 blk : ∀ k t cs, Blk w k t cs → t ≠ 5 → Blk w' k t cs
theorem Kp.refl (B : Nat) (w : World) : Kp B w w := ⟨Below.refl _ _, fun _ _ _ h _ => h⟩
theorem Kp.trans {B : Nat} {w w1 w2 : World} (h : Kp B w w1) (h2 : Kp B w1 w2) : Kp B w w2 := ⟨h.below.trans h2.below, fun k t cs hb ht => h2.blk k t cs (h.blk k t cs hb ht) ht⟩
theorem Kp.of_below {B : Nat} {w w' : World} (h : Below w.heap.size w w') (hB : B ≤ w.heap.size) : Kp B w w' := ⟨h.mono hB, fun _ _ _ hb _ => hb.below h hb.lt⟩
theorem Kp.alloc {B : Nat} {w w' : World} (h : Kp B w w') (hB : B ≤ w'.heap.size) (o : Obj) : Kp B w (w'.alloc o) := h.trans (Kp.of_below ((Below.refl _ _).alloc (Nat.le_refl _) o) hB)
theorem Kp.size {B : Nat} {w w' : World} (h : Kp B w w') : w.heap.size ≤ w'.heap.size := h.below.size
theorem Kp.grown {B : Nat} {w w' : World} {v : Value} {bs : List UInt8} (hown : Own w B v bs) (h : w.grownBy w' v.ownBlock) (hB : B ≤ w.heap.size) : Kp B w w' := by
 refine ⟨(Below.refl _ _).grown h hB (fun k hk => (World.ownsRow.lt hown k hk).1), fun k t cs hb ht => hb.grown h ?_⟩
 intro e
 rcases hown.2 with ⟨rfl, _⟩ | ⟨g, cap, cur, rfl, _, hg, _⟩
 ·cases e
 ·have e' : k = g := by simpa [Value.ownBlock] using e
  subst e'
  exact Blk.ne_ hb hg ht rfl
def AppPost (w : World) (B : Nat) (bs news : List UInt8) (e : Ending) (w' : World) : Prop := ∃ v, e = .returned v ∧ Own w' B v (bs ++ news) ∧ Kp B w w'
theorem app_bytes {ops : Array Oper} {rest : List Oper} {o : Oper} {a : Act} {Q : Exit → Act → World → Prop} (hgd : o.guard = none) (s x : Operand)
  (ho : o.op = .call { callee := .builtin .append, args := #[s, x], argTypes := #[32, 32] }) (w : World) (B : Nat) (v : Value) (bs : List UInt8) (hs : a.eval s = v) (hown : Own w B v bs)
  (B' : Nat) (A : Option Addr) (m c : Nat) (news : List UInt8) (hx : a.eval x = .slice A m c) (hr : Reads w B' 1 A m (news.map bv)) (hsmall : bs.length + m ≤ 140737488355328) (hB : B ≤ w.heap.size)
  (h : ∀ v' w', Own w' B v' (bs ++ news) → Kp B w w' → wpList Tryz.prog ops Q rest (a.put o.dst v') w') : wpList Tryz.prog ops Q (o :: rest) a w := by
 obtain ⟨i0, hi, hz0, hz1, hz2⟩ := info_parts info5
 have hm : news.length = m := by have := hr.1; simpa using this
 refine wpList_append_any w hgd s x 32 ho B 5 i0 (.int .u8 0) 1 1 Tryz.underlying32 hi hz0 hz1 hz2 rfl (by decide) v bs.length _ hs hown B' A m c _ hx hr (bv_one news) (by unfold maxLen; omega) (by omega) hB ?_
 intro v' w' h1 h2 _
 refine h v' w' ?_ (Kp.grown hown h2 hB)
 unfold Own
 rw [List.length_append, hm, List.map_append]
 exact h1
theorem str_cells (us : List UInt8) : Lib.strCells (str us) = us.map bv := by
 unfold Lib.strCells str
 apply List.map_congr_left
 intro u _
 unfold bv bi
 rfl
theorem app_str {ops : Array Oper} {rest : List Oper} {o : Oper} {a : Act} {Q : Exit → Act → World → Prop} (hgd : o.guard = none) (s x : Operand)
  (ho : o.op = .call { callee := .builtin .append, args := #[s, x], argTypes := #[32, 9] }) (w : World) (B : Nat) (v : Value) (bs : List UInt8) (hs : a.eval s = v) (hown : Own w B v bs)
  (us : List UInt8) (hx : a.eval x = .string (str us)) (hsmall : bs.length + us.length ≤ 140737488355328) (hB : B ≤ w.heap.size)
  (h : ∀ v' w', Own w' B v' (bs ++ us) → Kp B w w' → wpList Tryz.prog ops Q rest (a.put o.dst v') w') : wpList Tryz.prog ops Q (o :: rest) a w := by
 obtain ⟨i0, hi, hz0, hz1, hz2⟩ := info_parts info5
 have hsz := str_size us
 refine Lib.wpList_append_own_string w hgd s x 32 9 ho B 5 i0 Tryz.underlying32 Tryz.underlying9 hi hz0 hz1 hz2 v bs.length _ hs hown (str us) hx (by unfold maxLen; omega) (by omega) hB ?_
 intro v' w' h1 h2 _
 refine h v' w' ?_ (Kp.grown hown h2 hB)
 unfold Own
 rw [List.length_append, List.map_append, ← str_cells us, ← hsz]
 exact h1
theorem Own.based {w : World} {B B' : Nat} {v : Value} {bs : List UInt8} (h : Own w B v bs) (hB : B' ≤ B) : Own w B' v bs := by
 refine ⟨h.1, ?_⟩
 rcases h.2 with h0 | ⟨g, cap, cur, hv, hb, rest⟩
 ·exact .inl h0
 ·exact .inr ⟨g, cap, cur, hv, by omega, rest⟩
end Go.Proofs.YtpfjlhpahmhkhaaGreat.Ob
/- obj: putItems. -/
namespace Go.Proofs.YtpfjlhpahmhkhaaGreat.Ob
open Go.RowKit Go.Proofs.YtpfjlhpahmhkhaaGreat.Sh
open Go.Proofs.YtpfjlhpahmhkhaaGreat.Tx (OwnV SlV sv bl nameB reads_at texts_at toList_ne')
def encI (x : ItM) : List UInt8 := [UInt8.ofNat x.1.toNat] ++ (putL x.2.1.length ++ x.2.1) ++ unhexL x.2.2
def encIs (l : List ItM) : List UInt8 := putL l.length ++ l.flatMap encI
theorem validB_len {id : List UInt8} (h : validB id = true) : id.length = 64 ∧ hexOk id = true := by
 unfold validB at h
 rwa [Bool.and_eq_true, beq_iff_eq] at h
theorem nameB_len {s : List UInt8} (h : nameB s = true) : 1 ≤ s.length ∧ s.length ≤ 64 := by
 rw [Tx.nameB_eq] at h
 simp only [Bool.and_eq_true, decide_eq_true_eq] at h
 omega
theorem itB_of {x : ItM} (h : itB x = true) : 1 ≤ x.1 ∧ x.1 ≤ 4 ∧ nameB x.2.1 = true ∧ validB x.2.2 = true := by
 unfold itB at h
 simp only [Bool.and_eq_true, decide_eq_true_eq] at h
 exact ⟨h.1.1.1, h.1.1.2, h.1.2, h.2⟩
theorem encI_len {x : ItM} (h : itB x = true) : (encI x).length ≤ 106 := by
 obtain ⟨_, _, h3, h4⟩ := itB_of h
 have := nameB_len h3
 have := validB_len h4
 have := putL_len9 (show x.2.1.length ≤ 72057594037927936 from by omega)
 unfold encI
 simp only [List.length_append, List.length_cons, List.length_nil, unhexL_length]
 omega
theorem itemsB_of {l : List ItM} (h : itemsB l = true) : l.length ≤ 256 ∧ ∀ (k : Nat) (x : ItM), l[k]? = some x → itB x = true := by
 unfold itemsB at h
 rw [Bool.and_eq_true, decide_eq_true_eq, List.all_eq_true] at h
 refine ⟨h.1, fun k x hx => ?_⟩
 have hk := (List.getElem?_eq_some_iff.1 hx).1
 have h2 := h.2 k (List.mem_range.2 hk)
 unfold itemJ at h2
 rw [List.getD_eq_getElem?_getD, hx, Bool.and_eq_true] at h2
 exact h2.1
theorem encIs_len {l : List ItM} (h : ∀ (k : Nat) (x : ItM), l[k]? = some x → itB x = true) : (l.flatMap encI).length ≤ l.length * 106 := by
 induction l with
 | nil => simp
 | cons x l ih =>
  have h1 := encI_len (h 0 x rfl)
  have h2 := ih (fun k y hy => h (k + 1) y (by simpa using hy))
  rw [List.flatMap_cons, List.length_append, List.length_cons]
  omega
theorem flat_snoc {l : List ItM} {k : Nat} {x : ItM} (h : l[k]? = some x) : (l.take (k + 1)).flatMap encI = (l.take k).flatMap encI ++ encI x := by
 obtain ⟨hk, e⟩ := List.getElem?_eq_some_iff.1 h
 rw [List.take_succ_eq_append_getElem hk, List.flatMap_append, e]
 simp
theorem mode_byte {m : Int} (h1 : 1 ≤ m) (h2 : m ≤ 4) : IntKind.u8.wrap m = bi (UInt8.ofNat m.toNat) := by
 unfold bi
 rw [IntKind.wrap_u8, UInt8.toNat_ofNat']
 omega
theorem len_byte (n : Nat) (_h : n ≤ 255) : IntKind.u8.wrap (n : Int) = bi (UInt8.ofNat n) := by
 unfold bi
 rw [IntKind.wrap_u8, UInt8.toNat_ofNat']
 omega
end Go.Proofs.YtpfjlhpahmhkhaaGreat.Ob
/- obj: putCommit. -/
namespace Go.Proofs.YtpfjlhpahmhkhaaGreat.Ob
open Go.RowKit Go.Proofs.YtpfjlhpahmhkhaaGreat.Sh
open Go.Proofs.YtpfjlhpahmhkhaaGreat.Tx (OwnV SlV sv bl nameB reads_at texts_at toList_ne')
def encC (o : ObM) : List UInt8 := unhexL o.tree ++ [UInt8.ofNat o.parents.length] ++ o.parents.flatMap unhexL ++ putL o.stamp.toNat ++ putL o.author.toNat ++ (putL o.msg.length ++ o.msg)
theorem parB_of {ids : List (List UInt8)} (h : parB ids = true) : ids.length ≤ 2 ∧ ∀ (k : Nat) (x : List UInt8), ids[k]? = some x → validB x = true := by
 unfold parB at h
 rw [Bool.and_eq_true, decide_eq_true_eq, List.all_eq_true] at h
 refine ⟨h.1, fun k x hx => ?_⟩
 have hk := (List.getElem?_eq_some_iff.1 hx).1
 have h2 := h.2 k (List.mem_range.2 hk)
 rw [List.getD_eq_getElem?_getD, hx, Bool.and_eq_true] at h2
 exact h2.1
theorem flat_ids_len {ids : List (List UInt8)} (h : ∀ (k : Nat) (x : List UInt8), ids[k]? = some x → validB x = true) : (ids.flatMap unhexL).length = ids.length * 32 := by
 induction ids with
 | nil => simp
 | cons x l ih =>
  have h1 := validB_len (h 0 x rfl)
  have h2 := ih (fun k y hy => h (k + 1) y (by simpa using hy))
  rw [List.flatMap_cons, List.length_append, List.length_cons, unhexL_length]
  omega
theorem flat_id_snoc {l : List (List UInt8)} {k : Nat} {x : List UInt8} (h : l[k]? = some x) : (l.take (k + 1)).flatMap unhexL = (l.take k).flatMap unhexL ++ unhexL x := by
 obtain ⟨hk, e⟩ := List.getElem?_eq_some_iff.1 h
 rw [List.take_succ_eq_append_getElem hk, List.flatMap_append, e]
 simp
structure CommOk (T : List UInt8) (P : List (List UInt8)) (st au : Int) (ms : List UInt8) : Prop where
 tree : validB T = true
 par : parB P = true
 st0 : 0 ≤ st
 st1 : st ≤ 1099511627776
 au0 : 0 ≤ au
 au1 : au ≤ 255
 msg : msgB ms = true
theorem msgB_len {s : List UInt8} (h : msgB s = true) : s.length ≤ 200 := by
 unfold msgB at h
 rw [Bool.and_eq_true, decide_eq_true_eq] at h
 exact h.1
theorem commB_of {o : ObM} (h : commB o = true) : o.data = [] ∧ o.items = [] ∧ CommOk o.tree o.parents o.stamp o.author o.msg := by
 unfold commB at h
 simp only [Bool.and_eq_true, decide_eq_true_eq] at h
 obtain ⟨⟨⟨⟨⟨⟨⟨⟨h1, h2⟩, h3⟩, h4⟩, h5⟩, h6⟩, h7⟩, h8⟩, h9⟩ := h
 exact ⟨List.eq_nil_of_length_eq_zero h1, List.eq_nil_of_length_eq_zero h2, h3, h4, h5, h6, h7, h8, h9⟩
end Go.Proofs.YtpfjlhpahmhkhaaGreat.Ob
/- obj: Encode. -/
namespace Go.Proofs.YtpfjlhpahmhkhaaGreat.Ob
open Go.RowKit Go.Proofs.YtpfjlhpahmhkhaaGreat.Sh
open Go.Proofs.YtpfjlhpahmhkhaaGreat.Tx (OwnV SlV sv bl nameB reads_at texts_at toList_ne')
def encL (o : ObM) : List UInt8 := [UInt8.ofNat o.kind.toNat] ++ (if o.kind = 1 then o.data else if o.kind = 2 then encIs o.items else encC o)
def EncPost (w : World) (o : ObM) (e : Ending) (w' : World) : Prop :=
 (mayB o = true → ∃ u, e = .returned (.tuple #[u, .int .i64 0]) ∧ Own w' w.heap.size u (encL o)) ∧ (mayB o = false → e = .returned (.tuple #[.slice none 0 0, .int .i64 1])) ∧ Below w.heap.size w w'
theorem own_one (w : World) (k : Int) (u : UInt8) (hu : bi u = k) : Own (w.alloc (.cells #[.int .u8 k] 5)) w.heap.size (.slice (some ⟨w.heap.size, 0, none⟩) 1 1) [u] := by
 subst hu
 refine ⟨rfl, .inr ⟨w.heap.size, 1, _, rfl, Nat.le_refl _, heap_alloc_new w _, Nat.le_refl _, by unfold maxLen; omega, rfl, rfl⟩⟩
theorem blobB_of {o : ObM} (h : blobB o = true) : o.data.length ≤ 20000 ∧ { o with data := [] } = objK 1 := by
 unfold blobB at h
 rw [Bool.and_eq_true, decide_eq_true_eq, sameB_iff] at h
 exact h
theorem treeB_of {o : ObM} (h : treeB o = true) : itemsB o.items = true ∧ { o with items := [] } = objK 2 := by
 unfold treeB at h
 rw [Bool.and_eq_true, sameB_iff] at h
 exact h
theorem mayB_kind {o : ObM} (h : mayB o = true) : (o.kind = 1 ∧ blobB o = true) ∨ (o.kind = 2 ∧ treeB o = true) ∨ (o.kind = 3 ∧ commB o = true) := by
 unfold mayB at h
 split at h
 ·exact .inl ⟨by assumption, h⟩
 ·split at h
  ·exact .inr (.inl ⟨by assumption, h⟩)
  ·split at h
   ·exact .inr (.inr ⟨by assumption, h⟩)
   ·cases h
theorem bi_1 : bi 1 = 1 := by unfold bi; rfl
theorem bi_2 : bi 2 = 2 := by unfold bi; rfl
theorem bi_3 : bi 3 = 3 := by unfold bi; rfl
end Go.Proofs.YtpfjlhpahmhkhaaGreat.Ob
/- marlaw6: Few. -/
namespace Go.Proofs.YtpfjlhpahmhkhaaGreat.Ob
open Go.RowKit Go.Proofs.YtpfjlhpahmhkhaaGreat.Sh
open Go.Proofs.YtpfjlhpahmhkhaaGreat.Tx (OwnV SlV sv bl nameB reads_at texts_at toList_ne')
structure FewOk (o : ObM) : Prop where
 items : o.items.length ≤ 400
 parents : o.parents.length ≤ 400
 data : o.data.length ≤ 30000
 tree : o.tree.length ≤ 30000
 msg : o.msg.length ≤ 30000
def FewPost (w : World) (o : ObM) (e : Ending) (w' : World) : Prop := ∃ t, e = .returned (.bool t) ∧ (t = true → FewOk o) ∧ Below w.heap.size w w'
end Go.Proofs.YtpfjlhpahmhkhaaGreat.Ob
/- obj: ID, Refs; marlaw6: first. -/
namespace Go.Proofs.YtpfjlhpahmhkhaaGreat.Ob
open Go.RowKit Go.Proofs.YtpfjlhpahmhkhaaGreat.Sh
open Go.Proofs.YtpfjlhpahmhkhaaGreat.Tx (OwnV SlV sv bl nameB reads_at texts_at toList_ne')
def Yes (w : World) (e : Ending) (w' : World) : Prop := e = .returned (.bool true) ∧ Below w.heap.size w w'
def IDPost (w : World) (o : ObM) (e : Ending) (w' : World) : Prop :=
 (mayB o = true → e = .returned (.tuple #[.string (str (hexL (sumOf (encL o)))), .int .i64 0])) ∧ (mayB o = false → e = .returned (.tuple #[.string (str []), .int .i64 1])) ∧ Below w.heap.size w w'
end Go.Proofs.YtpfjlhpahmhkhaaGreat.Ob
/- The reader of an object's bytes, plain: what it reads of what was written, and what was written where it read. -/
namespace Go.Proofs.YtpfjlhpahmhkhaaGreat.Ob
open Go.Proofs.YtpfjlhpahmhkhaaGreat.Sh
open Go.Proofs.YtpfjlhpahmhkhaaGreat.Tx (nameB bl)
abbrev Rdr := List UInt8 × Bool
def takeR (s : Rdr) (n : Nat) : List UInt8 × Rdr := if s.1.length < n then ([], ([], true)) else (s.1.take n, (s.1.drop n, s.2))
def octR (s : Rdr) : Nat × Rdr := (((takeR s 1).1.headD 0).toNat, (takeR s 1).2)
def numR (s : Rdr) : Nat × Rdr := if (getE s.1).2.2 = 0 then ((getE s.1).1, (s.1.drop (getE s.1).2.1, s.2)) else (0, ([], true))
def textR (s : Rdr) : List UInt8 × Rdr := takeR (numR s).2 (numR s).1
def hashR (s : Rdr) : List UInt8 × Rdr := (hexL (takeR s 32).1, (takeR s 32).2)
def itemR (s : Rdr) : ItM × Rdr := ((((octR s).1 : Int), (textR (octR s).2).1, (hashR (textR (octR s).2).2).1), (hashR (textR (octR s).2).2).2)
def itemsR : Nat → Rdr → List ItM × Rdr
 | 0, s => ([], s)
 | n + 1, s => if s.2 = true then ([], s) else ((itemR s).1 :: (itemsR n (itemR s).2).1, (itemsR n (itemR s).2).2)
def idsR : Nat → Rdr → List (List UInt8) × Rdr
 | 0, s => ([], s)
 | n + 1, s => ((hashR s).1 :: (idsR n (hashR s).2).1, (idsR n (hashR s).2).2)
structure ComM where
 tree : List UInt8
 parents : List (List UInt8)
 stamp : Nat
 author : Nat
 msg : List UInt8
def commM (t : List UInt8) (ids : List (List UInt8)) (st au : Nat) (s : Rdr) : ComM × Rdr := (⟨t, ids, st, au, (textR s).1⟩, (textR s).2)
def commA (t : List UInt8) (ids : List (List UInt8)) (st : Nat) (s : Rdr) : ComM × Rdr := commM t ids st (numR s).1 (numR s).2
def commS (t : List UInt8) (ids : List (List UInt8)) (s : Rdr) : ComM × Rdr := commA t ids (numR s).1 (numR s).2
def commP (t : List UInt8) (s : Rdr) : ComM × Rdr := commS t (idsR (octR s).1 (octR s).2).1 (idsR (octR s).1 (octR s).2).2
def commR (s : Rdr) : ComM × Rdr := commP (hashR s).1 (hashR s).2
def objS (k : Nat) (s : Rdr) : ObM × Rdr :=
 if k = 1 then (⟨1, s.1, [], [], [], 0, 0, []⟩, ([], s.2))
 else if k = 2 then (⟨2, [], (itemsR (numR s).1 (numR s).2).1, [], [], 0, 0, []⟩, (itemsR (numR s).1 (numR s).2).2)
 else if k = 3 then (⟨3, [], [], (commR s).1.tree, (commR s).1.parents, (commR s).1.stamp, (commR s).1.author, (commR s).1.msg⟩, (commR s).2)
 else (objK k, s)
def objR (b : List UInt8) : ObM × Rdr := objS (octR (b, false)).1 (octR (b, false)).2
theorem pe {α β : Type} (p : α × β) : p = (p.1, p.2) := rfl
def decB (b : List UInt8) : Bool := !(objR b).2.2 && (objR b).2.1.isEmpty && mayB (objR b).1
/-! There. -/
theorem takeR_app (x r : List UInt8) (f : Bool) (n : Nat) (hn : x.length = n) : takeR (x ++ r, f) n = (x, (r, f)) := by
 subst hn
 unfold takeR
 rw [if_neg (by simp)]
 simp
theorem octR_cons (c : UInt8) (r : List UInt8) (f : Bool) : octR (c :: r, f) = (c.toNat, (r, f)) := by
 unfold octR
 rw [show (c :: r) = [c] ++ r from rfl, takeR_app [c] r f 1 rfl]
 rfl
theorem numR_app {n : Nat} (h : n ≤ 72057594037927936) (r : List UInt8) (f : Bool) : numR (putL n ++ r, f) = (n, (r, f)) := by
 unfold numR
 rw [getE_putL h r, if_pos rfl]
 simp
theorem textR_app {t : List UInt8} (h : t.length ≤ 72057594037927936) (r : List UInt8) (f : Bool) : textR (putL t.length ++ t ++ r, f) = (t, (r, f)) := by
 unfold textR
 rw [List.append_assoc, numR_app h]
 exact takeR_app t r f _ rfl
theorem hashR_app {id : List UInt8} (h : validB id = true) (r : List UInt8) (f : Bool) : hashR (unhexL id ++ r, f) = (id, (r, f)) := by
 obtain ⟨h1, h2⟩ := validB_len h
 unfold hashR
 rw [takeR_app (unhexL id) r f 32 (by rw [unhexL_length, h1])]
 simp only [hexL_unhexL id h2]
theorem itemR_app {x : ItM} (h : itB x = true) (r : List UInt8) (f : Bool) : itemR (encI x ++ r, f) = (x, (r, f)) := by
 obtain ⟨h1, h2, h3, h4⟩ := itB_of h
 have hl := nameB_len h3
 unfold itemR encI
 rw [show [UInt8.ofNat x.1.toNat] ++ (putL x.2.1.length ++ x.2.1) ++ unhexL x.2.2 ++ r = UInt8.ofNat x.1.toNat :: (putL x.2.1.length ++ x.2.1 ++ (unhexL x.2.2 ++ r)) from by simp]
 rw [octR_cons]
 simp only
 rw [textR_app (by omega)]
 simp only
 rw [hashR_app h4]
 have e : (((UInt8.ofNat x.1.toNat).toNat : Nat) : Int) = x.1 := by
  rw [UInt8.toNat_ofNat']
  omega
 rw [e]
theorem itemsR_app {l : List ItM} (h : ∀ x ∈ l, itB x = true) (r : List UInt8) : itemsR l.length (l.flatMap encI ++ r, false) = (l, (r, false)) := by
 induction l with
 | nil => rfl
 | cons x l ih =>
  rw [List.length_cons, itemsR, if_neg (by simp), List.flatMap_cons, List.append_assoc, itemR_app (h x (by simp))]
  simp only
  rw [ih (fun y hy => h y (by simp [hy]))]
theorem idsR_app {l : List (List UInt8)} (h : ∀ x ∈ l, validB x = true) (r : List UInt8) (f : Bool) : idsR l.length (l.flatMap unhexL ++ r, f) = (l, (r, f)) := by
 induction l with
 | nil => rfl
 | cons x l ih =>
  rw [List.length_cons, idsR, List.flatMap_cons, List.append_assoc, hashR_app (h x (by simp))]
  simp only
  rw [ih (fun y hy => h y (by simp [hy]))]
theorem mem_of_at {α : Type} {l : List α} {P : α → Prop} (h : ∀ (k : Nat) (x : α), l[k]? = some x → P x) : ∀ x ∈ l, P x := by
 intro x hx
 obtain ⟨k, hk, e⟩ := List.getElem_of_mem hx
 exact h k x (by rw [List.getElem?_eq_getElem hk, e])
theorem commR_app {o : ObM} (h : CommOk o.tree o.parents o.stamp o.author o.msg) : commR (encC o, false) = (⟨o.tree, o.parents, o.stamp.toNat, o.author.toNat, o.msg⟩, ([], false)) := by
 have hp := parB_of h.par
 have hm := msgB_len h.msg
 have e : encC o = unhexL o.tree ++ (UInt8.ofNat o.parents.length :: (o.parents.flatMap unhexL ++ (putL o.stamp.toNat ++ (putL o.author.toNat ++ (putL o.msg.length ++ o.msg ++ []))))) := by
  unfold encC
  simp
 rw [e]
 unfold commR
 rw [hashR_app h.tree]
 unfold commP
 rw [octR_cons]
 rw [show (UInt8.ofNat o.parents.length).toNat = o.parents.length from by rw [UInt8.toNat_ofNat']; omega]
 rw [idsR_app (mem_of_at hp.2)]
 unfold commS
 rw [numR_app (by have := h.st1; omega)]
 unfold commA
 rw [numR_app (by have := h.au1; omega)]
 unfold commM
 rw [textR_app (by omega)]
theorem obm_eq {o p : ObM} (h1 : o.kind = p.kind) (h2 : o.data = p.data) (h3 : o.items = p.items) (h4 : o.tree = p.tree) (h5 : o.parents = p.parents) (h6 : o.stamp = p.stamp) (h7 : o.author = p.author) (h8 : o.msg = p.msg) : o = p := by
 cases o; cases p; simp_all
theorem objR_enc {o : ObM} (h : mayB o = true) : objR (encL o) = (o, ([], false)) := by
 unfold objR
 rcases mayB_kind h with ⟨hk, hb⟩ | ⟨hk, hb⟩ | ⟨hk, hb⟩
 ·have e : encL o = UInt8.ofNat 1 :: o.data := by
   unfold encL
   rw [if_pos hk, hk]
   rfl
  rw [e, octR_cons]
  show objS 1 (o.data, false) = _
  unfold objS
  rw [if_pos rfl]
  have h2 := (blobB_of hb).2
  unfold objK at h2
  injection h2 with a1 a2 a3 a4 a5 a6 a7 a8
  congr 1
  exact obm_eq a1.symm rfl a3.symm a4.symm a5.symm a6.symm a7.symm a8.symm
 ·have e : encL o = UInt8.ofNat 2 :: (putL o.items.length ++ (o.items.flatMap encI ++ [])) := by
   unfold encL
   rw [if_neg (by omega), if_pos hk, hk]
   unfold encIs
   simp
  have hi := itemsB_of (treeB_of hb).1
  rw [e, octR_cons]
  show objS 2 (putL o.items.length ++ (o.items.flatMap encI ++ []), false) = _
  unfold objS
  rw [if_neg (by decide), if_pos rfl, numR_app (by omega)]
  rw [itemsR_app (mem_of_at hi.2)]
  have h2 := (treeB_of hb).2
  unfold objK at h2
  injection h2 with a1 a2 a3 a4 a5 a6 a7 a8
  congr 1
  exact obm_eq a1.symm a2.symm rfl a4.symm a5.symm a6.symm a7.symm a8.symm
 ·have e : encL o = UInt8.ofNat 3 :: encC o := by
   unfold encL
   rw [if_neg (by omega), if_neg (by omega), hk]
   rfl
  obtain ⟨c1, c2, c3⟩ := commB_of hb
  rw [e, octR_cons]
  show objS 3 (encC o, false) = _
  unfold objS
  rw [if_neg (by decide), if_neg (by decide), if_pos rfl, commR_app c3]
  congr 1
  exact obm_eq hk.symm c1.symm c2.symm rfl rfl (by show ((o.stamp.toNat : Nat) : Int) = o.stamp; have := c3.st0; omega) (by show ((o.author.toNat : Nat) : Int) = o.author; have := c3.au0; omega) rfl
theorem decB_enc {o : ObM} (h : mayB o = true) : decB (encL o) = true := by
 unfold decB
 rw [objR_enc h]
 simp [h]
/-! And back. -/
theorem takeR_back {s s' : Rdr} {n : Nat} {x : List UInt8} (h : takeR s n = (x, s')) (hf : s'.2 = false) : s.2 = false ∧ s.1 = x ++ s'.1 ∧ x.length = n := by
 unfold takeR at h
 split at h
 ·injection h with h1 h2
  subst h2
  cases hf
 ·injection h with h1 h2
  subst h1 h2
  exact ⟨hf, (List.take_append_drop n s.1).symm, by rw [List.length_take]; omega⟩
theorem octR_back {s s' : Rdr} {n : Nat} (h : octR s = (n, s')) (hf : s'.2 = false) : s.2 = false ∧ s.1 = UInt8.ofNat n :: s'.1 ∧ n < 256 := by
 unfold octR at h
 injection h with h1 h2
 obtain ⟨g1, g2, g3⟩ := takeR_back (s := s) (n := 1) (x := (takeR s 1).1) (s' := s') (by rw [← h2]) hf
 obtain ⟨c, hc⟩ : ∃ c, (takeR s 1).1 = [c] := by
  cases hx : (takeR s 1).1 with
  | nil => rw [hx] at g3; simp at g3
  | cons c r =>
   rw [hx] at g3
   have : r = [] := List.eq_nil_of_length_eq_zero (by simpa using g3)
   exact ⟨c, by rw [this]⟩
 rw [hc] at h1 g2
 have e : c.toNat = n := h1
 have := c.toNat_lt
 refine ⟨g1, ?_, by omega⟩
 rw [g2, ← e]
 simp
theorem getE_back {t : List UInt8} {n m : Nat} (h : getE t = (n, m, 0)) : t = putL n ++ t.drop m ∧ n ≤ 72057594037927936 := by
 unfold getE at h
 split at h
 ·injection h with _ h; injection h with _ h; cases h
 ·rename_i hne
  split at h
  ·rename_i hok
   injection h with h1 h
   injection h with h2 _
   have hc := cont_le t
   unfold okL at hok
   rw [Bool.and_eq_true, beq_iff_eq, decide_eq_true_eq, h1] at hok
   rw [hok.1, ← h2]
   exact ⟨(List.take_append_drop _ t).symm, hok.2⟩
  ·injection h with _ h; injection h with _ h; cases h
theorem numR_back {s s' : Rdr} {n : Nat} (h : numR s = (n, s')) (hf : s'.2 = false) : s.2 = false ∧ s.1 = putL n ++ s'.1 ∧ n ≤ 72057594037927936 := by
 unfold numR at h
 split at h
 ·rename_i h0
  injection h with h1 h2
  subst h2
  obtain ⟨g1, g2⟩ := getE_back (t := s.1) (n := n) (m := (getE s.1).2.1) (by rw [← h1, ← h0])
  exact ⟨hf, g1, g2⟩
 ·injection h with _ h2
  subst h2
  cases hf
theorem textR_back {s s' : Rdr} {t : List UInt8} (h : textR s = (t, s')) (hf : s'.2 = false) : s.2 = false ∧ s.1 = putL t.length ++ t ++ s'.1 := by
 unfold textR at h
 obtain ⟨g1, g2, g3⟩ := takeR_back h hf
 obtain ⟨f1, f2, _⟩ := numR_back (s := s) (n := (numR s).1) (s' := (numR s).2) (pe _) g1
 exact ⟨f1, by rw [f2, g2, g3, List.append_assoc]⟩
theorem hashR_back {s s' : Rdr} {h : List UInt8} (e : hashR s = (h, s')) (hf : s'.2 = false) : s.2 = false ∧ s.1 = unhexL h ++ s'.1 := by
 unfold hashR at e
 injection e with e1 e2
 obtain ⟨g1, g2, _⟩ := takeR_back (s := s) (n := 32) (x := (takeR s 32).1) (s' := s') (by rw [← e2]) hf
 refine ⟨g1, ?_⟩
 rw [← e1, unhexL_hexL]
 exact g2
theorem itemR_back {s s' : Rdr} {x : ItM} (h : itemR s = (x, s')) (hf : s'.2 = false) : s.2 = false ∧ s.1 = encI x ++ s'.1 := by
 unfold itemR at h
 injection h with h1 h2
 obtain ⟨m, s1, e1⟩ : ∃ m s1, octR s = (m, s1) := ⟨_, _, pe _⟩
 rw [e1] at h1 h2
 obtain ⟨t, s2, e2⟩ : ∃ t s2, textR s1 = (t, s2) := ⟨_, _, pe _⟩
 rw [e2] at h1 h2
 obtain ⟨u, s3, e3⟩ : ∃ u s3, hashR s2 = (u, s3) := ⟨_, _, pe _⟩
 rw [e3] at h1 h2
 subst h1 h2
 obtain ⟨c1, c2⟩ := hashR_back e3 hf
 obtain ⟨b1, b2⟩ := textR_back e2 c1
 obtain ⟨a1, a2, _⟩ := octR_back e1 b1
 refine ⟨a1, ?_⟩
 show s.1 = [UInt8.ofNat ((m : Int)).toNat] ++ (putL t.length ++ t) ++ unhexL u ++ s3.1
 rw [a2, b2, c2]
 simp
theorem itemsR_back (n : Nat) : ∀ {s s' : Rdr} {l : List ItM}, itemsR n s = (l, s') → s'.2 = false → s.2 = false ∧ s.1 = l.flatMap encI ++ s'.1 ∧ l.length = n := by
 induction n with
 | zero =>
  intro s s' l h hf
  unfold itemsR at h
  injection h with h1 h2
  subst h1 h2
  exact ⟨hf, by simp, rfl⟩
 | succ n ih =>
  intro s s' l h hf
  unfold itemsR at h
  split at h
  ·rename_i ht
   injection h with h1 h2
   subst h2
   rw [ht] at hf
   cases hf
  ·injection h with h1 h2
   obtain ⟨x, s1, e1⟩ : ∃ x s1, itemR s = (x, s1) := ⟨_, _, pe _⟩
   rw [e1] at h1 h2
   obtain ⟨q, s2, e2⟩ : ∃ q s2, itemsR n s1 = (q, s2) := ⟨_, _, pe _⟩
   rw [e2] at h1 h2
   subst h1 h2
   obtain ⟨g1, g2, g3⟩ := ih e2 hf
   obtain ⟨f1, f2⟩ := itemR_back e1 g1
   refine ⟨f1, ?_, ?_⟩
   ·rw [f2, g2, List.flatMap_cons, List.append_assoc]
   ·rw [List.length_cons, g3]
theorem idsR_back (n : Nat) : ∀ {s s' : Rdr} {l : List (List UInt8)}, idsR n s = (l, s') → s'.2 = false → s.2 = false ∧ s.1 = l.flatMap unhexL ++ s'.1 ∧ l.length = n := by
 induction n with
 | zero =>
  intro s s' l h hf
  unfold idsR at h
  injection h with h1 h2
  subst h1 h2
  exact ⟨hf, by simp, rfl⟩
 | succ n ih =>
  intro s s' l h hf
  unfold idsR at h
  injection h with h1 h2
  obtain ⟨x, s1, e1⟩ : ∃ x s1, hashR s = (x, s1) := ⟨_, _, pe _⟩
  rw [e1] at h1 h2
  obtain ⟨q, s2, e2⟩ : ∃ q s2, idsR n s1 = (q, s2) := ⟨_, _, pe _⟩
  rw [e2] at h1 h2
  subst h1 h2
  obtain ⟨g1, g2, g3⟩ := ih e2 hf
  obtain ⟨f1, f2⟩ := hashR_back e1 g1
  refine ⟨f1, ?_, ?_⟩
  ·rw [f2, g2, List.flatMap_cons, List.append_assoc]
  ·rw [List.length_cons, g3]
theorem idsR_len (n : Nat) : ∀ s : Rdr, (idsR n s).1.length = n := by
 induction n with
 | zero => intro s; rfl
 | succ n ih => intro s; rw [idsR, List.length_cons, ih]
theorem commR_back {s s' : Rdr} {c : ComM} (h : commR s = (c, s')) (hf : s'.2 = false) : s.2 = false ∧ s.1 = unhexL c.tree ++ [UInt8.ofNat c.parents.length] ++ c.parents.flatMap unhexL ++ putL c.stamp ++ putL c.author ++ (putL c.msg.length ++ c.msg) ++ s'.1 := by
 unfold commR at h
 obtain ⟨t, s1, e1⟩ : ∃ t s1, hashR s = (t, s1) := ⟨_, _, pe _⟩
 rw [e1] at h
 unfold commP at h
 simp only at h
 obtain ⟨k, s2, e2⟩ : ∃ k s2, octR s1 = (k, s2) := ⟨_, _, pe _⟩
 rw [e2] at h
 simp only at h
 obtain ⟨ids, s3, e3⟩ : ∃ ids s3, idsR k s2 = (ids, s3) := ⟨_, _, pe _⟩
 rw [e3] at h
 unfold commS at h
 simp only at h
 obtain ⟨st, s4, e4⟩ : ∃ st s4, numR s3 = (st, s4) := ⟨_, _, pe _⟩
 rw [e4] at h
 unfold commA at h
 simp only at h
 obtain ⟨au, s5, e5⟩ : ∃ au s5, numR s4 = (au, s5) := ⟨_, _, pe _⟩
 rw [e5] at h
 unfold commM at h
 simp only at h
 obtain ⟨ms, s6, e6⟩ : ∃ ms s6, textR s5 = (ms, s6) := ⟨_, _, pe _⟩
 rw [e6] at h
 injection h with h1 h2
 subst h1 h2
 obtain ⟨f1, f2⟩ := textR_back e6 hf
 obtain ⟨g1, g2, _⟩ := numR_back e5 f1
 obtain ⟨d1, d2, _⟩ := numR_back e4 g1
 obtain ⟨c1, c2, c3⟩ := idsR_back k e3 d1
 obtain ⟨b1, b2, _⟩ := octR_back e2 c1
 obtain ⟨a1, a2⟩ := hashR_back e1 b1
 refine ⟨a1, ?_⟩
 show s.1 = unhexL t ++ [UInt8.ofNat ids.length] ++ ids.flatMap unhexL ++ putL st ++ putL au ++ (putL ms.length ++ ms) ++ s6.1
 rw [a2, b2, c2, d2, g2, f2, c3]
 simp
theorem enc_objR {b : List UInt8} (h : decB b = true) : encL (objR b).1 = b := by
 unfold decB at h
 rw [Bool.and_eq_true, Bool.and_eq_true, Bool.not_eq_true', List.isEmpty_iff] at h
 obtain ⟨⟨hf, he⟩, hm⟩ := h
 unfold objR at hf he hm ⊢
 obtain ⟨k, s, hk⟩ : ∃ k s, octR (b, false) = (k, s) := ⟨_, _, pe _⟩
 rw [hk] at hf he hm ⊢
 replace hf : (objS k s).2.2 = false := hf
 replace he : (objS k s).2.1 = [] := he
 replace hm : mayB (objS k s).1 = true := hm
 show encL (objS k s).1 = b
 unfold objS at hf he hm ⊢
 by_cases h1 : k = 1
 ·rw [if_pos h1] at hf he hm ⊢
  subst h1
  obtain ⟨_, g2, _⟩ := octR_back hk hf
  exact g2.symm
 ·rw [if_neg h1] at hf he hm ⊢
  by_cases h2 : k = 2
  ·rw [if_pos h2] at hf he hm ⊢
   subst h2
   obtain ⟨n, s1, e1⟩ : ∃ n s1, numR s = (n, s1) := ⟨_, _, pe _⟩
   rw [e1] at hf he ⊢
   obtain ⟨q, s2, e2⟩ : ∃ q s2, itemsR n s1 = (q, s2) := ⟨_, _, pe _⟩
   rw [e2] at hf he ⊢
   obtain ⟨c1, c2, c3⟩ := itemsR_back n e2 hf
   obtain ⟨b1, b2, _⟩ := numR_back e1 c1
   obtain ⟨_, g2, _⟩ := octR_back hk b1
   replace he : s2.1 = [] := he
   have e : b = UInt8.ofNat 2 :: s.1 := g2
   show [UInt8.ofNat 2] ++ encIs q = b
   unfold encIs
   rw [e, b2, c2, c3, he]
   simp
  ·rw [if_neg h2] at hf he hm ⊢
   by_cases h3 : k = 3
   ·rw [if_pos h3] at hf he hm ⊢
    subst h3
    obtain ⟨c, s1, e1⟩ : ∃ c s1, commR s = (c, s1) := ⟨_, _, pe _⟩
    rw [e1] at hf he ⊢
    obtain ⟨a1, a2⟩ := commR_back e1 hf
    obtain ⟨_, g2, _⟩ := octR_back hk a1
    replace he : s1.1 = [] := he
    have e : b = UInt8.ofNat 3 :: s.1 := g2
    rw [e, a2, he, List.append_nil]
    show [UInt8.ofNat 3] ++ encC ⟨3, [], [], c.tree, c.parents, c.stamp, c.author, c.msg⟩ = _
    unfold encC
    simp
   ·rw [if_neg h3] at hm
    have hk' := mayB_kind hm
    exfalso
    have hkk : (objK (k : Int)).kind = (k : Int) := rfl
    rw [hkk] at hk'
    rcases hk' with ⟨h4, _⟩ | ⟨h4, _⟩ | ⟨h4, _⟩ <;> omega
end Go.Proofs.YtpfjlhpahmhkhaaGreat.Ob
