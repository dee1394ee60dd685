/- Texts put together: YOb7, YOb8, YOb9, YOb10, YOb13. -/
import Derived.Test.YtodlaikemoedfaaQp23
/- obj: putNumber, putText, putHash. -/
namespace Go.Proofs.Ytodlaikemoedfaa.Ob
open Go.RowKit Go.Proofs.Ytodlaikemoedfaa.Sh
open Go.Proofs.Ytodlaikemoedfaa.Tx (OwnV SlV sv bl nameB reads_at texts_at toList_ne')

/-- What lies below B stays, and what is no row of bytes stays. -/
structure Kp (B : Nat) (w w' : World) : Prop where
  below : Below B w w'
  blk : ∀ k t cs, Blk w k t cs → t ≠ 5 → Blk w' k t cs
theorem Kp.refl (B : Nat) (w : World) : Kp B w w := ⟨Below.refl _ _, fun _ _ _ h _ => h⟩
theorem Kp.trans {B : Nat} {w w1 w2 : World} (h : Kp B w w1) (h2 : Kp B w1 w2) : Kp B w w2 := ⟨h.below.trans h2.below, fun k t cs hb ht => h2.blk k t cs (h.blk k t cs hb ht) ht⟩
theorem Kp.of_below {B : Nat} {w w' : World} (h : Below w.heap.size w w') (hB : B ≤ w.heap.size) : Kp B w w' := ⟨h.mono hB, fun _ _ _ hb _ => hb.below h hb.lt⟩
theorem Kp.alloc {B : Nat} {w w' : World} (h : Kp B w w') (hB : B ≤ w'.heap.size) (o : Obj) : Kp B w (w'.alloc o) := h.trans (Kp.of_below ((Below.refl _ _).alloc (Nat.le_refl _) o) hB)
theorem Kp.size {B : Nat} {w w' : World} (h : Kp B w w') : w.heap.size ≤ w'.heap.size := h.below.size
theorem Kp.grown {B : Nat} {w w' : World} {v : Value} {bs : List UInt8} (hown : Own w B v bs) (h : w.grownBy w' v.ownBlock) (hB : B ≤ w.heap.size) : Kp B w w' := by
  refine ⟨(Below.refl _ _).grown h hB (fun k hk => (World.ownsRow.lt hown k hk).1), fun k t cs hb ht => hb.grown h ?_⟩
  intro e
  rcases hown.2 with ⟨rfl, _⟩ | ⟨g, cap, cur, rfl, _, hg, _⟩
  · cases e
  · have e' : k = g := by simpa [Value.ownBlock] using e
    subst e'
    exact Blk.ne_ hb hg ht rfl
/-- A call that appends to bytes of one's own. -/
def AppPost (w : World) (B : Nat) (bs news : List UInt8) (e : Ending) (w' : World) : Prop := ∃ v, e = .returned v ∧ Own w' B v (bs ++ news) ∧ Kp B w w'
theorem Own.based {w : World} {B B' : Nat} {v : Value} {bs : List UInt8} (h : Own w B v bs) (hB : B' ≤ B) : Own w B' v bs := by
  refine ⟨h.1, ?_⟩
  rcases h.2 with h0 | ⟨g, cap, cur, hv, hb, rest⟩
  · exact .inl h0
  · exact .inr ⟨g, cap, cur, hv, by omega, rest⟩
end Go.Proofs.Ytodlaikemoedfaa.Ob
/- obj: putItems. -/
namespace Go.Proofs.Ytodlaikemoedfaa.Ob
open Go.RowKit Go.Proofs.Ytodlaikemoedfaa.Sh
open Go.Proofs.Ytodlaikemoedfaa.Tx (OwnV SlV sv bl nameB reads_at texts_at toList_ne')

def encI (x : ItM) : List UInt8 := [UInt8.ofNat x.1.toNat] ++ (putL x.2.1.length ++ x.2.1) ++ unhexL x.2.2
def encIs (l : List ItM) : List UInt8 := putL l.length ++ l.flatMap encI
end Go.Proofs.Ytodlaikemoedfaa.Ob
/- obj: putCommit. -/
namespace Go.Proofs.Ytodlaikemoedfaa.Ob
open Go.RowKit Go.Proofs.Ytodlaikemoedfaa.Sh
open Go.Proofs.Ytodlaikemoedfaa.Tx (OwnV SlV sv bl nameB reads_at texts_at toList_ne')

def encC (o : ObM) : List UInt8 := unhexL o.tree ++ [UInt8.ofNat o.parents.length] ++ o.parents.flatMap unhexL ++ putL o.stamp.toNat ++ putL o.author.toNat ++ (putL o.msg.length ++ o.msg)
structure CommOk (T : List UInt8) (P : List (List UInt8)) (st au : Int) (ms : List UInt8) : Prop where
  tree : validB T = true
  par : parB P = true
  st0 : 0 ≤ st
  st1 : st ≤ 1099511627776
  au0 : 0 ≤ au
  au1 : au ≤ 255
  msg : msgB ms = true
end Go.Proofs.Ytodlaikemoedfaa.Ob
/- obj: Encode. -/
namespace Go.Proofs.Ytodlaikemoedfaa.Ob
open Go.RowKit Go.Proofs.Ytodlaikemoedfaa.Sh
open Go.Proofs.Ytodlaikemoedfaa.Tx (OwnV SlV sv bl nameB reads_at texts_at toList_ne')

def encL (o : ObM) : List UInt8 := [UInt8.ofNat o.kind.toNat] ++ (if o.kind = 1 then o.data else if o.kind = 2 then encIs o.items else encC o)
def EncPost (w : World) (o : ObM) (e : Ending) (w' : World) : Prop :=
  (mayB o = true → ∃ u, e = .returned (.tuple #[u, .int .i64 0]) ∧ Own w' w.heap.size u (encL o)) ∧ (mayB o = false → e = .returned (.tuple #[.slice none 0 0, .int .i64 1])) ∧ Below w.heap.size w w'
end Go.Proofs.Ytodlaikemoedfaa.Ob
/- The reader of an object's bytes, plain: what it reads of what was written, and what was written where it read. -/
namespace Go.Proofs.Ytodlaikemoedfaa.Ob
open Go.Proofs.Ytodlaikemoedfaa.Sh
open Go.Proofs.Ytodlaikemoedfaa.Tx (nameB bl)

/-- What is left; has it failed? -/
abbrev Rdr := List UInt8 × Bool
def takeR (s : Rdr) (n : Nat) : List UInt8 × Rdr := if s.1.length < n then ([], ([], true)) else (s.1.take n, (s.1.drop n, s.2))
def octR (s : Rdr) : Nat × Rdr := (((takeR s 1).1.headD 0).toNat, (takeR s 1).2)
def numR (s : Rdr) : Nat × Rdr := if (getE s.1).2.2 = 0 then ((getE s.1).1, (s.1.drop (getE s.1).2.1, s.2)) else (0, ([], true))
def textR (s : Rdr) : List UInt8 × Rdr := takeR (numR s).2 (numR s).1
def hashR (s : Rdr) : List UInt8 × Rdr := (hexL (takeR s 32).1, (takeR s 32).2)
def itemR (s : Rdr) : ItM × Rdr := ((((octR s).1 : Int), (textR (octR s).2).1, (hashR (textR (octR s).2).2).1), (hashR (textR (octR s).2).2).2)
def itemsR : Nat → Rdr → List ItM × Rdr
  | 0, s => ([], s)
  | n + 1, s => if s.2 = true then ([], s) else ((itemR s).1 :: (itemsR n (itemR s).2).1, (itemsR n (itemR s).2).2)
def idsR : Nat → Rdr → List (List UInt8) × Rdr
  | 0, s => ([], s)
  | n + 1, s => ((hashR s).1 :: (idsR n (hashR s).2).1, (idsR n (hashR s).2).2)
structure ComM where
  tree : List UInt8
  parents : List (List UInt8)
  stamp : Nat
  author : Nat
  msg : List UInt8
def commM (t : List UInt8) (ids : List (List UInt8)) (st au : Nat) (s : Rdr) : ComM × Rdr := (⟨t, ids, st, au, (textR s).1⟩, (textR s).2)
def commA (t : List UInt8) (ids : List (List UInt8)) (st : Nat) (s : Rdr) : ComM × Rdr := commM t ids st (numR s).1 (numR s).2
def commS (t : List UInt8) (ids : List (List UInt8)) (s : Rdr) : ComM × Rdr := commA t ids (numR s).1 (numR s).2
def commP (t : List UInt8) (s : Rdr) : ComM × Rdr := commS t (idsR (octR s).1 (octR s).2).1 (idsR (octR s).1 (octR s).2).2
def commR (s : Rdr) : ComM × Rdr := commP (hashR s).1 (hashR s).2
def objS (k : Nat) (s : Rdr) : ObM × Rdr :=
  if k = 1 then (⟨1, s.1, [], [], [], 0, 0, []⟩, ([], s.2))
  else if k = 2 then (⟨2, [], (itemsR (numR s).1 (numR s).2).1, [], [], 0, 0, []⟩, (itemsR (numR s).1 (numR s).2).2)
  else if k = 3 then (⟨3, [], [], (commR s).1.tree, (commR s).1.parents, (commR s).1.stamp, (commR s).1.author, (commR s).1.msg⟩, (commR s).2)
  else (objK k, s)
def objR (b : List UInt8) : ObM × Rdr := objS (octR (b, false)).1 (octR (b, false)).2
theorem pe {α β : Type} (p : α × β) : p = (p.1, p.2) := rfl
def decB (b : List UInt8) : Bool := !(objR b).2.2 && (objR b).2.1.isEmpty && mayB (objR b).1

/-! There. -/
/-! And back. -/
theorem takeR_back {s s' : Rdr} {n : Nat} {x : List UInt8} (h : takeR s n = (x, s')) (hf : s'.2 = false) : s.2 = false ∧ s.1 = x ++ s'.1 ∧ x.length = n := by
  unfold takeR at h
  split at h
  · injection h with h1 h2
    subst h2
    cases hf
  · injection h with h1 h2
    subst h1 h2
    exact ⟨hf, (List.take_append_drop n s.1).symm, by rw [List.length_take]; omega⟩
theorem octR_back {s s' : Rdr} {n : Nat} (h : octR s = (n, s')) (hf : s'.2 = false) : s.2 = false ∧ s.1 = UInt8.ofNat n :: s'.1 ∧ n < 256 := by
  unfold octR at h
  injection h with h1 h2
  obtain ⟨g1, g2, g3⟩ := takeR_back (s := s) (n := 1) (x := (takeR s 1).1) (s' := s') (by rw [← h2]) hf
  obtain ⟨c, hc⟩ : ∃ c, (takeR s 1).1 = [c] := by
    cases hx : (takeR s 1).1 with
    | nil => rw [hx] at g3; simp at g3
    | cons c r =>
      rw [hx] at g3
      have : r = [] := List.eq_nil_of_length_eq_zero (by simpa using g3)
      exact ⟨c, by rw [this]⟩
  rw [hc] at h1 g2
  have e : c.toNat = n := h1
  have := c.toNat_lt
  refine ⟨g1, ?_, by omega⟩
  rw [g2, ← e]
  simp
theorem getE_back {t : List UInt8} {n m : Nat} (h : getE t = (n, m, 0)) : t = putL n ++ t.drop m ∧ n ≤ 72057594037927936 := by
  unfold getE at h
  split at h
  · injection h with _ h; injection h with _ h; cases h
  · rename_i hne
    split at h
    · rename_i hok
      injection h with h1 h
      injection h with h2 _
      have hc := cont_le t
      unfold okL at hok
      rw [Bool.and_eq_true, beq_iff_eq, decide_eq_true_eq, h1] at hok
      rw [hok.1, ← h2]
      exact ⟨(List.take_append_drop _ t).symm, hok.2⟩
    · injection h with _ h; injection h with _ h; cases h
theorem numR_back {s s' : Rdr} {n : Nat} (h : numR s = (n, s')) (hf : s'.2 = false) : s.2 = false ∧ s.1 = putL n ++ s'.1 ∧ n ≤ 72057594037927936 := by
  unfold numR at h
  split at h
  · rename_i h0
    injection h with h1 h2
    subst h2
    obtain ⟨g1, g2⟩ := getE_back (t := s.1) (n := n) (m := (getE s.1).2.1) (by rw [← h1, ← h0])
    exact ⟨hf, g1, g2⟩
  · injection h with _ h2
    subst h2
    cases hf
theorem textR_back {s s' : Rdr} {t : List UInt8} (h : textR s = (t, s')) (hf : s'.2 = false) : s.2 = false ∧ s.1 = putL t.length ++ t ++ s'.1 := by
  unfold textR at h
  obtain ⟨g1, g2, g3⟩ := takeR_back h hf
  obtain ⟨f1, f2, _⟩ := numR_back (s := s) (n := (numR s).1) (s' := (numR s).2) (pe _) g1
  exact ⟨f1, by rw [f2, g2, g3, List.append_assoc]⟩
theorem hashR_back {s s' : Rdr} {h : List UInt8} (e : hashR s = (h, s')) (hf : s'.2 = false) : s.2 = false ∧ s.1 = unhexL h ++ s'.1 := by
  unfold hashR at e
  injection e with e1 e2
  obtain ⟨g1, g2, _⟩ := takeR_back (s := s) (n := 32) (x := (takeR s 32).1) (s' := s') (by rw [← e2]) hf
  refine ⟨g1, ?_⟩
  rw [← e1, unhexL_hexL]
  exact g2
theorem itemR_back {s s' : Rdr} {x : ItM} (h : itemR s = (x, s')) (hf : s'.2 = false) : s.2 = false ∧ s.1 = encI x ++ s'.1 := by
  unfold itemR at h
  injection h with h1 h2
  obtain ⟨m, s1, e1⟩ : ∃ m s1, octR s = (m, s1) := ⟨_, _, pe _⟩
  rw [e1] at h1 h2
  obtain ⟨t, s2, e2⟩ : ∃ t s2, textR s1 = (t, s2) := ⟨_, _, pe _⟩
  rw [e2] at h1 h2
  obtain ⟨u, s3, e3⟩ : ∃ u s3, hashR s2 = (u, s3) := ⟨_, _, pe _⟩
  rw [e3] at h1 h2
  subst h1 h2
  obtain ⟨c1, c2⟩ := hashR_back e3 hf
  obtain ⟨b1, b2⟩ := textR_back e2 c1
  obtain ⟨a1, a2, _⟩ := octR_back e1 b1
  refine ⟨a1, ?_⟩
  show s.1 = [UInt8.ofNat ((m : Int)).toNat] ++ (putL t.length ++ t) ++ unhexL u ++ s3.1
  rw [a2, b2, c2]
  simp
theorem idsR_len (n : Nat) : ∀ s : Rdr, (idsR n s).1.length = n := by
  induction n with
  | zero => intro s; rfl
  | succ n ih => intro s; rw [idsR, List.length_cons, ih]
end Go.Proofs.Ytodlaikemoedfaa.Ob
