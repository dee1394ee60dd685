/- Texts put together: Tx0, Tq0, Tn0, Tn1, Ob1, Tq3, Tb0, Ob0, Ob2, Ob3, Ob4, Ob5, Ob6, Ob7, Ob8, Ob9. -/
import Derived.Test.YtcbiajajoojgmaaRows
import Derived.Test.YtcbiajajoojgmaaShM0
import Derived.WalkKit
import Derived.ProofKit
import Derived.OpenShut
import Derived.BigQuiet
import Derived.Deep.QuietTactic
import Derived.Lib.Hide
import Derived.Deep.RegionWith
import Derived.StillTailTactics
import Derived.Deep.DeepFit
import Derived.Deep.WholeRow
import Derived.Deep.MidRow
import Derived.Deep.AppendLies
import Derived.Deep.Draws
import Derived.Maps.AppendAt
import Derived.Deep.RegionHeld3
import Derived.Deep.OwnRows
import Derived.Laws.BytesString
import Derived.ShutString
import Derived.ChangeOld
import Derived.SliceStrings
import Derived.WalkLawsBesides
import Derived.WalkSpells
import GoSem.Op.String
import Derived.Lib.AppendStr
import Derived.Test.YtcbiajajoojgmaaShU1
import Derived.Test.YtcbiajajoojgmaaShN3
/- Texts, and slices of one-cell values: of one's own, and such as came in. (No package's code in it.) -/
namespace Go.Proofs.Ytcbiajajoojgmaa.Tx
open Go.RowKit Go.Proofs.Ytcbiajajoojgmaa.Sh

/-- A byte's number. -/
def bi (u : UInt8) : Int := (u.toNat : Int)
theorem bi_lt (u : UInt8) : 0 ≤ bi u ∧ bi u ≤ 255 := by
  unfold bi; have := u.toNat_lt; omega
theorem bi_inj {a b : UInt8} (h : bi a = bi b) : a = b := by
  unfold bi at h; exact UInt8.toNat_inj.1 (by omega)
theorem bi_nat (u : UInt8) : bi u = (u.toNat : Int) := rfl
def str (bs : List UInt8) : ByteArray := ⟨bs.toArray⟩
theorem str_inj {a b : List UInt8} (h : str a = str b) : a = b := by
  unfold str at h
  injection h with h
  simpa using congrArg Array.toList h
theorem str_toList (bs : List UInt8) : (str bs).toList = bs := by
  rw [ByteArray.toList_eq]
  rfl
theorem str_size (cs : List UInt8) : (str cs).size = cs.length := by
  unfold str ByteArray.size
  simp
theorem index_str (cs : List UInt8) (k : Nat) (hk : k < cs.length) (w : World) : (Instr.index 9 (.string (str cs)) (.int .i64 (k : Int))).run Try.prog w = .ok (.int .u8 (bi (cs.getD k 0))) w := by
  have hsz := str_size cs
  have hg : (str cs)[k]? = some cs[k] := getElem?_pos (str cs) k (by rw [hsz]; exact hk)
  simp [Instr.index, go_sem]
  rw [hg, List.getElem?_eq_getElem hk]
  unfold bi
  rfl
attribute [irreducible] bi
def lenOf : Value → Nat
  | .slice _ n _ => n
  | _ => 0
/-- v is a slice of the call's own (its block from B on) that holds vs; E: its elements' type. -/
def OwnV (E : TypeId) (w : World) (B : Nat) (v : Value) (vs : List Value) : Prop := w.ownsRow B E 1 v vs.length vs
/-- v is a slice that reads as vs. -/
def SlV (w : World) (v : Value) (vs : List Value) : Prop := ∃ A c, v = .slice A vs.length c ∧ vs.length ≤ c ∧ c ≤ maxLen ∧ Reads w w.heap.size 1 A vs.length vs ∧ (A = none → vs = [])

section
variable {E : TypeId} {w w' : World} {B : Nat} {v : Value} {vs : List Value}
theorem SlV.below (h : SlV w v vs) (hb : Below w.heap.size w w') : SlV w' v vs := by
  obtain ⟨A, c, hv, h1, h2, h3, h4⟩ := h
  exact ⟨A, c, hv, h1, h2, (h3.below hb).more hb.size, h4⟩
theorem SlV.drew (h : SlV w v vs) : SlV w.drew v vs := h
theorem SlV.nil_ (w : World) : SlV w (.slice none 0 0) [] := ⟨none, 0, rfl, by simp, by unfold maxLen; omega, Reads.none_, fun _ => rfl⟩
theorem SlV.len (h : SlV w v vs) : ∃ A c, v = .slice A vs.length c ∧ vs.length ≤ c ∧ c ≤ maxLen ∧ Reads w w.heap.size 1 A vs.length vs := by
  obtain ⟨A, c, hv, h1, h2, h3, _⟩ := h
  exact ⟨A, c, hv, h1, h2, h3⟩
theorem reads_at {A : Option Addr} {n : Nat} (h : Reads w B 1 A n vs) (k : Nat) (u : Value) (hk : vs[k]? = some u) : ∃ ad, A = some ad ∧ w.cell? (ad.add k) = some u := by
  have hl : k < vs.length := (List.getElem?_eq_some_iff.1 hk).1
  obtain ⟨ad, e, _, hc⟩ := h.2 (by have := h.1; omega)
  exact ⟨ad, e, hc k u hk⟩
theorem OwnV.nil_ (w : World) (B : Nat) : OwnV E w B (.slice none 0 0) [] := World.ownsRow_nil w B E 1
theorem OwnV.alloc (h : OwnV E w B v vs) (o : Obj) : OwnV E (w.alloc o) B v vs := World.ownsRow.alloc h o
theorem OwnV.drew (h : OwnV E w B v vs) : OwnV E w.drew B v vs := h
theorem OwnV.drewN (h : OwnV E w B v vs) (n : Nat) : OwnV E (w.drewN n) B v vs := h
theorem OwnV.below (h : OwnV E w B v vs) (hb : Below w.heap.size w w') : OwnV E w' B v vs :=
  World.ownsRow.kept h (only_of_below hb none) (by cases hv : v.ownBlock <;> simp)
theorem OwnV.kept {row : Option Nat} (h : OwnV E w B v vs) (hg : w.grownBy w' row) (hne : v.ownBlock = none ∨ v.ownBlock ≠ row) : OwnV E w' B v vs := World.ownsRow.kept h hg hne
theorem OwnV.lt (h : OwnV E w B v vs) (k : Nat) (hk : v.ownBlock = some k) : B ≤ k ∧ k < w.heap.size := World.ownsRow.lt h k hk
theorem OwnV.length (h : OwnV E w B v vs) : ∃ A c, v = .slice A vs.length c ∧ vs.length ≤ c ∧ c ≤ maxLen := by
  rcases h.2 with ⟨rfl, h0⟩ | ⟨g, cap, cur, rfl, _, _, hc, hm, _⟩
  · exact ⟨none, 0, by rw [h0], by rw [h0]; exact Nat.zero_le _, by unfold maxLen; omega⟩
  · exact ⟨_, _, rfl, hc, hm⟩
/-- The row behind it. -/
theorem OwnV.blk (h : OwnV E w B v vs) : (v = .slice none 0 0 ∧ vs = []) ∨ ∃ g c cur, v = .slice (some ⟨g, 0, none⟩) vs.length c ∧ B ≤ g ∧ g < w.heap.size ∧ Blk w g E cur ∧ vs.length ≤ c ∧ c ≤ maxLen ∧ cur.size = c ∧ cur.toList.take vs.length = vs := by
  rcases h.2 with ⟨h1, h0⟩ | ⟨g, cap, cur, rfl, hb, hg, hc, hm, hcs, htk⟩
  · exact .inl ⟨h1, List.eq_nil_of_length_eq_zero h0⟩
  · exact .inr ⟨g, cap, cur, rfl, hb, (Array.getElem?_eq_some_iff.1 hg).1, hg, hc, hm, by simpa using hcs, by simpa using htk⟩
theorem OwnV.mk {g c : Nat} {cur : Array Value} (hb : B ≤ g) (hg : Blk w g E cur) (hc : vs.length ≤ c) (hm : c ≤ maxLen) (hs : cur.size = c) (ht : cur.toList.take vs.length = vs) : OwnV E w B (.slice (some ⟨g, 0, none⟩) vs.length c) vs :=
  ⟨by simp, Or.inr ⟨g, c, cur, rfl, hb, hg, hc, hm, by simpa using hs, by simpa using ht⟩⟩
theorem OwnV.base {B' : Nat} (h : OwnV E w B v vs) (hB : B' ≤ B) : OwnV E w B' v vs := by
  refine ⟨h.1, ?_⟩
  rcases h.2 with h0 | ⟨g, cap, cur, hv, hb, rest⟩
  · exact .inl h0
  · exact .inr ⟨g, cap, cur, hv, by omega, rest⟩
theorem OwnV.slv (h : OwnV E w B v vs) : SlV w v vs := by
  obtain ⟨A, c, hv, h1, h2⟩ := h.length
  have h' : w.ownsRow B E 1 (.slice A vs.length c) vs.length vs := by rw [← hv]; exact h
  have hr := Reads.of_own h'
  refine ⟨A, c, hv, h1, h2, hr, fun hA => ?_⟩
  rcases Nat.eq_zero_or_pos vs.length with h0 | h0
  · exact List.eq_nil_of_length_eq_zero h0
  · obtain ⟨ad, e, _⟩ := hr.2 h0
    rw [hA] at e
    cases e
theorem OwnV.cellAt {g n c : Nat} (h : OwnV E w B (.slice (some ⟨g, 0, none⟩) n c) vs) (j : Nat) (u : Value) (hj : vs[j]? = some u) : w.cell? ⟨g, j, none⟩ = some u ∧ w.frozen? ⟨g, j, none⟩ = false := by
  rcases h.blk with ⟨he, _⟩ | ⟨g', c', cur, he, hb, hlt, hg, hc, hm, hs, ht⟩
  · cases he
  · injection he with e1 e2 e3
    injection e1 with e1
    injection e1 with e1 _ _
    subst e1 e3
    refine ⟨?_, hg.frozen j⟩
    have hl : j < vs.length := (List.getElem?_eq_some_iff.1 hj).1
    have : (cur.toList.take vs.length)[j]? = some u := by rw [ht]; exact hj
    rw [List.getElem?_take, if_pos hl] at this
    rw [hg.cell, ← Array.getElem?_toList, this]
theorem OwnV.setAt {g n c : Nat} (h : OwnV E w B (.slice (some ⟨g, 0, none⟩) n c) vs) (j : Nat) (u : Value) :
    OwnV E (w.setCell ⟨g, j, none⟩ u) B (.slice (some ⟨g, 0, none⟩) n c) (vs.set j u) := by
  rcases h.blk with ⟨he, _⟩ | ⟨g', c', cur, he, hb, hlt, hg, hc, hm, hs, ht⟩
  · cases he
  · injection he with e1 e2 e3
    injection e1 with e1
    injection e1 with e1 _ _
    subst e1 e3
    have hb2 := hg.set_ j u
    have el : vs.length = (vs.set j u).length := List.length_set.symm
    rw [e2, el]
    refine OwnV.mk hb hb2 (by rw [List.length_set]; exact hc) hm (by simpa using hs) ?_
    rw [Array.toList_setIfInBounds, List.take_set, List.length_set, ht]
theorem OwnV.apart (h : OwnV E w B v vs) {p : Addr} (hp : v.ownBlock ≠ some p.block) (u : Value) : OwnV E (w.setCell p u) B v vs :=
  World.ownsRow.kept h (row := some p.block) ⟨rfl, rfl, rfl, by simp [World.setCell], fun i _ hne => Below.heap_setCell w p u i (fun e => hne (by rw [e]))⟩ (.inr hp)
/-- Slices of unlike elements lie apart. -/
theorem OwnV.unlike {E' : TypeId} {v' : Value} {vs' : List Value} {B' : Nat} (h : OwnV E w B v vs) (h' : OwnV E' w B' v' vs') (hne : E ≠ E') : v.ownBlock = none ∨ v.ownBlock ≠ v'.ownBlock := by
  rcases h.blk with ⟨rfl, _⟩ | ⟨g, c, cur, rfl, _, _, hg, _⟩
  · exact .inl rfl
  · right
    rcases h'.blk with ⟨rfl, _⟩ | ⟨g', c', cur', rfl, _, _, hg', _⟩
    · simp [Value.ownBlock]
    · intro e
      have e' : g = g' := by simpa [Value.ownBlock] using e
      subst e'
      exact Blk.ne_ hg hg' hne rfl
end
/-- An integer, a text, as values. -/
def iv (n : Int) : Value := .int .i64 n
def sv (s : ByteArray) : Value := .string s
theorem iv_one (l : List Int) : ∀ u ∈ l.map iv, u.oneCell' = true := by intro u hu; simp only [List.mem_map] at hu; obtain ⟨x, _, rfl⟩ := hu; rfl
theorem sv_one (l : List ByteArray) : ∀ u ∈ l.map sv, u.oneCell' = true := by intro u hu; simp only [List.mem_map] at hu; obtain ⟨x, _, rfl⟩ := hu; rfl
theorem info_int : (Try.prog.info? 3).map (fun i => (i.zero, i.size, i.bytes)) = some (some (.int .i64 0), 1, 8) := by kernel_rfl
theorem info_str : (Try.prog.info? 9).map (fun i => (i.zero, i.size, i.bytes)) = some (some (.string ⟨#[]⟩), 1, 16) := by kernel_rfl

/-- A slice of texts that came in, as the walk is told of it. -/
def IsTexts (w : World) (a : Option Addr) (len cap : Nat) (ss : List ByteArray) : Prop :=
  (a = none ∧ len = 0 ∧ cap = 0 ∧ ss = []) ∨
  ∃ x, a = some x ∧ len ≤ cap ∧ cap ≤ maxLen ∧ ss.length = cap ∧ (∀ i, i < ss.length → w.cell? (x.add i) = some (.string (ss.getD i ByteArray.empty))) ∧ ∀ s ∈ ss, s.size ≤ maxLen
theorem IsTexts.slv {w : World} {a : Option Addr} {len cap : Nat} {ss : List ByteArray} (h : IsTexts w a len cap ss) : ∃ ts : List ByteArray, ts.length = len ∧ SlV w (.slice a len cap) (ts.map sv) ∧ ∀ s ∈ ts, s.size ≤ maxLen := by
  rcases h with ⟨rfl, rfl, rfl, rfl⟩ | ⟨x, rfl, hl, hm, hz, hc, hw⟩
  · exact ⟨[], rfl, SlV.nil_ w, fun n hn => by cases hn⟩
  · refine ⟨ss.take len, by simp; omega, ⟨some x, cap, by simp; omega, by simp; omega, hm, ⟨by simp, fun h0 => ⟨x, rfl, ?_, fun j u hu => ?_⟩⟩, fun h => by cases h⟩, fun n hn => hw n (List.mem_of_mem_take hn)⟩
    · have h1 : 0 < ss.length := by simp at h0; omega
      have := World.block_lt_of_cell? w _ (hc 0 h1)
      rw [block_of_add] at this
      exact this
    · rw [List.getElem?_map, List.getElem?_take] at hu
      by_cases hj : j < len
      · rw [if_pos hj, List.getElem?_eq_getElem (by omega)] at hu
        rw [hc j (by omega), List.getD_eq_getElem?_getD, List.getElem?_eq_getElem (by omega)]
        exact hu
      · rw [if_neg hj] at hu; cases hu
theorem append_texts {ops : Array Oper} {rest : List Oper} {o : Oper} {a : Act} {Q : Exit → Act → World → Prop} (hgd : o.guard = none) (s x : Operand)
    (ho : o.op = .call { callee := .builtin .append, args := #[s, x], argTypes := #[24, 24] }) (w : World) (B : Nat) (v : Value) (ts : List ByteArray) (hs : a.eval s = v) (hown : OwnV 9 w B v (ts.map sv))
    (B' : Nat) (A : Option Addr) (m c : Nat) (us : List ByteArray) (hx : a.eval x = .slice A m c) (hr : Reads w B' 1 A m (us.map sv)) (hsmall : ts.length + m ≤ 2000000) (hB : B ≤ w.heap.size)
    (h : ∀ v' w', OwnV 9 w' B v' ((ts ++ us).map sv) → Below B w w' → wpList Try.prog ops Q rest (a.put o.dst v') w') : wpList Try.prog ops Q (o :: rest) a w := by
  obtain ⟨i0, hi, hz0, hz1, hz2⟩ := info_parts info_str
  have hm : us.length = m := by have := hr.1; simpa using this
  have hown' : w.ownsRow B 9 1 v ts.length (ts.map sv) := by have := hown; unfold OwnV at this; rwa [List.length_map] at this
  refine wpList_append_any w hgd s x 24 ho B 9 i0 (.string ⟨#[]⟩) 1 16 Try.underlying24 hi hz0 hz1 hz2 rfl (by decide) v ts.length _ hs hown' B' A m c _ hx hr (sv_one us) (by unfold maxLen; omega) (by omega) hB ?_
  intro v' w' h1 h2 _
  refine h v' w' ?_ ((Below.refl _ _).grown h2 hB (fun k hk => (hown'.lt k hk).1))
  unfold OwnV
  rw [List.length_map, List.length_append, hm, List.map_append]
  exact h1
theorem append_text {ops : Array Oper} {rest : List Oper} {o : Oper} {a : Act} {Q : Exit → Act → World → Prop} (hgd : o.guard = none) (s x : Operand)
    (ho : o.op = .call { callee := .builtin .append, args := #[s, x], argTypes := #[24, 24] }) (w : World) (B : Nat) (v : Value) (ts : List ByteArray) (hs : a.eval s = v) (hown : OwnV 9 w B v (ts.map sv))
    (u : ByteArray) (hx : a.eval x = .slice (some ⟨w.heap.size, 0, none⟩) 1 1) (hsmall : ts.length + 1 ≤ 2000000) (hB : B ≤ w.heap.size)
    (h : ∀ v' w', OwnV 9 w' B v' ((ts ++ [u]).map sv) → Below B w w' → wpList Try.prog ops Q rest (a.put o.dst v') w') : wpList Try.prog ops Q (o :: rest) a (w.alloc (.cells #[.string u] 9)) := by
  have hr : Reads (w.alloc (.cells #[.string u] 9)) (w.heap.size + 1) 1 (some ⟨w.heap.size, 0, none⟩) 1 ([u].map sv) := by
    refine ⟨rfl, fun _ => ⟨_, rfl, by simp, fun j v hv => ?_⟩⟩
    rw [Addr.add_mid, cell_of_row _ _ _ _ 9 (0, 0) (heap_alloc_new w _), Nat.zero_add, ← hv]
    simp [sv]
  refine append_texts hgd s x ho _ B v ts hs (hown.alloc _) _ _ 1 1 [u] hx hr hsmall (by simp; omega) ?_
  intro v' w' h1 h2
  exact h v' w' h1 (((Below.refl _ _).alloc hB _).trans h2)

def TextsPost (w : World) (ts : List ByteArray) (e : Ending) (w' : World) : Prop := ∃ v, e = .returned v ∧ OwnV 9 w' w.heap.size v (ts.map sv) ∧ Below w.heap.size w w'
theorem texts_at {w : World} {A : Option Addr} {xs : List ByteArray} (h : Reads w w.heap.size 1 A xs.length (xs.map sv)) (k : Nat) (hk : k < xs.length) : ∃ ad, A = some ad ∧ w.cell? (ad.add k) = some (.string xs[k]) :=
  reads_at h k _ (by rw [List.getElem?_map, List.getElem?_eq_getElem hk]; rfl)

end Go.Proofs.Ytcbiajajoojgmaa.Tx
/- Texts cut at a sign, and joined: plain lists, no Go in it. -/
namespace Go.Proofs.Ytcbiajajoojgmaa.Tx

/-- A text cut at every such sign: one piece at least. -/
def splitL (g : UInt8) : List UInt8 → List (List UInt8)
  | [] => [[]]
  | c :: r => if c = g then [] :: splitL g r else match splitL g r with
    | [] => [[c]]
    | p :: ps => (c :: p) :: ps
theorem splitL_ne (g : UInt8) (s : List UInt8) : splitL g s ≠ [] := by
  cases s with
  | nil => simp [splitL]
  | cons c r =>
    unfold splitL
    split
    · simp
    · split <;> simp
theorem splitL_cons_ne {g c : UInt8} (h : c ≠ g) (r : List UInt8) : ∃ p ps, splitL g r = p :: ps ∧ splitL g (c :: r) = (c :: p) :: ps := by
  obtain ⟨p, ps, e⟩ : ∃ p ps, splitL g r = p :: ps := by
    cases hr : splitL g r with
    | nil => exact absurd hr (splitL_ne g r)
    | cons p ps => exact ⟨p, ps, rfl⟩
  refine ⟨p, ps, e, ?_⟩
  rw [splitL, if_neg h, e]
theorem splitL_sign (g : UInt8) (r : List UInt8) : splitL g (g :: r) = [] :: splitL g r := by rw [splitL, if_pos rfl]
theorem splitL_none {g : UInt8} : ∀ {l : List UInt8}, g ∉ l → splitL g l = [l]
  | [], _ => rfl
  | c :: r, h => by
    have hc : c ≠ g := fun e => h (by rw [e]; exact List.mem_cons_self)
    obtain ⟨p, ps, e1, e2⟩ := splitL_cons_ne hc r
    have := splitL_none (l := r) (fun hm => h (List.mem_cons_of_mem _ hm))
    rw [this] at e1
    injection e1 with e3 e4
    rw [e2, ← e3, ← e4]
theorem splitL_cut {g : UInt8} : ∀ {a : List UInt8}, g ∉ a → ∀ b, splitL g (a ++ g :: b) = a :: splitL g b
  | [], _, b => splitL_sign g b
  | c :: r, h, b => by
    have hc : c ≠ g := fun e => h (by rw [e]; exact List.mem_cons_self)
    obtain ⟨p, ps, e1, e2⟩ := splitL_cons_ne hc (r ++ g :: b)
    rw [splitL_cut (a := r) (fun hm => h (List.mem_cons_of_mem _ hm)) b] at e1
    injection e1 with e3 e4
    rw [List.cons_append, e2, ← e3, ← e4]
theorem splitL_mem {g : UInt8} : ∀ {s p : List UInt8}, p ∈ splitL g s → g ∉ p
  | [], p, h => by simp [splitL] at h; subst h; simp
  | c :: r, p, h => by
    by_cases hc : c = g
    · subst hc
      rw [splitL_sign] at h
      rcases List.mem_cons.1 h with rfl | h
      · simp
      · exact splitL_mem h
    · obtain ⟨q, qs, e1, e2⟩ := splitL_cons_ne hc r
      rw [e2] at h
      rcases List.mem_cons.1 h with rfl | h
      · intro hm
        rcases List.mem_cons.1 hm with e | hm
        · exact hc e.symm
        · exact splitL_mem (s := r) (by rw [e1]; exact List.mem_cons_self) hm
      · exact splitL_mem (s := r) (by rw [e1]; exact List.mem_cons_of_mem _ h)
theorem splitL_length (g : UInt8) : ∀ s : List UInt8, (splitL g s).length = s.count g + 1
  | [] => rfl
  | c :: r => by
    by_cases hc : c = g
    · subst hc
      rw [splitL_sign, List.length_cons, splitL_length c r, List.count_cons_self]
    · obtain ⟨q, qs, e1, e2⟩ := splitL_cons_ne hc r
      have := splitL_length g r
      rw [e1] at this
      rw [e2, List.length_cons, List.count_cons_of_ne hc]
      simpa using this
theorem splitL_length_le (g : UInt8) (s : List UInt8) : (splitL g s).length ≤ s.length + 1 := by
  rw [splitL_length]
  have := List.count_le_length (a := g) (l := s)
  omega

/-- Texts with a sign between. -/
def joinL (g : UInt8) : List (List UInt8) → List UInt8
  | [] => []
  | [p] => p
  | p :: q :: r => p ++ g :: joinL g (q :: r)
theorem joinL_cons {g : UInt8} {p : List UInt8} {ps : List (List UInt8)} (h : ps ≠ []) : joinL g (p :: ps) = p ++ g :: joinL g ps := by
  cases ps with
  | nil => exact absurd rfl h
  | cons q r => rfl
theorem joinL_splitL (g : UInt8) : ∀ s : List UInt8, joinL g (splitL g s) = s
  | [] => rfl
  | c :: r => by
    by_cases hc : c = g
    · subst hc
      rw [splitL_sign, joinL_cons (splitL_ne _ _), joinL_splitL c r]
      rfl
    · obtain ⟨q, qs, e1, e2⟩ := splitL_cons_ne hc r
      have := joinL_splitL g r
      rw [e1] at this
      rw [e2]
      cases qs with
      | nil => simp [joinL] at this ⊢; exact this
      | cons t ts =>
        rw [joinL_cons (by simp)] at this ⊢
        rw [List.cons_append, this]
theorem splitL_joinL {g : UInt8} : ∀ {ps : List (List UInt8)}, (∀ p ∈ ps, g ∉ p) → ps ≠ [] → splitL g (joinL g ps) = ps
  | [], _, h => absurd rfl h
  | [p], hp, _ => splitL_none (hp p List.mem_cons_self)
  | p :: q :: r, hp, _ => by
    rw [joinL_cons (by simp), splitL_cut (hp p List.mem_cons_self), splitL_joinL (fun x hx => hp x (List.mem_cons_of_mem _ hx)) (by simp)]
theorem joinL_snoc {g : UInt8} : ∀ {ps : List (List UInt8)} (p : List UInt8), ps ≠ [] → joinL g (ps ++ [p]) = joinL g ps ++ g :: p
  | [], _, h => absurd rfl h
  | [q], p, _ => rfl
  | q :: t :: r, p, _ => by
    have e : joinL g (q :: t :: r) = q ++ g :: joinL g (t :: r) := rfl
    have e2 : joinL g (q :: t :: r ++ [p]) = q ++ g :: joinL g (t :: r ++ [p]) := rfl
    rw [e, e2, joinL_snoc (ps := t :: r) p (by simp), List.append_assoc, List.cons_append]
/-- The signs behind place k of a text that has none from `fr` to k. -/
theorem drop_cut (s : List UInt8) (fr k : Nat) (h1 : fr ≤ k) (h2 : k < s.length) : s.drop fr = (s.take k).drop fr ++ s[k] :: s.drop (k + 1) := by
  have e : s = s.take k ++ s[k] :: s.drop (k + 1) := by
    rw [← List.drop_eq_getElem_cons h2, List.take_append_drop]
  have hl : fr ≤ (s.take k).length := by simp; omega
  conv => lhs; rw [e]
  rw [List.drop_append_of_le_length hl]
theorem not_mem_cut {s : List UInt8} {g : UInt8} {fr k : Nat} (h : ∀ j, fr ≤ j → j < k → s[j]? ≠ some g) : g ∉ (s.take k).drop fr := by
  intro hm
  obtain ⟨i, hi, e⟩ := List.getElem_of_mem hm
  have hi' : fr + i < (s.take k).length := by simp at hi ⊢; omega
  have e2 : (s.take k)[fr + i]'hi' = g := by rw [← e, List.getElem_drop]
  have hk : fr + i < k := by simp at hi'; omega
  refine h (fr + i) (by omega) hk ?_
  rw [List.getElem_take] at e2
  rw [List.getElem?_eq_getElem (by simp at hi'; omega), e2]

/-- A name. -/
def nameB (s : List UInt8) : Bool := decide (1 ≤ s.length) && decide (s.length ≤ 64) && !(s == [46]) && !(s == [46, 46]) && s.all fun c => decide (33 ≤ c.toNat) && decide (c.toNat ≤ 126) && !(c == 47)
/-- A path. -/
def pathB (s : List UInt8) : Bool := decide (s.length ≤ 200) && (splitL 47 s).all nameB && decide ((splitL 47 s).length ≤ 8)
end Go.Proofs.Ytcbiajajoojgmaa.Tx
/- marref.Split. -/
namespace Go.Proofs.Ytcbiajajoojgmaa.Tx
open Go.RowKit Go.Proofs.Ytcbiajajoojgmaa.Sh

theorem slice_str (cs : List UInt8) (a b : Nat) : (str cs).extract a b = str ((cs.take b).drop a) := by
  unfold str
  apply ByteArray.ext
  rw [ByteArray.data_extract]
  apply Array.ext'
  rw [Array.toList_extract, List.extract_eq_take_drop, List.drop_take]

end Go.Proofs.Ytcbiajajoojgmaa.Tx
/- The reference's Name, Path, Split. -/
namespace Go.Proofs.Ytcbiajajoojgmaa.Tx
open Go.RowKit Go.Proofs.Ytcbiajajoojgmaa.Sh

def okc (c : UInt8) : Bool := decide (33 ≤ c.toNat) && decide (c.toNat ≤ 126) && !(c == 47)
theorem nameB_eq (s : List UInt8) : nameB s = (decide (1 ≤ s.length) && decide (s.length ≤ 64) && !(s == [46]) && !(s == [46, 46]) && s.all okc) := rfl
theorem nameB_bad {s : List UInt8} {k : Nat} {c : UInt8} (h : s[k]? = some c) (hc : okc c = false) : nameB s = false := by
  rw [nameB_eq]
  have : s.all okc = false := by
    rw [List.all_eq_false]
    exact ⟨c, List.mem_of_getElem? h, by rw [hc]; decide⟩
  rw [this, Bool.and_false]
theorem nameB_good {s : List UInt8} (h1 : 1 ≤ s.length) (h2 : s.length ≤ 64) (h3 : (s == [46]) = false) (h4 : (s == [46, 46]) = false) (h : ∀ (j : Nat) (c : UInt8), s[j]? = some c → okc c = true) : nameB s = true := by
  rw [nameB_eq, h3, h4]
  have : s.all okc = true := by
    rw [List.all_eq_true]
    intro x hx
    obtain ⟨i, hi⟩ := List.getElem?_of_mem hx
    exact h i x hi
  rw [this]
  simp [h1, h2]
theorem okc_cases (c : UInt8) : (okc c = false ∧ bi c < 33) ∨ (okc c = false ∧ 33 ≤ bi c ∧ 126 < bi c) ∨ (okc c = false ∧ 33 ≤ bi c ∧ bi c ≤ 126 ∧ c = 47) ∨ (okc c = true ∧ 33 ≤ bi c ∧ bi c ≤ 126 ∧ (bi c == 47) = false) := by
  have e : bi c = (c.toNat : Int) := by unfold bi; rfl
  rw [e]
  unfold okc
  by_cases h1 : c.toNat < 33
  · left; constructor
    · simp; omega
    · omega
  · by_cases h2 : 126 < c.toNat
    · right; left; refine ⟨by simp; omega, by omega, by omega⟩
    · by_cases h3 : c = 47
      · right; right; left; subst h3; exact ⟨by decide, by decide, by decide, rfl⟩
      · right; right; right
        refine ⟨by simp; exact ⟨⟨by omega, by omega⟩, h3⟩, by omega, by omega, ?_⟩
        rw [beq_eq_false_iff_ne]
        intro h
        exact h3 (UInt8.toNat_inj.1 (by show c.toNat = 47; omega))
theorem list_other {a b : List UInt8} (h : a ≠ b) : (a == b) = false := by simpa using h

set_option maxRecDepth 100000 in
set_option maxHeartbeats 1600000 in
theorem rname_any (cs : List UInt8) (w : World) (hn : cs.length ≤ 1000000) : Calls Try.prog 65 #[.string (str cs)] w fun e w' => e = .returned (.bool (nameB cs)) ∧ w = w' := by
  have hsz := str_size cs
  have htl := str_toList cs
  obtain ⟨l, hL⟩ : ∃ l, cs.length = l := ⟨_, rfl⟩
  rw [hL] at hsz hn
  have HL := Lib.hid hL
  have n0 : (0 : Int) ≤ (l : Int) := by omega
  clear hL
  by_cases h1 : l < 1
  · have HR : Hid (nameB cs = false) := by
      unfold Hid
      rw [nameB_eq, HL.out]
      simp [show ¬ (1 ≤ l) from by omega]
    obtain rfl : l = 0 := by omega
    clear htl h1 n0
    go_enter Try.func65, Try.ntmps65
    go_wp2
    go_ret
    exact ⟨by rw [HR.out]; rfl, rfl⟩
  · by_cases h2 : 64 < l
    · have HR : Hid (nameB cs = false) := by
        unfold Hid
        rw [nameB_eq, HL.out]
        simp [show ¬ (l ≤ 64) from by omega]
      have z1 : (1 : Int) ≤ (l : Int) := by omega
      have z2 : (64 : Int) < (l : Int) := by omega
      clear htl
      go_enter Try.func65, Try.ntmps65
      go_wp2
      go_ret
      exact ⟨by rw [HR.out]; rfl, rfl⟩
    · have z1 : (1 : Int) ≤ (l : Int) := by omega
      have z2 : (l : Int) ≤ 64 := by omega
      by_cases h3 : cs = [46]
      · have HR : Hid (nameB cs = false) := by subst h3; rfl
        have e1 : ((str cs).toList == [46]) = true := by rw [htl, h3]; rfl
        clear htl h3
        go_enter Try.func65, Try.ntmps65
        go_wp2
        go_ret
        exact ⟨by rw [HR.out]; rfl, rfl⟩
      · have e1 : ((str cs).toList == [46]) = false := by rw [htl]; exact list_other h3
        by_cases h4 : cs = [46, 46]
        · have HR : Hid (nameB cs = false) := by subst h4; rfl
          have e2 : ((str cs).toList == [46, 46]) = true := by rw [htl, h4]; rfl
          clear htl h3 h4
          go_enter Try.func65, Try.ntmps65
          go_wp2
          go_ret
          exact ⟨by rw [HR.out]; rfl, rfl⟩
        · have e2 : ((str cs).toList == [46, 46]) = false := by rw [htl]; exact list_other h4
          have H3 := Lib.hid h3
          have H4 := Lib.hid h4
          clear htl h3 h4
          go_enter Try.func65, Try.ntmps65
          go_wp2
          clear e1 e2
          go_loop [3] (fun i => ∃ k : Nat, k ≤ l ∧ i = .int .i64 k ∧ ∀ (j : Nat) (c : UInt8), j < k → cs[j]? = some c → okc c = true) (fun i => l - (intOf i).toNat)
          case atStart => exact ⟨0, by omega, rfl, fun j c hj => by omega⟩
          case round =>
            obtain ⟨k, hk, rfl, hok⟩ := hrel
            have HOK := Lib.hid hok
            clear hok
            have k0 : (0 : Int) ≤ (k : Int) := by omega
            by_cases hlt : k < l
            · have k1 : (k : Int) < (l : Int) := by omega
              have hkc : k < cs.length := by rw [HL.out]; exact hlt
              have hix := index_str cs k hkc
              obtain ⟨x, hx⟩ : ∃ x, cs.getD k 0 = x := ⟨_, rfl⟩
              have hx' : cs[k]? = some x := by rw [← hx, List.getD_eq_getElem?_getD, List.getElem?_eq_getElem hkc]; rfl
              rw [hx] at hix
              have HX := Lib.hid hx'
              clear hx hx' hkc
              rcases okc_cases x with ⟨ho, c1⟩ | ⟨ho, c1, c2⟩ | ⟨ho, c1, c2, c3⟩ | ⟨ho, c1, c2, c3⟩
              · have HR : Hid (nameB cs = false) := nameB_bad HX.out ho
                clear ho
                generalize bi x = y at *
                go_wp2
                go_ret
                exact ⟨by rw [HR.out]; rfl, rfl⟩
              · have HR : Hid (nameB cs = false) := nameB_bad HX.out ho
                clear ho
                generalize bi x = y at *
                go_wp2
                go_ret
                exact ⟨by rw [HR.out]; rfl, rfl⟩
              · have HR : Hid (nameB cs = false) := nameB_bad HX.out ho
                have hy : bi x = 47 := by subst c3; unfold bi; rfl
                rw [hy] at hix c1 c2
                clear ho c3 hy
                go_wp2
                go_ret
                exact ⟨by rw [HR.out]; rfl, rfl⟩
              · have HO := Lib.hid ho
                clear ho
                generalize bi x = y at *
                go_wp2
                go_round
                case rel =>
                  refine ⟨k + 1, by omega, by go_num, fun j c hj hc => ?_⟩
                  by_cases e : j = k
                  · subst e; rw [HX.out] at hc; injection hc with hc; subst hc; exact HO.out
                  · exact HOK.out j c (by omega) hc
                case measure => simp [intOf]; omega
            · have HR : Hid (nameB cs = true) := by
                unfold Hid
                refine nameB_good (by rw [HL.out]; omega) (by rw [HL.out]; omega) (list_other H3.out) (list_other H4.out) (fun j c hc => HOK.out j c ?_ hc)
                have := (List.getElem?_eq_some_iff.1 hc).1
                rw [HL.out] at this
                omega
              obtain rfl : k = l := by omega
              go_wp2
              go_ret
              exact ⟨by rw [HR.out]; rfl, rfl⟩
end Go.Proofs.Ytcbiajajoojgmaa.Tx
/- Package names: Name; wire.Has. -/
namespace Go.Proofs.Ytcbiajajoojgmaa.Tx
open Go.RowKit Go.Proofs.Ytcbiajajoojgmaa.Sh

theorem list_other_ {a b : List UInt8} (h : a ≠ b) : (a == b) = false := by simpa using h
theorem text_there_ {b : List UInt8} (h : 0 < b.length) : (str b).toList.isEmpty = false ∧ ((str b).toList == []) = false := by
  rw [str_toList]
  cases b with
  | nil => simp at h
  | cons c r => exact ⟨rfl, rfl⟩
set_option maxRecDepth 100000 in
set_option maxHeartbeats 1600000 in
theorem cname_any (cs : List UInt8) (w : World) : Calls Try.prog 77 #[.string (str cs)] w fun e w' => e = .returned (.bool (nameB cs)) ∧ w = w' := by
  have hsz := str_size cs
  have htl := str_toList cs
  obtain ⟨l, hL⟩ : ∃ l, cs.length = l := ⟨_, rfl⟩
  rw [hL] at hsz
  have HL := Lib.hid hL
  have n0 : (0 : Int) ≤ (l : Int) := by omega
  clear hL
  rcases Nat.eq_zero_or_pos l with h1 | h1
  · have HR : Hid (nameB cs = false) := by
      unfold Hid
      rw [nameB_eq, HL.out]
      simp [h1]
    have e0 : (str cs).toList.isEmpty = true := by
      have : cs = [] := List.eq_nil_of_length_eq_zero (by rw [HL.out]; exact h1)
      rw [htl, this]; rfl
    have e0' : ((str cs).toList == []) = true := by
      have : cs = [] := List.eq_nil_of_length_eq_zero (by rw [HL.out]; exact h1)
      rw [htl, this]; rfl
    clear htl h1 n0
    go_enter Try.func77, Try.ntmps77
    go_wp2
    go_ret
    exact ⟨by rw [HR.out]; rfl, rfl⟩
  · obtain ⟨e0, e0'⟩ : (str cs).toList.isEmpty = false ∧ ((str cs).toList == []) = false := text_there_ (by rw [HL.out]; exact h1)
    have z1 : (1 : Int) ≤ (l : Int) := by omega
    by_cases h3 : cs = [46]
    · have HR : Hid (nameB cs = false) := by subst h3; rfl
      have e1 : ((str cs).toList == [46]) = true := by rw [htl, h3]; rfl
      clear htl h3
      go_enter Try.func77, Try.ntmps77
      go_wp2
      go_ret
      exact ⟨by rw [HR.out]; rfl, rfl⟩
    · have e1 : ((str cs).toList == [46]) = false := by rw [htl]; exact list_other_ h3
      by_cases h4 : cs = [46, 46]
      · have HR : Hid (nameB cs = false) := by subst h4; rfl
        have e2 : ((str cs).toList == [46, 46]) = true := by rw [htl, h4]; rfl
        clear htl h3 h4
        go_enter Try.func77, Try.ntmps77
        go_wp2
        go_ret
        exact ⟨by rw [HR.out]; rfl, rfl⟩
      · have e2 : ((str cs).toList == [46, 46]) = false := by rw [htl]; exact list_other_ h4
        have H3 := Lib.hid h3
        have H4 := Lib.hid h4
        clear htl h3 h4
        by_cases h2 : 64 < l
        · have HR : Hid (nameB cs = false) := by
            unfold Hid
            rw [nameB_eq, HL.out]
            simp [show ¬ (l ≤ 64) from by omega]
          have z2 : (64 : Int) < (l : Int) := by omega
          go_enter Try.func77, Try.ntmps77
          go_wp2
          go_ret
          exact ⟨by rw [HR.out]; rfl, rfl⟩
        · have z2 : (l : Int) ≤ 64 := by omega
          go_enter Try.func77, Try.ntmps77
          go_wp2
          clear e0 e0' e1 e2
          go_loop [21] (fun i => ∃ k : Nat, k ≤ l ∧ i = .int .i64 k ∧ ∀ (j : Nat) (c : UInt8), j < k → cs[j]? = some c → okc c = true) (fun i => l - (intOf i).toNat)
          case atStart => exact ⟨0, by omega, rfl, fun j c hj => by omega⟩
          case round =>
            obtain ⟨k, hk, rfl, hok⟩ := hrel
            have HOK := Lib.hid hok
            clear hok
            have k0 : (0 : Int) ≤ (k : Int) := by omega
            by_cases hlt : k < l
            · have k1 : (k : Int) < (l : Int) := by omega
              have hkc : k < cs.length := by rw [HL.out]; exact hlt
              have hix := index_str cs k hkc
              obtain ⟨x, hx⟩ : ∃ x, cs.getD k 0 = x := ⟨_, rfl⟩
              have hx' : cs[k]? = some x := by rw [← hx, List.getD_eq_getElem?_getD, List.getElem?_eq_getElem hkc]; rfl
              rw [hx] at hix
              have HX := Lib.hid hx'
              clear hx hx' hkc
              rcases okc_cases x with ⟨ho, c1⟩ | ⟨ho, c1, c2⟩ | ⟨ho, c1, c2, c3⟩ | ⟨ho, c1, c2, c3⟩
              · have HR : Hid (nameB cs = false) := nameB_bad HX.out ho
                clear ho
                generalize bi x = y at *
                go_wp2
                go_ret
                exact ⟨by rw [HR.out]; rfl, rfl⟩
              · have HR : Hid (nameB cs = false) := nameB_bad HX.out ho
                clear ho
                generalize bi x = y at *
                go_wp2
                go_ret
                exact ⟨by rw [HR.out]; rfl, rfl⟩
              · have HR : Hid (nameB cs = false) := nameB_bad HX.out ho
                have hy : bi x = 47 := by subst c3; unfold bi; rfl
                rw [hy] at hix c1 c2
                clear ho c3 hy
                go_wp2
                go_ret
                exact ⟨by rw [HR.out]; rfl, rfl⟩
              · have HO := Lib.hid ho
                clear ho
                generalize bi x = y at *
                go_wp2
                go_round
                case rel =>
                  refine ⟨k + 1, by omega, by go_num, fun j c hj hc => ?_⟩
                  by_cases e : j = k
                  · subst e; rw [HX.out] at hc; injection hc with hc; subst hc; exact HO.out
                  · exact HOK.out j c (by omega) hc
                case measure => simp [intOf]; omega
            · have HR : Hid (nameB cs = true) := by
                unfold Hid
                refine nameB_good (by rw [HL.out]; omega) (by rw [HL.out]; omega) (list_other_ H3.out) (list_other_ H4.out) (fun j c hc => HOK.out j c ?_ hc)
                have := (List.getElem?_eq_some_iff.1 hc).1
                rw [HL.out] at this
                omega
              obtain rfl : k = l := by omega
              go_wp2
              go_ret
              exact ⟨by rw [HR.out]; rfl, rfl⟩
theorem add_field' (x : Addr) (m j : Nat) (hj : 0 < j) : x.add (m + j) = ⟨(x.add m).block, (x.add m).off + j, none⟩ := by
  unfold Addr.add
  by_cases hm : m = 0
  · subst hm
    rw [if_neg (by omega)]
    simp
  · rw [if_neg (by omega), if_neg hm]
    simp [Nat.add_assoc]
theorem toList_ne' {s t : ByteArray} (h : t ≠ s) : (t.toList == s.toList) = false := by
  rw [beq_eq_false_iff_ne]
  intro e
  rw [ByteArray.toList_eq, ByteArray.toList_eq] at e
  exact h (ByteArray.ext (Array.toList_inj.1 e))
end Go.Proofs.Ytcbiajajoojgmaa.Tx
/- Texts in order: plain lists. -/
namespace Go.Proofs.Ytcbiajajoojgmaa.Tx

/-- Does a stand before b? -/
abbrev bl (a b : List UInt8) : Bool := Op.bytesLess a b
theorem bl_nil (b : List UInt8) : bl b [] = false := by cases b <;> rfl
theorem bl_cons (x y : UInt8) (a b : List UInt8) : bl (x :: a) (y :: b) = (decide (x < y) || (x == y && bl a b)) := by
  show Op.bytesLess _ _ = _
  rw [Op.bytesLess]
theorem bl_irr (a : List UInt8) : bl a a = false := by
  induction a with
  | nil => rfl
  | cons x a ih => rw [bl_cons, ih]; simp
theorem u8_tri (x y : UInt8) : x < y ∨ x = y ∨ y < x := by
  rcases Nat.lt_trichotomy x.toNat y.toNat with h | h | h
  · exact .inl h
  · exact .inr (.inl (UInt8.toNat_inj.1 h))
  · exact .inr (.inr h)
theorem u8_nlt {x y : UInt8} (h : x < y) : ¬ y < x ∧ x ≠ y := by
  have h' : x.toNat < y.toNat := h
  exact ⟨fun h2 => by have : y.toNat < x.toNat := h2; omega, fun e => by subst e; omega⟩
theorem bl_tri (a : List UInt8) : ∀ b : List UInt8, bl a b = true ∨ a = b ∨ bl b a = true := by
  induction a with
  | nil => intro b; cases b with | nil => exact .inr (.inl rfl) | cons y b => exact .inl rfl
  | cons x a ih =>
    intro b
    cases b with
    | nil => exact .inr (.inr rfl)
    | cons y b =>
      rw [bl_cons, bl_cons]
      rcases u8_tri x y with h | h | h
      · left; simp [h]
      · subst h
        rcases ih b with h | h | h
        · left; rw [h]; simp
        · right; left; rw [h]
        · right; right; rw [h]; simp
      · right; right; simp [h]
theorem bl_asymm (a : List UInt8) : ∀ b : List UInt8, bl a b = true → bl b a = false := by
  induction a with
  | nil => intro b _; exact bl_nil b
  | cons x a ih =>
    intro b h
    cases b with
    | nil => rw [bl_nil] at h; cases h
    | cons y b =>
      rw [bl_cons] at h ⊢
      rcases u8_tri x y with h1 | h1 | h1
      · have := u8_nlt h1
        simp [this.1]
        intro e; exact absurd e.symm this.2
      · subst h1
        have hb : bl a b = true := by simpa using h
        rw [ih b hb]
        simp
      · have := u8_nlt h1
        simp [this.1, this.2.symm] at h
theorem bl_trans (a : List UInt8) : ∀ b c : List UInt8, bl a b = true → bl b c = true → bl a c = true := by
  induction a with
  | nil =>
    intro b c h1 h2
    cases c with
    | nil => rw [bl_nil] at h2; cases h2
    | cons z c => rfl
  | cons x a ih =>
    intro b c h1 h2
    cases b with
    | nil => rw [bl_nil] at h1; cases h1
    | cons y b =>
      cases c with
      | nil => rw [bl_nil] at h2; cases h2
      | cons z c =>
        rw [bl_cons] at h1 h2 ⊢
        rcases u8_tri x y with g1 | g1 | g1
        · rcases u8_tri y z with g2 | g2 | g2
          · have : x < z := by have a1 : x.toNat < y.toNat := g1; have a2 : y.toNat < z.toNat := g2; show x.toNat < z.toNat; omega
            simp [this]
          · subst g2; simp [g1]
          · have := u8_nlt g2
            simp [this.1, this.2.symm] at h2
        · subst g1
          rcases u8_tri x z with g2 | g2 | g2
          · simp [g2]
          · subst g2
            have hb1 : bl a b = true := by simpa using h1
            have hb2 : bl b c = true := by simpa using h2
            rw [ih b c hb1 hb2]
            simp
          · have := u8_nlt g2
            simp [this.1, this.2.symm] at h2
        · have := u8_nlt g1
          simp [this.1, this.2.symm] at h1
/-- Compare. -/
def cmpL (a b : List UInt8) : Int := if bl a b then -1 else if a = b then 0 else 1
theorem cmpL_lt {a b : List UInt8} (h : bl a b = true) : cmpL a b = -1 := by unfold cmpL; rw [if_pos h]
theorem cmpL_eq (a : List UInt8) : cmpL a a = 0 := by unfold cmpL; rw [if_neg (by rw [bl_irr]; decide), if_pos rfl]
theorem cmpL_gt {a b : List UInt8} (h : bl b a = true) : cmpL a b = 1 := by
  unfold cmpL
  rw [if_neg (by rw [bl_asymm b a h]; decide), if_neg (by rintro rfl; rw [bl_irr] at h; cases h)]
theorem cmpL_neg (a b : List UInt8) : cmpL b a = - cmpL a b := by
  rcases bl_tri a b with h | h | h
  · rw [cmpL_lt h, cmpL_gt h]; rfl
  · subst h; rw [cmpL_eq]; rfl
  · rw [cmpL_lt h, cmpL_gt h]
theorem cmpL_cases (a b : List UInt8) : (Op.bytesLess a b = true ∧ cmpL a b = -1) ∨ (Op.bytesLess a b = false ∧ (a == b) = true ∧ cmpL a b = 0) ∨ (Op.bytesLess a b = false ∧ (a == b) = false ∧ cmpL a b = 1) := by
  rcases bl_tri a b with h | h | h
  · exact .inl ⟨h, cmpL_lt h⟩
  · subst h; exact .inr (.inl ⟨bl_irr a, beq_self_eq_true a, cmpL_eq a⟩)
  · refine .inr (.inr ⟨bl_asymm b a h, ?_, cmpL_gt h⟩)
    rw [beq_eq_false_iff_ne]; rintro rfl; rw [bl_irr] at h; cases h
end Go.Proofs.Ytcbiajajoojgmaa.Tx
/- Bytes, as slices of one-cell values; appended to, and made a text. (No package's code in it.) -/
namespace Go.Proofs.Ytcbiajajoojgmaa.Tx
open Go.RowKit Go.Proofs.Ytcbiajajoojgmaa.Sh

/-- A byte, as a value. -/
def bv (u : UInt8) : Value := .int .u8 (bi u)
theorem bv_one (l : List UInt8) : ∀ u ∈ l.map bv, u.oneCell' = true := by intro u hu; simp only [List.mem_map] at hu; obtain ⟨x, _, rfl⟩ := hu; rfl
theorem info_u8 : (Try.prog.info? 5).map (fun i => (i.zero, i.size, i.bytes)) = some (some (.int .u8 0), 1, 1) := by kernel_rfl
theorem append_bytes {ops : Array Oper} {rest : List Oper} {o : Oper} {a : Act} {Q : Exit → Act → World → Prop} (hgd : o.guard = none) (s x : Operand)
    (ho : o.op = .call { callee := .builtin .append, args := #[s, x], argTypes := #[22, 22] }) (w : World) (B : Nat) (v : Value) (bs : List UInt8) (hs : a.eval s = v) (hown : OwnV 5 w B v (bs.map bv))
    (B' : Nat) (A : Option Addr) (m c : Nat) (us : List UInt8) (hx : a.eval x = .slice A m c) (hr : Reads w B' 1 A m (us.map bv)) (hsmall : bs.length + m ≤ 140737488355328) (hB : B ≤ w.heap.size)
    (h : ∀ v' w', OwnV 5 w' B v' ((bs ++ us).map bv) → Below B w w' → wpList Try.prog ops Q rest (a.put o.dst v') w') : wpList Try.prog ops Q (o :: rest) a w := by
  obtain ⟨i0, hi, hz0, hz1, hz2⟩ := info_parts info_u8
  have hm : us.length = m := by have := hr.1; simpa using this
  have hown' : w.ownsRow B 5 1 v bs.length (bs.map bv) := by have := hown; unfold OwnV at this; rwa [List.length_map] at this
  refine wpList_append_any w hgd s x 22 ho B 5 i0 (.int .u8 0) 1 1 Try.underlying22 hi hz0 hz1 hz2 rfl (by decide) v bs.length _ hs hown' B' A m c _ hx hr (bv_one us) (by unfold maxLen; omega) (by omega) hB ?_
  intro v' w' h1 h2 _
  refine h v' w' ?_ ((Below.refl _ _).grown h2 hB (fun k hk => (hown'.lt k hk).1))
  unfold OwnV
  rw [List.length_map, List.length_append, hm, List.map_append]
  exact h1
theorem append_byte {ops : Array Oper} {rest : List Oper} {o : Oper} {a : Act} {Q : Exit → Act → World → Prop} (hgd : o.guard = none) (s x : Operand)
    (ho : o.op = .call { callee := .builtin .append, args := #[s, x], argTypes := #[22, 22] }) (w : World) (B : Nat) (v : Value) (bs : List UInt8) (hs : a.eval s = v) (hown : OwnV 5 w B v (bs.map bv))
    (k : Int) (u : UInt8) (hu : bi u = k) (hx : a.eval x = .slice (some ⟨w.heap.size, 0, none⟩) 1 1) (hsmall : bs.length + 1 ≤ 140737488355328) (hB : B ≤ w.heap.size)
    (h : ∀ v' w', OwnV 5 w' B v' ((bs ++ [u]).map bv) → Below B w w' → wpList Try.prog ops Q rest (a.put o.dst v') w') : wpList Try.prog ops Q (o :: rest) a (w.alloc (.cells #[.int .u8 k] 5)) := by
  subst hu
  have hr : Reads (w.alloc (.cells #[.int .u8 (bi u)] 5)) (w.heap.size + 1) 1 (some ⟨w.heap.size, 0, none⟩) 1 ([u].map bv) := by
    refine ⟨rfl, fun _ => ⟨_, rfl, by simp, fun j v hv => ?_⟩⟩
    rw [Addr.add_mid, cell_of_row _ _ _ _ 5 (0, 0) (heap_alloc_new w _), Nat.zero_add, ← hv]
    simp [bv]
  refine append_bytes hgd s x ho _ B v bs hs (hown.alloc _) _ _ 1 1 [u] hx hr hsmall (by simp; omega) ?_
  intro v' w' h1 h2
  exact h v' w' h1 (((Below.refl _ _).alloc hB _).trans h2)
theorem cells_str (us : List UInt8) : Lib.strCells (str us) = us.map bv := by
  unfold Lib.strCells str
  simp [bv, bi_nat]
/-- 'append(b, s...)', s a text. -/
theorem append_str {ops : Array Oper} {rest : List Oper} {o : Oper} {a : Act} {Q : Exit → Act → World → Prop} (hgd : o.guard = none) (s x : Operand)
    (ho : o.op = .call { callee := .builtin .append, args := #[s, x], argTypes := #[22, 9] }) (w : World) (B : Nat) (v : Value) (bs : List UInt8) (hs : a.eval s = v) (hown : OwnV 5 w B v (bs.map bv))
    (us : List UInt8) (hx : a.eval x = .string (str us)) (hsmall : bs.length + us.length ≤ 140737488355328) (hB : B ≤ w.heap.size)
    (h : ∀ v' w', OwnV 5 w' B v' ((bs ++ us).map bv) → Below B w w' → wpList Try.prog ops Q rest (a.put o.dst v') w') : wpList Try.prog ops Q (o :: rest) a w := by
  obtain ⟨i0, hi, hz0, hz1, hz2⟩ := info_parts info_u8
  have hown' : w.ownsRow B 5 1 v bs.length (bs.map bv) := by have := hown; unfold OwnV at this; rwa [List.length_map] at this
  have hsz := str_size us
  refine Lib.wpList_append_own_string w hgd s x 22 9 ho B 5 i0 Try.underlying22 Try.underlying9 hi hz0 hz1 hz2 v bs.length _ hs hown' (str us) hx (by unfold maxLen; omega) (by omega) hB ?_
  intro v' w' h1 h2 _
  refine h v' w' ?_ ((Below.refl _ _).grown h2 hB (fun k hk => (hown'.lt k hk).1))
  unfold OwnV
  rw [List.length_map, List.length_append, List.map_append, ← cells_str us, ← hsz]
  exact h1
theorem str_push (ns : List UInt8) : ∀ base : List UInt8, ((ns.map bi).foldl (fun r n => r.push (UInt8.ofNat n.toNat)) (str base)) = str (base ++ ns) := by
  induction ns with
  | nil => intro base; simp
  | cons n ns ih =>
    intro base
    have e : (str base).push (UInt8.ofNat (bi n).toNat) = str (base ++ [n]) := by
      have h : UInt8.ofNat (bi n).toNat = n := by rw [bi_nat]; simp
      rw [h]
      unfold str ByteArray.push
      simp
    rw [List.map_cons, List.foldl_cons, e, ih]
    simp
set_option maxRecDepth 100000 in
/-- 'string(b)'. -/
theorem conv_str (w : World) (A : Option Addr) (bs : List UInt8) (n c : Nat) (hn : bs.length = n) (h : SlV w (.slice A n c) (bs.map bv)) :
    (convert 22 9 (.slice A n c)).run Try.prog w = .ok (.string (str bs)) w := by
  subst hn
  obtain ⟨A', c', hv, _, _, hr, hA⟩ := h
  injection hv with e1 e2 e3
  subst e1 e3
  rw [run_convert_bytes_string w 22 9 5 A bs.length c Try.underlying22 Try.underlying5 Try.underlying9]
  rcases A with _ | ad
  · have h0 : bs = [] := by simpa using hA rfl
    subst h0
    simp [Conv.bytesToString, Sem.run_pure, str]
    rfl
  · have hl : (loadCells ad bs.length).run Try.prog w = .ok ((bs.map bi).map (Value.int .u8)).toArray w := by
      have := run_loadCells_list (P := Try.prog) w ad (bs.map bv) (fun j v hv => by
        obtain ⟨ad', e, hc⟩ := reads_at hr j v hv
        injection e with e
        rw [e]
        exact hc)
      have e : (bs.map bi).map (Value.int .u8) = bs.map bv := by rw [List.map_map]; rfl
      rw [e]
      simpa using this
    rw [run_bytesToString w ad bs.length c _ hl]
    have := str_push bs []
    rw [List.nil_append] at this
    have e0 : ByteArray.empty = str [] := rfl
    rw [e0, this]
end Go.Proofs.Ytcbiajajoojgmaa.Tx
/- Objects: plain, and as values. -/
namespace Go.Proofs.Ytcbiajajoojgmaa.Ob
open Go.RowKit Go.Proofs.Ytcbiajajoojgmaa.Sh
open Go.Proofs.Ytcbiajajoojgmaa.Tx (OwnV SlV sv bl nameB reads_at texts_at toList_ne')

/-- An item: its mode, its name, its hash. -/
abbrev ItM := Int × List UInt8 × List UInt8
/-- An object. -/
structure ObM where
  kind : Int
  data : List UInt8
  items : List ItM
  tree : List UInt8
  parents : List (List UInt8)
  stamp : Int
  author : Int
  msg : List UInt8
def itC (x : ItM) : List Value := [.int .i64 x.1, .string (str x.2.1), .string (str x.2.2)]
theorem itC_one (l : List ItM) : ∀ u ∈ l.flatMap itC, u.oneCell' = true := by
  intro u hu
  rw [List.mem_flatMap] at hu
  obtain ⟨x, _, hx⟩ := hu
  simp [itC] at hx
  rcases hx with rfl | rfl | rfl <;> rfl
theorem itC_length (l : List ItM) : (l.flatMap itC).length = l.length * 3 := by
  induction l with
  | nil => rfl
  | cons x l ih => rw [List.flatMap_cons, List.length_append, ih, List.length_cons]; simp [itC]; omega
theorem itC_at (l : List ItM) : ∀ (k : Nat) (x : ItM), l[k]? = some x → (l.flatMap itC)[k * 3]? = some (.int .i64 x.1) ∧ (l.flatMap itC)[k * 3 + 1]? = some (.string (str x.2.1)) ∧ (l.flatMap itC)[k * 3 + 2]? = some (.string (str x.2.2)) := by
  induction l with
  | nil => intro k x h; simp at h
  | cons y l ih =>
    intro k x h
    cases k with
    | zero =>
      simp at h
      subst h
      exact ⟨rfl, rfl, rfl⟩
    | succ k =>
      obtain ⟨h0, h1, h2⟩ := ih k x (by simpa using h)
      have e : ∀ j, ((y :: l).flatMap itC)[(k + 1) * 3 + j]? = (l.flatMap itC)[k * 3 + j]? := by
        intro j
        rw [List.flatMap_cons, List.getElem?_append_right (by simp [itC]; omega)]
        congr 1
        simp [itC]
        omega
      exact ⟨(e 0).trans h0, (e 1).trans h1, (e 2).trans h2⟩
/-- v is a slice that reads as the items l. -/
def SlI (w : World) (v : Value) (l : List ItM) : Prop := ∃ A c, v = .slice A l.length c ∧ l.length ≤ c ∧ c ≤ maxLen ∧ (A = none → l = []) ∧ Reads w w.heap.size 3 A l.length (l.flatMap itC)
def OwnI (T : TypeId) (w : World) (B : Nat) (v : Value) (l : List ItM) : Prop := w.ownsRow B T 3 v l.length (l.flatMap itC)
section
variable {T : TypeId} {w w' : World} {B : Nat} {v : Value} {l : List ItM}
theorem SlI.below (h : SlI w v l) (hb : Below w.heap.size w w') : SlI w' v l := by
  obtain ⟨A, c, hv, h1, h2, h3, h4⟩ := h
  exact ⟨A, c, hv, h1, h2, h3, (h4.below hb).more hb.size⟩
theorem SlI.nil_ (w : World) : SlI w (.slice none 0 0) [] := ⟨none, 0, rfl, by simp, by unfold maxLen; omega, fun _ => rfl, ⟨by simp, fun h => absurd h (by simp)⟩⟩
theorem items_at {A : Option Addr} {n : Nat} (h : Reads w B 3 A n (l.flatMap itC)) (hn : n = l.length) (k : Nat) (x : ItM) (hk : l[k]? = some x) :
    ∃ ad, A = some ad ∧ w.cell? (ad.add (k * 3)) = some (.int .i64 x.1) ∧ w.cell? ⟨(ad.add (k * 3)).block, (ad.add (k * 3)).off + 1, none⟩ = some (.string (str x.2.1)) ∧ w.cell? ⟨(ad.add (k * 3)).block, (ad.add (k * 3)).off + 2, none⟩ = some (.string (str x.2.2)) := by
  have hl : k < l.length := (List.getElem?_eq_some_iff.1 hk).1
  obtain ⟨ad, e, _, hc⟩ := h.2 (by omega)
  obtain ⟨h0, h1, h2⟩ := itC_at l k x hk
  refine ⟨ad, e, hc _ _ h0, ?_, ?_⟩
  · rw [← Tx.add_field' ad (k * 3) 1 (by omega)]
    exact hc _ _ h1
  · rw [← Tx.add_field' ad (k * 3) 2 (by omega)]
    exact hc _ _ h2
theorem OwnI.nil_ (T : TypeId) (w : World) (B : Nat) : OwnI T w B (.slice none 0 0) [] := World.ownsRow_nil w B T 3
theorem OwnI.alloc (h : OwnI T w B v l) (o : Obj) : OwnI T (w.alloc o) B v l := World.ownsRow.alloc h o
theorem OwnI.drew (h : OwnI T w B v l) : OwnI T w.drew B v l := h
theorem OwnI.below (h : OwnI T w B v l) (hb : Below w.heap.size w w') : OwnI T w' B v l :=
  World.ownsRow.kept h (only_of_below hb none) (by cases hv : v.ownBlock <;> simp)
theorem OwnI.lt (h : OwnI T w B v l) (k : Nat) (hk : v.ownBlock = some k) : B ≤ k ∧ k < w.heap.size := World.ownsRow.lt h k hk
theorem OwnI.base {B' : Nat} (h : OwnI T w B v l) (hB : B' ≤ B) : OwnI T w B' v l := by
  refine ⟨h.1, ?_⟩
  rcases h.2 with h0 | ⟨g, cap, cur, hv, hb, rest⟩
  · exact .inl h0
  · exact .inr ⟨g, cap, cur, hv, by omega, rest⟩
theorem OwnI.slI (h : OwnI T w B v l) : SlI w v l := by
  rcases h.2 with ⟨rfl, h0⟩ | ⟨g, cap, cur, rfl, hb, hg, hc, hm, hcs, htk⟩
  · have : l = [] := List.eq_nil_of_length_eq_zero h0
    subst this
    exact SlI.nil_ w
  · have hr := Reads.of_own (show w.ownsRow B T 3 (.slice (some ⟨g, 0, none⟩) l.length cap) l.length (l.flatMap itC) from h)
    exact ⟨_, cap, rfl, hc, hm, (fun e => by cases e), hr⟩
end
/-- v is an object's value. -/
def ObV (w : World) (v : Value) (o : ObM) : Prop := ∃ d it ps, v = .agg #[.int .i64 o.kind, d, it, .string (str o.tree), ps, .int .i64 o.stamp, .int .i64 o.author, .string (str o.msg)] ∧ Sl w d o.data ∧ SlI w it o.items ∧ SlV w ps ((o.parents.map str).map sv)
theorem ObV.below {w w' : World} {v : Value} {o : ObM} (h : ObV w v o) (hb : Below w.heap.size w w') : ObV w' v o := by
  obtain ⟨d, it, ps, hv, h1, h2, h3⟩ := h
  exact ⟨d, it, ps, hv, h1.below hb, h2.below hb, h3.below hb⟩
/-- What a call that answers a bool leaves. -/
def BoolPost (w : World) (t : Bool) (e : Ending) (w' : World) : Prop := e = .returned (.bool t) ∧ Below w.heap.size w w'
end Go.Proofs.Ytcbiajajoojgmaa.Ob
/- slices.Equal (of bytes, of texts, of items). -/
namespace Go.Proofs.Ytcbiajajoojgmaa.Ob
open Go.RowKit Go.Proofs.Ytcbiajajoojgmaa.Sh
open Go.Proofs.Ytcbiajajoojgmaa.Tx (OwnV SlV sv bl nameB reads_at texts_at toList_ne')

theorem take_snoc {α : Type} [Inhabited α] {xs ys : List α} {k : Nat} (h1 : k < xs.length) (h2 : k < ys.length) (ht : xs.take k = ys.take k) (he : xs[k] = ys[k]) : xs.take (k + 1) = ys.take (k + 1) := by
  rw [List.take_succ_eq_append_getElem h1, List.take_succ_eq_append_getElem h2, ht, he]
set_option maxRecDepth 100000 in
set_option maxHeartbeats 800000 in
theorem eqb_any (v v' : Value) (xs ys : List UInt8) (w : World) (h : Sl w v xs) (h' : Sl w v' ys) : Calls Try.prog 45 #[v, v'] w (BoolPost w (xs == ys)) := by
  obtain ⟨A, c, rfl, hlc, hcm, hR⟩ := h.len
  obtain ⟨A', c', rfl, hlc', hcm', hR'⟩ := h'.len
  unfold maxLen at hcm hcm'
  have HR := Lib.hid hR
  have HR' := Lib.hid hR'
  obtain ⟨l, hl⟩ : ∃ l, xs.length = l := ⟨_, rfl⟩
  obtain ⟨m, hm⟩ : ∃ m, ys.length = m := ⟨_, rfl⟩
  obtain ⟨t, ht⟩ : ∃ t, (xs == ys) = t := ⟨_, rfl⟩
  rw [hl] at hlc ⊢
  rw [hm] at hlc' ⊢
  rw [ht]
  have HL := Lib.hid hl
  have HM := Lib.hid hm
  have HT := Lib.hid ht
  clear h h' hR hR' hl hm ht
  by_cases hlm : l = m
  · subst hlm
    go_enter Try.func45, Try.ntmps45
    go_wp2
    go_loopw [13] (fun i wr => ∃ k : Nat, k ≤ l ∧ i = .int .i64 k ∧ Below w.heap.size w wr ∧ xs.take k = ys.take k) (fun i _ => l - (intOf i).toNat)
    case atStart => exact ⟨0, Nat.zero_le _, rfl, Below.refl _ _, rfl⟩
    case round =>
      obtain ⟨k, hk, rfl, hb, htk⟩ := hrel
      have HB := Lib.hid hb
      have HTK := Lib.hid htk
      clear hb htk
      by_cases hlt : k < l
      · have hkl : k < xs.length := by rw [HL.out]; exact hlt
        have hkm : k < ys.length := by rw [HM.out]; exact hlt
        obtain ⟨ad, rfl, hcell⟩ := (HR.out.below HB.out).at_ k hkl
        obtain ⟨ad', rfl, hcell'⟩ := (HR'.out.below HB.out).at_ k hkm
        rw [List.getD_eq_getElem?_getD, List.getElem?_eq_getElem hkl] at hcell
        rw [List.getD_eq_getElem?_getD, List.getElem?_eq_getElem hkm] at hcell'
        have z0 : (0 : Int) ≤ (k : Int) := by omega
        have z1 : (k : Int) < (l : Int) := by omega
        by_cases he : xs[k] = ys[k]
        · have HS := Lib.hid (take_snoc hkl hkm HTK.out he)
          rw [← he] at hcell'
          clear he
          replace hcell : wr.cell? (ad.add k) = some (.int .u8 (bi xs[k])) := hcell
          replace hcell' : wr.cell? (ad'.add k) = some (.int .u8 (bi xs[k])) := hcell'
          generalize bi xs[k] = x at *
          clear hkl hkm
          go_wp2_with fail
          go_quiet (fail)
          go_wp2
          go_roundw
          case rel => exact ⟨k + 1, by omega, by go_num, below_drewN HB.out _, HS.out⟩
          case measure => simp [intOf]; omega
        · have htt : t = false := by
            rw [← HT.out, beq_eq_false_iff_ne]
            rintro rfl
            exact he rfl
          subst htt
          have hne : bi xs[k] ≠ bi ys[k] := fun e => he (bi_inj e)
          clear he
          replace hcell : wr.cell? (ad.add k) = some (.int .u8 (bi xs[k])) := hcell
          replace hcell' : wr.cell? (ad'.add k) = some (.int .u8 (bi ys[k])) := hcell'
          generalize bi xs[k] = x at *
          generalize bi ys[k] = y at *
          clear hkl hkm
          have hne' : (x == y) = false := beq_eq_false_iff_ne.2 hne
          clear hne
          go_wp2_with fail
          go_quiet (fail)
          go_wp2
          go_ret
          exact ⟨rfl, below_drewN HB.out _⟩
      · have htt : t = true := by
          rw [← HT.out, beq_iff_eq]
          have := HTK.out
          rwa [List.take_of_length_le (by rw [HL.out]; omega), List.take_of_length_le (by rw [HM.out]; omega)] at this
        subst htt
        go_wp2
        go_ret
        exact ⟨rfl, HB.out⟩
  · have htt : t = false := by
      rw [← HT.out, beq_eq_false_iff_ne]
      rintro rfl
      exact hlm (HL.out.symm.trans HM.out)
    subst htt
    have hne : ((l : Int) == (m : Int)) = false := beq_eq_false_iff_ne.2 (by omega)
    clear hlm
    go_enter Try.func45, Try.ntmps45
    go_wp2
    go_ret
    exact ⟨rfl, Below.refl _ _⟩
set_option maxRecDepth 100000 in
set_option maxHeartbeats 800000 in
theorem eqt_any (v v' : Value) (xs ys : List (List UInt8)) (w : World) (h : SlV w v ((xs.map str).map sv)) (h' : SlV w v' ((ys.map str).map sv)) : Calls Try.prog 47 #[v, v'] w (BoolPost w (xs == ys)) := by
  obtain ⟨A, c, rfl, hlc, hcm, hR⟩ := h.len
  obtain ⟨A', c', rfl, hlc', hcm', hR'⟩ := h'.len
  simp only [List.length_map] at hlc hR hlc' hR' ⊢
  unfold maxLen at hcm hcm'
  have HR := Lib.hid hR
  have HR' := Lib.hid hR'
  obtain ⟨l, hl⟩ : ∃ l, xs.length = l := ⟨_, rfl⟩
  obtain ⟨m, hm⟩ : ∃ m, ys.length = m := ⟨_, rfl⟩
  obtain ⟨t, ht⟩ : ∃ t, (xs == ys) = t := ⟨_, rfl⟩
  rw [hl] at hlc ⊢
  rw [hm] at hlc' ⊢
  rw [ht]
  have HL := Lib.hid hl
  have HM := Lib.hid hm
  have HT := Lib.hid ht
  clear h h' hR hR' hl hm ht
  by_cases hlm : l = m
  · subst hlm
    go_enter Try.func47, Try.ntmps47
    go_wp2
    go_loopw [13] (fun i wr => ∃ k : Nat, k ≤ l ∧ i = .int .i64 k ∧ Below w.heap.size w wr ∧ xs.take k = ys.take k) (fun i _ => l - (intOf i).toNat)
    case atStart => exact ⟨0, Nat.zero_le _, rfl, Below.refl _ _, rfl⟩
    case round =>
      obtain ⟨k, hk, rfl, hb, htk⟩ := hrel
      have HB := Lib.hid hb
      have HTK := Lib.hid htk
      clear hb htk
      by_cases hlt : k < l
      · have hkl : k < xs.length := by rw [HL.out]; exact hlt
        have hkm : k < ys.length := by rw [HM.out]; exact hlt
        obtain ⟨ad, rfl, hcell⟩ := reads_at ((HR.out.below HB.out).more HB.out.size) k (sv (str xs[k])) (by rw [List.map_map, List.getElem?_map, List.getElem?_eq_getElem hkl]; rfl)
        obtain ⟨ad', rfl, hcell'⟩ := reads_at ((HR'.out.below HB.out).more HB.out.size) k (sv (str ys[k])) (by rw [List.map_map, List.getElem?_map, List.getElem?_eq_getElem hkm]; rfl)
        have z0 : (0 : Int) ≤ (k : Int) := by omega
        have z1 : (k : Int) < (l : Int) := by omega
        by_cases he : xs[k] = ys[k]
        · have HS := Lib.hid (take_snoc hkl hkm HTK.out he)
          rw [← he] at hcell'
          clear he
          replace hcell : wr.cell? (ad.add k) = some (.string (str xs[k])) := hcell
          replace hcell' : wr.cell? (ad'.add k) = some (.string (str xs[k])) := hcell'
          generalize str xs[k] = x at *
          clear hkl hkm
          go_wp2_with fail
          go_quiet (fail)
          go_wp2
          go_roundw
          case rel => exact ⟨k + 1, by omega, by go_num, below_drewN HB.out _, HS.out⟩
          case measure => simp [intOf]; omega
        · have htt : t = false := by
            rw [← HT.out, beq_eq_false_iff_ne]
            rintro rfl
            exact he rfl
          subst htt
          have hne : str xs[k] ≠ str ys[k] := fun e => he (str_inj e)
          clear he
          replace hcell : wr.cell? (ad.add k) = some (.string (str xs[k])) := hcell
          replace hcell' : wr.cell? (ad'.add k) = some (.string (str ys[k])) := hcell'
          generalize str xs[k] = x at *
          generalize str ys[k] = y at *
          clear hkl hkm
          have hne' := toList_ne' hne
          clear hne
          go_wp2_with fail
          go_quiet (fail)
          go_wp2
          go_ret
          exact ⟨rfl, below_drewN HB.out _⟩
      · have htt : t = true := by
          rw [← HT.out, beq_iff_eq]
          have := HTK.out
          rwa [List.take_of_length_le (by rw [HL.out]; omega), List.take_of_length_le (by rw [HM.out]; omega)] at this
        subst htt
        go_wp2
        go_ret
        exact ⟨rfl, HB.out⟩
  · have htt : t = false := by
      rw [← HT.out, beq_eq_false_iff_ne]
      rintro rfl
      exact hlm (HL.out.symm.trans HM.out)
    subst htt
    have hne : ((l : Int) == (m : Int)) = false := beq_eq_false_iff_ne.2 (by omega)
    clear hlm
    go_enter Try.func47, Try.ntmps47
    go_wp2
    go_ret
    exact ⟨rfl, Below.refl _ _⟩
set_option maxRecDepth 100000 in
set_option maxHeartbeats 800000 in
theorem eqi_any (v v' : Value) (xs ys : List ItM) (w : World) (h : SlI w v xs) (h' : SlI w v' ys) : Calls Try.prog 46 #[v, v'] w (BoolPost w (xs == ys)) := by
  obtain ⟨A, c, rfl, hlc, hcm, _, hR⟩ := h
  obtain ⟨A', c', rfl, hlc', hcm', _, hR'⟩ := h'
  unfold maxLen at hcm hcm'
  have HR := Lib.hid hR
  have HR' := Lib.hid hR'
  obtain ⟨l, hl⟩ : ∃ l, xs.length = l := ⟨_, rfl⟩
  obtain ⟨m, hm⟩ : ∃ m, ys.length = m := ⟨_, rfl⟩
  obtain ⟨t, ht⟩ : ∃ t, (xs == ys) = t := ⟨_, rfl⟩
  rw [hl] at hlc ⊢
  rw [hm] at hlc' ⊢
  rw [ht]
  have HL := Lib.hid hl
  have HM := Lib.hid hm
  have HT := Lib.hid ht
  clear hR hR' hl hm ht
  by_cases hlm : l = m
  · subst hlm
    go_enter Try.func46, Try.ntmps46
    go_wp2
    go_loopw [13] (fun i wr => ∃ k : Nat, k ≤ l ∧ i = .int .i64 k ∧ Below w.heap.size w wr ∧ xs.take k = ys.take k) (fun i _ => l - (intOf i).toNat)
    case atStart => exact ⟨0, Nat.zero_le _, rfl, Below.refl _ _, rfl⟩
    case round =>
      obtain ⟨k, hk, rfl, hb, htk⟩ := hrel
      have HB := Lib.hid hb
      have HTK := Lib.hid htk
      clear hb htk
      by_cases hlt : k < l
      · have hkl : k < xs.length := by rw [HL.out]; exact hlt
        have hkm : k < ys.length := by rw [HM.out]; exact hlt
        obtain ⟨ad, rfl, c0, c1, c2⟩ := items_at (HR.out.below HB.out) rfl k xs[k] (List.getElem?_eq_getElem hkl)
        obtain ⟨ad', rfl, d0, d1, d2⟩ := items_at (HR'.out.below HB.out) rfl k ys[k] (List.getElem?_eq_getElem hkm)
        have z0 : (0 : Int) ≤ (k : Int) := by omega
        have z1 : (k : Int) < (l : Int) := by omega
        obtain ⟨p, hp⟩ : ∃ p, xs[k] = p := ⟨_, rfl⟩
        obtain ⟨q, hq⟩ : ∃ q, ys[k] = q := ⟨_, rfl⟩
        obtain ⟨r, hr⟩ : ∃ r, (p == q) = r := ⟨_, rfl⟩
        have HS : Hid (r = true → xs.take (k + 1) = ys.take (k + 1)) := fun e => take_snoc hkl hkm HTK.out (by rw [hp, hq]; rw [e] at hr; exact beq_iff_eq.1 hr)
        have HN : Hid (r = false → t = false) := fun e => by
          rw [← HT.out, beq_eq_false_iff_ne]
          rintro rfl
          rw [e] at hr
          exact (beq_eq_false_iff_ne.1 hr) (hp.symm.trans hq)
        rw [hp] at c0 c1 c2
        rw [hq] at d0 d1 d2
        clear hp hq hkl hkm
        cases r with
        | true =>
          have HSS := Lib.hid (HS.out rfl)
          obtain rfl : p = q := beq_iff_eq.1 hr
          clear hr HS HN
          generalize p.1 = x0 at *
          generalize str p.2.1 = x1 at *
          generalize str p.2.2 = x2 at *
          go_wp2_with fail
          go_quiet (fail)
          go_wp2
          go_roundw
          case rel => exact ⟨k + 1, by omega, by go_num, below_drewN HB.out _, HSS.out⟩
          case measure => simp [intOf]; omega
        | false =>
          obtain rfl := HN.out rfl
          clear HS HN
          obtain ⟨p0, p1, p2⟩ := p
          obtain ⟨q0, q1, q2⟩ := q
          replace c0 : wr.cell? (ad.add (k * 3)) = some (.int .i64 p0) := c0
          replace c1 : wr.cell? ⟨(ad.add (k * 3)).block, (ad.add (k * 3)).off + 1, none⟩ = some (.string (str p1)) := c1
          replace c2 : wr.cell? ⟨(ad.add (k * 3)).block, (ad.add (k * 3)).off + 2, none⟩ = some (.string (str p2)) := c2
          replace d0 : wr.cell? (ad'.add (k * 3)) = some (.int .i64 q0) := d0
          replace d1 : wr.cell? ⟨(ad'.add (k * 3)).block, (ad'.add (k * 3)).off + 1, none⟩ = some (.string (str q1)) := d1
          replace d2 : wr.cell? ⟨(ad'.add (k * 3)).block, (ad'.add (k * 3)).off + 2, none⟩ = some (.string (str q2)) := d2
          by_cases e0 : p0 = q0
          · subst e0
            by_cases e1 : p1 = q1
            · subst e1
              have hne := toList_ne' (fun e => (beq_eq_false_iff_ne.1 hr) (by rw [str_inj e]) : str p2 ≠ str q2)
              clear hr
              generalize str p1 = x1 at *
              generalize str p2 = x2 at *
              generalize str q2 = y2 at *
              go_wp2_with fail
              go_quiet (fail)
              go_wp2
              go_ret
              exact ⟨rfl, below_drewN HB.out _⟩
            · have hne := toList_ne' (fun e => e1 (str_inj e) : str p1 ≠ str q1)
              clear hr e1
              generalize str p1 = x1 at *
              generalize str q1 = y1 at *
              generalize str p2 = x2 at *
              generalize str q2 = y2 at *
              go_wp2_with fail
              go_quiet (fail)
              go_wp2
              go_ret
              exact ⟨rfl, below_drewN HB.out _⟩
          · have hne : (p0 == q0) = false := beq_eq_false_iff_ne.2 e0
            clear hr e0
            generalize str p1 = x1 at *
            generalize str q1 = y1 at *
            generalize str p2 = x2 at *
            generalize str q2 = y2 at *
            go_wp2_with fail
            go_quiet (fail)
            go_wp2
            go_ret
            exact ⟨rfl, below_drewN HB.out _⟩
      · have htt : t = true := by
          rw [← HT.out, beq_iff_eq]
          have := HTK.out
          rwa [List.take_of_length_le (by rw [HL.out]; omega), List.take_of_length_le (by rw [HM.out]; omega)] at this
        subst htt
        go_wp2
        go_ret
        exact ⟨rfl, HB.out⟩
  · have htt : t = false := by
      rw [← HT.out, beq_eq_false_iff_ne]
      rintro rfl
      exact hlm (HL.out.symm.trans HM.out)
    subst htt
    have hne : ((l : Int) == (m : Int)) = false := beq_eq_false_iff_ne.2 (by omega)
    clear hlm
    go_enter Try.func46, Try.ntmps46
    go_wp2
    go_ret
    exact ⟨rfl, Below.refl _ _⟩
end Go.Proofs.Ytcbiajajoojgmaa.Ob
/- obj: what may be of a message, of parents. -/
namespace Go.Proofs.Ytcbiajajoojgmaa.Ob
open Go.RowKit Go.Proofs.Ytcbiajajoojgmaa.Sh
open Go.Proofs.Ytcbiajajoojgmaa.Tx (OwnV SlV sv bl nameB reads_at texts_at toList_ne')

theorem all_bad {f : Nat → Bool} {n k : Nat} (hk : k < n) (h : f k = false) : (List.range n).all f = false := by
  rw [List.all_eq_false]
  exact ⟨k, List.mem_range.2 hk, by rw [h]; simp⟩
theorem all_next {f : Nat → Bool} {k : Nat} (h : (List.range k).all f = true) (hk : f k = true) : (List.range (k + 1)).all f = true := by
  rw [List.range_succ, List.all_append, h]
  simp [hk]
def validB (cs : List UInt8) : Bool := cs.length == 64 && hexOk cs
theorem valid_all (cs : List UInt8) (w : World) : Calls Try.prog 27 #[.string (str cs)] w fun e w' => e = .returned (.bool (validB cs)) ∧ w = w' := by
  by_cases h64 : cs.length = 64
  · exact valid_any cs _ rfl w (by omega)
  · have hb : validB cs = false := by unfold validB; rw [beq_eq_false_iff_ne.2 h64]; rfl
    rw [hb]
    have hsz := str_size cs
    obtain ⟨l, hL⟩ : ∃ l, cs.length = l := ⟨_, rfl⟩
    rw [hL] at hsz h64
    have e1 : ((l : Int) == 64) = false := beq_eq_false_iff_ne.2 (by omega)
    clear hL
    go_enter Try.func27, Try.ntmps27
    go_wp2_with fail
    go_ret
    exact ⟨rfl, rfl⟩
theorem name_all (cs : List UInt8) (w : World) : Calls Try.prog 77 #[.string (str cs)] w fun e w' => e = .returned (.bool (nameB cs)) ∧ w = w' := Tx.cname_any cs w

def okm (c : UInt8) : Bool := decide (32 ≤ bi c) && decide (bi c ≤ 126)
def msgB (s : List UInt8) : Bool := decide (s.length ≤ 200) && (List.range s.length).all fun j => okm (s.getD j 0)
set_option maxRecDepth 100000 in
set_option maxHeartbeats 800000 in
theorem msg_any (cs : List UInt8) (w : World) : Calls Try.prog 64 #[.string (str cs)] w fun e w' => e = .returned (.bool (msgB cs)) ∧ w = w' := by
  have hsz := str_size cs
  obtain ⟨l, hL⟩ : ∃ l, cs.length = l := ⟨_, rfl⟩
  obtain ⟨t, ht⟩ : ∃ t, msgB cs = t := ⟨_, rfl⟩
  rw [ht]
  unfold msgB at ht
  rw [hL] at hsz ht
  have HL := Lib.hid hL
  have HT := Lib.hid ht
  have n0 : (0 : Int) ≤ (l : Int) := by omega
  clear hL ht
  by_cases h2 : 200 < l
  · have htt : t = false := by
      rw [← HT.out]
      simp [show ¬ (l ≤ 200) from by omega]
    subst htt
    have l2 : (200 : Int) < (l : Int) := by omega
    clear h2
    go_enter Try.func64, Try.ntmps64
    go_wp2
    go_ret
    exact ⟨rfl, rfl⟩
  · have l2 : (l : Int) ≤ 200 := by omega
    have HN := Lib.hid h2
    clear h2
    go_enter Try.func64, Try.ntmps64
    go_wp2
    go_loop [9] (fun i => ∃ k : Nat, k ≤ l ∧ i = .int .i64 k ∧ (List.range k).all (fun j => okm (cs.getD j 0)) = true) (fun i => l - (intOf i).toNat)
    case atStart => exact ⟨0, by omega, rfl, rfl⟩
    case round =>
      obtain ⟨k, hk, rfl, hok⟩ := hrel
      have HOK := Lib.hid hok
      clear hok
      have k0 : (0 : Int) ≤ (k : Int) := by omega
      by_cases hlt : k < l
      · have k1 : (k : Int) < (l : Int) := by omega
        have hix := index_str cs k (by rw [HL.out]; exact hlt)
        obtain ⟨x, hx⟩ : ∃ x, cs.getD k 0 = x := ⟨_, rfl⟩
        rw [hx] at hix
        have HX := Lib.hid hx
        clear hx
        by_cases c1 : bi x < 32
        · have htt : t = false := by
            rw [← HT.out, all_bad hlt (by rw [HX.out]; unfold okm; simp [show ¬ (32 ≤ bi x) from by omega])]
            simp
          subst htt
          generalize bi x = y at *
          go_wp2
          go_ret
          exact ⟨rfl, rfl⟩
        · have c1' : 32 ≤ bi x := by omega
          clear c1
          by_cases c2 : 126 < bi x
          · have htt : t = false := by
              rw [← HT.out, all_bad hlt (by rw [HX.out]; unfold okm; simp [show ¬ (bi x ≤ 126) from by omega])]
              simp
            subst htt
            generalize bi x = y at *
            go_wp2
            go_ret
            exact ⟨rfl, rfl⟩
          · have c2' : bi x ≤ 126 := by omega
            have HO := Lib.hid (all_next HOK.out (show okm (cs.getD k 0) = true from by rw [HX.out]; unfold okm; simp [c1', c2']))
            clear c2
            generalize bi x = y at *
            go_wp2
            go_round
            case rel => exact ⟨k + 1, by omega, by go_num, HO.out⟩
            case measure => simp [intOf]; omega
      · obtain rfl : k = l := by omega
        have htt : t = true := by
          rw [← HT.out, HOK.out]
          simp
          omega
        subst htt
        go_wp2
        go_ret
        exact ⟨rfl, rfl⟩

def parB (ids : List (List UInt8)) : Bool := decide (ids.length ≤ 2) && (List.range ids.length).all fun j => validB (ids.getD j []) && (decide (j = 0) || bl (ids.getD (j - 1) []) (ids.getD j []))
theorem par_at {w : World} {B : Nat} {ids : List (List UInt8)} {A : Option Addr} {n : Nat} (h : Reads w B 1 A n ((ids.map str).map sv)) (k : Nat) (hk : k < ids.length) : ∃ ad, A = some ad ∧ w.cell? (ad.add k) = some (.string (str (ids.getD k []))) := by
  have : ((ids.map str).map sv)[k]? = some (sv (str (ids.getD k []))) := by
    rw [List.map_map, List.getElem?_map, List.getElem?_eq_getElem hk, List.getD_eq_getElem?_getD, List.getElem?_eq_getElem hk]
    rfl
  exact reads_at h k _ this
set_option maxRecDepth 100000 in
set_option maxHeartbeats 800000 in
theorem par_any (v : Value) (ids : List (List UInt8)) (w : World) (h : SlV w v ((ids.map str).map sv)) : Calls Try.prog 63 #[v] w fun e w' => e = .returned (.bool (parB ids)) ∧ w = w' := by
  obtain ⟨A, c, rfl, hlc, hcm, hR⟩ := h.len
  rw [List.length_map, List.length_map] at hlc hR ⊢
  have HR := Lib.hid hR
  unfold maxLen at hcm
  obtain ⟨l, hL⟩ : ∃ l, ids.length = l := ⟨_, rfl⟩
  obtain ⟨t, ht⟩ : ∃ t, parB ids = t := ⟨_, rfl⟩
  rw [ht]
  unfold parB at ht
  rw [hL] at hlc ht ⊢
  have HL := Lib.hid hL
  have HT := Lib.hid ht
  clear hL ht h hR
  by_cases h2 : 2 < l
  · have htt : t = false := by
      rw [← HT.out]
      simp [show ¬ (l ≤ 2) from by omega]
    subst htt
    have l2 : (2 : Int) < (l : Int) := by omega
    clear h2
    go_enter Try.func63, Try.ntmps63
    go_wp2
    go_ret
    exact ⟨rfl, rfl⟩
  · have l2 : (l : Int) ≤ 2 := by omega
    have HN := Lib.hid h2
    clear h2
    go_enter Try.func63, Try.ntmps63
    go_wp2
    go_loop [10] (fun i => ∃ k : Nat, k ≤ l ∧ i = .int .i64 k ∧ (List.range k).all (fun j => validB (ids.getD j []) && (decide (j = 0) || bl (ids.getD (j - 1) []) (ids.getD j []))) = true) (fun i => l - (intOf i).toNat)
    case atStart => exact ⟨0, by omega, rfl, rfl⟩
    case round =>
      obtain ⟨k, hk, rfl, hok⟩ := hrel
      have HOK := Lib.hid hok
      clear hok
      have k0 : (0 : Int) ≤ (k : Int) := by omega
      by_cases hlt : k < l
      · have k1 : (k : Int) < (l : Int) := by omega
        obtain ⟨ad, rfl, hcell⟩ := par_at HR.out k (by rw [HL.out]; exact hlt)
        obtain ⟨x, hx⟩ : ∃ x, ids.getD k [] = x := ⟨_, rfl⟩
        rw [hx] at hcell
        have HX := Lib.hid hx
        obtain ⟨b, hb⟩ : ∃ b, validB x = b := ⟨_, rfl⟩
        have HB := Lib.hid hb
        clear hx hb
        cases b with
        | false =>
          have htt : t = false := by
            rw [← HT.out, all_bad hlt (by rw [HX.out, HB.out]; rfl)]
            simp
          subst htt
          go_wp2_with fail
          refine (valid_all x _).mono ?_
          rw [HB.out]
          rintro e w' ⟨rfl, rfl⟩
          go_wp2
          go_ret
          exact ⟨rfl, rfl⟩
        | true =>
          rcases Nat.eq_zero_or_pos k with h0 | h0
          · have HO := Lib.hid (all_next HOK.out (show (validB (ids.getD k []) && (decide (k = 0) || bl (ids.getD (k - 1) []) (ids.getD k []))) = true from by rw [HX.out, HB.out]; simp [h0]))
            have kz : (k : Int) ≤ 0 := by omega
            clear h0
            go_wp2_with fail
            refine (valid_all x _).mono ?_
            rw [HB.out]
            rintro e w' ⟨rfl, rfl⟩
            go_wp2
            go_round
            case rel => exact ⟨k + 1, by omega, by go_num, HO.out⟩
            case measure => simp [intOf]; omega
          · obtain ⟨j, hj⟩ : ∃ j, k = j + 1 := ⟨k - 1, by omega⟩
            have hkj : (k : Int) - 1 = (j : Int) := by omega
            have hwj : IntKind.i64.wrap ((k : Int) - 1) = (j : Int) := by rw [IntKind.wrap_i64]; omega
            have kp : (0 : Int) < (k : Int) := by omega
            obtain ⟨ad', had, hcell'⟩ := par_at HR.out j (by rw [HL.out]; omega)
            injection had with had
            subst had
            obtain ⟨y, hy⟩ : ∃ y, ids.getD j [] = y := ⟨_, rfl⟩
            rw [hy] at hcell'
            obtain ⟨r, hr⟩ : ∃ r, Op.bytesLess (str y).toList (str x).toList = r := ⟨_, rfl⟩
            have hr' : bl y x = r := by rw [str_toList, str_toList] at hr; exact hr
            have j0 : (0 : Int) ≤ (j : Int) := by omega
            have j1 : (j : Int) < (l : Int) := by omega
            have HY := Lib.hid hy
            have HJ := Lib.hid hj
            have HRR := Lib.hid hr'
            clear hy hr' hj
            have hf : (validB (ids.getD k []) && (decide (k = 0) || bl (ids.getD (k - 1) []) (ids.getD k []))) = r := by
              rw [HX.out, HB.out, show k - 1 = j from by have := HJ.out; omega, HY.out, HRR.out]
              simp [show k ≠ 0 from by omega]
            have HF := Lib.hid hf
            clear hf h0
            cases r with
            | false =>
              have htt : t = false := by
                rw [← HT.out, all_bad hlt HF.out]
                simp
              subst htt
              go_wp2_with fail
              refine (valid_all x _).mono ?_
              rw [HB.out]
              rintro e w' ⟨rfl, rfl⟩
              go_wp2
              go_ret
              exact ⟨rfl, rfl⟩
            | true =>
              have HO := Lib.hid (all_next HOK.out HF.out)
              go_wp2_with fail
              refine (valid_all x _).mono ?_
              rw [HB.out]
              rintro e w' ⟨rfl, rfl⟩
              go_wp2
              go_round
              case rel => exact ⟨k + 1, by omega, by go_num, HO.out⟩
              case measure => simp [intOf]; omega
      · obtain rfl : k = l := by omega
        have htt : t = true := by
          rw [← HT.out, HOK.out]
          simp
          omega
        subst htt
        go_wp2
        go_ret
        exact ⟨rfl, rfl⟩
end Go.Proofs.Ytcbiajajoojgmaa.Ob
/- obj: Same. -/
namespace Go.Proofs.Ytcbiajajoojgmaa.Ob
open Go.RowKit Go.Proofs.Ytcbiajajoojgmaa.Sh
open Go.Proofs.Ytcbiajajoojgmaa.Tx (OwnV SlV sv bl nameB reads_at texts_at toList_ne')

def sameB (o p : ObM) : Bool := o.kind == p.kind && o.data == p.data && o.items == p.items && o.tree == p.tree && o.parents == p.parents && o.stamp == p.stamp && o.author == p.author && o.msg == p.msg
theorem sameB_iff {o p : ObM} : sameB o p = true ↔ o = p := by
  unfold sameB
  cases o; cases p
  simp [and_assoc]
theorem Below.after {w w1 w2 : World} (h : Below w.heap.size w w1) (h2 : Below w1.heap.size w1 w2) : Below w.heap.size w w2 := h.trans (h2.mono h.size)
/-- The cells of a boxed object. -/
theorem box_cells {w : World} {b : Nat} {T : TypeId} {c0 c1 c2 c3 c4 c5 c6 c7 : Value} (h : Blk w b T #[c0, c1, c2, c3, c4, c5, c6, c7]) :
    w.cell? ⟨b, 0, none⟩ = some c0 ∧ w.cell? ⟨b, 1, none⟩ = some c1 ∧ w.cell? ⟨b, 2, none⟩ = some c2 ∧ w.cell? ⟨b, 3, none⟩ = some c3 ∧ w.cell? ⟨b, 4, none⟩ = some c4 ∧ w.cell? ⟨b, 5, none⟩ = some c5 ∧ w.cell? ⟨b, 6, none⟩ = some c6 ∧ w.cell? ⟨b, 7, none⟩ = some c7 :=
  ⟨h.cell 0, h.cell 1, h.cell 2, h.cell 3, h.cell 4, h.cell 5, h.cell 6, h.cell 7⟩
set_option maxRecDepth 100000 in
set_option maxHeartbeats 1600000 in
theorem same_any (v v' : Value) (o p : ObM) (w : World) (h : ObV w v o) (h' : ObV w v' p) : Calls Try.prog 21 #[v, v'] w (BoolPost w (sameB o p)) := by
  obtain ⟨d, it, ps, rfl, hd, hi, hp⟩ := h
  obtain ⟨d', it', ps', rfl, hd', hi', hp'⟩ := h'
  obtain ⟨k0, D, I, t0, P, s0, a0, m0⟩ := o
  obtain ⟨k1, D', I', t1, P', s1, a1, m1⟩ := p
  have HD := Lib.hid hd
  have HI := Lib.hid hi
  have HP := Lib.hid hp
  have HD' := Lib.hid hd'
  have HI' := Lib.hid hi'
  have HP' := Lib.hid hp'
  clear hd hi hp hd' hi' hp'
  show Calls _ _ #[.agg #[.int .i64 k0, d, it, .string (str t0), ps, .int .i64 s0, .int .i64 a0, .string (str m0)], .agg #[.int .i64 k1, d', it', .string (str t1), ps', .int .i64 s1, .int .i64 a1, .string (str m1)]] _ _
  obtain ⟨b0, e0⟩ : ∃ b, (k0 == k1) = b := ⟨_, rfl⟩
  obtain ⟨b1, e1⟩ : ∃ b, (D == D') = b := ⟨_, rfl⟩
  obtain ⟨b2, e2⟩ : ∃ b, (I == I') = b := ⟨_, rfl⟩
  obtain ⟨b3, e3⟩ : ∃ b, ((str t0).toList == (str t1).toList) = b := ⟨_, rfl⟩
  obtain ⟨b4, e4⟩ : ∃ b, (P == P') = b := ⟨_, rfl⟩
  obtain ⟨b5, e5⟩ : ∃ b, (s0 == s1) = b := ⟨_, rfl⟩
  obtain ⟨b6, e6⟩ : ∃ b, (a0 == a1) = b := ⟨_, rfl⟩
  obtain ⟨b7, e7⟩ : ∃ b, ((str m0).toList == (str m1).toList) = b := ⟨_, rfl⟩
  have HS : Hid (sameB ⟨k0, D, I, t0, P, s0, a0, m0⟩ ⟨k1, D', I', t1, P', s1, a1, m1⟩ = (b0 && b1 && b2 && b3 && b4 && b5 && b6 && b7)) := by
    unfold Hid sameB
    rw [← e0, ← e1, ← e2, ← e3, ← e4, ← e5, ← e6, ← e7, str_toList, str_toList, str_toList, str_toList]
  have E1 := Lib.hid e1
  have E2 := Lib.hid e2
  have E4 := Lib.hid e4
  clear e1 e2 e4
  rw [HS.out]
  clear HS
  have hw1 : Below w.heap.size w ((w.alloc (.cells #[.int .i64 k0, d, it, .string (str t0), ps, .int .i64 s0, .int .i64 a0, .string (str m0)] 26)).alloc (.cells #[.int .i64 k1, d', it', .string (str t1), ps', .int .i64 s1, .int .i64 a1, .string (str m1)] 26)) :=
    ((Below.refl _ _).alloc (Nat.le_refl _) _).alloc (by simp) _
  have HW := Lib.hid hw1
  clear hw1
  cases b0 with
  | false =>
    go_enter Try.func21, Try.ntmps21
    go_wp2_with fail
    go_ret
    exact ⟨rfl, HW.out⟩
  | true =>
    go_enter Try.func21, Try.ntmps21
    go_wp2_with fail
    obtain ⟨W, hW⟩ : ∃ W, W = ((w.alloc (.cells #[.int .i64 k0, d, it, .string (str t0), ps, .int .i64 s0, .int .i64 a0, .string (str m0)] 26)).alloc (.cells #[.int .i64 k1, d', it', .string (str t1), ps', .int .i64 s1, .int .i64 a1, .string (str m1)] 26)) := ⟨_, rfl⟩
    rw [← hW]
    have HB1 : Hid (Blk W w.heap.size 26 #[.int .i64 k0, d, it, .string (str t0), ps, .int .i64 s0, .int .i64 a0, .string (str m0)]) := by
      unfold Hid
      rw [hW]
      exact (Blk.new w _ _).alloc _
    have HB2 : Hid (Blk W (w.heap.size + 1) 26 #[.int .i64 k1, d', it', .string (str t1), ps', .int .i64 s1, .int .i64 a1, .string (str m1)]) := by
      unfold Hid
      rw [hW, show w.heap.size + 1 = (w.alloc (.cells #[.int .i64 k0, d, it, .string (str t0), ps, .int .i64 s0, .int .i64 a0, .string (str m0)] 26)).heap.size from by simp]
      exact Blk.new _ _ _
    have HWW : Hid (Below w.heap.size w W) := by unfold Hid; rw [hW]; exact HW.out
    clear hW HW
    refine (eqb_any _ _ _ _ W (HD.out.below HWW.out) (HD'.out.below HWW.out)).mono ?_
    rw [E1.out]
    rintro e W3 ⟨rfl, hb3⟩
    have C3 := Lib.hid (Below.after HWW.out hb3)
    have A3 := Lib.hid (HB1.out.below hb3 HB1.out.lt)
    have B3 := Lib.hid (HB2.out.below hb3 HB2.out.lt)
    clear hb3
    cases b1 with
    | false =>
      go_wp2_with fail
      go_ret
      exact ⟨rfl, C3.out⟩
    | true =>
      obtain ⟨-, -, x2, x3, x4, x5, x6, x7⟩ := box_cells A3.out
      obtain ⟨-, -, y2, y3, y4, y5, y6, y7⟩ := box_cells B3.out
      go_wp2_with fail
      clear x2 x3 x4 x5 x6 x7 y2 y3 y4 y5 y6 y7
      refine (eqi_any _ _ _ _ W3 (HI.out.below C3.out) (HI'.out.below C3.out)).mono ?_
      rw [E2.out]
      rintro e W4 ⟨rfl, hb4⟩
      have C4 := Lib.hid (Below.after C3.out hb4)
      have A4 := Lib.hid (A3.out.below hb4 A3.out.lt)
      have B4 := Lib.hid (B3.out.below hb4 B3.out.lt)
      clear hb4
      cases b2 with
      | false =>
        go_wp2_with fail
        go_ret
        exact ⟨rfl, C4.out⟩
      | true =>
        obtain ⟨-, -, x2, x3, x4, x5, x6, x7⟩ := box_cells A4.out
        obtain ⟨-, -, y2, y3, y4, y5, y6, y7⟩ := box_cells B4.out
        cases b3 with
        | false =>
          go_wp2_with fail
          go_ret
          exact ⟨rfl, C4.out⟩
        | true =>
          go_wp2_with fail
          clear x2 x3 x4 x5 x6 x7 y2 y3 y4 y5 y6 y7
          refine (eqt_any _ _ _ _ W4 (HP.out.below C4.out) (HP'.out.below C4.out)).mono ?_
          rw [E4.out]
          rintro e W5 ⟨rfl, hb5⟩
          have C5 := Lib.hid (Below.after C4.out hb5)
          have A5 := Lib.hid (A4.out.below hb5 A4.out.lt)
          have B5 := Lib.hid (B4.out.below hb5 B4.out.lt)
          clear hb5
          obtain ⟨-, -, x2, x3, x4, x5, x6, x7⟩ := box_cells A5.out
          obtain ⟨-, -, y2, y3, y4, y5, y6, y7⟩ := box_cells B5.out
          cases b4 <;> cases b5 <;> cases b6 <;> cases b7 <;> (go_wp2_with fail; go_ret; exact ⟨rfl, C5.out⟩)
end Go.Proofs.Ytcbiajajoojgmaa.Ob
/- obj: mayItems. -/
namespace Go.Proofs.Ytcbiajajoojgmaa.Ob
open Go.RowKit Go.Proofs.Ytcbiajajoojgmaa.Sh
open Go.Proofs.Ytcbiajajoojgmaa.Tx (OwnV SlV sv bl nameB reads_at texts_at toList_ne')

def dI : ItM := (0, [], [])
def itB (x : ItM) : Bool := decide (1 ≤ x.1) && decide (x.1 ≤ 4) && nameB x.2.1 && validB x.2.2
def itemJ (l : List ItM) (j : Nat) : Bool := itB (l.getD j dI) && (decide (j = 0) || bl (l.getD (j - 1) dI).2.1 (l.getD j dI).2.1)
def itemsB (l : List ItM) : Bool := decide (l.length ≤ 256) && (List.range l.length).all (itemJ l)
set_option maxRecDepth 100000 in
set_option maxHeartbeats 1600000 in
theorem items_any (v : Value) (ls : List ItM) (w : World) (h : SlI w v ls) : Calls Try.prog 62 #[v] w (BoolPost w (itemsB ls)) := by
  obtain ⟨A, c, rfl, hlc, hcm, _, hR⟩ := h
  have HR := Lib.hid hR
  unfold maxLen at hcm
  obtain ⟨l, hL⟩ : ∃ l, ls.length = l := ⟨_, rfl⟩
  obtain ⟨t, ht⟩ : ∃ t, itemsB ls = t := ⟨_, rfl⟩
  rw [ht]
  unfold itemsB at ht
  rw [hL] at hlc ht ⊢
  have HL := Lib.hid hL
  have HT := Lib.hid ht
  clear hL ht hR
  by_cases h2 : 256 < l
  · have htt : t = false := by
      rw [← HT.out]
      simp [show ¬ (l ≤ 256) from by omega]
    subst htt
    have l2 : (256 : Int) < (l : Int) := by omega
    clear h2
    go_enter Try.func62, Try.ntmps62
    go_wp2
    go_ret
    exact ⟨rfl, Below.refl _ _⟩
  · have l2 : (l : Int) ≤ 256 := by omega
    have HN := Lib.hid h2
    clear h2
    go_enter Try.func62, Try.ntmps62
    go_wp2
    go_loopw [10] (fun i wr => ∃ k : Nat, k ≤ l ∧ i = .int .i64 k ∧ Below w.heap.size w wr ∧ (List.range k).all (itemJ ls) = true) (fun i _ => l - (intOf i).toNat)
    case atStart => exact ⟨0, by omega, rfl, Below.refl _ _, rfl⟩
    case round =>
      obtain ⟨k, hk, rfl, hb, hok⟩ := hrel
      have HB := Lib.hid hb
      have HOK := Lib.hid hok
      clear hb hok
      have k0 : (0 : Int) ≤ (k : Int) := by omega
      by_cases hlt : k < l
      · have k1 : (k : Int) < (l : Int) := by omega
        have hkl : k < ls.length := by rw [HL.out]; exact hlt
        obtain ⟨x, hx⟩ : ∃ x, ls[k] = x := ⟨_, rfl⟩
        obtain ⟨ad, rfl, c0, c1, c2⟩ := items_at (HR.out.below HB.out) rfl k x (by rw [List.getElem?_eq_getElem hkl, hx])
        have HX : Hid (ls.getD k dI = x) := by unfold Hid; rw [List.getD_eq_getElem?_getD, List.getElem?_eq_getElem hkl, ← hx]; rfl
        clear hx hkl
        obtain ⟨m, nm, id⟩ := x
        replace c0 : wr.cell? (ad.add (k * 3)) = some (.int .i64 m) := c0
        replace c1 : wr.cell? ⟨(ad.add (k * 3)).block, (ad.add (k * 3)).off + 1, none⟩ = some (.string (str nm)) := c1
        replace c2 : wr.cell? ⟨(ad.add (k * 3)).block, (ad.add (k * 3)).off + 2, none⟩ = some (.string (str id)) := c2
        have HW : Hid (Below w.heap.size w (wr.alloc (.cells #[.int .i64 m, .string (str nm), .string (str id)] 56))) := HB.out.alloc HB.out.size _
        by_cases m1 : m < 1
        · have htt : t = false := by
            rw [← HT.out, all_bad hlt (by unfold itemJ itB; rw [HX.out]; simp [show ¬ (1 ≤ m) from by omega])]
            simp
          subst htt
          go_wp2_with fail
          go_ret
          exact ⟨rfl, HW.out⟩
        · have m1' : 1 ≤ m := by omega
          clear m1
          by_cases m2 : 4 < m
          · have htt : t = false := by
              rw [← HT.out, all_bad hlt (by unfold itemJ itB; rw [HX.out]; simp [show ¬ (m ≤ 4) from by omega])]
              simp
            subst htt
            go_wp2_with fail
            go_ret
            exact ⟨rfl, HW.out⟩
          · have m2' : m ≤ 4 := by omega
            clear m2
            obtain ⟨b, hb⟩ : ∃ b, nameB nm = b := ⟨_, rfl⟩
            have HBN := Lib.hid hb
            clear hb
            cases b with
            | false =>
              have htt : t = false := by
                rw [← HT.out, all_bad hlt (by unfold itemJ itB; rw [HX.out]; simp [HBN.out])]
                simp
              subst htt
              go_wp2_with fail
              refine (name_all nm _).mono ?_
              rw [HBN.out]
              rintro e w' ⟨rfl, rfl⟩
              go_wp2_with fail
              go_ret
              exact ⟨rfl, HW.out⟩
            | true =>
              obtain ⟨b, hb⟩ : ∃ b, validB id = b := ⟨_, rfl⟩
              have HBV := Lib.hid hb
              clear hb
              cases b with
              | false =>
                have htt : t = false := by
                  rw [← HT.out, all_bad hlt (by unfold itemJ itB; rw [HX.out]; simp [HBV.out])]
                  simp
                subst htt
                go_wp2_with fail
                refine (name_all nm _).mono ?_
                rw [HBN.out]
                rintro e w' ⟨rfl, rfl⟩
                go_wp2_with fail
                refine (valid_all id _).mono ?_
                rw [HBV.out]
                rintro e w' ⟨rfl, rfl⟩
                go_wp2_with fail
                go_ret
                exact ⟨rfl, HW.out⟩
              | true =>
                have HI : Hid (itB (m, nm, id) = true) := by
                  unfold Hid itB
                  simp [m1', m2', HBN.out, HBV.out]
                rcases Nat.eq_zero_or_pos k with h0 | h0
                · have HO := Lib.hid (all_next HOK.out (show itemJ ls k = true from by unfold itemJ; rw [HX.out, HI.out]; simp [h0]))
                  have kz : decide (0 < k) = false := by rw [h0]; rfl
                  clear h0
                  go_wp2_with fail
                  refine (name_all nm _).mono ?_
                  rw [HBN.out]
                  rintro e w' ⟨rfl, rfl⟩
                  go_wp2_with fail
                  refine (valid_all id _).mono ?_
                  rw [HBV.out]
                  rintro e w' ⟨rfl, rfl⟩
                  go_wp2_with fail
                  go_quiet (fail)
                  go_wp2_with fail
                  go_roundw
                  case rel => exact ⟨k + 1, by omega, by go_num, below_drewN HW.out _, HO.out⟩
                  case measure => simp [intOf]; omega
                · obtain ⟨j, hj⟩ : ∃ j, k = j + 1 := ⟨k - 1, by omega⟩
                  have hkj : (k : Int) - 1 = (j : Int) := by omega
                  have hwj : IntKind.i64.wrap ((k : Int) - 1) = (j : Int) := by rw [IntKind.wrap_i64]; omega
                  have kp : (0 : Int) < (k : Int) := by omega
                  have kd : decide (0 < k) = true := decide_eq_true h0
                  have hjl : j < ls.length := by rw [HL.out]; omega
                  obtain ⟨y, hy⟩ : ∃ y, ls[j] = y := ⟨_, rfl⟩
                  obtain ⟨ad', had, d0, d1, d2⟩ := items_at (HR.out.below HW.out) rfl j y (by rw [List.getElem?_eq_getElem hjl, hy])
                  injection had with had
                  subst had
                  have HY : Hid (ls.getD j dI = y) := by unfold Hid; rw [List.getD_eq_getElem?_getD, List.getElem?_eq_getElem hjl, ← hy]; rfl
                  clear hy hjl d0 d2
                  obtain ⟨y0, yn, yi⟩ := y
                  replace d1 : (wr.alloc (.cells #[.int .i64 m, .string (str nm), .string (str id)] 56)).cell? ⟨(ad.add (j * 3)).block, (ad.add (j * 3)).off + 1, none⟩ = some (.string (str yn)) := d1
                  obtain ⟨r, hr⟩ : ∃ r, Op.bytesLess (str yn).toList (str nm).toList = r := ⟨_, rfl⟩
                  have hr' : bl yn nm = r := by rw [str_toList, str_toList] at hr; exact hr
                  have j0 : (0 : Int) ≤ (j : Int) := by omega
                  have j1 : (j : Int) < (l : Int) := by omega
                  have hf : itemJ ls k = r := by
                    unfold itemJ
                    rw [HX.out, HI.out, show k - 1 = j from by omega, HY.out]
                    simp [show k ≠ 0 from by omega, hr']
                  have HF := Lib.hid hf
                  clear hf h0 hr' hj
                  cases r with
                  | false =>
                    have htt : t = false := by
                      rw [← HT.out, all_bad hlt HF.out]
                      simp
                    subst htt
                    go_wp2_with fail
                    refine (name_all nm _).mono ?_
                    rw [HBN.out]
                    rintro e w' ⟨rfl, rfl⟩
                    go_wp2_with fail
                    refine (valid_all id _).mono ?_
                    rw [HBV.out]
                    rintro e w' ⟨rfl, rfl⟩
                    go_wp2_with fail
                    go_quiet (fail)
                    go_wp2_with fail
                    go_ret
                    exact ⟨rfl, below_drewN HW.out _⟩
                  | true =>
                    have HO := Lib.hid (all_next HOK.out HF.out)
                    go_wp2_with fail
                    refine (name_all nm _).mono ?_
                    rw [HBN.out]
                    rintro e w' ⟨rfl, rfl⟩
                    go_wp2_with fail
                    refine (valid_all id _).mono ?_
                    rw [HBV.out]
                    rintro e w' ⟨rfl, rfl⟩
                    go_wp2_with fail
                    go_quiet (fail)
                    go_wp2_with fail
                    go_roundw
                    case rel => exact ⟨k + 1, by omega, by go_num, below_drewN HW.out _, HO.out⟩
                    case measure => simp [intOf]; omega
      · obtain rfl : k = l := by omega
        have htt : t = true := by
          rw [← HT.out, HOK.out]
          simp
          omega
        subst htt
        go_wp2
        go_ret
        exact ⟨rfl, HB.out⟩
end Go.Proofs.Ytcbiajajoojgmaa.Ob
/- obj: mayBlob, mayTree, mayCommit, May. -/
namespace Go.Proofs.Ytcbiajajoojgmaa.Ob
open Go.RowKit Go.Proofs.Ytcbiajajoojgmaa.Sh
open Go.Proofs.Ytcbiajajoojgmaa.Tx (OwnV SlV sv bl nameB reads_at texts_at toList_ne')

def objK (k : Int) : ObM := ⟨k, [], [], [], [], 0, 0, []⟩
theorem objK_v (k : Int) (w : World) : ObV w (.agg #[.int .i64 k, .slice none 0 0, .slice none 0 0, .string ⟨#[]⟩, .slice none 0 0, .int .i64 0, .int .i64 0, .string ⟨#[]⟩]) (objK k) :=
  ⟨_, _, _, rfl, Sl.nil_ w, SlI.nil_ w, SlV.nil_ w⟩
def blobB (o : ObM) : Bool := decide (o.data.length ≤ 20000) && sameB { o with data := [] } (objK 1)
def treeB (o : ObM) : Bool := itemsB o.items && sameB { o with items := [] } (objK 2)
def commB (o : ObM) : Bool := decide (o.data.length = 0) && decide (o.items.length = 0) && validB o.tree && parB o.parents && decide (0 ≤ o.stamp) && decide (o.stamp ≤ 1099511627776) && decide (0 ≤ o.author) && decide (o.author ≤ 255) && msgB o.msg
def mayB (o : ObM) : Bool := if o.kind = 1 then blobB o else if o.kind = 2 then treeB o else if o.kind = 3 then commB o else false
set_option maxRecDepth 100000 in
set_option maxHeartbeats 1600000 in
theorem mayBlob_any (v : Value) (o : ObM) (w : World) (h : ObV w v o) : Calls Try.prog 37 #[v] w (BoolPost w (blobB o)) := by
  obtain ⟨d, it, ps, rfl, hd, hi, hp⟩ := h
  obtain ⟨k, D, I, T, P, st, au, ms⟩ := o
  replace hd : Sl w d D := hd
  replace hi : SlI w it I := hi
  replace hp : SlV w ps ((P.map str).map sv) := hp
  have HD := Lib.hid hd
  have HI := Lib.hid hi
  have HP := Lib.hid hp
  obtain ⟨A, c, rfl, hlc, hcm, _⟩ := hd
  obtain ⟨A2, c2, rfl, hlc2, hcm2, _⟩ := hi
  obtain ⟨A3, c3, rfl, hlc3, hcm3, _⟩ := hp
  unfold maxLen at hcm hcm2 hcm3
  simp only [List.length_map] at hlc3 HP ⊢
  obtain ⟨l, hl⟩ : ∃ l, D.length = l := ⟨_, rfl⟩
  obtain ⟨l2, hl2⟩ : ∃ l, I.length = l := ⟨_, rfl⟩
  obtain ⟨l3, hl3⟩ : ∃ l, P.length = l := ⟨_, rfl⟩
  rw [hl] at hlc HD ⊢
  rw [hl2] at hlc2 HI ⊢
  rw [hl3] at hlc3 HP ⊢
  have HL := Lib.hid hl
  have HL2 := Lib.hid hl2
  clear hl hl2 hl3
  have HB1 : Hid (Below w.heap.size w (w.alloc (.cells #[.int .i64 k, .slice A l c, .slice A2 l2 c2, .string (str T), .slice A3 l3 c3, .int .i64 st, .int .i64 au, .string (str ms)] 26))) := (Below.refl _ _).alloc (Nat.le_refl _) _
  have HB2 : Hid (Below w.heap.size w ((w.alloc (.cells #[.int .i64 k, .slice A l c, .slice A2 l2 c2, .string (str T), .slice A3 l3 c3, .int .i64 st, .int .i64 au, .string (str ms)] 26)).alloc (.cells #[.int .i64 k, .slice none 0 0, .slice A2 l2 c2, .string (str T), .slice A3 l3 c3, .int .i64 st, .int .i64 au, .string (str ms)] 26))) := HB1.out.alloc (by simp) _
  by_cases hc : l ≤ 20000
  · have hB : blobB ⟨k, D, I, T, P, st, au, ms⟩ = sameB ⟨k, [], I, T, P, st, au, ms⟩ (objK 1) := by
      unfold blobB
      rw [HL.out]
      simp [hc]
    rw [hB]
    have hc' : (l : Int) ≤ 20000 := by omega
    clear hB
    go_enter Try.func37, Try.ntmps37
    go_wp2_with fail
    refine (same_any _ _ ⟨k, [], I, T, P, st, au, ms⟩ (objK 1) ((w.alloc (.cells #[.int .i64 k, .slice A l c, .slice A2 l2 c2, .string (str T), .slice A3 l3 c3, .int .i64 st, .int .i64 au, .string (str ms)] 26)).alloc (.cells #[.int .i64 k, .slice none 0 0, .slice A2 l2 c2, .string (str T), .slice A3 l3 c3, .int .i64 st, .int .i64 au, .string (str ms)] 26)) ⟨_, _, _, rfl, Sl.nil_ _, HI.out.below HB2.out, HP.out.below HB2.out⟩ (objK_v 1 _)).mono ?_
    rintro e w3 ⟨rfl, hb3⟩
    have H3 := Lib.hid (Below.after HB2.out hb3)
    clear hb3
    go_wp2_with fail
    go_ret
    exact ⟨rfl, H3.out⟩
  · have hB : blobB ⟨k, D, I, T, P, st, au, ms⟩ = false := by
      unfold blobB
      rw [HL.out]
      simp [hc]
    rw [hB]
    have hc' : (20000 : Int) < (l : Int) := by omega
    clear hB
    go_enter Try.func37, Try.ntmps37
    go_wp2_with fail
    go_ret
    exact ⟨rfl, HB2.out⟩
set_option maxRecDepth 100000 in
set_option maxHeartbeats 1600000 in
theorem mayTree_any (v : Value) (o : ObM) (w : World) (h : ObV w v o) : Calls Try.prog 38 #[v] w (BoolPost w (treeB o)) := by
  obtain ⟨d, it, ps, rfl, hd, hi, hp⟩ := h
  obtain ⟨k, D, I, T, P, st, au, ms⟩ := o
  replace hd : Sl w d D := hd
  replace hi : SlI w it I := hi
  replace hp : SlV w ps ((P.map str).map sv) := hp
  have HD := Lib.hid hd
  have HI := Lib.hid hi
  have HP := Lib.hid hp
  obtain ⟨A, c, rfl, hlc, hcm, _⟩ := hd
  obtain ⟨A2, c2, rfl, hlc2, hcm2, _⟩ := hi
  obtain ⟨A3, c3, rfl, hlc3, hcm3, _⟩ := hp
  unfold maxLen at hcm hcm2 hcm3
  simp only [List.length_map] at hlc3 HP ⊢
  obtain ⟨l, hl⟩ : ∃ l, D.length = l := ⟨_, rfl⟩
  obtain ⟨l2, hl2⟩ : ∃ l, I.length = l := ⟨_, rfl⟩
  obtain ⟨l3, hl3⟩ : ∃ l, P.length = l := ⟨_, rfl⟩
  rw [hl] at hlc HD ⊢
  rw [hl2] at hlc2 HI ⊢
  rw [hl3] at hlc3 HP ⊢
  have HL := Lib.hid hl
  have HL2 := Lib.hid hl2
  clear hl hl2 hl3
  have HB1 : Hid (Below w.heap.size w (w.alloc (.cells #[.int .i64 k, .slice A l c, .slice A2 l2 c2, .string (str T), .slice A3 l3 c3, .int .i64 st, .int .i64 au, .string (str ms)] 26))) := (Below.refl _ _).alloc (Nat.le_refl _) _
  have HB2 : Hid (Below w.heap.size w ((w.alloc (.cells #[.int .i64 k, .slice A l c, .slice A2 l2 c2, .string (str T), .slice A3 l3 c3, .int .i64 st, .int .i64 au, .string (str ms)] 26)).alloc (.cells #[.int .i64 k, .slice A l c, .slice none 0 0, .string (str T), .slice A3 l3 c3, .int .i64 st, .int .i64 au, .string (str ms)] 26))) := HB1.out.alloc (by simp) _
  obtain ⟨b, hb⟩ : ∃ b, itemsB I = b := ⟨_, rfl⟩
  have HBI := Lib.hid hb
  clear hb
  have HK : Hid (Blk ((w.alloc (.cells #[.int .i64 k, .slice A l c, .slice A2 l2 c2, .string (str T), .slice A3 l3 c3, .int .i64 st, .int .i64 au, .string (str ms)] 26)).alloc (.cells #[.int .i64 k, .slice A l c, .slice none 0 0, .string (str T), .slice A3 l3 c3, .int .i64 st, .int .i64 au, .string (str ms)] 26)) (w.heap.size + 1) 26 #[.int .i64 k, .slice A l c, .slice none 0 0, .string (str T), .slice A3 l3 c3, .int .i64 st, .int .i64 au, .string (str ms)]) := by
    unfold Hid
    rw [show w.heap.size + 1 = (w.alloc (.cells #[.int .i64 k, .slice A l c, .slice A2 l2 c2, .string (str T), .slice A3 l3 c3, .int .i64 st, .int .i64 au, .string (str ms)] 26)).heap.size from by simp]
    exact Blk.new _ _ _
  go_enter Try.func38, Try.ntmps38
  go_wp2_with fail
  refine (items_any _ I ((w.alloc (.cells #[.int .i64 k, .slice A l c, .slice A2 l2 c2, .string (str T), .slice A3 l3 c3, .int .i64 st, .int .i64 au, .string (str ms)] 26)).alloc (.cells #[.int .i64 k, .slice A l c, .slice none 0 0, .string (str T), .slice A3 l3 c3, .int .i64 st, .int .i64 au, .string (str ms)] 26)) (HI.out.below HB2.out)).mono ?_
  rw [HBI.out]
  rintro e w3 ⟨rfl, hb3⟩
  have H3 := Lib.hid (Below.after HB2.out hb3)
  have HK3 := Lib.hid (HK.out.below hb3 HK.out.lt)
  clear hb3
  cases b with
  | false =>
    have hB : treeB ⟨k, D, I, T, P, st, au, ms⟩ = false := by
      unfold treeB
      rw [HBI.out]
      rfl
    have HBB := Lib.hid hB
    clear hB
    go_wp2_with fail
    go_ret
    exact ⟨by rw [HBB.out]; rfl, H3.out⟩
  | true =>
    have hB : treeB ⟨k, D, I, T, P, st, au, ms⟩ = sameB ⟨k, D, [], T, P, st, au, ms⟩ (objK 2) := by
      unfold treeB
      rw [HBI.out]
      rfl
    have HBB := Lib.hid hB
    clear hB
    obtain ⟨x0, x1, x2, x3, x4, x5, x6, x7⟩ := box_cells HK3.out
    go_wp2_with fail
    clear x0 x1 x2 x3 x4 x5 x6 x7
    refine (same_any _ _ ⟨k, D, [], T, P, st, au, ms⟩ (objK 2) w3 ⟨_, _, _, rfl, HD.out.below H3.out, SlI.nil_ _, HP.out.below H3.out⟩ (objK_v 2 _)).mono ?_
    rintro e w4 ⟨rfl, hb4⟩
    have H4 := Lib.hid (Below.after H3.out hb4)
    clear hb4
    go_wp2_with fail
    go_ret
    exact ⟨by rw [HBB.out]; rfl, H4.out⟩
set_option maxRecDepth 100000 in
set_option maxHeartbeats 1600000 in
theorem mayCommit_any (v : Value) (o : ObM) (w : World) (h : ObV w v o) : Calls Try.prog 39 #[v] w (BoolPost w (commB o)) := by
  obtain ⟨d, it, ps, rfl, hd, hi, hp⟩ := h
  obtain ⟨k, D, I, T, P, st, au, ms⟩ := o
  replace hd : Sl w d D := hd
  replace hi : SlI w it I := hi
  replace hp : SlV w ps ((P.map str).map sv) := hp
  have HD := Lib.hid hd
  have HI := Lib.hid hi
  have HP := Lib.hid hp
  obtain ⟨A, c, rfl, hlc, hcm, _⟩ := hd
  obtain ⟨A2, c2, rfl, hlc2, hcm2, _⟩ := hi
  obtain ⟨A3, c3, rfl, hlc3, hcm3, _⟩ := hp
  unfold maxLen at hcm hcm2 hcm3
  simp only [List.length_map] at hlc3 HP ⊢
  obtain ⟨l, hl⟩ : ∃ l, D.length = l := ⟨_, rfl⟩
  obtain ⟨l2, hl2⟩ : ∃ l, I.length = l := ⟨_, rfl⟩
  obtain ⟨l3, hl3⟩ : ∃ l, P.length = l := ⟨_, rfl⟩
  rw [hl] at hlc HD ⊢
  rw [hl2] at hlc2 HI ⊢
  rw [hl3] at hlc3 HP ⊢
  have HL := Lib.hid hl
  have HL2 := Lib.hid hl2
  clear hl hl2 hl3
  have HB1 : Hid (Below w.heap.size w (w.alloc (.cells #[.int .i64 k, .slice A l c, .slice A2 l2 c2, .string (str T), .slice A3 l3 c3, .int .i64 st, .int .i64 au, .string (str ms)] 26))) := (Below.refl _ _).alloc (Nat.le_refl _) _
  by_cases h : l = 0
  · have hT0 := Lib.hid h
    clear h
    by_cases h : l2 = 0
    · have hT1 := Lib.hid h
      clear h
      by_cases h : validB T = true
      · have hT2 := Lib.hid h
        clear h
        by_cases h : parB P = true
        · have hT3 := Lib.hid h
          clear h
          by_cases h : 0 ≤ st
          · have hT4 := Lib.hid h
            clear h
            by_cases h : st ≤ 1099511627776
            · have hT5 := Lib.hid h
              clear h
              by_cases h : 0 ≤ au
              · have hT6 := Lib.hid h
                clear h
                by_cases h : au ≤ 255
                · have hT7 := Lib.hid h
                  clear h
                  by_cases h : msgB ms = true
                  · have hT8 := Lib.hid h
                    clear h
                    have hB : commB ⟨k, D, I, T, P, st, au, ms⟩ = true := by
                      unfold commB
                      rw [HL.out, HL2.out]
                      simp [hT0.out, hT1.out, hT2.out, hT3.out, hT4.out, hT5.out, hT6.out, hT7.out, hT8.out]
                    rw [hB]
                    clear hB
                    have z0 : ((l : Int) == 0) = true := by simp; have := hT0.out; omega
                    have z1 : ((l2 : Int) == 0) = true := by simp; have := hT1.out; omega
                    have y4 := hT4.out
                    have y5 := hT5.out
                    have y6 := hT6.out
                    have y7 := hT7.out
                    go_enter Try.func39, Try.ntmps39
                    go_wp2_with fail
                    refine (valid_all T _).mono ?_
                    rw [hT2.out]
                    rintro e w' ⟨rfl, rfl⟩
                    go_wp2_with fail
                    refine (par_any _ P _ (HP.out.below HB1.out)).mono ?_
                    rw [hT3.out]
                    rintro e w' ⟨rfl, rfl⟩
                    go_wp2_with fail
                    refine (msg_any ms _).mono ?_
                    rw [hT8.out]
                    rintro e w' ⟨rfl, rfl⟩
                    go_wp2_with fail
                    go_ret
                    exact ⟨rfl, HB1.out⟩
                  · have hT8 := Lib.hid h
                    clear h
                    have F8 : Hid (msgB ms = false) := by unfold Hid; simpa using hT8.out
                    have hB : commB ⟨k, D, I, T, P, st, au, ms⟩ = false := by
                      unfold commB
                      rw [HL.out, HL2.out]
                      simp [hT0.out, hT1.out, hT2.out, hT3.out, hT4.out, hT5.out, hT6.out, hT7.out, hT8.out]
                    rw [hB]
                    clear hB
                    have z0 : ((l : Int) == 0) = true := by simp; have := hT0.out; omega
                    have z1 : ((l2 : Int) == 0) = true := by simp; have := hT1.out; omega
                    have y4 := hT4.out
                    have y5 := hT5.out
                    have y6 := hT6.out
                    have y7 := hT7.out
                    go_enter Try.func39, Try.ntmps39
                    go_wp2_with fail
                    refine (valid_all T _).mono ?_
                    rw [hT2.out]
                    rintro e w' ⟨rfl, rfl⟩
                    go_wp2_with fail
                    refine (par_any _ P _ (HP.out.below HB1.out)).mono ?_
                    rw [hT3.out]
                    rintro e w' ⟨rfl, rfl⟩
                    go_wp2_with fail
                    refine (msg_any ms _).mono ?_
                    rw [F8.out]
                    rintro e w' ⟨rfl, rfl⟩
                    go_wp2_with fail
                    go_ret
                    exact ⟨rfl, HB1.out⟩
                · have hT7 := Lib.hid h
                  clear h
                  have hB : commB ⟨k, D, I, T, P, st, au, ms⟩ = false := by
                    unfold commB
                    rw [HL.out, HL2.out]
                    simp [hT0.out, hT1.out, hT2.out, hT3.out, hT4.out, hT5.out, hT6.out, hT7.out]
                  rw [hB]
                  clear hB
                  have z0 : ((l : Int) == 0) = true := by simp; have := hT0.out; omega
                  have z1 : ((l2 : Int) == 0) = true := by simp; have := hT1.out; omega
                  have y4 := hT4.out
                  have y5 := hT5.out
                  have y6 := hT6.out
                  have n7 : 255 < au := by have := hT7.out; omega
                  go_enter Try.func39, Try.ntmps39
                  go_wp2_with fail
                  refine (valid_all T _).mono ?_
                  rw [hT2.out]
                  rintro e w' ⟨rfl, rfl⟩
                  go_wp2_with fail
                  refine (par_any _ P _ (HP.out.below HB1.out)).mono ?_
                  rw [hT3.out]
                  rintro e w' ⟨rfl, rfl⟩
                  go_wp2_with fail
                  go_ret
                  exact ⟨rfl, HB1.out⟩
              · have hT6 := Lib.hid h
                clear h
                have hB : commB ⟨k, D, I, T, P, st, au, ms⟩ = false := by
                  unfold commB
                  rw [HL.out, HL2.out]
                  simp [hT0.out, hT1.out, hT2.out, hT3.out, hT4.out, hT5.out, hT6.out]
                rw [hB]
                clear hB
                have z0 : ((l : Int) == 0) = true := by simp; have := hT0.out; omega
                have z1 : ((l2 : Int) == 0) = true := by simp; have := hT1.out; omega
                have y4 := hT4.out
                have y5 := hT5.out
                have n6 : au < 0 := by have := hT6.out; omega
                go_enter Try.func39, Try.ntmps39
                go_wp2_with fail
                refine (valid_all T _).mono ?_
                rw [hT2.out]
                rintro e w' ⟨rfl, rfl⟩
                go_wp2_with fail
                refine (par_any _ P _ (HP.out.below HB1.out)).mono ?_
                rw [hT3.out]
                rintro e w' ⟨rfl, rfl⟩
                go_wp2_with fail
                go_ret
                exact ⟨rfl, HB1.out⟩
            · have hT5 := Lib.hid h
              clear h
              have hB : commB ⟨k, D, I, T, P, st, au, ms⟩ = false := by
                unfold commB
                rw [HL.out, HL2.out]
                simp [hT0.out, hT1.out, hT2.out, hT3.out, hT4.out, hT5.out]
              rw [hB]
              clear hB
              have z0 : ((l : Int) == 0) = true := by simp; have := hT0.out; omega
              have z1 : ((l2 : Int) == 0) = true := by simp; have := hT1.out; omega
              have y4 := hT4.out
              have n5 : 1099511627776 < st := by have := hT5.out; omega
              go_enter Try.func39, Try.ntmps39
              go_wp2_with fail
              refine (valid_all T _).mono ?_
              rw [hT2.out]
              rintro e w' ⟨rfl, rfl⟩
              go_wp2_with fail
              refine (par_any _ P _ (HP.out.below HB1.out)).mono ?_
              rw [hT3.out]
              rintro e w' ⟨rfl, rfl⟩
              go_wp2_with fail
              go_ret
              exact ⟨rfl, HB1.out⟩
          · have hT4 := Lib.hid h
            clear h
            have hB : commB ⟨k, D, I, T, P, st, au, ms⟩ = false := by
              unfold commB
              rw [HL.out, HL2.out]
              simp [hT0.out, hT1.out, hT2.out, hT3.out, hT4.out]
            rw [hB]
            clear hB
            have z0 : ((l : Int) == 0) = true := by simp; have := hT0.out; omega
            have z1 : ((l2 : Int) == 0) = true := by simp; have := hT1.out; omega
            have n4 : st < 0 := by have := hT4.out; omega
            go_enter Try.func39, Try.ntmps39
            go_wp2_with fail
            refine (valid_all T _).mono ?_
            rw [hT2.out]
            rintro e w' ⟨rfl, rfl⟩
            go_wp2_with fail
            refine (par_any _ P _ (HP.out.below HB1.out)).mono ?_
            rw [hT3.out]
            rintro e w' ⟨rfl, rfl⟩
            go_wp2_with fail
            go_ret
            exact ⟨rfl, HB1.out⟩
        · have hT3 := Lib.hid h
          clear h
          have F3 : Hid (parB P = false) := by unfold Hid; simpa using hT3.out
          have hB : commB ⟨k, D, I, T, P, st, au, ms⟩ = false := by
            unfold commB
            rw [HL.out, HL2.out]
            simp [hT0.out, hT1.out, hT2.out, hT3.out]
          rw [hB]
          clear hB
          have z0 : ((l : Int) == 0) = true := by simp; have := hT0.out; omega
          have z1 : ((l2 : Int) == 0) = true := by simp; have := hT1.out; omega
          go_enter Try.func39, Try.ntmps39
          go_wp2_with fail
          refine (valid_all T _).mono ?_
          rw [hT2.out]
          rintro e w' ⟨rfl, rfl⟩
          go_wp2_with fail
          refine (par_any _ P _ (HP.out.below HB1.out)).mono ?_
          rw [F3.out]
          rintro e w' ⟨rfl, rfl⟩
          go_wp2_with fail
          go_ret
          exact ⟨rfl, HB1.out⟩
      · have hT2 := Lib.hid h
        clear h
        have F2 : Hid (validB T = false) := by unfold Hid; simpa using hT2.out
        have hB : commB ⟨k, D, I, T, P, st, au, ms⟩ = false := by
          unfold commB
          rw [HL.out, HL2.out]
          simp [hT0.out, hT1.out, hT2.out]
        rw [hB]
        clear hB
        have z0 : ((l : Int) == 0) = true := by simp; have := hT0.out; omega
        have z1 : ((l2 : Int) == 0) = true := by simp; have := hT1.out; omega
        go_enter Try.func39, Try.ntmps39
        go_wp2_with fail
        refine (valid_all T _).mono ?_
        rw [F2.out]
        rintro e w' ⟨rfl, rfl⟩
        go_wp2_with fail
        go_ret
        exact ⟨rfl, HB1.out⟩
    · have hT1 := Lib.hid h
      clear h
      have hB : commB ⟨k, D, I, T, P, st, au, ms⟩ = false := by
        unfold commB
        rw [HL.out, HL2.out]
        simp [hT0.out, hT1.out]
      rw [hB]
      clear hB
      have z0 : ((l : Int) == 0) = true := by simp; have := hT0.out; omega
      have z1 : ((l2 : Int) == 0) = false := by simp; have := hT1.out; omega
      go_enter Try.func39, Try.ntmps39
      go_wp2_with fail
      go_ret
      exact ⟨rfl, HB1.out⟩
  · have hT0 := Lib.hid h
    clear h
    have hB : commB ⟨k, D, I, T, P, st, au, ms⟩ = false := by
      unfold commB
      rw [HL.out, HL2.out]
      simp [hT0.out]
    rw [hB]
    clear hB
    have z0 : ((l : Int) == 0) = false := by simp; have := hT0.out; omega
    go_enter Try.func39, Try.ntmps39
    go_wp2_with fail
    go_ret
    exact ⟨rfl, HB1.out⟩
set_option maxRecDepth 100000 in
set_option maxHeartbeats 1600000 in
theorem may_any (v : Value) (o : ObM) (w : World) (h : ObV w v o) : Calls Try.prog 18 #[v] w (BoolPost w (mayB o)) := by
  obtain ⟨d, it, ps, rfl, hd, hi, hp⟩ := h
  obtain ⟨k, D, I, T, P, st, au, ms⟩ := o
  replace hd : Sl w d D := hd
  replace hi : SlI w it I := hi
  replace hp : SlV w ps ((P.map str).map sv) := hp
  have HD := Lib.hid hd
  have HI := Lib.hid hi
  have HP := Lib.hid hp
  obtain ⟨A, c, rfl, hlc, hcm, _⟩ := hd
  obtain ⟨A2, c2, rfl, hlc2, hcm2, _⟩ := hi
  obtain ⟨A3, c3, rfl, hlc3, hcm3, _⟩ := hp
  unfold maxLen at hcm hcm2 hcm3
  simp only [List.length_map] at hlc3 HP ⊢
  obtain ⟨l, hl⟩ : ∃ l, D.length = l := ⟨_, rfl⟩
  obtain ⟨l2, hl2⟩ : ∃ l, I.length = l := ⟨_, rfl⟩
  obtain ⟨l3, hl3⟩ : ∃ l, P.length = l := ⟨_, rfl⟩
  rw [hl] at hlc HD ⊢
  rw [hl2] at hlc2 HI ⊢
  rw [hl3] at hlc3 HP ⊢
  have HL := Lib.hid hl
  have HL2 := Lib.hid hl2
  clear hl hl2 hl3
  have HB1 : Hid (Below w.heap.size w (w.alloc (.cells #[.int .i64 k, .slice A l c, .slice A2 l2 c2, .string (str T), .slice A3 l3 c3, .int .i64 st, .int .i64 au, .string (str ms)] 26))) := (Below.refl _ _).alloc (Nat.le_refl _) _
  have HV : Hid (ObV (w.alloc (.cells #[.int .i64 k, .slice A l c, .slice A2 l2 c2, .string (str T), .slice A3 l3 c3, .int .i64 st, .int .i64 au, .string (str ms)] 26)) (.agg #[.int .i64 k, .slice A l c, .slice A2 l2 c2, .string (str T), .slice A3 l3 c3, .int .i64 st, .int .i64 au, .string (str ms)]) ⟨k, D, I, T, P, st, au, ms⟩) := ⟨_, _, _, rfl, HD.out.below HB1.out, HI.out.below HB1.out, HP.out.below HB1.out⟩
  by_cases h0 : k = 1
  · have e0 : (k == 1) = true := beq_iff_eq.2 h0
    have hB : mayB ⟨k, D, I, T, P, st, au, ms⟩ = blobB ⟨k, D, I, T, P, st, au, ms⟩ := by unfold mayB; simp [h0]
    rw [hB]
    clear hB h0
    go_enter Try.func18, Try.ntmps18
    go_wp2_with fail
    refine (mayBlob_any _ _ _ HV.out).mono ?_
    rintro e w3 ⟨rfl, hb3⟩
    have H3 := Lib.hid (Below.after HB1.out hb3)
    clear hb3
    go_wp2_with fail
    go_ret
    exact ⟨rfl, H3.out⟩
  · have e0 : (k == 1) = false := beq_eq_false_iff_ne.2 h0
    by_cases h1 : k = 2
    · have e1 : (k == 2) = true := beq_iff_eq.2 h1
      have hB : mayB ⟨k, D, I, T, P, st, au, ms⟩ = treeB ⟨k, D, I, T, P, st, au, ms⟩ := by unfold mayB; simp [h1]
      rw [hB]
      clear hB h1
      go_enter Try.func18, Try.ntmps18
      go_wp2_with fail
      refine (mayTree_any _ _ _ HV.out).mono ?_
      rintro e w3 ⟨rfl, hb3⟩
      have H3 := Lib.hid (Below.after HB1.out hb3)
      clear hb3
      go_wp2_with fail
      go_ret
      exact ⟨rfl, H3.out⟩
    · have e1 : (k == 2) = false := beq_eq_false_iff_ne.2 h1
      by_cases h2 : k = 3
      · have e2 : (k == 3) = true := beq_iff_eq.2 h2
        have hB : mayB ⟨k, D, I, T, P, st, au, ms⟩ = commB ⟨k, D, I, T, P, st, au, ms⟩ := by unfold mayB; simp [h2]
        rw [hB]
        clear hB h2
        go_enter Try.func18, Try.ntmps18
        go_wp2_with fail
        refine (mayCommit_any _ _ _ HV.out).mono ?_
        rintro e w3 ⟨rfl, hb3⟩
        have H3 := Lib.hid (Below.after HB1.out hb3)
        clear hb3
        go_wp2_with fail
        go_ret
        exact ⟨rfl, H3.out⟩
      · have e2 : (k == 3) = false := beq_eq_false_iff_ne.2 h2
        have hB : mayB ⟨k, D, I, T, P, st, au, ms⟩ = false := by unfold mayB; simp [h0, h1, h2]
        rw [hB]
        clear hB h0 h1 h2
        go_enter Try.func18, Try.ntmps18
        go_wp2_with fail
        go_ret
        exact ⟨rfl, HB1.out⟩
end Go.Proofs.Ytcbiajajoojgmaa.Ob
/- obj: putNumber, putText, putHash. -/
namespace Go.Proofs.Ytcbiajajoojgmaa.Ob
open Go.RowKit Go.Proofs.Ytcbiajajoojgmaa.Sh
open Go.Proofs.Ytcbiajajoojgmaa.Tx (OwnV SlV sv bl nameB reads_at texts_at toList_ne')

/-- What lies below B stays, and what is no row of bytes stays. -/
structure Kp (B : Nat) (w w' : World) : Prop where
  below : Below B w w'
  blk : ∀ k t cs, Blk w k t cs → t ≠ 5 → Blk w' k t cs
theorem Kp.refl (B : Nat) (w : World) : Kp B w w := ⟨Below.refl _ _, fun _ _ _ h _ => h⟩
theorem Kp.trans {B : Nat} {w w1 w2 : World} (h : Kp B w w1) (h2 : Kp B w1 w2) : Kp B w w2 := ⟨h.below.trans h2.below, fun k t cs hb ht => h2.blk k t cs (h.blk k t cs hb ht) ht⟩
theorem Kp.of_below {B : Nat} {w w' : World} (h : Below w.heap.size w w') (hB : B ≤ w.heap.size) : Kp B w w' := ⟨h.mono hB, fun _ _ _ hb _ => hb.below h hb.lt⟩
theorem Kp.alloc {B : Nat} {w w' : World} (h : Kp B w w') (hB : B ≤ w'.heap.size) (o : Obj) : Kp B w (w'.alloc o) := h.trans (Kp.of_below ((Below.refl _ _).alloc (Nat.le_refl _) o) hB)
theorem Kp.size {B : Nat} {w w' : World} (h : Kp B w w') : w.heap.size ≤ w'.heap.size := h.below.size
theorem Kp.grown {B : Nat} {w w' : World} {v : Value} {bs : List UInt8} (hown : Own w B v bs) (h : w.grownBy w' v.ownBlock) (hB : B ≤ w.heap.size) : Kp B w w' := by
  refine ⟨(Below.refl _ _).grown h hB (fun k hk => (World.ownsRow.lt hown k hk).1), fun k t cs hb ht => hb.grown h ?_⟩
  intro e
  rcases hown.2 with ⟨rfl, _⟩ | ⟨g, cap, cur, rfl, _, hg, _⟩
  · cases e
  · have e' : k = g := by simpa [Value.ownBlock] using e
    subst e'
    exact Blk.ne_ hb hg ht rfl
/-- A call that appends to bytes of one's own. -/
def AppPost (w : World) (B : Nat) (bs news : List UInt8) (e : Ending) (w' : World) : Prop := ∃ v, e = .returned v ∧ Own w' B v (bs ++ news) ∧ Kp B w w'
theorem bi_tx (u : UInt8) : Tx.bi u = bi u := by unfold Tx.bi bi; rfl
theorem app_bytes {ops : Array Oper} {rest : List Oper} {o : Oper} {a : Act} {Q : Exit → Act → World → Prop} (hgd : o.guard = none) (s x : Operand)
    (ho : o.op = .call { callee := .builtin .append, args := #[s, x], argTypes := #[22, 22] }) (w : World) (B : Nat) (v : Value) (bs : List UInt8) (hs : a.eval s = v) (hown : Own w B v bs)
    (B' : Nat) (A : Option Addr) (m c : Nat) (news : List UInt8) (hx : a.eval x = .slice A m c) (hr : Reads w B' 1 A m (news.map bv)) (hsmall : bs.length + m ≤ 140737488355328) (hB : B ≤ w.heap.size)
    (h : ∀ v' w', Own w' B v' (bs ++ news) → Kp B w w' → wpList Try.prog ops Q rest (a.put o.dst v') w') : wpList Try.prog ops Q (o :: rest) a w := by
  obtain ⟨i0, hi, hz0, hz1, hz2⟩ := info_parts info5
  have hm : news.length = m := by have := hr.1; simpa using this
  refine wpList_append_any w hgd s x 22 ho B 5 i0 (.int .u8 0) 1 1 Try.underlying22 hi hz0 hz1 hz2 rfl (by decide) v bs.length _ hs hown B' A m c _ hx hr (bv_one news) (by unfold maxLen; omega) (by omega) hB ?_
  intro v' w' h1 h2 _
  refine h v' w' ?_ (Kp.grown hown h2 hB)
  unfold Own
  rw [List.length_append, hm, List.map_append]
  exact h1
theorem app_byte {ops : Array Oper} {rest : List Oper} {o : Oper} {a : Act} {Q : Exit → Act → World → Prop} (hgd : o.guard = none) (s x : Operand)
    (ho : o.op = .call { callee := .builtin .append, args := #[s, x], argTypes := #[22, 22] }) (w : World) (B : Nat) (v : Value) (bs : List UInt8) (hs : a.eval s = v) (hown : Own w B v bs)
    (k : Int) (u : UInt8) (hu : bi u = k) (g : Nat) (hg : w.heap.size = g) (hx : a.eval x = .slice (some ⟨g, 0, none⟩) 1 1) (hsmall : bs.length + 1 ≤ 140737488355328) (hB : B ≤ w.heap.size)
    (h : ∀ v' w', Own w' B v' (bs ++ [u]) → Kp B w w' → wpList Try.prog ops Q rest (a.put o.dst v') w') : wpList Try.prog ops Q (o :: rest) a (w.alloc (.cells #[.int .u8 k] 5)) := by
  subst hu hg
  refine app_bytes hgd s x ho _ B v bs hs (hown.alloc _) _ _ 1 1 [u] hx (reads_new _ [u] _ rfl 1 rfl) hsmall (by simp; omega) ?_
  intro v' w' h1 h2
  exact h v' w' h1 (((Kp.refl _ _).alloc hB _).trans h2)
theorem str_cells (us : List UInt8) : Lib.strCells (str us) = us.map bv := by
  unfold Lib.strCells str
  apply List.map_congr_left
  intro u _
  unfold bv bi
  rfl
theorem app_str {ops : Array Oper} {rest : List Oper} {o : Oper} {a : Act} {Q : Exit → Act → World → Prop} (hgd : o.guard = none) (s x : Operand)
    (ho : o.op = .call { callee := .builtin .append, args := #[s, x], argTypes := #[22, 9] }) (w : World) (B : Nat) (v : Value) (bs : List UInt8) (hs : a.eval s = v) (hown : Own w B v bs)
    (us : List UInt8) (hx : a.eval x = .string (str us)) (hsmall : bs.length + us.length ≤ 140737488355328) (hB : B ≤ w.heap.size)
    (h : ∀ v' w', Own w' B v' (bs ++ us) → Kp B w w' → wpList Try.prog ops Q rest (a.put o.dst v') w') : wpList Try.prog ops Q (o :: rest) a w := by
  obtain ⟨i0, hi, hz0, hz1, hz2⟩ := info_parts info5
  have hsz := str_size us
  refine Lib.wpList_append_own_string w hgd s x 22 9 ho B 5 i0 Try.underlying22 Try.underlying9 hi hz0 hz1 hz2 v bs.length _ hs hown (str us) hx (by unfold maxLen; omega) (by omega) hB ?_
  intro v' w' h1 h2 _
  refine h v' w' ?_ (Kp.grown hown h2 hB)
  unfold Own
  rw [List.length_append, List.map_append, ← str_cells us, ← hsz]
  exact h1
theorem Own.based {w : World} {B B' : Nat} {v : Value} {bs : List UInt8} (h : Own w B v bs) (hB : B' ≤ B) : Own w B' v bs := by
  refine ⟨h.1, ?_⟩
  rcases h.2 with h0 | ⟨g, cap, cur, hv, hb, rest⟩
  · exact .inl h0
  · exact .inr ⟨g, cap, cur, hv, by omega, rest⟩
set_option maxRecDepth 100000 in
set_option maxHeartbeats 800000 in
theorem putNumber_any (v : Value) (bs : List UInt8) (n B : Nat) (w : World) (h : Own w B v bs) (hn : n ≤ 72057594037927936) (hl : bs.length ≤ 100000000) (hB : B ≤ w.heap.size) :
    Calls Try.prog 51 #[v, .int .i64 (n : Int)] w (AppPost w B bs (putL n)) := by
  have HO := Lib.hid h
  clear h
  go_enter Try.func51, Try.ntmps51
  go_wp2_with fail
  refine (put_any n w hn).mono ?_
  rintro e w1 ⟨u, rfl, hu, hb⟩
  obtain ⟨A, c, rfl, h1, h2, h3, h4⟩ := hu.sl
  have HI := Lib.hid h3.reads
  have HO1 := Lib.hid (HO.out.below hb)
  have HB1 := Lib.hid (Kp.of_below hb hB)
  have hz : B ≤ w1.heap.size := Nat.le_trans hB hb.size
  have hs := putL_len9 hn
  have hsm : bs.length + (putL n).length ≤ 140737488355328 := by omega
  obtain ⟨l, hl'⟩ : ∃ l, (putL n).length = l := ⟨_, rfl⟩
  have HLL := Lib.hid hl'
  rw [hl'] at HI hsm ⊢
  clear hu hb h1 h2 h3 h4 hs hl'
  go_wp2_with (at_builtin; refine app_bytes rfl (.tmp 12) (.tmp 13) rfl w1 B v bs rfl HO1.out _ A l c (putL n) rfl HI.out hsm hz ?_; intro v3 w3 ho3 hb3; have HO3 := Lib.hid ho3; have HB3 := Lib.hid hb3; clear ho3 hb3)
  go_ret
  exact ⟨v3, rfl, HO3.out, HB1.out.trans HB3.out⟩
set_option maxRecDepth 100000 in
set_option maxHeartbeats 800000 in
theorem putText_any (v : Value) (bs us : List UInt8) (B : Nat) (w : World) (h : Own w B v bs) (hn : us.length ≤ 1000000) (hl : bs.length ≤ 90000000) (hB : B ≤ w.heap.size) :
    Calls Try.prog 52 #[v, .string (str us)] w (AppPost w B bs (putL us.length ++ us)) := by
  have HO := Lib.hid h
  clear h
  have hsz := str_size us
  go_enter Try.func52, Try.ntmps52
  go_wp2_with fail
  refine (putNumber_any v bs us.length B w HO.out (by omega) (by omega) hB).mono ?_
  rintro e w1 ⟨u, rfl, hu, hb⟩
  have hs := putL_len9 (show us.length ≤ 72057594037927936 from by omega)
  have HO1 := Lib.hid hu
  have HB1 := Lib.hid hb
  have hz : B ≤ w1.heap.size := Nat.le_trans hB hb.size
  have hsm : (bs ++ putL us.length).length + us.length ≤ 140737488355328 := by rw [List.length_append]; omega
  clear hu hb hs
  go_wp2_with (at_builtin; refine app_str rfl (.tmp 8) (.tmp 9) rfl w1 B u _ rfl HO1.out us rfl hsm hz ?_; intro v3 w3 ho3 hb3; have HO3 := Lib.hid ho3; have HB3 := Lib.hid hb3; clear ho3 hb3)
  go_ret
  exact ⟨v3, rfl, by rw [← List.append_assoc]; exact HO3.out, HB1.out.trans HB3.out⟩
set_option maxRecDepth 100000 in
set_option maxHeartbeats 800000 in
theorem putHash_any (v : Value) (bs id : List UInt8) (B : Nat) (w : World) (h : Own w B v bs) (hn : validB id = true) (hl : bs.length ≤ 90000000) (hB : B ≤ w.heap.size) :
    Calls Try.prog 53 #[v, .string (str id)] w (AppPost w B bs (unhexL id)) := by
  have HO := Lib.hid h
  clear h
  unfold validB at hn
  rw [Bool.and_eq_true, beq_iff_eq] at hn
  have hlen := unhexL_length id
  have hsm : bs.length + (unhexL id).length ≤ 140737488355328 := by omega
  go_enter Try.func53, Try.ntmps53
  go_wp2_with fail
  refine (unhex_yes id w hn.2 (by omega)).mono ?_
  rintro e w1 ⟨u, rfl, hu, hb⟩
  obtain ⟨A, c, rfl, h1, h2, h3, h4⟩ := hu.sl
  have HI := Lib.hid h3.reads
  have HO1 := Lib.hid (HO.out.below hb)
  have HB1 := Lib.hid (Kp.of_below hb hB)
  have hz : B ≤ w1.heap.size := Nat.le_trans hB hb.size
  obtain ⟨l, hl'⟩ : ∃ l, (unhexL id).length = l := ⟨_, rfl⟩
  rw [hl'] at HI hsm ⊢
  clear hu hb h1 h2 h3 h4 hl' hlen hn
  go_wp2_with (at_builtin; refine app_bytes rfl (.tmp 12) (.tmp 13) rfl w1 B v bs rfl HO1.out _ A l c (unhexL id) rfl HI.out hsm hz ?_; intro v3 w3 ho3 hb3; have HO3 := Lib.hid ho3; have HB3 := Lib.hid hb3; clear ho3 hb3)
  go_ret
  exact ⟨v3, rfl, HO3.out, HB1.out.trans HB3.out⟩
end Go.Proofs.Ytcbiajajoojgmaa.Ob
/- obj: putItems. -/
namespace Go.Proofs.Ytcbiajajoojgmaa.Ob
open Go.RowKit Go.Proofs.Ytcbiajajoojgmaa.Sh
open Go.Proofs.Ytcbiajajoojgmaa.Tx (OwnV SlV sv bl nameB reads_at texts_at toList_ne')

def encI (x : ItM) : List UInt8 := [UInt8.ofNat x.1.toNat] ++ (putL x.2.1.length ++ x.2.1) ++ unhexL x.2.2
def encIs (l : List ItM) : List UInt8 := putL l.length ++ l.flatMap encI
theorem validB_len {id : List UInt8} (h : validB id = true) : id.length = 64 ∧ hexOk id = true := by
  unfold validB at h
  rwa [Bool.and_eq_true, beq_iff_eq] at h
theorem nameB_len {s : List UInt8} (h : nameB s = true) : 1 ≤ s.length ∧ s.length ≤ 64 := by
  rw [Tx.nameB_eq] at h
  simp only [Bool.and_eq_true, decide_eq_true_eq] at h
  omega
theorem itB_of {x : ItM} (h : itB x = true) : 1 ≤ x.1 ∧ x.1 ≤ 4 ∧ nameB x.2.1 = true ∧ validB x.2.2 = true := by
  unfold itB at h
  simp only [Bool.and_eq_true, decide_eq_true_eq] at h
  exact ⟨h.1.1.1, h.1.1.2, h.1.2, h.2⟩
theorem encI_len {x : ItM} (h : itB x = true) : (encI x).length ≤ 106 := by
  obtain ⟨_, _, h3, h4⟩ := itB_of h
  have := nameB_len h3
  have := validB_len h4
  have := putL_len9 (show x.2.1.length ≤ 72057594037927936 from by omega)
  unfold encI
  simp only [List.length_append, List.length_cons, List.length_nil, unhexL_length]
  omega
theorem itemsB_of {l : List ItM} (h : itemsB l = true) : l.length ≤ 256 ∧ ∀ (k : Nat) (x : ItM), l[k]? = some x → itB x = true := by
  unfold itemsB at h
  rw [Bool.and_eq_true, decide_eq_true_eq, List.all_eq_true] at h
  refine ⟨h.1, fun k x hx => ?_⟩
  have hk := (List.getElem?_eq_some_iff.1 hx).1
  have h2 := h.2 k (List.mem_range.2 hk)
  unfold itemJ at h2
  rw [List.getD_eq_getElem?_getD, hx, Bool.and_eq_true] at h2
  exact h2.1
theorem encIs_len {l : List ItM} (h : ∀ (k : Nat) (x : ItM), l[k]? = some x → itB x = true) : (l.flatMap encI).length ≤ l.length * 106 := by
  induction l with
  | nil => simp
  | cons x l ih =>
    have h1 := encI_len (h 0 x rfl)
    have h2 := ih (fun k y hy => h (k + 1) y (by simpa using hy))
    rw [List.flatMap_cons, List.length_append, List.length_cons]
    omega
theorem flat_snoc {l : List ItM} {k : Nat} {x : ItM} (h : l[k]? = some x) : (l.take (k + 1)).flatMap encI = (l.take k).flatMap encI ++ encI x := by
  obtain ⟨hk, e⟩ := List.getElem?_eq_some_iff.1 h
  rw [List.take_succ_eq_append_getElem hk, List.flatMap_append, e]
  simp
theorem mode_byte {m : Int} (h1 : 1 ≤ m) (h2 : m ≤ 4) : IntKind.u8.wrap m = bi (UInt8.ofNat m.toNat) := by
  unfold bi
  rw [IntKind.wrap_u8, UInt8.toNat_ofNat']
  omega
theorem len_byte (n : Nat) (_h : n ≤ 255) : IntKind.u8.wrap (n : Int) = bi (UInt8.ofNat n) := by
  unfold bi
  rw [IntKind.wrap_u8, UInt8.toNat_ofNat']
  omega
set_option maxRecDepth 100000 in
set_option maxHeartbeats 1600000 in
theorem putItems_any (v it : Value) (bs : List UInt8) (ls : List ItM) (B : Nat) (w0 w : World) (h : Own w B v bs) (hI : SlI w0 it ls) (h0 : Below w0.heap.size w0 w) (hB0 : w0.heap.size ≤ B) (hB : B ≤ w.heap.size) (hls : itemsB ls = true) (hl : bs.length ≤ 1000) :
    Calls Try.prog 28 #[v, it] w (AppPost w B bs (encIs ls)) := by
  obtain ⟨A, c, rfl, hlc, hcm, _, hR⟩ := hI
  obtain ⟨hn, hit⟩ := itemsB_of hls
  have HO := Lib.hid h
  have H0 := Lib.hid h0
  have HR := Lib.hid hR
  have HIT := Lib.hid hit
  have HBZ := Lib.hid hB
  unfold maxLen at hcm
  obtain ⟨l, hL⟩ : ∃ l, ls.length = l := ⟨_, rfl⟩
  rw [hL] at hlc hn ⊢
  have HL := Lib.hid hL
  have hl9 := putL_len9 (show l ≤ 72057594037927936 from by omega)
  have HL9 := Lib.hid hl9
  clear hL h h0 hR hit hls hl9
  go_enter Try.func28, Try.ntmps28
  go_wp2_with fail
  refine (putNumber_any v bs l B w HO.out (by omega) (by omega) hB).mono ?_
  rintro e w1 ⟨v1, rfl, ho1, hk1⟩
  have HO1 := Lib.hid ho1
  have HK1 := Lib.hid hk1
  clear ho1 hk1
  go_wp2_with fail
  go_loopw [0, 13] (fun b i wr => ∃ k : Nat, k ≤ l ∧ i = .int .i64 k ∧ Own wr B b (bs ++ putL l ++ (ls.take k).flatMap encI) ∧ Kp B w wr) (fun _ i _ => l - (intOf i).toNat)
  case atStart => exact ⟨0, Nat.zero_le _, rfl, by simpa using HO1.out, HK1.out⟩
  case round =>
    obtain ⟨k, hk, rfl, hou, hku⟩ := hrel
    have HOU := Lib.hid hou
    have HKU := Lib.hid hku
    clear hou hku
    have k0 : (0 : Int) ≤ (k : Int) := by omega
    by_cases hlt : k < l
    · have k1 : (k : Int) < (l : Int) := by omega
      have hkl : k < ls.length := by rw [HL.out]; exact hlt
      obtain ⟨x, hx⟩ : ∃ x, ls[k]? = some x := ⟨_, List.getElem?_eq_getElem hkl⟩
      obtain ⟨ad, rfl, c0, c1, c2⟩ := items_at (HR.out.below (H0.out.trans (HKU.out.below.mono hB0))) rfl k x hx
      obtain ⟨m1, m4, hnm, hid⟩ := itB_of (HIT.out k x hx)
      have hnl := nameB_len hnm
      have HSN := Lib.hid (flat_snoc hx)
      have hlen : ((ls.take k).flatMap encI).length ≤ k * 106 := by
        have := encIs_len (l := ls.take k) (fun j y hy => HIT.out j y (by
          rw [List.getElem?_take] at hy
          split at hy
          · exact hy
          · cases hy))
        rw [List.length_take] at this
        omega
      have hle : (bs ++ putL l ++ (ls.take k).flatMap encI).length ≤ 40000 := by
        have := HL9.out
        simp only [List.length_append]
        omega
      obtain ⟨pre, hpre⟩ : ∃ pre, bs ++ putL l ++ (ls.take k).flatMap encI = pre := ⟨_, rfl⟩
      have HPRE := Lib.hid hpre
      rw [hpre] at HOU hle
      obtain ⟨m, nm, id⟩ := x
      replace c0 : wr.cell? (ad.add (k * 3)) = some (.int .i64 m) := c0
      replace c1 : wr.cell? ⟨(ad.add (k * 3)).block, (ad.add (k * 3)).off + 1, none⟩ = some (.string (str nm)) := c1
      replace c2 : wr.cell? ⟨(ad.add (k * 3)).block, (ad.add (k * 3)).off + 2, none⟩ = some (.string (str id)) := c2
      replace m1 : 1 ≤ m := m1
      replace m4 : m ≤ 4 := m4
      replace hid : validB id = true := hid
      have hmb := mode_byte m1 m4
      have HID := Lib.hid hid
      have HNL := Lib.hid hnl.2
      have hbz : B ≤ wr.heap.size := Nat.le_trans hB HKU.out.size
      have hz1 : (wr.alloc (.cells #[.int .i64 m, .string (str nm), .string (str id)] 56)).heap.size = wr.heap.size + 1 := by simp
      have hbz2 : B ≤ (wr.alloc (.cells #[.int .i64 m, .string (str nm), .string (str id)] 56)).heap.size := by simp; omega
      have HOA : Hid (Own (wr.alloc (.cells #[.int .i64 m, .string (str nm), .string (str id)] 56)) B u0 pre) := HOU.out.alloc _
      have HKA : Hid (Blk (wr.alloc (.cells #[.int .i64 m, .string (str nm), .string (str id)] 56)) wr.heap.size 56 #[.int .i64 m, .string (str nm), .string (str id)]) := Blk.new _ _ _
      have HKK : Hid (Kp B w (wr.alloc (.cells #[.int .i64 m, .string (str nm), .string (str id)] 56))) := HKU.out.alloc hbz _
      have hsm : pre.length + 1 ≤ 140737488355328 := by omega
      have HLE := Lib.hid hle
      clear hx hkl hnm hid hnl hpre hlen hle m1 m4
      go_wp2_with (at_builtin; refine app_byte rfl (.tmp 17) (.tmp 21) rfl _ B u0 pre rfl HOA.out _ (UInt8.ofNat m.toNat) rfl (wr.heap.size + 1) hz1 rfl hsm hbz2 ?_; intro v3 w3 ho3 hb3; have HO3 := Lib.hid ho3; have HB3 := Lib.hid hb3; have HK3 := Lib.hid (hb3.blk _ _ _ HKA.out (by decide)); have c3 := HK3.out.cell 1; have c4 := HK3.out.cell 2; clear ho3 hb3)
      have hz3 : B ≤ w3.heap.size := Nat.le_trans hbz2 HB3.out.size
      have hl3 : (pre ++ [UInt8.ofNat m.toNat]).length ≤ 90000000 := by have := HLE.out; rw [List.length_append, List.length_singleton]; omega
      refine (putText_any v3 _ nm B w3 HO3.out (by have := HNL.out; omega) hl3 hz3).mono ?_
      rintro e w4 ⟨v4, rfl, ho4, hk4⟩
      have HO4 := Lib.hid ho4
      have HK4 := Lib.hid (hk4.blk _ _ _ HK3.out (by decide))
      have HB4 := Lib.hid hk4
      clear ho4 hk4 c3 c4
      have c4 := HK4.out.cell 2
      go_wp2_with fail
      have hz4 : B ≤ w4.heap.size := Nat.le_trans hz3 HB4.out.size
      have hl4 : (pre ++ [UInt8.ofNat m.toNat] ++ (putL nm.length ++ nm)).length ≤ 90000000 := by
        have h1 := HLE.out
        have h2 := HNL.out
        have h3 := putL_len9 (show nm.length ≤ 72057594037927936 from by omega)
        simp only [List.length_append, List.length_singleton]
        omega
      refine (putHash_any v4 _ id B w4 HO4.out HID.out hl4 hz4).mono ?_
      rintro e w5 ⟨v5, rfl, ho5, hk5⟩
      have HO5 := Lib.hid ho5
      have HB5 := Lib.hid hk5
      clear ho5 hk5 c4
      go_wp2_with fail
      go_roundw
      case rel =>
        refine ⟨k + 1, by omega, by go_num, ?_, HKK.out.trans (HB3.out.trans (HB4.out.trans HB5.out))⟩
        rw [HSN.out]
        have := HO5.out
        rw [← HPRE.out] at this
        rw [show encI (m, nm, id) = [UInt8.ofNat m.toNat] ++ (putL nm.length ++ nm) ++ unhexL id from rfl]
        simpa only [List.append_assoc] using this
      case measure => simp [intOf]; omega
    · obtain rfl : k = l := by omega
      go_wp2_with fail
      go_ret
      refine ⟨u0, rfl, ?_, HKU.out⟩
      unfold encIs
      have := HOU.out
      rw [List.take_of_length_le (by rw [HL.out]; exact Nat.le_refl _)] at this
      rw [HL.out, ← List.append_assoc]
      exact this
end Go.Proofs.Ytcbiajajoojgmaa.Ob
/- obj: putCommit. -/
namespace Go.Proofs.Ytcbiajajoojgmaa.Ob
open Go.RowKit Go.Proofs.Ytcbiajajoojgmaa.Sh
open Go.Proofs.Ytcbiajajoojgmaa.Tx (OwnV SlV sv bl nameB reads_at texts_at toList_ne')

def encC (o : ObM) : List UInt8 := unhexL o.tree ++ [UInt8.ofNat o.parents.length] ++ o.parents.flatMap unhexL ++ putL o.stamp.toNat ++ putL o.author.toNat ++ (putL o.msg.length ++ o.msg)
theorem parB_of {ids : List (List UInt8)} (h : parB ids = true) : ids.length ≤ 2 ∧ ∀ (k : Nat) (x : List UInt8), ids[k]? = some x → validB x = true := by
  unfold parB at h
  rw [Bool.and_eq_true, decide_eq_true_eq, List.all_eq_true] at h
  refine ⟨h.1, fun k x hx => ?_⟩
  have hk := (List.getElem?_eq_some_iff.1 hx).1
  have h2 := h.2 k (List.mem_range.2 hk)
  rw [List.getD_eq_getElem?_getD, hx, Bool.and_eq_true] at h2
  exact h2.1
theorem flat_ids_len {ids : List (List UInt8)} (h : ∀ (k : Nat) (x : List UInt8), ids[k]? = some x → validB x = true) : (ids.flatMap unhexL).length = ids.length * 32 := by
  induction ids with
  | nil => simp
  | cons x l ih =>
    have h1 := validB_len (h 0 x rfl)
    have h2 := ih (fun k y hy => h (k + 1) y (by simpa using hy))
    rw [List.flatMap_cons, List.length_append, List.length_cons, unhexL_length]
    omega
theorem flat_id_snoc {l : List (List UInt8)} {k : Nat} {x : List UInt8} (h : l[k]? = some x) : (l.take (k + 1)).flatMap unhexL = (l.take k).flatMap unhexL ++ unhexL x := by
  obtain ⟨hk, e⟩ := List.getElem?_eq_some_iff.1 h
  rw [List.take_succ_eq_append_getElem hk, List.flatMap_append, e]
  simp
structure CommOk (T : List UInt8) (P : List (List UInt8)) (st au : Int) (ms : List UInt8) : Prop where
  tree : validB T = true
  par : parB P = true
  st0 : 0 ≤ st
  st1 : st ≤ 1099511627776
  au0 : 0 ≤ au
  au1 : au ≤ 255
  msg : msgB ms = true
theorem msgB_len {s : List UInt8} (h : msgB s = true) : s.length ≤ 200 := by
  unfold msgB at h
  rw [Bool.and_eq_true, decide_eq_true_eq] at h
  exact h.1
theorem commB_of {o : ObM} (h : commB o = true) : o.data = [] ∧ o.items = [] ∧ CommOk o.tree o.parents o.stamp o.author o.msg := by
  unfold commB at h
  simp only [Bool.and_eq_true, decide_eq_true_eq] at h
  obtain ⟨⟨⟨⟨⟨⟨⟨⟨h1, h2⟩, h3⟩, h4⟩, h5⟩, h6⟩, h7⟩, h8⟩, h9⟩ := h
  exact ⟨List.eq_nil_of_length_eq_zero h1, List.eq_nil_of_length_eq_zero h2, h3, h4, h5, h6, h7, h8, h9⟩
set_option maxRecDepth 100000 in
set_option maxHeartbeats 3200000 in
theorem putCommit_any (v u : Value) (bs : List UInt8) (o : ObM) (B : Nat) (w0 w : World) (h : Own w B v bs) (hI : ObV w0 u o) (h0 : Below w0.heap.size w0 w) (hB0 : w0.heap.size ≤ B) (hB : B ≤ w.heap.size) (hok : CommOk o.tree o.parents o.stamp o.author o.msg) (hl : bs.length ≤ 1000) :
    Calls Try.prog 29 #[v, u] w (AppPost w B bs (encC o)) := by
  obtain ⟨d, it, ps, rfl, hd, hi, hp⟩ := hI
  obtain ⟨k, D, I, T, P, st, au, ms⟩ := o
  replace hd : Sl w0 d D := hd
  replace hi : SlI w0 it I := hi
  replace hp : SlV w0 ps ((P.map str).map sv) := hp
  replace hok : CommOk T P st au ms := hok
  obtain ⟨A, c, rfl, hlc, hcm, _⟩ := hd
  obtain ⟨A2, c2, rfl, hlc2, hcm2, _⟩ := hi
  obtain ⟨A3, c3, rfl, hlc3, hcm3, hR⟩ := hp.len
  unfold maxLen at hcm hcm2 hcm3
  simp only [List.length_map] at hlc3 hR ⊢
  obtain ⟨n, hn⟩ : ∃ n : Nat, st = (n : Int) := ⟨st.toNat, by have := hok.st0; omega⟩
  obtain ⟨a, ha⟩ : ∃ a : Nat, au = (a : Int) := ⟨au.toNat, by have := hok.au0; omega⟩
  subst hn ha
  have hpl := (parB_of hok.par).1
  obtain ⟨l3, hl3⟩ : ∃ l, P.length = l := ⟨_, rfl⟩
  rw [hl3] at hlc3 hpl ⊢
  have HO := Lib.hid h
  have H0 := Lib.hid h0
  have HR := Lib.hid hR
  have HL := Lib.hid hl3
  have HOK := Lib.hid hok
  have hlb := len_byte l3 (by omega)
  have hz0 : B ≤ (w.alloc (.cells #[.int .i64 k, .slice A D.length c, .slice A2 I.length c2, .string (str T), .slice A3 l3 c3, .int .i64 (n : Int), .int .i64 (a : Int), .string (str ms)] 26)).heap.size := by simp; omega
  have HOA : Hid (Own (w.alloc (.cells #[.int .i64 k, .slice A D.length c, .slice A2 I.length c2, .string (str T), .slice A3 l3 c3, .int .i64 (n : Int), .int .i64 (a : Int), .string (str ms)] 26)) B v bs) := HO.out.alloc _
  have HKA : Hid (Blk (w.alloc (.cells #[.int .i64 k, .slice A D.length c, .slice A2 I.length c2, .string (str T), .slice A3 l3 c3, .int .i64 (n : Int), .int .i64 (a : Int), .string (str ms)] 26)) w.heap.size 26 #[.int .i64 k, .slice A D.length c, .slice A2 I.length c2, .string (str T), .slice A3 l3 c3, .int .i64 (n : Int), .int .i64 (a : Int), .string (str ms)]) := Blk.new _ _ _
  have HK0 : Hid (Kp B w (w.alloc (.cells #[.int .i64 k, .slice A D.length c, .slice A2 I.length c2, .string (str T), .slice A3 l3 c3, .int .i64 (n : Int), .int .i64 (a : Int), .string (str ms)] 26))) := (Kp.refl _ _).alloc hB _
  have HT32 : Hid ((unhexL T).length = 32) := by
    unfold Hid
    rw [unhexL_length]
    have := validB_len hok.tree
    omega
  clear h h0 hR hl3 hok
  go_enter Try.func29, Try.ntmps29
  go_wp2_with fail
  refine (putHash_any v bs T B _ HOA.out HOK.out.tree (by omega) hz0).mono ?_
  rintro e w1 ⟨v1, rfl, ho1, hk1⟩
  have HO1 := Lib.hid ho1
  have HK1 := Lib.hid (HK0.out.trans hk1)
  have HB1 := Lib.hid (hk1.blk _ _ _ HKA.out (by decide))
  have hz1 : B ≤ w1.heap.size := Nat.le_trans hB HK1.out.size
  have hs1 : (bs ++ unhexL T).length + 1 ≤ 140737488355328 := by have := HT32.out; rw [List.length_append]; omega
  clear ho1 hk1
  obtain ⟨-, -, -, -, x4, x5, x6, x7⟩ := box_cells HB1.out
  go_wp2_with (at_builtin; refine app_byte rfl (.tmp 11) (.tmp 16) rfl w1 B v1 _ rfl HO1.out _ (UInt8.ofNat l3) rfl _ rfl rfl hs1 hz1 ?_; intro v2 w2 ho2 hb2; have HO2 := Lib.hid ho2; have HK2 := Lib.hid (HK1.out.trans hb2); have HB2 := Lib.hid (hb2.blk _ _ _ HB1.out (by decide)); clear ho2 hb2; clear x4 x5 x6 x7; obtain ⟨-, -, -, -, x4, x5, x6, x7⟩ := box_cells HB2.out)
  clear x4 x5 x6 x7
  go_loopw [0, 21] (fun b i wr => ∃ j : Nat, j ≤ l3 ∧ i = .int .i64 j ∧ Own wr B b (bs ++ unhexL T ++ [UInt8.ofNat l3] ++ (P.take j).flatMap unhexL) ∧ Kp B w wr ∧ Blk wr w.heap.size 26 #[.int .i64 k, .slice A D.length c, .slice A2 I.length c2, .string (str T), .slice A3 l3 c3, .int .i64 (n : Int), .int .i64 (a : Int), .string (str ms)]) (fun _ i _ => l3 - (intOf i).toNat)
  case atStart => exact ⟨0, Nat.zero_le _, rfl, by simpa using HO2.out, HK2.out, HB2.out⟩
  case round =>
    obtain ⟨j, hj, rfl, hou, hku, hbu⟩ := hrel
    have HOU := Lib.hid hou
    have HKU := Lib.hid hku
    have HBU := Lib.hid hbu
    clear hou hku hbu
    have j0 : (0 : Int) ≤ (j : Int) := by omega
    have hzu : B ≤ wr.heap.size := Nat.le_trans hB HKU.out.size
    have hlen : (bs ++ unhexL T ++ [UInt8.ofNat l3] ++ (P.take j).flatMap unhexL).length ≤ 2000 := by
      have h1 := HT32.out
      have h2 := flat_ids_len (ids := P.take j) (fun i y hy => (parB_of HOK.out.par).2 i y (by
        rw [List.getElem?_take] at hy
        split at hy
        · exact hy
        · cases hy))
      rw [List.length_take] at h2
      simp only [List.length_append, List.length_singleton]
      omega
    by_cases hlt : j < l3
    · have j1 : (j : Int) < (l3 : Int) := by omega
      have hjl : j < P.length := by rw [HL.out]; exact hlt
      obtain ⟨x, hx⟩ : ∃ x, P[j]? = some x := ⟨_, List.getElem?_eq_getElem hjl⟩
      have HSN := Lib.hid (flat_id_snoc hx)
      have hv := (parB_of HOK.out.par).2 j x hx
      obtain ⟨ad, rfl, hcell⟩ := par_at (HR.out.below (H0.out.trans (HKU.out.below.mono hB0))) j hjl
      have hxx : P.getD j [] = x := by rw [List.getD_eq_getElem?_getD, hx]; rfl
      rw [hxx] at hcell
      have HV := Lib.hid hv
      have HLN := Lib.hid hlen
      clear hx hv hxx hjl hlen
      go_wp2_with fail
      refine (putHash_any _ _ x B wr HOU.out HV.out (by have := HLN.out; omega) hzu).mono ?_
      rintro e w3 ⟨v3, rfl, ho3, hk3⟩
      have HO3 := Lib.hid ho3
      have HK3 := Lib.hid (HKU.out.trans hk3)
      have HB3 := Lib.hid (hk3.blk _ _ _ HBU.out (by decide))
      clear ho3 hk3 hcell
      go_wp2_with fail
      go_roundw
      case rel =>
        refine ⟨j + 1, by omega, by go_num, ?_, HK3.out, HB3.out⟩
        rw [HSN.out, ← List.append_assoc]
        exact HO3.out
      case measure => simp [intOf]; omega
    · obtain rfl : j = l3 := by omega
      have htk : P.take j = P := List.take_of_length_le (by rw [HL.out]; exact Nat.le_refl _)
      rw [htk] at HOU hlen
      obtain ⟨pre, hpre⟩ : ∃ pre, bs ++ unhexL T ++ [UInt8.ofNat j] ++ P.flatMap unhexL = pre := ⟨_, rfl⟩
      rw [hpre] at HOU hlen
      have HPRE := Lib.hid hpre
      clear hpre htk
      obtain ⟨-, -, -, -, -, x5, x6, x7⟩ := box_cells HBU.out
      have hn9 := putL_len9 (show n ≤ 72057594037927936 from by have := HOK.out.st1; omega)
      have ha9 := putL_len9 (show a ≤ 72057594037927936 from by have := HOK.out.au1; omega)
      have HN9 := Lib.hid hn9
      have HA9 := Lib.hid ha9
      have HLN := Lib.hid hlen
      clear hn9 ha9 hlen
      go_wp2_with fail
      clear x5 x6 x7
      refine (putNumber_any _ _ n B wr HOU.out (by have := HOK.out.st1; omega) (by have := HLN.out; omega) hzu).mono ?_
      rintro e w4 ⟨v4, rfl, ho4, hk4⟩
      have HO4 := Lib.hid ho4
      have HK4 := Lib.hid (HKU.out.trans hk4)
      have HB4 := Lib.hid (hk4.blk _ _ _ HBU.out (by decide))
      have hz4 : B ≤ w4.heap.size := Nat.le_trans hB HK4.out.size
      clear ho4 hk4
      obtain ⟨-, -, -, -, -, x5, x6, x7⟩ := box_cells HB4.out
      go_wp2_with fail
      clear x5 x6 x7
      refine (putNumber_any _ _ a B w4 HO4.out (by have := HOK.out.au1; omega) (by have h1 := HLN.out; have h2 := HN9.out; rw [List.length_append]; omega) hz4).mono ?_
      rintro e w5 ⟨v5, rfl, ho5, hk5⟩
      have HO5 := Lib.hid ho5
      have HK5 := Lib.hid (HK4.out.trans hk5)
      have HB5 := Lib.hid (hk5.blk _ _ _ HB4.out (by decide))
      have hz5 : B ≤ w5.heap.size := Nat.le_trans hB HK5.out.size
      clear ho5 hk5
      obtain ⟨-, -, -, -, -, x5, x6, x7⟩ := box_cells HB5.out
      go_wp2_with fail
      clear x5 x6 x7
      refine (putText_any _ _ ms B w5 HO5.out (by have := msgB_len HOK.out.msg; omega) (by have h1 := HLN.out; have h2 := HN9.out; have h3 := HA9.out; simp only [List.length_append]; omega) hz5).mono ?_
      rintro e w6 ⟨v6, rfl, ho6, hk6⟩
      have HO6 := Lib.hid ho6
      have HK6 := Lib.hid (HK5.out.trans hk6)
      clear ho6 hk6
      go_wp2_with fail
      go_ret
      refine ⟨v6, rfl, ?_, HK6.out⟩
      have h6 := HO6.out
      rw [← HPRE.out] at h6
      rw [show encC ⟨k, D, I, T, P, (n : Int), (a : Int), ms⟩ = unhexL T ++ [UInt8.ofNat P.length] ++ P.flatMap unhexL ++ putL (n : Int).toNat ++ putL (a : Int).toNat ++ (putL ms.length ++ ms) from rfl, HL.out, Int.toNat_natCast, Int.toNat_natCast]
      simpa only [List.append_assoc] using h6
end Go.Proofs.Ytcbiajajoojgmaa.Ob
