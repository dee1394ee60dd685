/- Texts, and slices of one-cell values: of one's own, and such as came in. (No package's code in it.) -/
import Derived.Test.YtbejgljljjjjcaaRows
import Derived.Test.YtbejgljljjjjcaaShM0
import Derived.WalkKit
import Derived.ProofKit
import Derived.OpenShut
import Derived.BigQuiet
import Derived.Deep.QuietTactic
import Derived.Lib.Hide
import Derived.Deep.RegionWith
import Derived.StillTailTactics
import Derived.Deep.DeepFit
import Derived.Deep.WholeRow
import Derived.Deep.MidRow
import Derived.Deep.AppendLies
import Derived.Deep.Draws
import Derived.Maps.AppendAt
import Derived.Deep.RegionHeld3
import Derived.Deep.OwnRows
import Derived.Laws.BytesString
import Derived.ShutString
import Derived.ChangeOld
import Derived.SliceStrings
import Derived.WalkLawsBesides
import Derived.WalkSpells
namespace Go.Proofs.Ytbejgljljjjjcaa.Tx
open Go.RowKit Go.Proofs.Ytbejgljljjjjcaa.Sh

/-- A byte's number. -/
def bi (u : UInt8) : Int := (u.toNat : Int)
theorem bi_lt (u : UInt8) : 0 ≤ bi u ∧ bi u ≤ 255 := by
  unfold bi; have := u.toNat_lt; omega
theorem bi_inj {a b : UInt8} (h : bi a = bi b) : a = b := by
  unfold bi at h; exact UInt8.toNat_inj.1 (by omega)
theorem bi_nat (u : UInt8) : bi u = (u.toNat : Int) := rfl
def str (bs : List UInt8) : ByteArray := ⟨bs.toArray⟩
theorem str_inj {a b : List UInt8} (h : str a = str b) : a = b := by
  unfold str at h
  injection h with h
  simpa using congrArg Array.toList h
theorem str_toList (bs : List UInt8) : (str bs).toList = bs := by
  rw [ByteArray.toList_eq]
  rfl
theorem str_size (cs : List UInt8) : (str cs).size = cs.length := by
  unfold str ByteArray.size
  simp
theorem index_str (cs : List UInt8) (k : Nat) (hk : k < cs.length) (w : World) : (Instr.index 9 (.string (str cs)) (.int .i64 (k : Int))).run Try.prog w = .ok (.int .u8 (bi (cs.getD k 0))) w := by
  have hsz := str_size cs
  have hg : (str cs)[k]? = some cs[k] := getElem?_pos (str cs) k (by rw [hsz]; exact hk)
  simp [Instr.index, go_sem]
  rw [hg, List.getElem?_eq_getElem hk]
  unfold bi
  rfl
attribute [irreducible] bi
def lenOf : Value → Nat
  | .slice _ n _ => n
  | _ => 0
/-- v is a slice of the call's own (its block from B on) that holds vs; E: its elements' type. -/
def OwnV (E : TypeId) (w : World) (B : Nat) (v : Value) (vs : List Value) : Prop := w.ownsRow B E 1 v vs.length vs
/-- v is a slice that reads as vs. -/
def SlV (w : World) (v : Value) (vs : List Value) : Prop := ∃ A c, v = .slice A vs.length c ∧ vs.length ≤ c ∧ c ≤ maxLen ∧ Reads w w.heap.size 1 A vs.length vs ∧ (A = none → vs = [])

section
variable {E : TypeId} {w w' : World} {B : Nat} {v : Value} {vs : List Value}
theorem SlV.below (h : SlV w v vs) (hb : Below w.heap.size w w') : SlV w' v vs := by
  obtain ⟨A, c, hv, h1, h2, h3, h4⟩ := h
  exact ⟨A, c, hv, h1, h2, (h3.below hb).more hb.size, h4⟩
theorem SlV.drew (h : SlV w v vs) : SlV w.drew v vs := h
theorem SlV.nil_ (w : World) : SlV w (.slice none 0 0) [] := ⟨none, 0, rfl, by simp, by unfold maxLen; omega, Reads.none_, fun _ => rfl⟩
theorem SlV.len (h : SlV w v vs) : ∃ A c, v = .slice A vs.length c ∧ vs.length ≤ c ∧ c ≤ maxLen ∧ Reads w w.heap.size 1 A vs.length vs := by
  obtain ⟨A, c, hv, h1, h2, h3, _⟩ := h
  exact ⟨A, c, hv, h1, h2, h3⟩
theorem reads_at {A : Option Addr} {n : Nat} (h : Reads w B 1 A n vs) (k : Nat) (u : Value) (hk : vs[k]? = some u) : ∃ ad, A = some ad ∧ w.cell? (ad.add k) = some u := by
  have hl : k < vs.length := (List.getElem?_eq_some_iff.1 hk).1
  obtain ⟨ad, e, _, hc⟩ := h.2 (by have := h.1; omega)
  exact ⟨ad, e, hc k u hk⟩
theorem OwnV.nil_ (w : World) (B : Nat) : OwnV E w B (.slice none 0 0) [] := World.ownsRow_nil w B E 1
theorem OwnV.alloc (h : OwnV E w B v vs) (o : Obj) : OwnV E (w.alloc o) B v vs := World.ownsRow.alloc h o
theorem OwnV.drew (h : OwnV E w B v vs) : OwnV E w.drew B v vs := h
theorem OwnV.drewN (h : OwnV E w B v vs) (n : Nat) : OwnV E (w.drewN n) B v vs := h
theorem OwnV.below (h : OwnV E w B v vs) (hb : Below w.heap.size w w') : OwnV E w' B v vs :=
  World.ownsRow.kept h (only_of_below hb none) (by cases hv : v.ownBlock <;> simp)
theorem OwnV.kept {row : Option Nat} (h : OwnV E w B v vs) (hg : w.grownBy w' row) (hne : v.ownBlock = none ∨ v.ownBlock ≠ row) : OwnV E w' B v vs := World.ownsRow.kept h hg hne
theorem OwnV.lt (h : OwnV E w B v vs) (k : Nat) (hk : v.ownBlock = some k) : B ≤ k ∧ k < w.heap.size := World.ownsRow.lt h k hk
theorem OwnV.length (h : OwnV E w B v vs) : ∃ A c, v = .slice A vs.length c ∧ vs.length ≤ c ∧ c ≤ maxLen := by
  rcases h.2 with ⟨rfl, h0⟩ | ⟨g, cap, cur, rfl, _, _, hc, hm, _⟩
  · exact ⟨none, 0, by rw [h0], by rw [h0]; exact Nat.zero_le _, by unfold maxLen; omega⟩
  · exact ⟨_, _, rfl, hc, hm⟩
/-- The row behind it. -/
theorem OwnV.blk (h : OwnV E w B v vs) : (v = .slice none 0 0 ∧ vs = []) ∨ ∃ g c cur, v = .slice (some ⟨g, 0, none⟩) vs.length c ∧ B ≤ g ∧ g < w.heap.size ∧ Blk w g E cur ∧ vs.length ≤ c ∧ c ≤ maxLen ∧ cur.size = c ∧ cur.toList.take vs.length = vs := by
  rcases h.2 with ⟨h1, h0⟩ | ⟨g, cap, cur, rfl, hb, hg, hc, hm, hcs, htk⟩
  · exact .inl ⟨h1, List.eq_nil_of_length_eq_zero h0⟩
  · exact .inr ⟨g, cap, cur, rfl, hb, (Array.getElem?_eq_some_iff.1 hg).1, hg, hc, hm, by simpa using hcs, by simpa using htk⟩
theorem OwnV.mk {g c : Nat} {cur : Array Value} (hb : B ≤ g) (hg : Blk w g E cur) (hc : vs.length ≤ c) (hm : c ≤ maxLen) (hs : cur.size = c) (ht : cur.toList.take vs.length = vs) : OwnV E w B (.slice (some ⟨g, 0, none⟩) vs.length c) vs :=
  ⟨by simp, Or.inr ⟨g, c, cur, rfl, hb, hg, hc, hm, by simpa using hs, by simpa using ht⟩⟩
theorem OwnV.base {B' : Nat} (h : OwnV E w B v vs) (hB : B' ≤ B) : OwnV E w B' v vs := by
  refine ⟨h.1, ?_⟩
  rcases h.2 with h0 | ⟨g, cap, cur, hv, hb, rest⟩
  · exact .inl h0
  · exact .inr ⟨g, cap, cur, hv, by omega, rest⟩
theorem OwnV.slv (h : OwnV E w B v vs) : SlV w v vs := by
  obtain ⟨A, c, hv, h1, h2⟩ := h.length
  have h' : w.ownsRow B E 1 (.slice A vs.length c) vs.length vs := by rw [← hv]; exact h
  have hr := Reads.of_own h'
  refine ⟨A, c, hv, h1, h2, hr, fun hA => ?_⟩
  rcases Nat.eq_zero_or_pos vs.length with h0 | h0
  · exact List.eq_nil_of_length_eq_zero h0
  · obtain ⟨ad, e, _⟩ := hr.2 h0
    rw [hA] at e
    cases e
theorem OwnV.cellAt {g n c : Nat} (h : OwnV E w B (.slice (some ⟨g, 0, none⟩) n c) vs) (j : Nat) (u : Value) (hj : vs[j]? = some u) : w.cell? ⟨g, j, none⟩ = some u ∧ w.frozen? ⟨g, j, none⟩ = false := by
  rcases h.blk with ⟨he, _⟩ | ⟨g', c', cur, he, hb, hlt, hg, hc, hm, hs, ht⟩
  · cases he
  · injection he with e1 e2 e3
    injection e1 with e1
    injection e1 with e1 _ _
    subst e1 e3
    refine ⟨?_, hg.frozen j⟩
    have hl : j < vs.length := (List.getElem?_eq_some_iff.1 hj).1
    have : (cur.toList.take vs.length)[j]? = some u := by rw [ht]; exact hj
    rw [List.getElem?_take, if_pos hl] at this
    rw [hg.cell, ← Array.getElem?_toList, this]
theorem OwnV.setAt {g n c : Nat} (h : OwnV E w B (.slice (some ⟨g, 0, none⟩) n c) vs) (j : Nat) (u : Value) :
    OwnV E (w.setCell ⟨g, j, none⟩ u) B (.slice (some ⟨g, 0, none⟩) n c) (vs.set j u) := by
  rcases h.blk with ⟨he, _⟩ | ⟨g', c', cur, he, hb, hlt, hg, hc, hm, hs, ht⟩
  · cases he
  · injection he with e1 e2 e3
    injection e1 with e1
    injection e1 with e1 _ _
    subst e1 e3
    have hb2 := hg.set_ j u
    have el : vs.length = (vs.set j u).length := List.length_set.symm
    rw [e2, el]
    refine OwnV.mk hb hb2 (by rw [List.length_set]; exact hc) hm (by simpa using hs) ?_
    rw [Array.toList_setIfInBounds, List.take_set, List.length_set, ht]
theorem OwnV.apart (h : OwnV E w B v vs) {p : Addr} (hp : v.ownBlock ≠ some p.block) (u : Value) : OwnV E (w.setCell p u) B v vs :=
  World.ownsRow.kept h (row := some p.block) ⟨rfl, rfl, rfl, by simp [World.setCell], fun i _ hne => Below.heap_setCell w p u i (fun e => hne (by rw [e]))⟩ (.inr hp)
/-- Slices of unlike elements lie apart. -/
theorem OwnV.unlike {E' : TypeId} {v' : Value} {vs' : List Value} {B' : Nat} (h : OwnV E w B v vs) (h' : OwnV E' w B' v' vs') (hne : E ≠ E') : v.ownBlock = none ∨ v.ownBlock ≠ v'.ownBlock := by
  rcases h.blk with ⟨rfl, _⟩ | ⟨g, c, cur, rfl, _, _, hg, _⟩
  · exact .inl rfl
  · right
    rcases h'.blk with ⟨rfl, _⟩ | ⟨g', c', cur', rfl, _, _, hg', _⟩
    · simp [Value.ownBlock]
    · intro e
      have e' : g = g' := by simpa [Value.ownBlock] using e
      subst e'
      exact Blk.ne_ hg hg' hne rfl
end
/-- An integer, a text, as values. -/
def iv (n : Int) : Value := .int .i64 n
def sv (s : ByteArray) : Value := .string s
theorem iv_one (l : List Int) : ∀ u ∈ l.map iv, u.oneCell' = true := by intro u hu; simp only [List.mem_map] at hu; obtain ⟨x, _, rfl⟩ := hu; rfl
theorem sv_one (l : List ByteArray) : ∀ u ∈ l.map sv, u.oneCell' = true := by intro u hu; simp only [List.mem_map] at hu; obtain ⟨x, _, rfl⟩ := hu; rfl
theorem info_int : (Try.prog.info? 3).map (fun i => (i.zero, i.size, i.bytes)) = some (some (.int .i64 0), 1, 8) := by kernel_rfl
theorem info_str : (Try.prog.info? 9).map (fun i => (i.zero, i.size, i.bytes)) = some (some (.string ⟨#[]⟩), 1, 16) := by kernel_rfl

/-- A slice of texts that came in, as the walk is told of it. -/
def IsTexts (w : World) (a : Option Addr) (len cap : Nat) (ss : List ByteArray) : Prop :=
  (a = none ∧ len = 0 ∧ cap = 0 ∧ ss = []) ∨
  ∃ x, a = some x ∧ len ≤ cap ∧ cap ≤ maxLen ∧ ss.length = cap ∧ (∀ i, i < ss.length → w.cell? (x.add i) = some (.string (ss.getD i ByteArray.empty))) ∧ ∀ s ∈ ss, s.size ≤ maxLen
theorem IsTexts.slv {w : World} {a : Option Addr} {len cap : Nat} {ss : List ByteArray} (h : IsTexts w a len cap ss) : ∃ ts : List ByteArray, ts.length = len ∧ SlV w (.slice a len cap) (ts.map sv) ∧ ∀ s ∈ ts, s.size ≤ maxLen := by
  rcases h with ⟨rfl, rfl, rfl, rfl⟩ | ⟨x, rfl, hl, hm, hz, hc, hw⟩
  · exact ⟨[], rfl, SlV.nil_ w, fun n hn => by cases hn⟩
  · refine ⟨ss.take len, by simp; omega, ⟨some x, cap, by simp; omega, by simp; omega, hm, ⟨by simp, fun h0 => ⟨x, rfl, ?_, fun j u hu => ?_⟩⟩, fun h => by cases h⟩, fun n hn => hw n (List.mem_of_mem_take hn)⟩
    · have h1 : 0 < ss.length := by simp at h0; omega
      have := World.block_lt_of_cell? w _ (hc 0 h1)
      rw [block_of_add] at this
      exact this
    · rw [List.getElem?_map, List.getElem?_take] at hu
      by_cases hj : j < len
      · rw [if_pos hj, List.getElem?_eq_getElem (by omega)] at hu
        rw [hc j (by omega), List.getD_eq_getElem?_getD, List.getElem?_eq_getElem (by omega)]
        exact hu
      · rw [if_neg hj] at hu; cases hu
theorem append_texts {ops : Array Oper} {rest : List Oper} {o : Oper} {a : Act} {Q : Exit → Act → World → Prop} (hgd : o.guard = none) (s x : Operand)
    (ho : o.op = .call { callee := .builtin .append, args := #[s, x], argTypes := #[22, 22] }) (w : World) (B : Nat) (v : Value) (ts : List ByteArray) (hs : a.eval s = v) (hown : OwnV 9 w B v (ts.map sv))
    (B' : Nat) (A : Option Addr) (m c : Nat) (us : List ByteArray) (hx : a.eval x = .slice A m c) (hr : Reads w B' 1 A m (us.map sv)) (hsmall : ts.length + m ≤ 2000000) (hB : B ≤ w.heap.size)
    (h : ∀ v' w', OwnV 9 w' B v' ((ts ++ us).map sv) → Below B w w' → wpList Try.prog ops Q rest (a.put o.dst v') w') : wpList Try.prog ops Q (o :: rest) a w := by
  obtain ⟨i0, hi, hz0, hz1, hz2⟩ := info_parts info_str
  have hm : us.length = m := by have := hr.1; simpa using this
  have hown' : w.ownsRow B 9 1 v ts.length (ts.map sv) := by have := hown; unfold OwnV at this; rwa [List.length_map] at this
  refine wpList_append_any w hgd s x 22 ho B 9 i0 (.string ⟨#[]⟩) 1 16 Try.underlying22 hi hz0 hz1 hz2 rfl (by decide) v ts.length _ hs hown' B' A m c _ hx hr (sv_one us) (by unfold maxLen; omega) (by omega) hB ?_
  intro v' w' h1 h2 _
  refine h v' w' ?_ ((Below.refl _ _).grown h2 hB (fun k hk => (hown'.lt k hk).1))
  unfold OwnV
  rw [List.length_map, List.length_append, hm, List.map_append]
  exact h1
theorem append_text {ops : Array Oper} {rest : List Oper} {o : Oper} {a : Act} {Q : Exit → Act → World → Prop} (hgd : o.guard = none) (s x : Operand)
    (ho : o.op = .call { callee := .builtin .append, args := #[s, x], argTypes := #[22, 22] }) (w : World) (B : Nat) (v : Value) (ts : List ByteArray) (hs : a.eval s = v) (hown : OwnV 9 w B v (ts.map sv))
    (u : ByteArray) (hx : a.eval x = .slice (some ⟨w.heap.size, 0, none⟩) 1 1) (hsmall : ts.length + 1 ≤ 2000000) (hB : B ≤ w.heap.size)
    (h : ∀ v' w', OwnV 9 w' B v' ((ts ++ [u]).map sv) → Below B w w' → wpList Try.prog ops Q rest (a.put o.dst v') w') : wpList Try.prog ops Q (o :: rest) a (w.alloc (.cells #[.string u] 9)) := by
  have hr : Reads (w.alloc (.cells #[.string u] 9)) (w.heap.size + 1) 1 (some ⟨w.heap.size, 0, none⟩) 1 ([u].map sv) := by
    refine ⟨rfl, fun _ => ⟨_, rfl, by simp, fun j v hv => ?_⟩⟩
    rw [Addr.add_mid, cell_of_row _ _ _ _ 9 (0, 0) (heap_alloc_new w _), Nat.zero_add, ← hv]
    simp [sv]
  refine append_texts hgd s x ho _ B v ts hs (hown.alloc _) _ _ 1 1 [u] hx hr hsmall (by simp; omega) ?_
  intro v' w' h1 h2
  exact h v' w' h1 (((Below.refl _ _).alloc hB _).trans h2)

def TextsPost (w : World) (ts : List ByteArray) (e : Ending) (w' : World) : Prop := ∃ v, e = .returned v ∧ OwnV 9 w' w.heap.size v (ts.map sv) ∧ Below w.heap.size w w'
theorem texts_at {w : World} {A : Option Addr} {xs : List ByteArray} (h : Reads w w.heap.size 1 A xs.length (xs.map sv)) (k : Nat) (hk : k < xs.length) : ∃ ad, A = some ad ∧ w.cell? (ad.add k) = some (.string xs[k]) :=
  reads_at h k _ (by rw [List.getElem?_map, List.getElem?_eq_getElem hk]; rfl)

end Go.Proofs.Ytbejgljljjjjcaa.Tx
