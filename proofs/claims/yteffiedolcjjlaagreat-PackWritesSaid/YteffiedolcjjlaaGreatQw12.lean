/- Texts put together: YTx0, YTq0, YTn0, YTn1, YOb1, YTq3, YTb0, YOb0. -/
import Derived.Test.YteffiedolcjjlaaGreatRows
import Derived.Test.YteffiedolcjjlaaGreatQw01
import Derived.WalkKit
import Derived.ProofKit
import Derived.OpenShut
import Derived.BigQuiet
import Derived.Deep.QuietTactic
import Derived.Lib.Hide
import Derived.Deep.RegionWith
import Derived.StillTailTactics
import Derived.Deep.DeepFit
import Derived.Deep.WholeRow
import Derived.Deep.MidRow
import Derived.Deep.AppendLies
import Derived.Deep.Draws
import Derived.Maps.AppendAt
import Derived.Deep.RegionHeld3
import Derived.Deep.OwnRows
import Derived.Laws.BytesString
import Derived.ShutString
import Derived.ChangeOld
import Derived.SliceStrings
import Derived.WalkLawsBesides
import Derived.WalkSpells
import GoSem.Op.String
import Derived.Lib.AppendStr
import Derived.Test.YteffiedolcjjlaaGreatQw11
/- Texts, and slices of one-cell values: of one's own, and such as came in. (No package's code in it.) -/
namespace Go.Proofs.YteffiedolcjjlaaGreat.Tx
open Go.RowKit Go.Proofs.YteffiedolcjjlaaGreat.Sh

/-- A byte's number. -/
def bi (u : UInt8) : Int := (u.toNat : Int)
theorem bi_lt (u : UInt8) : 0 ≤ bi u ∧ bi u ≤ 255 := by
  unfold bi; have := u.toNat_lt; omega
theorem bi_inj {a b : UInt8} (h : bi a = bi b) : a = b := by
  unfold bi at h; exact UInt8.toNat_inj.1 (by omega)
theorem bi_nat (u : UInt8) : bi u = (u.toNat : Int) := rfl
def str (bs : List UInt8) : ByteArray := ⟨bs.toArray⟩
theorem str_inj {a b : List UInt8} (h : str a = str b) : a = b := by
  unfold str at h
  injection h with h
  simpa using congrArg Array.toList h
theorem str_toList (bs : List UInt8) : (str bs).toList = bs := by
  rw [ByteArray.toList_eq]
  rfl
theorem str_size (cs : List UInt8) : (str cs).size = cs.length := by
  unfold str ByteArray.size
  simp
theorem index_str (cs : List UInt8) (k : Nat) (hk : k < cs.length) (w : World) : (Instr.index 9 (.string (str cs)) (.int .i64 (k : Int))).run Tryz.prog w = .ok (.int .u8 (bi (cs.getD k 0))) w := by
  have hsz := str_size cs
  have hg : (str cs)[k]? = some cs[k] := getElem?_pos (str cs) k (by rw [hsz]; exact hk)
  simp [Instr.index, go_sem]
  rw [hg, List.getElem?_eq_getElem hk]
  unfold bi
  rfl
attribute [irreducible] bi
def lenOf : Value → Nat
  | .slice _ n _ => n
  | _ => 0
/-- v is a slice of the call's own (its block from B on) that holds vs; E: its elements' type. -/
def OwnV (E : TypeId) (w : World) (B : Nat) (v : Value) (vs : List Value) : Prop := w.ownsRow B E 1 v vs.length vs
/-- v is a slice that reads as vs. -/
def SlV (w : World) (v : Value) (vs : List Value) : Prop := ∃ A c, v = .slice A vs.length c ∧ vs.length ≤ c ∧ c ≤ maxLen ∧ Reads w w.heap.size 1 A vs.length vs ∧ (A = none → vs = [])

section
variable {E : TypeId} {w w' : World} {B : Nat} {v : Value} {vs : List Value}
theorem SlV.below (h : SlV w v vs) (hb : Below w.heap.size w w') : SlV w' v vs := by
  obtain ⟨A, c, hv, h1, h2, h3, h4⟩ := h
  exact ⟨A, c, hv, h1, h2, (h3.below hb).more hb.size, h4⟩
theorem SlV.drew (h : SlV w v vs) : SlV w.drew v vs := h
theorem SlV.nil_ (w : World) : SlV w (.slice none 0 0) [] := ⟨none, 0, rfl, by simp, by unfold maxLen; omega, Reads.none_, fun _ => rfl⟩
theorem SlV.len (h : SlV w v vs) : ∃ A c, v = .slice A vs.length c ∧ vs.length ≤ c ∧ c ≤ maxLen ∧ Reads w w.heap.size 1 A vs.length vs := by
  obtain ⟨A, c, hv, h1, h2, h3, _⟩ := h
  exact ⟨A, c, hv, h1, h2, h3⟩
theorem reads_at {A : Option Addr} {n : Nat} (h : Reads w B 1 A n vs) (k : Nat) (u : Value) (hk : vs[k]? = some u) : ∃ ad, A = some ad ∧ w.cell? (ad.add k) = some u := by
  have hl : k < vs.length := (List.getElem?_eq_some_iff.1 hk).1
  obtain ⟨ad, e, _, hc⟩ := h.2 (by have := h.1; omega)
  exact ⟨ad, e, hc k u hk⟩
theorem OwnV.nil_ (w : World) (B : Nat) : OwnV E w B (.slice none 0 0) [] := World.ownsRow_nil w B E 1
theorem OwnV.alloc (h : OwnV E w B v vs) (o : Obj) : OwnV E (w.alloc o) B v vs := World.ownsRow.alloc h o
theorem OwnV.drew (h : OwnV E w B v vs) : OwnV E w.drew B v vs := h
theorem OwnV.drewN (h : OwnV E w B v vs) (n : Nat) : OwnV E (w.drewN n) B v vs := h
theorem OwnV.below (h : OwnV E w B v vs) (hb : Below w.heap.size w w') : OwnV E w' B v vs :=
  World.ownsRow.kept h (only_of_below hb none) (by cases hv : v.ownBlock <;> simp)
theorem OwnV.kept {row : Option Nat} (h : OwnV E w B v vs) (hg : w.grownBy w' row) (hne : v.ownBlock = none ∨ v.ownBlock ≠ row) : OwnV E w' B v vs := World.ownsRow.kept h hg hne
theorem OwnV.lt (h : OwnV E w B v vs) (k : Nat) (hk : v.ownBlock = some k) : B ≤ k ∧ k < w.heap.size := World.ownsRow.lt h k hk
theorem OwnV.length (h : OwnV E w B v vs) : ∃ A c, v = .slice A vs.length c ∧ vs.length ≤ c ∧ c ≤ maxLen := by
  rcases h.2 with ⟨rfl, h0⟩ | ⟨g, cap, cur, rfl, _, _, hc, hm, _⟩
  · exact ⟨none, 0, by rw [h0], by rw [h0]; exact Nat.zero_le _, by unfold maxLen; omega⟩
  · exact ⟨_, _, rfl, hc, hm⟩
/-- The row behind it. -/
theorem OwnV.blk (h : OwnV E w B v vs) : (v = .slice none 0 0 ∧ vs = []) ∨ ∃ g c cur, v = .slice (some ⟨g, 0, none⟩) vs.length c ∧ B ≤ g ∧ g < w.heap.size ∧ Blk w g E cur ∧ vs.length ≤ c ∧ c ≤ maxLen ∧ cur.size = c ∧ cur.toList.take vs.length = vs := by
  rcases h.2 with ⟨h1, h0⟩ | ⟨g, cap, cur, rfl, hb, hg, hc, hm, hcs, htk⟩
  · exact .inl ⟨h1, List.eq_nil_of_length_eq_zero h0⟩
  · exact .inr ⟨g, cap, cur, rfl, hb, (Array.getElem?_eq_some_iff.1 hg).1, hg, hc, hm, by simpa using hcs, by simpa using htk⟩
theorem OwnV.mk {g c : Nat} {cur : Array Value} (hb : B ≤ g) (hg : Blk w g E cur) (hc : vs.length ≤ c) (hm : c ≤ maxLen) (hs : cur.size = c) (ht : cur.toList.take vs.length = vs) : OwnV E w B (.slice (some ⟨g, 0, none⟩) vs.length c) vs :=
  ⟨by simp, Or.inr ⟨g, c, cur, rfl, hb, hg, hc, hm, by simpa using hs, by simpa using ht⟩⟩
theorem OwnV.base {B' : Nat} (h : OwnV E w B v vs) (hB : B' ≤ B) : OwnV E w B' v vs := by
  refine ⟨h.1, ?_⟩
  rcases h.2 with h0 | ⟨g, cap, cur, hv, hb, rest⟩
  · exact .inl h0
  · exact .inr ⟨g, cap, cur, hv, by omega, rest⟩
theorem OwnV.slv (h : OwnV E w B v vs) : SlV w v vs := by
  obtain ⟨A, c, hv, h1, h2⟩ := h.length
  have h' : w.ownsRow B E 1 (.slice A vs.length c) vs.length vs := by rw [← hv]; exact h
  have hr := Reads.of_own h'
  refine ⟨A, c, hv, h1, h2, hr, fun hA => ?_⟩
  rcases Nat.eq_zero_or_pos vs.length with h0 | h0
  · exact List.eq_nil_of_length_eq_zero h0
  · obtain ⟨ad, e, _⟩ := hr.2 h0
    rw [hA] at e
    cases e
theorem OwnV.setAt {g n c : Nat} (h : OwnV E w B (.slice (some ⟨g, 0, none⟩) n c) vs) (j : Nat) (u : Value) :
    OwnV E (w.setCell ⟨g, j, none⟩ u) B (.slice (some ⟨g, 0, none⟩) n c) (vs.set j u) := by
  rcases h.blk with ⟨he, _⟩ | ⟨g', c', cur, he, hb, hlt, hg, hc, hm, hs, ht⟩
  · cases he
  · injection he with e1 e2 e3
    injection e1 with e1
    injection e1 with e1 _ _
    subst e1 e3
    have hb2 := hg.set_ j u
    have el : vs.length = (vs.set j u).length := List.length_set.symm
    rw [e2, el]
    refine OwnV.mk hb hb2 (by rw [List.length_set]; exact hc) hm (by simpa using hs) ?_
    rw [Array.toList_setIfInBounds, List.take_set, List.length_set, ht]
theorem OwnV.apart (h : OwnV E w B v vs) {p : Addr} (hp : v.ownBlock ≠ some p.block) (u : Value) : OwnV E (w.setCell p u) B v vs :=
  World.ownsRow.kept h (row := some p.block) ⟨rfl, rfl, rfl, by simp [World.setCell], fun i _ hne => Below.heap_setCell w p u i (fun e => hne (by rw [e]))⟩ (.inr hp)
/-- Slices of unlike elements lie apart. -/
theorem OwnV.unlike {E' : TypeId} {v' : Value} {vs' : List Value} {B' : Nat} (h : OwnV E w B v vs) (h' : OwnV E' w B' v' vs') (hne : E ≠ E') : v.ownBlock = none ∨ v.ownBlock ≠ v'.ownBlock := by
  rcases h.blk with ⟨rfl, _⟩ | ⟨g, c, cur, rfl, _, _, hg, _⟩
  · exact .inl rfl
  · right
    rcases h'.blk with ⟨rfl, _⟩ | ⟨g', c', cur', rfl, _, _, hg', _⟩
    · simp [Value.ownBlock]
    · intro e
      have e' : g = g' := by simpa [Value.ownBlock] using e
      subst e'
      exact Blk.ne_ hg hg' hne rfl
end
/-- An integer, a text, as values. -/
def iv (n : Int) : Value := .int .i64 n
def sv (s : ByteArray) : Value := .string s
theorem sv_one (l : List ByteArray) : ∀ u ∈ l.map sv, u.oneCell' = true := by intro u hu; simp only [List.mem_map] at hu; obtain ⟨x, _, rfl⟩ := hu; rfl
theorem info_int : (Tryz.prog.info? 3).map (fun i => (i.zero, i.size, i.bytes)) = some (some (.int .i64 0), 1, 8) := by kernel_rfl
theorem info_str : (Tryz.prog.info? 9).map (fun i => (i.zero, i.size, i.bytes)) = some (some (.string ⟨#[]⟩), 1, 16) := by kernel_rfl

/-- A slice of texts that came in, as the walk is told of it. -/
def IsTexts (w : World) (a : Option Addr) (len cap : Nat) (ss : List ByteArray) : Prop :=
  (a = none ∧ len = 0 ∧ cap = 0 ∧ ss = []) ∨
  ∃ x, a = some x ∧ len ≤ cap ∧ cap ≤ maxLen ∧ ss.length = cap ∧ (∀ i, i < ss.length → w.cell? (x.add i) = some (.string (ss.getD i ByteArray.empty))) ∧ ∀ s ∈ ss, s.size ≤ maxLen
theorem IsTexts.slv {w : World} {a : Option Addr} {len cap : Nat} {ss : List ByteArray} (h : IsTexts w a len cap ss) : ∃ ts : List ByteArray, ts.length = len ∧ SlV w (.slice a len cap) (ts.map sv) ∧ ∀ s ∈ ts, s.size ≤ maxLen := by
  rcases h with ⟨rfl, rfl, rfl, rfl⟩ | ⟨x, rfl, hl, hm, hz, hc, hw⟩
  · exact ⟨[], rfl, SlV.nil_ w, fun n hn => by cases hn⟩
  · refine ⟨ss.take len, by simp; omega, ⟨some x, cap, by simp; omega, by simp; omega, hm, ⟨by simp, fun h0 => ⟨x, rfl, ?_, fun j u hu => ?_⟩⟩, fun h => by cases h⟩, fun n hn => hw n (List.mem_of_mem_take hn)⟩
    · have h1 : 0 < ss.length := by simp at h0; omega
      have := World.block_lt_of_cell? w _ (hc 0 h1)
      rw [block_of_add] at this
      exact this
    · rw [List.getElem?_map, List.getElem?_take] at hu
      by_cases hj : j < len
      · rw [if_pos hj, List.getElem?_eq_getElem (by omega)] at hu
        rw [hc j (by omega), List.getD_eq_getElem?_getD, List.getElem?_eq_getElem (by omega)]
        exact hu
      · rw [if_neg hj] at hu; cases hu
def TextsPost (w : World) (ts : List ByteArray) (e : Ending) (w' : World) : Prop := ∃ v, e = .returned v ∧ OwnV 9 w' w.heap.size v (ts.map sv) ∧ Below w.heap.size w w'
theorem texts_at {w : World} {A : Option Addr} {xs : List ByteArray} (h : Reads w w.heap.size 1 A xs.length (xs.map sv)) (k : Nat) (hk : k < xs.length) : ∃ ad, A = some ad ∧ w.cell? (ad.add k) = some (.string xs[k]) :=
  reads_at h k _ (by rw [List.getElem?_map, List.getElem?_eq_getElem hk]; rfl)

end Go.Proofs.YteffiedolcjjlaaGreat.Tx
/- Texts cut at a sign, and joined: plain lists, no Go in it. -/
namespace Go.Proofs.YteffiedolcjjlaaGreat.Tx

/-- A text cut at every such sign: one piece at least. -/
def splitL (g : UInt8) : List UInt8 → List (List UInt8)
  | [] => [[]]
  | c :: r => if c = g then [] :: splitL g r else match splitL g r with
    | [] => [[c]]
    | p :: ps => (c :: p) :: ps
/-- Texts with a sign between. -/
def joinL (g : UInt8) : List (List UInt8) → List UInt8
  | [] => []
  | [p] => p
  | p :: q :: r => p ++ g :: joinL g (q :: r)
/-- A name. -/
def nameB (s : List UInt8) : Bool := decide (1 ≤ s.length) && decide (s.length ≤ 64) && !(s == [46]) && !(s == [46, 46]) && s.all fun c => decide (33 ≤ c.toNat) && decide (c.toNat ≤ 126) && !(c == 47)
/-- A path. -/
def pathB (s : List UInt8) : Bool := decide (s.length ≤ 200) && (splitL 47 s).all nameB && decide ((splitL 47 s).length ≤ 8)
end Go.Proofs.YteffiedolcjjlaaGreat.Tx
/- marref.Split. -/
namespace Go.Proofs.YteffiedolcjjlaaGreat.Tx
open Go.RowKit Go.Proofs.YteffiedolcjjlaaGreat.Sh

end Go.Proofs.YteffiedolcjjlaaGreat.Tx
/- The reference's Name, Path, Split. -/
namespace Go.Proofs.YteffiedolcjjlaaGreat.Tx
open Go.RowKit Go.Proofs.YteffiedolcjjlaaGreat.Sh

def okc (c : UInt8) : Bool := decide (33 ≤ c.toNat) && decide (c.toNat ≤ 126) && !(c == 47)
theorem nameB_eq (s : List UInt8) : nameB s = (decide (1 ≤ s.length) && decide (s.length ≤ 64) && !(s == [46]) && !(s == [46, 46]) && s.all okc) := rfl
theorem nameB_bad {s : List UInt8} {k : Nat} {c : UInt8} (h : s[k]? = some c) (hc : okc c = false) : nameB s = false := by
  rw [nameB_eq]
  have : s.all okc = false := by
    rw [List.all_eq_false]
    exact ⟨c, List.mem_of_getElem? h, by rw [hc]; decide⟩
  rw [this, Bool.and_false]
theorem nameB_good {s : List UInt8} (h1 : 1 ≤ s.length) (h2 : s.length ≤ 64) (h3 : (s == [46]) = false) (h4 : (s == [46, 46]) = false) (h : ∀ (j : Nat) (c : UInt8), s[j]? = some c → okc c = true) : nameB s = true := by
  rw [nameB_eq, h3, h4]
  have : s.all okc = true := by
    rw [List.all_eq_true]
    intro x hx
    obtain ⟨i, hi⟩ := List.getElem?_of_mem hx
    exact h i x hi
  rw [this]
  simp [h1, h2]
theorem okc_cases (c : UInt8) : (okc c = false ∧ bi c < 33) ∨ (okc c = false ∧ 33 ≤ bi c ∧ 126 < bi c) ∨ (okc c = false ∧ 33 ≤ bi c ∧ bi c ≤ 126 ∧ c = 47) ∨ (okc c = true ∧ 33 ≤ bi c ∧ bi c ≤ 126 ∧ (bi c == 47) = false) := by
  have e : bi c = (c.toNat : Int) := by unfold bi; rfl
  rw [e]
  unfold okc
  by_cases h1 : c.toNat < 33
  · left; constructor
    · simp; omega
    · omega
  · by_cases h2 : 126 < c.toNat
    · right; left; refine ⟨by simp; omega, by omega, by omega⟩
    · by_cases h3 : c = 47
      · right; right; left; subst h3; exact ⟨by decide, by decide, by decide, rfl⟩
      · right; right; right
        refine ⟨by simp; exact ⟨⟨by omega, by omega⟩, h3⟩, by omega, by omega, ?_⟩
        rw [beq_eq_false_iff_ne]
        intro h
        exact h3 (UInt8.toNat_inj.1 (by show c.toNat = 47; omega))
theorem list_other {a b : List UInt8} (h : a ≠ b) : (a == b) = false := by simpa using h

end Go.Proofs.YteffiedolcjjlaaGreat.Tx
/- Package names: Name; wire.Has. -/
namespace Go.Proofs.YteffiedolcjjlaaGreat.Tx
open Go.RowKit Go.Proofs.YteffiedolcjjlaaGreat.Sh

theorem list_other_ {a b : List UInt8} (h : a ≠ b) : (a == b) = false := by simpa using h
theorem text_there_ {b : List UInt8} (h : 0 < b.length) : (str b).toList.isEmpty = false ∧ ((str b).toList == []) = false := by
  rw [str_toList]
  cases b with
  | nil => simp at h
  | cons c r => exact ⟨rfl, rfl⟩
set_option maxRecDepth 100000 in
set_option maxHeartbeats 1600000 in
theorem cname_any (cs : List UInt8) (w : World) : Calls Tryz.prog 175 #[.string (str cs)] w fun e w' => e = .returned (.bool (nameB cs)) ∧ w = w' := by
  have hsz := str_size cs
  have htl := str_toList cs
  obtain ⟨l, hL⟩ : ∃ l, cs.length = l := ⟨_, rfl⟩
  rw [hL] at hsz
  have HL := Lib.hid hL
  have n0 : (0 : Int) ≤ (l : Int) := by omega
  clear hL
  rcases Nat.eq_zero_or_pos l with h1 | h1
  · have HR : Hid (nameB cs = false) := by
      unfold Hid
      rw [nameB_eq, HL.out]
      simp [h1]
    have e0 : (str cs).toList.isEmpty = true := by
      have : cs = [] := List.eq_nil_of_length_eq_zero (by rw [HL.out]; exact h1)
      rw [htl, this]; rfl
    have e0' : ((str cs).toList == []) = true := by
      have : cs = [] := List.eq_nil_of_length_eq_zero (by rw [HL.out]; exact h1)
      rw [htl, this]; rfl
    clear htl h1 n0
    go_enter Tryz.func175, Tryz.ntmps175
    go_wp2
    go_ret
    exact ⟨by rw [HR.out]; rfl, rfl⟩
  · obtain ⟨e0, e0'⟩ : (str cs).toList.isEmpty = false ∧ ((str cs).toList == []) = false := text_there_ (by rw [HL.out]; exact h1)
    have z1 : (1 : Int) ≤ (l : Int) := by omega
    by_cases h3 : cs = [46]
    · have HR : Hid (nameB cs = false) := by subst h3; rfl
      have e1 : ((str cs).toList == [46]) = true := by rw [htl, h3]; rfl
      clear htl h3
      go_enter Tryz.func175, Tryz.ntmps175
      go_wp2
      go_ret
      exact ⟨by rw [HR.out]; rfl, rfl⟩
    · have e1 : ((str cs).toList == [46]) = false := by rw [htl]; exact list_other_ h3
      by_cases h4 : cs = [46, 46]
      · have HR : Hid (nameB cs = false) := by subst h4; rfl
        have e2 : ((str cs).toList == [46, 46]) = true := by rw [htl, h4]; rfl
        clear htl h3 h4
        go_enter Tryz.func175, Tryz.ntmps175
        go_wp2
        go_ret
        exact ⟨by rw [HR.out]; rfl, rfl⟩
      · have e2 : ((str cs).toList == [46, 46]) = false := by rw [htl]; exact list_other_ h4
        have H3 := Lib.hid h3
        have H4 := Lib.hid h4
        clear htl h3 h4
        by_cases h2 : 64 < l
        · have HR : Hid (nameB cs = false) := by
            unfold Hid
            rw [nameB_eq, HL.out]
            simp [show ¬ (l ≤ 64) from by omega]
          have z2 : (64 : Int) < (l : Int) := by omega
          go_enter Tryz.func175, Tryz.ntmps175
          go_wp2
          go_ret
          exact ⟨by rw [HR.out]; rfl, rfl⟩
        · have z2 : (l : Int) ≤ 64 := by omega
          go_enter Tryz.func175, Tryz.ntmps175
          go_wp2
          clear e0 e0' e1 e2
          go_loop [21] (fun i => ∃ k : Nat, k ≤ l ∧ i = .int .i64 k ∧ ∀ (j : Nat) (c : UInt8), j < k → cs[j]? = some c → okc c = true) (fun i => l - (intOf i).toNat)
          case atStart => exact ⟨0, by omega, rfl, fun j c hj => by omega⟩
          case round =>
            obtain ⟨k, hk, rfl, hok⟩ := hrel
            have HOK := Lib.hid hok
            clear hok
            have k0 : (0 : Int) ≤ (k : Int) := by omega
            by_cases hlt : k < l
            · have k1 : (k : Int) < (l : Int) := by omega
              have hkc : k < cs.length := by rw [HL.out]; exact hlt
              have hix := index_str cs k hkc
              obtain ⟨x, hx⟩ : ∃ x, cs.getD k 0 = x := ⟨_, rfl⟩
              have hx' : cs[k]? = some x := by rw [← hx, List.getD_eq_getElem?_getD, List.getElem?_eq_getElem hkc]; rfl
              rw [hx] at hix
              have HX := Lib.hid hx'
              clear hx hx' hkc
              rcases okc_cases x with ⟨ho, c1⟩ | ⟨ho, c1, c2⟩ | ⟨ho, c1, c2, c3⟩ | ⟨ho, c1, c2, c3⟩
              · have HR : Hid (nameB cs = false) := nameB_bad HX.out ho
                clear ho
                generalize bi x = y at *
                go_wp2
                go_ret
                exact ⟨by rw [HR.out]; rfl, rfl⟩
              · have HR : Hid (nameB cs = false) := nameB_bad HX.out ho
                clear ho
                generalize bi x = y at *
                go_wp2
                go_ret
                exact ⟨by rw [HR.out]; rfl, rfl⟩
              · have HR : Hid (nameB cs = false) := nameB_bad HX.out ho
                have hy : bi x = 47 := by subst c3; unfold bi; rfl
                rw [hy] at hix c1 c2
                clear ho c3 hy
                go_wp2
                go_ret
                exact ⟨by rw [HR.out]; rfl, rfl⟩
              · have HO := Lib.hid ho
                clear ho
                generalize bi x = y at *
                go_wp2
                go_round
                case rel =>
                  refine ⟨k + 1, by omega, by go_num, fun j c hj hc => ?_⟩
                  by_cases e : j = k
                  · subst e; rw [HX.out] at hc; injection hc with hc; subst hc; exact HO.out
                  · exact HOK.out j c (by omega) hc
                case measure => simp [intOf]; omega
            · have HR : Hid (nameB cs = true) := by
                unfold Hid
                refine nameB_good (by rw [HL.out]; omega) (by rw [HL.out]; omega) (list_other_ H3.out) (list_other_ H4.out) (fun j c hc => HOK.out j c ?_ hc)
                have := (List.getElem?_eq_some_iff.1 hc).1
                rw [HL.out] at this
                omega
              obtain rfl : k = l := by omega
              go_wp2
              go_ret
              exact ⟨by rw [HR.out]; rfl, rfl⟩
theorem add_field' (x : Addr) (m j : Nat) (hj : 0 < j) : x.add (m + j) = ⟨(x.add m).block, (x.add m).off + j, none⟩ := by
  unfold Addr.add
  by_cases hm : m = 0
  · subst hm
    rw [if_neg (by omega)]
    simp
  · rw [if_neg (by omega), if_neg hm]
    simp [Nat.add_assoc]
theorem toList_ne' {s t : ByteArray} (h : t ≠ s) : (t.toList == s.toList) = false := by
  rw [beq_eq_false_iff_ne]
  intro e
  rw [ByteArray.toList_eq, ByteArray.toList_eq] at e
  exact h (ByteArray.ext (Array.toList_inj.1 e))
end Go.Proofs.YteffiedolcjjlaaGreat.Tx
/- Texts in order: plain lists. -/
namespace Go.Proofs.YteffiedolcjjlaaGreat.Tx

/-- Does a stand before b? -/
abbrev bl (a b : List UInt8) : Bool := Op.bytesLess a b
theorem bl_nil (b : List UInt8) : bl b [] = false := by cases b <;> rfl
theorem bl_cons (x y : UInt8) (a b : List UInt8) : bl (x :: a) (y :: b) = (decide (x < y) || (x == y && bl a b)) := by
  show Op.bytesLess _ _ = _
  rw [Op.bytesLess]
theorem bl_irr (a : List UInt8) : bl a a = false := by
  induction a with
  | nil => rfl
  | cons x a ih => rw [bl_cons, ih]; simp
theorem u8_tri (x y : UInt8) : x < y ∨ x = y ∨ y < x := by
  rcases Nat.lt_trichotomy x.toNat y.toNat with h | h | h
  · exact .inl h
  · exact .inr (.inl (UInt8.toNat_inj.1 h))
  · exact .inr (.inr h)
theorem u8_nlt {x y : UInt8} (h : x < y) : ¬ y < x ∧ x ≠ y := by
  have h' : x.toNat < y.toNat := h
  exact ⟨fun h2 => by have : y.toNat < x.toNat := h2; omega, fun e => by subst e; omega⟩
theorem bl_tri (a : List UInt8) : ∀ b : List UInt8, bl a b = true ∨ a = b ∨ bl b a = true := by
  induction a with
  | nil => intro b; cases b with | nil => exact .inr (.inl rfl) | cons y b => exact .inl rfl
  | cons x a ih =>
    intro b
    cases b with
    | nil => exact .inr (.inr rfl)
    | cons y b =>
      rw [bl_cons, bl_cons]
      rcases u8_tri x y with h | h | h
      · left; simp [h]
      · subst h
        rcases ih b with h | h | h
        · left; rw [h]; simp
        · right; left; rw [h]
        · right; right; rw [h]; simp
      · right; right; simp [h]
theorem bl_asymm (a : List UInt8) : ∀ b : List UInt8, bl a b = true → bl b a = false := by
  induction a with
  | nil => intro b _; exact bl_nil b
  | cons x a ih =>
    intro b h
    cases b with
    | nil => rw [bl_nil] at h; cases h
    | cons y b =>
      rw [bl_cons] at h ⊢
      rcases u8_tri x y with h1 | h1 | h1
      · have := u8_nlt h1
        simp [this.1]
        intro e; exact absurd e.symm this.2
      · subst h1
        have hb : bl a b = true := by simpa using h
        rw [ih b hb]
        simp
      · have := u8_nlt h1
        simp [this.1, this.2.symm] at h
/-- Compare. -/
def cmpL (a b : List UInt8) : Int := if bl a b then -1 else if a = b then 0 else 1
end Go.Proofs.YteffiedolcjjlaaGreat.Tx
/- Bytes, as slices of one-cell values; appended to, and made a text. (No package's code in it.) -/
namespace Go.Proofs.YteffiedolcjjlaaGreat.Tx
open Go.RowKit Go.Proofs.YteffiedolcjjlaaGreat.Sh

/-- A byte, as a value. -/
def bv (u : UInt8) : Value := .int .u8 (bi u)
theorem bv_one (l : List UInt8) : ∀ u ∈ l.map bv, u.oneCell' = true := by intro u hu; simp only [List.mem_map] at hu; obtain ⟨x, _, rfl⟩ := hu; rfl
theorem info_u8 : (Tryz.prog.info? 5).map (fun i => (i.zero, i.size, i.bytes)) = some (some (.int .u8 0), 1, 1) := by kernel_rfl
theorem append_bytes {ops : Array Oper} {rest : List Oper} {o : Oper} {a : Act} {Q : Exit → Act → World → Prop} (hgd : o.guard = none) (s x : Operand)
    (ho : o.op = .call { callee := .builtin .append, args := #[s, x], argTypes := #[51, 51] }) (w : World) (B : Nat) (v : Value) (bs : List UInt8) (hs : a.eval s = v) (hown : OwnV 5 w B v (bs.map bv))
    (B' : Nat) (A : Option Addr) (m c : Nat) (us : List UInt8) (hx : a.eval x = .slice A m c) (hr : Reads w B' 1 A m (us.map bv)) (hsmall : bs.length + m ≤ 140737488355328) (hB : B ≤ w.heap.size)
    (h : ∀ v' w', OwnV 5 w' B v' ((bs ++ us).map bv) → Below B w w' → wpList Tryz.prog ops Q rest (a.put o.dst v') w') : wpList Tryz.prog ops Q (o :: rest) a w := by
  obtain ⟨i0, hi, hz0, hz1, hz2⟩ := info_parts info_u8
  have hm : us.length = m := by have := hr.1; simpa using this
  have hown' : w.ownsRow B 5 1 v bs.length (bs.map bv) := by have := hown; unfold OwnV at this; rwa [List.length_map] at this
  refine wpList_append_any w hgd s x 51 ho B 5 i0 (.int .u8 0) 1 1 Tryz.underlying51 hi hz0 hz1 hz2 rfl (by decide) v bs.length _ hs hown' B' A m c _ hx hr (bv_one us) (by unfold maxLen; omega) (by omega) hB ?_
  intro v' w' h1 h2 _
  refine h v' w' ?_ ((Below.refl _ _).grown h2 hB (fun k hk => (hown'.lt k hk).1))
  unfold OwnV
  rw [List.length_map, List.length_append, hm, List.map_append]
  exact h1
theorem append_byte {ops : Array Oper} {rest : List Oper} {o : Oper} {a : Act} {Q : Exit → Act → World → Prop} (hgd : o.guard = none) (s x : Operand)
    (ho : o.op = .call { callee := .builtin .append, args := #[s, x], argTypes := #[51, 51] }) (w : World) (B : Nat) (v : Value) (bs : List UInt8) (hs : a.eval s = v) (hown : OwnV 5 w B v (bs.map bv))
    (k : Int) (u : UInt8) (hu : bi u = k) (hx : a.eval x = .slice (some ⟨w.heap.size, 0, none⟩) 1 1) (hsmall : bs.length + 1 ≤ 140737488355328) (hB : B ≤ w.heap.size)
    (h : ∀ v' w', OwnV 5 w' B v' ((bs ++ [u]).map bv) → Below B w w' → wpList Tryz.prog ops Q rest (a.put o.dst v') w') : wpList Tryz.prog ops Q (o :: rest) a (w.alloc (.cells #[.int .u8 k] 5)) := by
  subst hu
  have hr : Reads (w.alloc (.cells #[.int .u8 (bi u)] 5)) (w.heap.size + 1) 1 (some ⟨w.heap.size, 0, none⟩) 1 ([u].map bv) := by
    refine ⟨rfl, fun _ => ⟨_, rfl, by simp, fun j v hv => ?_⟩⟩
    rw [Addr.add_mid, cell_of_row _ _ _ _ 5 (0, 0) (heap_alloc_new w _), Nat.zero_add, ← hv]
    simp [bv]
  refine append_bytes hgd s x ho _ B v bs hs (hown.alloc _) _ _ 1 1 [u] hx hr hsmall (by simp; omega) ?_
  intro v' w' h1 h2
  exact h v' w' h1 (((Below.refl _ _).alloc hB _).trans h2)
theorem str_push (ns : List UInt8) : ∀ base : List UInt8, ((ns.map bi).foldl (fun r n => r.push (UInt8.ofNat n.toNat)) (str base)) = str (base ++ ns) := by
  induction ns with
  | nil => intro base; simp
  | cons n ns ih =>
    intro base
    have e : (str base).push (UInt8.ofNat (bi n).toNat) = str (base ++ [n]) := by
      have h : UInt8.ofNat (bi n).toNat = n := by rw [bi_nat]; simp
      rw [h]
      unfold str ByteArray.push
      simp
    rw [List.map_cons, List.foldl_cons, e, ih]
    simp
set_option maxRecDepth 100000 in
/-- 'string(b)'. -/
theorem conv_str (w : World) (A : Option Addr) (bs : List UInt8) (n c : Nat) (hn : bs.length = n) (h : SlV w (.slice A n c) (bs.map bv)) :
    (convert 51 9 (.slice A n c)).run Tryz.prog w = .ok (.string (str bs)) w := by
  subst hn
  obtain ⟨A', c', hv, _, _, hr, hA⟩ := h
  injection hv with e1 e2 e3
  subst e1 e3
  rw [run_convert_bytes_string w 51 9 5 A bs.length c Tryz.underlying51 Tryz.underlying5 Tryz.underlying9]
  rcases A with _ | ad
  · have h0 : bs = [] := by simpa using hA rfl
    subst h0
    simp [Conv.bytesToString, Sem.run_pure, str]
    rfl
  · have hl : (loadCells ad bs.length).run Tryz.prog w = .ok ((bs.map bi).map (Value.int .u8)).toArray w := by
      have := run_loadCells_list (P := Tryz.prog) w ad (bs.map bv) (fun j v hv => by
        obtain ⟨ad', e, hc⟩ := reads_at hr j v hv
        injection e with e
        rw [e]
        exact hc)
      have e : (bs.map bi).map (Value.int .u8) = bs.map bv := by rw [List.map_map]; rfl
      rw [e]
      simpa using this
    rw [run_bytesToString w ad bs.length c _ hl]
    have := str_push bs []
    rw [List.nil_append] at this
    have e0 : ByteArray.empty = str [] := rfl
    rw [e0, this]
end Go.Proofs.YteffiedolcjjlaaGreat.Tx
/- Objects: plain, and as values. -/
namespace Go.Proofs.YteffiedolcjjlaaGreat.Ob
open Go.RowKit Go.Proofs.YteffiedolcjjlaaGreat.Sh
open Go.Proofs.YteffiedolcjjlaaGreat.Tx (OwnV SlV sv bl nameB reads_at texts_at toList_ne')

/-- An item: its mode, its name, its hash. -/
abbrev ItM := Int × List UInt8 × List UInt8
/-- An object. -/
structure ObM where
  kind : Int
  data : List UInt8
  items : List ItM
  tree : List UInt8
  parents : List (List UInt8)
  stamp : Int
  author : Int
  msg : List UInt8
def itC (x : ItM) : List Value := [.int .i64 x.1, .string (str x.2.1), .string (str x.2.2)]
theorem itC_one (l : List ItM) : ∀ u ∈ l.flatMap itC, u.oneCell' = true := by
  intro u hu
  rw [List.mem_flatMap] at hu
  obtain ⟨x, _, hx⟩ := hu
  simp [itC] at hx
  rcases hx with rfl | rfl | rfl <;> rfl
theorem itC_at (l : List ItM) : ∀ (k : Nat) (x : ItM), l[k]? = some x → (l.flatMap itC)[k * 3]? = some (.int .i64 x.1) ∧ (l.flatMap itC)[k * 3 + 1]? = some (.string (str x.2.1)) ∧ (l.flatMap itC)[k * 3 + 2]? = some (.string (str x.2.2)) := by
  induction l with
  | nil => intro k x h; simp at h
  | cons y l ih =>
    intro k x h
    cases k with
    | zero =>
      simp at h
      subst h
      exact ⟨rfl, rfl, rfl⟩
    | succ k =>
      obtain ⟨h0, h1, h2⟩ := ih k x (by simpa using h)
      have e : ∀ j, ((y :: l).flatMap itC)[(k + 1) * 3 + j]? = (l.flatMap itC)[k * 3 + j]? := by
        intro j
        rw [List.flatMap_cons, List.getElem?_append_right (by simp [itC]; omega)]
        congr 1
        simp [itC]
        omega
      exact ⟨(e 0).trans h0, (e 1).trans h1, (e 2).trans h2⟩
/-- v is a slice that reads as the items l. -/
def SlI (w : World) (v : Value) (l : List ItM) : Prop := ∃ A c, v = .slice A l.length c ∧ l.length ≤ c ∧ c ≤ maxLen ∧ (A = none → l = []) ∧ Reads w w.heap.size 3 A l.length (l.flatMap itC)
def OwnI (T : TypeId) (w : World) (B : Nat) (v : Value) (l : List ItM) : Prop := w.ownsRow B T 3 v l.length (l.flatMap itC)
section
variable {T : TypeId} {w w' : World} {B : Nat} {v : Value} {l : List ItM}
theorem SlI.below (h : SlI w v l) (hb : Below w.heap.size w w') : SlI w' v l := by
  obtain ⟨A, c, hv, h1, h2, h3, h4⟩ := h
  exact ⟨A, c, hv, h1, h2, h3, (h4.below hb).more hb.size⟩
theorem SlI.nil_ (w : World) : SlI w (.slice none 0 0) [] := ⟨none, 0, rfl, by simp, by unfold maxLen; omega, fun _ => rfl, ⟨by simp, fun h => absurd h (by simp)⟩⟩
theorem items_at {A : Option Addr} {n : Nat} (h : Reads w B 3 A n (l.flatMap itC)) (hn : n = l.length) (k : Nat) (x : ItM) (hk : l[k]? = some x) :
    ∃ ad, A = some ad ∧ w.cell? (ad.add (k * 3)) = some (.int .i64 x.1) ∧ w.cell? ⟨(ad.add (k * 3)).block, (ad.add (k * 3)).off + 1, none⟩ = some (.string (str x.2.1)) ∧ w.cell? ⟨(ad.add (k * 3)).block, (ad.add (k * 3)).off + 2, none⟩ = some (.string (str x.2.2)) := by
  have hl : k < l.length := (List.getElem?_eq_some_iff.1 hk).1
  obtain ⟨ad, e, _, hc⟩ := h.2 (by omega)
  obtain ⟨h0, h1, h2⟩ := itC_at l k x hk
  refine ⟨ad, e, hc _ _ h0, ?_, ?_⟩
  · rw [← Tx.add_field' ad (k * 3) 1 (by omega)]
    exact hc _ _ h1
  · rw [← Tx.add_field' ad (k * 3) 2 (by omega)]
    exact hc _ _ h2
theorem OwnI.nil_ (T : TypeId) (w : World) (B : Nat) : OwnI T w B (.slice none 0 0) [] := World.ownsRow_nil w B T 3
theorem OwnI.alloc (h : OwnI T w B v l) (o : Obj) : OwnI T (w.alloc o) B v l := World.ownsRow.alloc h o
theorem OwnI.drew (h : OwnI T w B v l) : OwnI T w.drew B v l := h
theorem OwnI.below (h : OwnI T w B v l) (hb : Below w.heap.size w w') : OwnI T w' B v l :=
  World.ownsRow.kept h (only_of_below hb none) (by cases hv : v.ownBlock <;> simp)
theorem OwnI.lt (h : OwnI T w B v l) (k : Nat) (hk : v.ownBlock = some k) : B ≤ k ∧ k < w.heap.size := World.ownsRow.lt h k hk
theorem OwnI.base {B' : Nat} (h : OwnI T w B v l) (hB : B' ≤ B) : OwnI T w B' v l := by
  refine ⟨h.1, ?_⟩
  rcases h.2 with h0 | ⟨g, cap, cur, hv, hb, rest⟩
  · exact .inl h0
  · exact .inr ⟨g, cap, cur, hv, by omega, rest⟩
theorem OwnI.slI (h : OwnI T w B v l) : SlI w v l := by
  rcases h.2 with ⟨rfl, h0⟩ | ⟨g, cap, cur, rfl, hb, hg, hc, hm, hcs, htk⟩
  · have : l = [] := List.eq_nil_of_length_eq_zero h0
    subst this
    exact SlI.nil_ w
  · have hr := Reads.of_own (show w.ownsRow B T 3 (.slice (some ⟨g, 0, none⟩) l.length cap) l.length (l.flatMap itC) from h)
    exact ⟨_, cap, rfl, hc, hm, (fun e => by cases e), hr⟩
end
/-- v is an object's value. -/
def ObV (w : World) (v : Value) (o : ObM) : Prop := ∃ d it ps, v = .agg #[.int .i64 o.kind, d, it, .string (str o.tree), ps, .int .i64 o.stamp, .int .i64 o.author, .string (str o.msg)] ∧ Sl w d o.data ∧ SlI w it o.items ∧ SlV w ps ((o.parents.map str).map sv)
theorem ObV.below {w w' : World} {v : Value} {o : ObM} (h : ObV w v o) (hb : Below w.heap.size w w') : ObV w' v o := by
  obtain ⟨d, it, ps, hv, h1, h2, h3⟩ := h
  exact ⟨d, it, ps, hv, h1.below hb, h2.below hb, h3.below hb⟩
/-- What a call that answers a bool leaves. -/
def BoolPost (w : World) (t : Bool) (e : Ending) (w' : World) : Prop := e = .returned (.bool t) ∧ Below w.heap.size w w'
end Go.Proofs.YteffiedolcjjlaaGreat.Ob
