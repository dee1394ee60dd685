/- Texts put together: YShN3, YTx0. -/
import Derived.Test.YtodlaikemoedfaaQp16
import Derived.Test.YtodlaikemoedfaaRows
import Derived.Test.YtodlaikemoedfaaQp01
import Derived.WalkKit
import Derived.ProofKit
import Derived.OpenShut
import Derived.BigQuiet
import Derived.Deep.QuietTactic
import Derived.Lib.Hide
import Derived.Deep.RegionWith
import Derived.StillTailTactics
import Derived.Deep.DeepFit
import Derived.Deep.WholeRow
import Derived.Deep.MidRow
import Derived.Deep.AppendLies
import Derived.Deep.Draws
import Derived.Maps.AppendAt
import Derived.Deep.RegionHeld3
import Derived.Deep.OwnRows
import Derived.Laws.BytesString
import Derived.ShutString
import Derived.ChangeOld
import Derived.SliceStrings
import Derived.WalkLawsBesides
import Derived.WalkSpells
/- wire's Get, whole. -/
namespace Go.Proofs.Ytodlaikemoedfaa.Sh
open Go.RowKit

set_option maxRecDepth 100000 in
set_option maxHeartbeats 800000 in
theorem get_any (v : Value) (bs : List UInt8) (i a b c : Int) (w : World) (h : Sl w v bs) (hr : getR bs i = (a, b, c)) :
    Calls Try.prog 63 #[v, .int .i64 i] w fun e w' => e = .returned (.tuple #[.int .i64 a, .int .i64 b, .int .i64 c]) ∧ w = w' := by
  obtain ⟨A, cp, rfl, hl, hcm, hI⟩ := h.len
  have hl2 := hl
  unfold maxLen at hcm
  by_cases h0 : i < 0
  · obtain ⟨rfl, rfl, rfl⟩ : 0 = a ∧ 0 = b ∧ 1 = c := by rw [getR_range (Or.inl h0)] at hr; injection hr with h1 h2; injection h2 with h2 h3; exact ⟨h1, h2, h3⟩
    clear hr hI h
    obtain ⟨l, hL⟩ : ∃ l, bs.length = l := ⟨_, rfl⟩
    rw [hL] at hl ⊢
    clear hL hl2
    go_enter Try.func63, Try.ntmps63
    go_wp2
    go_ret3
    exact ⟨rfl, rfl⟩
  · by_cases h1 : (bs.length : Int) < i
    · obtain ⟨rfl, rfl, rfl⟩ : 0 = a ∧ 0 = b ∧ 1 = c := by rw [getR_range (Or.inr h1)] at hr; injection hr with h1 h2; injection h2 with h2 h3; exact ⟨h1, h2, h3⟩
      clear hr hI h
      have h0' : 0 ≤ i := by omega
      obtain ⟨l, hL⟩ : ∃ l, bs.length = l := ⟨_, rfl⟩
      rw [hL] at hl h1 ⊢
      clear hL hl2 h0
      go_enter Try.func63, Try.ntmps63
      go_wp2
      go_ret3
      exact ⟨rfl, rfl⟩
    · obtain ⟨k, rfl⟩ := Int.eq_ofNat_of_zero_le (show 0 ≤ i by omega)
      have hk : k ≤ bs.length := by omega
      obtain ⟨T, hT⟩ : ∃ T, (if cp = k then A else A.map (·.add k)) = T := ⟨_, rfl⟩
      have hIT : In w T (bs.drop k) := hI.cut k T (fun hlt ad hA => by rw [← hT, if_neg (by omega), hA]; rfl)
      have hlt : (bs.drop k).length = bs.length - k := List.length_drop
      by_cases hs : cont (bs.drop k) = (bs.drop k).length
      · obtain ⟨rfl, rfl, rfl⟩ : 0 = a ∧ 0 = b ∧ 2 = c := by rw [getR_short hk hs] at hr; injection hr with h1 h2; injection h2 with h2 h3; exact ⟨h1, h2, h3⟩
        have hc := size_no T (cp - k) (bs.drop k) w hIT (by omega) (by unfold maxLen; omega) hs
        rw [hlt] at hc
        obtain ⟨l, hL⟩ : ∃ l, bs.length = l := ⟨_, rfl⟩
        rw [hL] at hl h1 hk hc ⊢
        have HC := Lib.hid hc
        have HT := Lib.hid hT
        clear hL hl2 h0 hr hI h hc hs hlt hIT hT
        have k0 : (k : Int) ≤ (l : Int) := by omega
        have k1 : (l : Int) ≤ (cp : Int) := by omega
        by_cases hck : cp = k
        · have hT' := HT.out
          rw [if_pos hck] at hT'
          rw [← hT', hck, Nat.sub_self, show l - k = 0 from by omega] at HC
          subst hck
          clear hT' HT
          go_enter Try.func63, Try.ntmps63
          go_wp2_with fail
          refine HC.out.mono ?_
          rintro e w' ⟨rfl, rfl⟩
          go_wp2
          go_ret3
          exact ⟨rfl, rfl⟩
        · have hT' := HT.out
          rw [if_neg hck] at hT'
          rw [← hT'] at HC
          clear hT' HT
          go_enter Try.func63, Try.ntmps63
          go_wp2_with fail
          refine HC.out.mono ?_
          rintro e w' ⟨rfl, rfl⟩
          go_wp2
          go_ret3
          exact ⟨rfl, rfl⟩
      · have hlt2 : cont (bs.drop k) < (bs.drop k).length := by have := cont_le (bs.drop k); omega
        have hc := size_yes T (cp - k) (bs.drop k) w hIT (by omega) (by unfold maxLen; omega) hlt2
        obtain ⟨hsh, hgl⟩ := cont_take hlt2
        have hIG : In w T ((bs.drop k).take (cont (bs.drop k) + 1)) := hIT.take _
        have hok : okL ((bs.drop k).take (cont (bs.drop k) + 1)) = true → ((valL ((bs.drop k).take (cont (bs.drop k) + 1)) : Nat) : Int) = a ∧ (k : Int) + ((cont (bs.drop k) : Int) + 1) = b ∧ 0 = c := fun ho => by
          rw [getR_ok hk hlt2 ho] at hr; injection hr with h1 h2; injection h2 with h2 h3; exact ⟨h1, h2, h3⟩
        have hno : okL ((bs.drop k).take (cont (bs.drop k) + 1)) = false → 0 = a ∧ 0 = b ∧ 4 = c := fun ho => by
          rw [getR_form hk hlt2 ho] at hr; injection hr with h1 h2; injection h2 with h2 h3; exact ⟨h1, h2, h3⟩
        have hrc : ∃ (n : Int) (t : Bool), (Calls Try.prog 75 #[.slice T (cont (bs.drop k) + 1) (cp - k)] w fun e w' => e = .returned (.tuple #[.int .i64 n, .bool t]) ∧ w = w') ∧
            ((t = true ∧ n = a ∧ (k : Int) + ((cont (bs.drop k) : Int) + 1) = b ∧ 0 = c) ∨ (t = false ∧ 0 = a ∧ 0 = b ∧ 4 = c)) := by
          generalize cont (bs.drop k) = m at *
          generalize (bs.drop k).take (m + 1) = g at *
          by_cases h9 : 9 < g.length
          · refine ⟨0, false, ?_, Or.inr ⟨rfl, hno (okL_long h9)⟩⟩
            exact read_long T (cp - k) (m + 1) w (by omega) (by unfold maxLen; omega) (by omega)
          · by_cases hz : g.length = 1 ∨ g.getD (g.length - 1) 0 ≠ 0
            · have hre := read_else T (cp - k) g w hIG (by omega) (by unfold maxLen; omega) ⟨by omega, by omega, hz⟩
              have hoe := okL_else hsh hz
              rw [hgl] at hre
              refine ⟨_, _, hre, ?_⟩
              by_cases hv : valL g ≤ 72057594037927936
              · left
                rw [decide_eq_true hv] at hoe
                exact ⟨decide_eq_true (by omega), hok hoe⟩
              · right
                rw [decide_eq_false hv] at hoe
                exact ⟨decide_eq_false (by omega), hno hoe⟩
            · have h1 : 1 < g.length := by omega
              have hz' : g.getD (g.length - 1) 0 = 0 := by
                rcases Decidable.em (g.getD (g.length - 1) 0 = 0) with e | e
                · exact e
                · exact absurd (Or.inr e) hz
              have hre := read_zero T (cp - k) g w hIG (by omega) h1 hz'
              rw [hgl] at hre
              exact ⟨0, false, hre, Or.inr ⟨rfl, hno (okL_zero h1 hz')⟩⟩
        obtain ⟨n, t, hre, hcase⟩ := hrc
        have hml : cont (bs.drop k) < bs.length - k := by omega
        generalize cont (bs.drop k) = m at *
        rw [hlt] at hc
        obtain ⟨l, hL⟩ : ∃ l, bs.length = l := ⟨_, rfl⟩
        rw [hL] at hl h1 hk hc hml ⊢
        have HC := Lib.hid hc
        have HR := Lib.hid hre
        rw [← hT, if_neg (show ¬ cp = k by omega)] at HC HR
        clear hL hl2 h0 hr hI h hc hs hlt hIT hT hre hok hno hIG hsh hgl hlt2
        have k0 : (k : Int) ≤ (l : Int) := by omega
        have k1 : (l : Int) ≤ (cp : Int) := by omega
        have k2 : (k : Int) + ((m : Int) + 1) ≤ (l : Int) := by omega
        have e1 : ((k : Int) + ((m : Int) + 1)).toNat = k + (m + 1) := by omega
        have e2 : k + (m + 1) - k = m + 1 := by omega
        go_enter Try.func63, Try.ntmps63
        go_wp2_with fail
        refine HC.out.mono ?_
        rintro e w' ⟨rfl, rfl⟩
        go_wp2_with fail
        refine HR.out.mono ?_
        rintro e w' ⟨rfl, rfl⟩
        clear e1 e2
        rcases hcase with ⟨rfl, rfl, rfl, rfl⟩ | ⟨rfl, rfl, rfl, rfl⟩
        · go_wp2
          go_ret3
          exact ⟨rfl, rfl⟩
        · go_wp2
          go_ret3
          exact ⟨rfl, rfl⟩
end Go.Proofs.Ytodlaikemoedfaa.Sh
/- Texts, and slices of one-cell values: of one's own, and such as came in. (No package's code in it.) -/
namespace Go.Proofs.Ytodlaikemoedfaa.Tx
open Go.RowKit Go.Proofs.Ytodlaikemoedfaa.Sh

/-- A byte's number. -/
def bi (u : UInt8) : Int := (u.toNat : Int)
theorem bi_lt (u : UInt8) : 0 ≤ bi u ∧ bi u ≤ 255 := by
  unfold bi; have := u.toNat_lt; omega
theorem bi_inj {a b : UInt8} (h : bi a = bi b) : a = b := by
  unfold bi at h; exact UInt8.toNat_inj.1 (by omega)
theorem bi_nat (u : UInt8) : bi u = (u.toNat : Int) := rfl
def str (bs : List UInt8) : ByteArray := ⟨bs.toArray⟩
theorem str_inj {a b : List UInt8} (h : str a = str b) : a = b := by
  unfold str at h
  injection h with h
  simpa using congrArg Array.toList h
theorem str_toList (bs : List UInt8) : (str bs).toList = bs := by
  rw [ByteArray.toList_eq]
  rfl
theorem str_size (cs : List UInt8) : (str cs).size = cs.length := by
  unfold str ByteArray.size
  simp
theorem index_str (cs : List UInt8) (k : Nat) (hk : k < cs.length) (w : World) : (Instr.index 9 (.string (str cs)) (.int .i64 (k : Int))).run Try.prog w = .ok (.int .u8 (bi (cs.getD k 0))) w := by
  have hsz := str_size cs
  have hg : (str cs)[k]? = some cs[k] := getElem?_pos (str cs) k (by rw [hsz]; exact hk)
  simp [Instr.index, go_sem]
  rw [hg, List.getElem?_eq_getElem hk]
  unfold bi
  rfl
attribute [irreducible] bi
def lenOf : Value → Nat
  | .slice _ n _ => n
  | _ => 0
/-- v is a slice of the call's own (its block from B on) that holds vs; E: its elements' type. -/
def OwnV (E : TypeId) (w : World) (B : Nat) (v : Value) (vs : List Value) : Prop := w.ownsRow B E 1 v vs.length vs
/-- v is a slice that reads as vs. -/
def SlV (w : World) (v : Value) (vs : List Value) : Prop := ∃ A c, v = .slice A vs.length c ∧ vs.length ≤ c ∧ c ≤ maxLen ∧ Reads w w.heap.size 1 A vs.length vs ∧ (A = none → vs = [])

section
variable {E : TypeId} {w w' : World} {B : Nat} {v : Value} {vs : List Value}
theorem SlV.below (h : SlV w v vs) (hb : Below w.heap.size w w') : SlV w' v vs := by
  obtain ⟨A, c, hv, h1, h2, h3, h4⟩ := h
  exact ⟨A, c, hv, h1, h2, (h3.below hb).more hb.size, h4⟩
theorem SlV.drew (h : SlV w v vs) : SlV w.drew v vs := h
theorem SlV.nil_ (w : World) : SlV w (.slice none 0 0) [] := ⟨none, 0, rfl, by simp, by unfold maxLen; omega, Reads.none_, fun _ => rfl⟩
theorem SlV.len (h : SlV w v vs) : ∃ A c, v = .slice A vs.length c ∧ vs.length ≤ c ∧ c ≤ maxLen ∧ Reads w w.heap.size 1 A vs.length vs := by
  obtain ⟨A, c, hv, h1, h2, h3, _⟩ := h
  exact ⟨A, c, hv, h1, h2, h3⟩
theorem reads_at {A : Option Addr} {n : Nat} (h : Reads w B 1 A n vs) (k : Nat) (u : Value) (hk : vs[k]? = some u) : ∃ ad, A = some ad ∧ w.cell? (ad.add k) = some u := by
  have hl : k < vs.length := (List.getElem?_eq_some_iff.1 hk).1
  obtain ⟨ad, e, _, hc⟩ := h.2 (by have := h.1; omega)
  exact ⟨ad, e, hc k u hk⟩
theorem OwnV.nil_ (w : World) (B : Nat) : OwnV E w B (.slice none 0 0) [] := World.ownsRow_nil w B E 1
theorem OwnV.alloc (h : OwnV E w B v vs) (o : Obj) : OwnV E (w.alloc o) B v vs := World.ownsRow.alloc h o
theorem OwnV.drew (h : OwnV E w B v vs) : OwnV E w.drew B v vs := h
theorem OwnV.drewN (h : OwnV E w B v vs) (n : Nat) : OwnV E (w.drewN n) B v vs := h
theorem OwnV.below (h : OwnV E w B v vs) (hb : Below w.heap.size w w') : OwnV E w' B v vs :=
  World.ownsRow.kept h (only_of_below hb none) (by cases hv : v.ownBlock <;> simp)
theorem OwnV.kept {row : Option Nat} (h : OwnV E w B v vs) (hg : w.grownBy w' row) (hne : v.ownBlock = none ∨ v.ownBlock ≠ row) : OwnV E w' B v vs := World.ownsRow.kept h hg hne
theorem OwnV.lt (h : OwnV E w B v vs) (k : Nat) (hk : v.ownBlock = some k) : B ≤ k ∧ k < w.heap.size := World.ownsRow.lt h k hk
theorem OwnV.length (h : OwnV E w B v vs) : ∃ A c, v = .slice A vs.length c ∧ vs.length ≤ c ∧ c ≤ maxLen := by
  rcases h.2 with ⟨rfl, h0⟩ | ⟨g, cap, cur, rfl, _, _, hc, hm, _⟩
  · exact ⟨none, 0, by rw [h0], by rw [h0]; exact Nat.zero_le _, by unfold maxLen; omega⟩
  · exact ⟨_, _, rfl, hc, hm⟩
/-- The row behind it. -/
theorem OwnV.blk (h : OwnV E w B v vs) : (v = .slice none 0 0 ∧ vs = []) ∨ ∃ g c cur, v = .slice (some ⟨g, 0, none⟩) vs.length c ∧ B ≤ g ∧ g < w.heap.size ∧ Blk w g E cur ∧ vs.length ≤ c ∧ c ≤ maxLen ∧ cur.size = c ∧ cur.toList.take vs.length = vs := by
  rcases h.2 with ⟨h1, h0⟩ | ⟨g, cap, cur, rfl, hb, hg, hc, hm, hcs, htk⟩
  · exact .inl ⟨h1, List.eq_nil_of_length_eq_zero h0⟩
  · exact .inr ⟨g, cap, cur, rfl, hb, (Array.getElem?_eq_some_iff.1 hg).1, hg, hc, hm, by simpa using hcs, by simpa using htk⟩
theorem OwnV.mk {g c : Nat} {cur : Array Value} (hb : B ≤ g) (hg : Blk w g E cur) (hc : vs.length ≤ c) (hm : c ≤ maxLen) (hs : cur.size = c) (ht : cur.toList.take vs.length = vs) : OwnV E w B (.slice (some ⟨g, 0, none⟩) vs.length c) vs :=
  ⟨by simp, Or.inr ⟨g, c, cur, rfl, hb, hg, hc, hm, by simpa using hs, by simpa using ht⟩⟩
theorem OwnV.base {B' : Nat} (h : OwnV E w B v vs) (hB : B' ≤ B) : OwnV E w B' v vs := by
  refine ⟨h.1, ?_⟩
  rcases h.2 with h0 | ⟨g, cap, cur, hv, hb, rest⟩
  · exact .inl h0
  · exact .inr ⟨g, cap, cur, hv, by omega, rest⟩
theorem OwnV.slv (h : OwnV E w B v vs) : SlV w v vs := by
  obtain ⟨A, c, hv, h1, h2⟩ := h.length
  have h' : w.ownsRow B E 1 (.slice A vs.length c) vs.length vs := by rw [← hv]; exact h
  have hr := Reads.of_own h'
  refine ⟨A, c, hv, h1, h2, hr, fun hA => ?_⟩
  rcases Nat.eq_zero_or_pos vs.length with h0 | h0
  · exact List.eq_nil_of_length_eq_zero h0
  · obtain ⟨ad, e, _⟩ := hr.2 h0
    rw [hA] at e
    cases e
end
/-- An integer, a text, as values. -/
def iv (n : Int) : Value := .int .i64 n
def sv (s : ByteArray) : Value := .string s
theorem sv_one (l : List ByteArray) : ∀ u ∈ l.map sv, u.oneCell' = true := by intro u hu; simp only [List.mem_map] at hu; obtain ⟨x, _, rfl⟩ := hu; rfl
theorem info_int : (Try.prog.info? 3).map (fun i => (i.zero, i.size, i.bytes)) = some (some (.int .i64 0), 1, 8) := by kernel_rfl
theorem info_str : (Try.prog.info? 9).map (fun i => (i.zero, i.size, i.bytes)) = some (some (.string ⟨#[]⟩), 1, 16) := by kernel_rfl

/-- A slice of texts that came in, as the walk is told of it. -/
def IsTexts (w : World) (a : Option Addr) (len cap : Nat) (ss : List ByteArray) : Prop :=
  (a = none ∧ len = 0 ∧ cap = 0 ∧ ss = []) ∨
  ∃ x, a = some x ∧ len ≤ cap ∧ cap ≤ maxLen ∧ ss.length = cap ∧ (∀ i, i < ss.length → w.cell? (x.add i) = some (.string (ss.getD i ByteArray.empty))) ∧ ∀ s ∈ ss, s.size ≤ maxLen
theorem IsTexts.slv {w : World} {a : Option Addr} {len cap : Nat} {ss : List ByteArray} (h : IsTexts w a len cap ss) : ∃ ts : List ByteArray, ts.length = len ∧ SlV w (.slice a len cap) (ts.map sv) ∧ ∀ s ∈ ts, s.size ≤ maxLen := by
  rcases h with ⟨rfl, rfl, rfl, rfl⟩ | ⟨x, rfl, hl, hm, hz, hc, hw⟩
  · exact ⟨[], rfl, SlV.nil_ w, fun n hn => by cases hn⟩
  · refine ⟨ss.take len, by simp; omega, ⟨some x, cap, by simp; omega, by simp; omega, hm, ⟨by simp, fun h0 => ⟨x, rfl, ?_, fun j u hu => ?_⟩⟩, fun h => by cases h⟩, fun n hn => hw n (List.mem_of_mem_take hn)⟩
    · have h1 : 0 < ss.length := by simp at h0; omega
      have := World.block_lt_of_cell? w _ (hc 0 h1)
      rw [block_of_add] at this
      exact this
    · rw [List.getElem?_map, List.getElem?_take] at hu
      by_cases hj : j < len
      · rw [if_pos hj, List.getElem?_eq_getElem (by omega)] at hu
        rw [hc j (by omega), List.getD_eq_getElem?_getD, List.getElem?_eq_getElem (by omega)]
        exact hu
      · rw [if_neg hj] at hu; cases hu
def TextsPost (w : World) (ts : List ByteArray) (e : Ending) (w' : World) : Prop := ∃ v, e = .returned v ∧ OwnV 9 w' w.heap.size v (ts.map sv) ∧ Below w.heap.size w w'
theorem texts_at {w : World} {A : Option Addr} {xs : List ByteArray} (h : Reads w w.heap.size 1 A xs.length (xs.map sv)) (k : Nat) (hk : k < xs.length) : ∃ ad, A = some ad ∧ w.cell? (ad.add k) = some (.string xs[k]) :=
  reads_at h k _ (by rw [List.getElem?_map, List.getElem?_eq_getElem hk]; rfl)

end Go.Proofs.Ytodlaikemoedfaa.Tx
