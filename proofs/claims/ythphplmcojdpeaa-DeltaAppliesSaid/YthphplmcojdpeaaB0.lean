/- Bytes, words and texts as the model has them. -/
import Derived.Test.YthphplmcojdpeaaRows
import Derived.Test.YthphplmcojdpeaaM0
import Derived.WalkKit
import Derived.ProofKit
import Derived.OpenShut
import Derived.BigQuiet
import Derived.Deep.QuietTactic
import Derived.Lib.Hide
import Derived.Deep.RegionWith
import Derived.StillTailTactics
import Derived.Deep.DeepFit
import Derived.Deep.WholeRow
import Derived.Deep.MidRow
import Derived.Deep.AppendLies
import Derived.Deep.Draws
import Derived.Maps.AppendAt
import Derived.Deep.RegionHeld3
import Derived.Deep.OwnRows
import Derived.Lib.SlBytesConst
import Derived.Laws.BytesString
import Derived.ShutString
import Derived.ChangeOld
namespace Go.Proofs.Ythphplmcojdpeaa
open Go.RowKit

def shlw (u : UInt32) (n : Nat) : UInt32 := u <<< UInt32.ofNat n
def shrw (u : UInt32) (n : Nat) : UInt32 := u >>> UInt32.ofNat n
/-- A word's number. -/
def wi (u : UInt32) : Int := (u.toNat : Int)
/-- A byte's number. -/
def bi (u : UInt8) : Int := (u.toNat : Int)
theorem wi_lt (u : UInt32) : 0 ≤ wi u ∧ wi u ≤ 4294967295 := by
  unfold wi; have := u.toNat_lt; omega
theorem bi_lt (u : UInt8) : 0 ≤ bi u ∧ bi u ≤ 255 := by
  unfold bi; have := u.toNat_lt; omega
theorem wi_inj {a b : UInt32} (h : wi a = wi b) : a = b := by
  unfold wi at h; exact UInt32.toNat_inj.1 (by omega)
theorem bi_inj {a b : UInt8} (h : bi a = bi b) : a = b := by
  unfold bi at h; exact UInt8.toNat_inj.1 (by omega)
theorem wadd (a b : UInt32) : IntKind.u32.wrap (wi a + wi b) = wi (a + b) := by
  unfold wi; rw [IntKind.wrap_u32, UInt32.toNat_add]; omega
theorem wxor (a b : UInt32) : bits .xor .u32 (wi a) (wi b) = wi (a ^^^ b) := by
  unfold wi; rw [u32_xor_nat _ _ (by have := a.toNat_lt; omega) (by have := b.toNat_lt; omega), UInt32.toNat_xor]
theorem wand (a b : UInt32) : bits .and .u32 (wi a) (wi b) = wi (a &&& b) := by
  unfold wi; rw [u32_and_nat _ _ (by have := a.toNat_lt; omega) (by have := b.toNat_lt; omega), UInt32.toNat_and]
theorem wor (a b : UInt32) : bits .or .u32 (wi a) (wi b) = wi (a ||| b) := by
  unfold wi; rw [u32_or_nat _ _ (by have := a.toNat_lt; omega) (by have := b.toNat_lt; omega), UInt32.toNat_or]
theorem toNat_ofNat32 (n : Nat) (h : n < 32) : (UInt32.ofNat n).toNat = n := by
  simp [UInt32.toNat_ofNat']; omega
theorem wshl (u : UInt32) (n : Nat) (h : n < 32) : IntKind.u32.wrap (wi u * 2 ^ n) = wi (shlw u n) := by
  unfold wi shlw
  rw [IntKind.wrap_u32, UInt32.toNat_shiftLeft, toNat_ofNat32 n h, Nat.mod_eq_of_lt h, Nat.shiftLeft_eq]
  have : ((u.toNat : Int) * 2 ^ n) = ((u.toNat * 2 ^ n : Nat) : Int) := by simp
  rw [this]
  omega
theorem wshr (u : UInt32) (n : Nat) (h : n < 32) : wi u / 2 ^ n = wi (shrw u n) := by
  unfold wi shrw
  rw [UInt32.toNat_shiftRight, toNat_ofNat32 n h, Nat.mod_eq_of_lt h, Nat.shiftRight_eq_div_pow]
  simp
theorem wnot (a : UInt32) : bits .xor .u32 IntKind.u32.max (wi a) = wi (~~~ a) := by
  unfold wi
  have hm : IntKind.u32.max = ((4294967295 : Nat) : Int) := by decide
  rw [hm, u32_xor_nat _ _ (by omega) (by have := a.toNat_lt; omega)]
  congr 1
theorem wbyte (b : UInt8) : IntKind.u32.wrap (bi b) = wi b.toUInt32 := by
  unfold bi wi; rw [IntKind.wrap_u32, UInt8.toNat_toUInt32]; have := b.toNat_lt; omega
attribute [irreducible] wi bi
theorem add_at (a : Addr) (n : Nat) (h : 0 < n) : a.add n = ⟨a.block, a.off + n, none⟩ := by
  unfold Addr.add; rw [if_neg (by omega)]
def bv (u : UInt8) : Value := .int .u8 (bi u)
/-- v is a slice of the call's own (its block from B on) that holds the bytes bs. -/
def Own (w : World) (B : Nat) (v : Value) (bs : List UInt8) : Prop := w.ownsRow B 5 1 v bs.length (bs.map bv)
theorem info5 : (Try.prog.info? 5).map (fun i => (i.zero, i.size, i.bytes)) = some (some (.int .u8 0), 1, 1) := by kernel_rfl
theorem own_made (w : World) (c : Nat) (hc : c ≤ maxLen) : (w.alloc (.cells (madeCells #[.int .u8 0] c) 5)).ownsRow w.heap.size 5 1 (.slice (some ⟨w.heap.size, 0, none⟩) 0 c) 0 [] :=
  World.ownsRow_made w _ c (Nat.le_refl _) hc (by rw [size_madeCells]; omega)
theorem make_bytes (c : Nat) (hc : c ≤ 281474976710656) (w : World) :
    (Instr.makeSlice 22 (.int .i64 ((0 : Nat) : Int)) (.int .i64 (c : Int))).run Try.prog w = .ok (.slice (some ⟨w.heap.size, 0, none⟩) 0 c) (w.alloc (.cells (madeCells #[.int .u8 0] c) 5)) := by
  obtain ⟨i0, hi, hz0, hz1, hz2⟩ := info_parts info5
  have hr := run_make (P := Try.prog) w 22 5 i0 (.int .u8 0) Try.underlying22 hi hz0 .i64 .i64 0 c (by omega) (by omega) (by rw [hz2]; omega) (by omega)
  rw [hz1] at hr
  simpa [Value.cells] using hr
theorem bv_one (l : List UInt8) : ∀ u ∈ l.map bv, u.oneCell' = true := by
  intro u hu
  simp only [List.mem_map] at hu
  obtain ⟨x, _, rfl⟩ := hu
  rfl
theorem Own.alloc {w : World} {B : Nat} {v : Value} {bs : List UInt8} (h : Own w B v bs) (o : Obj) : Own (w.alloc o) B v bs := World.ownsRow.alloc h o
theorem Own.drew {w : World} {B : Nat} {v : Value} {bs : List UInt8} (h : Own w B v bs) : Own w.drew B v bs := h
theorem append_bytes {ops : Array Oper} {rest : List Oper} {o : Oper} {a : Act} {Q : Exit → Act → World → Prop} (hgd : o.guard = none) (s x : Operand)
    (ho : o.op = .call { callee := .builtin .append, args := #[s, x], argTypes := #[22, 22] }) (w : World) (B : Nat) (v : Value) (bs : List UInt8) (hs : a.eval s = v) (hown : Own w B v bs)
    (B' : Nat) (A : Option Addr) (m c : Nat) (news : List UInt8) (hx : a.eval x = .slice A m c) (hr : Reads w B' 1 A m (news.map bv)) (hsmall : bs.length + m ≤ 140737488355328) (hB : B ≤ w.heap.size)
    (h : ∀ v' w', Own w' B v' (bs ++ news) → Below B w w' → wpList Try.prog ops Q rest (a.put o.dst v') w') : wpList Try.prog ops Q (o :: rest) a w := by
  obtain ⟨i0, hi, hz0, hz1, hz2⟩ := info_parts info5
  have hm : news.length = m := by have := hr.1; simpa using this
  refine wpList_append_any w hgd s x 22 ho B 5 i0 (.int .u8 0) 1 1 Try.underlying22 hi hz0 hz1 hz2 rfl (by decide) v bs.length _ hs hown B' A m c _ hx hr (bv_one news) (by unfold maxLen; omega) (by omega) hB ?_
  intro v' w' h1 h2 _
  refine h v' w' ?_ ((Below.refl _ _).grown h2 hB (fun k hk => (hown.lt k hk).1))
  unfold Own
  rw [List.length_append, hm, List.map_append]
  exact h1
theorem reads_new (w : World) (bs : List UInt8) (cs : Array Value) (hcs : cs.toList = bs.map bv) (m : Nat) (hm : bs.length = m) : Reads (w.alloc (.cells cs 5)) (w.heap.size + 1) 1 (some ⟨w.heap.size, 0, none⟩) m (bs.map bv) := by
  refine ⟨by simp [hm], fun _ => ⟨_, rfl, by simp, fun j u hu => ?_⟩⟩
  rw [Addr.add_mid, cell_of_row _ _ _ cs 5 (0, 0) (heap_alloc_new w _), Nat.zero_add, ← hu, ← hcs]
  simp
theorem append_byte {ops : Array Oper} {rest : List Oper} {o : Oper} {a : Act} {Q : Exit → Act → World → Prop} (hgd : o.guard = none) (s x : Operand)
    (ho : o.op = .call { callee := .builtin .append, args := #[s, x], argTypes := #[22, 22] }) (w : World) (B : Nat) (v : Value) (bs : List UInt8) (hs : a.eval s = v) (hown : Own w B v bs)
    (k : Int) (u : UInt8) (hu : bi u = k) (hx : a.eval x = .slice (some ⟨w.heap.size, 0, none⟩) 1 1) (hsmall : bs.length + 1 ≤ 140737488355328) (hB : B ≤ w.heap.size)
    (h : ∀ v' w', Own w' B v' (bs ++ [u]) → Below B w w' → wpList Try.prog ops Q rest (a.put o.dst v') w') : wpList Try.prog ops Q (o :: rest) a (w.alloc (.cells #[.int .u8 k] 5)) := by
  subst hu
  refine append_bytes hgd s x ho _ B v bs hs (hown.alloc _) _ _ 1 1 [u] hx (reads_new _ [u] _ rfl 1 rfl) hsmall (by simp; omega) ?_
  intro v' w' h1 h2
  exact h v' w' h1 (((Below.refl _ _).alloc hB _).trans h2)
theorem Own.length {w : World} {B : Nat} {v : Value} {bs : List UInt8} (h : Own w B v bs) : ∃ A c, v = .slice A bs.length c ∧ bs.length ≤ c ∧ c ≤ maxLen := by
  rcases h.2 with ⟨rfl, h0⟩ | ⟨g, cap, cur, rfl, _, _, hc, hm, _⟩
  · exact ⟨none, 0, by rw [h0], by omega, by unfold maxLen; omega⟩
  · exact ⟨_, _, rfl, hc, hm⟩
theorem bi128 : bi 128 = 128 := by unfold bi; rfl
theorem bi0 : bi 0 = 0 := by unfold bi; rfl
def lenOf : Value → Nat
  | .slice _ n _ => n
  | _ => 0
theorem Own.lenOf {w : World} {B : Nat} {v : Value} {bs : List UInt8} (h : Own w B v bs) : lenOf v = bs.length := by
  obtain ⟨A, c, rfl, _⟩ := h.length
  rfl
theorem byte_of (x : Nat) : IntKind.u8.wrap (x : Int) = bi (UInt8.ofNat x) := by
  unfold bi
  rw [IntKind.wrap_u8, UInt8.toNat_ofNat']
  omega
/-- The bytes bs, read by a slice. -/
def In (w : World) (A : Option Addr) (bs : List UInt8) : Prop :=
  0 < bs.length → ∃ ad, A = some ad ∧ ad.block < w.heap.size ∧ ∀ j, j < bs.length → w.cell? (ad.add j) = some (.int .u8 (bi (bs.getD j 0)))
theorem In.nil (w : World) (A : Option Addr) : In w A [] := fun h => absurd h (by simp)
theorem In.below {w w' : World} {A : Option Addr} {bs : List UInt8} (h : In w A bs) (hb : Below w.heap.size w w') : In w' A bs := by
  intro h0
  obtain ⟨ad, hA, hlt, hc⟩ := h h0
  exact ⟨ad, hA, Nat.lt_of_lt_of_le hlt hb.size, fun j hj => (hb.cell (p := ad.add j) (by rw [block_of_add]; exact hlt)).trans (hc j hj)⟩
theorem Own.in_ {w : World} {B : Nat} {v : Value} {bs : List UInt8} (h : Own w B v bs) : ∃ A c, v = .slice A bs.length c ∧ bs.length ≤ c ∧ c ≤ maxLen ∧ In w A bs ∧ (0 < bs.length → ∃ g, A = some ⟨g, 0, none⟩ ∧ B ≤ g ∧ g < w.heap.size) := by
  rcases h.2 with ⟨rfl, h0⟩ | ⟨g, cap, cur, rfl, hb, hg, hc, hm, hcs, htk⟩
  · exact ⟨none, 0, by rw [h0], by omega, by unfold maxLen; omega, fun h1 => by omega, fun h1 => by omega⟩
  · have hlt : g < w.heap.size := (Array.getElem?_eq_some_iff.1 hg).1
    refine ⟨some ⟨g, 0, none⟩, cap, rfl, hc, hm, fun _ => ⟨_, rfl, hlt, fun j hj => ?_⟩, fun _ => ⟨g, rfl, hb, hlt⟩⟩
    rw [Addr.add_mid, cell_of_row _ _ _ _ _ _ hg, Nat.zero_add]
    have : (cur.toList.take (bs.length * 1))[j]? = (bs.map bv)[j]? := by rw [htk]
    rw [List.getElem?_take, if_pos (by omega), List.getElem?_map, List.getElem?_eq_getElem hj] at this
    rw [List.getD_eq_getElem?_getD, List.getElem?_eq_getElem hj]
    simpa [bv] using this
def OwnPost (w : World) (bs : List UInt8) (e : Ending) (w' : World) : Prop := ∃ v, e = .returned v ∧ Own w' w.heap.size v bs ∧ Below w.heap.size w w'
/-- Bytes as a string. -/
def str (bs : List UInt8) : ByteArray := ⟨bs.toArray⟩
theorem str_inj {a b : List UInt8} (h : str a = str b) : a = b := by
  unfold str at h
  injection h with h
  simpa using congrArg Array.toList h
theorem str_push (bs : List UInt8) : ∀ (acc : List UInt8), (bs.map bi).foldl (fun (r : ByteArray) n => r.push (UInt8.ofNat n.toNat)) (str acc) = str (acc ++ bs) := by
  induction bs with
  | nil => intro acc; simp
  | cons x r ih =>
    intro acc
    have e : (str acc).push (UInt8.ofNat (bi x).toNat) = str (acc ++ [x]) := by
      have : UInt8.ofNat (bi x).toNat = x := by unfold bi; simp
      rw [this]
      unfold str ByteArray.push
      simp
    rw [List.map_cons, List.foldl_cons, e, ih]
    simp
theorem load_in {w : World} {ad : Addr} {bs : List UInt8} (h : ∀ j, j < bs.length → w.cell? (ad.add j) = some (.int .u8 (bi (bs.getD j 0)))) :
    (loadCells ad bs.length).run Try.prog w = .ok ((bs.map bi).map (Value.int .u8)).toArray w := by
  have := run_loadCells_list (P := Try.prog) w ad ((bs.map bi).map (Value.int .u8)) (fun j v hv => by
    have hj : j < bs.length := by
      have := (List.getElem?_eq_some_iff.1 hv).1
      simpa using this
    rw [h j hj, ← hv, List.getElem?_map, List.getElem?_map, List.getElem?_eq_getElem hj, List.getD_eq_getElem?_getD, List.getElem?_eq_getElem hj]
    rfl)
  simpa using this
theorem conv_str (w : World) (A : Option Addr) (bs : List UInt8) (c : Nat) (h : In w A bs) (hA : A = none → bs = []) :
    (convert 22 9 (.slice A bs.length c)).run Try.prog w = .ok (.string (str bs)) w := by
  rw [run_convert_bytes_string w 22 9 5 A bs.length c Try.underlying22 Try.underlying5 Try.underlying9]
  rcases A with _ | ad
  · obtain rfl := hA rfl
    simp [Conv.bytesToString, Sem.run_pure, str]
    rfl
  · have hl : (loadCells ad bs.length).run Try.prog w = .ok ((bs.map bi).map (Value.int .u8)).toArray w := by
      rcases Nat.eq_zero_or_pos bs.length with h0 | h0
      · exact load_in (fun j hj => by omega)
      · obtain ⟨ad', e, _, hc⟩ := h h0
        injection e with e
        subst e
        exact load_in hc
    rw [run_bytesToString w ad bs.length c _ hl]
    have := str_push bs []
    rw [List.nil_append] at this
    have e0 : ByteArray.empty = str [] := rfl
    rw [e0, this]
/-- v is a slice that reads as the bytes bs. -/
def Sl (w : World) (v : Value) (bs : List UInt8) : Prop := ∃ A c, v = .slice A bs.length c ∧ bs.length ≤ c ∧ c ≤ maxLen ∧ In w A bs ∧ (A = none → bs = [])
theorem Sl.below {w w' : World} {v : Value} {bs : List UInt8} (h : Sl w v bs) (hb : Below w.heap.size w w') : Sl w' v bs := by
  obtain ⟨A, c, hv, h1, h2, h3, h4⟩ := h
  exact ⟨A, c, hv, h1, h2, h3.below hb, h4⟩
theorem Own.sl {w : World} {B : Nat} {v : Value} {bs : List UInt8} (h : Own w B v bs) : Sl w v bs := by
  obtain ⟨A, c, hv, h1, h2, h3, h4⟩ := h.in_
  refine ⟨A, c, hv, h1, h2, h3, fun hA => ?_⟩
  rcases Nat.eq_zero_or_pos bs.length with h0 | h0
  · exact List.eq_nil_of_length_eq_zero h0
  · obtain ⟨g, e, _⟩ := h4 h0
    rw [hA] at e
    cases e
theorem Sl.nil_ (w : World) : Sl w (.slice none 0 0) [] := ⟨none, 0, rfl, by simp, by unfold maxLen; omega, In.nil w none, fun _ => rfl⟩
theorem In.reads {w : World} {A : Option Addr} {bs : List UInt8} (h : In w A bs) : Reads w w.heap.size 1 A bs.length (bs.map bv) := by
  refine ⟨by simp, fun h0 => ?_⟩
  obtain ⟨ad, hA, hlt, hc⟩ := h h0
  refine ⟨ad, hA, hlt, fun j u hu => ?_⟩
  have hj : j < bs.length := by
    have := (List.getElem?_eq_some_iff.1 hu).1
    simpa using this
  rw [hc j hj, ← hu, List.getElem?_map, List.getElem?_eq_getElem hj, List.getD_eq_getElem?_getD, List.getElem?_eq_getElem hj]
  rfl
theorem str_toList (bs : List UInt8) : (str bs).toList = bs := by
  rw [ByteArray.toList_eq]
  rfl
set_option maxRecDepth 100000 in
set_option maxHeartbeats 400000 in
/-- marref.Bytes -/
theorem bytes_any (v1 v2 : Value) (bs cs : List UInt8) (w : World) (h1 : Sl w v1 bs) (h2 : Sl w v2 cs) (t : Bool) (ht : (bs == cs) = t) :
    Calls Try.prog 12 #[v1, v2] w fun e w' => e = .returned (.bool t) ∧ w = w' := by
  obtain ⟨A, c, rfl, _, _, h, hA⟩ := h1
  obtain ⟨A2, c2, rfl, _, _, h2, hA2⟩ := h2
  have k1 := conv_str w A bs c h hA
  have k2 := conv_str w A2 cs c2 h2 hA2
  have HT := Lib.hid ht
  clear ht h hA h2 hA2
  go_enter Try.func12, Try.ntmps12
  go_wp2_with fail
  go_ret
  refine ⟨?_, rfl⟩
  show Ending.returned (.bool ((str bs).toList == (str cs).toList)) = _
  rw [str_toList, str_toList, HT.out]
set_option maxRecDepth 100000 in
set_option maxHeartbeats 400000 in
/-- marref.CopyBytes -/
theorem copyb_any (v : Value) (bs : List UInt8) (w : World) (h : Sl w v bs) (hn : bs.length ≤ 140737488355328) : Calls Try.prog 11 #[v] w (OwnPost w bs) := by
  obtain ⟨A, c, rfl, hlc, hcm, hI, hA⟩ := h
  have hI1 : In (w.alloc (.cells #[] 5)) A bs := hI.below ((Below.refl _ _).alloc (Nat.le_refl _) _)
  have hr := hI1.reads
  have hown : Own (w.alloc (.cells #[] 5)) w.heap.size (.slice (some ⟨w.heap.size, 0, none⟩) 0 0) [] :=
    World.ownsRow_made w #[] 0 (Nat.le_refl _) (by unfold maxLen; omega) rfl
  obtain ⟨l, hl⟩ : ∃ l, bs.length = l := ⟨_, rfl⟩
  rw [hl] at hr hn ⊢
  have hsm : ([] : List UInt8).length + l ≤ 140737488355328 := by simpa using hn
  have hz : w.heap.size ≤ (w.alloc (.cells #[] 5)).heap.size := by simp
  have HR := Lib.hid hr
  have HOWN := Lib.hid hown
  have HZ := Lib.hid hz
  clear hl hr hown hz hI hI1 hA hlc hcm
  go_enter Try.func11, Try.ntmps11
  go_wp2_with (at_builtin; refine append_bytes rfl (.tmp 3) (.tmp 4) rfl _ w.heap.size (.slice (some ⟨w.heap.size, 0, none⟩) 0 0) [] rfl HOWN.out _ A l c bs rfl HR.out hsm HZ.out ?_; intro v3 w3 ho3 hb3; have HO := Lib.hid ho3; have HB := Lib.hid hb3; clear ho3 hb3)
  go_ret
  refine ⟨v3, rfl, ?_, ((Below.refl _ _).alloc (Nat.le_refl _) _).trans HB.out⟩
  simpa using HO.out
theorem str_size (cs : List UInt8) : (str cs).size = cs.length := by
  unfold str ByteArray.size
  simp
theorem index_str (cs : List UInt8) (k : Nat) (hk : k < cs.length) (w : World) : (Instr.index 9 (.string (str cs)) (.int .i64 (k : Int))).run Try.prog w = .ok (.int .u8 (bi (cs.getD k 0))) w := by
  have hsz := str_size cs
  have hg : (str cs)[k]? = some cs[k] := getElem?_pos (str cs) k (by rw [hsz]; exact hk)
  simp [Instr.index, go_sem]
  rw [hg, List.getElem?_eq_getElem hk]
  unfold bi
  rfl
/-- A slice of integers that came in, as the walk is told of it. -/
def IsRow (k : IntKind) (w : World) (a : Option Addr) (len cap : Nat) (zs : List Int) : Prop :=
  (a = none ∧ len = 0 ∧ cap = 0 ∧ zs = []) ∨
  ∃ x, a = some x ∧ len ≤ cap ∧ cap ≤ maxLen ∧ zs.length = cap ∧ (∀ i, i < zs.length → w.cell? (x.add i) = some (.int k (zs.getD i 0))) ∧ ∀ n ∈ zs, (Lit.int k n).wf = true
theorem bi_of {n : Int} (h : (Lit.int .u8 n).wf = true) : bi (UInt8.ofNat n.toNat) = n := by
  have hx : 0 ≤ n ∧ n ≤ 255 := by simpa [Lit.wf, IntKind.min, IntKind.max, IntKind.signed, IntKind.bits] using h
  unfold bi
  rw [UInt8.toNat_ofNat']
  omega
theorem IsRow.sl {w : World} {a : Option Addr} {len cap : Nat} {zs : List Int} (h : IsRow .u8 w a len cap zs) : ∃ bs : List UInt8, bs.length = len ∧ Sl w (.slice a len cap) bs := by
  rcases h with ⟨rfl, rfl, rfl, rfl⟩ | ⟨x, rfl, hl, hm, hz, hc, hw⟩
  · exact ⟨[], rfl, none, 0, rfl, by simp, by unfold maxLen; omega, In.nil w none, fun _ => rfl⟩
  · refine ⟨(zs.take len).map (fun n => UInt8.ofNat n.toNat), by simp; omega, some x, cap, ?_, by simp; omega, hm, ?_, fun h => by cases h⟩
    · congr 1
      simp
      omega
    · intro h0
      have hl0 : 0 < len := by
        simp at h0
        omega
      refine ⟨x, rfl, ?_, fun j hj => ?_⟩
      · have := World.block_lt_of_cell? w _ (hc 0 (by omega))
        rw [block_of_add] at this
        exact this
      · have hj' : j < len := by
          simp at hj
          omega
        rw [hc j (by omega)]
        have hjz : j < zs.length := by omega
        rw [List.getD_eq_getElem?_getD, List.getElem?_eq_getElem hjz, List.getD_eq_getElem?_getD, List.getElem?_map, List.getElem?_take, if_pos hj', List.getElem?_eq_getElem hjz]
        show some (Value.int .u8 zs[j]) = some (Value.int .u8 (bi (UInt8.ofNat zs[j].toNat)))
        rw [bi_of (hw _ (List.getElem_mem hjz))]
theorem Own.below {w w' : World} {B : Nat} {v : Value} {bs : List UInt8} (h : Own w B v bs) (hb : Below w.heap.size w w') : Own w' B v bs :=
  World.ownsRow.kept h (only_of_below hb none) (by cases hv : v.ownBlock <;> simp)
theorem Own.farSet {w : World} {B : Nat} {v : Value} {bs : List UInt8} (h : Own w B v bs) {a : Addr} (ha : a.block < B) (u : Value) : Own (w.setCell a u) B v bs := ownsRow_setCell_below h ha u
theorem Own.only {w w' : World} {B g : Nat} {v : Value} {bs : List UInt8} (h : Own w B v bs) (hg : w.grownBy w' (some g)) (hgB : g < B) : Own w' B v bs :=
  World.ownsRow.kept h hg (by
    cases hv : v.ownBlock with
    | none => exact .inl rfl
    | some k =>
      refine .inr fun e => ?_
      have := (World.ownsRow.lt h k hv).1
      injection e with e
      omega)
theorem Sl.only {w w' : World} {v : Value} {bs : List UInt8} {b B : Nat} (h : Sl w v bs) (hB : w.heap.size = B) (hb : B ≤ b) {w2 : World} (h1 : Below B w w2) (h2 : w2.grownBy w' (some b)) : Sl w' v bs := by
  subst hB
  exact h.below (h1.trans (below_of_only h2 hb h1.size))
/-- Block g begins with m bytes that may be written. -/
def Wr (w : World) (g m : Nat) : Prop := ∃ cur, Blk w g 5 cur ∧ ∀ j, j < m → ∃ u, cur[j]? = some (.int .u8 u)
theorem Wr.cell {w : World} {g m : Nat} (h : Wr w g m) (j : Nat) (hj : j < m) : ∃ u, w.cell? ⟨g, j, none⟩ = some (.int .u8 u) ∧ w.frozen? ⟨g, j, none⟩ = false := by
  obtain ⟨cur, hb, hc⟩ := h
  obtain ⟨u, hu⟩ := hc j hj
  exact ⟨u, (hb.cell j).trans hu, hb.frozen j⟩
theorem Wr.set {w : World} {g m : Nat} (h : Wr w g m) (k : Nat) (u : Int) : Wr (w.setCell ⟨g, k, none⟩ (.int .u8 u)) g m := by
  obtain ⟨cur, hb, hc⟩ := h
  refine ⟨_, hb.set_ k _, fun j hj => ?_⟩
  obtain ⟨v, hv⟩ := hc j hj
  rw [Array.getElem?_setIfInBounds]
  by_cases e : k = j
  · subst e
    have : k < cur.size := (Array.getElem?_eq_some_iff.1 hv).1
    rw [if_pos rfl, if_pos this]
    exact ⟨_, rfl⟩
  · rw [if_neg e]
    exact ⟨v, hv⟩
theorem Wr.far {w : World} {g m : Nat} (h : Wr w g m) {p : Addr} (hp : g ≠ p.block) (u : Value) : Wr (w.setCell p u) g m := by
  obtain ⟨cur, hb, hc⟩ := h
  exact ⟨cur, hb.far hp u, hc⟩
theorem Wr.below {w w' : World} {g m B : Nat} (h : Wr w g m) (hb : Below B w w') (hg : g < B) : Wr w' g m := by
  obtain ⟨cur, hbk, hc⟩ := h
  exact ⟨cur, hbk.below hb hg, hc⟩
theorem Own.wr {w : World} {B : Nat} {v : Value} {bs : List UInt8} (h : Own w B v bs) (h0 : 0 < bs.length) : ∃ g c, v = .slice (some ⟨g, 0, none⟩) bs.length c ∧ bs.length ≤ c ∧ c ≤ maxLen ∧ B ≤ g ∧ g < w.heap.size ∧ Wr w g bs.length := by
  rcases h.2 with ⟨rfl, h1⟩ | ⟨g, cap, cur, rfl, hb, hg, hc, hm, hcs, htk⟩
  · omega
  · refine ⟨g, cap, rfl, hc, hm, hb, (Array.getElem?_eq_some_iff.1 hg).1, cur, hg, fun j hj => ?_⟩
    have : (cur.toList.take (bs.length * 1))[j]? = (bs.map bv)[j]? := by rw [htk]
    rw [List.getElem?_take, if_pos (by omega), List.getElem?_map, List.getElem?_eq_getElem hj] at this
    exact ⟨_, by simpa [bv] using this⟩
theorem Own.nil_ (w : World) (B : Nat) : Own w B (.slice none 0 0) [] := World.ownsRow_nil w B 5 1
theorem ofInt_i64 (a : Nat) (ha : a < 9223372036854775808) : (BitVec.ofInt 64 (a : Int)).toNat = a := by
  rw [BitVec.ofInt_natCast, BitVec.toNat_ofNat]; exact Nat.mod_eq_of_lt (by omega)
theorem i64_and_nat (a b : Nat) (ha : a < 9223372036854775808) (hb : b < 9223372036854775808) : bits .and .i64 (a : Int) (b : Int) = ((a &&& b : Nat) : Int) := by
  have hx : a &&& b < 2 ^ 63 := Nat.and_lt_two_pow _ (by omega)
  show IntKind.i64.wrap ((BitVec.ofInt 64 (a : Int) &&& BitVec.ofInt 64 (b : Int)).toNat : Int) = _
  rw [BitVec.toNat_and, ofInt_i64 a ha, ofInt_i64 b hb, IntKind.wrap_i64]
  omega
theorem i64_or_nat (a b : Nat) (ha : a < 9223372036854775808) (hb : b < 9223372036854775808) : bits .or .i64 (a : Int) (b : Int) = ((a ||| b : Nat) : Int) := by
  have hx : a ||| b < 2 ^ 63 := Nat.or_lt_two_pow (by omega) (by omega)
  show IntKind.i64.wrap ((BitVec.ofInt 64 (a : Int) ||| BitVec.ofInt 64 (b : Int)).toNat : Int) = _
  rw [BitVec.toNat_or, ofInt_i64 a ha, ofInt_i64 b hb, IntKind.wrap_i64]
  omega
end Go.Proofs.Ythphplmcojdpeaa
