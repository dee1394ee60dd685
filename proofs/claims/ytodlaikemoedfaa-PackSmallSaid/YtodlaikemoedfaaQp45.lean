/- Texts put together: YPk5, YShDl2, YPk6, YPk7, YPk8, YPk9, YPkA, YPkH. -/
import Derived.Test.YtodlaikemoedfaaQp38
import Derived.Test.YtodlaikemoedfaaQp39
import Derived.BigQuiet
import Derived.Deep.RegionLaw
import Derived.Lib.SlBytesConst
import Derived.Test.YtodlaikemoedfaaQp44
/- Package pack's reader: getNumber, getPiece, getBy, getWhole, getAhead, getBytes. -/
set_option linter.unusedVariables false
set_option linter.unusedSimpArgs false
namespace Go.Proofs.Ytodlaikemoedfaa.Ob
open Go.RowKit Go.Proofs.Ytodlaikemoedfaa.Sh
open Go.Proofs.Ytodlaikemoedfaa.Tx (Shape InL TmpL OwnL Typed Only By Rd Datas list_appendL step_appendL)

section
variable {w0 w : World} {F : Nat → Prop} {p : Nat} {vb fv vr : Value} {k : Nat} {read : List EntM} {b : List UInt8}
end
end Go.Proofs.Ytodlaikemoedfaa.Ob
/- Apply of a delta; the document's own Sizes, step, Apply. -/
set_option linter.unusedVariables false
set_option linter.unusedSimpArgs false
namespace Go.Proofs.Ytodlaikemoedfaa.Sh
open Go.RowKit

/-- What Apply leaves: new bytes, what is wrong. -/
def ApplyPost (w : World) (r : List UInt8 × Int) (e : Ending) (w' : World) : Prop := ∃ v, e = .returned (.tuple #[v, .int .i64 r.2]) ∧ Own w' w.heap.size v r.1 ∧ Below w.heap.size w w'

end Go.Proofs.Ytodlaikemoedfaa.Sh
/- Package pack's reader: getBy, getWhole, getAhead, getElsewhere, getBytes. -/
set_option linter.unusedVariables false
set_option linter.unusedSimpArgs false
namespace Go.Proofs.Ytodlaikemoedfaa.Ob
open Go.RowKit Go.Proofs.Ytodlaikemoedfaa.Sh
open Go.Proofs.Ytodlaikemoedfaa.Tx (Shape InL TmpL OwnL Typed Only By Rd Datas list_appendL step_appendL)

/-- What a base answers. -/
def AskPost (base : BaseM) (id : List UInt8) (W : World) (e : Ending) (w' : World) : Prop :=
  ∃ (A : Option Addr) (n c : Nat) (t : Bool), e = .returned (.tuple #[.slice A n c, .bool t]) ∧ Below W.heap.size W w' ∧ ((base id = none ∧ t = false) ∨ ∃ x, base id = some x ∧ t = true ∧ x.length ≤ 1000000 ∧ x.length = n ∧ Own w' W.heap.size (.slice A n c) x)
section
variable {w0 w : World} {F : Nat → Prop} {p : Nat} {vb fv vr : Value} {k : Nat} {read : List EntM} {b : List UInt8}
end
end Go.Proofs.Ytodlaikemoedfaa.Ob
/- Package pack's reader: getAhead, getElsewhere, getBytes. -/
set_option linter.unusedVariables false
set_option linter.unusedSimpArgs false
namespace Go.Proofs.Ytodlaikemoedfaa.Ob
open Go.RowKit Go.Proofs.Ytodlaikemoedfaa.Sh
open Go.Proofs.Ytodlaikemoedfaa.Tx (Shape InL TmpL OwnL Typed Only By Rd Datas list_appendL step_appendL)

section
variable {w0 w : World} {F : Nat → Prop} {p : Nat} {vb fv vr : Value} {k : Nat} {read : List EntM} {b : List UInt8}
end
end Go.Proofs.Ytodlaikemoedfaa.Ob
/- Package pack's reader: getElsewhere, getBytes. -/
set_option linter.unusedVariables false
set_option linter.unusedSimpArgs false
namespace Go.Proofs.Ytodlaikemoedfaa.Ob
open Go.RowKit Go.Proofs.Ytodlaikemoedfaa.Sh
open Go.Proofs.Ytodlaikemoedfaa.Tx (Shape InL TmpL OwnL Typed Only By Rd Datas list_appendL step_appendL)

section
variable {w0 w : World} {F : Nat → Prop} {p : Nat} {vb fv vr : Value} {k : Nat} {read : List EntM} {b : List UInt8}
end
end Go.Proofs.Ytodlaikemoedfaa.Ob
/- Package pack's reader: getBytes, getHead, getObject. -/
set_option linter.unusedVariables false
set_option linter.unusedSimpArgs false
namespace Go.Proofs.Ytodlaikemoedfaa.Ob
open Go.RowKit Go.Proofs.Ytodlaikemoedfaa.Sh
open Go.Proofs.Ytodlaikemoedfaa.Tx (Shape InL TmpL OwnL Typed Only By Rd Datas list_appendL step_appendL)

section
variable {w0 w : World} {F : Nat → Prop} {p : Nat} {vb fv vr : Value} {k : Nat} {read : List EntM} {b : List UInt8}
end
end Go.Proofs.Ytodlaikemoedfaa.Ob
/- Package pack's reader: getHead, getObject. -/
set_option linter.unusedVariables false
set_option linter.unusedSimpArgs false
namespace Go.Proofs.Ytodlaikemoedfaa.Ob
open Go.RowKit Go.Proofs.Ytodlaikemoedfaa.Sh
open Go.Proofs.Ytodlaikemoedfaa.Tx (Shape InL TmpL OwnL Typed Only By Rd Datas list_appendL step_appendL)

theorem sl_lit (w : World) (bs : List UInt8) (cs : Array Value) (fr : Nat × Nat) (hcs : cs.toList = bs.map bv) (n : Nat) (hn : bs.length = n) (h1 : n ≤ 1000) : Sl (w.alloc (.cells cs 5 fr)) (.slice (some ⟨w.heap.size, 0, none⟩) n n) bs := by
  subst hn
  refine ⟨_, _, rfl, Nat.le_refl _, by unfold maxLen; omega, fun h0 => ⟨_, rfl, by simp, fun j hj => ?_⟩, fun e => by cases e⟩
  rw [Addr.add_mid, cell_of_row _ _ _ cs 5 fr (heap_alloc_new w _), Nat.zero_add, ← Array.getElem?_toList, hcs, List.getElem?_map, List.getElem?_eq_getElem hj, List.getD_eq_getElem?_getD, List.getElem?_eq_getElem hj]
  rfl
/-- The mark, laid as a constant. -/
def mkW (w : World) : World := w.alloc (.cells #[.int .u8 77, .int .u8 80, .int .u8 49] 5 (3, 4))
theorem mk_sl (w : World) : Sl (mkW w) (.slice (some ⟨w.heap.size, 0, none⟩) 3 3) markL := sl_lit w _ _ _ (by unfold markL bv bi; rfl) 3 rfl (by omega)
theorem mk_below (w : World) : Below w.heap.size w (mkW w) := (Below.refl _ _).alloc (Nat.le_refl _) _
section
variable {w0 w : World} {F : Nat → Prop} {p : Nat} {vb fv vr : Value} {k : Nat} {read : List EntM} {b : List UInt8}
end
end Go.Proofs.Ytodlaikemoedfaa.Ob
/- Package pack: Write. -/
set_option linter.unusedVariables false
set_option linter.unusedSimpArgs false
namespace Go.Proofs.Ytodlaikemoedfaa.Ob
open Go.RowKit Go.Proofs.Ytodlaikemoedfaa.Sh
open Go.Proofs.Ytodlaikemoedfaa.Tx (Shape InL TmpL OwnL Typed Only By Rd Datas list_appendL step_appendL)

theorem same_addr (A : Option Addr) (c : Nat) : (if c = 0 then A else A.map (·.add 0)) = A := by
  split
  · rfl
  · cases A with
    | none => rfl
    | some x => show some (x.add 0) = some x; simp [Addr.add]
theorem p_sizeL (w : World) : (sizeOf (Try.prog.elem 22)).run Try.prog w = .ok 1 w := by kernel_rfl
theorem p_sizeI (w : World) : (sizeOf (Try.prog.elem 32)).run Try.prog w = .ok 1 w := by kernel_rfl
set_option maxRecDepth 100000 in
theorem front_l (A : Option Addr) (l c k : Nat) (n : Int) (hn : n = (k : Int)) (hkc : k ≤ c) (w : World) :
    (Instr.slice 22 (.slice A l c) none (some (.int .i64 n)) none).run Try.prog w = .ok (.slice A k c) w := by
  subst hn
  rw [run_slice_h w 22 A l c Try.underlying22 .i64 k (by omega) (by omega), p_sizeL]
  show Result.ok (Value.slice (if c = 0 then A else A.map (·.add 0)) _ _) _ = _
  rw [same_addr, Int.toNat_natCast, Nat.sub_zero, Nat.sub_zero]
set_option maxRecDepth 100000 in
theorem front_i (A : Option Addr) (l c k : Nat) (n : Int) (hn : n = (k : Int)) (hkc : k ≤ c) (w : World) :
    (Instr.slice 32 (.slice A l c) none (some (.int .i64 n)) none).run Try.prog w = .ok (.slice A k c) w := by
  subst hn
  rw [run_slice_h w 32 A l c Try.underlying32 .i64 k (by omega) (by omega), p_sizeI]
  show Result.ok (Value.slice (if c = 0 then A else A.map (·.add 0)) _ _) _ = _
  rw [same_addr, Int.toNat_natCast, Nat.sub_zero, Nat.sub_zero]
theorem sh_lst : ∀ (l : List (List UInt8)) (ds : List Value), ds.length = l.length → Tx.ShC lstK l ds = ds
  | [], [], _ => rfl
  | [], y :: b, h => by simp at h
  | x :: a, [], h => by simp at h
  | x :: a, y :: b, h => by
    show [y] ++ Tx.ShC lstK a b = y :: b
    exact congrArg (fun L : List Value => y :: L) (sh_lst a b (by simpa using h))
/-- A list of lists of bytes, told place by place. -/
theorem LsV.mk {w : World} {A : Option Addr} {c : Nat} {l : List (List UInt8)} (f : Nat → Value) (hlc : l.length ≤ c) (hcm : c ≤ maxLen) (h0 : A = none → l = []) (h : ∀ (k : Nat) (a : List UInt8), l[k]? = some a → ∃ ad, A = some ad ∧ ad.block < w.heap.size ∧ w.cell? (ad.add k) = some (f k) ∧ Sl w (f k) a) : LsV w (.slice A l.length c) l := by
  have hds : ((List.range l.length).map f).length = l.length := by simp
  have hsh := sh_lst l ((List.range l.length).map f) hds
  refine ⟨(List.range l.length).map f, ⟨A, c, rfl, hlc, hcm, ?_, fun e => ?_, fun hp => ?_⟩, ?_, fun i d b hi hb => ?_⟩
  · exact (congrArg List.length hsh).trans (hds.trans (Nat.mul_one _).symm)
  · have := h0 e
    subst this
    rfl
  · have hp' : 0 < l.length := hp
    obtain ⟨ad, e, hlt, _⟩ := h 0 l[0] (List.getElem?_eq_getElem hp')
    refine ⟨ad, e, trivial, hlt, fun j u hu => ?_⟩
    have hu2 : ((List.range l.length).map f)[j]? = some u := (congrArg (fun L : List Value => L[j]?) hsh).symm.trans hu
    rw [List.getElem?_map] at hu2
    cases hj : (List.range l.length)[j]? with
    | none => rw [hj] at hu2; cases hu2
    | some m =>
      rw [hj] at hu2
      obtain ⟨hjl, hjm⟩ := List.getElem?_eq_some_iff.1 hj
      rw [List.getElem_range] at hjm
      subst hjm
      rw [List.length_range] at hjl
      obtain ⟨ad', e', _, hc, _⟩ := h j l[j] (List.getElem?_eq_getElem hjl)
      rw [e] at e'
      injection e' with e'
      subst e'
      injection hu2 with hu2
      rw [hc, hu2]
  · have h9 : (l.map fun e => e).length = l.length := by rw [List.length_map]
    exact hds.trans h9.symm
  · have hb2 : l[i]? = some b := by
      have h9 : (l.map fun e => e)[i]? = some b := hb
      rw [List.getElem?_map] at h9
      cases hq : l[i]? with
      | none => rw [hq] at h9; cases h9
      | some y => rw [hq] at h9; exact h9
    rw [List.getElem?_map] at hi
    have hil := (List.getElem?_eq_some_iff.1 hb2).1
    rw [List.getElem?_range hil] at hi
    injection hi with hi
    obtain ⟨_, _, _, _, hsl⟩ := h i b hb2
    rw [← hi]
    exact (sl_by hsl).mono (fun _ _ _ => trivial)
theorem LsV.take {w : World} {A : Option Addr} {n c : Nat} {l : List (List UInt8)} (h : LsV w (.slice A n c) l) (k : Nat) (hk : k ≤ l.length) : LsV w (.slice A k c) (l.take k) := by
  obtain ⟨A', c', hv, h1, h2⟩ := h.slice
  injection hv with e1 e2 e3
  subst e1 e3
  have hlk : (l.take k).length = k := by rw [List.length_take]; omega
  have := LsV.mk (w := w) (A := A) (c := c) (l := l.take k) (fun j => match A with
    | some ad => (w.cell? (ad.add j)).getD undef
    | none => undef) (by rw [hlk]; omega) h2 (fun e => by
      subst e
      cases hq : l with
      | nil => simp
      | cons x r =>
        obtain ⟨ad, _, _, e, _⟩ := h.at_ 0 x (by rw [hq]; rfl)
        cases e) (fun j a hj => by
    rw [List.getElem?_take] at hj
    split at hj
    · obtain ⟨ad, A2, c2, rfl, hc, _, _, hs⟩ := h.at_ j a hj
      have hlt := World.block_lt_of_cell? w _ hc
      rw [block_of_add] at hlt
      refine ⟨ad, rfl, hlt, ?_, ?_⟩
      · show _ = some ((w.cell? (ad.add j)).getD undef)
        rw [hc]; rfl
      · show Sl w ((w.cell? (ad.add j)).getD undef) a
        rw [hc]; exact hs
    · cases hj)
  rwa [hlk] at this
theorem take_getD (l : List (List UInt8)) (n j : Nat) (h : j < n) : (l.take n).getD j [] = l.getD j [] := by
  rw [List.getD_eq_getElem?_getD, List.getElem?_take, if_pos h, ← List.getD_eq_getElem?_getD]
theorem put_take (l : List (List UInt8)) (ds : List Nat) (i : Nat) (hds : ds.length = i) : putP (l.take (i + 1)) ds i = putP l ds i := by
  have hn : ∀ o, nearP (l.take (i + 1)) ds o i = nearP l ds o i := fun o => by
    have := near_take l ds o i (i + 1) (by omega)
    rwa [List.take_of_length_le (by omega : ds.length ≤ i + 1)] at this
  cases hc : nearP l ds (l.getD i []) i with
  | none => rw [put_none hc, put_none (by rw [take_getD _ _ _ (by omega), hn]; exact hc), take_getD _ _ _ (by omega)]
  | some k =>
    have hk := (near_some hc).1
    by_cases hlt : (makeD (l.getD k []) (l.getD i [])).length < (l.getD i []).length
    · rw [put_ahead hc hlt, put_ahead (k := k) (by rw [take_getD _ _ _ (by omega), hn]; exact hc) (by rw [take_getD _ _ _ (by omega), take_getD _ _ _ (by omega)]; exact hlt), take_getD _ _ _ (by omega), take_getD _ _ _ (by omega)]
    · rw [put_whole hc hlt, put_whole (k := k) (by rw [take_getD _ _ _ (by omega), hn]; exact hc) (by rw [take_getD _ _ _ (by omega), take_getD _ _ _ (by omega)]; exact hlt), take_getD _ _ _ (by omega)]
theorem writes_big (l : List (List UInt8)) (hl : ∀ o ∈ l, o.length ≤ 20000) (hll : l.length ≤ 512) : ∀ i, i ≤ l.length → (writesP l i).1.length ≤ 20 + 20100 * i
  | 0 => fun _ => by
    show (markL ++ putL l.length).length ≤ _
    have := putL_len9 (show l.length ≤ 72057594037927936 from by omega)
    rw [List.length_append]
    show 3 + _ ≤ _
    omega
  | i + 1 => fun h => by
    have ih := writes_big l hl hll i (by omega)
    have hm : (l.getD i []).length ≤ 20000 := hl _ (by rw [List.getD_eq_getElem?_getD, List.getElem?_eq_getElem (by omega)]; exact List.getElem_mem _)
    have h9 := putL_len9 (show (l.getD i []).length ≤ 72057594037927936 from by omega)
    have hp : (putP l (writesP l i).2 i).1.length ≤ 20100 := by
      cases hn : nearP l (writesP l i).2 (l.getD i []) i with
      | none => rw [put_none hn]; simp only [wholeE, List.length_cons, List.length_append]; omega
      | some k =>
        by_cases hlt : (makeD (l.getD k []) (l.getD i [])).length < (l.getD i []).length
        · rw [put_ahead hn hlt]
          have h8 := putL_len9 (show i - k ≤ 72057594037927936 from by omega)
          have h7 := putL_len9 (show (makeD (l.getD k []) (l.getD i [])).length ≤ 72057594037927936 from by omega)
          simp only [aheadE, List.length_cons, List.length_append]
          omega
        · rw [put_whole hn hlt]; simp only [wholeE, List.length_cons, List.length_append]; omega
    show ((_ : List UInt8) ++ _).length ≤ _
    rw [List.length_append]
    omega
set_option maxRecDepth 100000 in
set_option maxHeartbeats 800000 in
theorem pnum_lit (g n : Nat) (w : World) (h : Sl w (.slice (some ⟨g, 0, none⟩) 3 3) markL) (hn : n ≤ 72057594037927936) :
    Calls Try.prog 8 #[.slice (some ⟨g, 0, none⟩) 3 3, .int .i64 (n : Int)] w fun e w' => ∃ A m c, e = .returned (.slice A m c) ∧ Own w' w.heap.size (.slice A m c) (markL ++ putL n) ∧ Below w.heap.size w w' := by
  have H := Lib.hid h
  clear h
  go_enter Try.func8, Try.ntmps8
  go_wp2_with fail
  refine (put_any n w hn).mono ?_
  rintro e w1 ⟨u, rfl, hu, hb⟩
  obtain ⟨A, c, rfl, h1, h2, h3, h4⟩ := hu.sl
  have HI := Lib.hid h3.reads
  have HB := Lib.hid hb
  have hs := putL_len9 hn
  have hp := putL_pos n
  obtain ⟨_, _, e0, _, _, hI0, _⟩ := H.out.below hb
  injection e0 with e1 _ _
  subst e1
  have HM := Lib.hid hI0.reads
  obtain ⟨l, hl'⟩ : ∃ l, (putL n).length = l := ⟨_, rfl⟩
  have HLL := Lib.hid hl'
  rw [hl'] at HI hs hp ⊢
  obtain ⟨ad, rfl, _, hca⟩ := HI.out.2 hp
  obtain ⟨ad0, e3, _, hcm⟩ := HM.out.2 (by decide)
  injection e3 with e3
  subst e3
  obtain ⟨i0, hi, hz0, hz1, hz2⟩ := info_parts info5
  have HCA := Lib.hid hca
  have HCM := Lib.hid hcm
  have hl2 : ((putL n).map bv).length = l * 1 := by rw [List.length_map, hl', Nat.mul_one]
  have HL2 := Lib.hid hl2
  have hfull : 3 < 3 + l := by omega
  have b1 : 3 + l ≤ maxLen := by unfold maxLen; omega
  have b2 : (3 + l) * 1 ≤ 140737488355328 := by omega
  clear hu hb h1 h2 h3 h4 hs hl' hca hcm hl2 hI0
  go_wp2_with (at_builtin; refine wpList_append_grows w1 rfl (.tmp 12) (.tmp 13) 25 rfl 5 i0 (.int .u8 0) 1 1 Try.underlying25 hi hz0 hz1 hz2 rfl (by decide) (some ⟨g, 0, none⟩) 3 3 (markL.map bv) rfl (fun e => by cases e) rfl (fun b hb j u hu => by injection hb with hb; subst hb; exact HCM.out j u hu) ad l c ((putL n).map bv) rfl HL2.out (fun j u hu => HCA.out j u hu) (bv_one _) hfull b1 b2 ?_; intro v3 w3 ho3 hg3; have HO3 := Lib.hid ho3; have HG3 := Lib.hid hg3; clear ho3 hg3)
  have ho : Own w3 w1.heap.size v3 (markL ++ putL n) := by
    unfold Own
    rw [List.length_append, HLL.out, List.map_append]
    exact HO3.out
  obtain ⟨A3, m3, c3, hv3⟩ := own_slice ho
  subst hv3
  have HO := Lib.hid ho
  clear ho
  go_wp2_with fail
  go_ret
  exact ⟨A3, m3, c3, rfl, Own.based HO.out HB.out.size, HB.out.trans (((Below.refl w1.heap.size w1).grown HG3.out (Nat.le_refl _) (fun k hk => by cases hk)).mono HB.out.size)⟩
end Go.Proofs.Ytodlaikemoedfaa.Ob
