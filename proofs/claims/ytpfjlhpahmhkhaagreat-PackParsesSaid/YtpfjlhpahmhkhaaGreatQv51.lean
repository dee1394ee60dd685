/- Texts put together: VPkM, VPa4. -/
import Derived.Test.YtpfjlhpahmhkhaaGreatQv41
import Derived.Deep.CutBlock
import Derived.Deep.DeepCutAuto
import Derived.Test.YtpfjlhpahmhkhaaGreatQv50
import Derived.BigQuiet
/- What the laws of packs share: Few, Bytes, Lists. -/
set_option linter.unusedVariables false
set_option linter.unusedSimpArgs false
namespace Go.Proofs.YtpfjlhpahmhkhaaGreat.Ob
open Go.RowKit Go.Proofs.YtpfjlhpahmhkhaaGreat.Sh
open Go.Proofs.YtpfjlhpahmhkhaaGreat.Tx (Shape InL TmpL OwnL Typed Only By Rd Datas list_appendL step_appendL)
set_option maxRecDepth 100000 in
set_option maxHeartbeats 1600000 in
theorem lists_any (v1 v2 : Value) (l : List (List UInt8)) (w : World) (h1 : LsV w v1 l) (h2 : LsV w v2 l) : Calls Tryz.prog 28 #[v1, v2] w (YesP w) := by
 obtain ⟨A1, c1, rfl, hl1, hm1⟩ := h1.slice
 obtain ⟨A2, c2, rfl, hl2, hm2⟩ := h2.slice
 unfold maxLen at hm1 hm2
 have H1 := Lib.hid h1
 have H2 := Lib.hid h2
 obtain ⟨n, hn⟩ : ∃ n, l.length = n := ⟨_, rfl⟩
 rw [hn] at H1 H2 hl1 hl2 ⊢
 have HN := Lib.hid hn
 have zb : ((n : Int) != (n : Int)) = false := bne_self_eq_false _
 clear h1 h2 hn
 go_enter Tryz.func28, Tryz.ntmps28
 go_wp2_with fail
 go_loopw [5] (fun x wr => ∃ (i : Nat), i ≤ n ∧ x = .int .i64 (i : Int) ∧ Below w.heap.size w wr) (fun x _ => n - (intOf x).toNat)
 case atStart => exact ⟨0, Nat.zero_le _, rfl, Below.refl _ _⟩
 case round =>
  obtain ⟨i, hi, rfl, hb⟩ := hrel
  have HB := Lib.hid hb
  clear hb
  have z0 : (0 : Int) ≤ (i : Int) := by omega
  by_cases hlt : i < n
  ·have z1 : (i : Int) < (n : Int) := by omega
   have hgi : l[i]? = some (l[i]'(by have := HN.out; omega)) := List.getElem?_eq_getElem _
   obtain ⟨o, ho⟩ : ∃ o, (l[i]'(by have := HN.out; omega)) = o := ⟨_, rfl⟩
   rw [ho] at hgi
   obtain ⟨ad, A3, c3, rfl, y0, _, _, hs3⟩ := (H1.out.below HB.out).at_ i o hgi
   obtain ⟨ad4, A4, c4, rfl, y1, _, _, hs4⟩ := (H2.out.below HB.out).at_ i o hgi
   have HC := Lib.hid (rbytes_any _ _ o o wr hs3 hs4)
   have HS3 := Lib.hid hs3
   have HS4 := Lib.hid hs4
   rw [show (o == o) = true from beq_self_eq_true _] at HC
   obtain ⟨ol, hol⟩ : ∃ m, o.length = m := ⟨_, rfl⟩
   rw [hol] at y0 y1 HS3 HS4
   clear hgi ho hs3 hs4 hol
   go_upto_region 6 with (fail)
   go_quiet ((go_at_call 29; exact Calls.quiet_of_same ((rbytes_any _ _ o o _ (by exact HS3.out) (by exact HS4.out)).mono fun _ _ h => ⟨h.1.trans (by rw [beq_self_eq_true]), h.2.symm⟩)))
   go_wp2_with fail
   go_roundw
   case rel => exact ⟨i + 1, by omega, by go_num, below_drewN HB.out _⟩
   case measure => simp [intOf]; omega
  ·obtain rfl : i = n := by omega
   go_wp2_with fail
   go_ret
   exact ⟨rfl, HB.out⟩
end Go.Proofs.YtpfjlhpahmhkhaaGreat.Ob
/- The document's Parse and Index; the walk of PackParses. -/
set_option linter.unusedVariables false
set_option linter.unusedSimpArgs false
namespace Go.Proofs.YtpfjlhpahmhkhaaGreat.Ob
open Go.RowKit Go.Proofs.YtpfjlhpahmhkhaaGreat.Sh
open Go.Proofs.YtpfjlhpahmhkhaaGreat.Tx (Only Rd Shape TmpL OwnL By Typed Datas)
def dataP (r : Int × List EntM) : List (List UInt8) := if r.1 = 0 then r.2.map (fun e => e.data) else []
def rowsP (r : Int × List EntM) : List EntM := if r.1 = 0 then r.2 else []
def RP1 (dl : List (List UInt8)) (rn k1 : Int) (w : World) (e : Ending) (w' : World) : Prop := ∃ A c, e = .returned (.tuple #[.slice A dl.length c, .int .i64 rn, .int .i64 k1]) ∧ Below w.heap.size w w' ∧ LsV w' (.slice A dl.length c) dl
def RP2 (rl : List EntM) (k1 : Int) (w : World) (e : Ending) (w' : World) : Prop := ∃ A c, e = .returned (.tuple #[.slice A rl.length c, .int .i64 k1]) ∧ Below w.heap.size w w' ∧ RwV w' (.slice A rl.length c) rl
theorem loop_ok (b : List UInt8) (base : BaseM) : ∀ (n : Nat) (read : List EntM) (k : Nat), (∀ e ∈ read, e.data.length ≤ 20000) → ∀ e ∈ (loopP b base n read k).2, e.data.length ≤ 20000
 | 0, read, k, h => by rw [loop_end]; split <;> exact h
 | n + 1, read, k, h => by
  by_cases hp : (oneP b base read k).1 = 0
  ·rw [loop_on hp]
   refine loop_ok b base n _ _ (fun e he => ?_)
   rcases List.mem_append.1 he with he | he
   ·exact h e he
   ·rw [List.mem_singleton] at he
    subst he
    exact (one_le b base read k).1
  ·rw [loop_err hp]; exact h
theorem body_ok (b : List UInt8) (base : BaseM) : (bodyP b base).2.length ≤ 512 ∧ ∀ e ∈ (bodyP b base).2, e.data.length ≤ 20000 := by
 unfold bodyP
 split
 ·exact ⟨by simp, fun e he => by cases he⟩
 ·split
  ·exact ⟨by simp, fun e he => by cases he⟩
  ·split
   ·exact ⟨by simp, fun e he => by cases he⟩
   ·refine ⟨?_, loop_ok _ _ _ _ _ (fun e he => by cases he)⟩
    have := loop_len b base (getR b 3).1.toNat [] (getR b 3).2.1.toNat
    simp at this
    omega
theorem read_ok (bs : List UInt8) (base : BaseM) : (readP bs base).2.length ≤ 512 ∧ ∀ e ∈ (readP bs base).2, e.data.length ≤ 20000 := by
 unfold readP
 split
 ·exact ⟨by simp, fun e he => by cases he⟩
 ·split
  ·exact ⟨by simp, fun e he => by cases he⟩
  ·exact body_ok _ _
section
variable {vb vI vO : Value} {bs : List UInt8} {ids objs : List (List UInt8)}
set_option maxRecDepth 100000 in
set_option maxHeartbeats 1600000 in
theorem rparse1_any (w : World) (hb : Sl w vb bs) (hbl : bs.length ≤ 1000000) (hI : Tx.SlV w vI ((ids.map str).map Tx.sv)) (hO : LsV w vO objs) (hlen : ids.length = objs.length) (hil : ids.length ≤ 1000000) (hos : ∀ x ∈ objs, x.length ≤ 1000000) :
  Calls Tryz.prog 24 #[vb, .agg #[vI, vO, .pointer none]] w (RP1 (dataP (readP bs (srcK ids objs))) ((readP bs (srcK ids objs)).2.length : Int) (readP bs (srcK ids objs)).1 w) := by
 obtain ⟨AO, cO, rfl, hlO, hmO⟩ := hO.slice
 obtain ⟨AI, mI, cI, rfl⟩ : ∃ A m c, vI = .slice A m c := by
  obtain ⟨A, c, e, _⟩ := hI
  exact ⟨A, _, c, e⟩
 have HC : Hid (∀ W, Below w.heap.size w W → Calls Tryz.prog 116 #[vb, .agg #[.slice AI mI cI, .slice AO objs.length cO, .pointer none]] W (RParsePost (readP bs (srcK ids objs)) W)) := fun W hW => rparse_any W (hb.below hW) hbl (hI.below hW) (hO.below hW) hlen hil hos
 obtain ⟨lo, hlo⟩ : ∃ lo, objs.length = lo := ⟨_, rfl⟩
 rw [hlo] at HC ⊢
 obtain ⟨R, hR⟩ : ∃ R, readP bs (srcK ids objs) = R := ⟨_, rfl⟩
 rw [hR] at HC ⊢
 obtain ⟨wa, hwa⟩ : ∃ W, W = w.alloc (.cells #[.slice AI mI cI, .slice AO lo cO, .pointer none] 53) := ⟨_, rfl⟩
 have HBA : Hid (Below w.heap.size w wa) := by unfold Hid; rw [hwa]; exact (Below.refl _ _).alloc (Nat.le_refl _) _
 have hbk : Blk wa w.heap.size 53 #[.slice AI mI cI, .slice AO lo cO, .pointer none] := by rw [hwa]; exact Blk.new _ _ _
 have n0 := hbk.cell 0
 have n1 := hbk.cell 1
 have n2 := hbk.cell 2
 obtain ⟨A, m, c, rfl⟩ : ∃ A m c, vb = .slice A m c := by
  obtain ⟨A, c, e, _⟩ := hb
  exact ⟨A, _, c, e⟩
 clear hb hbl hI hO hlen hil hos hlo hR hlO hmO hbk
 go_enter Tryz.func24, Tryz.ntmps24
 go_upto_region 1 with (fail)
 rw [← hwa]
 clear hwa
 go_wp2_with fail
 refine (HC.out wa HBA.out).mono ?_
 rintro y w2 ⟨AD, AR, nD, cD, nR, cR, rfl, hb2, hls, hrw⟩
 have HB2 := Lib.hid (HBA.out.trans (hb2.mono HBA.out.size))
 have HLS : Hid (nD = (dataP R).length ∧ LsV w2 (.slice AD nD cD) (dataP R)) := by
  obtain ⟨A', c', e, _⟩ := LsV.slice hls
  injection e with _ e _
  exact ⟨e, hls⟩
 clear hb2 hls hrw n0 n1 n2
 go_wp2_with fail
 go_ret3
 obtain ⟨rfl, h⟩ := HLS.out
 exact ⟨AD, cD, rfl, HB2.out, h⟩
set_option maxRecDepth 100000 in
set_option maxHeartbeats 1600000 in
theorem rindex_any (w : World) (hb : Sl w vb bs) (hbl : bs.length ≤ 1000000) (hI : Tx.SlV w vI ((ids.map str).map Tx.sv)) (hO : LsV w vO objs) (hlen : ids.length = objs.length) (hil : ids.length ≤ 1000000) (hos : ∀ x ∈ objs, x.length ≤ 1000000) :
  Calls Tryz.prog 27 #[vb, .agg #[vI, vO, .pointer none]] w (RP2 (rowsP (readP bs (srcK ids objs))) (readP bs (srcK ids objs)).1 w) := by
 obtain ⟨AO, cO, rfl, hlO, hmO⟩ := hO.slice
 obtain ⟨AI, mI, cI, rfl⟩ : ∃ A m c, vI = .slice A m c := by
  obtain ⟨A, c, e, _⟩ := hI
  exact ⟨A, _, c, e⟩
 have HC : Hid (∀ W, Below w.heap.size w W → Calls Tryz.prog 116 #[vb, .agg #[.slice AI mI cI, .slice AO objs.length cO, .pointer none]] W (RParsePost (readP bs (srcK ids objs)) W)) := fun W hW => rparse_any W (hb.below hW) hbl (hI.below hW) (hO.below hW) hlen hil hos
 obtain ⟨lo, hlo⟩ : ∃ lo, objs.length = lo := ⟨_, rfl⟩
 rw [hlo] at HC ⊢
 obtain ⟨R, hR⟩ : ∃ R, readP bs (srcK ids objs) = R := ⟨_, rfl⟩
 rw [hR] at HC ⊢
 obtain ⟨wa, hwa⟩ : ∃ W, W = w.alloc (.cells #[.slice AI mI cI, .slice AO lo cO, .pointer none] 53) := ⟨_, rfl⟩
 have HBA : Hid (Below w.heap.size w wa) := by unfold Hid; rw [hwa]; exact (Below.refl _ _).alloc (Nat.le_refl _) _
 have hbk : Blk wa w.heap.size 53 #[.slice AI mI cI, .slice AO lo cO, .pointer none] := by rw [hwa]; exact Blk.new _ _ _
 have n0 := hbk.cell 0
 have n1 := hbk.cell 1
 have n2 := hbk.cell 2
 obtain ⟨A, m, c, rfl⟩ : ∃ A m c, vb = .slice A m c := by
  obtain ⟨A, c, e, _⟩ := hb
  exact ⟨A, _, c, e⟩
 clear hb hbl hI hO hlen hil hos hlo hR hlO hmO hbk
 go_enter Tryz.func27, Tryz.ntmps27
 go_upto_region 1 with (fail)
 rw [← hwa]
 clear hwa
 go_wp2_with fail
 refine (HC.out wa HBA.out).mono ?_
 rintro y w2 ⟨AD, AR, nD, cD, nR, cR, rfl, hb2, hls, hrw⟩
 have HB2 := Lib.hid (HBA.out.trans (hb2.mono HBA.out.size))
 have HLS : Hid (nR = (rowsP R).length ∧ RwV w2 (.slice AR nR cR) (rowsP R)) := by
  obtain ⟨A', c', e, _⟩ := RwV.slice hrw
  injection e with _ e _
  exact ⟨e, hrw⟩
 clear hb2 hls hrw n0 n1 n2
 go_wp2_with fail
 go_ret2
 obtain ⟨rfl, h⟩ := HLS.out
 exact ⟨AR, cR, rfl, HB2.out, h⟩
end
end Go.Proofs.YtpfjlhpahmhkhaaGreat.Ob
