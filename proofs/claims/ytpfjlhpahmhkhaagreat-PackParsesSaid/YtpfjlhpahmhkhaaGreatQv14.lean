/- Texts put together: VRl0, VShR3. -/
import Derived.Test.YtpfjlhpahmhkhaaGreatQv05
import Derived.Test.YtpfjlhpahmhkhaaGreatQv13
import Derived.Deep.CutBlock
import Derived.Deep.DeepCutAuto
import Derived.Test.YtpfjlhpahmhkhaaGreatQv12
import Derived.Test.YtpfjlhpahmhkhaaGreatQv09
/- Lists of lists of bytes, in memory; marlaw10's Few, marref's Bytes. -/
set_option linter.unusedVariables false
set_option linter.unusedSimpArgs false
namespace Go.Proofs.YtpfjlhpahmhkhaaGreat.Ob
open Go.RowKit Go.Proofs.YtpfjlhpahmhkhaaGreat.Sh
open Go.Proofs.YtpfjlhpahmhkhaaGreat.Tx (Shape InL TmpL OwnL Typed Only By Rd Datas list_appendL step_appendL)
theorem bv_tx : (Tx.bv : UInt8 → Value) = bv := by funext u; unfold Tx.bv bv Tx.bi bi; rfl
theorem by_sl {F : Nat → Prop} {w : World} {v : Value} {bs : List UInt8} (h : By F w v bs) : Sl w v bs := by
 obtain ⟨A, c, hv, h1, h2, h3, h4, h5⟩ := h
 refine ⟨A, c, hv, h1, h2, fun h0 => ?_, fun e => List.eq_nil_of_length_eq_zero (h4 e)⟩
 obtain ⟨ad, e, _, hl, hc⟩ := h5 h0
 refine ⟨ad, e, hl, fun j hj => ?_⟩
 refine hc j _ ?_
 rw [List.getElem?_map, List.getElem?_eq_getElem hj, List.getD_eq_getElem?_getD, List.getElem?_eq_getElem hj, bv_tx]
 rfl
theorem own_by {F : Nat → Prop} {w : World} {B : Nat} {v : Value} {bs : List UInt8} (h : Own w B v bs) (hF : ∀ k, v.ownBlock = some k → F k) : By F w v bs := by
 unfold By
 rw [bv_tx]
 exact Rd.of_own h hF
theorem sl_by {w : World} {v : Value} {bs : List UInt8} (h : Sl w v bs) : By (fun k => k < w.heap.size) w v bs := by
 obtain ⟨A, c, hv, h1, h2, h3, h4⟩ := h
 refine ⟨A, c, hv, h1, h2, by simp, (fun e => by rw [h4 e]; rfl), fun h0 => ?_⟩
 obtain ⟨ad, e, hl, hc⟩ := h3 h0
 refine ⟨ad, e, hl, hl, fun j u hu => ?_⟩
 rw [List.getElem?_map] at hu
 cases hj : bs[j]? with
 | none => rw [hj] at hu; cases hu
 | some y =>
  rw [hj] at hu
  have hlt := (List.getElem?_eq_some_iff.1 hj).1
  rw [hc j hlt, List.getD_eq_getElem?_getD, hj]
  rw [← hu, bv_tx]
  rfl
def lstK : Shape where
 α := List UInt8
 cells := fun _ d => [d]
 data := fun e => e
 m := 1
 pos := by decide
 len := fun _ _ => rfl
 one := fun a d hd u hu => by
  rw [List.mem_singleton] at hu
  rw [hu]
  exact hd
theorem typed_lst : Typed Tryz.prog lstK 32 42 (.slice none 0 0) 24 := ⟨by kernel_rfl, Tryz.underlying42, rfl, by decide⟩
def LsV (w : World) (v : Value) (l : List (List UInt8)) : Prop := TmpL lstK (fun _ => True) w v l
section
variable {w w' : World} {v : Value} {l : List (List UInt8)}
theorem LsV.below (h : LsV w v l) (hb : Below w.heap.size w w') : LsV w' v l := TmpL.below (K := lstK) h hb
theorem LsV.slice (h : LsV w v l) : ∃ A c, v = .slice A l.length c ∧ l.length ≤ c ∧ c ≤ maxLen := TmpL.slice (K := lstK) h
theorem LsV.at_ {A : Option Addr} {n c : Nat} (h : LsV w (.slice A n c) l) (k : Nat) (a : List UInt8) (hk : l[k]? = some a) : ∃ (ad : Addr) (A2 : Option Addr) (c2 : Nat), A = some ad ∧ w.cell? (ad.add k) = some (.slice A2 a.length c2) ∧ a.length ≤ c2 ∧ c2 ≤ maxLen ∧ Sl w (.slice A2 a.length c2) a := by
 obtain ⟨ad, d, hA, hby, hc⟩ := TmpL.at_ (K := lstK) h k a hk
 obtain ⟨A2, c2, rfl, h1, h2⟩ := Tx.By.slice hby
 have := hc 0 _ rfl
 exact ⟨ad, A2, c2, hA, by simpa [lstK] using this, h1, h2, by_sl hby⟩
theorem LsV.nil_ (w : World) : LsV w (.slice none 0 0) [] := ⟨[], Rd.nil_ _ w _, Datas.nil_⟩
end
theorem sh_lst : ∀ (l : List (List UInt8)) (ds : List Value), ds.length = l.length → Tx.ShC lstK l ds = ds
 | [], [], _ => rfl
 | [], y :: b, h => by simp at h
 | x :: a, [], h => by simp at h
 | x :: a, y :: b, h => by
  show [y] ++ Tx.ShC lstK a b = y :: b
  exact congrArg (fun L : List Value => y :: L) (sh_lst a b (by simpa using h))
theorem LsV.mk {w : World} {A : Option Addr} {c : Nat} {l : List (List UInt8)} (f : Nat → Value) (hlc : l.length ≤ c) (hcm : c ≤ maxLen) (h0 : A = none → l = []) (h : ∀ (k : Nat) (a : List UInt8), l[k]? = some a → ∃ ad, A = some ad ∧ ad.block < w.heap.size ∧ w.cell? (ad.add k) = some (f k) ∧ Sl w (f k) a) : LsV w (.slice A l.length c) l := by
 have hds : ((List.range l.length).map f).length = l.length := by simp
 have hsh := sh_lst l ((List.range l.length).map f) hds
 refine ⟨(List.range l.length).map f, ⟨A, c, rfl, hlc, hcm, ?_, fun e => ?_, fun hp => ?_⟩, ?_, fun i d b hi hb => ?_⟩
 ·exact (congrArg List.length hsh).trans (hds.trans (Nat.mul_one _).symm)
 ·have := h0 e
  subst this
  rfl
 ·have hp' : 0 < l.length := hp
  obtain ⟨ad, e, hlt, _⟩ := h 0 l[0] (List.getElem?_eq_getElem hp')
  refine ⟨ad, e, trivial, hlt, fun j u hu => ?_⟩
  have hu2 : ((List.range l.length).map f)[j]? = some u := (congrArg (fun L : List Value => L[j]?) hsh).symm.trans hu
  rw [List.getElem?_map] at hu2
  cases hj : (List.range l.length)[j]? with
  | none => rw [hj] at hu2; cases hu2
  | some m =>
   rw [hj] at hu2
   obtain ⟨hjl, hjm⟩ := List.getElem?_eq_some_iff.1 hj
   rw [List.getElem_range] at hjm
   subst hjm
   rw [List.length_range] at hjl
   obtain ⟨ad', e', _, hc, _⟩ := h j l[j] (List.getElem?_eq_getElem hjl)
   rw [e] at e'
   injection e' with e'
   subst e'
   injection hu2 with hu2
   rw [hc, hu2]
 ·have h9 : (l.map fun e => e).length = l.length := by rw [List.length_map]
  exact hds.trans h9.symm
 ·have hb2 : l[i]? = some b := by
   have h9 : (l.map fun e => e)[i]? = some b := hb
   rw [List.getElem?_map] at h9
   cases hq : l[i]? with
   | none => rw [hq] at h9; cases h9
   | some y => rw [hq] at h9; exact h9
  rw [List.getElem?_map] at hi
  have hil := (List.getElem?_eq_some_iff.1 hb2).1
  rw [List.getElem?_range hil] at hi
  injection hi with hi
  obtain ⟨_, _, _, _, hsl⟩ := h i b hb2
  rw [← hi]
  exact (sl_by hsl).mono (fun _ _ _ => trivial)
def PFewPost (l : List (List UInt8)) (w : World) (e : Ending) (w' : World) : Prop := ∃ t, e = .returned (.bool t) ∧ (t = true → l.length ≤ 40 ∧ ∀ o ∈ l, o.length ≤ 1500) ∧ Below w.heap.size w w'
set_option maxRecDepth 100000 in
set_option maxHeartbeats 3200000 in
theorem pfew_any (v : Value) (l : List (List UInt8)) (w : World) (h : LsV w v l) : Calls Tryz.prog 20 #[v] w (PFewPost l w) := by
 obtain ⟨A, c, rfl, hlc, hcm⟩ := h.slice
 unfold maxLen at hcm
 have HL := Lib.hid h
 obtain ⟨n, hn⟩ : ∃ n, l.length = n := ⟨_, rfl⟩
 rw [hn] at HL hlc ⊢
 have HN := Lib.hid hn
 clear h hn
 go_enter Tryz.func20, Tryz.ntmps20
 go_wp2_with fail
 go_loopw [3, 4] (fun a x wr => ∃ (i : Nat) (s : Int), i ≤ n ∧ i ≤ 40 ∧ x = .int .i64 (i : Int) ∧ a = .int .i64 s ∧ 0 ≤ s ∧ s ≤ 24000 ∧ Below w.heap.size w wr ∧ ∀ (j : Nat) (o : List UInt8), j < i → l[j]? = some o → o.length ≤ 1500) (fun _ x _ => 41 - (intOf x).toNat)
 case atStart => exact ⟨0, 0, Nat.zero_le _, Nat.zero_le _, rfl, rfl, by omega, by omega, Below.refl _ _, fun j o hj => by omega⟩
 case round =>
  obtain ⟨i, s, hi, hi4, rfl, rfl, hs0, hs1, hb, hall⟩ := hrel
  have HB := Lib.hid hb
  have HALL := Lib.hid hall
  clear hb hall
  have z0 : (0 : Int) ≤ (i : Int) := by omega
  by_cases hlt : i < n
  ·have z1 : (i : Int) < (n : Int) := by omega
   by_cases h40 : i < 40
   ·have z2 : (i : Int) < 40 := by omega
    have hgi : l[i]? = some (l[i]'(by have := HN.out; omega)) := List.getElem?_eq_getElem _
    obtain ⟨o, ho⟩ : ∃ o, (l[i]'(by have := HN.out; omega)) = o := ⟨_, rfl⟩
    rw [ho] at hgi
    obtain ⟨ad, A2, c2, rfl, y0, _, _, hsl⟩ := (HL.out.below HB.out).at_ i o hgi
    have HGI := Lib.hid hgi
    obtain ⟨ol, hol⟩ : ∃ m, o.length = m := ⟨_, rfl⟩
    rw [hol] at y0
    have HOL := Lib.hid hol
    have z5 : (0 : Int) ≤ (ol : Int) := by omega
    clear hgi ho hsl hol
    go_upto_region 5 with (fail)
    go_cut [3] (fun a wx => ∃ s2 : Int, a = .int .i64 s2 ∧ 0 ≤ s2 ∧ s2 ≤ 24000 ∧ wx = wr)
    case first =>
     go_wp2_with fail
     all_goals
      go_meet
      exact ⟨_, rfl, by first | omega | (rw [IntKind.wrap_i64]; omega), by first | omega | (rw [IntKind.wrap_i64]; omega), rfl⟩
    case rest =>
     obtain ⟨s2, rfl, hs2, hs3, rfl⟩ := hcut
     by_cases h15 : ol ≤ 1500
     ·have z3 : (ol : Int) ≤ 1500 := by omega
      go_wp2_with fail
      go_roundw
      case rel => exact ⟨i + 1, s2, by omega, by omega, by go_num, rfl, hs2, hs3, HB.out, fun j o' hj ho' => by
       by_cases e : j = i
       ·subst e
        have : o' = o := by have := HGI.out; rw [this] at ho'; injection ho' with ho'; exact ho'.symm
        rw [this, HOL.out]; exact h15
       ·exact HALL.out j o' (by omega) ho'⟩
      case measure => simp [intOf]; omega
     ·have z3 : (1500 : Int) < (ol : Int) := by omega
      go_wp2_with fail
      go_ret
      exact ⟨false, rfl, (fun e => by cases e), HB.out⟩
   ·have hi40 : i = 40 := by omega
    have z2 : (40 : Int) ≤ (i : Int) := by omega
    have z3 : (40 : Int) < (n : Int) := by omega
    go_wp2_with fail
    go_ret
    exact ⟨false, rfl, (fun e => by cases e), HB.out⟩
  ·obtain rfl : i = n := by omega
   have z1 : (i : Int) ≤ 40 := by omega
   have hfin : l.length ≤ 40 ∧ ∀ o ∈ l, o.length ≤ 1500 := ⟨by rw [HN.out]; exact hi4, fun o ho => by
    obtain ⟨j, hj, e⟩ := List.getElem_of_mem ho
    exact HALL.out j o (by rw [← HN.out]; exact hj) (by rw [List.getElem?_eq_getElem hj, e])⟩
   have HF := Lib.hid hfin
   clear hfin hlt
   go_wp2_with fail
   go_ret
   exact ⟨_, rfl, fun _ => HF.out, HB.out⟩
set_option maxRecDepth 100000 in
set_option maxHeartbeats 400000 in
theorem rbytes_any (v1 v2 : Value) (d1 d2 : List UInt8) (w : World) (h1 : Sl w v1 d1) (h2 : Sl w v2 d2) : Calls Tryz.prog 29 #[v1, v2] w fun e w' => e = .returned (.bool (d1 == d2)) ∧ w = w' := by
 obtain ⟨A1, c1, rfl, _, _, i1, n1⟩ := h1
 obtain ⟨A2, c2, rfl, _, _, i2, n2⟩ := h2
 have k1 := conv_str w A1 d1 c1 i1 n1
 have k2 := conv_str w A2 d2 c2 i2 n2
 obtain ⟨l1, e1⟩ : ∃ l, d1.length = l := ⟨_, rfl⟩
 obtain ⟨l2, e2⟩ : ∃ l, d2.length = l := ⟨_, rfl⟩
 rw [e1] at k1 ⊢
 rw [e2] at k2 ⊢
 clear e1 e2 i1 n1 i2 n2
 go_enter Tryz.func29, Tryz.ntmps29
 go_wp2_with fail
 go_ret
 refine ⟨?_, rfl⟩
 show Ending.returned (.bool ((str d1).toList == (str d2).toList)) = _
 rw [str_toList, str_toList]
end Go.Proofs.YtpfjlhpahmhkhaaGreat.Ob
/- The reference's Sum: plain lists; what its blocks hold. -/
namespace Go.Proofs.YtpfjlhpahmhkhaaGreat.Sh
open Go.RowKit
theorem blocks_add (s : St) (x y : List UInt8) (k j : Nat) (h : x.length = 64 * k) : blocks s (x ++ y) (k + j) = blocks (blocks s x k) y j := by
 induction j with
 | zero => rw [Nat.add_zero, blocks_zero, blocks_append _ _ _ _ (by omega)]
 | succ j ih =>
  rw [← Nat.add_assoc, blocks_next, blocks_next, ih]
  congr 1
  rw [List.drop_append, List.drop_eq_nil_of_le (by omega), List.nil_append, show 64 * (k + j) - x.length = 64 * j from by omega]
theorem sum_pad (bs : List UInt8) : sumOf bs = outB (blocks St.first (lastOf bs bs.length) ((lastOf bs bs.length).length / 64)) := by
 obtain ⟨n, hn⟩ : ∃ n, bs.length = n := ⟨_, rfl⟩
 obtain ⟨x, hx⟩ : ∃ x, bs.take (64 * (n / 64)) = x := ⟨_, rfl⟩
 have hxl : x.length = 64 * (n / 64) := by rw [← hx, List.length_take, hn]; omega
 have e1 : lastOf bs n = x ++ lastOf (tail64 bs) n := by
  unfold lastOf tail64
  rw [hn, ← hx, ← List.append_assoc, ← List.append_assoc, List.take_append_drop]
 have e2 : full bs = blocks St.first x (n / 64) := by
  rw [full_eq, hn]
  conv => lhs; rw [← List.take_append_drop (64 * (n / 64)) bs, hx]
  exact blocks_append _ _ _ _ (by omega)
 rw [sumOf_eq, hn, e1, e2, ← blocks_add _ _ _ _ _ hxl]
 congr 2
 rw [List.length_append, hxl]
 omega
theorem lastOf_len (bs : List UInt8) (n : Nat) (h : bs.length = n) : (lastOf bs n).length = n + zeros n + 9 := by
 unfold lastOf
 rw [List.length_append, List.length_append, List.length_cons, List.length_replicate, len8_length, h]
 omega
theorem lastOf_mul (bs : List UInt8) (n : Nat) (h : bs.length = n) : ∃ N, (lastOf bs n).length = 64 * N ∧ N ≤ n / 64 + 2 := by
 refine ⟨(n + zeros n + 9) / 64, ?_⟩
 rw [lastOf_len bs n h]
 unfold zeros
 omega
def RF (w0 w : World) (gk gh gm : Nat) (cur : Array Value) (s : St) : Prop :=
 Blk w gk 340 kv.toArray ∧ Blk w gh 340 (stc s) ∧ Blk w gm 5 cur ∧ Below w0.heap.size w0 w
section
variable {w0 w : World} {gk gh gm : Nat} {cur : Array Value} {s : St}
theorem RF.far (h : RF w0 w gk gh gm cur s) {p : Addr} (n1 : gk ≠ p.block) (n2 : gh ≠ p.block) (n3 : gm ≠ p.block) (hb : w0.heap.size ≤ p.block) (u : Value) : RF w0 (w.setCell p u) gk gh gm cur s :=
 ⟨h.1.far n1 u, h.2.1.far n2 u, h.2.2.1.far n3 u, h.2.2.2.setCell hb u⟩
theorem RF.drewN (h : RF w0 w gk gh gm cur s) (k : Nat) : RF w0 (w.drewN k) gk gh gm cur s := ⟨h.1, h.2.1, h.2.2.1, below_drewN h.2.2.2 k⟩
theorem RF.drew (h : RF w0 w gk gh gm cur s) : RF w0 w.drew gk gh gm cur s := ⟨h.1, h.2.1, h.2.2.1, h.2.2.2.drew⟩
theorem RF.alloc (h : RF w0 w gk gh gm cur s) (o : Obj) : RF w0 (w.alloc o) gk gh gm cur s := ⟨h.1.alloc o, h.2.1.alloc o, h.2.2.1.alloc o, h.2.2.2.alloc h.2.2.2.size o⟩
theorem RF.row (h : RF w0 w gk gh gm cur s) {g : Nat} (n1 : gk ≠ g) (n2 : gh ≠ g) (n3 : gm ≠ g) (hb : w0.heap.size ≤ g) (c : Array Value) : RF w0 (w.setRow g c) gk gh gm cur s :=
 ⟨h.1.rowFar n1 c, h.2.1.rowFar n2 c, h.2.2.1.rowFar n3 c, below_setRow h.2.2.2 hb c⟩
end
def Sc (bs : List UInt8) (w : World) (g n : Nat) : Prop :=
 ∃ cs, Blk w g 340 cs ∧ cs.size = 64 ∧ (∀ j, j < n → cs[j]? = some (wv (wd bs j))) ∧ ∀ j, j < 64 → ∃ u, cs[j]? = some (.int .u32 u)
theorem Sc.zero {bs bs' : List UInt8} {w : World} {g n : Nat} (h : Sc bs w g n) : Sc bs' w g 0 := by
 obtain ⟨cs, h1, h2, _, h4⟩ := h
 exact ⟨cs, h1, h2, fun j hj => by omega, h4⟩
theorem Sc.set {bs : List UInt8} {w : World} {g k : Nat} (h : Sc bs w g k) (hk : k < 64) (u : UInt32) (hu : u = wd bs k) : Sc bs (w.setCell ⟨g, k, none⟩ (.int .u32 (wi u))) g (k + 1) := by
 obtain ⟨cs, hb, hz, hd, hi⟩ := h
 rw [hu]
 have hget : ∀ j, (cs.setIfInBounds k (.int .u32 (wi (wd bs k))))[j]? = if k = j then some (wv (wd bs k)) else cs[j]? := by
  intro j
  rw [Array.getElem?_setIfInBounds]
  by_cases e : k = j
  ·subst e; rw [if_pos rfl, if_pos (by omega), if_pos rfl]; rfl
  ·rw [if_neg e, if_neg e]
 refine ⟨_, hb.set_ k _, ?_, ?_, ?_⟩
 ·rw [Array.size_setIfInBounds]; exact hz
 ·intro j hj
  rw [hget]
  by_cases e : k = j
  ·subst e; rw [if_pos rfl]
  ·rw [if_neg e]; exact hd j (by omega)
 ·intro j hj
  rw [hget]
  by_cases e : k = j
  ·subst e; rw [if_pos rfl]; exact ⟨_, rfl⟩
  ·rw [if_neg e]; exact hi j hj
theorem Sc.drew {bs : List UInt8} {w : World} {g n : Nat} (h : Sc bs w g n) : Sc bs w.drew g n := h
theorem Sc.drewN {bs : List UInt8} {w : World} {g n : Nat} (h : Sc bs w g n) (k : Nat) : Sc bs (w.drewN k) g n := h
theorem Sc.alloc {bs : List UInt8} {w : World} {g n : Nat} (h : Sc bs w g n) (o : Obj) : Sc bs (w.alloc o) g n := by
 obtain ⟨cs, hb, r⟩ := h
 exact ⟨cs, hb.alloc o, r⟩
theorem Sc.far {bs : List UInt8} {w : World} {g n : Nat} (h : Sc bs w g n) {p : Addr} (hp : g ≠ p.block) (u : Value) : Sc bs (w.setCell p u) g n := by
 obtain ⟨cs, hb, r⟩ := h
 exact ⟨cs, hb.far hp u, r⟩
theorem Sc.row {bs : List UInt8} {w : World} {g n : Nat} (h : Sc bs w g n) {g' : Nat} (hp : g ≠ g') (c : Array Value) : Sc bs (w.setRow g' c) g n := by
 obtain ⟨cs, hb, r⟩ := h
 exact ⟨cs, hb.rowFar hp c, r⟩
theorem Sc.cell {bs : List UInt8} {w : World} {g n : Nat} (h : Sc bs w g n) (j : Nat) (hj : j < n) : w.cell? ⟨g, j, none⟩ = some (.int .u32 (wi (wd bs j))) := by
 obtain ⟨cs, hb, _, hd, _⟩ := h
 rw [hb.cell]; exact hd j hj
theorem Sc.any {bs : List UInt8} {w : World} {g n : Nat} (h : Sc bs w g n) (j : Nat) (hj : j < 64) : ∃ u, w.cell? ⟨g, j, none⟩ = some (.int .u32 u) := by
 obtain ⟨cs, hb, _, _, hi⟩ := h
 obtain ⟨u, hu⟩ := hi j hj
 exact ⟨u, by rw [hb.cell]; exact hu⟩
theorem Sc.frozen {bs : List UInt8} {w : World} {g n : Nat} (h : Sc bs w g n) (j : Nat) : w.frozen? ⟨g, j, none⟩ = false := by
 obtain ⟨cs, hb, _⟩ := h
 exact hb.frozen j
theorem made_any {c : Value} (k j : Nat) (hj : j < k) : (madeCells #[c] k)[j]? = some c := by
 rw [← Array.getElem?_toList, toList_madeCells_one, List.getElem?_replicate, if_pos hj]
theorem Sc.made (bs : List UInt8) (w : World) : Sc bs (w.alloc (.cells (madeCells #[.int .u32 0] 64) 340)) w.heap.size 0 := by
 refine ⟨_, heap_alloc_new _ _, by rw [size_madeCells], fun j hj => by omega, fun j hj => ⟨0, made_any 64 j hj⟩⟩
def mix (s t : St) (i : Nat) : Array Value := (((plus s t).list.take i ++ s.list.drop i).map wv).toArray
theorem mix_zero (s t : St) : mix s t 0 = stc s := rfl
theorem mix_all (s t : St) : mix s t 8 = stc (plus s t) := rfl
theorem mix_get (s t : St) (i : Nat) (hi : i < 8) : (mix s t i)[i]? = some (.int .u32 (wi (s.list.getD i 0))) := by
 obtain rfl | rfl | rfl | rfl | rfl | rfl | rfl | rfl : i = 0 ∨ i = 1 ∨ i = 2 ∨ i = 3 ∨ i = 4 ∨ i = 5 ∨ i = 6 ∨ i = 7 := by omega
 all_goals rfl
theorem stc_get (s : St) (i : Nat) (hi : i < 8) : (stc s)[i]? = some (.int .u32 (wi (s.list.getD i 0))) := by
 obtain rfl | rfl | rfl | rfl | rfl | rfl | rfl | rfl : i = 0 ∨ i = 1 ∨ i = 2 ∨ i = 3 ∨ i = 4 ∨ i = 5 ∨ i = 6 ∨ i = 7 := by omega
 all_goals rfl
theorem mix_set (s t : St) (i : Nat) (hi : i < 8) : (mix s t i).setIfInBounds i (.int .u32 (wi (s.list.getD i 0 + t.list.getD i 0))) = mix s t (i + 1) := by
 obtain rfl | rfl | rfl | rfl | rfl | rfl | rfl | rfl : i = 0 ∨ i = 1 ∨ i = 2 ∨ i = 3 ∨ i = 4 ∨ i = 5 ∨ i = 6 ∨ i = 7 := by omega
 all_goals simp [mix, St.list, plus, wv]
theorem make_words (w : World) :
  (Instr.makeSlice 338 (.int .i64 64) (.int .i64 64)).run Tryz.prog w = .ok (.slice (some ⟨w.heap.size, 0, none⟩) 64 64) (w.alloc (.cells (madeCells #[.int .u32 0] 64) 340)) := by
 kernel_rfl
end Go.Proofs.YtpfjlhpahmhkhaaGreat.Sh
