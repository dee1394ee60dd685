/- Texts put together: VShW8, VShH1, VShW9. -/
import Derived.Test.YtbenkmihkbjgeaaGreatQv24
import Derived.Laws.CopyOwn
/- New, Len. -/
namespace Go.Proofs.YtbenkmihkbjgeaaGreat.Sh
open Go.RowKit
def NewPost (w : World) (e : Ending) (w' : World) : Prop :=
 ∃ b ad, e = .returned (.pointer (some ⟨b, 0, none⟩)) ∧ HB w' b St.first (List.replicate 64 0) 0 0 0 ad ∧ w.heap.size ≤ b ∧ Below w.heap.size w w'
theorem new_cells : Array.foldl (fun (cs : Array Value) (x : Value × Nat) => cs.setIfInBounds x.snd x.fst) Tryz.zeroCells279 (stc St.first).zipIdx 0 (stc St.first).size = (hcl St.first (List.replicate 64 0) 0 0 0 (List.replicate 64 (.int .u32 0))).toArray := by kernel_rfl
set_option maxRecDepth 100000 in
set_option maxHeartbeats 800000 in
theorem new_any (w : World) : Calls Tryz.prog 209 #[] w (NewPost w) := by
 go_enter Tryz.func209, Tryz.ntmps209
 go_wp2_with fail
 refine (squares_any _).mono ?_
 rintro e w1 ⟨rfl, hb1⟩
 go_wp2_with fail
 rename_i cs heq
 have hcs : stc St.first = cs := by
  unfold stv at heq
  injection heq
 subst hcs
 go_ret
 refine ⟨w1.heap.size, List.replicate 64 (.int .u32 0), rfl, ?_, hb1.size, hb1.alloc hb1.size _⟩
 rw [new_cells]
 exact ⟨heap_alloc_new _ _, by simp, by simp⟩
end Go.Proofs.YtbenkmihkbjgeaaGreat.Sh
/- What a Hasher stands for; the bytes that are written to it. -/
namespace Go.Proofs.YtbenkmihkbjgeaaGreat.Sh
open Go.RowKit
/-! Plain lists -/
theorem blocks_append (s : St) (x y : List UInt8) (k : Nat) (h : 64 * k ≤ x.length) : blocks s (x ++ y) k = blocks s x k := by
 induction k with
 | zero => rw [blocks_zero, blocks_zero]
 | succ k ih =>
  rw [blocks_next, blocks_next, ih (by omega)]
  congr 1
  rw [List.drop_append_of_le_length (by omega), List.take_append_of_le_length (by rw [List.length_drop]; omega)]
theorem full_short (x y : List UInt8) (h : (x ++ y).length / 64 = x.length / 64) : full (x ++ y) = full x := by
 rw [full_eq, full_eq, h, blocks_append _ _ _ _ (by omega)]
theorem tail64_length (x : List UInt8) : (tail64 x).length = x.length % 64 := by
 unfold tail64
 rw [List.length_drop]
 omega
theorem tail64_short (x y : List UInt8) (h : (x ++ y).length / 64 = x.length / 64) : tail64 (x ++ y) = tail64 x ++ y := by
 unfold tail64
 rw [h, List.drop_append_of_le_length (by omega)]
theorem full_block (x y : List UInt8) (h : (tail64 x).length + y.length = 64) : full (x ++ y) = press (full x) (tail64 x ++ y) := by
 have hl := tail64_length x
 have e : (x ++ y).length / 64 = x.length / 64 + 1 := by rw [List.length_append]; omega
 rw [full_eq, e, blocks_next, blocks_append _ _ _ _ (by omega), ← full_eq]
 congr 1
 rw [List.drop_append_of_le_length (by omega)]
 show (tail64 x ++ y).take 64 = _
 rw [List.take_of_length_le (by rw [List.length_append]; omega)]
theorem tail64_none (x : List UInt8) (h : x.length % 64 = 0) : tail64 x = [] := by
 apply List.eq_nil_of_length_eq_zero
 rw [tail64_length, h]
/-! The block -/
section
variable {w w' : World} {b : Nat} {s : St} {rest : List UInt8} {n : Nat} {d m : Int} {ad : List Value}
theorem HB.set8 (h : HB w b s rest n d m ad) (t : St) :
  HB ((((((((w.setCell ⟨b, 0, none⟩ (.int .u32 (wi t.a))).setCell ⟨b, 1, none⟩ (.int .u32 (wi t.b))).setCell ⟨b, 2, none⟩ (.int .u32 (wi t.c))).setCell ⟨b, 3, none⟩ (.int .u32 (wi t.d))).setCell ⟨b, 4, none⟩ (.int .u32 (wi t.e))).setCell ⟨b, 5, none⟩ (.int .u32 (wi t.f))).setCell ⟨b, 6, none⟩ (.int .u32 (wi t.g))).setCell ⟨b, 7, none⟩ (.int .u32 (wi t.h))) b t rest n d m ad :=
 h.setState t
theorem HB.scells (h : HB w b s rest n d m ad) : w.cell? ⟨b, 0, none⟩ = some (.int .u32 (wi s.a)) ∧ w.cell? ⟨b, 1, none⟩ = some (.int .u32 (wi s.b)) ∧ w.cell? ⟨b, 2, none⟩ = some (.int .u32 (wi s.c)) ∧
  w.cell? ⟨b, 3, none⟩ = some (.int .u32 (wi s.d)) ∧ w.cell? ⟨b, 4, none⟩ = some (.int .u32 (wi s.e)) ∧ w.cell? ⟨b, 5, none⟩ = some (.int .u32 (wi s.f)) ∧ w.cell? ⟨b, 6, none⟩ = some (.int .u32 (wi s.g)) ∧ w.cell? ⟨b, 7, none⟩ = some (.int .u32 (wi s.h)) :=
 ⟨(h.cell_ 0).trans rfl, (h.cell_ 1).trans rfl, (h.cell_ 2).trans rfl, (h.cell_ 3).trans rfl, (h.cell_ 4).trans rfl, (h.cell_ 5).trans rfl, (h.cell_ 6).trans rfl, (h.cell_ 7).trans rfl⟩
theorem HB.sfrozen (h : HB w b s rest n d m ad) : w.frozen? ⟨b, 0, none⟩ = false ∧ w.frozen? ⟨b, 1, none⟩ = false ∧ w.frozen? ⟨b, 2, none⟩ = false ∧
  w.frozen? ⟨b, 3, none⟩ = false ∧ w.frozen? ⟨b, 4, none⟩ = false ∧ w.frozen? ⟨b, 5, none⟩ = false ∧ w.frozen? ⟨b, 6, none⟩ = false ∧ w.frozen? ⟨b, 7, none⟩ = false :=
 ⟨h.frozen_ 0, h.frozen_ 1, h.frozen_ 2, h.frozen_ 3, h.frozen_ 4, h.frozen_ 5, h.frozen_ 6, h.frozen_ 7⟩
theorem hcl_rest (hr : rest.length = 64) (off : Nat) (cs : List UInt8) (hf : off + cs.length ≤ 64) :
  (hcl s rest n d m ad).take (8 + off) ++ (cs.map bv ++ (hcl s rest n d m ad).drop (8 + off + (cs.map bv).length)) = hcl s (splice rest off cs) n d m ad := by
 unfold hcl splice
 have h8 := stc_length s
 rw [List.take_append, List.take_of_length_le (by omega), h8, show 8 + off - 8 = off from by omega, List.take_append_of_le_length (by simp [hr]; omega)]
 rw [List.drop_append, List.drop_eq_nil_of_le (by omega), h8, List.nil_append, List.length_map, show 8 + off + cs.length - 8 = off + cs.length from by omega, List.drop_append_of_le_length (by simp [hr]; omega)]
 simp [List.map_take, List.map_drop]
theorem HB.setRest (h : HB w b s rest n d m ad) (off : Nat) (cs : List UInt8) (hf : off + cs.length ≤ 64) :
  HB (w.setRow b ((hcl s rest n d m ad).toArray.toList.take (8 + off) ++ (cs.map bv ++ (hcl s rest n d m ad).toArray.toList.drop (8 + off + (cs.map bv).length))).toArray) b s (splice rest off cs) n d m ad := by
 refine ⟨?_, ?_, h.2.2⟩
 ·have := h.1.row ((hcl s rest n d m ad).take (8 + off) ++ (cs.map bv ++ (hcl s rest n d m ad).drop (8 + off + (cs.map bv).length))).toArray
  rw [hcl_rest h.2.1 off cs hf] at this
  show Blk (w.setRow b ((hcl s rest n d m ad).take (8 + off) ++ (cs.map bv ++ (hcl s rest n d m ad).drop (8 + off + (cs.map bv).length))).toArray) b 279 _
  rw [hcl_rest h.2.1 off cs hf]
  exact this
 ·rw [length_splice _ _ _ (by rw [h.2.1]; exact hf)]; exact h.2.1
end
theorem only_setRow {a w : World} {g : Nat} (h : a.grownBy w (some g)) (c : Array Value) : a.grownBy (w.setRow g c) (some g) :=
 ⟨h.os, h.tape, h.output, by simpa using h.size, fun i hi hne => (setRow_other w g i c (by intro e; exact hne (by rw [e]))).trans (h.block i hi hne)⟩
def Src (w : World) (b : Nat) (A : Option Addr) (bs : List UInt8) : Prop :=
 0 < bs.length → ∃ ad, A = some ad ∧ ad.block ≠ b ∧ ad.block < w.heap.size ∧ ∀ j, j < bs.length → w.cell? (ad.add j) = some (.int .u8 (bi (bs.getD j 0)))
theorem Src.only {w w' : World} {b : Nat} {A : Option Addr} {bs : List UInt8} (h : Src w b A bs) (hg : w.grownBy w' (some b)) : Src w' b A bs := by
 intro h0
 obtain ⟨ad, hA, hne, hlt, hc⟩ := h h0
 refine ⟨ad, hA, hne, Nat.lt_of_lt_of_le hlt hg.size, fun j hj => ?_⟩
 rw [only_cell hg (by rw [block_of_add]; exact hlt) (by rw [block_of_add]; exact hne)]
 exact hc j hj
theorem Src.cut {w : World} {b : Nat} {A : Option Addr} {bs : List UInt8} (h : Src w b A bs) (k : Nat) (A' : Option Addr) (hA : k < bs.length → ∀ ad, A = some ad → A' = some (ad.add k)) : Src w b A' (bs.drop k) := by
 intro h0
 rw [List.length_drop] at h0
 obtain ⟨ad, rfl, hne, hlt, hc⟩ := h (by omega)
 refine ⟨ad.add k, hA (by omega) ad rfl, by rw [block_of_add]; exact hne, by rw [block_of_add]; exact hlt, fun j hj => ?_⟩
 rw [List.length_drop] at hj
 rw [add_of_add, hc (k + j) (by omega)]
 simp only [List.getD_eq_getElem?_getD, List.getElem?_drop]
theorem info5s : (Tryz.prog.info? 5).map (·.size) = some 1 := by kernel_rfl
theorem copy_rest {ops : Array Oper} {ro : List Oper} {o : Oper} {a : Act} {w : World} {Q : Exit → Act → World → Prop} (hgd : o.guard = none) (dd ss : Operand)
  (ho : o.op = .call { callee := .builtin .copy, args := #[dd, ss], argTypes := #[45, 45] }) (b : Nat) (s : St) (rest : List UInt8) (n : Nat) (d m : Int) (ad : List Value) (h : HB w b s rest n d m ad)
  (off dLen dCap : Nat) (hd : a.eval dd = .slice (some ⟨b, 8 + off, none⟩) dLen dCap) (A : Option Addr) (sLen sCap : Nat) (bs : List UInt8) (hl : bs.length = sLen) (hs : a.eval ss = .slice A sLen sCap) (hsrc : Src w b A bs)
  (k : Nat) (hk : k = Nat.min sLen dLen) (hf : off + k ≤ 64)
  (hK : ∀ w', HB w' b s (splice rest off (bs.take k)) n d m ad → w.grownBy w' (some b) → wpList Tryz.prog ops Q ro (a.put o.dst (.int .i64 (k : Int))) w') : wpList Tryz.prog ops Q (o :: ro) a w := by
 have hkl : k ≤ bs.length := by rw [hk, hl]; exact Nat.min_le_left _ _
 by_cases h0 : k = 0
 ·subst h0
  refine wpList_copy_nothing hgd dd ss 45 45 ho 5 Tryz.underlying45 info5s _ _ dLen dCap sLen sCap hd hs hk.symm ?_
  refine hK w ?_ (World.grownBy.refl w _)
  have : splice rest off (bs.take 0) = rest := by simp [splice]
  rw [this]
  exact h
 ·obtain ⟨adr, rfl, hne, hlt, hc⟩ := hsrc (by omega)
  refine wpList_copy_own hgd dd ss 45 45 ho 5 Tryz.underlying45 info5s b (8 + off) dLen dCap adr sLen sCap hd hs (hcl s rest n d m ad).toArray 279 h.1 ((bs.take k).map bv) (by simp [hk, hl]) ?_ ?_ (bv_one _) ?_
  ·intro j v hv
   have hj : j < k := by
    have := (List.getElem?_eq_some_iff.1 hv).1
    simp at this
    omega
   rw [hc j (by omega), ← hv, List.getElem?_map, List.getElem?_take, if_pos hj, List.getElem?_eq_getElem (by omega), List.getD_eq_getElem?_getD, List.getElem?_eq_getElem (by omega)]
   rfl
  ·simp [hcl_length h.2.1 h.2.2]
   omega
  ·have hb := hK _ (h.setRest off (bs.take k) (by rw [List.length_take]; omega)) (only_setRow (World.grownBy.refl w _) _)
   have hg : goInt ((bs.take k).map bv).length = .int .i64 (k : Int) := by
    rw [List.length_map, List.length_take, Nat.min_eq_left hkl]; rfl
   rw [hg]
   exact hb
end Go.Proofs.YtbenkmihkbjgeaaGreat.Sh
/- Write. -/
namespace Go.Proofs.YtbenkmihkbjgeaaGreat.Sh
open Go.RowKit
def HH (w : World) (b : Nat) (all : List UInt8) : Prop :=
 ∃ s rest d ad, HB w b s rest all.length d 0 ad ∧ Made d ad ∧ s = full all ∧ rest.take (all.length % 64) = tail64 all
set_option maxRecDepth 100000 in
set_option maxHeartbeats 800000 in
theorem write_zero (b : Nat) (all bs : List UInt8) (A : Option Addr) (cap : Nat) (w : World) (h : HH w b all) (hs : Src w b A bs) (hlc : bs.length ≤ cap) (hcm : cap ≤ maxLen) (hn : all.length + bs.length < 2 ^ 60) (h0 : all.length % 64 = 0) :
  Calls Tryz.prog 210 #[.pointer (some ⟨b, 0, none⟩), .slice A bs.length cap] w fun e w' => e = .returned (.tuple #[]) ∧ HH w' b (all ++ bs) ∧ w.grownBy w' (some b) := by
 unfold maxLen at hcm
 obtain ⟨s, rest, d, ad, hB, hm, hst, hta⟩ := h
 have hbl := hB.lt
 obtain ⟨n, hN⟩ : ∃ n, all.length = n := ⟨_, rfl⟩
 obtain ⟨l, hL⟩ : ∃ l, bs.length = l := ⟨_, rfl⟩
 rw [hN] at hB h0 hta hn
 rw [hL] at hlc hn ⊢
 have HST := Lib.hid hst
 have HTA := Lib.hid hta
 have HB0 := Lib.hid hB
 have HNE := Lib.hid hN
 have HLE := Lib.hid hL
 have HS := Lib.hid hs
 clear hst hta hB hN hL hs
 have e1 : (n : Int).tmod 64 = 0 := by rw [Int.tmod_eq_emod_of_nonneg (by omega)]; omega
 have e2 : (n : Int) % 64 = 0 := by omega
 have H0 := Lib.hid h0
 clear h0
 go_enter Tryz.func210, Tryz.ntmps210
 go_wp2_with fail
 refine (constants_any b s rest n d ad _ HB0.out hm).mono ?_
 rintro e w1 ⟨rfl, hB1, hg1⟩
 have hsz := hB1.size_
 have hfz := hB1.frozen_ 72
 have HB1 := Lib.hid hB1
 have HG1 := Lib.hid hg1
 clear hB1 hg1
 go_wp2_with fail
 have hB2 : HB (w1.setCell ⟨b, 72, none⟩ (.int .i64 ((n : Int) + (l : Int)))) b s rest (n + l) 1 0 kv := HB1.out.setSize (n + l)
 have hg2 : w.grownBy (w1.setCell ⟨b, 72, none⟩ (.int .i64 ((n : Int) + (l : Int)))) (some b) := only_setCell HG1.out (.inl rfl) _
 clear hsz hfz
 generalize w1.setCell ⟨b, 72, none⟩ (.int .i64 ((n : Int) + (l : Int))) = w2 at *
 have hS2 : Src w2 b A bs := HS.out.only hg2
 have HB2 := Lib.hid hB2
 have HG2 := Lib.hid hg2
 have HS2 := Lib.hid hS2
 clear hB2 hg2 hS2
 go_loopw [1] (fun v wr => ∃ (P R X : List UInt8) (A1 : Option Addr) (c : Nat), v = .slice A1 R.length c ∧ R.length ≤ c ∧ c ≤ cap ∧ P ++ R = all ++ bs ∧ P.length % 64 = 0 ∧ HB wr b (full P) X (n + l) 1 0 kv ∧ Src wr b A1 R ∧ w.grownBy wr (some b)) (fun v _ => lenOf v)
 case atStart =>
  exact ⟨all, bs, rest, A, cap, by rw [HLE.out], by rw [HLE.out]; exact hlc, by omega, rfl, by rw [HNE.out]; exact H0.out, by rw [← HST.out]; exact HB2.out, HS2.out, HG2.out⟩
 case round =>
  obtain ⟨P, R, X, A1, c, rfl, hRc, hccap, hPR, hP, hHB, hSrc, hG⟩ := hrel
  obtain ⟨M, hM⟩ : ∃ M, R.length = M := ⟨_, rfl⟩
  rw [hM] at hRc ⊢
  have HM := Lib.hid hM
  have HPR := Lib.hid hPR
  have HP := Lib.hid hP
  have HHBr := Lib.hid hHB
  have HG := Lib.hid hG
  have HSr := Lib.hid hSrc
  clear hM hPR hP hG hSrc
  by_cases hlt : 64 ≤ M
  ·obtain ⟨adr, rfl, hne, hltb, hcell⟩ := HSr.out (by rw [HM.out]; omega)
   obtain ⟨x0, x1, x2, x3, x4, x5, x6, x7⟩ := hHB.scells
   obtain ⟨z0, z1, z2, z3, z4, z5, z6, z7⟩ := hHB.sfrozen
   have hbw : b < wr.heap.size := hHB.lt
   have F4 := Lib.hid (fun j (hj : j < 64) => hHB.added_ j hj)
   have F2 := Lib.hid (show ∀ i, i < 64 → wr.cell? (adr.add i) = some (.int .u8 (bi ((R.take 64).getD i 0))) from fun i hi => by
    rw [hcell i (by rw [HM.out]; omega)]
    simp only [List.getD_eq_getElem?_getD, List.getElem?_take, if_pos hi])
   obtain ⟨s0, hs0⟩ : ∃ s0, full P = s0 := ⟨_, rfl⟩
   rw [hs0] at x0 x1 x2 x3 x4 x5 x6 x7
   have HS0 := Lib.hid hs0
   clear hHB hcell hs0
   have hj1 : (64 : Int) ≤ (M : Int) := by omega
   have hj2 : (64 : Int) ≤ (c : Int) := by omega
   go_wp2_with fail
   go_region_with (go_at_call 229; refine (fold_agg s0 adr c (R.take 64) b 76 _ (by omega) (by unfold maxLen; omega) (by exact hltb) (by exact F2.out) (by exact hbw) (by exact F4.out)).mono ?_; rintro e w5 ⟨t, HT, rfl, hb5⟩; have y0 := (hb5.cell (p := ⟨b, 0, none⟩) hbw).trans x0; have y1 := (hb5.cell (p := ⟨b, 1, none⟩) hbw).trans x1; have y2 := (hb5.cell (p := ⟨b, 2, none⟩) hbw).trans x2; have y3 := (hb5.cell (p := ⟨b, 3, none⟩) hbw).trans x3; have y4 := (hb5.cell (p := ⟨b, 4, none⟩) hbw).trans x4; have y5 := (hb5.cell (p := ⟨b, 5, none⟩) hbw).trans x5; have y6 := (hb5.cell (p := ⟨b, 6, none⟩) hbw).trans x6; have y7 := (hb5.cell (p := ⟨b, 7, none⟩) hbw).trans x7; have q0 := (hb5.frozen (p := ⟨b, 0, none⟩) hbw).trans z0; have q1 := (hb5.frozen (p := ⟨b, 1, none⟩) hbw).trans z1; have q2 := (hb5.frozen (p := ⟨b, 2, none⟩) hbw).trans z2; have q3 := (hb5.frozen (p := ⟨b, 3, none⟩) hbw).trans z3; have q4 := (hb5.frozen (p := ⟨b, 4, none⟩) hbw).trans z4; have q5 := (hb5.frozen (p := ⟨b, 5, none⟩) hbw).trans z5; have q6 := (hb5.frozen (p := ⟨b, 6, none⟩) hbw).trans z6; have q7 := (hb5.frozen (p := ⟨b, 7, none⟩) hbw).trans z7)
   have k1 := ((HHBr.out.drew).below hb5 hbw).set8 t
   have k2 := only8 (only_of_below hb5 (some b)) (.int .u32 (wi t.a)) (.int .u32 (wi t.b)) (.int .u32 (wi t.c)) (.int .u32 (wi t.d)) (.int .u32 (wi t.e)) (.int .u32 (wi t.f)) (.int .u32 (wi t.g)) (.int .u32 (wi t.h))
   clear y0 y1 y2 y3 y4 y5 y6 y7 q0 q1 q2 q3 q4 q5 q6 q7 x0 x1 x2 x3 x4 x5 x6 x7 z0 z1 z2 z3 z4 z5 z6 z7
   generalize ((((((((w5.setCell ⟨b, 0, none⟩ (.int .u32 (wi t.a))).setCell ⟨b, 1, none⟩ (.int .u32 (wi t.b))).setCell ⟨b, 2, none⟩ (.int .u32 (wi t.c))).setCell ⟨b, 3, none⟩ (.int .u32 (wi t.d))).setCell ⟨b, 4, none⟩ (.int .u32 (wi t.e))).setCell ⟨b, 5, none⟩ (.int .u32 (wi t.f))).setCell ⟨b, 6, none⟩ (.int .u32 (wi t.g))).setCell ⟨b, 7, none⟩ (.int .u32 (wi t.h))) = w8 at *
   have ht : t = full (P ++ R.take 64) := by
    have hpl := tail64_none P HP.out
    rw [full_block P (R.take 64) (by rw [hpl, List.length_take, HM.out]; simp; omega), hpl, HT.out, HS0.out]
    rfl
   rw [ht] at k1
   have k3 : P ++ R.take 64 ++ R.drop 64 = all ++ bs := by rw [List.append_assoc, List.take_append_drop]; exact HPR.out
   have k4 : (P ++ R.take 64).length % 64 = 0 := by rw [List.length_append, List.length_take, HM.out]; have := HP.out; omega
   have k5 : Src w8 b (some adr) R := HSr.out.only (only_then (only_drew (World.grownBy.refl wr _)) k2)
   have k6 : w.grownBy w8 (some b) := only_then HG.out (only_then (only_drew (World.grownBy.refl wr _)) k2)
   have k7 : (R.drop 64).length = M - 64 := by rw [List.length_drop, HM.out]
   have K1 := Lib.hid k1
   have K3 := Lib.hid k3
   have K4 := Lib.hid k4
   have K5 := Lib.hid k5
   have K6 := Lib.hid k6
   have K7 := Lib.hid k7
   clear k1 k2 k3 k4 k5 k6 k7 ht hb5
   by_cases hcc : c = 64
   ·have hM' : M = 64 := by omega
    subst hcc
    go_wp2_with fail
    go_roundw
    case rel =>
     exact ⟨P ++ R.take 64, R.drop 64, X, some adr, 0, by rw [K7.out, hM'], by rw [K7.out]; omega, by omega, K3.out, K4.out, K1.out, fun h => absurd h (by rw [K7.out]; omega), K6.out⟩
    case measure => simp [lenOf]; omega
   ·go_wp2_with fail
    go_roundw
    case rel =>
     exact ⟨P ++ R.take 64, R.drop 64, X, some (adr.add 64), c - 64, by rw [K7.out, add_at _ _ (by omega)], by rw [K7.out]; omega, by omega, K3.out, K4.out, K1.out, K5.out.cut 64 _ (fun _ a e => by injection e with e; rw [e]), K6.out⟩
    case measure => simp [lenOf]; omega
  ·have hHB' := Lib.hid hHB
   clear hHB
   have hMM : M = Nat.min M 64 := (Nat.min_eq_left (a := M) (b := 64) (by omega)).symm
   have HMM := Lib.hid hMM
   clear hMM
   have hM0 : 0 + M ≤ 64 := by omega
   go_wp2_with (refine copy_rest rfl (.tmp 71) (.tmp 72) rfl b (full P) X (n + l) 1 0 kv hHB'.out 0 64 64 rfl A1 M c R HM.out rfl HSr.out M HMM.out hM0 ?_; intro w6 hB6 hg6)
   go_end0
   have hPl := HP.out
   have hlen : (P ++ R).length = n + l := by rw [HPR.out, List.length_append, HNE.out, HLE.out]
   have hlen2 : P.length + M = n + l := by rw [← hlen, List.length_append, HM.out]
   have hsh : (P ++ R).length / 64 = P.length / 64 := by rw [hlen]; omega
   refine ⟨rfl, ⟨full P, splice X 0 (R.take M), 1, kv, ?_, .inr ⟨rfl, rfl⟩, ?_, ?_⟩, only_then HG.out hg6⟩
   ·rw [← HPR.out, hlen]; exact hB6
   ·rw [← HPR.out, full_short _ _ hsh]
   ·rw [← HPR.out, hlen, tail64_short _ _ hsh, tail64_none _ hPl, show (n + l) % 64 = M from by omega]
    unfold splice
    rw [List.take_of_length_le (l := R) (by rw [HM.out]; omega), List.take_zero, List.nil_append, List.nil_append, List.take_append_of_le_length (by rw [HM.out]; omega), List.take_of_length_le (by rw [HM.out]; omega)]
set_option maxRecDepth 100000 in
set_option maxHeartbeats 800000 in
theorem write_few (b : Nat) (all bs : List UInt8) (A : Option Addr) (cap : Nat) (w : World) (h : HH w b all) (hs : Src w b A bs) (hlc : bs.length ≤ cap) (hcm : cap ≤ maxLen) (hn : all.length + bs.length < 2 ^ 60) (h0 : 0 < all.length % 64) (h1 : all.length % 64 + bs.length < 64) :
  Calls Tryz.prog 210 #[.pointer (some ⟨b, 0, none⟩), .slice A bs.length cap] w fun e w' => e = .returned (.tuple #[]) ∧ HH w' b (all ++ bs) ∧ w.grownBy w' (some b) := by
 unfold maxLen at hcm
 obtain ⟨s, rest, d, ad, hB, hm, hst, hta⟩ := h
 have hbl := hB.lt
 obtain ⟨n, hN⟩ : ∃ n, all.length = n := ⟨_, rfl⟩
 obtain ⟨l, hL⟩ : ∃ l, bs.length = l := ⟨_, rfl⟩
 rw [hN] at hB h0 hta hn h1
 rw [hL] at hlc hn h1 ⊢
 have HST := Lib.hid hst
 have HTA := Lib.hid hta
 have HB0 := Lib.hid hB
 have HNE := Lib.hid hN
 have HLE := Lib.hid hL
 have HS := Lib.hid hs
 clear hst hta hB hN hL hs
 obtain ⟨r, hr⟩ : ∃ r, n % 64 = r := ⟨_, rfl⟩
 rw [hr] at h0 h1
 have HR := Lib.hid hr
 have hr64 : r < 64 := by omega
 have e1 : (n : Int).tmod 64 = (r : Int) := by rw [Int.tmod_eq_emod_of_nonneg (by omega)]; omega
 have e2 : (n : Int) % 64 = (r : Int) := by omega
 have e3 : (0 : Int) < (r : Int) := by omega
 have e4 : (r : Int) ≤ 64 := by omega
 have hrest : rest.length = 64 := HB0.out.2.1
 clear hr
 have e5 : (r : Int) + (l : Int) < 64 := by omega
 have hk : l = Nat.min l (64 - r) := (Nat.min_eq_left (a := l) (b := 64 - r) (by omega)).symm
 have HKK := Lib.hid hk
 clear hk
 have hf : r + l ≤ 64 := by omega
 go_enter Tryz.func210, Tryz.ntmps210
 go_wp2_with fail
 refine (constants_any b s rest n d ad _ HB0.out hm).mono ?_
 rintro e w1 ⟨rfl, hB1, hg1⟩
 have hsz := hB1.size_
 have hfz := hB1.frozen_ 72
 have HB1 := Lib.hid hB1
 have HG1 := Lib.hid hg1
 clear hB1 hg1
 have hB2 : HB (w1.setCell ⟨b, 72, none⟩ (.int .i64 ((n : Int) + (l : Int)))) b s rest (n + l) 1 0 kv := HB1.out.setSize (n + l)
 have hg2 : w.grownBy (w1.setCell ⟨b, 72, none⟩ (.int .i64 ((n : Int) + (l : Int)))) (some b) := only_setCell HG1.out (.inl rfl) _
 have hS2 : Src (w1.setCell ⟨b, 72, none⟩ (.int .i64 ((n : Int) + (l : Int)))) b A bs := HS.out.only hg2
 have HB2 := Lib.hid hB2
 have HG2 := Lib.hid hg2
 have HS2 := Lib.hid hS2
 clear hB2 hg2 hS2
 go_wp2_with (refine copy_rest rfl (.tmp 29) (.tmp 30) rfl b s rest (n + l) 1 0 kv HB2.out r (64 - r) (64 - r) rfl A l cap bs HLE.out rfl HS2.out l HKK.out hf ?_; intro w6 hB6 hg6)
 first | go_end0 | (simp only [Exit.inBlock, Exit.then]; refine bodyPost_ret (results_none rfl _ _ _) rfl ?_) | refine bodyPost_ret (results_none rfl _ _ _) rfl ?_
 have hlen : (all ++ bs).length = n + l := by rw [List.length_append, HNE.out, HLE.out]
 have hsh : (all ++ bs).length / 64 = all.length / 64 := by rw [hlen, HNE.out]; have := HR.out; omega
 refine ⟨rfl, ⟨s, splice rest r (bs.take l), 1, kv, ?_, .inr ⟨rfl, rfl⟩, ?_, ?_⟩, only_then HG2.out hg6⟩
 ·rw [hlen]; exact hB6
 ·rw [full_short _ _ hsh]; exact HST.out
 ·rw [hlen, tail64_short _ _ hsh, ← HTA.out, HR.out, show (n + l) % 64 = r + l from by have := HR.out; omega]
  unfold splice
  rw [List.take_of_length_le (l := bs) (by rw [HLE.out]; omega), ← List.append_assoc, List.take_append_of_le_length (by rw [List.length_append, List.length_take, HLE.out]; omega), List.take_of_length_le (by rw [List.length_append, List.length_take, HLE.out]; omega)]
end Go.Proofs.YtbenkmihkbjgeaaGreat.Sh
