/- Texts put together: VShW2, VShH0. -/
import Derived.Test.YtpfjlhpahmhkhaaGreatQv06
import Derived.Test.YtpfjlhpahmhkhaaGreatQv01
/- One block folded in. -/
set_option linter.unusedVariables false
set_option linter.unusedSimpArgs false
namespace Go.Proofs.YtpfjlhpahmhkhaaGreat.Sh
open Go.RowKit
def stv (s : St) : Value := .agg #[wv s.a, wv s.b, wv s.c, wv s.d, wv s.e, wv s.f, wv s.g, wv s.h]
def stc (s : St) : Array Value := #[wv s.a, wv s.b, wv s.c, wv s.d, wv s.e, wv s.f, wv s.g, wv s.h]
theorem cell_new2 {w : World} {A B : Obj} {p : Addr} (h : p.block < w.heap.size) : ((w.alloc A).alloc B).cell? p = w.cell? p := by
 rw [World.cell?_alloc_lt _ _ _ (by simp; omega), World.cell?_alloc_lt _ _ _ h]
theorem quiet_add_left {P : Program} {f : FuncId} {args : Array Value} {w : World} {a n : Nat} {v : Value}
  (h : Calls P f args (w.drewN (a + n)) fun e w' => e = .returned v ∧ w.drewN (a + n) = w') :
  Calls P f args (w.drewN (a + n)) fun e w'' => e = .returned v ∧ ∃ m, w'' = w.drewN (a + m) :=
 h.mono fun _ _ ⟨he, hm⟩ => ⟨he, n, hm.symm⟩
theorem quiet_left {P : Program} {f : FuncId} {args : Array Value} {w : World} {n : Nat} {v : Value}
  (h : Calls P f args (w.drewN n) fun e w' => e = .returned v ∧ w.drewN n = w') : Calls P f args (w.drewN n) fun e w'' => e = .returned v ∧ ∃ m, w'' = w.drewN m :=
 h.mono fun _ _ ⟨he, hm⟩ => ⟨he, n, hm.symm⟩
theorem turned6 (u : UInt32) (w : World) : Calls Tryz.prog 344 #[.int .u32 (wi u), .int .i64 6, .int .i64 11, .int .i64 25] w fun e w' => e = .returned (.int .u32 (wi (rot3 u 26 21 7))) ∧ w = w' :=
 turned_any u 6 11 25 26 21 7 (by omega) (by omega) (by omega) rfl rfl rfl (by omega) w
theorem turned2 (u : UInt32) (w : World) : Calls Tryz.prog 344 #[.int .u32 (wi u), .int .i64 2, .int .i64 13, .int .i64 22] w fun e w' => e = .returned (.int .u32 (wi (rot3 u 30 19 10))) ∧ w = w' :=
 turned_any u 2 13 22 30 19 10 (by omega) (by omega) (by omega) rfl rfl rfl (by omega) w
theorem info50 : (Tryz.prog.info? 343).map (·.size) = some 8 := by kernel_rfl
theorem words_cell {bs : List UInt8} {w : World} {g : Nat} (h : Blk w g 388 ((words bs 64).map wv).toArray) (k : Nat) (hk : k < 64) : w.cell? ⟨g, k, none⟩ = some (.int .u32 (wi (wd bs k))) := by
 rw [h.cell, wd_def]
 simp [List.getD_eq_getElem?_getD, words_length, hk, wv]
set_option maxRecDepth 100000 in
set_option maxHeartbeats 800000 in
theorem fold_any (s : St) (ad : Addr) (cap : Nat) (bs : List UInt8) (g o : Nat) (w : World) (hcap : 64 ≤ cap) (hcap2 : cap ≤ maxLen) (hb : ad.block < w.heap.size)
  (hc : ∀ k, k < 64 → w.cell? (ad.add k) = some (.int .u8 (bi (bs.getD k 0)))) (hg : g < w.heap.size)
  (hk : ∀ j, j < 64 → w.cell? ⟨g, o + j, none⟩ = some (.int .u32 (wi (kList.getD j 0)))) :
  Calls Tryz.prog 297 #[stv s, .slice (some ad) 64 cap, .pointer (some ⟨g, o, none⟩)] w fun e w' => e = .returned (stv (press s bs)) ∧ Below w.heap.size w w' := by
 have HC := Lib.hid hc
 have HK := Lib.hid hk
 clear hc hk
 obtain ⟨a, b, c, d, e, f, g', h⟩ := s
 unfold stv wv
 go_enter Tryz.func297, Tryz.ntmps297
 go_wp2_with fail
 refine (sched_any ad cap bs _ hcap hcap2 (by simp; omega) (fun k hk => by rw [cell_new2 (by rw [block_of_add]; exact hb)]; exact HC.out k hk)).mono ?_
 rintro e1 w1 ⟨rfl, hb1⟩
 have hs3 : Blk w1 w.heap.size 343 #[.int .u32 (wi a), .int .u32 (wi b), .int .u32 (wi c), .int .u32 (wi d), .int .u32 (wi e), .int .u32 (wi f), .int .u32 (wi g'), .int .u32 (wi h)] := (hb1.block _ (by simp; omega)).trans (heap_alloc2_old _ _ _)
 have hs6 : ∃ c6, Blk w1 (w.heap.size + 1) 343 c6 ∧ c6.size = 8 := ⟨_, (hb1.block _ (by simp)).trans (heap_alloc2_new _ _ _), rfl⟩
 have hz : w.heap.size + 2 ≤ w1.heap.size := by have := hb1.size; simp at this; omega
 have hbw : Below w.heap.size w w1 := (((Below.refl _ _).alloc (Nat.le_refl _) _).alloc (by simp) _).trans (hb1.mono (by simp; omega))
 have HS3 := Lib.hid hs3
 have HS6 := Lib.hid hs6
 have HBW := Lib.hid hbw
 have HB := Lib.hid hb1
 clear hb1 hs3 hs6 hbw
 go_wp2_with (first
      | (refine wpList_store_row rfl 388 (.tmp 7) (.tmp 22) rfl w1.heap.size _ rfl rfl 388 _ (heap_alloc_new _ _) (size64 bs) (by rw [words_size]; rfl) (words_one bs) ?_))
 rw [World.setRow_alloc_new]
 have hs3 : Blk (w1.alloc (.cells ((words bs 64).map wv).toArray 388)) w.heap.size 343 #[.int .u32 (wi a), .int .u32 (wi b), .int .u32 (wi c), .int .u32 (wi d), .int .u32 (wi e), .int .u32 (wi f), .int .u32 (wi g'), .int .u32 (wi h)] := HS3.out.alloc _
 have hs6 : ∃ c6, Blk (w1.alloc (.cells ((words bs 64).map wv).toArray 388)) (w.heap.size + 1) 343 c6 ∧ c6.size = 8 := by
  obtain ⟨c6, x1, x2⟩ := HS6.out
  exact ⟨c6, x1.alloc _, x2⟩
 have hs7 : Blk (w1.alloc (.cells ((words bs 64).map wv).toArray 388)) w1.heap.size 388 ((words bs 64).map wv).toArray := heap_alloc_new _ _
 have hbw : Below w.heap.size w (w1.alloc (.cells ((words bs 64).map wv).toArray 388)) := HBW.out.alloc (by omega) _
 generalize w1.alloc (.cells ((words bs 64).map wv).toArray 388) = W at *
 generalize w1.heap.size = n7 at *
 clear HS3 HS6 HBW HB
 have c0 := hs3.cell 0
 have c1 := hs3.cell 1
 have c2 := hs3.cell 2
 have c3 := hs3.cell 3
 have c4 := hs3.cell 4
 have c5 := hs3.cell 5
 have c6 := hs3.cell 6
 have c7 := hs3.cell 7
 simp only [List.getElem?_toArray, List.getElem?_cons_zero, List.getElem?_cons_succ] at c0 c1 c2 c3 c4 c5 c6 c7
 have HS3 := Lib.hid hs3
 have HS6 := Lib.hid hs6
 have HS7 := Lib.hid hs7
 have HBW := Lib.hid hbw
 clear hs3 hs6 hs7 hbw
 go_simp
 go_quiet (fail)
 go_wp2_with fail
 go_quiet (fail)
 go_wp2_with fail
 go_loopw [8, 9, 10, 11, 12, 13, 14, 15, 39] (fun x8 x9 x10 x11 x12 x13 x14 x15 i wr => ∃ k nq : Nat, k ≤ 64 ∧ i = .int .i64 k ∧ wr = W.drewN nq ∧
   x8 = .int .u32 (wi (rounds (words bs 64) ⟨a, b, c, d, e, f, g', h⟩ k).a) ∧ x9 = .int .u32 (wi (rounds (words bs 64) ⟨a, b, c, d, e, f, g', h⟩ k).b) ∧
   x10 = .int .u32 (wi (rounds (words bs 64) ⟨a, b, c, d, e, f, g', h⟩ k).c) ∧ x11 = .int .u32 (wi (rounds (words bs 64) ⟨a, b, c, d, e, f, g', h⟩ k).d) ∧
   x12 = .int .u32 (wi (rounds (words bs 64) ⟨a, b, c, d, e, f, g', h⟩ k).e) ∧ x13 = .int .u32 (wi (rounds (words bs 64) ⟨a, b, c, d, e, f, g', h⟩ k).f) ∧
   x14 = .int .u32 (wi (rounds (words bs 64) ⟨a, b, c, d, e, f, g', h⟩ k).g) ∧ x15 = .int .u32 (wi (rounds (words bs 64) ⟨a, b, c, d, e, f, g', h⟩ k).h)) (fun _ _ _ _ _ _ _ _ i _ => 64 - (intOf i).toNat)
 case atStart =>
  exact ⟨0, _, by omega, rfl, World.drewN_drewN _ _ _, by rw [rounds_zero], by rw [rounds_zero], by rw [rounds_zero], by rw [rounds_zero], by rw [rounds_zero], by rw [rounds_zero], by rw [rounds_zero], by rw [rounds_zero]⟩
 case round =>
  obtain ⟨k, nq, hk, rfl, rfl, rfl, rfl, rfl, rfl, rfl, rfl, rfl, rfl⟩ := hrel
  generalize hst : rounds (words bs 64) ⟨a, b, c, d, e, f, g', h⟩ k = t
  obtain ⟨ta, tb, tc, td, te, tf, tg, th⟩ := t
  have HST := Lib.hid hst
  clear hst
  by_cases hlt : k < 64
  ·have hw7 := words_cell HS7.out k hlt
   have hka : W.cell? ⟨g, o + k, none⟩ = some (.int .u32 (wi (kList.getD k 0))) := (HBW.out.cell (p := ⟨g, o + k, none⟩) hg).trans (HK.out k hlt)
   have hj1 : (0 : Int) ≤ k := by omega
   have hj2 : (k : Int) < 64 := by omega
   have hr : Hid (rounds (words bs 64) ⟨a, b, c, d, e, f, g', h⟩ (k + 1) = step ⟨ta, tb, tc, td, te, tf, tg, th⟩ (kList.getD k 0) (wd bs k)) := by
    unfold Hid; rw [rounds_next, HST.out, wd_def]
   generalize kList.getD k 0 = kk at *
   generalize wd bs k = ww at *
   have b1 := wnot te
   have b2 := wand te tf
   have b3 := wand (~~~ te) tg
   have b4 := wxor (te &&& tf) (~~~ te &&& tg)
   have b5 := wand ta tb
   have b6 := wand ta tc
   have b7 := wand tb tc
   have b8 := wxor (ta &&& tb) (ta &&& tc)
   have b9 := wxor ((ta &&& tb) ^^^ (ta &&& tc)) (tb &&& tc)
   have d1 := wadd th (rot3 te 26 21 7)
   have d2 := wadd (th + rot3 te 26 21 7) ((te &&& tf) ^^^ (~~~ te &&& tg))
   have d3 := wadd (th + rot3 te 26 21 7 + ((te &&& tf) ^^^ (~~~ te &&& tg))) kk
   have d4 := wadd (th + rot3 te 26 21 7 + ((te &&& tf) ^^^ (~~~ te &&& tg)) + kk) ww
   have d5 := wadd (rot3 ta 30 19 10) ((ta &&& tb) ^^^ (ta &&& tc) ^^^ (tb &&& tc))
   have d6 := wadd (th + rot3 te 26 21 7 + ((te &&& tf) ^^^ (~~~ te &&& tg)) + kk + ww) (rot3 ta 30 19 10 + ((ta &&& tb) ^^^ (ta &&& tc) ^^^ (tb &&& tc)))
   have d7 := wadd td (th + rot3 te 26 21 7 + ((te &&& tf) ^^^ (~~~ te &&& tg)) + kk + ww)
   go_wp2_with fail
   go_quiet ((go_at_call 344; first | exact quiet_add_left (turned6 _ _) | exact quiet_left (turned6 _ _)))
   go_wp2_with (go_at_call 344; refine (turned2 _ _).mono ?_; rintro e w' ⟨rfl, rfl⟩)
   go_roundw
   case rel =>
    exact ⟨k + 1, _, by omega, by go_num, rfl, by rw [hr.out]; rfl, by rw [hr.out]; rfl, by rw [hr.out]; rfl, by rw [hr.out]; rfl, by rw [hr.out]; rfl, by rw [hr.out]; rfl, by rw [hr.out]; rfl, by rw [hr.out]; rfl⟩
   case measure => simp [intOf]; omega
  ·obtain rfl : k = 64 := by omega
   have x0 := wadd a ta
   have x1 := wadd b tb
   have x2 := wadd c tc
   have x3 := wadd d td
   have x4 := wadd e te
   have x5 := wadd f tf
   have x6 := wadd g' tg
   have x7 := wadd h th
   obtain ⟨c8, h6, h6z⟩ := HS6.out
   have H6 := Lib.hid h6
   have H6Z := Lib.hid h6z
   clear h6 h6z
   go_wp2_with (refine wpList_store_row rfl 343 (.tmp 6) (.tmp 126) rfl (w.heap.size + 1) _ rfl rfl 343 c8 (H6.out.drewN _) ?e3 ?e4 ?e5 ?_)
   case e3 => exact info50
   case e4 => exact H6Z.out
   case e5 => simp [Value.oneCell']
   refine bodyPost_ret (results_cell_row (p := 6) (ty := 343) ?_ _ _ (w.heap.size + 1) 343 _ (0, 0) _ ?_ (Blk.row (H6.out.drewN _) _) Tryz.underlying343 ?_ ?_) ?_ ?_
   ·rfl
   ·rfl
   ·rfl
   ·exact info50
   ·rfl
   ·refine ⟨?_, below_setRow (below_drewN HBW.out _) (by omega) _⟩
    rw [press_eq, HST.out]
    rfl
end Go.Proofs.YtpfjlhpahmhkhaaGreat.Sh
/- A Hasher's block: its 140 cells, told by what they stand for. -/
namespace Go.Proofs.YtpfjlhpahmhkhaaGreat.Sh
open Go.RowKit
def hcl (s : St) (rest : List UInt8) (n : Nat) (d m : Int) (ad : List Value) : List Value :=
 (stc s).toList ++ (rest.map bv ++ ([.int .i64 n, .int .u32 d, .int .i32 m, .int .u32 0] ++ ad))
def HB (w : World) (b : Nat) (s : St) (rest : List UInt8) (n : Nat) (d m : Int) (ad : List Value) : Prop :=
 Blk w b 390 (hcl s rest n d m ad).toArray ∧ rest.length = 64 ∧ ad.length = 64
def kv : List Value := kList.map wv
section
variable {w w' : World} {b : Nat} {s : St} {rest : List UInt8} {n : Nat} {d m : Int} {ad : List Value}
theorem stc_length (s : St) : (stc s).toList.length = 8 := rfl
theorem hcl_at (hr : rest.length = 64) (i : Nat) : (hcl s rest n d m ad)[i]? =
  if i < 8 then (stc s).toList[i]? else if i < 72 then (rest.map bv)[i - 8]? else if i < 76 then ([.int .i64 n, .int .u32 d, .int .i32 m, .int .u32 0] : List Value)[i - 72]? else ad[i - 76]? := by
 unfold hcl
 by_cases h1 : i < 8
 ·rw [if_pos h1, List.getElem?_append_left (by rw [stc_length]; omega)]
 rw [if_neg h1, List.getElem?_append_right (by rw [stc_length]; omega), stc_length]
 by_cases h2 : i < 72
 ·rw [if_pos h2, List.getElem?_append_left (by simp [hr]; omega)]
 rw [if_neg h2, List.getElem?_append_right (by simp [hr]; omega)]
 simp only [List.length_map, hr]
 by_cases h3 : i < 76
 ·rw [if_pos h3, List.getElem?_append_left (by simp; omega), show i - 8 - 64 = i - 72 from by omega]
 rw [if_neg h3, List.getElem?_append_right (by simp; omega)]
 simp only [List.length_cons, List.length_nil]
 rw [show i - 8 - 64 - (0 + 1 + 1 + 1 + 1) = i - 76 from by omega]
theorem HB.cell_ (h : HB w b s rest n d m ad) (i : Nat) : w.cell? ⟨b, i, none⟩ =
  if i < 8 then (stc s).toList[i]? else if i < 72 then (rest.map bv)[i - 8]? else if i < 76 then ([.int .i64 n, .int .u32 d, .int .i32 m, .int .u32 0] : List Value)[i - 72]? else ad[i - 76]? := by
 rw [h.1.cell i, List.getElem?_toArray, hcl_at h.2.1]
theorem HB.lt (h : HB w b s rest n d m ad) : b < w.heap.size := h.1.lt
theorem HB.size_ (h : HB w b s rest n d m ad) : w.cell? ⟨b, 72, none⟩ = some (.int .i64 n) := by rw [h.cell_]; rfl
theorem HB.done_ (h : HB w b s rest n d m ad) : w.cell? ⟨b, 73, none⟩ = some (.int .u32 d) := by rw [h.cell_]; rfl
theorem HB.lock_ (h : HB w b s rest n d m ad) : w.cell? ⟨b, 74, none⟩ = some (.int .i32 m) := by rw [h.cell_]; rfl
theorem HB.rest_ (h : HB w b s rest n d m ad) (i : Nat) (hi : i < 64) : w.cell? ⟨b, 8 + i, none⟩ = some (bv (rest.getD i 0)) := by
 rw [h.cell_, if_neg (by omega), if_pos (by omega), show 8 + i - 8 = i from by omega, List.getElem?_map, List.getD_eq_getElem?_getD, List.getElem?_eq_getElem (by rw [h.2.1]; exact hi)]
 rfl
theorem HB.added_ (h : HB w b s rest n d m kv) (i : Nat) (hi : i < 64) : w.cell? ⟨b, 76 + i, none⟩ = some (.int .u32 (wi (kList.getD i 0))) := by
 rw [h.cell_, if_neg (by omega), if_neg (by omega), if_neg (by omega), show 76 + i - 76 = i from by omega]
 unfold kv
 rw [List.getElem?_map, List.getD_eq_getElem?_getD, List.getElem?_eq_getElem (by rw [kList_length]; exact hi)]
 rfl
theorem HB.frozen_ (h : HB w b s rest n d m ad) (i : Nat) : w.frozen? ⟨b, i, none⟩ = false := h.1.frozen i
theorem HB.drew (h : HB w b s rest n d m ad) : HB w.drew b s rest n d m ad := h
theorem HB.drewN (h : HB w b s rest n d m ad) (k : Nat) : HB (w.drewN k) b s rest n d m ad := h
theorem HB.alloc (h : HB w b s rest n d m ad) (o : Obj) : HB (w.alloc o) b s rest n d m ad := ⟨h.1.alloc o, h.2⟩
theorem HB.far (h : HB w b s rest n d m ad) {p : Addr} (hp : b ≠ p.block) (u : Value) : HB (w.setCell p u) b s rest n d m ad := ⟨h.1.far hp u, h.2⟩
theorem HB.below {B : Nat} (h : HB w b s rest n d m ad) (hb : Below B w w') (hg : b < B) : HB w' b s rest n d m ad := ⟨h.1.below hb hg, h.2⟩
theorem HB.grown {row : Option Nat} (h : HB w b s rest n d m ad) (hb : w.grownBy w' row) (hg : some b ≠ row) : HB w' b s rest n d m ad := ⟨h.1.grown hb hg, h.2⟩
theorem hcl_set (i : Nat) (v : Value) (s' : St) (n' : Nat) (d' m' : Int)
  (he : ∀ j, (hcl s' rest n' d' m' ad)[j]? = if i = j then some v else (hcl s rest n d m ad)[j]?) (hi : i < (hcl s rest n d m ad).length) :
  (hcl s rest n d m ad).toArray.setIfInBounds i v = (hcl s' rest n' d' m' ad).toArray := by
 apply Array.ext'
 rw [Array.toList_setIfInBounds]
 apply List.ext_getElem?
 intro j
 rw [he j, List.getElem?_set]
 by_cases e : i = j
 ·subst e
  rw [if_pos rfl, if_pos rfl, if_pos hi]
 ·rw [if_neg e, if_neg e]
theorem hcl_length (hr : rest.length = 64) (ha : ad.length = 64) : (hcl s rest n d m ad).length = 140 := by
 unfold hcl
 rw [List.length_append, stc_length]
 simp [hr, ha]
theorem HB.setDone (h : HB w b s rest n d m ad) (d' : Int) : HB (w.setCell ⟨b, 73, none⟩ (.int .u32 d')) b s rest n d' m ad := by
 refine ⟨?_, h.2⟩
 have := h.1.set_ 73 (.int .u32 d')
 rw [hcl_set 73 _ s n d' m (fun j => ?_) (by rw [hcl_length h.2.1 h.2.2]; omega)] at this
 ·exact this
 ·rw [hcl_at h.2.1, hcl_at h.2.1]
  by_cases e : 73 = j
  ·subst e; rfl
  ·rw [if_neg e]
   by_cases h1 : j < 8
   ·rw [if_pos h1, if_pos h1]
   by_cases h2 : j < 72
   ·rw [if_neg h1, if_neg h1, if_pos h2, if_pos h2]
   by_cases h3 : j < 76
   ·rw [if_neg h1, if_neg h1, if_neg h2, if_neg h2, if_pos h3, if_pos h3]
    obtain rfl | rfl | rfl : j = 72 ∨ j = 74 ∨ j = 75 := by omega
    all_goals rfl
   ·rw [if_neg h1, if_neg h1, if_neg h2, if_neg h2, if_neg h3, if_neg h3]
theorem HB.setLock (h : HB w b s rest n d m ad) (m' : Int) : HB (w.setCell ⟨b, 74, none⟩ (.int .i32 m')) b s rest n d m' ad := by
 refine ⟨?_, h.2⟩
 have := h.1.set_ 74 (.int .i32 m')
 rw [hcl_set 74 _ s n d m' (fun j => ?_) (by rw [hcl_length h.2.1 h.2.2]; omega)] at this
 ·exact this
 ·rw [hcl_at h.2.1, hcl_at h.2.1]
  by_cases e : 74 = j
  ·subst e; rfl
  ·rw [if_neg e]
   by_cases h1 : j < 8
   ·rw [if_pos h1, if_pos h1]
   by_cases h2 : j < 72
   ·rw [if_neg h1, if_neg h1, if_pos h2, if_pos h2]
   by_cases h3 : j < 76
   ·rw [if_neg h1, if_neg h1, if_neg h2, if_neg h2, if_pos h3, if_pos h3]
    obtain rfl | rfl | rfl : j = 72 ∨ j = 73 ∨ j = 75 := by omega
    all_goals rfl
   ·rw [if_neg h1, if_neg h1, if_neg h2, if_neg h2, if_neg h3, if_neg h3]
theorem HB.setSize (h : HB w b s rest n d m ad) (n' : Nat) : HB (w.setCell ⟨b, 72, none⟩ (.int .i64 n')) b s rest n' d m ad := by
 refine ⟨?_, h.2⟩
 have := h.1.set_ 72 (.int .i64 n')
 rw [hcl_set 72 _ s n' d m (fun j => ?_) (by rw [hcl_length h.2.1 h.2.2]; omega)] at this
 ·exact this
 ·rw [hcl_at h.2.1, hcl_at h.2.1]
  by_cases e : 72 = j
  ·subst e; rfl
  ·rw [if_neg e]
   by_cases h1 : j < 8
   ·rw [if_pos h1, if_pos h1]
   by_cases h2 : j < 72
   ·rw [if_neg h1, if_neg h1, if_pos h2, if_pos h2]
   by_cases h3 : j < 76
   ·rw [if_neg h1, if_neg h1, if_neg h2, if_neg h2, if_pos h3, if_pos h3]
    obtain rfl | rfl | rfl : j = 73 ∨ j = 74 ∨ j = 75 := by omega
    all_goals rfl
   ·rw [if_neg h1, if_neg h1, if_neg h2, if_neg h2, if_neg h3, if_neg h3]
end
theorem HB.setAdded {w : World} {b : Nat} {s : St} {rest : List UInt8} {n : Nat} {d m : Int} {ad : List Value} (h : HB w b s rest n d m ad) (vs : List Value) (hv : vs.length = 64) :
  HB (w.setCells b 76 vs) b s rest n d m vs := by
 refine ⟨?_, h.2.1, hv⟩
 have h1 := blk_setCells vs 76 w _ h.1 (by simp [hcl_length h.2.1 h.2.2, hv])
 have e : (hcl s rest n d m ad).toArray.toList.take 76 ++ vs ++ (hcl s rest n d m ad).toArray.toList.drop (76 + vs.length) = hcl s rest n d m vs := by
  have hl := hcl_length (s := s) (n := n) (d := d) (m := m) h.2.1 h.2.2
  rw [List.drop_eq_nil_of_le (by simp [hl, hv]), List.append_nil]
  have hA : ∀ a : List Value, hcl s rest n d m a = ((stc s).toList ++ (rest.map bv ++ [.int .i64 n, .int .u32 d, .int .i32 m, .int .u32 0])) ++ a := by
   intro a; unfold hcl; simp
  have hB : ((stc s).toList ++ (rest.map bv ++ [.int .i64 n, .int .u32 d, .int .i32 m, .int .u32 0]) : List Value).length = 76 := by
   rw [List.length_append, stc_length]; simp [h.2.1]
  show (hcl s rest n d m ad).take 76 ++ vs = _
  rw [hA ad, hA vs, List.take_append_of_le_length (by omega), List.take_of_length_le (by omega)]
 rw [e] at h1
 exact h1
theorem HB.setState {w : World} {b : Nat} {s : St} {rest : List UInt8} {n : Nat} {d m : Int} {ad : List Value} (h : HB w b s rest n d m ad) (s' : St) :
  HB (w.setCells b 0 (stc s').toList) b s' rest n d m ad := by
 refine ⟨?_, h.2⟩
 have h1 := blk_setCells (stc s').toList 0 w _ h.1 (by simp [hcl_length h.2.1 h.2.2, stc])
 have e : (hcl s rest n d m ad).toArray.toList.take 0 ++ (stc s').toList ++ (hcl s rest n d m ad).toArray.toList.drop (0 + (stc s').toList.length) = hcl s' rest n d m ad := by
  rfl
 rw [e] at h1
 exact h1
end Go.Proofs.YtpfjlhpahmhkhaaGreat.Sh
