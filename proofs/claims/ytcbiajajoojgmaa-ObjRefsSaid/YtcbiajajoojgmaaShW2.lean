/- One block folded in. -/
import Derived.Test.YtcbiajajoojgmaaShW1
namespace Go.Proofs.Ytcbiajajoojgmaa.Sh
open Go.RowKit

def stv (s : St) : Value := .agg #[wv s.a, wv s.b, wv s.c, wv s.d, wv s.e, wv s.f, wv s.g, wv s.h]
def stc (s : St) : Array Value := #[wv s.a, wv s.b, wv s.c, wv s.d, wv s.e, wv s.f, wv s.g, wv s.h]

theorem cell_new2 {w : World} {A B : Obj} {p : Addr} (h : p.block < w.heap.size) : ((w.alloc A).alloc B).cell? p = w.cell? p := by
  rw [World.cell?_alloc_lt _ _ _ (by simp; omega), World.cell?_alloc_lt _ _ _ h]

theorem quiet_add_left {P : Program} {f : FuncId} {args : Array Value} {w : World} {a n : Nat} {v : Value}
    (h : Calls P f args (w.drewN (a + n)) fun e w' => e = .returned v ∧ w.drewN (a + n) = w') :
    Calls P f args (w.drewN (a + n)) fun e w'' => e = .returned v ∧ ∃ m, w'' = w.drewN (a + m) :=
  h.mono fun _ _ ⟨he, hm⟩ => ⟨he, n, hm.symm⟩
theorem quiet_left {P : Program} {f : FuncId} {args : Array Value} {w : World} {n : Nat} {v : Value}
    (h : Calls P f args (w.drewN n) fun e w' => e = .returned v ∧ w.drewN n = w') : Calls P f args (w.drewN n) fun e w'' => e = .returned v ∧ ∃ m, w'' = w.drewN m :=
  h.mono fun _ _ ⟨he, hm⟩ => ⟨he, n, hm.symm⟩
theorem turned6 (u : UInt32) (w : World) : Calls Try.prog 87 #[.int .u32 (wi u), .int .i64 6, .int .i64 11, .int .i64 25] w fun e w' => e = .returned (.int .u32 (wi (rot3 u 26 21 7))) ∧ w = w' :=
  turned_any u 6 11 25 26 21 7 (by omega) (by omega) (by omega) rfl rfl rfl (by omega) w
theorem turned2 (u : UInt32) (w : World) : Calls Try.prog 87 #[.int .u32 (wi u), .int .i64 2, .int .i64 13, .int .i64 22] w fun e w' => e = .returned (.int .u32 (wi (rot3 u 30 19 10))) ∧ w = w' :=
  turned_any u 2 13 22 30 19 10 (by omega) (by omega) (by omega) rfl rfl rfl (by omega) w
theorem info50 : (Try.prog.info? 94).map (·.size) = some 8 := by kernel_rfl
theorem words_cell {bs : List UInt8} {w : World} {g : Nat} (h : Blk w g 108 ((words bs 64).map wv).toArray) (k : Nat) (hk : k < 64) : w.cell? ⟨g, k, none⟩ = some (.int .u32 (wi (wd bs k))) := by
  rw [h.cell, wd_def]
  simp [List.getD_eq_getElem?_getD, words_length, hk, wv]

set_option maxRecDepth 100000 in
set_option maxHeartbeats 800000 in
theorem fold_any (s : St) (ad : Addr) (cap : Nat) (bs : List UInt8) (g o : Nat) (w : World) (hcap : 64 ≤ cap) (hcap2 : cap ≤ maxLen) (hb : ad.block < w.heap.size)
    (hc : ∀ k, k < 64 → w.cell? (ad.add k) = some (.int .u8 (bi (bs.getD k 0)))) (hg : g < w.heap.size)
    (hk : ∀ j, j < 64 → w.cell? ⟨g, o + j, none⟩ = some (.int .u32 (wi (kList.getD j 0)))) :
    Calls Try.prog 80 #[stv s, .slice (some ad) 64 cap, .pointer (some ⟨g, o, none⟩)] w fun e w' => e = .returned (stv (press s bs)) ∧ Below w.heap.size w w' := by
  have HC := Lib.hid hc
  have HK := Lib.hid hk
  clear hc hk
  obtain ⟨a, b, c, d, e, f, g', h⟩ := s
  unfold stv wv
  go_enter Try.func80, Try.ntmps80
  go_wp2_with fail
  refine (sched_any ad cap bs _ hcap hcap2 (by simp; omega) (fun k hk => by rw [cell_new2 (by rw [block_of_add]; exact hb)]; exact HC.out k hk)).mono ?_
  rintro e1 w1 ⟨rfl, hb1⟩
  have hs3 : Blk w1 w.heap.size 94 #[.int .u32 (wi a), .int .u32 (wi b), .int .u32 (wi c), .int .u32 (wi d), .int .u32 (wi e), .int .u32 (wi f), .int .u32 (wi g'), .int .u32 (wi h)] := (hb1.block _ (by simp; omega)).trans (heap_alloc2_old _ _ _)
  have hs6 : ∃ c6, Blk w1 (w.heap.size + 1) 94 c6 ∧ c6.size = 8 := ⟨_, (hb1.block _ (by simp)).trans (heap_alloc2_new _ _ _), rfl⟩
  have hz : w.heap.size + 2 ≤ w1.heap.size := by have := hb1.size; simp at this; omega
  have hbw : Below w.heap.size w w1 := (((Below.refl _ _).alloc (Nat.le_refl _) _).alloc (by simp) _).trans (hb1.mono (by simp; omega))
  have HS3 := Lib.hid hs3
  have HS6 := Lib.hid hs6
  have HBW := Lib.hid hbw
  have HB := Lib.hid hb1
  clear hb1 hs3 hs6 hbw
  go_wp2_with (first
            | (refine wpList_store_row rfl 108 (.tmp 7) (.tmp 22) rfl w1.heap.size _ rfl rfl 108 _ (heap_alloc_new _ _) (size64 bs) (by rw [words_size]; rfl) (words_one bs) ?_))
  rw [World.setRow_alloc_new]
  have hs3 : Blk (w1.alloc (.cells ((words bs 64).map wv).toArray 108)) w.heap.size 94 #[.int .u32 (wi a), .int .u32 (wi b), .int .u32 (wi c), .int .u32 (wi d), .int .u32 (wi e), .int .u32 (wi f), .int .u32 (wi g'), .int .u32 (wi h)] := HS3.out.alloc _
  have hs6 : ∃ c6, Blk (w1.alloc (.cells ((words bs 64).map wv).toArray 108)) (w.heap.size + 1) 94 c6 ∧ c6.size = 8 := by
    obtain ⟨c6, x1, x2⟩ := HS6.out
    exact ⟨c6, x1.alloc _, x2⟩
  have hs7 : Blk (w1.alloc (.cells ((words bs 64).map wv).toArray 108)) w1.heap.size 108 ((words bs 64).map wv).toArray := heap_alloc_new _ _
  have hbw : Below w.heap.size w (w1.alloc (.cells ((words bs 64).map wv).toArray 108)) := HBW.out.alloc (by omega) _
  generalize w1.alloc (.cells ((words bs 64).map wv).toArray 108) = W at *
  generalize w1.heap.size = n7 at *
  clear HS3 HS6 HBW HB
  have c0 := hs3.cell 0
  have c1 := hs3.cell 1
  have c2 := hs3.cell 2
  have c3 := hs3.cell 3
  have c4 := hs3.cell 4
  have c5 := hs3.cell 5
  have c6 := hs3.cell 6
  have c7 := hs3.cell 7
  simp only [List.getElem?_toArray, List.getElem?_cons_zero, List.getElem?_cons_succ] at c0 c1 c2 c3 c4 c5 c6 c7
  have HS3 := Lib.hid hs3
  have HS6 := Lib.hid hs6
  have HS7 := Lib.hid hs7
  have HBW := Lib.hid hbw
  clear hs3 hs6 hs7 hbw
  go_simp
  go_quiet (fail)
  go_wp2_with fail
  go_quiet (fail)
  go_wp2_with fail
  go_loopw [8, 9, 10, 11, 12, 13, 14, 15, 39] (fun x8 x9 x10 x11 x12 x13 x14 x15 i wr => ∃ k nq : Nat, k ≤ 64 ∧ i = .int .i64 k ∧ wr = W.drewN nq ∧
      x8 = .int .u32 (wi (rounds (words bs 64) ⟨a, b, c, d, e, f, g', h⟩ k).a) ∧ x9 = .int .u32 (wi (rounds (words bs 64) ⟨a, b, c, d, e, f, g', h⟩ k).b) ∧
      x10 = .int .u32 (wi (rounds (words bs 64) ⟨a, b, c, d, e, f, g', h⟩ k).c) ∧ x11 = .int .u32 (wi (rounds (words bs 64) ⟨a, b, c, d, e, f, g', h⟩ k).d) ∧
      x12 = .int .u32 (wi (rounds (words bs 64) ⟨a, b, c, d, e, f, g', h⟩ k).e) ∧ x13 = .int .u32 (wi (rounds (words bs 64) ⟨a, b, c, d, e, f, g', h⟩ k).f) ∧
      x14 = .int .u32 (wi (rounds (words bs 64) ⟨a, b, c, d, e, f, g', h⟩ k).g) ∧ x15 = .int .u32 (wi (rounds (words bs 64) ⟨a, b, c, d, e, f, g', h⟩ k).h)) (fun _ _ _ _ _ _ _ _ i _ => 64 - (intOf i).toNat)
  case atStart =>
    exact ⟨0, _, by omega, rfl, World.drewN_drewN _ _ _, by rw [rounds_zero], by rw [rounds_zero], by rw [rounds_zero], by rw [rounds_zero], by rw [rounds_zero], by rw [rounds_zero], by rw [rounds_zero], by rw [rounds_zero]⟩
  case round =>
    obtain ⟨k, nq, hk, rfl, rfl, rfl, rfl, rfl, rfl, rfl, rfl, rfl, rfl⟩ := hrel
    generalize hst : rounds (words bs 64) ⟨a, b, c, d, e, f, g', h⟩ k = t
    obtain ⟨ta, tb, tc, td, te, tf, tg, th⟩ := t
    have HST := Lib.hid hst
    clear hst
    by_cases hlt : k < 64
    · have hw7 := words_cell HS7.out k hlt
      have hka : W.cell? ⟨g, o + k, none⟩ = some (.int .u32 (wi (kList.getD k 0))) := (HBW.out.cell (p := ⟨g, o + k, none⟩) hg).trans (HK.out k hlt)
      have hj1 : (0 : Int) ≤ k := by omega
      have hj2 : (k : Int) < 64 := by omega
      have hr : Hid (rounds (words bs 64) ⟨a, b, c, d, e, f, g', h⟩ (k + 1) = step ⟨ta, tb, tc, td, te, tf, tg, th⟩ (kList.getD k 0) (wd bs k)) := by
        unfold Hid; rw [rounds_next, HST.out, wd_def]
      generalize kList.getD k 0 = kk at *
      generalize wd bs k = ww at *
      have b1 := wnot te
      have b2 := wand te tf
      have b3 := wand (~~~ te) tg
      have b4 := wxor (te &&& tf) (~~~ te &&& tg)
      have b5 := wand ta tb
      have b6 := wand ta tc
      have b7 := wand tb tc
      have b8 := wxor (ta &&& tb) (ta &&& tc)
      have b9 := wxor ((ta &&& tb) ^^^ (ta &&& tc)) (tb &&& tc)
      have d1 := wadd th (rot3 te 26 21 7)
      have d2 := wadd (th + rot3 te 26 21 7) ((te &&& tf) ^^^ (~~~ te &&& tg))
      have d3 := wadd (th + rot3 te 26 21 7 + ((te &&& tf) ^^^ (~~~ te &&& tg))) kk
      have d4 := wadd (th + rot3 te 26 21 7 + ((te &&& tf) ^^^ (~~~ te &&& tg)) + kk) ww
      have d5 := wadd (rot3 ta 30 19 10) ((ta &&& tb) ^^^ (ta &&& tc) ^^^ (tb &&& tc))
      have d6 := wadd (th + rot3 te 26 21 7 + ((te &&& tf) ^^^ (~~~ te &&& tg)) + kk + ww) (rot3 ta 30 19 10 + ((ta &&& tb) ^^^ (ta &&& tc) ^^^ (tb &&& tc)))
      have d7 := wadd td (th + rot3 te 26 21 7 + ((te &&& tf) ^^^ (~~~ te &&& tg)) + kk + ww)
      go_wp2_with fail
      go_quiet ((go_at_call 87; first | exact quiet_add_left (turned6 _ _) | exact quiet_left (turned6 _ _)))
      go_wp2_with (go_at_call 87; refine (turned2 _ _).mono ?_; rintro e w' ⟨rfl, rfl⟩)
      go_roundw
      case rel =>
        exact ⟨k + 1, _, by omega, by go_num, rfl, by rw [hr.out]; rfl, by rw [hr.out]; rfl, by rw [hr.out]; rfl, by rw [hr.out]; rfl, by rw [hr.out]; rfl, by rw [hr.out]; rfl, by rw [hr.out]; rfl, by rw [hr.out]; rfl⟩
      case measure => simp [intOf]; omega
    · obtain rfl : k = 64 := by omega
      have x0 := wadd a ta
      have x1 := wadd b tb
      have x2 := wadd c tc
      have x3 := wadd d td
      have x4 := wadd e te
      have x5 := wadd f tf
      have x6 := wadd g' tg
      have x7 := wadd h th
      obtain ⟨c8, h6, h6z⟩ := HS6.out
      have H6 := Lib.hid h6
      have H6Z := Lib.hid h6z
      clear h6 h6z
      go_wp2_with (refine wpList_store_row rfl 94 (.tmp 6) (.tmp 126) rfl (w.heap.size + 1) _ rfl rfl 94 c8 (H6.out.drewN _) ?e3 ?e4 ?e5 ?_)
      case e3 => exact info50
      case e4 => exact H6Z.out
      case e5 => simp [Value.oneCell']
      refine bodyPost_ret (results_cell_row (p := 6) (ty := 94) ?_ _ _ (w.heap.size + 1) 94 _ (0, 0) _ ?_ (Blk.row (H6.out.drewN _) _) Try.underlying94 ?_ ?_) ?_ ?_
      · rfl
      · rfl
      · rfl
      · exact info50
      · rfl
      · refine ⟨?_, below_setRow (below_drewN HBW.out _) (by omega) _⟩
        rw [press_eq, HST.out]
        rfl
end Go.Proofs.Ytcbiajajoojgmaa.Sh
