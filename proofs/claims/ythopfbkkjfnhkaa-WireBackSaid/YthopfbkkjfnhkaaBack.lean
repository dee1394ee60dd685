/- The walk of WireBack. -/
import Derived.Test.YthopfbkkjfnhkaaBack0
import Derived.Deep.DeepCutAuto
namespace Go.Proofs.Ythopfbkkjfnhkaa
open Go.RowKit

set_option maxRecDepth 100000 in
set_option maxHeartbeats 3200000 in
theorem back_in (v0 v1 : Value) (ns : List Int) (bs : List UInt8) (i : Int) (w : World) (h0 : SlV w v0 (ns.map iv)) (h1 : Sl w v1 bs) (hl0 : ns.length ≤ 300) (hl1 : bs.length ≤ 6000) :
    Calls Try.prog 6 #[v0, v1, .int .i64 i] w (Yes w) := by
  have H1 := Lib.hid h1
  obtain ⟨A0, c0, e0, n0, m0, hR0⟩ := h0.len
  obtain ⟨A1, c1, e1, n1, m1, hI1⟩ := h1.len
  have HI1 := Lib.hid hI1
  clear hI1
  rw [List.length_map] at e0 n0 hR0
  obtain ⟨l, hl⟩ : ∃ l, ns.length = l := ⟨_, rfl⟩
  obtain ⟨lb, hlb⟩ : ∃ lb, bs.length = lb := ⟨_, rfl⟩
  rw [hl] at e0 n0 hR0 hl0
  rw [hlb] at e1 n1 hl1
  subst e0 e1
  unfold maxLen at m0 m1
  have HL := Lib.hid hl
  have HLB := Lib.hid hlb
  have HR0 := Lib.hid hR0
  have p0 : (l : Int) ≤ 300 := by omega
  have p1 : (lb : Int) ≤ 6000 := by omega
  clear hl hlb h0 h1 hR0
  go_enter Try.func6, Try.ntmps6
  go_wp2_with fail
  refine (first_then (Below.refl _ _)).mono ?_
  rintro e w1 ⟨rfl, hb1⟩
  have HB1 := Lib.hid hb1
  clear hb1
  go_wp2_with fail
  go_loopw [7, 8, 9] (fun a b i wr => ∃ k : Nat, k ≤ l ∧ i = .int .i64 k ∧ Both w w.heap.size (flatB (okI (ns.take k))) (okI (ns.take k)) a b wr) (fun _ _ i _ => l - (intOf i).toNat)
  case atStart => exact ⟨0, Nat.zero_le _, rfl, by rw [List.take_zero]; exact Own.nil_ _ _, by rw [List.take_zero]; exact OwnV.nil_ _ _, HB1.out⟩
  case round =>
    clear HB1
    obtain ⟨k, hk, rfl, ha, hb, hbw⟩ := hrel
    have HA := Lib.hid ha
    have HI := Lib.hid hb
    have HBW := Lib.hid hbw
    have hwz := hbw.size
    clear ha hb hbw
    by_cases hlt : k < l
    · obtain ⟨n, hn⟩ : ∃ n, ns[k]? = some n := ⟨_, List.getElem?_eq_getElem (by rw [HL.out]; exact hlt)⟩
      have hnv : (ns.map iv)[k]? = some (iv n) := by rw [List.getElem?_map, hn]; rfl
      obtain ⟨ad, e, hadl, hcell⟩ : ∃ ad, A0 = some ad ∧ ad.block < w.heap.size ∧ w.cell? (ad.add k) = some (iv n) := by
        obtain ⟨ad, e, hlt, hc⟩ := HR0.out.2 (by omega)
        exact ⟨ad, e, hlt, hc k _ hnv⟩
      subst e
      have hcw : ∀ W : World, Below w.heap.size w W → W.cell? (ad.add k) = some (.int .i64 n) := fun W hb => (hb.cell (p := ad.add k) (by rw [block_of_add]; exact hadl)).trans hcell
      have HCW := Lib.hid hcw
      have hcr := hcw wr HBW.out
      have htk := okI_take ns k n hn
      have HTK := Lib.hid htk
      have hlenk := okI_len ns k
      have hfl := flatB_len (okI (ns.take k)) (okI_ok _)
      clear hnv hcell hcw htk hn
      have z0 : (0 : Int) ≤ (k : Int) := by omega
      have z1 : (k : Int) < (l : Int) := by omega
      generalize okI (ns.take k) = ys at *
      obtain ⟨xs, hxs⟩ : ∃ xs, flatB ys = xs := ⟨_, rfl⟩
      rw [hxs] at hfl HA
      have HXS := Lib.hid hxs
      clear hxs
      by_cases hok : n < 0 ∨ 72057594037927936 < n
      · have hno := okN_no hok
        have HNO := Lib.hid hno
        have hput := put_err n
        have HPUT := Lib.hid (fun w => put_err n w hok)
        have hcase : n < 0 ∨ (0 ≤ n ∧ 72057594037927936 < n) := by omega
        clear hno hput hok
        rcases hcase with g0 | ⟨g0, g1⟩
        all_goals
          go_wp2_with fail
          refine (HPUT.out _).mono ?_
          rintro e w2 ⟨rfl, rfl⟩
          go_wp2
          go_roundw
          case rel =>
            refine ⟨k + 1, by omega, by go_num, ?_⟩
            have := HTK.out
            rw [HNO.out, if_neg (by decide), List.append_nil] at this
            rw [this, HXS.out]
            exact ⟨HA.out, HI.out, HBW.out⟩
          case measure => simp [intOf]; omega
      · obtain ⟨m, rfl⟩ := Int.eq_ofNat_of_zero_le (show 0 ≤ n by omega)
        have hm : m ≤ 72057594037927936 := by omega
        have hyes := okN_yes (n := (m : Int)) (by omega) (by omega)
        have HYES := Lib.hid hyes
        have HCUT := Lib.hid (getR_cut m)
        have g0 : (0 : Int) ≤ (m : Int) := by omega
        have g1 : (m : Int) ≤ 72057594037927936 := by omega
        have hp9 := putL_len9 hm
        have hpp := putL_pos m
        clear hok hyes
        go_wp2_with fail
        refine (put_any m _ hm).mono ?_
        rintro e w2 ⟨v2, rfl, ho2, hb2⟩
        obtain ⟨px, hpx⟩ : ∃ px, putL m = px := ⟨_, rfl⟩
        rw [hpx] at ho2 HCUT hp9 hpp
        obtain ⟨gx, cx, hv2, j1, j2, j3, j4, _⟩ := ho2.wr hpp
        obtain ⟨lx, hlx⟩ : ∃ lx, px.length = lx := ⟨_, rfl⟩
        rw [hlx] at hv2 j1 hp9 hpp HCUT
        subst hv2
        have HPX := Lib.hid hpx
        have HLX := Lib.hid hlx
        have HX := Lib.hid ho2
        have HA2 := Lib.hid (HA.out.below hb2)
        have HI2 := Lib.hid (HI.out.below hb2)
        have HB2 := Lib.hid (HBW.out.trans (hb2.mono HBW.out.size))
        have hcr2 := HCW.out w2 HB2.out
        have HGA := Lib.hid (fun q (hq : u7.ownBlock = some q) => (World.ownsRow.lt HA.out q hq).2)
        have HGI := Lib.hid (fun q (hq : u8.ownBlock = some q) => (HI.out.lt q hq).2)
        have hz2 := hb2.size
        have hsx : Sl w2 (.slice (some ⟨gx, 0, none⟩) (lx - 1) cx) (px.take (lx - 1)) := by
          obtain ⟨A', c', he, _, _, hI', _⟩ := ho2.sl
          injection he with he1 he2 he3
          refine ⟨some ⟨gx, 0, none⟩, cx, by congr 1; rw [List.length_take]; omega, by rw [List.length_take]; omega, j2, ?_, fun e => by cases e⟩
          rw [he1]
          exact hI'.take _
        have HSX := Lib.hid hsx
        have r1 : (1 : Int) ≤ (lx : Int) := by omega
        have r2 : (lx : Int) ≤ 9 := by omega
        have r3 : (lx : Int) ≤ (cx : Int) := by omega
        unfold maxLen at j2
        clear hpx hlx ho2 hb2 hsx hcr
        go_wp2_with fail
        refine (get_any _ (px.take (lx - 1)) 0 0 0 2 _ HSX.out HCUT.out).mono ?_
        rintro e w3 ⟨rfl, rfl⟩
        go_wp2_with fail
        obtain ⟨i5, hi5, hz50, hz51, hz52⟩ := info_parts info5
        obtain ⟨i3, hi3, hz30, hz31, hz32⟩ := info_parts info_int
        have hys : ((ys.map iv).length + 1) * 8 ≤ 140737488355328 := by rw [List.length_map]; omega
        have hxl : (xs.length + lx) * 1 ≤ 140737488355328 := by omega
        have hxl' : xs.length + lx ≤ maxLen := by unfold maxLen; omega
        have hyl' : ys.length + 1 ≤ maxLen := by unfold maxLen; omega
        have hyl : (ys.length + 1) * 8 ≤ 140737488355328 := by omega
        have hzw : w.heap.size ≤ w2.heap.size := HB2.out.size
        have fA0 : w2.drew.ownsRow w.heap.size 5 1 u7 xs.length (xs.map bv) := HA2.out
        have fI0 : w2.drew.ownsRow w.heap.size 3 1 u8 ys.length (ys.map iv) := by have := HI2.out; unfold OwnV at this; rw [List.length_map] at this; exact this
        have hun := rows_unlike fI0 fA0 (by decide)
        have hun' := rows_unlike fA0 fI0 (by decide)
        have fX0 : Reads w2.drew w2.drew.heap.size 1 (some ⟨gx, 0, none⟩) lx (px.map bv) := HX.out.readsOf
        have fA1 : (w2.alloc (.cells #[.int .i64 (m : Int)] 3)).drew.ownsRow w.heap.size 5 1 u7 xs.length (xs.map bv) := fA0.alloc _
        have fI1 : (w2.alloc (.cells #[.int .i64 (m : Int)] 3)).drew.ownsRow w.heap.size 3 1 u8 ys.length (ys.map iv) := fI0.alloc _
        have fX1 : Reads (w2.alloc (.cells #[.int .i64 (m : Int)] 3)).drew (w2.alloc (.cells #[.int .i64 (m : Int)] 3)).drew.heap.size 1 (some ⟨gx, 0, none⟩) lx (px.map bv) := (HX.out.alloc _).drew.readsOf
        have fK1 : Reads (w2.alloc (.cells #[.int .i64 (m : Int)] 3)).drew (w2.heap.size + 1) 1 (some ⟨w2.heap.size, 0, none⟩) 1 [iv (m : Int)] := reads_newv w2 _ _
        have fB1 : Below w.heap.size w (w2.alloc (.cells #[.int .i64 (m : Int)] 3)).drew := (HB2.out.alloc hzw _).drew
        have fN1 : Blk (w2.alloc (.cells #[.int .i64 (m : Int)] 3)).drew w2.heap.size 3 #[iv (m : Int)] := Blk.new _ _ _
        have hxz : gx < w2.heap.size := j4
        have FA0 := Lib.hid fA0
        have FI0 := Lib.hid fI0
        have FX0 := Lib.hid fX0
        have FA1 := Lib.hid fA1
        have FI1 := Lib.hid fI1
        have FX1 := Lib.hid fX1
        have FK1 := Lib.hid fK1
        have FB1 := Lib.hid fB1
        have FN1 := Lib.hid fN1
        have HUN := Lib.hid hun
        have HUN' := Lib.hid hun'
        clear fA0 fI0 fX0 fA1 fI1 fX1 fK1 fB1 fN1 hun hun'
        go_region_held3 (fun w' => w'.cell? (ad.add k) = some (.int .i64 (m : Int))) (first | exact hcr2 | (with_reducible exact HCW.out _ FB6.out) | (with_reducible exact HCW.out _ FB4.out) | (with_reducible exact HCW.out _ FB4'.out) | (with_reducible exact HCW.out _ FB1.out)) (first
          | (refine step_append_any _ rfl (.tmp 87) (.tmp 92) 43 rfl w.heap.size 3 i3 (.int .i64 0) 1 8 Try.underlying43 hi3 hz30 hz31 hz32 rfl (by decide) u8 ys.length (ys.map iv) rfl (by with_reducible exact FI4b.out) _ (some ⟨w2.heap.size, 0, none⟩) 1 1 [iv (m : Int)] rfl (by with_reducible exact FK4b.out) (iv_one1 _) hyl' hyl (by exact hzz4) ?_; intro v5 w5 ho5 hg5 hk5; have HJ : Both w w.heap.size (xs ++ px) (ys ++ [(m : Int)]) v4 v5 w5 := both_of (own_of_row HLX.out (World.ownsRow.kept FO4.out hg5 (rows_unlike FO4.out FI4b.out (by decide)))) ho5 (below_own FB4.out hzz4 FI4b.out hg5); have FB6 := Lib.hid HJ.2.2)
          | (refine step_append_any _ rfl (.tmp 87) (.tmp 92) 43 rfl w.heap.size 3 i3 (.int .i64 0) 1 8 Try.underlying43 hi3 hz30 hz31 hz32 rfl (by decide) u8 ys.length (ys.map iv) rfl (by with_reducible exact FI4a.out) _ (some ⟨w4.heap.size, 0, none⟩) 1 1 [iv (m : Int)] rfl (by with_reducible exact FK4a.out) (iv_one1 _) hyl' hyl (by exact hzz4) ?_; intro v5 w5 ho5 hg5 hk5; have HJ : Both w w.heap.size (xs ++ px) (ys ++ [(m : Int)]) v4 v5 w5 := both_of (own_of_row HLX.out (World.ownsRow.kept FO4.out hg5 (rows_unlike FO4.out FI4a.out (by decide)))) ho5 (below_own FB4.out hzz4 FI4a.out hg5); have FB6 := Lib.hid HJ.2.2)
          | (refine step_append_any _ rfl (.tmp 84) (.tmp 85) 22 rfl w.heap.size 5 i5 (.int .u8 0) 1 1 Try.underlying22 hi5 hz50 hz51 hz52 rfl (by decide) u7 xs.length (xs.map bv) rfl (by with_reducible exact FA1.out) _ (some ⟨gx, 0, none⟩) lx cx (px.map bv) rfl (by with_reducible exact FX1.out) (bv_one _) hxl' hxl (by exact FB1.out.size) ?_; intro v4 w4 ho4 hg4 hk4; have FB4 := Lib.hid (below_own FB1.out FB1.out.size FA1.out hg4); have hzz4 := FB4.out.size; have FI4b := Lib.hid (World.ownsRow.kept FI1.out hg4 HUN.out); have FK4b := Lib.hid (kept_new FN1.out (fun q hq => by have := HGA.out q hq; omega) hg4); have FO4 := Lib.hid ho4; clear ho4)
          | (refine step_append_any _ rfl (.tmp 84) (.tmp 85) 22 rfl w.heap.size 5 i5 (.int .u8 0) 1 1 Try.underlying22 hi5 hz50 hz51 hz52 rfl (by decide) u7 xs.length (xs.map bv) rfl (by with_reducible exact FA0.out) _ (some ⟨gx, 0, none⟩) lx cx (px.map bv) rfl (by with_reducible exact FX0.out) (bv_one _) hxl' hxl (by exact hzw) ?_; intro v4 w4 ho4 hg4 hk4; have FB4' := Lib.hid (below_own HB2.out.drew hzw FA0.out hg4); have FB4 := Lib.hid (FB4'.out.alloc FB4'.out.size (.cells #[.int .i64 (m : Int)] 3)); have hzz4 := FB4.out.size; have FI4a := Lib.hid ((World.ownsRow.kept FI0.out hg4 HUN.out).alloc (.cells #[.int .i64 (m : Int)] 3)); have FK4a : Hid (Reads (w4.alloc (.cells #[.int .i64 (m : Int)] 3)) (w4.heap.size + 1) 1 (some ⟨w4.heap.size, 0, none⟩) 1 [iv (m : Int)]) := reads_newv w4 3 (iv (m : Int)); have FO4 := Lib.hid (World.ownsRow.alloc ho4 (.cells #[.int .i64 (m : Int)] 3)); clear ho4))
        all_goals
          have HJ' := Lib.hid HJ
          clear HJ ho5 hg5 hk5 hg4 hk4
          go_wp2
          go_roundw
          case rel =>
            refine ⟨k + 1, by omega, by go_num, ?_⟩
            have e1 := HTK.out
            rw [HYES.out, if_pos rfl] at e1
            rw [e1, flatB_append, flatB_one, HXS.out, Int.toNat_natCast, HPX.out]
            exact HJ'.out
          case measure => simp [intOf]; omega
    · obtain rfl : k = l := by omega
      have hall : ns.take k = ns := List.take_of_length_le (by rw [HL.out]; omega)
      rw [hall] at HA HI
      clear hall
      have hok := okI_ok ns
      have hlen : (okI ns).length ≤ 300 := by have := okI_len ns ns.length; rw [List.take_length, HL.out] at this; omega
      have hfl := flatB_len (okI ns) hok
      obtain ⟨ms, hms⟩ : ∃ ms, okI ns = ms := ⟨_, rfl⟩
      rw [hms] at HA HI hok hlen hfl
      clear hms
      obtain ⟨Ax, cx, hv7, q1, q2⟩ := (show Own wr w.heap.size u7 (flatB ms) from HA.out).length
      obtain ⟨Ay, cy, hv8, q3, q4, hRY⟩ := HI.out.slv.len
      rw [List.length_map] at hv8 q3 hRY
      have HRY := Lib.hid hRY
      clear hRY
      have HSL := Lib.hid (show Own wr w.heap.size u7 (flatB ms) from HA.out).sl
      have HOK := Lib.hid hok
      obtain ⟨lx, hlx⟩ : ∃ lx, (flatB ms).length = lx := ⟨_, rfl⟩
      obtain ⟨ly, hly⟩ : ∃ ly, ms.length = ly := ⟨_, rfl⟩
      rw [hlx] at hv7 q1 hfl
      rw [hly] at hv8 q3 hfl hlen
      have HLX := Lib.hid hlx
      have HLY := Lib.hid hly
      subst hv7 hv8
      unfold maxLen at q2 q4
      clear hlx hly hok HA HI HR0
      have hg := fun j hj => flat_get ms HOK.out j hj
      have HG := Lib.hid hg
      clear hg
      obtain ⟨ra, rb, rc, hres⟩ : ∃ ra rb rc, getR bs i = (ra, rb, rc) := ⟨_, _, _, rfl⟩
      have HRES := Lib.hid hres
      clear hres
      go_wp2_with fail
      go_loop [15, 16] (fun tt i => ∃ j : Nat, j ≤ ly ∧ i = .int .i64 j ∧ tt = .int .i64 ((flatB (ms.take j)).length : Nat)) (fun _ i => ly - (intOf i).toNat)
      case atStart => exact ⟨0, Nat.zero_le _, rfl, rfl⟩
      case round =>
        obtain ⟨j, hj, rfl, rfl⟩ := hrel
        by_cases hlt2 : j < ly
        · obtain ⟨hg1, hg2⟩ := HG.out j (by rw [HLY.out]; exact hlt2)
          obtain ⟨n, hn⟩ : ∃ n, ms[j]'(by rw [HLY.out]; exact hlt2) = n := ⟨_, rfl⟩
          rw [hn] at hg1
          have hnv : (ms.map iv)[j]? = some (iv n) := by rw [List.getElem?_map, List.getElem?_eq_getElem (by rw [HLY.out]; exact hlt2), hn]; rfl
          obtain ⟨ad, e, hcell⟩ := reads_at HRY.out j _ hnv
          subst e
          unfold iv at hcell
          obtain ⟨t0, ht0⟩ : ∃ t0, (flatB (ms.take j)).length = t0 := ⟨_, rfl⟩
          obtain ⟨t1, ht1⟩ : ∃ t1, (flatB (ms.take (j + 1))).length = t1 := ⟨_, rfl⟩
          rw [ht0] at hg1 hg2 ⊢
          rw [ht1] at hg1 hg2
          have HG1 := Lib.hid hg1
          have HT1 := Lib.hid ht1
          have s0 : (0 : Int) ≤ (j : Int) := by omega
          have s1 : (j : Int) < (ly : Int) := by omega
          have s2 : (t0 : Int) < (t1 : Int) := by omega
          clear hg1 ht0 ht1 hn hnv
          go_wp2_with fail
          refine (get_any _ (flatB ms) _ _ _ _ _ HSL.out HG1.out).mono ?_
          rintro e w2 ⟨rfl, rfl⟩
          go_wp2
          go_round
          case rel => exact ⟨j + 1, by omega, by go_num, by rw [HT1.out]⟩
          case measure => simp [intOf]; omega
        · obtain rfl : j = ly := by omega
          rw [show ms.take j = ms from List.take_of_length_le (by rw [HLY.out]; omega), HLX.out]
          have hbs : Sl wr (.slice A1 lb c1) bs := H1.out.below HBW.out
          have HBS := Lib.hid hbs
          clear hbs
          go_wp2_with fail
          refine (get_any _ bs i ra rb rc _ HBS.out HRES.out).mono ?_
          rintro e w2 ⟨rfl, rfl⟩
          by_cases hrc : rc = 0
          · subst hrc
            obtain ⟨kk, mm, nn, x1, x2, x3, x4, x5, x6, x7⟩ := getR_read HRES.out
            subst x1 x2 x3
            rw [HLB.out] at x5
            have HX7 := Lib.hid x7
            have hI1 : In wr A1 bs := HI1.out.below HBW.out
            obtain ⟨ad, hA, _⟩ := hI1 (by rw [HLB.out]; omega)
            subst hA
            have hIc : In wr (some (ad.add kk)) ((bs.drop kk).take mm) := (hI1.cut kk _ (fun _ a e => by injection e with e; rw [e])).take mm
            have hls : ((bs.drop kk).take mm).length = mm := by rw [List.length_take, List.length_drop, HLB.out]; omega
            have hsb : Sl wr (.slice (some (ad.add kk)) mm (c1 - kk)) ((bs.drop kk).take mm) := ⟨some (ad.add kk), c1 - kk, by rw [hls], by rw [hls]; omega, by unfold maxLen; omega, hIc, fun e => by cases e⟩
            have HSB := Lib.hid hsb
            have t1 : (0 : Int) ≤ (kk : Int) := by omega
            have t2 : (kk : Int) ≤ ((kk + mm : Nat) : Int) := by omega
            have t3 : ((kk + mm : Nat) : Int) ≤ (lb : Int) := by omega
            have t4 : kk + mm - kk = mm := by omega
            have t5 : ¬ c1 = kk := by omega
            have t6 : ((kk + mm : Nat) : Int) ≤ (c1 : Int) := by omega
            clear x7 hI1 hIc hls hsb
            go_wp2_with fail
            refine (put_any nn _ x4).mono ?_
            rintro e w3 ⟨v3, rfl, ho3, hb3⟩
            have HS3 := Lib.hid ho3.sl
            have HW3 := Lib.hid (HBW.out.trans (hb3.mono HBW.out.size))
            have HSB3 := Lib.hid (HSB.out.below hb3)
            clear ho3 hb3
            go_wp2_with fail
            refine (first_any _).mono ?_
            rintro e w4 ⟨rfl, hb4⟩
            have HW4 := Lib.hid (HW3.out.trans (hb4.mono HW3.out.size))
            have HS4 := Lib.hid (HS3.out.below hb4)
            have HSB4 := Lib.hid (HSB3.out.below hb4)
            clear hb4
            go_wp2_with fail
            refine (bytes_any v3 _ (putL nn) ((bs.drop kk).take mm) _ HS4.out HSB4.out true (by rw [HX7.out, beq_self_eq_true])).mono ?_
            rintro e w5 ⟨rfl, rfl⟩
            go_wp2
            go_ret
            exact ⟨rfl, HW4.out⟩
          · obtain ⟨rfl, rfl⟩ := getR_zero HRES.out hrc
            have hne : (rc != 0) = true := by rw [bne_iff_ne]; exact hrc
            have heq : (rc == 0) = false := beq_eq_false_iff_ne.2 hrc
            clear hrc
            go_wp2_with fail
            refine (first_then HBW.out).mono ?_
            rintro e w3 ⟨rfl, hb3⟩
            go_wp2
            go_ret
            exact ⟨rfl, hb3⟩
end Go.Proofs.Ythopfbkkjfnhkaa
