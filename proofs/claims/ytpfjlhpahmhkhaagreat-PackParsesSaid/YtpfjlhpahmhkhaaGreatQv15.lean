/- Texts put together: VShR4. -/
import Derived.Test.YtpfjlhpahmhkhaaGreatQv14
/- The reference's Sum. -/
namespace Go.Proofs.YtpfjlhpahmhkhaaGreat.Sh
open Go.RowKit
theorem rfirst_lit : #[.int .u32 1779033703, .int .u32 3144134277, .int .u32 1013904242, .int .u32 2773480762, .int .u32 1359893119, .int .u32 2600822924, .int .u32 528734635, .int .u32 1541459225] = stc St.first := by kernel_rfl
theorem pad_ne (n j : Nat) (h : j < zeros n) : (n + 1 + j) % 64 ≠ 56 := by have := zeros_lt n j h; omega
theorem pad_eq (n : Nat) : (n + 1 + zeros n) % 64 = 56 := by have := zeros_at n; omega
theorem Own.blk {w : World} {B : Nat} {v : Value} {bs : List UInt8} (h : Own w B v bs) (h0 : 0 < bs.length) : ∃ g c cur, v = .slice (some ⟨g, 0, none⟩) bs.length c ∧ bs.length ≤ c ∧ c ≤ maxLen ∧ B ≤ g ∧ g < w.heap.size ∧ Blk w g 5 cur ∧ ∀ j, j < bs.length → cur[j]? = some (.int .u8 (bi (bs.getD j 0))) := by
 rcases h.2 with ⟨rfl, h1⟩ | ⟨g, cap, cur, rfl, hb, hg, hc, hm, hcs, htk⟩
 ·omega
 ·refine ⟨g, cap, cur, rfl, hc, hm, hb, (Array.getElem?_eq_some_iff.1 hg).1, hg, fun j hj => ?_⟩
  have : (cur.toList.take (bs.length * 1))[j]? = (bs.map bv)[j]? := by rw [htk]
  rw [List.getElem?_take, if_pos (by omega), List.getElem?_map, List.getElem?_eq_getElem hj] at this
  rw [List.getD_eq_getElem?_getD, List.getElem?_eq_getElem hj]
  simpa [bv] using this
theorem keepg {w : World} {gm gw k p : Nat} {x0 x1 x2 x3 y : Value} (hne : gm ≠ gw) (h0 : w.cell? ⟨gm, p, none⟩ = some x0) (h1 : w.cell? ⟨gm, p + 1, none⟩ = some x1) (h2 : w.cell? ⟨gm, p + 2, none⟩ = some x2) (h3 : w.cell? ⟨gm, p + 3, none⟩ = some x3) :
  ((w.drew).setCell ⟨gw, k, none⟩ y).cell? ⟨gm, p, none⟩ = some x0 ∧ ((w.drew).setCell ⟨gw, k, none⟩ y).cell? ⟨gm, p + 1, none⟩ = some x1 ∧ ((w.drew).setCell ⟨gw, k, none⟩ y).cell? ⟨gm, p + 2, none⟩ = some x2 ∧ ((w.drew).setCell ⟨gw, k, none⟩ y).cell? ⟨gm, p + 3, none⟩ = some x3 := by
 have k' : ∀ i x, w.cell? ⟨gm, i, none⟩ = some x → ((w.drew).setCell ⟨gw, k, none⟩ y).cell? ⟨gm, i, none⟩ = some x := fun i x h => by
  rw [World.cell?_setCell_other _ _ _ _ (by intro e; injection e with e1 _; exact hne e1.symm)]
  exact h
 exact ⟨k' _ _ h0, k' _ _ h1, k' _ _ h2, k' _ _ h3⟩
theorem turn7 (u : UInt32) (w : World) : Calls Tryz.prog 252 #[.int .u32 (wi u), .int .i64 7] w fun e w' => e = .returned (.int .u32 (wi (rotl u 25))) ∧ ∃ k, w' = w.drewN k := turn_any u 7 (by omega) (by omega) w
theorem turn18 (u : UInt32) (w : World) : Calls Tryz.prog 252 #[.int .u32 (wi u), .int .i64 18] w fun e w' => e = .returned (.int .u32 (wi (rotl u 14))) ∧ ∃ k, w' = w.drewN k := turn_any u 18 (by omega) (by omega) w
theorem turn17 (u : UInt32) (w : World) : Calls Tryz.prog 252 #[.int .u32 (wi u), .int .i64 17] w fun e w' => e = .returned (.int .u32 (wi (rotl u 15))) ∧ ∃ k, w' = w.drewN k := turn_any u 17 (by omega) (by omega) w
theorem turn19 (u : UInt32) (w : World) : Calls Tryz.prog 252 #[.int .u32 (wi u), .int .i64 19] w fun e w' => e = .returned (.int .u32 (wi (rotl u 13))) ∧ ∃ k, w' = w.drewN k := turn_any u 19 (by omega) (by omega) w
theorem turn6 (u : UInt32) (w : World) : Calls Tryz.prog 252 #[.int .u32 (wi u), .int .i64 6] w fun e w' => e = .returned (.int .u32 (wi (rotl u 26))) ∧ ∃ k, w' = w.drewN k := turn_any u 6 (by omega) (by omega) w
theorem turn11 (u : UInt32) (w : World) : Calls Tryz.prog 252 #[.int .u32 (wi u), .int .i64 11] w fun e w' => e = .returned (.int .u32 (wi (rotl u 21))) ∧ ∃ k, w' = w.drewN k := turn_any u 11 (by omega) (by omega) w
theorem turn25 (u : UInt32) (w : World) : Calls Tryz.prog 252 #[.int .u32 (wi u), .int .i64 25] w fun e w' => e = .returned (.int .u32 (wi (rotl u 7))) ∧ ∃ k, w' = w.drewN k := turn_any u 25 (by omega) (by omega) w
theorem turn2 (u : UInt32) (w : World) : Calls Tryz.prog 252 #[.int .u32 (wi u), .int .i64 2] w fun e w' => e = .returned (.int .u32 (wi (rotl u 30))) ∧ ∃ k, w' = w.drewN k := turn_any u 2 (by omega) (by omega) w
theorem turn13 (u : UInt32) (w : World) : Calls Tryz.prog 252 #[.int .u32 (wi u), .int .i64 13] w fun e w' => e = .returned (.int .u32 (wi (rotl u 19))) ∧ ∃ k, w' = w.drewN k := turn_any u 13 (by omega) (by omega) w
theorem turn22 (u : UInt32) (w : World) : Calls Tryz.prog 252 #[.int .u32 (wi u), .int .i64 22] w fun e w' => e = .returned (.int .u32 (wi (rotl u 10))) ∧ ∃ k, w' = w.drewN k := turn_any u 22 (by omega) (by omega) w
theorem keepw {w : World} {g k i1 i2 n : Nat} {x1 x2 y : Value} (n1 : i1 ≠ k) (n2 : i2 ≠ k) (h1 : w.cell? ⟨g, i1, none⟩ = some x1) (h2 : w.cell? ⟨g, i2, none⟩ = some x2) :
  ((w.drewN n).setCell ⟨g, k, none⟩ y).cell? ⟨g, i1, none⟩ = some x1 ∧ ((w.drewN n).setCell ⟨g, k, none⟩ y).cell? ⟨g, i2, none⟩ = some x2 := ⟨keep1 n1 h1, keep1 n2 h2⟩
theorem mix_set' {w : World} {gh i : Nat} {s t : St} (h : Blk w gh 340 (mix s t i)) (hi : i < 8) : Blk (w.setCell ⟨gh, i, none⟩ (.int .u32 (wi (s.list.getD i 0 + t.list.getD i 0)))) gh 340 (mix s t (i + 1)) := by
 rw [← mix_set s t i hi]
 exact h.set_ i _
theorem step_cells (ta tb tc td te tf tg th kk ww : UInt32) :
  #[Value.int .u32 (wi (th + (rotl te 26 ^^^ rotl te 21 ^^^ rotl te 7) + ((te &&& tf) ^^^ (~~~ te &&& tg)) + kk + ww + (rotl ta 30 ^^^ rotl ta 19 ^^^ rotl ta 10) + ((ta &&& tb) ^^^ (ta &&& tc) ^^^ (tb &&& tc)))), .int .u32 (wi ta), .int .u32 (wi tb), .int .u32 (wi tc), .int .u32 (wi (td + (th + (rotl te 26 ^^^ rotl te 21 ^^^ rotl te 7) + ((te &&& tf) ^^^ (~~~ te &&& tg)) + kk + ww))), .int .u32 (wi te), .int .u32 (wi tf), .int .u32 (wi tg)] = stc (step ⟨ta, tb, tc, td, te, tf, tg, th⟩ kk ww) := by
 rw [UInt32.add_assoc]
 rfl
theorem info47s : (Tryz.prog.info? 340).map (·.size) = some 1 := by kernel_rfl
theorem stc_oneL (s : St) : ∀ v ∈ (stc s).toList, v.oneCell' = true := by
 intro v hv
 simp [stc] at hv
 rcases hv with rfl | rfl | rfl | rfl | rfl | rfl | rfl | rfl
 all_goals rfl
theorem stc_read {w : World} {g : Nat} {s : St} (h : Blk w g 340 (stc s)) : ∀ j v, (stc s).toList[j]? = some v → w.cell? ((⟨g, 0, none⟩ : Addr).add j) = some v := by
 intro j v hv
 rw [Addr.add_mid, Nat.zero_add, h.cell, ← hv, Array.getElem?_toList]
theorem kv_at (q : Nat) (hq : q < 64) : kv.toArray[q]? = some (.int .u32 (wi (kList.getD q 0))) := by
 rw [List.getElem?_toArray]
 unfold kv
 rw [List.getElem?_map, List.getD_eq_getElem?_getD, List.getElem?_eq_getElem (by rw [kList_length]; exact hq)]
 rfl
theorem quiet_l {P : Program} {f : FuncId} {args : Array Value} {w : World} {n : Nat} {v : Value}
  (h : Calls P f args (w.drewN n) fun e w' => e = .returned v ∧ ∃ k, w' = (w.drewN n).drewN k) : Calls P f args (w.drewN n) fun e w'' => e = .returned v ∧ ∃ m, w'' = w.drewN m :=
 h.mono fun _ _ ⟨he, k, hk⟩ => ⟨he, n + k, by rw [hk, World.drewN_drewN]⟩
theorem quiet_a {P : Program} {f : FuncId} {args : Array Value} {w : World} {a n : Nat} {v : Value}
  (h : Calls P f args (w.drewN (a + n)) fun e w' => e = .returned v ∧ ∃ k, w' = (w.drewN (a + n)).drewN k) : Calls P f args (w.drewN (a + n)) fun e w'' => e = .returned v ∧ ∃ m, w'' = w.drewN (a + m) :=
 h.mono fun _ _ ⟨he, k, hk⟩ => ⟨he, n + k, by rw [hk, World.drewN_drewN, Nat.add_assoc]⟩
abbrev domOf {A B : Prop} (_ : A → B) : Prop := A
theorem withid {G : Prop} (k : (G → G) → G) : G := k id
set_option maxRecDepth 100000 in
set_option maxHeartbeats 40000000 in
theorem rsum_any (v : Value) (bs : List UInt8) (w : World) (h : Sl w v bs) (hn : bs.length ≤ 140737488351232) : Calls Tryz.prog 187 #[v] w (OwnPost w (sumOf bs)) := by
 have HSL := Lib.hid h
 obtain ⟨A, c, rfl, hlc, hcm, hI, hA⟩ := h
 clear hI hA
 obtain ⟨n, hl⟩ : ∃ n, bs.length = n := ⟨_, rfl⟩
 rw [hl] at hlc hn HSL ⊢
 have HL := Lib.hid hl
 have HLC := Lib.hid hlc
 have HCM := Lib.hid hcm
 clear hl hlc hcm
 go_enter Tryz.func187, Tryz.ntmps187
 go_wp2_with fail
 refine (rconst_any _).mono ?_
 rintro e w1 ⟨gk, rfl, hk1, hgk, hb1⟩
 have HK1 := Lib.hid hk1
 have HB1 := Lib.hid hb1
 have hz1 := hb1.size
 have hgk1 : gk < w1.heap.size := hk1.lt
 clear hk1 hb1
 go_wp2_with fail
 rw [rfirst_lit]
 have hk2 : Blk (w1.alloc (.cells (stc St.first) 340)) gk 340 kv.toArray := HK1.out.alloc _
 have hh2 : Blk (w1.alloc (.cells (stc St.first) 340)) w1.heap.size 340 (stc St.first) := heap_alloc_new _ _
 have hb2 : Below w.heap.size w (w1.alloc (.cells (stc St.first) 340)) := HB1.out.alloc hz1 _
 have hz2 : (w1.alloc (.cells (stc St.first) 340)).heap.size = w1.heap.size + 1 := by simp
 generalize w1.alloc (.cells (stc St.first) 340) = w2 at *
 generalize w1.heap.size = gh at *
 have HK2 := Lib.hid hk2
 have HH2 := Lib.hid hh2
 have HB2 := Lib.hid hb2
 have HZ2 := Lib.hid hz2
 clear hk2 hh2 hb2 hz2 HK1 HB1
 refine (copyb_any _ bs _ (HSL.out.below HB2.out) (by rw [HL.out]; omega)).mono ?_
 rintro e w3 ⟨v3, rfl, ho3, hb3⟩
 have HO3 := Lib.hid ho3
 have HB3 := Lib.hid hb3
 have hz3 : w2.heap.size ≤ w3.heap.size := hb3.size
 have hsm : bs.length + 1 ≤ 140737488355328 := by rw [HL.out]; omega
 clear ho3 hb3
 go_wp2_with (at_builtin; refine append_byte rfl (.tmp 28) (.tmp 29) rfl w3 w2.heap.size v3 bs rfl HO3.out 128 128 (by rw [bi128]) rfl hsm hz3 ?_; intro v4 w4 ho4 hb4; have HO4 := Lib.hid ho4; have HB4 := Lib.hid (HB3.out.trans hb4); clear ho4 hb4)
 clear hsm
 obtain ⟨base, hbase⟩ : ∃ base, bs ++ [128] = base := ⟨_, rfl⟩
 have hblen : base.length = n + 1 := by rw [← hbase, List.length_append, HL.out]; rfl
 have ho4 := HO4.out
 rw [hbase] at ho4
 have HBASE := Lib.hid hbase
 have HLEN := Lib.hid hblen
 clear hbase hblen HO4
 go_loopw [5] (fun v wr => ∃ j : Nat, j ≤ zeros n ∧ Own wr w2.heap.size v (base ++ List.replicate j 0) ∧ Below w2.heap.size w2 wr) (fun v _ => n + 128 - lenOf v)
 case atStart => exact ⟨0, by omega, by simpa using ho4, HB4.out⟩
 case round =>
  clear ho4 HB4
  obtain ⟨j, hj, ho, hbw⟩ := hrel
  have hsz : w2.heap.size ≤ wr.heap.size := hbw.size
  obtain ⟨A5, c5, rfl, hc1, hc2⟩ := ho.length
  have hzs := zeros_small n
  obtain ⟨L, hL⟩ : ∃ L, (base ++ List.replicate j 0).length = L := ⟨_, rfl⟩
  have hL' : L = n + 1 + j := by rw [← hL, List.length_append, HLEN.out, List.length_replicate]
  rw [hL] at ho hc1 ⊢
  by_cases hlt : j < zeros n
  ·focus
    have hne := pad_ne n j hlt
    rw [← hL'] at hne
    have t1 : ((L : Int) % 64 == 56) = false := beq_eq_false_iff_ne.2 (by omega)
    have t2 : ((L : Int) % 64 != 56) = true := by rw [bne_iff_ne]; omega
    have t3 : ((L : Int).tmod 64 != 56) = true := by rw [bne_iff_ne, Int.tmod_eq_emod_of_nonneg (by omega)]; omega
    have hsm : (base ++ List.replicate j 0).length + 1 ≤ 140737488355328 := by omega
    have HL2 := Lib.hid hL
    have HL' := Lib.hid hL'
    have HBW := Lib.hid hbw
    have HO := Lib.hid ho
    clear hL hL' hne hbw ho
    go_wp2_with (at_builtin; refine append_byte rfl (.tmp 35) (.tmp 36) rfl wr w2.heap.size (.slice A5 L c5) (base ++ List.replicate j 0) rfl HO.out 0 0 (by rw [bi0]) rfl hsm hsz ?_; intro v6 w6 ho6 hb6; have HO6 := Lib.hid ho6; have HB6 := Lib.hid hb6; clear ho6 hb6)
    have hl6 := HO6.out.lenOf
    refine ⟨⟨j + 1, by omega, ?_, HBW.out.trans HB6.out⟩, ?_⟩
    ·have := HO6.out
     rw [List.append_assoc, ← List.replicate_succ'] at this
     exact this
    ·rw [hl6, List.length_append, HL2.out]
     show n + 128 - (L + 1) < n + 128 - L
     have := HL'.out
     omega
  ·obtain rfl : j = zeros n := by omega
   have hat := pad_eq n
   rw [← hL'] at hat
   have t1 : ((L : Int) % 64 == 56) = true := beq_iff_eq.2 (by omega)
   have t2 : ((L : Int) % 64 != 56) = false := by rw [bne_eq_false_iff_eq]; omega
   have t3 : ((L : Int).tmod 64 != 56) = false := by rw [bne_eq_false_iff_eq, Int.tmod_eq_emod_of_nonneg (by omega)]; omega
   obtain ⟨base2, hb2e⟩ : ∃ base2, base ++ List.replicate (zeros n) 0 = base2 := ⟨_, rfl⟩
   rw [hb2e] at hL ho
   have HB2E := Lib.hid hb2e
   have HLL := Lib.hid hL
   have HL' := Lib.hid hL'
   have HBW := Lib.hid hbw
   have HO := Lib.hid ho
   clear hL hL' hat hb2e hbw ho
   have u1 : IntKind.u64.wrap (n : Int) = (n : Int) := IntWalk.u64_in _ (by omega)
   have u2 : IntKind.u64.wrap ((n : Int) * 8) = (n : Int) * 8 := IntWalk.u64_in _ (by omega)
   have hLl : L ≤ n + 65 := by have h1 := HL'.out; omega
   go_wp2_with fail
   clear t1 t2 t3
   obtain ⟨wo, rfl⟩ : ∃ wo : World, wo = wr := ⟨_, rfl⟩
   go_loopw [5, 7] (fun v i wr => ∃ k : Nat, k ≤ 8 ∧ i = .int .i64 (7 - (k : Int)) ∧ Own wr w2.heap.size v (base2 ++ (len8 n).take k) ∧ Below w2.heap.size w2 wr) (fun _ i _ => (intOf i + 1).toNat)
   case atStart => exact ⟨0, by omega, rfl, by simpa using HO.out, HBW.out⟩
   case round =>
    clear HO HBW
    obtain ⟨k, hk, rfl, ho, hbw⟩ := hrel
    have hsz : w2.heap.size ≤ wr.heap.size := hbw.size
    obtain ⟨L2, hL2⟩ : ∃ L2, (base2 ++ (len8 n).take k).length = L2 := ⟨_, rfl⟩
    have hL2' : L2 = L + k := by rw [← hL2, List.length_append, HLL.out, List.length_take, len8_length]; omega
    obtain ⟨A2, c2, hv, hc21, hc22⟩ := ho.length
    subst hv
    rw [hL2] at ho hc21 ⊢
    have HO := Lib.hid ho
    have HBW := Lib.hid hbw
    clear ho hbw
    by_cases hlt : k < 8
    ·focus
      have hsm : (base2 ++ (len8 n).take k).length + 1 ≤ 140737488355328 := by omega
      obtain ⟨q, hq⟩ : ∃ q : Nat, q = 7 - k := ⟨_, rfl⟩
      obtain ⟨S, hS⟩ : ∃ S : Nat, S = 56 - 8 * k := ⟨_, rfl⟩
      have hq1 : (7 : Int) - (k : Int) = (q : Int) := by omega
      have hS1 : 8 * (q : Int) = (S : Int) := by omega
      have hS2 : S ≤ 56 := by omega
      have hS3 : (0 : Int) ≤ (S : Int) := by omega
      have hq2 : (0 : Int) ≤ (q : Int) := by omega
      have hq3 : (q : Int) ≤ 7 := by omega
      have hS4 : IntKind.i64.wrap (8 * (q : Int)) = (S : Int) := by rw [IntWalk.i64_in _ (by omega)]; exact hS1
      have hby : IntKind.u8.wrap ((n : Int) * 8 / 2 ^ S) = bi (UInt8.ofNat (8 * n / 2 ^ (56 - 8 * k))) := by
       rw [← byte_of, ← hS]
       congr 1
       rw [show (n : Int) * 8 = ((8 * n : Nat) : Int) by omega]
       simp
      rw [hq1]
      have HS := Lib.hid hS
      have HQ := Lib.hid hq1
      have HL2 := Lib.hid hL2
      have HL2' := Lib.hid hL2'
      have HBY := Lib.hid hby
      clear hS hq hq1 hL2 hL2' hby
      go_wp2_with (at_builtin; refine append_byte rfl (.tmp 46) (.tmp 52) rfl wr w2.heap.size (.slice A2 L2 c2) (base2 ++ (len8 n).take k) rfl HO.out _ _ HBY.out.symm rfl hsm hsz ?_; intro v3 w3 ho3 hb3; have HO3 := Lib.hid ho3; have HB3 := Lib.hid hb3; clear ho3 hb3)
      refine ⟨⟨k + 1, by omega, ?_, ?_, HBW.out.trans HB3.out⟩, ?_⟩
      ·congr 1
       have := HQ.out
       omega
      ·have := HO3.out
       rw [List.append_assoc, ← len8_take n k hlt] at this
       exact this
      ·simp [intOf]
    ·focus
      obtain rfl : k = 8 := by omega
      have hfin : base2 ++ (len8 n).take 8 = lastOf bs n := by
       have h8 : (len8 n).take 8 = len8 n := rfl
       unfold lastOf
       rw [h8, ← HB2E.out, ← HBASE.out]
       simp
      have ho := HO.out
      rw [hfin] at ho
      have HO' := Lib.hid ho
      rw [hfin] at hL2
      have HLN := Lib.hid hL2
      clear ho hfin hL2 hL2' HO
      rw [show (7 : Int) - ((8 : Nat) : Int) = -1 from by omega]
      have hmk := make_words
      go_wp2_with fail
      clear hmk
      obtain ⟨N, hN, hN2⟩ := lastOf_mul bs n HL.out
      rw [HLN.out] at hN
      have hpos : 0 < (lastOf bs n).length := by rw [lastOf_len bs n HL.out]; omega
      obtain ⟨gm, cm, cur, hvm, hcm1, hcm2, hgm1, hgm2, hbm, hcur⟩ := HO'.out.blk hpos
      rw [HLN.out] at hvm hcm1 hcur hpos
      injection hvm with e1 e2 e3
      clear e2
      subst e1 e3
      have hz2 := HZ2.out
      have hz3 := HB2.out.size
      have hghm : gh < gm := by omega
      have hrf : RF w (wr.alloc (.cells (madeCells #[.int .u32 0] 64) 340)) gk gh gm cur St.first :=
       ⟨(HK2.out.below HBW.out (by omega)).alloc _, (HH2.out.below HBW.out (by omega)).alloc _, hbm.alloc _, (HB2.out.trans (HBW.out.mono hz3)).alloc (by omega) _⟩
      have hsc : Sc [] (wr.alloc (.cells (madeCells #[.int .u32 0] 64) 340)) wr.heap.size 0 := Sc.made _ _
      generalize wr.alloc (.cells (madeCells #[.int .u32 0] 64) 340) = w7 at *
      generalize wr.heap.size = gw at *
      obtain ⟨LL, hLL⟩ : ∃ LL, lastOf bs n = LL := ⟨_, rfl⟩
      rw [hLL] at hcur
      have HLLE := Lib.hid hLL
      have hLT : LL.length = L2 := by rw [← hLL]; exact HLN.out
      have HLT := Lib.hid hLT
      clear hLT
      have HCUR := Lib.hid hcur
      have HN := Lib.hid hN
      have HRF := Lib.hid hrf
      have HSC := Lib.hid hsc
      have hM1 : L2 ≤ 140737488355328 := by omega
      clear hLL hcur hN hrf hsc hbm HO' HBW HLN hz2 hz3 HZ2 HK2 HH2 HB2 HO3 HB3 hpos
      obtain ⟨M, hMM⟩ : ∃ M, M = L2 := ⟨_, rfl⟩
      rw [← hMM] at HN HCUR hcm1 hM1 HLT ⊢
      clear hMM HLL HL' HB2E HBASE HLEN
      go_loopw [9] (fun i wr => ∃ k : Nat, k ≤ N ∧ i = .int .i64 (64 * (k : Int)) ∧ (∃ x, Sc x wr gw 0) ∧ RF w wr gk gh gm cur (blocks St.first LL k)) (fun i _ => 64 * N - (intOf i).toNat)
      case atStart => exact ⟨0, by omega, rfl, ⟨[], HSC.out⟩, by rw [blocks_zero]; exact HRF.out⟩
      case round =>
       clear HSC HRF
       obtain ⟨k, hk, rfl, ⟨x, hx⟩, hrf⟩ := hrel
       have HSC := Lib.hid hx
       obtain ⟨s, hs⟩ : ∃ s, blocks St.first LL k = s := ⟨_, rfl⟩
       rw [hs] at hrf
       have HS := Lib.hid hs
       have HRF := Lib.hid hrf
       clear hx hs hrf
       by_cases hlt : k < N
       ·focus
         obtain ⟨Bk, hB⟩ : ∃ Bk, (LL.drop (64 * k)).take 64 = Bk := ⟨_, rfl⟩
         have hkM : 64 * k + 64 ≤ M := by have := HN.out; omega
         have hcb : ∀ i, i < 64 → cur[64 * k + i]? = some (.int .u8 (bi (Bk.getD i 0))) := by
          intro i hi
          rw [HCUR.out _ (by omega), ← hB]
          simp only [List.getD_eq_getElem?_getD, List.getElem?_take, if_pos hi, List.getElem?_drop]
         have HCB := Lib.hid hcb
         have HBK := Lib.hid hB
         have hj1 : 64 * (k : Int) < (M : Int) := by omega
         clear hcb hB
         go_wp2_with fail
         obtain ⟨wo, rfl⟩ : ∃ wo : World, wo = wr := ⟨_, rfl⟩
         go_loopw [10] (fun i wr => ∃ j : Nat, j ≤ 16 ∧ i = .int .i64 j ∧ Sc Bk wr gw j ∧ RF w wr gk gh gm cur s) (fun i _ => 16 - (intOf i).toNat)
         case atStart => exact ⟨0, by omega, rfl, HSC.out.zero, HRF.out⟩
         case round =>
          clear HSC HRF
          obtain ⟨j, hj, rfl, hsc, hrf⟩ := hrel
          by_cases hlt2 : j < 16
          ·focus
            obtain ⟨p, hp⟩ : ∃ p : Nat, p = 64 * k + 4 * j := ⟨_, rfl⟩
            have c0 : wr.cell? ⟨gm, p, none⟩ = some (.int .u8 (bi (Bk.getD (4 * j) 0))) := by rw [hrf.2.2.1.cell, hp]; exact HCB.out (4 * j) (by omega)
            have c1 : wr.cell? ⟨gm, p + 1, none⟩ = some (.int .u8 (bi (Bk.getD (4 * j + 1) 0))) := by rw [hrf.2.2.1.cell, hp]; exact HCB.out (4 * j + 1) (by omega)
            have c2 : wr.cell? ⟨gm, p + 2, none⟩ = some (.int .u8 (bi (Bk.getD (4 * j + 2) 0))) := by rw [hrf.2.2.1.cell, hp]; exact HCB.out (4 * j + 2) (by omega)
            have c3 : wr.cell? ⟨gm, p + 3, none⟩ = some (.int .u8 (bi (Bk.getD (4 * j + 3) 0))) := by rw [hrf.2.2.1.cell, hp]; exact HCB.out (4 * j + 3) (by omega)
            have hwd : Hid (shlw (Bk.getD (4 * j) 0).toUInt32 24 ||| shlw (Bk.getD (4 * j + 1) 0).toUInt32 16 ||| shlw (Bk.getD (4 * j + 2) 0).toUInt32 8 ||| (Bk.getD (4 * j + 3) 0).toUInt32 = wd Bk j) := by
             unfold Hid; rw [wd_lo Bk j hlt2]; rfl
            generalize Bk.getD (4 * j) 0 = b0 at *
            generalize Bk.getD (4 * j + 1) 0 = b1 at *
            generalize Bk.getD (4 * j + 2) 0 = b2 at *
            generalize Bk.getD (4 * j + 3) 0 = b3 at *
            obtain ⟨u0, hcell⟩ := hsc.any j (by omega)
            have hfro := hsc.frozen j
            have HSC := Lib.hid hsc
            have HRF := Lib.hid hrf
            have hp1 : 64 * (k : Int) + 4 * (j : Int) = (p : Int) := by omega
            have hw1 : IntKind.i64.wrap (4 * (j : Int)) = 4 * (j : Int) := IntWalk.i64_in _ (by omega)
            have hw2 : IntKind.i64.wrap (64 * (k : Int) + 4 * (j : Int)) = (p : Int) := by rw [IntWalk.i64_in _ (by omega)]; exact hp1
            have hpM : p + 4 ≤ M := by omega
            have HP := Lib.hid hp
            clear hsc hrf hp
            go_wp2_with fail
            have q1 : IntKind.i64.wrap ((p : Int) + 1) = (p : Int) + 1 := IntWalk.i64_in _ (by omega)
            have q2 : IntKind.i64.wrap ((p : Int) + 2) = (p : Int) + 2 := IntWalk.i64_in _ (by omega)
            have q3 : IntKind.i64.wrap ((p : Int) + 3) = (p : Int) + 3 := IntWalk.i64_in _ (by omega)
            have f1 : ((p : Int) + 1).toNat = p + 1 := by omega
            have f2 : ((p : Int) + 2).toNat = p + 2 := by omega
            have f3 : ((p : Int) + 3).toNat = p + 3 := by omega
            have g0 : (0 : Int) ≤ (p : Int) := by omega
            have g1 : (0 : Int) ≤ (p : Int) + 1 := by omega
            have g2 : (0 : Int) ≤ (p : Int) + 2 := by omega
            have g3 : (0 : Int) ≤ (p : Int) + 3 := by omega
            have m0 : (p : Int) < (M : Int) := by omega
            have m1 : (p : Int) + 1 < (M : Int) := by omega
            have m2 : (p : Int) + 2 < (M : Int) := by omega
            have m3 : (p : Int) + 3 < (M : Int) := by omega
            have n0 : (0 : Int) ≤ (j : Int) := by omega
            have n1 : (j : Int) < 64 := by omega
            have x0 := wbyte b0
            have x1 := wbyte b1
            have x2 := wbyte b2
            have x3 := wbyte b3
            have s0 : IntKind.u32.wrap (wi b0.toUInt32 * 16777216) = wi (shlw b0.toUInt32 24) := wshl b0.toUInt32 24 (by omega)
            have s1 : IntKind.u32.wrap (wi b1.toUInt32 * 65536) = wi (shlw b1.toUInt32 16) := wshl b1.toUInt32 16 (by omega)
            have s2 : IntKind.u32.wrap (wi b2.toUInt32 * 256) = wi (shlw b2.toUInt32 8) := wshl b2.toUInt32 8 (by omega)
            have o1 := wor (shlw b0.toUInt32 24) (shlw b1.toUInt32 16)
            have o2 := wor (shlw b0.toUInt32 24 ||| shlw b1.toUInt32 16) (shlw b2.toUInt32 8)
            have o3 := wor (shlw b0.toUInt32 24 ||| shlw b1.toUInt32 16 ||| shlw b2.toUInt32 8) b3.toUInt32
            have ngw : gm ≠ gw := by omega
            clear hw1 hw2 hp1
            go_region_held3 (fun w' => w'.cell? ⟨gm, p, none⟩ = some (.int .u8 (bi b0)) ∧ w'.cell? ⟨gm, p + 1, none⟩ = some (.int .u8 (bi b1)) ∧ w'.cell? ⟨gm, p + 2, none⟩ = some (.int .u8 (bi b2)) ∧ w'.cell? ⟨gm, p + 3, none⟩ = some (.int .u8 (bi b3))) (first | exact ⟨c0, c1, c2, c3⟩ | exact keepg ngw c0 c1 c2 c3) (fail)
            go_wp2
            go_roundw
            case rel => exact ⟨j + 1, by omega, by go_num, (HSC.out.drew).set (by omega) _ hwd.out, HRF.out.drew.far (by simp; omega) (by simp; omega) (by simp; omega) (by simp; omega) _⟩
            case measure => simp [intOf]; omega
          ·refine withid fun hid => ?_
           let rec aux356 : domOf hid := by
            clear aux356
            delta domOf
            clear hid
            obtain rfl : j = 16 := by omega
            rw [show ((16 : Nat) : Int) = 16 from rfl]
            have HSC := Lib.hid hsc
            have HRF := Lib.hid hrf
            clear hsc hrf
            go_wp2_with fail
            obtain ⟨wo2, rfl⟩ : ∃ wo2 : World, wo2 = wr := ⟨_, rfl⟩
            go_loopw [12] (fun i wr => ∃ j : Nat, 16 ≤ j ∧ j ≤ 64 ∧ i = .int .i64 j ∧ Sc Bk wr gw j ∧ RF w wr gk gh gm cur s) (fun i _ => 64 - (intOf i).toNat)
            case atStart => exact ⟨16, by omega, by omega, rfl, HSC.out, HRF.out⟩
            case round =>
             clear HSC HRF
             obtain ⟨j, hj16, hj64, rfl, hsc, hrf⟩ := hrel
             by_cases hlt3 : j < 64
             ·focus
               have c16 := hsc.cell (j - 16) (by omega)
               have c7 := hsc.cell (j - 7) (by omega)
               have c15 := hsc.cell (j - 15) (by omega)
               have c2 := hsc.cell (j - 2) (by omega)
               obtain ⟨u0, hcell⟩ := hsc.any j (by omega)
               have hfro := hsc.frozen j
               have hlast : Hid (wd Bk (j - 16) + rots (wd Bk (j - 15)) 25 14 3 + wd Bk (j - 7) + rots (wd Bk (j - 2)) 15 13 10 = wd Bk j) := by
                unfold Hid
                rw [wd_hi Bk j hj16 hlt3]
                congr 1
                rw [UInt32.add_assoc, UInt32.add_assoc, UInt32.add_comm (wd Bk (j - 7))]
               generalize wd Bk (j - 16) = u16 at *
               generalize wd Bk (j - 7) = u7 at *
               generalize wd Bk (j - 15) = u15 at *
               generalize wd Bk (j - 2) = u2 at *
               have HSC := Lib.hid hsc
               have HRF := Lib.hid hrf
               clear hsc hrf
               have hi1 : (j : Int) < 64 := by omega
               have hi2 : (j : Int) - 16 < 64 := by omega
               have hi3 : (j : Int) - 7 < 64 := by omega
               have hi4 : (j : Int) - 15 < 64 := by omega
               have hi5 : (j : Int) - 2 < 64 := by omega
               have hz1 : (0 : Int) ≤ j := by omega
               have hz2 : 0 ≤ (j : Int) - 16 := by omega
               have hz3 : 0 ≤ (j : Int) - 7 := by omega
               have hz4 : 0 ≤ (j : Int) - 15 := by omega
               have hz5 : 0 ≤ (j : Int) - 2 := by omega
               go_wp2_with fail
               have q1 : (16 : Int) ≤ j := by omega
               have q2 : (7 : Int) ≤ j := by omega
               have q3 : (15 : Int) ≤ j := by omega
               have q4 : (2 : Int) ≤ j := by omega
               have q5 : (j : Int) < 80 := by omega
               have q6 : (j : Int) < 71 := by omega
               have q7 : (j : Int) < 79 := by omega
               have q8 : (j : Int) < 66 := by omega
               have r1 : wi u15 / 8 = wi (shrw u15 3) := wshr u15 3 (by omega)
               have R2 : Hid (wi u2 / 1024 = wi (shrw u2 10)) := wshr u2 10 (by omega)
               have y1 := wxor (rotl u15 25) (rotl u15 14)
               have y2 := wxor (rotl u15 25 ^^^ rotl u15 14) (shrw u15 3)
               have E1 := Lib.hid (show -9223372036854775808 ≤ (j : Int) - 16 ∧ (j : Int) - 16 ≤ 9223372036854775807 by omega)
               have E2 := Lib.hid (show -9223372036854775808 ≤ (j : Int) - 7 ∧ (j : Int) - 7 ≤ 9223372036854775807 by omega)
               have E4 := Lib.hid (show -9223372036854775808 ≤ (j : Int) - 2 ∧ (j : Int) - 2 ≤ 9223372036854775807 by omega)
               have F1 := Lib.hid (show ((j : Int) - 16).toNat = j - 16 by omega)
               have F2 := Lib.hid (show ((j : Int) - 7).toNat = j - 7 by omega)
               have F4 := Lib.hid (show ((j : Int) - 2).toNat = j - 2 by omega)
               have N1 : j - 16 ≠ j := by omega
               have N2 : j - 7 ≠ j := by omega
               have e3 : IntKind.i64.wrap ((j : Int) - 15) = (j : Int) - 15 := IntWalk.i64_in _ (by omega)
               have f3 : ((j : Int) - 15).toNat = j - 15 := by omega
               go_quiet ((first | (go_at_call_of 252 (Value.int .i64 7); first | exact quiet_a (turn7 _ _) | exact quiet_l (turn7 _ _)) | (go_at_call_of 252 (Value.int .i64 18); first | exact quiet_a (turn18 _ _) | exact quiet_l (turn18 _ _))))
               clear e3 f3 hi4 hz4 q3 q7 y1 y2 r1 c15
               go_wp2_with fail
               have e4 : IntKind.i64.wrap ((j : Int) - 2) = (j : Int) - 2 := IntWalk.i64_in _ (by have := E4.out; omega)
               have f4 : ((j : Int) - 2).toNat = j - 2 := F4.out
               have y3 := wxor (rotl u2 15) (rotl u2 13)
               have y4 := wxor (rotl u2 15 ^^^ rotl u2 13) (shrw u2 10)
               have r2 : wi u2 / 1024 = wi (shrw u2 10) := R2.out
               go_quiet ((first | (go_at_call_of 252 (Value.int .i64 17); first | exact quiet_a (turn17 _ _) | exact quiet_l (turn17 _ _)) | (go_at_call_of 252 (Value.int .i64 19); first | exact quiet_a (turn19 _ _) | exact quiet_l (turn19 _ _))))
               clear e4 f4 hi5 hz5 q4 q8 y3 y4 r2 c2
               go_wp2_with fail
               have e1 : IntKind.i64.wrap ((j : Int) - 16) = (j : Int) - 16 := IntWalk.i64_in _ (by have := E1.out; omega)
               have e2 : IntKind.i64.wrap ((j : Int) - 7) = (j : Int) - 7 := IntWalk.i64_in _ (by have := E2.out; omega)
               have f1 : ((j : Int) - 16).toNat = j - 16 := F1.out
               have f2 : ((j : Int) - 7).toNat = j - 7 := F2.out
               have a1 := wadd u16 (rotl u15 25 ^^^ rotl u15 14 ^^^ shrw u15 3)
               have a2 := wadd (u16 + (rotl u15 25 ^^^ rotl u15 14 ^^^ shrw u15 3)) u7
               have a3 := wadd (u16 + (rotl u15 25 ^^^ rotl u15 14 ^^^ shrw u15 3) + u7) (rotl u2 15 ^^^ rotl u2 13 ^^^ shrw u2 10)
               go_region_held3 (fun w' => w'.cell? ⟨gw, j - 16, none⟩ = some (.int .u32 (wi u16)) ∧ w'.cell? ⟨gw, j - 7, none⟩ = some (.int .u32 (wi u7))) (first | exact ⟨c16, c7⟩ | exact keepw N1 N2 c16 c7) (fail)
               clear e1 e2 f1 f2 a1 a2 a3
               go_wp2
               go_roundw
               case rel => exact ⟨j + 1, by omega, by omega, by go_num, (HSC.out.drewN _).set hlt3 _ hlast.out, (HRF.out.drewN _).far (by simp; omega) (by simp; omega) (by simp; omega) (by simp; omega) _⟩
               case measure => simp [intOf]; omega
             ·focus
               obtain rfl : j = 64 := by omega
               rw [show ((64 : Nat) : Int) = 64 from rfl]
               have HSC := Lib.hid hsc
               have HRF := Lib.hid hrf
               clear hsc hrf
               have hgv : gw < wr.heap.size := World.block_lt_of_cell? wr _ (HSC.out.cell 0 (by omega))
               go_wp2_with (refine wpList_copy_own rfl (.tmp 163) (.tmp 164) 338 338 rfl 340 Tryz.underlying338 info47s wr.heap.size 0 8 8 ⟨gh, 0, none⟩ 8 8 rfl rfl _ 343 (heap_alloc_new _ _) (stc s).toList rfl (by exact stc_read (HRF.out.alloc _).2.1) (by exact Nat.le_refl 8) (by exact stc_oneL s) ?_; change wpList _ _ _ _ _ ((wr.alloc (.cells #[.int .u32 0, .int .u32 0, .int .u32 0, .int .u32 0, .int .u32 0, .int .u32 0, .int .u32 0, .int .u32 0] 343)).setRow wr.heap.size (stc s)); rw [World.setRow_alloc_new]; have hv3 : Blk (wr.alloc (.cells (stc s) 343)) wr.heap.size 343 (stc s) := heap_alloc_new _ _; have hrf3 := HRF.out.alloc (.cells (stc s) 343); have hsc3 := HSC.out.alloc (.cells (stc s) 343); generalize wr.alloc (.cells (stc s) 343) = w9 at hv3 hrf3 hsc3 ⊢; generalize wr.heap.size = gv at hv3 hgv ⊢; have HV3 := Lib.hid hv3; have HRF3 := Lib.hid hrf3; have HSC3 := Lib.hid hsc3; clear hv3 hrf3 hsc3 HRF HSC)
               go_loopw [16] (fun i wr => ∃ q : Nat, q ≤ 64 ∧ i = .int .i64 q ∧ Blk wr gv 343 (stc (rounds (words Bk 64) s q)) ∧ Sc Bk wr gw 64 ∧ RF w wr gk gh gm cur s) (fun i _ => 64 - (intOf i).toNat)
               case atStart => exact ⟨0, by omega, rfl, by rw [rounds_zero]; exact HV3.out, HSC3.out, HRF3.out⟩
               case round =>
                clear HV3 HRF3 HSC3
                obtain ⟨q, hq, rfl, hv, hsc, hrf⟩ := hrel
                by_cases hlt4 : q < 64
                ·focus
                  generalize hst : rounds (words Bk 64) s q = t at hv
                  obtain ⟨ta, tb, tc, td, te, tf, tg, th⟩ := t
                  have hr : Hid (rounds (words Bk 64) s (q + 1) = step ⟨ta, tb, tc, td, te, tf, tg, th⟩ (kList.getD q 0) (wd Bk q)) := by
                   unfold Hid; rw [rounds_next, hst, wd_def]
                  clear hst
                  obtain ⟨c0, c1, c2, c3, c4, c5, c6, c7⟩ := stc_cell hv
                  have ck : wr.cell? ⟨gk, q, none⟩ = some (.int .u32 (wi (kList.getD q 0))) := by rw [hrf.1.cell]; exact kv_at q hlt4
                  have cw := hsc.cell q hlt4
                  have HV := Lib.hid hv
                  have HSC := Lib.hid hsc
                  have HRF := Lib.hid hrf
                  clear hv hsc hrf
                  have hz1 : (0 : Int) ≤ (q : Int) := by omega
                  have hz2 : (q : Int) < 64 := by omega
                  generalize kList.getD q 0 = kk at *
                  generalize wd Bk q = ww at *
                  have y1 := wxor (rotl te 26) (rotl te 21)
                  have y2 := wxor (rotl te 26 ^^^ rotl te 21) (rotl te 7)
                  go_wp2_with fail
                  go_quiet ((first | (go_at_call_of 252 (Value.int .i64 6); first | exact quiet_a (turn6 _ _) | exact quiet_l (turn6 _ _)) | (go_at_call_of 252 (Value.int .i64 11); first | exact quiet_a (turn11 _ _) | exact quiet_l (turn11 _ _)) | (go_at_call_of 252 (Value.int .i64 25); first | exact quiet_a (turn25 _ _) | exact quiet_l (turn25 _ _))))
                  clear y1 y2
                  have b1 := wnot te
                  have b2 := wand te tf
                  have b3 := wand (~~~ te) tg
                  have b4 := wxor (te &&& tf) (~~~ te &&& tg)
                  go_wp2_with fail
                  clear b1 b2 b3 b4
                  have d1 := wadd th (rotl te 26 ^^^ rotl te 21 ^^^ rotl te 7)
                  have d2 := wadd (th + (rotl te 26 ^^^ rotl te 21 ^^^ rotl te 7)) ((te &&& tf) ^^^ (~~~ te &&& tg))
                  have d3 := wadd (th + (rotl te 26 ^^^ rotl te 21 ^^^ rotl te 7) + ((te &&& tf) ^^^ (~~~ te &&& tg))) kk
                  have d4 := wadd (th + (rotl te 26 ^^^ rotl te 21 ^^^ rotl te 7) + ((te &&& tf) ^^^ (~~~ te &&& tg)) + kk) ww
                  go_quiet (fail)
                  clear d1 d2 d3 d4
                  have y1 := wxor (rotl ta 30) (rotl ta 19)
                  have y2 := wxor (rotl ta 30 ^^^ rotl ta 19) (rotl ta 10)
                  go_wp2_with fail
                  go_quiet ((first | (go_at_call_of 252 (Value.int .i64 2); first | exact quiet_a (turn2 _ _) | exact quiet_l (turn2 _ _)) | (go_at_call_of 252 (Value.int .i64 13); first | exact quiet_a (turn13 _ _) | exact quiet_l (turn13 _ _)) | (go_at_call_of 252 (Value.int .i64 22); first | exact quiet_a (turn22 _ _) | exact quiet_l (turn22 _ _))))
                  clear y1 y2
                  have b5 := wand ta tb
                  have b6 := wand ta tc
                  have b7 := wand tb tc
                  have b8 := wxor (ta &&& tb) (ta &&& tc)
                  have b9 := wxor ((ta &&& tb) ^^^ (ta &&& tc)) (tb &&& tc)
                  have d5 := wadd (th + (rotl te 26 ^^^ rotl te 21 ^^^ rotl te 7) + ((te &&& tf) ^^^ (~~~ te &&& tg)) + kk + ww) (rotl ta 30 ^^^ rotl ta 19 ^^^ rotl ta 10)
                  have d6 := wadd (th + (rotl te 26 ^^^ rotl te 21 ^^^ rotl te 7) + ((te &&& tf) ^^^ (~~~ te &&& tg)) + kk + ww + (rotl ta 30 ^^^ rotl ta 19 ^^^ rotl ta 10)) ((ta &&& tb) ^^^ (ta &&& tc) ^^^ (tb &&& tc))
                  have d7 := wadd td (th + (rotl te 26 ^^^ rotl te 21 ^^^ rotl te 7) + ((te &&& tf) ^^^ (~~~ te &&& tg)) + kk + ww)
                  go_wp2_with (refine wpList_store_row rfl 343 (.tmp 15) (.tmp 258) rfl gv _ rfl rfl 343 _ (HV.out.drewN _) ?e3 ?e4 ?e5 ?_)
                  case e3 => exact info50
                  case e4 => rfl
                  case e5 => simp [Value.oneCell']
                  go_roundw
                  case rel =>
                   refine ⟨q + 1, by omega, by go_num, ?_, (HSC.out.drewN _).row (by omega) _, (HRF.out.drewN _).row (by omega) (by omega) (by omega) (by omega) _⟩
                   rw [hr.out, ← step_cells]
                   exact (HV.out.drewN _).row _
                  case measure => simp [intOf]; omega
                ·refine withid fun hid => ?_
                 let rec aux518 : domOf hid := by
                  clear aux518
                  delta domOf
                  clear hid
                  obtain rfl : q = 64 := by omega
                  rw [show ((64 : Nat) : Int) = 64 from rfl]
                  have hv' := hv
                  have hps : press s Bk = plus s (rounds (words Bk 64) s 64) := press_eq s Bk
                  generalize rounds (words Bk 64) s 64 = t at *
                  have HPS := Lib.hid hps
                  have HV := Lib.hid hv'
                  have HSC := Lib.hid hsc
                  have HRF := Lib.hid hrf
                  clear hv hv' hsc hrf hps
                  go_wp2_with fail
                  obtain ⟨wo3, rfl⟩ : ∃ wo3 : World, wo3 = wr := ⟨_, rfl⟩
                  go_loopw [22] (fun i wr => ∃ q : Nat, q ≤ 8 ∧ i = .int .i64 q ∧ Blk wr gh 340 (mix s t q) ∧ Blk wr gv 343 (stc t) ∧ Sc Bk wr gw 64 ∧ Blk wr gk 340 kv.toArray ∧ Blk wr gm 5 cur ∧ Below w.heap.size w wr) (fun i _ => 8 - (intOf i).toNat)
                  case atStart => exact ⟨0, by omega, rfl, by rw [mix_zero]; exact HRF.out.2.1, HV.out, HSC.out, HRF.out.1, HRF.out.2.2.1, HRF.out.2.2.2⟩
                  case round =>
                   clear HV HSC HRF
                   obtain ⟨q, hq, rfl, hh, hv, hsc, hk1, hm1, hb1⟩ := hrel
                   by_cases hlt5 : q < 8
                   ·focus
                     have ch : wr.cell? ⟨gh, q, none⟩ = some (.int .u32 (wi (s.list.getD q 0))) := by rw [hh.cell]; exact mix_get s t q hlt5
                     have cv : wr.cell? ⟨gv, q, none⟩ = some (.int .u32 (wi (t.list.getD q 0))) := by rw [hv.cell]; exact stc_get t q hlt5
                     have hfro := hh.frozen q
                     have a1 := wadd (s.list.getD q 0) (t.list.getD q 0)
                     have hset := mix_set' hh hlt5
                     have HSET := Lib.hid hset
                     clear hset
                     generalize s.list.getD q 0 = us at *
                     generalize t.list.getD q 0 = ut at *
                     have HV := Lib.hid hv
                     have HSC := Lib.hid hsc
                     have HK1 := Lib.hid hk1
                     have HM1 := Lib.hid hm1
                     have HB1 := Lib.hid hb1
                     clear hh hv hsc hk1 hm1 hb1
                     have hz1 : (0 : Int) ≤ (q : Int) := by omega
                     have hz2 : (q : Int) < 8 := by omega
                     have NV : gv ≠ gh := by omega
                     go_wp2_with fail
                     go_still_tail 11, (by kernel_rfl)
                     clear a1
                     change wpList _ _ _ _ _ wr.drew
                     go_wp2
                     go_roundw
                     case rel => exact ⟨q + 1, by omega, by go_num, HSET.out, HV.out.far (by simp; omega) _, HSC.out.far (by simp; omega) _, HK1.out.far (by simp; omega) _, HM1.out.far (by simp; omega) _, (HB1.out.setCell (by simp; omega) _).drew⟩
                     case measure => simp [intOf]; omega
                   ·obtain rfl : q = 8 := by omega
                    rw [mix_all] at hh
                    have hrf : RF w wr gk gh gm cur (blocks St.first LL (k + 1)) := by
                     rw [blocks_next, HS.out, HBK.out, HPS.out]
                     exact ⟨hk1, hh, hm1, hb1⟩
                    have HRF := Lib.hid hrf
                    have HSC := Lib.hid hsc
                    clear hrf hh hv hsc hk1 hm1 hb1
                    go_wp2_with fail
                    go_roundw
                    case rel => exact ⟨k + 1, by omega, by congr 1, ⟨Bk, HSC.out.zero⟩, HRF.out⟩
                    case measure => simp [intOf]; omega
                 exact aux518
           exact aux356
       ·focus
         obtain rfl : k = N := by omega
         have hkM : M = 64 * k := HN.out
         have hjM : (M : Int) ≤ 64 * (k : Int) := by omega
         have hhb := HRF.out.2.1
         have HHB := Lib.hid hhb
         have HBL := Lib.hid HRF.out.2.2.2
         clear hhb HRF HSC
         have HKM := Lib.hid hkM
         clear hkM
         go_wp2_with fail
         obtain ⟨wo, rfl⟩ : ∃ wo : World, wo = wr := ⟨_, rfl⟩
         go_loopw [23, 24] (fun v i wr => ∃ q : Nat, q ≤ 8 ∧ i = .int .i64 q ∧ Own wr wo.heap.size v ((outB s).take (4 * q)) ∧ Below wo.heap.size wo wr) (fun _ i _ => 8 - (intOf i).toNat)
         case atStart => exact ⟨0, by omega, rfl, by rw [Nat.mul_zero, List.take_zero]; exact Own.nil_ _ _, Below.refl _ _⟩
         case round =>
          obtain ⟨q, hq, rfl, ho, hbw⟩ := hrel
          have hsz : wo.heap.size ≤ wr.heap.size := hbw.size
          have HO := Lib.hid ho
          have HBW := Lib.hid hbw
          clear ho hbw
          by_cases hlt2 : q < 8
          ·focus
            have htk := Lib.hid (outB_take s q hlt2)
            have hgo : gh < wo.heap.size := HHB.out.lt
            have ch : wr.cell? ⟨gh, q, none⟩ = some (.int .u32 (wi (s.list.getD q 0))) := by rw [(HHB.out.below HBW.out hgo).cell]; exact stc_get s q hlt2
            have hgw2 : gh < wr.heap.size := by omega
            obtain ⟨u, hu⟩ : ∃ u, s.list.getD q 0 = u := ⟨_, rfl⟩
            rw [hu] at ch
            have HU := Lib.hid hu
            clear hu
            have hsm : ((outB s).take (4 * q)).length + 4 ≤ 140737488355328 := by rw [List.length_take, outB_length]; omega
            have s1 : wi u / 16777216 = wi (shrw u 24) := wshr u 24 (by omega)
            have s2 : wi u / 65536 = wi (shrw u 16) := wshr u 16 (by omega)
            have s3 : wi u / 256 = wi (shrw u 8) := wshr u 8 (by omega)
            have p1 := wcut (shrw u 24)
            have p2 := wcut (shrw u 16)
            have p3 := wcut (shrw u 8)
            have p4 := wcut u
            have hz1 : (0 : Int) ≤ (q : Int) := by omega
            have hz2 : (q : Int) < 8 := by omega
            obtain ⟨i0, hi, hz0, hzz1, hzz2⟩ := info_parts info5
            go_wp2_with fail
            go_region_held3 (fun w' => w'.cell? ⟨gh, q, none⟩ = some (.int .u32 (wi u))) (first | exact ch | exact (World.cell?_alloc_lt _ _ (⟨gh, q, none⟩ : Addr) hgw2).trans ch | exact hcw1)
             (first | (refine step_append_any _ rfl (.tmp 278) (.tmp 302) 32 rfl wo.heap.size 5 i0 (.int .u8 0) 1 1 Tryz.underlying32 hi hz0 hzz1 hzz2 rfl (by decide) u23 ((outB s).take (4 * q)).length _ rfl (HO.out.drew.alloc _) (wr.heap.size + 1) (some ⟨wr.heap.size, 0, none⟩) 4 4 ((be4 u).map bv) rfl (reads_new wr.drew (be4 u) _ rfl 4 rfl) (bv_one _) (by unfold maxLen; omega) (by omega) (by simp; omega) ?_; intro v1 w1 hown1 hgrow1 hblk1; have hcw1 : w1.cell? ⟨gh, q, none⟩ = some (.int .u32 (wi u)) := ((((Below.refl wo.heap.size wr.drew).alloc hsz _).grown hgrow1 (by simp; omega) (fun k hk => (World.ownsRow.lt HO.out k hk).1)).cell (p := ⟨gh, q, none⟩) hgo).trans ch))
            all_goals
             have ho1 : Own w1 wo.heap.size v1 ((outB s).take (4 * (q + 1))) := by
              rw [htk.out, HU.out]
              unfold Own
              rw [List.length_append, List.map_append]
              exact hown1
             have hb1 : Below wo.heap.size wo w1 := ((HBW.out.drew).alloc hsz _).grown hgrow1 (by simp; omega) (fun k hk => (World.ownsRow.lt HO.out k hk).1)
             have HO1 := Lib.hid ho1
             have HB1 := Lib.hid hb1
             clear ho1 hb1 hown1 hgrow1 hblk1 hcw1 p1 p2 p3 p4 s1 s2 s3
             go_wp2
             go_roundw
             case rel => exact ⟨q + 1, by omega, by go_num, HO1.out, HB1.out⟩
             case measure => simp [intOf]; omega
          ·obtain rfl : q = 8 := by omega
           have hwz := HBL.out.size
           have ho' : Own wr w.heap.size u23 (outB s) := (show Own wr wo.heap.size u23 (outB s) from HO.out).base hwz
           have HO' := Lib.hid ho'
           have HF := Lib.hid (HBL.out.trans (HBW.out.mono hwz))
           clear ho'
           go_wp2
           go_ret
           refine ⟨u23, rfl, ?_, HF.out⟩
           have e := sum_pad bs
           rw [HL.out, HLLE.out, HLT.out, HKM.out, show 64 * k / 64 = k from by omega, HS.out] at e
           rw [e]
           exact HO'.out
end Go.Proofs.YtpfjlhpahmhkhaaGreat.Sh
