/- Texts put together: UShW10. -/
import Derived.Test.YtbenkmihkbjgeaaGreatQu21
/- Write, the rest filled. -/
namespace Go.Proofs.YtbenkmihkbjgeaaGreat.Sh
open Go.RowKit
set_option maxRecDepth 100000 in
set_option maxHeartbeats 800000 in
theorem write_fill (b : Nat) (all bs : List UInt8) (A : Option Addr) (cap : Nat) (w : World) (h : HH w b all) (hs : Src w b A bs) (hlc : bs.length ≤ cap) (hcm : cap ≤ maxLen) (hn : all.length + bs.length < 2 ^ 60) (h0 : 0 < all.length % 64) (h1 : 64 ≤ all.length % 64 + bs.length) :
  Calls Tryz.prog 210 #[.pointer (some ⟨b, 0, none⟩), .slice A bs.length cap] w fun e w' => e = .returned (.tuple #[]) ∧ HH w' b (all ++ bs) ∧ w.grownBy w' (some b) := by
 unfold maxLen at hcm
 obtain ⟨s, rest, d, ad, hB, hm, hst, hta⟩ := h
 have hbl := hB.lt
 obtain ⟨n, hN⟩ : ∃ n, all.length = n := ⟨_, rfl⟩
 obtain ⟨l, hL⟩ : ∃ l, bs.length = l := ⟨_, rfl⟩
 rw [hN] at hB h0 hta hn h1
 rw [hL] at hlc hn h1 ⊢
 have HST := Lib.hid hst
 have HTA := Lib.hid hta
 have HB0 := Lib.hid hB
 have HNE := Lib.hid hN
 have HLE := Lib.hid hL
 have HS := Lib.hid hs
 clear hst hta hB hN hL hs
 obtain ⟨r, hr⟩ : ∃ r, n % 64 = r := ⟨_, rfl⟩
 rw [hr] at h0 h1
 have HR := Lib.hid hr
 have hr64 : r < 64 := by omega
 have e1 : (n : Int).tmod 64 = (r : Int) := by rw [Int.tmod_eq_emod_of_nonneg (by omega)]; omega
 have e2 : (n : Int) % 64 = (r : Int) := by omega
 have e3 : (0 : Int) < (r : Int) := by omega
 have e4 : (r : Int) ≤ 64 := by omega
 have hrest : rest.length = 64 := HB0.out.2.1
 clear hr
 have e5 : ¬ (r : Int) + ((64 - r : Nat) : Int) < 64 := by omega
 obtain ⟨k, hkd⟩ : ∃ k, 64 - r = k := ⟨_, rfl⟩
 have hrk : r + k = 64 := by omega
 have e6 : (r : Int) + (k : Int) = 64 := by omega
 have hk : k = Nat.min l (64 - r) := by rw [← hkd]; exact (Nat.min_eq_right (a := l) (b := 64 - r) (by omega)).symm
 have HKK := Lib.hid hk
 have HKD := Lib.hid hkd
 have E6 := Lib.hid e6
 clear hk hkd e5 e6
 have hf : r + k ≤ 64 := by omega
 have hkl : k ≤ l := by omega
 have hFl : Hid (splice rest r (bs.take k) = tail64 all ++ bs.take k) := by
  unfold Hid splice
  rw [← HTA.out, HR.out, List.drop_eq_nil_of_le (by rw [List.length_take, HLE.out]; omega), List.append_nil]
 go_enter Tryz.func210, Tryz.ntmps210
 go_wp2_with fail
 refine (constants_any b s rest n d ad _ HB0.out hm).mono ?_
 rintro e w1 ⟨rfl, hB1, hg1⟩
 have hsz := hB1.size_
 have hfz := hB1.frozen_ 72
 have HB1 := Lib.hid hB1
 have HG1 := Lib.hid hg1
 clear hB1 hg1
 have hB2 : HB (w1.setCell ⟨b, 72, none⟩ (.int .i64 ((n : Int) + (l : Int)))) b s rest (n + l) 1 0 kv := HB1.out.setSize (n + l)
 have hg2 : w.grownBy (w1.setCell ⟨b, 72, none⟩ (.int .i64 ((n : Int) + (l : Int)))) (some b) := only_setCell HG1.out (.inl rfl) _
 have hS2 : Src (w1.setCell ⟨b, 72, none⟩ (.int .i64 ((n : Int) + (l : Int)))) b A bs := HS.out.only hg2
 have HB2 := Lib.hid hB2
 have HG2 := Lib.hid hg2
 have HS2 := Lib.hid hS2
 clear hB2 hg2 hS2
 go_wp2_with (refine copy_rest rfl (.tmp 29) (.tmp 30) rfl b s rest (n + l) 1 0 kv HB2.out r (64 - r) (64 - r) rfl A l cap bs HLE.out rfl HS2.out k HKK.out hf ?_; intro w6 hB6 hg6; rw [hFl.out] at hB6; have E66 := E6.out)
 obtain ⟨F, hF⟩ : ∃ F, tail64 all ++ bs.take k = F := ⟨_, rfl⟩
 rw [hF] at hB6
 have HF := Lib.hid hF
 have hFlen : F.length = 64 := hB6.2.1
 obtain ⟨x0, x1, x2, x3, x4, x5, x6, x7⟩ := hB6.scells
 obtain ⟨z0, z1, z2, z3, z4, z5, z6, z7⟩ := hB6.sfrozen
 have hbw : b < w6.heap.size := hB6.lt
 have F4 := Lib.hid (fun j (hj : j < 64) => hB6.added_ j hj)
 have F2 := Lib.hid (show ∀ i, i < 64 → w6.cell? ((⟨b, 8, none⟩ : Addr).add i) = some (.int .u8 (bi (F.getD i 0))) from fun i hi => by
  rw [Addr.add_mid]; exact hB6.rest_ i hi)
 have HB6 := Lib.hid hB6
 have HG6 := Lib.hid hg6
 clear hF hB6 hg6
 go_wp2_with fail
 go_region_with (go_at_call 229; refine (fold_agg s ⟨b, 8, none⟩ 64 F b 76 _ (by omega) (by unfold maxLen; omega) (by exact hbw) (by exact F2.out) (by exact hbw) (by exact F4.out)).mono ?_; rintro e w5 ⟨t, HT, rfl, hb5⟩; have y0 := (hb5.cell (p := ⟨b, 0, none⟩) hbw).trans x0; have y1 := (hb5.cell (p := ⟨b, 1, none⟩) hbw).trans x1; have y2 := (hb5.cell (p := ⟨b, 2, none⟩) hbw).trans x2; have y3 := (hb5.cell (p := ⟨b, 3, none⟩) hbw).trans x3; have y4 := (hb5.cell (p := ⟨b, 4, none⟩) hbw).trans x4; have y5 := (hb5.cell (p := ⟨b, 5, none⟩) hbw).trans x5; have y6 := (hb5.cell (p := ⟨b, 6, none⟩) hbw).trans x6; have y7 := (hb5.cell (p := ⟨b, 7, none⟩) hbw).trans x7; have q0 := (hb5.frozen (p := ⟨b, 0, none⟩) hbw).trans z0; have q1 := (hb5.frozen (p := ⟨b, 1, none⟩) hbw).trans z1; have q2 := (hb5.frozen (p := ⟨b, 2, none⟩) hbw).trans z2; have q3 := (hb5.frozen (p := ⟨b, 3, none⟩) hbw).trans z3; have q4 := (hb5.frozen (p := ⟨b, 4, none⟩) hbw).trans z4; have q5 := (hb5.frozen (p := ⟨b, 5, none⟩) hbw).trans z5; have q6 := (hb5.frozen (p := ⟨b, 6, none⟩) hbw).trans z6; have q7 := (hb5.frozen (p := ⟨b, 7, none⟩) hbw).trans z7)
 have k1 := ((HB6.out.drew).below hb5 hbw).set8 t
 have k2 := only8 (only_of_below hb5 (some b)) (.int .u32 (wi t.a)) (.int .u32 (wi t.b)) (.int .u32 (wi t.c)) (.int .u32 (wi t.d)) (.int .u32 (wi t.e)) (.int .u32 (wi t.f)) (.int .u32 (wi t.g)) (.int .u32 (wi t.h))
 clear y0 y1 y2 y3 y4 y5 y6 y7 q0 q1 q2 q3 q4 q5 q6 q7 x0 x1 x2 x3 x4 x5 x6 x7 z0 z1 z2 z3 z4 z5 z6 z7
 generalize ((((((((w5.setCell ⟨b, 0, none⟩ (.int .u32 (wi t.a))).setCell ⟨b, 1, none⟩ (.int .u32 (wi t.b))).setCell ⟨b, 2, none⟩ (.int .u32 (wi t.c))).setCell ⟨b, 3, none⟩ (.int .u32 (wi t.d))).setCell ⟨b, 4, none⟩ (.int .u32 (wi t.e))).setCell ⟨b, 5, none⟩ (.int .u32 (wi t.f))).setCell ⟨b, 6, none⟩ (.int .u32 (wi t.g))).setCell ⟨b, 7, none⟩ (.int .u32 (wi t.h))) = w8 at *
 have ht : t = full (all ++ bs.take k) := by
  rw [full_block all (bs.take k) (by rw [← List.length_append, HF.out]; exact hFlen), HF.out, HT.out, HST.out]
 rw [ht] at k1
 have k4 : (all ++ bs.take k).length % 64 = 0 := by rw [List.length_append, List.length_take, HNE.out, HLE.out]; have := HR.out; omega
 have hgw : w6.grownBy w8 (some b) := only_then (only_drew (World.grownBy.refl w6 _)) k2
 have k5 : Src w8 b A bs := (HS2.out.only HG6.out).only hgw
 have k6 : w.grownBy w8 (some b) := only_then HG2.out (only_then HG6.out hgw)
 have k7 : (bs.drop k).length = l - k := by rw [List.length_drop, HLE.out]
 have k3 : all ++ bs.take k ++ bs.drop k = all ++ bs := by rw [List.append_assoc, List.take_append_drop]
 obtain ⟨adr, hA, _⟩ := k5 (by rw [HLE.out]; omega)
 subst hA
 have K1 := Lib.hid k1
 have K3 := Lib.hid k3
 have K4 := Lib.hid k4
 have K5 := Lib.hid k5
 have K6 := Lib.hid k6
 have K7 := Lib.hid k7
 clear k1 k2 k3 k4 k5 k6 k7 ht hb5 hgw
 by_cases hcc : cap = k
 ·have hlk : l = k := by omega
  have HLK := Lib.hid hlk
  go_wp2_with fail
  clear hcc hlk E66
  go_loopw [1] (fun v wr => ∃ (P R X : List UInt8) (A1 : Option Addr) (c : Nat), v = .slice A1 R.length c ∧ R.length ≤ c ∧ c ≤ cap ∧ P ++ R = all ++ bs ∧ P.length % 64 = 0 ∧ HB wr b (full P) X (n + l) 1 0 kv ∧ Src wr b A1 R ∧ w.grownBy wr (some b)) (fun v _ => lenOf v)
  case atStart =>
   exact ⟨all ++ bs.take k, bs.drop k, F, some adr, 0, by rw [K7.out, show l - k = 0 from by have := HLK.out; omega], by rw [K7.out]; have := HLK.out; omega, by omega, K3.out, K4.out, K1.out, fun h => absurd h (by rw [K7.out]; have := HLK.out; omega), K6.out⟩
  case round =>
   obtain ⟨P, R, X, A1, c, rfl, hRc, hccap, hPR, hP, hHB, hSrc, hG⟩ := hrel
   obtain ⟨M, hM⟩ : ∃ M, R.length = M := ⟨_, rfl⟩
   rw [hM] at hRc ⊢
   have HM := Lib.hid hM
   have HPR := Lib.hid hPR
   have HP := Lib.hid hP
   have HHBr := Lib.hid hHB
   have HG := Lib.hid hG
   have HSr := Lib.hid hSrc
   clear hM hPR hP hG hSrc
   by_cases hlt : 64 ≤ M
   ·obtain ⟨adr, rfl, hne, hltb, hcell⟩ := HSr.out (by rw [HM.out]; omega)
    obtain ⟨x0, x1, x2, x3, x4, x5, x6, x7⟩ := hHB.scells
    obtain ⟨z0, z1, z2, z3, z4, z5, z6, z7⟩ := hHB.sfrozen
    have hbw : b < wr.heap.size := hHB.lt
    have F4 := Lib.hid (fun j (hj : j < 64) => hHB.added_ j hj)
    have F2 := Lib.hid (show ∀ i, i < 64 → wr.cell? (adr.add i) = some (.int .u8 (bi ((R.take 64).getD i 0))) from fun i hi => by
     rw [hcell i (by rw [HM.out]; omega)]
     simp only [List.getD_eq_getElem?_getD, List.getElem?_take, if_pos hi])
    obtain ⟨s0, hs0⟩ : ∃ s0, full P = s0 := ⟨_, rfl⟩
    rw [hs0] at x0 x1 x2 x3 x4 x5 x6 x7
    have HS0 := Lib.hid hs0
    clear hHB hcell hs0
    have hj1 : (64 : Int) ≤ (M : Int) := by omega
    have hj2 : (64 : Int) ≤ (c : Int) := by omega
    go_wp2_with fail
    go_region_with (go_at_call 229; refine (fold_agg s0 adr c (R.take 64) b 76 _ (by omega) (by unfold maxLen; omega) (by exact hltb) (by exact F2.out) (by exact hbw) (by exact F4.out)).mono ?_; rintro e w5 ⟨t, HT, rfl, hb5⟩; have y0 := (hb5.cell (p := ⟨b, 0, none⟩) hbw).trans x0; have y1 := (hb5.cell (p := ⟨b, 1, none⟩) hbw).trans x1; have y2 := (hb5.cell (p := ⟨b, 2, none⟩) hbw).trans x2; have y3 := (hb5.cell (p := ⟨b, 3, none⟩) hbw).trans x3; have y4 := (hb5.cell (p := ⟨b, 4, none⟩) hbw).trans x4; have y5 := (hb5.cell (p := ⟨b, 5, none⟩) hbw).trans x5; have y6 := (hb5.cell (p := ⟨b, 6, none⟩) hbw).trans x6; have y7 := (hb5.cell (p := ⟨b, 7, none⟩) hbw).trans x7; have q0 := (hb5.frozen (p := ⟨b, 0, none⟩) hbw).trans z0; have q1 := (hb5.frozen (p := ⟨b, 1, none⟩) hbw).trans z1; have q2 := (hb5.frozen (p := ⟨b, 2, none⟩) hbw).trans z2; have q3 := (hb5.frozen (p := ⟨b, 3, none⟩) hbw).trans z3; have q4 := (hb5.frozen (p := ⟨b, 4, none⟩) hbw).trans z4; have q5 := (hb5.frozen (p := ⟨b, 5, none⟩) hbw).trans z5; have q6 := (hb5.frozen (p := ⟨b, 6, none⟩) hbw).trans z6; have q7 := (hb5.frozen (p := ⟨b, 7, none⟩) hbw).trans z7)
    have k1 := ((HHBr.out.drew).below hb5 hbw).set8 t
    have k2 := only8 (only_of_below hb5 (some b)) (.int .u32 (wi t.a)) (.int .u32 (wi t.b)) (.int .u32 (wi t.c)) (.int .u32 (wi t.d)) (.int .u32 (wi t.e)) (.int .u32 (wi t.f)) (.int .u32 (wi t.g)) (.int .u32 (wi t.h))
    clear y0 y1 y2 y3 y4 y5 y6 y7 q0 q1 q2 q3 q4 q5 q6 q7 x0 x1 x2 x3 x4 x5 x6 x7 z0 z1 z2 z3 z4 z5 z6 z7
    generalize ((((((((w5.setCell ⟨b, 0, none⟩ (.int .u32 (wi t.a))).setCell ⟨b, 1, none⟩ (.int .u32 (wi t.b))).setCell ⟨b, 2, none⟩ (.int .u32 (wi t.c))).setCell ⟨b, 3, none⟩ (.int .u32 (wi t.d))).setCell ⟨b, 4, none⟩ (.int .u32 (wi t.e))).setCell ⟨b, 5, none⟩ (.int .u32 (wi t.f))).setCell ⟨b, 6, none⟩ (.int .u32 (wi t.g))).setCell ⟨b, 7, none⟩ (.int .u32 (wi t.h))) = w8 at *
    have ht : t = full (P ++ R.take 64) := by
     have hpl := tail64_none P HP.out
     rw [full_block P (R.take 64) (by rw [hpl, List.length_take, HM.out]; simp; omega), hpl, HT.out, HS0.out]
     rfl
    rw [ht] at k1
    have k3 : P ++ R.take 64 ++ R.drop 64 = all ++ bs := by rw [List.append_assoc, List.take_append_drop]; exact HPR.out
    have k4 : (P ++ R.take 64).length % 64 = 0 := by rw [List.length_append, List.length_take, HM.out]; have := HP.out; omega
    have k5 : Src w8 b (some adr) R := HSr.out.only (only_then (only_drew (World.grownBy.refl wr _)) k2)
    have k6 : w.grownBy w8 (some b) := only_then HG.out (only_then (only_drew (World.grownBy.refl wr _)) k2)
    have k7 : (R.drop 64).length = M - 64 := by rw [List.length_drop, HM.out]
    have K1 := Lib.hid k1
    have K3 := Lib.hid k3
    have K4 := Lib.hid k4
    have K5 := Lib.hid k5
    have K6 := Lib.hid k6
    have K7 := Lib.hid k7
    clear k1 k2 k3 k4 k5 k6 k7 ht hb5
    by_cases hcc : c = 64
    ·have hM' : M = 64 := by omega
     subst hcc
     go_wp2_with fail
     go_roundw
     case rel =>
      exact ⟨P ++ R.take 64, R.drop 64, X, some adr, 0, by rw [K7.out, hM'], by rw [K7.out]; omega, by omega, K3.out, K4.out, K1.out, fun h => absurd h (by rw [K7.out]; omega), K6.out⟩
     case measure => simp [lenOf]; omega
    ·go_wp2_with fail
     go_roundw
     case rel =>
      exact ⟨P ++ R.take 64, R.drop 64, X, some (adr.add 64), c - 64, by rw [K7.out, add_at _ _ (by omega)], by rw [K7.out]; omega, by omega, K3.out, K4.out, K1.out, K5.out.cut 64 _ (fun _ a e => by injection e with e; rw [e]), K6.out⟩
     case measure => simp [lenOf]; omega
   ·have hHB' := Lib.hid hHB
    clear hHB
    have hMM : M = Nat.min M 64 := (Nat.min_eq_left (a := M) (b := 64) (by omega)).symm
    have HMM := Lib.hid hMM
    clear hMM
    have hM0 : 0 + M ≤ 64 := by omega
    go_wp2_with (refine copy_rest rfl (.tmp 71) (.tmp 72) rfl b (full P) X (n + l) 1 0 kv hHB'.out 0 64 64 rfl A1 M c R HM.out rfl HSr.out M HMM.out hM0 ?_; intro w6 hB6 hg6)
    go_end0
    have hPl := HP.out
    have hlen : (P ++ R).length = n + l := by rw [HPR.out, List.length_append, HNE.out, HLE.out]
    have hlen2 : P.length + M = n + l := by rw [← hlen, List.length_append, HM.out]
    have hsh : (P ++ R).length / 64 = P.length / 64 := by rw [hlen]; omega
    refine ⟨rfl, ⟨full P, splice X 0 (R.take M), 1, kv, ?_, .inr ⟨rfl, rfl⟩, ?_, ?_⟩, only_then HG.out hg6⟩
    ·rw [← HPR.out, hlen]; exact hB6
    ·rw [← HPR.out, full_short _ _ hsh]
    ·rw [← HPR.out, hlen, tail64_short _ _ hsh, tail64_none _ hPl, show (n + l) % 64 = M from by omega]
     unfold splice
     rw [List.take_of_length_le (l := R) (by rw [HM.out]; omega), List.take_zero, List.nil_append, List.nil_append, List.take_append_of_le_length (by rw [HM.out]; omega), List.take_of_length_le (by rw [HM.out]; omega)]
 ·go_wp2_with fail
  clear hcc E66
  go_loopw [1] (fun v wr => ∃ (P R X : List UInt8) (A1 : Option Addr) (c : Nat), v = .slice A1 R.length c ∧ R.length ≤ c ∧ c ≤ cap ∧ P ++ R = all ++ bs ∧ P.length % 64 = 0 ∧ HB wr b (full P) X (n + l) 1 0 kv ∧ Src wr b A1 R ∧ w.grownBy wr (some b)) (fun v _ => lenOf v)
  case atStart =>
   exact ⟨all ++ bs.take k, bs.drop k, F, some (adr.add k), cap - k, by rw [K7.out], by rw [K7.out]; omega, by omega, K3.out, K4.out, K1.out, K5.out.cut k _ (fun _ a e => by injection e with e; rw [e]), K6.out⟩
  case round =>
   obtain ⟨P, R, X, A1, c, rfl, hRc, hccap, hPR, hP, hHB, hSrc, hG⟩ := hrel
   obtain ⟨M, hM⟩ : ∃ M, R.length = M := ⟨_, rfl⟩
   rw [hM] at hRc ⊢
   have HM := Lib.hid hM
   have HPR := Lib.hid hPR
   have HP := Lib.hid hP
   have HHBr := Lib.hid hHB
   have HG := Lib.hid hG
   have HSr := Lib.hid hSrc
   clear hM hPR hP hG hSrc
   by_cases hlt : 64 ≤ M
   ·obtain ⟨adr, rfl, hne, hltb, hcell⟩ := HSr.out (by rw [HM.out]; omega)
    obtain ⟨x0, x1, x2, x3, x4, x5, x6, x7⟩ := hHB.scells
    obtain ⟨z0, z1, z2, z3, z4, z5, z6, z7⟩ := hHB.sfrozen
    have hbw : b < wr.heap.size := hHB.lt
    have F4 := Lib.hid (fun j (hj : j < 64) => hHB.added_ j hj)
    have F2 := Lib.hid (show ∀ i, i < 64 → wr.cell? (adr.add i) = some (.int .u8 (bi ((R.take 64).getD i 0))) from fun i hi => by
     rw [hcell i (by rw [HM.out]; omega)]
     simp only [List.getD_eq_getElem?_getD, List.getElem?_take, if_pos hi])
    obtain ⟨s0, hs0⟩ : ∃ s0, full P = s0 := ⟨_, rfl⟩
    rw [hs0] at x0 x1 x2 x3 x4 x5 x6 x7
    have HS0 := Lib.hid hs0
    clear hHB hcell hs0
    have hj1 : (64 : Int) ≤ (M : Int) := by omega
    have hj2 : (64 : Int) ≤ (c : Int) := by omega
    go_wp2_with fail
    go_region_with (go_at_call 229; refine (fold_agg s0 adr c (R.take 64) b 76 _ (by omega) (by unfold maxLen; omega) (by exact hltb) (by exact F2.out) (by exact hbw) (by exact F4.out)).mono ?_; rintro e w5 ⟨t, HT, rfl, hb5⟩; have y0 := (hb5.cell (p := ⟨b, 0, none⟩) hbw).trans x0; have y1 := (hb5.cell (p := ⟨b, 1, none⟩) hbw).trans x1; have y2 := (hb5.cell (p := ⟨b, 2, none⟩) hbw).trans x2; have y3 := (hb5.cell (p := ⟨b, 3, none⟩) hbw).trans x3; have y4 := (hb5.cell (p := ⟨b, 4, none⟩) hbw).trans x4; have y5 := (hb5.cell (p := ⟨b, 5, none⟩) hbw).trans x5; have y6 := (hb5.cell (p := ⟨b, 6, none⟩) hbw).trans x6; have y7 := (hb5.cell (p := ⟨b, 7, none⟩) hbw).trans x7; have q0 := (hb5.frozen (p := ⟨b, 0, none⟩) hbw).trans z0; have q1 := (hb5.frozen (p := ⟨b, 1, none⟩) hbw).trans z1; have q2 := (hb5.frozen (p := ⟨b, 2, none⟩) hbw).trans z2; have q3 := (hb5.frozen (p := ⟨b, 3, none⟩) hbw).trans z3; have q4 := (hb5.frozen (p := ⟨b, 4, none⟩) hbw).trans z4; have q5 := (hb5.frozen (p := ⟨b, 5, none⟩) hbw).trans z5; have q6 := (hb5.frozen (p := ⟨b, 6, none⟩) hbw).trans z6; have q7 := (hb5.frozen (p := ⟨b, 7, none⟩) hbw).trans z7)
    have k1 := ((HHBr.out.drew).below hb5 hbw).set8 t
    have k2 := only8 (only_of_below hb5 (some b)) (.int .u32 (wi t.a)) (.int .u32 (wi t.b)) (.int .u32 (wi t.c)) (.int .u32 (wi t.d)) (.int .u32 (wi t.e)) (.int .u32 (wi t.f)) (.int .u32 (wi t.g)) (.int .u32 (wi t.h))
    clear y0 y1 y2 y3 y4 y5 y6 y7 q0 q1 q2 q3 q4 q5 q6 q7 x0 x1 x2 x3 x4 x5 x6 x7 z0 z1 z2 z3 z4 z5 z6 z7
    generalize ((((((((w5.setCell ⟨b, 0, none⟩ (.int .u32 (wi t.a))).setCell ⟨b, 1, none⟩ (.int .u32 (wi t.b))).setCell ⟨b, 2, none⟩ (.int .u32 (wi t.c))).setCell ⟨b, 3, none⟩ (.int .u32 (wi t.d))).setCell ⟨b, 4, none⟩ (.int .u32 (wi t.e))).setCell ⟨b, 5, none⟩ (.int .u32 (wi t.f))).setCell ⟨b, 6, none⟩ (.int .u32 (wi t.g))).setCell ⟨b, 7, none⟩ (.int .u32 (wi t.h))) = w8 at *
    have ht : t = full (P ++ R.take 64) := by
     have hpl := tail64_none P HP.out
     rw [full_block P (R.take 64) (by rw [hpl, List.length_take, HM.out]; simp; omega), hpl, HT.out, HS0.out]
     rfl
    rw [ht] at k1
    have k3 : P ++ R.take 64 ++ R.drop 64 = all ++ bs := by rw [List.append_assoc, List.take_append_drop]; exact HPR.out
    have k4 : (P ++ R.take 64).length % 64 = 0 := by rw [List.length_append, List.length_take, HM.out]; have := HP.out; omega
    have k5 : Src w8 b (some adr) R := HSr.out.only (only_then (only_drew (World.grownBy.refl wr _)) k2)
    have k6 : w.grownBy w8 (some b) := only_then HG.out (only_then (only_drew (World.grownBy.refl wr _)) k2)
    have k7 : (R.drop 64).length = M - 64 := by rw [List.length_drop, HM.out]
    have K1 := Lib.hid k1
    have K3 := Lib.hid k3
    have K4 := Lib.hid k4
    have K5 := Lib.hid k5
    have K6 := Lib.hid k6
    have K7 := Lib.hid k7
    clear k1 k2 k3 k4 k5 k6 k7 ht hb5
    by_cases hcc : c = 64
    ·have hM' : M = 64 := by omega
     subst hcc
     go_wp2_with fail
     go_roundw
     case rel =>
      exact ⟨P ++ R.take 64, R.drop 64, X, some adr, 0, by rw [K7.out, hM'], by rw [K7.out]; omega, by omega, K3.out, K4.out, K1.out, fun h => absurd h (by rw [K7.out]; omega), K6.out⟩
     case measure => simp [lenOf]; omega
    ·go_wp2_with fail
     go_roundw
     case rel =>
      exact ⟨P ++ R.take 64, R.drop 64, X, some (adr.add 64), c - 64, by rw [K7.out, add_at _ _ (by omega)], by rw [K7.out]; omega, by omega, K3.out, K4.out, K1.out, K5.out.cut 64 _ (fun _ a e => by injection e with e; rw [e]), K6.out⟩
     case measure => simp [lenOf]; omega
   ·have hHB' := Lib.hid hHB
    clear hHB
    have hMM : M = Nat.min M 64 := (Nat.min_eq_left (a := M) (b := 64) (by omega)).symm
    have HMM := Lib.hid hMM
    clear hMM
    have hM0 : 0 + M ≤ 64 := by omega
    go_wp2_with (refine copy_rest rfl (.tmp 71) (.tmp 72) rfl b (full P) X (n + l) 1 0 kv hHB'.out 0 64 64 rfl A1 M c R HM.out rfl HSr.out M HMM.out hM0 ?_; intro w6 hB6 hg6)
    go_end0
    have hPl := HP.out
    have hlen : (P ++ R).length = n + l := by rw [HPR.out, List.length_append, HNE.out, HLE.out]
    have hlen2 : P.length + M = n + l := by rw [← hlen, List.length_append, HM.out]
    have hsh : (P ++ R).length / 64 = P.length / 64 := by rw [hlen]; omega
    refine ⟨rfl, ⟨full P, splice X 0 (R.take M), 1, kv, ?_, .inr ⟨rfl, rfl⟩, ?_, ?_⟩, only_then HG.out hg6⟩
    ·rw [← HPR.out, hlen]; exact hB6
    ·rw [← HPR.out, full_short _ _ hsh]
    ·rw [← HPR.out, hlen, tail64_short _ _ hsh, tail64_none _ hPl, show (n + l) % 64 = M from by omega]
     unfold splice
     rw [List.take_of_length_le (l := R) (by rw [HM.out]; omega), List.take_zero, List.nil_append, List.nil_append, List.take_append_of_le_length (by rw [HM.out]; omega), List.take_of_length_le (by rw [HM.out]; omega)]
end Go.Proofs.YtbenkmihkbjgeaaGreat.Sh
