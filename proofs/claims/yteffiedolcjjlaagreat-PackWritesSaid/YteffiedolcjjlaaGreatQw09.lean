/- Texts put together: YShW10, YShW11, YShW12. -/
import Derived.Test.YteffiedolcjjlaaGreatQw08
import Derived.Laws.BytesString
/- Write, the rest filled. -/
namespace Go.Proofs.YteffiedolcjjlaaGreat.Sh
open Go.RowKit

set_option maxRecDepth 100000 in
set_option maxHeartbeats 800000 in
theorem write_fill (b : Nat) (all bs : List UInt8) (A : Option Addr) (cap : Nat) (w : World) (h : HH w b all) (hs : Src w b A bs) (hlc : bs.length ≤ cap) (hcm : cap ≤ maxLen) (hn : all.length + bs.length < 2 ^ 60) (h0 : 0 < all.length % 64) (h1 : 64 ≤ all.length % 64 + bs.length) :
    Calls Tryz.prog 83 #[.pointer (some ⟨b, 0, none⟩), .slice A bs.length cap] w fun e w' => e = .returned (.tuple #[]) ∧ HH w' b (all ++ bs) ∧ w.grownBy w' (some b) := by
  unfold maxLen at hcm
  obtain ⟨s, rest, d, ad, hB, hm, hst, hta⟩ := h
  have hbl := hB.lt
  obtain ⟨n, hN⟩ : ∃ n, all.length = n := ⟨_, rfl⟩
  obtain ⟨l, hL⟩ : ∃ l, bs.length = l := ⟨_, rfl⟩
  rw [hN] at hB h0 hta hn h1
  rw [hL] at hlc hn h1 ⊢
  have HST := Lib.hid hst
  have HTA := Lib.hid hta
  have HB0 := Lib.hid hB
  have HNE := Lib.hid hN
  have HLE := Lib.hid hL
  have HS := Lib.hid hs
  clear hst hta hB hN hL hs
  obtain ⟨r, hr⟩ : ∃ r, n % 64 = r := ⟨_, rfl⟩
  rw [hr] at h0 h1
  have HR := Lib.hid hr
  have hr64 : r < 64 := by omega
  have e1 : (n : Int).tmod 64 = (r : Int) := by rw [Int.tmod_eq_emod_of_nonneg (by omega)]; omega
  have e2 : (n : Int) % 64 = (r : Int) := by omega
  have e3 : (0 : Int) < (r : Int) := by omega
  have e4 : (r : Int) ≤ 64 := by omega
  have hrest : rest.length = 64 := HB0.out.2.1
  clear hr
  have e5 : ¬ (r : Int) + ((64 - r : Nat) : Int) < 64 := by omega
  obtain ⟨k, hkd⟩ : ∃ k, 64 - r = k := ⟨_, rfl⟩
  have hrk : r + k = 64 := by omega
  have e6 : (r : Int) + (k : Int) = 64 := by omega
  have hk : k = Nat.min l (64 - r) := by rw [← hkd]; exact (Nat.min_eq_right (a := l) (b := 64 - r) (by omega)).symm
  have HKK := Lib.hid hk
  have HKD := Lib.hid hkd
  have E6 := Lib.hid e6
  clear hk hkd e5 e6
  have hf : r + k ≤ 64 := by omega
  have hkl : k ≤ l := by omega
  have hFl : Hid (splice rest r (bs.take k) = tail64 all ++ bs.take k) := by
    unfold Hid splice
    rw [← HTA.out, HR.out, List.drop_eq_nil_of_le (by rw [List.length_take, HLE.out]; omega), List.append_nil]
  go_enter Tryz.func83, Tryz.ntmps83
  go_wp2_with fail
  refine (constants_any b s rest n d ad _ HB0.out hm).mono ?_
  rintro e w1 ⟨rfl, hB1, hg1⟩
  have hsz := hB1.size_
  have hfz := hB1.frozen_ 72
  have HB1 := Lib.hid hB1
  have HG1 := Lib.hid hg1
  clear hB1 hg1
  have hB2 : HB (w1.setCell ⟨b, 72, none⟩ (.int .i64 ((n : Int) + (l : Int)))) b s rest (n + l) 1 0 kv := HB1.out.setSize (n + l)
  have hg2 : w.grownBy (w1.setCell ⟨b, 72, none⟩ (.int .i64 ((n : Int) + (l : Int)))) (some b) := only_setCell HG1.out (.inl rfl) _
  have hS2 : Src (w1.setCell ⟨b, 72, none⟩ (.int .i64 ((n : Int) + (l : Int)))) b A bs := HS.out.only hg2
  have HB2 := Lib.hid hB2
  have HG2 := Lib.hid hg2
  have HS2 := Lib.hid hS2
  clear hB2 hg2 hS2
  go_wp2_with (refine copy_rest rfl (.tmp 29) (.tmp 30) rfl b s rest (n + l) 1 0 kv HB2.out r (64 - r) (64 - r) rfl A l cap bs HLE.out rfl HS2.out k HKK.out hf ?_; intro w6 hB6 hg6; rw [hFl.out] at hB6; have E66 := E6.out)
  obtain ⟨F, hF⟩ : ∃ F, tail64 all ++ bs.take k = F := ⟨_, rfl⟩
  rw [hF] at hB6
  have HF := Lib.hid hF
  have hFlen : F.length = 64 := hB6.2.1
  obtain ⟨x0, x1, x2, x3, x4, x5, x6, x7⟩ := hB6.scells
  obtain ⟨z0, z1, z2, z3, z4, z5, z6, z7⟩ := hB6.sfrozen
  have hbw : b < w6.heap.size := hB6.lt
  have F4 := Lib.hid (fun j (hj : j < 64) => hB6.added_ j hj)
  have F2 := Lib.hid (show ∀ i, i < 64 → w6.cell? ((⟨b, 8, none⟩ : Addr).add i) = some (.int .u8 (bi (F.getD i 0))) from fun i hi => by
    rw [Addr.add_mid]; exact hB6.rest_ i hi)
  have HB6 := Lib.hid hB6
  have HG6 := Lib.hid hg6
  clear hF hB6 hg6
  go_wp2_with fail
  go_region_with (go_at_call 123; refine (fold_agg s ⟨b, 8, none⟩ 64 F b 76 _ (by omega) (by unfold maxLen; omega) (by exact hbw) (by exact F2.out) (by exact hbw) (by exact F4.out)).mono ?_; rintro e w5 ⟨t, HT, rfl, hb5⟩; have y0 := (hb5.cell (p := ⟨b, 0, none⟩) hbw).trans x0; have y1 := (hb5.cell (p := ⟨b, 1, none⟩) hbw).trans x1; have y2 := (hb5.cell (p := ⟨b, 2, none⟩) hbw).trans x2; have y3 := (hb5.cell (p := ⟨b, 3, none⟩) hbw).trans x3; have y4 := (hb5.cell (p := ⟨b, 4, none⟩) hbw).trans x4; have y5 := (hb5.cell (p := ⟨b, 5, none⟩) hbw).trans x5; have y6 := (hb5.cell (p := ⟨b, 6, none⟩) hbw).trans x6; have y7 := (hb5.cell (p := ⟨b, 7, none⟩) hbw).trans x7; have q0 := (hb5.frozen (p := ⟨b, 0, none⟩) hbw).trans z0; have q1 := (hb5.frozen (p := ⟨b, 1, none⟩) hbw).trans z1; have q2 := (hb5.frozen (p := ⟨b, 2, none⟩) hbw).trans z2; have q3 := (hb5.frozen (p := ⟨b, 3, none⟩) hbw).trans z3; have q4 := (hb5.frozen (p := ⟨b, 4, none⟩) hbw).trans z4; have q5 := (hb5.frozen (p := ⟨b, 5, none⟩) hbw).trans z5; have q6 := (hb5.frozen (p := ⟨b, 6, none⟩) hbw).trans z6; have q7 := (hb5.frozen (p := ⟨b, 7, none⟩) hbw).trans z7)
  have k1 := ((HB6.out.drew).below hb5 hbw).set8 t
  have k2 := only8 (only_of_below hb5 (some b)) (.int .u32 (wi t.a)) (.int .u32 (wi t.b)) (.int .u32 (wi t.c)) (.int .u32 (wi t.d)) (.int .u32 (wi t.e)) (.int .u32 (wi t.f)) (.int .u32 (wi t.g)) (.int .u32 (wi t.h))
  clear y0 y1 y2 y3 y4 y5 y6 y7 q0 q1 q2 q3 q4 q5 q6 q7 x0 x1 x2 x3 x4 x5 x6 x7 z0 z1 z2 z3 z4 z5 z6 z7
  generalize ((((((((w5.setCell ⟨b, 0, none⟩ (.int .u32 (wi t.a))).setCell ⟨b, 1, none⟩ (.int .u32 (wi t.b))).setCell ⟨b, 2, none⟩ (.int .u32 (wi t.c))).setCell ⟨b, 3, none⟩ (.int .u32 (wi t.d))).setCell ⟨b, 4, none⟩ (.int .u32 (wi t.e))).setCell ⟨b, 5, none⟩ (.int .u32 (wi t.f))).setCell ⟨b, 6, none⟩ (.int .u32 (wi t.g))).setCell ⟨b, 7, none⟩ (.int .u32 (wi t.h))) = w8 at *
  have ht : t = full (all ++ bs.take k) := by
    rw [full_block all (bs.take k) (by rw [← List.length_append, HF.out]; exact hFlen), HF.out, HT.out, HST.out]
  rw [ht] at k1
  have k4 : (all ++ bs.take k).length % 64 = 0 := by rw [List.length_append, List.length_take, HNE.out, HLE.out]; have := HR.out; omega
  have hgw : w6.grownBy w8 (some b) := only_then (only_drew (World.grownBy.refl w6 _)) k2
  have k5 : Src w8 b A bs := (HS2.out.only HG6.out).only hgw
  have k6 : w.grownBy w8 (some b) := only_then HG2.out (only_then HG6.out hgw)
  have k7 : (bs.drop k).length = l - k := by rw [List.length_drop, HLE.out]
  have k3 : all ++ bs.take k ++ bs.drop k = all ++ bs := by rw [List.append_assoc, List.take_append_drop]
  obtain ⟨adr, hA, _⟩ := k5 (by rw [HLE.out]; omega)
  subst hA
  have K1 := Lib.hid k1
  have K3 := Lib.hid k3
  have K4 := Lib.hid k4
  have K5 := Lib.hid k5
  have K6 := Lib.hid k6
  have K7 := Lib.hid k7
  clear k1 k2 k3 k4 k5 k6 k7 ht hb5 hgw
  by_cases hcc : cap = k
  · have hlk : l = k := by omega
    have HLK := Lib.hid hlk
    go_wp2_with fail
    clear hcc hlk E66

    go_loopw [1] (fun v wr => ∃ (P R X : List UInt8) (A1 : Option Addr) (c : Nat), v = .slice A1 R.length c ∧ R.length ≤ c ∧ c ≤ cap ∧ P ++ R = all ++ bs ∧ P.length % 64 = 0 ∧ HB wr b (full P) X (n + l) 1 0 kv ∧ Src wr b A1 R ∧ w.grownBy wr (some b)) (fun v _ => lenOf v)
    case atStart =>
      exact ⟨all ++ bs.take k, bs.drop k, F, some adr, 0, by rw [K7.out, show l - k = 0 from by have := HLK.out; omega], by rw [K7.out]; have := HLK.out; omega, by omega, K3.out, K4.out, K1.out, fun h => absurd h (by rw [K7.out]; have := HLK.out; omega), K6.out⟩
    case round =>
      obtain ⟨P, R, X, A1, c, rfl, hRc, hccap, hPR, hP, hHB, hSrc, hG⟩ := hrel
      obtain ⟨M, hM⟩ : ∃ M, R.length = M := ⟨_, rfl⟩
      rw [hM] at hRc ⊢
      have HM := Lib.hid hM
      have HPR := Lib.hid hPR
      have HP := Lib.hid hP
      have HHBr := Lib.hid hHB
      have HG := Lib.hid hG
      have HSr := Lib.hid hSrc
      clear hM hPR hP hG hSrc
      by_cases hlt : 64 ≤ M
      · obtain ⟨adr, rfl, hne, hltb, hcell⟩ := HSr.out (by rw [HM.out]; omega)
        obtain ⟨x0, x1, x2, x3, x4, x5, x6, x7⟩ := hHB.scells
        obtain ⟨z0, z1, z2, z3, z4, z5, z6, z7⟩ := hHB.sfrozen
        have hbw : b < wr.heap.size := hHB.lt
        have F4 := Lib.hid (fun j (hj : j < 64) => hHB.added_ j hj)
        have F2 := Lib.hid (show ∀ i, i < 64 → wr.cell? (adr.add i) = some (.int .u8 (bi ((R.take 64).getD i 0))) from fun i hi => by
          rw [hcell i (by rw [HM.out]; omega)]
          simp only [List.getD_eq_getElem?_getD, List.getElem?_take, if_pos hi])
        obtain ⟨s0, hs0⟩ : ∃ s0, full P = s0 := ⟨_, rfl⟩
        rw [hs0] at x0 x1 x2 x3 x4 x5 x6 x7
        have HS0 := Lib.hid hs0
        clear hHB hcell hs0
        have hj1 : (64 : Int) ≤ (M : Int) := by omega
        have hj2 : (64 : Int) ≤ (c : Int) := by omega
        go_wp2_with fail
        go_region_with (go_at_call 123; refine (fold_agg s0 adr c (R.take 64) b 76 _ (by omega) (by unfold maxLen; omega) (by exact hltb) (by exact F2.out) (by exact hbw) (by exact F4.out)).mono ?_; rintro e w5 ⟨t, HT, rfl, hb5⟩; have y0 := (hb5.cell (p := ⟨b, 0, none⟩) hbw).trans x0; have y1 := (hb5.cell (p := ⟨b, 1, none⟩) hbw).trans x1; have y2 := (hb5.cell (p := ⟨b, 2, none⟩) hbw).trans x2; have y3 := (hb5.cell (p := ⟨b, 3, none⟩) hbw).trans x3; have y4 := (hb5.cell (p := ⟨b, 4, none⟩) hbw).trans x4; have y5 := (hb5.cell (p := ⟨b, 5, none⟩) hbw).trans x5; have y6 := (hb5.cell (p := ⟨b, 6, none⟩) hbw).trans x6; have y7 := (hb5.cell (p := ⟨b, 7, none⟩) hbw).trans x7; have q0 := (hb5.frozen (p := ⟨b, 0, none⟩) hbw).trans z0; have q1 := (hb5.frozen (p := ⟨b, 1, none⟩) hbw).trans z1; have q2 := (hb5.frozen (p := ⟨b, 2, none⟩) hbw).trans z2; have q3 := (hb5.frozen (p := ⟨b, 3, none⟩) hbw).trans z3; have q4 := (hb5.frozen (p := ⟨b, 4, none⟩) hbw).trans z4; have q5 := (hb5.frozen (p := ⟨b, 5, none⟩) hbw).trans z5; have q6 := (hb5.frozen (p := ⟨b, 6, none⟩) hbw).trans z6; have q7 := (hb5.frozen (p := ⟨b, 7, none⟩) hbw).trans z7)
        have k1 := ((HHBr.out.drew).below hb5 hbw).set8 t
        have k2 := only8 (only_of_below hb5 (some b)) (.int .u32 (wi t.a)) (.int .u32 (wi t.b)) (.int .u32 (wi t.c)) (.int .u32 (wi t.d)) (.int .u32 (wi t.e)) (.int .u32 (wi t.f)) (.int .u32 (wi t.g)) (.int .u32 (wi t.h))
        clear y0 y1 y2 y3 y4 y5 y6 y7 q0 q1 q2 q3 q4 q5 q6 q7 x0 x1 x2 x3 x4 x5 x6 x7 z0 z1 z2 z3 z4 z5 z6 z7
        generalize ((((((((w5.setCell ⟨b, 0, none⟩ (.int .u32 (wi t.a))).setCell ⟨b, 1, none⟩ (.int .u32 (wi t.b))).setCell ⟨b, 2, none⟩ (.int .u32 (wi t.c))).setCell ⟨b, 3, none⟩ (.int .u32 (wi t.d))).setCell ⟨b, 4, none⟩ (.int .u32 (wi t.e))).setCell ⟨b, 5, none⟩ (.int .u32 (wi t.f))).setCell ⟨b, 6, none⟩ (.int .u32 (wi t.g))).setCell ⟨b, 7, none⟩ (.int .u32 (wi t.h))) = w8 at *
        have ht : t = full (P ++ R.take 64) := by
          have hpl := tail64_none P HP.out
          rw [full_block P (R.take 64) (by rw [hpl, List.length_take, HM.out]; simp; omega), hpl, HT.out, HS0.out]
          rfl
        rw [ht] at k1
        have k3 : P ++ R.take 64 ++ R.drop 64 = all ++ bs := by rw [List.append_assoc, List.take_append_drop]; exact HPR.out
        have k4 : (P ++ R.take 64).length % 64 = 0 := by rw [List.length_append, List.length_take, HM.out]; have := HP.out; omega
        have k5 : Src w8 b (some adr) R := HSr.out.only (only_then (only_drew (World.grownBy.refl wr _)) k2)
        have k6 : w.grownBy w8 (some b) := only_then HG.out (only_then (only_drew (World.grownBy.refl wr _)) k2)
        have k7 : (R.drop 64).length = M - 64 := by rw [List.length_drop, HM.out]
        have K1 := Lib.hid k1
        have K3 := Lib.hid k3
        have K4 := Lib.hid k4
        have K5 := Lib.hid k5
        have K6 := Lib.hid k6
        have K7 := Lib.hid k7
        clear k1 k2 k3 k4 k5 k6 k7 ht hb5
        by_cases hcc : c = 64
        · have hM' : M = 64 := by omega
          subst hcc
          go_wp2_with fail
          go_roundw
          case rel =>
            exact ⟨P ++ R.take 64, R.drop 64, X, some adr, 0, by rw [K7.out, hM'], by rw [K7.out]; omega, by omega, K3.out, K4.out, K1.out, fun h => absurd h (by rw [K7.out]; omega), K6.out⟩
          case measure => simp [lenOf]; omega
        · go_wp2_with fail
          go_roundw
          case rel =>
            exact ⟨P ++ R.take 64, R.drop 64, X, some (adr.add 64), c - 64, by rw [K7.out, add_at _ _ (by omega)], by rw [K7.out]; omega, by omega, K3.out, K4.out, K1.out, K5.out.cut 64 _ (fun _ a e => by injection e with e; rw [e]), K6.out⟩
          case measure => simp [lenOf]; omega
      · have hHB' := Lib.hid hHB
        clear hHB
        have hMM : M = Nat.min M 64 := (Nat.min_eq_left (a := M) (b := 64) (by omega)).symm
        have HMM := Lib.hid hMM
        clear hMM
        have hM0 : 0 + M ≤ 64 := by omega
        go_wp2_with (refine copy_rest rfl (.tmp 71) (.tmp 72) rfl b (full P) X (n + l) 1 0 kv hHB'.out 0 64 64 rfl A1 M c R HM.out rfl HSr.out M HMM.out hM0 ?_; intro w6 hB6 hg6)
        go_end0
        have hPl := HP.out
        have hlen : (P ++ R).length = n + l := by rw [HPR.out, List.length_append, HNE.out, HLE.out]
        have hlen2 : P.length + M = n + l := by rw [← hlen, List.length_append, HM.out]
        have hsh : (P ++ R).length / 64 = P.length / 64 := by rw [hlen]; omega
        refine ⟨rfl, ⟨full P, splice X 0 (R.take M), 1, kv, ?_, .inr ⟨rfl, rfl⟩, ?_, ?_⟩, only_then HG.out hg6⟩
        · rw [← HPR.out, hlen]; exact hB6
        · rw [← HPR.out, full_short _ _ hsh]
        · rw [← HPR.out, hlen, tail64_short _ _ hsh, tail64_none _ hPl, show (n + l) % 64 = M from by omega]
          unfold splice
          rw [List.take_of_length_le (l := R) (by rw [HM.out]; omega), List.take_zero, List.nil_append, List.nil_append, List.take_append_of_le_length (by rw [HM.out]; omega), List.take_of_length_le (by rw [HM.out]; omega)]
  · go_wp2_with fail
    clear hcc E66

    go_loopw [1] (fun v wr => ∃ (P R X : List UInt8) (A1 : Option Addr) (c : Nat), v = .slice A1 R.length c ∧ R.length ≤ c ∧ c ≤ cap ∧ P ++ R = all ++ bs ∧ P.length % 64 = 0 ∧ HB wr b (full P) X (n + l) 1 0 kv ∧ Src wr b A1 R ∧ w.grownBy wr (some b)) (fun v _ => lenOf v)
    case atStart =>
      exact ⟨all ++ bs.take k, bs.drop k, F, some (adr.add k), cap - k, by rw [K7.out], by rw [K7.out]; omega, by omega, K3.out, K4.out, K1.out, K5.out.cut k _ (fun _ a e => by injection e with e; rw [e]), K6.out⟩
    case round =>
      obtain ⟨P, R, X, A1, c, rfl, hRc, hccap, hPR, hP, hHB, hSrc, hG⟩ := hrel
      obtain ⟨M, hM⟩ : ∃ M, R.length = M := ⟨_, rfl⟩
      rw [hM] at hRc ⊢
      have HM := Lib.hid hM
      have HPR := Lib.hid hPR
      have HP := Lib.hid hP
      have HHBr := Lib.hid hHB
      have HG := Lib.hid hG
      have HSr := Lib.hid hSrc
      clear hM hPR hP hG hSrc
      by_cases hlt : 64 ≤ M
      · obtain ⟨adr, rfl, hne, hltb, hcell⟩ := HSr.out (by rw [HM.out]; omega)
        obtain ⟨x0, x1, x2, x3, x4, x5, x6, x7⟩ := hHB.scells
        obtain ⟨z0, z1, z2, z3, z4, z5, z6, z7⟩ := hHB.sfrozen
        have hbw : b < wr.heap.size := hHB.lt
        have F4 := Lib.hid (fun j (hj : j < 64) => hHB.added_ j hj)
        have F2 := Lib.hid (show ∀ i, i < 64 → wr.cell? (adr.add i) = some (.int .u8 (bi ((R.take 64).getD i 0))) from fun i hi => by
          rw [hcell i (by rw [HM.out]; omega)]
          simp only [List.getD_eq_getElem?_getD, List.getElem?_take, if_pos hi])
        obtain ⟨s0, hs0⟩ : ∃ s0, full P = s0 := ⟨_, rfl⟩
        rw [hs0] at x0 x1 x2 x3 x4 x5 x6 x7
        have HS0 := Lib.hid hs0
        clear hHB hcell hs0
        have hj1 : (64 : Int) ≤ (M : Int) := by omega
        have hj2 : (64 : Int) ≤ (c : Int) := by omega
        go_wp2_with fail
        go_region_with (go_at_call 123; refine (fold_agg s0 adr c (R.take 64) b 76 _ (by omega) (by unfold maxLen; omega) (by exact hltb) (by exact F2.out) (by exact hbw) (by exact F4.out)).mono ?_; rintro e w5 ⟨t, HT, rfl, hb5⟩; have y0 := (hb5.cell (p := ⟨b, 0, none⟩) hbw).trans x0; have y1 := (hb5.cell (p := ⟨b, 1, none⟩) hbw).trans x1; have y2 := (hb5.cell (p := ⟨b, 2, none⟩) hbw).trans x2; have y3 := (hb5.cell (p := ⟨b, 3, none⟩) hbw).trans x3; have y4 := (hb5.cell (p := ⟨b, 4, none⟩) hbw).trans x4; have y5 := (hb5.cell (p := ⟨b, 5, none⟩) hbw).trans x5; have y6 := (hb5.cell (p := ⟨b, 6, none⟩) hbw).trans x6; have y7 := (hb5.cell (p := ⟨b, 7, none⟩) hbw).trans x7; have q0 := (hb5.frozen (p := ⟨b, 0, none⟩) hbw).trans z0; have q1 := (hb5.frozen (p := ⟨b, 1, none⟩) hbw).trans z1; have q2 := (hb5.frozen (p := ⟨b, 2, none⟩) hbw).trans z2; have q3 := (hb5.frozen (p := ⟨b, 3, none⟩) hbw).trans z3; have q4 := (hb5.frozen (p := ⟨b, 4, none⟩) hbw).trans z4; have q5 := (hb5.frozen (p := ⟨b, 5, none⟩) hbw).trans z5; have q6 := (hb5.frozen (p := ⟨b, 6, none⟩) hbw).trans z6; have q7 := (hb5.frozen (p := ⟨b, 7, none⟩) hbw).trans z7)
        have k1 := ((HHBr.out.drew).below hb5 hbw).set8 t
        have k2 := only8 (only_of_below hb5 (some b)) (.int .u32 (wi t.a)) (.int .u32 (wi t.b)) (.int .u32 (wi t.c)) (.int .u32 (wi t.d)) (.int .u32 (wi t.e)) (.int .u32 (wi t.f)) (.int .u32 (wi t.g)) (.int .u32 (wi t.h))
        clear y0 y1 y2 y3 y4 y5 y6 y7 q0 q1 q2 q3 q4 q5 q6 q7 x0 x1 x2 x3 x4 x5 x6 x7 z0 z1 z2 z3 z4 z5 z6 z7
        generalize ((((((((w5.setCell ⟨b, 0, none⟩ (.int .u32 (wi t.a))).setCell ⟨b, 1, none⟩ (.int .u32 (wi t.b))).setCell ⟨b, 2, none⟩ (.int .u32 (wi t.c))).setCell ⟨b, 3, none⟩ (.int .u32 (wi t.d))).setCell ⟨b, 4, none⟩ (.int .u32 (wi t.e))).setCell ⟨b, 5, none⟩ (.int .u32 (wi t.f))).setCell ⟨b, 6, none⟩ (.int .u32 (wi t.g))).setCell ⟨b, 7, none⟩ (.int .u32 (wi t.h))) = w8 at *
        have ht : t = full (P ++ R.take 64) := by
          have hpl := tail64_none P HP.out
          rw [full_block P (R.take 64) (by rw [hpl, List.length_take, HM.out]; simp; omega), hpl, HT.out, HS0.out]
          rfl
        rw [ht] at k1
        have k3 : P ++ R.take 64 ++ R.drop 64 = all ++ bs := by rw [List.append_assoc, List.take_append_drop]; exact HPR.out
        have k4 : (P ++ R.take 64).length % 64 = 0 := by rw [List.length_append, List.length_take, HM.out]; have := HP.out; omega
        have k5 : Src w8 b (some adr) R := HSr.out.only (only_then (only_drew (World.grownBy.refl wr _)) k2)
        have k6 : w.grownBy w8 (some b) := only_then HG.out (only_then (only_drew (World.grownBy.refl wr _)) k2)
        have k7 : (R.drop 64).length = M - 64 := by rw [List.length_drop, HM.out]
        have K1 := Lib.hid k1
        have K3 := Lib.hid k3
        have K4 := Lib.hid k4
        have K5 := Lib.hid k5
        have K6 := Lib.hid k6
        have K7 := Lib.hid k7
        clear k1 k2 k3 k4 k5 k6 k7 ht hb5
        by_cases hcc : c = 64
        · have hM' : M = 64 := by omega
          subst hcc
          go_wp2_with fail
          go_roundw
          case rel =>
            exact ⟨P ++ R.take 64, R.drop 64, X, some adr, 0, by rw [K7.out, hM'], by rw [K7.out]; omega, by omega, K3.out, K4.out, K1.out, fun h => absurd h (by rw [K7.out]; omega), K6.out⟩
          case measure => simp [lenOf]; omega
        · go_wp2_with fail
          go_roundw
          case rel =>
            exact ⟨P ++ R.take 64, R.drop 64, X, some (adr.add 64), c - 64, by rw [K7.out, add_at _ _ (by omega)], by rw [K7.out]; omega, by omega, K3.out, K4.out, K1.out, K5.out.cut 64 _ (fun _ a e => by injection e with e; rw [e]), K6.out⟩
          case measure => simp [lenOf]; omega
      · have hHB' := Lib.hid hHB
        clear hHB
        have hMM : M = Nat.min M 64 := (Nat.min_eq_left (a := M) (b := 64) (by omega)).symm
        have HMM := Lib.hid hMM
        clear hMM
        have hM0 : 0 + M ≤ 64 := by omega
        go_wp2_with (refine copy_rest rfl (.tmp 71) (.tmp 72) rfl b (full P) X (n + l) 1 0 kv hHB'.out 0 64 64 rfl A1 M c R HM.out rfl HSr.out M HMM.out hM0 ?_; intro w6 hB6 hg6)
        go_end0
        have hPl := HP.out
        have hlen : (P ++ R).length = n + l := by rw [HPR.out, List.length_append, HNE.out, HLE.out]
        have hlen2 : P.length + M = n + l := by rw [← hlen, List.length_append, HM.out]
        have hsh : (P ++ R).length / 64 = P.length / 64 := by rw [hlen]; omega
        refine ⟨rfl, ⟨full P, splice X 0 (R.take M), 1, kv, ?_, .inr ⟨rfl, rfl⟩, ?_, ?_⟩, only_then HG.out hg6⟩
        · rw [← HPR.out, hlen]; exact hB6
        · rw [← HPR.out, full_short _ _ hsh]
        · rw [← HPR.out, hlen, tail64_short _ _ hsh, tail64_none _ hPl, show (n + l) % 64 = M from by omega]
          unfold splice
          rw [List.take_of_length_le (l := R) (by rw [HM.out]; omega), List.take_zero, List.nil_append, List.nil_append, List.take_append_of_le_length (by rw [HM.out]; omega), List.take_of_length_le (by rw [HM.out]; omega)]

end Go.Proofs.YteffiedolcjjlaaGreat.Sh
/- A Hasher, used: Write, Sum; sha.Sum. -/
namespace Go.Proofs.YteffiedolcjjlaaGreat.Sh
open Go.RowKit

theorem write_any (b : Nat) (all bs : List UInt8) (A : Option Addr) (cap : Nat) (w : World) (h : HH w b all) (hs : Src w b A bs) (hlc : bs.length ≤ cap) (hcm : cap ≤ maxLen) (hn : all.length + bs.length < 2 ^ 60) :
    Calls Tryz.prog 83 #[.pointer (some ⟨b, 0, none⟩), .slice A bs.length cap] w fun e w' => e = .returned (.tuple #[]) ∧ HH w' b (all ++ bs) ∧ w.grownBy w' (some b) := by
  by_cases h0 : all.length % 64 = 0
  · exact write_zero b all bs A cap w h hs hlc hcm hn h0
  · by_cases h1 : all.length % 64 + bs.length < 64
    · exact write_few b all bs A cap w h hs hlc hcm hn (by omega) h1
    · exact write_fill b all bs A cap w h hs hlc hcm hn (by omega) (by omega)

/-- The Hasher's Sum. -/
def HSum (b : Nat) (all : List UInt8) (w : World) (e : Ending) (w' : World) : Prop :=
  ∃ v, e = .returned v ∧ Own w' w.heap.size v (sumOf all) ∧ HH w' b all ∧ w.grownBy w' (some b)
theorem hsum_any (b : Nat) (all : List UInt8) (w : World) (h : HH w b all) (hn : all.length < 2 ^ 60) : Calls Tryz.prog 84 #[.pointer (some ⟨b, 0, none⟩)] w (HSum b all w) := by
  obtain ⟨s, rest, d, ad, hB, hm, hst, hta⟩ := h
  refine (sum_any b s rest all.length d ad w hB hm hn).mono ?_
  rintro e w' ⟨v, he, ho, hB', hg⟩
  refine ⟨v, he, ?_, ⟨s, rest, 1, kv, hB', .inr ⟨rfl, rfl⟩, hst, hta⟩, hg⟩
  rw [sumOf_eq, ← hst, ← hta]
  exact ho
theorem new_hh {w : World} {e : Ending} {w' : World} (h : NewPost w e w') : ∃ b, e = .returned (.pointer (some ⟨b, 0, none⟩)) ∧ HH w' b [] ∧ w.heap.size ≤ b ∧ Below w.heap.size w w' := by
  obtain ⟨b, ad, he, hB, hb, hw⟩ := h
  refine ⟨b, he, ⟨St.first, _, 0, ad, hB, .inl rfl, ?_, ?_⟩, hb, hw⟩
  · rw [full_eq]; exact (blocks_zero _ _).symm
  · rfl

/-- The bytes bs, read by a slice. -/
def In (w : World) (A : Option Addr) (bs : List UInt8) : Prop :=
  0 < bs.length → ∃ ad, A = some ad ∧ ad.block < w.heap.size ∧ ∀ j, j < bs.length → w.cell? (ad.add j) = some (.int .u8 (bi (bs.getD j 0)))
theorem In.nil (w : World) (A : Option Addr) : In w A [] := fun h => absurd h (by simp)
theorem In.below {w w' : World} {A : Option Addr} {bs : List UInt8} (h : In w A bs) (hb : Below w.heap.size w w') : In w' A bs := by
  intro h0
  obtain ⟨ad, hA, hlt, hc⟩ := h h0
  exact ⟨ad, hA, Nat.lt_of_lt_of_le hlt hb.size, fun j hj => (hb.cell (p := ad.add j) (by rw [block_of_add]; exact hlt)).trans (hc j hj)⟩
theorem In.src {w w' : World} {A : Option Addr} {bs : List UInt8} (h : In w A bs) (hb : Below w.heap.size w w') {b : Nat} (hbb : w.heap.size ≤ b) : Src w' b A bs := by
  intro h0
  obtain ⟨ad, hA, hlt, hc⟩ := h h0
  exact ⟨ad, hA, by omega, Nat.lt_of_lt_of_le hlt hb.size, fun j hj => (hb.cell (p := ad.add j) (by rw [block_of_add]; exact hlt)).trans (hc j hj)⟩
theorem Own.in_ {w : World} {B : Nat} {v : Value} {bs : List UInt8} (h : Own w B v bs) : ∃ A c, v = .slice A bs.length c ∧ bs.length ≤ c ∧ c ≤ maxLen ∧ In w A bs ∧ (0 < bs.length → ∃ g, A = some ⟨g, 0, none⟩ ∧ B ≤ g ∧ g < w.heap.size) := by
  rcases h.2 with ⟨rfl, h0⟩ | ⟨g, cap, cur, rfl, hb, hg, hc, hm, hcs, htk⟩
  · exact ⟨none, 0, by rw [h0], by omega, by unfold maxLen; omega, fun h1 => by omega, fun h1 => by omega⟩
  · have hlt : g < w.heap.size := (Array.getElem?_eq_some_iff.1 hg).1
    refine ⟨some ⟨g, 0, none⟩, cap, rfl, hc, hm, fun _ => ⟨_, rfl, hlt, fun j hj => ?_⟩, fun _ => ⟨g, rfl, hb, hlt⟩⟩
    rw [Addr.add_mid, cell_of_row _ _ _ _ _ _ hg, Nat.zero_add]
    have : (cur.toList.take (bs.length * 1))[j]? = (bs.map bv)[j]? := by rw [htk]
    rw [List.getElem?_take, if_pos (by omega), List.getElem?_map, List.getElem?_eq_getElem hj] at this
    rw [List.getD_eq_getElem?_getD, List.getElem?_eq_getElem hj]
    simpa [bv] using this

def OwnPost (w : World) (bs : List UInt8) (e : Ending) (w' : World) : Prop := ∃ v, e = .returned v ∧ Own w' w.heap.size v bs ∧ Below w.heap.size w w'

set_option maxRecDepth 100000 in
set_option maxHeartbeats 800000 in
/-- sha.Sum -/
theorem ssum_any (A : Option Addr) (bs : List UInt8) (cap : Nat) (w : World) (h : In w A bs) (hlc : bs.length ≤ cap) (hcm : cap ≤ maxLen) (hn : bs.length < 2 ^ 60) :
    Calls Tryz.prog 50 #[.slice A bs.length cap] w (OwnPost w (sumOf bs)) := by
  have HI := Lib.hid h
  obtain ⟨l, hl⟩ : ∃ l, bs.length = l := ⟨_, rfl⟩
  have HL := Lib.hid hl
  rw [hl]
  clear h hl
  go_enter Tryz.func50, Tryz.ntmps50
  go_wp2_with fail
  refine (new_any _).mono ?_
  intro e w1 hnew
  obtain ⟨b, rfl, hH, hb, hw1⟩ := new_hh hnew
  clear hnew
  have HH1 := Lib.hid hH
  have HW1 := Lib.hid hw1
  clear hH hw1
  go_wp2_with fail
  have hw := write_any b [] bs A cap w1 HH1.out (HI.out.src HW1.out hb) hlc hcm (by simpa using hn)
  rw [HL.out] at hw
  refine hw.mono ?_
  rintro e w2 ⟨rfl, hH2, hg2⟩
  clear hw
  rw [List.nil_append] at hH2
  have HH2 := Lib.hid hH2
  have HG2 := Lib.hid hg2
  clear hH2 hg2
  go_wp2_with fail
  refine (hsum_any b bs _ HH2.out hn).mono ?_
  rintro e w3 ⟨v, rfl, ho, hH3, hg3⟩
  have hz := HG2.out.size
  have hz1 := HW1.out.size
  have HO := Lib.hid (ho.base (show w.heap.size ≤ w2.heap.size by omega))
  have HF := Lib.hid (HW1.out.trans (below_of_only (only_then HG2.out hg3) hb hz1))
  clear ho hH3 hg3
  go_wp2_with fail
  go_ret
  exact ⟨v, rfl, HO.out, HF.out⟩
end Go.Proofs.YteffiedolcjjlaaGreat.Sh
/- Bytes as a text; CopyBytes, Bytes. -/
namespace Go.Proofs.YteffiedolcjjlaaGreat.Sh
open Go.RowKit

/-- Bytes as a string. -/
def str (bs : List UInt8) : ByteArray := ⟨bs.toArray⟩
theorem str_inj {a b : List UInt8} (h : str a = str b) : a = b := by
  unfold str at h
  injection h with h
  simpa using congrArg Array.toList h
theorem str_push (bs : List UInt8) : ∀ (acc : List UInt8), (bs.map bi).foldl (fun (r : ByteArray) n => r.push (UInt8.ofNat n.toNat)) (str acc) = str (acc ++ bs) := by
  induction bs with
  | nil => intro acc; simp
  | cons x r ih =>
    intro acc
    have e : (str acc).push (UInt8.ofNat (bi x).toNat) = str (acc ++ [x]) := by
      have : UInt8.ofNat (bi x).toNat = x := by unfold bi; simp
      rw [this]
      unfold str ByteArray.push
      simp
    rw [List.map_cons, List.foldl_cons, e, ih]
    simp
theorem load_in {w : World} {ad : Addr} {bs : List UInt8} (h : ∀ j, j < bs.length → w.cell? (ad.add j) = some (.int .u8 (bi (bs.getD j 0)))) :
    (loadCells ad bs.length).run Tryz.prog w = .ok ((bs.map bi).map (Value.int .u8)).toArray w := by
  have := run_loadCells_list (P := Tryz.prog) w ad ((bs.map bi).map (Value.int .u8)) (fun j v hv => by
    have hj : j < bs.length := by
      have := (List.getElem?_eq_some_iff.1 hv).1
      simpa using this
    rw [h j hj, ← hv, List.getElem?_map, List.getElem?_map, List.getElem?_eq_getElem hj, List.getD_eq_getElem?_getD, List.getElem?_eq_getElem hj]
    rfl)
  simpa using this
theorem conv_str (w : World) (A : Option Addr) (bs : List UInt8) (c : Nat) (h : In w A bs) (hA : A = none → bs = []) :
    (convert 51 9 (.slice A bs.length c)).run Tryz.prog w = .ok (.string (str bs)) w := by
  rw [run_convert_bytes_string w 51 9 5 A bs.length c Tryz.underlying51 Tryz.underlying5 Tryz.underlying9]
  rcases A with _ | ad
  · obtain rfl := hA rfl
    simp [Conv.bytesToString, Sem.run_pure, str]
    rfl
  · have hl : (loadCells ad bs.length).run Tryz.prog w = .ok ((bs.map bi).map (Value.int .u8)).toArray w := by
      rcases Nat.eq_zero_or_pos bs.length with h0 | h0
      · exact load_in (fun j hj => by omega)
      · obtain ⟨ad', e, _, hc⟩ := h h0
        injection e with e
        subst e
        exact load_in hc
    rw [run_bytesToString w ad bs.length c _ hl]
    have := str_push bs []
    rw [List.nil_append] at this
    have e0 : ByteArray.empty = str [] := rfl
    rw [e0, this]

/-- v is a slice that reads as the bytes bs. -/
def Sl (w : World) (v : Value) (bs : List UInt8) : Prop := ∃ A c, v = .slice A bs.length c ∧ bs.length ≤ c ∧ c ≤ maxLen ∧ In w A bs ∧ (A = none → bs = [])
theorem Sl.below {w w' : World} {v : Value} {bs : List UInt8} (h : Sl w v bs) (hb : Below w.heap.size w w') : Sl w' v bs := by
  obtain ⟨A, c, hv, h1, h2, h3, h4⟩ := h
  exact ⟨A, c, hv, h1, h2, h3.below hb, h4⟩
theorem Own.sl {w : World} {B : Nat} {v : Value} {bs : List UInt8} (h : Own w B v bs) : Sl w v bs := by
  obtain ⟨A, c, hv, h1, h2, h3, h4⟩ := h.in_
  refine ⟨A, c, hv, h1, h2, h3, fun hA => ?_⟩
  rcases Nat.eq_zero_or_pos bs.length with h0 | h0
  · exact List.eq_nil_of_length_eq_zero h0
  · obtain ⟨g, e, _⟩ := h4 h0
    rw [hA] at e
    cases e
theorem Sl.nil_ (w : World) : Sl w (.slice none 0 0) [] := ⟨none, 0, rfl, by simp, by unfold maxLen; omega, In.nil w none, fun _ => rfl⟩
theorem In.reads {w : World} {A : Option Addr} {bs : List UInt8} (h : In w A bs) : Reads w w.heap.size 1 A bs.length (bs.map bv) := by
  refine ⟨by simp, fun h0 => ?_⟩
  obtain ⟨ad, hA, hlt, hc⟩ := h h0
  refine ⟨ad, hA, hlt, fun j u hu => ?_⟩
  have hj : j < bs.length := by
    have := (List.getElem?_eq_some_iff.1 hu).1
    simpa using this
  rw [hc j hj, ← hu, List.getElem?_map, List.getElem?_eq_getElem hj, List.getD_eq_getElem?_getD, List.getElem?_eq_getElem hj]
  rfl
theorem str_toList (bs : List UInt8) : (str bs).toList = bs := by
  rw [ByteArray.toList_eq]
  rfl

set_option maxRecDepth 100000 in
set_option maxHeartbeats 400000 in
/-- marref.Bytes -/
theorem bytes_any (v1 v2 : Value) (bs cs : List UInt8) (w : World) (h1 : Sl w v1 bs) (h2 : Sl w v2 cs) (t : Bool) (ht : (bs == cs) = t) :
    Calls Tryz.prog 24 #[v1, v2] w fun e w' => e = .returned (.bool t) ∧ w = w' := by
  obtain ⟨A, c, rfl, _, _, h, hA⟩ := h1
  obtain ⟨A2, c2, rfl, _, _, h2, hA2⟩ := h2
  have k1 := conv_str w A bs c h hA
  have k2 := conv_str w A2 cs c2 h2 hA2
  have HT := Lib.hid ht
  clear ht h hA h2 hA2
  go_enter Tryz.func24, Tryz.ntmps24
  go_wp2_with fail
  go_ret
  refine ⟨?_, rfl⟩
  show Ending.returned (.bool ((str bs).toList == (str cs).toList)) = _
  rw [str_toList, str_toList, HT.out]

set_option maxRecDepth 100000 in
set_option maxHeartbeats 400000 in
/-- marref.CopyBytes -/
theorem copyb_any (v : Value) (bs : List UInt8) (w : World) (h : Sl w v bs) (hn : bs.length ≤ 140737488355328) : Calls Tryz.prog 21 #[v] w (OwnPost w bs) := by
  obtain ⟨A, c, rfl, hlc, hcm, hI, hA⟩ := h
  have hI1 : In (w.alloc (.cells #[] 5)) A bs := hI.below ((Below.refl _ _).alloc (Nat.le_refl _) _)
  have hr := hI1.reads
  have hown : Own (w.alloc (.cells #[] 5)) w.heap.size (.slice (some ⟨w.heap.size, 0, none⟩) 0 0) [] :=
    World.ownsRow_made w #[] 0 (Nat.le_refl _) (by unfold maxLen; omega) rfl
  obtain ⟨l, hl⟩ : ∃ l, bs.length = l := ⟨_, rfl⟩
  rw [hl] at hr hn ⊢
  have hsm : ([] : List UInt8).length + l ≤ 140737488355328 := by simpa using hn
  have hz : w.heap.size ≤ (w.alloc (.cells #[] 5)).heap.size := by simp
  have HR := Lib.hid hr
  have HOWN := Lib.hid hown
  have HZ := Lib.hid hz
  clear hl hr hown hz hI hI1 hA hlc hcm
  go_enter Tryz.func21, Tryz.ntmps21
  go_wp2_with (at_builtin; refine append_bytes rfl (.tmp 3) (.tmp 4) rfl _ w.heap.size (.slice (some ⟨w.heap.size, 0, none⟩) 0 0) [] rfl HOWN.out _ A l c bs rfl HR.out hsm HZ.out ?_; intro v3 w3 ho3 hb3; have HO := Lib.hid ho3; have HB := Lib.hid hb3; clear ho3 hb3)
  go_ret
  refine ⟨v3, rfl, ?_, ((Below.refl _ _).alloc (Nat.le_refl _) _).trans HB.out⟩
  simpa using HO.out
end Go.Proofs.YteffiedolcjjlaaGreat.Sh
