/- Texts put together: YSr5, YSr6, YGw0, YGw1, YGw2. -/
import Derived.Test.YtlgmbljfjfcpoaaGreatQt40
import Derived.Test.YtlgmbljfjfcpoaaGreatQt38
import Derived.Test.YtlgmbljfjfcpoaaGreatProg
import Derived.WalkKit
import Derived.Shelf.SlSortCmp.KitK
/- Package store: List. -/
set_option linter.unusedVariables false
set_option linter.unusedSimpArgs false
namespace Go.Proofs.YtlgmbljfjfcpoaaGreat.Tx
open Go.RowKit Go.Maps Go.Proofs.YtlgmbljfjfcpoaaGreat.Sh

theorem ids_next {q : List UInt8} {l : List (List UInt8)} {k : Nat} (h : l[k]? = some q) : idsL (l.take (k + 1)) = idsL (l.take k) ++ if validB (lastN objD q) = true then [lastN objD q] else [] := by
  unfold idsL
  rw [List.take_add_one, h, List.map_append, List.filter_append]
  congr 1
  show List.filter validB [lastN objD q] = _
  rw [List.filter_cons]
  rfl
theorem ids_len (l : List (List UInt8)) : (idsL l).length ≤ l.length := by
  unfold idsL
  refine Nat.le_trans (List.length_filter_le _ _) ?_
  rw [List.length_map]
  exact Nat.le_refl _
theorem lisp_any {w w1 : World} {b i : Nat} {c : CSt} {Z : Nat → Prop} (dir : List UInt8) (h : MineP w w1 b c Z) (hg : GoC c i) (hi : i ≤ 3800) (hd : dir.length ≤ 900000) :
    Calls Tryz.prog 51 #[.pointer (some ⟨b, 0, none⟩), .string (str dir)] w1 fun e w' => ∃ v wm, e = .returned (.tuple #[v, .int .i64 (lisE c dir)]) ∧ MineP w w' b (bgC c).c Z ∧ Keeps w Z w1 w' ∧ w1.heap.size ≤ wm.heap.size ∧ Below wm.heap.size wm w' ∧ OwnV 9 w' wm.heap.size v (((lisO c dir).map str).map sv) := by
  obtain ⟨F, M, h1, h2, h3, h4⟩ := h
  refine (list_any F M b c _ dir w1 h1 (hg.ready (by omega)) hd).mono ?_
  rintro e w' ⟨v, wm, rfl, hp, hb, ho⟩
  obtain ⟨m1, m2⟩ := MineP.of' h2 h3 h4 hp
  obtain ⟨M', _, hon, _⟩ := hp
  exact ⟨v, wm, rfl, m1.below hb, m2.below hb, hon.size, hb, ho⟩
/-- What List gives. -/
def SlsPost (w w1 : World) (b : Nat) (c : CSt) (s : Nat) (Z : Nat → Prop) (e : Ending) (w' : World) : Prop :=
  ∃ v wm, e = .returned (.tuple #[v, .int .i64 (lisE c objD)]) ∧ StAt w w' b (bgC c).c s Z ∧ Keeps w Z w1 w' ∧ w1.heap.size ≤ wm.heap.size ∧ Below wm.heap.size wm w' ∧ OwnV 9 w' wm.heap.size v (((slsV c).map str).map sv)
set_option maxRecDepth 100000 in
set_option maxHeartbeats 3200000 in
theorem slist_any {w w1 : World} {b i s : Nat} {c : CSt} {Z : Nat → Prop} (h : StAt w w1 b c s Z) (hg : GoC c i) (hi : i ≤ 3800) :
    Calls Tryz.prog 24 #[.pointer (some ⟨s, 0, none⟩)] w1 (SlsPost w w1 b c s Z) := by
  have H := Lib.hid h
  have HG := Lib.hid hg
  obtain ⟨re, hre⟩ : ∃ k, lisE c objD = k := ⟨_, rfl⟩
  have HRE := Lib.hid hre
  obtain ⟨_, _, r, g3⟩ := h
  have c0 : w1.cell? ⟨s, 0, none⟩ = some (.pointer (some ⟨b, 0, none⟩)) := g3.cell 0
  clear g3 hg hre
  go_enter Tryz.func24, Tryz.ntmps24
  go_wp2_with fail
  refine (lisp_any objD H.out.1 HG.out (by omega) (by decide)).mono ?_
  rintro e w2 ⟨v, wm, rfl, hm, hk, hz, hb, ho⟩
  rw [HRE.out]
  have HS := Lib.hid (H.out.step hm hk)
  have HK := Lib.hid (hk.fewer (fun k hk => .inl hk))
  have HB := Lib.hid hb
  have HZ := Lib.hid hz
  clear hm hk hb hz
  by_cases h0 : re = 0
  · subst h0
    obtain ⟨L, hL⟩ : ∃ l, lisO c objD = l := ⟨_, rfl⟩
    have HE : Hid (slsV c = idsL L) := by unfold Hid slsV; rw [HRE.out, if_pos rfl, hL]
    obtain ⟨hll, hlp⟩ := lis_short (HG.out.ready (by omega)) objD
    rw [hL] at hll hlp ho
    have HLP := Lib.hid hlp
    obtain ⟨pA, pc, rfl, pl1, pl2⟩ := ho.length
    simp only [List.length_map] at pl1 ho ⊢
    obtain ⟨m, hm⟩ : ∃ m, L.length = m := ⟨_, rfl⟩
    rw [hm] at pl1 hll ho ⊢
    have HO1 := Lib.hid ho
    have HMM := Lib.hid hm
    clear hL hm hlp ho
    go_wp2_with fail
    go_loopw [6, 23] (fun v i wr => ∃ k : Nat, k ≤ m ∧ i = .int .i64 k ∧ OwnV 9 wr w2.heap.size v (((idsL (L.take k)).map str).map sv) ∧ RowKit.Below w2.heap.size w2 wr) (fun _ i _ => m - (intOf i).toNat)
    case atStart => exact ⟨0, by omega, rfl, OwnV.nil_ _ _, Below.refl _ _⟩
    case round =>
      obtain ⟨k, hk, rfl, hof, hbe⟩ := hrel
      have k0 : (0 : Int) ≤ (k : Int) := by omega
      have HBE := Lib.hid hbe
      have HO := Lib.hid hof
      have hwz := hbe.size
      by_cases hlt : k < m
      · have k1 : (k : Int) < (m : Int) := by omega
        have k2 : (k : Int) ≤ (m : Int) := by omega
        have hkm : k < L.length := by rw [HMM.out]; exact hlt
        obtain ⟨q, hq⟩ : ∃ q, L[k] = q := ⟨_, rfl⟩
        have hqk : L[k]? = some q := by rw [List.getElem?_eq_getElem hkm, hq]
        have hql : q.length ≤ 1000 := HLP.out q (List.mem_of_getElem? hqk)
        have hov := HO1.out.below hbe
        obtain ⟨A', c', he, _, _, hrd⟩ := hov.slv.len
        injection he with he1 he2 he3
        subst he1
        clear he2 he3
        simp only [List.length_map] at hrd
        have hkm' : k < (L.map str).length := by rw [List.length_map]; exact hkm
        have hta := texts_at (xs := L.map str) (by simpa using hrd) k hkm'
        obtain ⟨ad, rfl, hcell⟩ := hta
        have hcell2 : wr.cell? (ad.add k) = some (.string (str q)) := by rw [hcell]; simp [hq]
        have HNX := Lib.hid (ids_next hqk)
        have hsm : ((idsL (L.take k)).map str).length + 1 ≤ 2000000 := by
          rw [List.length_map]
          have h1 := ids_len (L.take k)
          rw [List.length_take] at h1
          omega
        have hlq : (lastN objD q).length ≤ 1000 := Nat.le_trans (last_le _ _) hql
        obtain ⟨z, hz⟩ : ∃ z, lastN objD q = z := ⟨_, rfl⟩
        rw [hz] at HNX hlq
        have HZQ := Lib.hid hz
        clear hov hrd hkm' hcell hq hqk hkm hof hbe hz
        obtain ⟨t, ht⟩ : ∃ t, validB z = t := ⟨_, rfl⟩
        have HT := Lib.hid ht
        clear ht
        go_wp2_with fail
        refine (splace_any [] wr (by decide)).mono ?_
        rintro e w3 ⟨rfl, rfl⟩
        go_wp2_with fail
        refine (trim_any objD q wr).mono ?_
        rintro e w3 ⟨rfl, rfl⟩
        rw [HZQ.out]
        go_wp2_with fail
        refine (valid_any z t HT.out wr (by omega)).mono ?_
        rintro e w3 ⟨rfl, rfl⟩
        cases t with
        | false =>
          have HN : Hid (idsL (L.take (k + 1)) = idsL (L.take k)) := by have h := HNX.out; rw [if_neg (by rw [HT.out]; decide), List.append_nil] at h; exact h
          go_wp2_with fail
          go_roundw
          case rel => exact ⟨k + 1, by omega, by go_num, by rw [HN.out]; exact HO.out, HBE.out⟩
          case measure => simp [intOf]; omega
        | true =>
          have HN : Hid (idsL (L.take (k + 1)) = idsL (L.take k) ++ [z]) := by have h := HNX.out; rw [if_pos HT.out] at h; exact h
          go_wp2_with (at_builtin; refine append_text rfl (.tmp 32) (.tmp 34) rfl wr w2.heap.size u6 ((idsL (L.take k)).map str) rfl HO.out (str z) rfl hsm hwz ?_; intro v3 w3 ho3 hb3; have HO3 := Lib.hid ho3; have HB3 := Lib.hid hb3; clear ho3 hb3)
          go_roundw
          case rel =>
            refine ⟨k + 1, by omega, by go_num, ?_, HBE.out.trans (HB3.out.mono (Nat.le_refl _))⟩
            rw [HN.out]
            simpa using HO3.out
          case measure => simp [intOf]; omega
      · obtain rfl : k = m := by omega
        have hfin : OwnV 9 wr w2.heap.size u6 (((idsL L).map str).map sv) := by
          have := HO.out
          rw [List.take_of_length_le (Nat.le_of_eq HMM.out)] at this
          exact this
        have HFIN := Lib.hid hfin
        clear hfin
        go_wp2_with fail
        go_ret2
        exact ⟨_, wm, by rw [HRE.out]; rfl, HS.out.below HBE.out, HK.out.below HBE.out, HZ.out, HB.out.trans (HBE.out.mono HB.out.size), by rw [HE.out]; exact HFIN.out.base HB.out.size⟩
  · have HE : Hid (slsV c = []) := by unfold Hid slsV; rw [HRE.out, if_neg h0]
    have y0 : (re != 0) = true := by simpa using h0
    have y1 : (re == 0) = false := by rw [beq_eq_false_iff_ne]; exact h0
    clear h0 ho
    go_wp2_with fail
    go_ret2
    exact ⟨_, wm, by rw [HRE.out]; rfl, HS.out, HK.out, HZ.out, HB.out, by rw [HE.out]; exact OwnV.nil_ _ _⟩
end Go.Proofs.YtlgmbljfjfcpoaaGreat.Tx
/- marlaw7: first. -/
set_option linter.unusedVariables false
set_option linter.unusedSimpArgs false
namespace Go.Proofs.YtlgmbljfjfcpoaaGreat.Tx
open Go.RowKit Go.Maps Go.Proofs.YtlgmbljfjfcpoaaGreat.Sh

theorem slv_new7 (w : World) (xs : List ByteArray) (cs : Array Value) (hcs : cs.toList = xs.map sv) (m : Nat) (hm : xs.length = m) (hs : m ≤ 1000) : SlV (w.alloc (.cells cs 9)) (.slice (some ⟨w.heap.size, 0, none⟩) m m) (xs.map sv) := by
  refine ⟨some ⟨w.heap.size, 0, none⟩, m, by simp [hm], by simp [hm], by unfold maxLen; omega, ⟨by simp, fun _ => ⟨_, rfl, by simp, fun j u hu => ?_⟩⟩, fun h => by cases h⟩
  rw [Addr.add_mid, cell_of_row _ _ _ cs 9 (0, 0) (heap_alloc_new w _), Nat.zero_add, ← hu, ← hcs]
  simp
set_option maxRecDepth 100000 in
set_option maxHeartbeats 6400000 in
theorem sfirst_any (w : World) : Calls Tryz.prog 5 #[] w (Yes w) := by
  have kc := fun (w : World) (C : Array Value) (n c : Nat) => Lib.run_convert_bytes_const (P := Tryz.prog) w 25 5 C n c Tryz.underlying25 Tryz.underlying5
  go_enter Tryz.func5, Tryz.ntmps5
  go_wp2_with fail
  refine (new_any (fun _ => False) 1000 w (fun _ h => h.elim)).mono ?_
  rintro e w1 ⟨hb1, ⟨h1, _⟩ | ⟨_, b, M, _, hM, rfl, hat⟩⟩
  · exact absurd h1 (by decide)
  have hmi : Mine w w1 b (newC 1000) := ⟨_, M, hat, hM, hb1⟩
  have H1 := Lib.hid (MineP.start hmi)
  clear hb1 hM hat hmi
  have HPL := Lib.hid (put_first [120] (by decide))
  obtain ⟨ia, hia⟩ : ∃ x, idL [120] = x := ⟨_, rfl⟩
  obtain ⟨c1, hc1⟩ : ∃ x, sptC (newC 1000) [120] = x := ⟨_, rfl⟩
  obtain ⟨c2, hc2⟩ : ∃ x, sptC c1 [120] = x := ⟨_, rfl⟩
  have g0 := GoC.new_ 1000
  have g1 := g0.put [120]
  have g2 := (g0.put [120]).put [120]
  rw [hc1] at HPL g1 g2
  rw [hc2] at HPL g2
  rw [hia] at HPL
  have HC1 := Lib.hid hc1
  have HC2 := Lib.hid hc2
  have HG0 := Lib.hid g0
  have HG1 := Lib.hid g1
  have HG2 := Lib.hid g2
  have HV1 : Hid (sptV (newC 1000) [120] = ia) := by unfold Hid sptV; rw [if_pos HPL.out.1, hia]
  have HV2 : Hid (sptV c1 [120] = ia) := by unfold Hid sptV; rw [if_pos HPL.out.2.1, hia]
  have htl : (str ia).toList = ia := str_toList _
  clear hia hc1 hc2 g0 g1 g2
  go_wp2_with fail
  refine (open_any H1.out).mono ?_
  rintro e w2 ⟨s, rfl, hs2, _⟩
  have HS2 := Lib.hid hs2
  clear hs2
  go_wp2_with fail
  have hs3 := HS2.out.add (.cells #[.int .u8 120] 5 (1, 2))
  refine (sputs_any _ [120] hs3 HG0.out (by omega) (by_new w2 [120] #[.int .u8 120] _ _ (by simp [bv, bi]) 1 rfl (by omega)) (fun k hk => .inr (.inr hk))).mono ?_
  rw [HV1.out, HPL.out.1, HC1.out]
  rintro e w4 ⟨rfl, hs4, _⟩
  have HS4 := Lib.hid hs4
  clear hs3 hs4
  go_wp2_with fail
  have hs3 := HS4.out.add (.cells #[.int .u8 120] 5 (1, 2))
  refine (sputs_any _ [120] hs3 HG1.out (by omega) (by_new w4 [120] #[.int .u8 120] _ _ (by simp [bv, bi]) 1 rfl (by omega)) (fun k hk => .inr (.inr hk))).mono ?_
  rw [HV2.out, HPL.out.2.1, HC2.out]
  rintro e w5 ⟨rfl, hs5, _⟩
  have HS5 := Lib.hid hs5
  clear hs3 hs5
  go_wp2_with fail
  refine (slist_any HS5.out HG2.out (by omega)).mono ?_
  rintro e w6 ⟨v, wm, rfl, hs6, _, _, _, ho6⟩
  rw [HPL.out.2.2.1]
  have hv6 := ho6.slv
  rw [HPL.out.2.2.2] at hv6
  have HV6 := Lib.hid hv6
  have HB6 := Lib.hid hs6.bel
  clear hs6 ho6 hv6
  go_wp2_with fail
  refine (texts_any v _ [str ia] [str ia] _ (HV6.out.below ((Below.refl w6.heap.size w6).alloc (Nat.le_refl _) _)) (slv_new7 w6 [str ia] _ rfl 1 rfl (by omega))).mono ?_
  rintro e w7 ⟨t, rfl, ht, hb7⟩
  have ht' : t = true := ht.2 rfl
  subst ht'
  have HB7 := Lib.hid (HB6.out.trans ((((Below.refl w6.heap.size w6).alloc (Nat.le_refl _) (.cells #[.string (str ia)] 9)).trans (hb7.mono (by simp))).mono HB6.out.size))
  clear ht hb7
  go_wp2_with fail
  go_ret
  exact ⟨rfl, HB7.out⟩
end Go.Proofs.YtlgmbljfjfcpoaaGreat.Tx
/- slices.swapRangeCmpFunc at structs, over any program that bears its body: it exchanges two runs of a row. -/
namespace Go.Proofs.YtlgmbljfjfcpoaaGreat.Wk
open Go.Shelf Go.RowKit Go.Lib Go.Sort

/-- n exchanges: a + i with b + i. -/
def swapN {α : Type} [Inhabited α] (d : Array α) (a b : Nat) : Nat → Array α
  | 0 => d
  | n + 1 => swp (swapN d a b n) (a + n) (b + n)
theorem swapN_size {α : Type} [Inhabited α] (d : Array α) (a b n : Nat) : (swapN d a b n).size = d.size := by
  induction n with
  | zero => rfl
  | succ n ih => rw [swapN, size_swp, ih]
/-- What a program says of the types that the sort's bodies name. -/
structure TypesAs (P : Program) (k : Nat) : Prop where
  mixed : P.follows .mixedOrders = true
  t3 : P.underlying 3 = some (TypeDesc.int IntKind.i64)
  a3 : ∀ w, (isAgg 3).run P w = .ok false w
  z3 : ∀ w, (Go.sizeOf 3).run P w = .ok 1 w
  t4 : P.underlying 4 = some TypeDesc.bool
  a4 : ∀ w, (isAgg 4).run P w = .ok false w
  z4 : ∀ w, (Go.sizeOf 4).run P w = .ok 1 w
  t33 : P.underlying 23 = some (TypeDesc.slice 32)
  a33 : ∀ w, (isAgg 23).run P w = .ok false w
  z33 : ∀ w, (Go.sizeOf 23).run P w = .ok 1 w
  tU : P.underlying 109 = some (TypeDesc.int IntKind.u64)
  aU : ∀ w, (isAgg 109).run P w = .ok false w
  zU : ∀ w, (Go.sizeOf 109).run P w = .ok 1 w
  aE : ∀ w, (isAgg 32).run P w = .ok true w
  zE : ∀ w, (Go.sizeOf 32).run P w = .ok k w
set_option maxHeartbeats 4000000 in
set_option maxRecDepth 1000000 in
theorem swapRange_o {P : Program} {α : Type} [Inhabited α] {k : Nat} (T : TypesAs P k) (FG : P.funcs[118]? = some Tryz.f118) (enc : α → List Value) (fv : Value) (blk off cap a b n : Nat) (d0 d : Array α) (w0 w : World)
    (R : RowK enc k w0 blk off d0) (hs : d.size = d0.size) (S : SWK enc k w0 blk off d w) (ha : a + n ≤ d.size) (hb : b + n ≤ d.size) (hsz : d.size < 4611686018427387904) :
    Calls P 118 #[.slice (some ⟨blk, off, none⟩) d.size cap, .int .i64 a, .int .i64 b, .int .i64 n, fv] w fun e w' => e = .returned (.tuple #[]) ∧ SWK enc k w0 blk off (swapN d a b n) w' := by
  have mixed := T.mixed; have t3 := T.t3; have a3 := T.a3; have z3 := T.z3; have t4 := T.t4; have a4 := T.a4; have z4 := T.z4; have t33 := T.t33; have a33 := T.a33; have z33 := T.z33; have aE := T.aE; have zE := T.zE
  clear T
  have S0 : Aside (SWK enc k w0 blk off d w) := S
  clear S
  go_enter FG, Tryz.ntmps118
  go_wp2
  go_loopg [10] n (fun kx s wr => ∃ i : Nat, s = .int .i64 i ∧ i ≤ n ∧ n - i ≤ kx ∧ Aside (SWK enc k w0 blk off (swapN d a b i) wr))
  case atStart => exact ⟨0, rfl, Nat.zero_le _, by omega, S0⟩
  case round =>
    clear S0
    obtain ⟨i, rfl, hi, hkx, S1⟩ := hrel
    by_cases hlt : i < n
    · have hlt' : (i : Int) < (n : Int) := by omega
      go_wp2_with fail
      obtain ⟨D, hD⟩ : ∃ D, swapN d a b i = D := ⟨_, rfl⟩
      have hDs : D.size = d.size := by rw [← hD, swapN_size]
      obtain ⟨x, hx⟩ : ∃ x, a + i = x := ⟨_, rfl⟩
      obtain ⟨y, hy⟩ : ∃ y, b + i = y := ⟨_, rfl⟩
      have hnx : swapN d a b (i + 1) = swp D x y := by rw [swapN, hD, hx, hy]
      rw [hD] at S1
      have hxD : x < D.size := by omega
      have hyD : y < D.size := by omega
      have hxi : (a : Int) + (i : Int) = (x : Int) := by omega
      have hyi : (b : Int) + (i : Int) = (y : Int) := by omega
      have ea44 : ((x : Int)).toNat = x := by omega
      have pa44 : (0 : Int) ≤ (x : Int) := by omega
      have ba44 : (x : Int) < (d.size : Int) := by omega
      have ra44 : IntKind.i64.wrap ((x : Int)) = (x : Int) := by rw [IntKind.wrap_i64]; omega
      have ec44 : ((y : Int)).toNat = y := by omega
      have pc44 : (0 : Int) ≤ (y : Int) := by omega
      have bc44 : (y : Int) < (d.size : Int) := by omega
      have rc44 : IntKind.i64.wrap ((y : Int)) = (y : Int) := by rw [IntKind.wrap_i64]; omega
      have S2 : Aside (SWK enc k w0 blk off (swp D x y) ((wr.drew.setCells blk (off + x * k) (enc D[y]!)).setCells blk (off + y * k) (enc D[x]!))) := S1.out.swapped R x y hxD hyD
      have l44a := S1.out.ld1 R (by omega) P x hxD
      have l44b := S1.out.ld1 R (by omega) P y hyD
      have s44a := S1.out.st1 R (by omega) P x hxD D[y]!
      have s44b := S1.out.st2 R (by omega) P x y hxD hyD D[y]! D[x]!
      have n44a : (enc D[x]!).length = k := R.hk _
      have n44b : (enc D[y]!).length = k := R.hk _
      generalize enc D[x]! = cI44 at S2 l44a s44b n44a
      generalize enc D[y]! = cJ44 at S2 l44b s44a s44b n44b
      have HNX : Aside (swapN d a b (i + 1) = swp D x y) := hnx
      clear S1 hD hDs hx hy hnx hxD hyD
      go_big_region_o
      clear l44a l44b s44a s44b
      generalize (wr.drew.setCells blk (off + x * k) cJ44).setCells blk (off + y * k) cI44 = w2 at S2 ⊢
      go_wp2
      go_roundg (n - (i + 1))
      case measure => omega
      case rel => exact ⟨i + 1, by simp, by omega, Nat.le_refl _, by rw [HNX.out]; exact S2⟩
    · have hlt' : ¬ (i : Int) < (n : Int) := by omega
      obtain rfl : i = n := by omega
      go_wp2
      go_end0
      exact ⟨rfl, S1.out⟩
end Go.Proofs.YtlgmbljfjfcpoaaGreat.Wk
/- slices.rotateCmpFunc at structs, over any program that bears its body: the rows are those that were there. -/
namespace Go.Proofs.YtlgmbljfjfcpoaaGreat.Wk
open Go.Shelf Go.RowKit Go.Lib Go.Sort

/-- The same number of rows, each of them one that was there. -/
def Moved {α : Type} [Inhabited α] (d d' : Array α) : Prop := d'.size = d.size ∧ ∀ i, i < d.size → ∃ j, j < d.size ∧ d'[i]! = d[j]!
section
variable {α : Type} [Inhabited α]
theorem Moved.refl (d : Array α) : Moved d d := ⟨rfl, fun i hi => ⟨i, hi, rfl⟩⟩
theorem Moved.trans {d d' d2 : Array α} (h : Moved d d') (h2 : Moved d' d2) : Moved d d2 := by
  refine ⟨h2.1.trans h.1, fun i hi => ?_⟩
  obtain ⟨j, hj, e⟩ := h2.2 i (by rw [h.1]; exact hi)
  obtain ⟨q, hq, e2⟩ := h.2 j (by rw [← h.1]; exact hj)
  exact ⟨q, hq, e.trans e2⟩
theorem Moved.swp (d : Array α) {i j : Nat} (hi : i < d.size) (hj : j < d.size) : Moved d (Go.Sort.swp d i j) := by
  refine ⟨size_swp d i j, fun k hk => ?_⟩
  by_cases h1 : k = i
  · subst h1
    by_cases h2 : k = j
    · subst h2
      exact ⟨k, hk, swp_right d k k hj⟩
    · exact ⟨j, hj, swp_left d k j hk h2⟩
  · by_cases h2 : k = j
    · subst h2
      exact ⟨i, hi, swp_right d i k hk⟩
    · exact ⟨k, hk, swp_other d i j k h1 h2⟩
theorem Moved.swapN (d : Array α) (a b n : Nat) (ha : a + n ≤ d.size) (hb : b + n ≤ d.size) : Moved d (Wk.swapN d a b n) := by
  induction n with
  | zero => exact Moved.refl d
  | succ n ih =>
    have h := ih (by omega) (by omega)
    exact h.trans (Moved.swp _ (by rw [h.1]; omega) (by rw [h.1]; omega))
end
/-- What a step of the sort leaves: a world of the sort's, its rows moved. -/
def StepPost {α : Type} [Inhabited α] (enc : α → List Value) (k : Nat) (w0 : World) (blk off : Nat) (d : Array α) (e : Ending) (w' : World) : Prop := e = .returned (.tuple #[]) ∧ ∃ d', Moved d d' ∧ SWK enc k w0 blk off d' w'
section
variable {P : Program} {α : Type} [Inhabited α] {k : Nat}
theorem swapRange_w (T : TypesAs P k) (FG : P.funcs[118]? = some Tryz.f118) (enc : α → List Value) (fv : Value) (blk off N cap a b n : Nat) (d0 d : Array α) (w0 w : World)
    (R : RowK enc k w0 blk off d0) (hs : d.size = d0.size) (S : SWK enc k w0 blk off d w) (hN : d.size = N) (ha : a + n ≤ N) (hb : b + n ≤ N) (hsz : N < 4611686018427387904) :
    Calls P 118 #[.slice (some ⟨blk, off, none⟩) N cap, .int .i64 a, .int .i64 b, .int .i64 n, fv] w (StepPost enc k w0 blk off d) := by
  subst hN
  exact (swapRange_o T FG enc fv blk off cap a b n d0 d w0 w R hs S ha hb hsz).mono fun e w' ⟨he, h⟩ => ⟨he, _, Moved.swapN d a b n ha hb, h⟩
set_option maxHeartbeats 4000000 in
set_option maxRecDepth 1000000 in
theorem rotate_w (T : TypesAs P k) (FS : P.funcs[118]? = some Tryz.f118) (FG : P.funcs[104]? = some Tryz.f104) (enc : α → List Value) (fv : Value) (blk off N cap a m b : Nat) (d0 d : Array α) (w0 w : World)
    (R : RowK enc k w0 blk off d0) (hs : d.size = d0.size) (S : SWK enc k w0 blk off d w) (hN : d.size = N) (ham : a < m) (hmb : m < b) (hb : b ≤ N) (hsz : N < 4611686018427387904) :
    Calls P 104 #[.slice (some ⟨blk, off, none⟩) N cap, .int .i64 a, .int .i64 m, .int .i64 b, fv] w (StepPost enc k w0 blk off d) := by
  have T0 : Aside (TypesAs P k) := T
  have mixed := T.mixed; have t3 := T.t3; have a3 := T.a3; have z3 := T.z3; have t4 := T.t4; have a4 := T.a4; have z4 := T.z4; have t33 := T.t33; have a33 := T.a33; have z33 := T.z33; have aE := T.aE; have zE := T.zE
  clear T
  have FS0 : Aside (P.funcs[118]? = some Tryz.f118) := FS
  have eS : ∀ args w, (callFunc 118 args).run P w = .ok (.enter 118 args) w := enters_of FS (by kernel_rfl) rfl
  have S0 : Aside (SWK enc k w0 blk off d w) := S
  have R0 : Aside (RowK enc k w0 blk off d0) := R
  have hN0 : Aside (d.size = N) := hN
  have hs0 : Aside (d.size = d0.size) := hs
  clear S FS R hN hs
  obtain ⟨i0, hi0⟩ : ∃ i, m - a = i := ⟨_, rfl⟩
  obtain ⟨j0, hj0⟩ : ∃ j, b - m = j := ⟨_, rfl⟩
  have hi1 : (m : Int) - (a : Int) = (i0 : Int) := by omega
  have hj1 : (b : Int) - (m : Int) = (j0 : Int) := by omega
  have wi1 : IntKind.i64.wrap (i0 : Int) = (i0 : Int) := by rw [IntKind.wrap_i64]; omega
  have wj1 : IntKind.i64.wrap (j0 : Int) = (j0 : Int) := by rw [IntKind.wrap_i64]; omega
  go_enter FG, Tryz.ntmps104
  go_wp2
  go_loopg [10, 11] (i0 + j0) (fun kx s t wr => ∃ (i j : Nat) (D : Array α), s = .int .i64 i ∧ t = .int .i64 j ∧ 0 < i ∧ 0 < j ∧ i ≤ m ∧ m + j ≤ N ∧ i + j ≤ kx ∧ Aside (Moved d D ∧ SWK enc k w0 blk off D wr))
  case atStart => exact ⟨i0, j0, d, rfl, rfl, by omega, by omega, by omega, by omega, by omega, Moved.refl d, S0.out⟩
  case round =>
    clear S0
    obtain ⟨i, j, D, rfl, rfl, hip, hjp, him, hjn, hkx, S1⟩ := hrel
    have hDs : D.size = N := S1.out.1.1.trans hN0.out
    obtain ⟨x, hx⟩ : ∃ x, m - i = x := ⟨_, rfl⟩
    have hxi : (m : Int) - (i : Int) = (x : Int) := by omega
    have wx : IntKind.i64.wrap (x : Int) = (x : Int) := by rw [IntKind.wrap_i64]; omega
    by_cases heq : i = j
    · subst heq
      go_wp2_with fail
      refine (swapRange_w T0.out FS0.out enc fv blk off N cap x m i d0 D w0 wr R0.out (by rw [S1.out.1.1]; exact hs0.out) S1.out.2 hDs (by omega) (by omega) hsz).mono ?_
      rintro e w1 ⟨rfl, D1, hm1, hS1⟩
      go_wp2
      go_end0
      exact ⟨rfl, D1, S1.out.1.trans hm1, hS1⟩
    · have e1 : ((i : Int) == (j : Int)) = false := beq_eq_false_iff_ne.2 (by omega)
      have e2 : ((i : Int) != (j : Int)) = true := bne_iff_ne.2 (by omega)
      by_cases hgt : j < i
      · have g1 : (j : Int) < (i : Int) := by omega
        obtain ⟨y, hy⟩ : ∃ y, i - j = y := ⟨_, rfl⟩
        have hyi : (i : Int) - (j : Int) = (y : Int) := by omega
        have wy : IntKind.i64.wrap (y : Int) = (y : Int) := by rw [IntKind.wrap_i64]; omega
        go_wp2_with fail
        refine (swapRange_w T0.out FS0.out enc fv blk off N cap x m j d0 D w0 wr R0.out (by rw [S1.out.1.1]; exact hs0.out) S1.out.2 hDs (by omega) (by omega) hsz).mono ?_
        rintro e w1 ⟨rfl, D1, hm1, hS1⟩
        have S2 : Aside (Moved d D1 ∧ SWK enc k w0 blk off D1 w1) := ⟨S1.out.1.trans hm1, hS1⟩
        clear hm1 hS1
        go_wp2
        go_roundg (y + j)
        case measure => omega
        case rel => exact ⟨y, j, D1, by simp, by simp, by omega, hjp, by omega, hjn, Nat.le_refl _, S2⟩
      · have g1 : ¬ (j : Int) < (i : Int) := by omega
        obtain ⟨y, hy⟩ : ∃ y, j - i = y := ⟨_, rfl⟩
        have hyi : (j : Int) - (i : Int) = (y : Int) := by omega
        have wy : IntKind.i64.wrap (y : Int) = (y : Int) := by rw [IntKind.wrap_i64]; omega
        obtain ⟨u, hu⟩ : ∃ u, m + j = u := ⟨_, rfl⟩
        have hui : (m : Int) + (j : Int) = (u : Int) := by omega
        have wu : IntKind.i64.wrap (u : Int) = (u : Int) := by rw [IntKind.wrap_i64]; omega
        obtain ⟨v, hv⟩ : ∃ v, u - i = v := ⟨_, rfl⟩
        have hvi : (u : Int) - (i : Int) = (v : Int) := by omega
        have wv : IntKind.i64.wrap (v : Int) = (v : Int) := by rw [IntKind.wrap_i64]; omega
        go_wp2_with fail
        refine (swapRange_w T0.out FS0.out enc fv blk off N cap x v i d0 D w0 wr R0.out (by rw [S1.out.1.1]; exact hs0.out) S1.out.2 hDs (by omega) (by omega) hsz).mono ?_
        rintro e w1 ⟨rfl, D1, hm1, hS1⟩
        have S2 : Aside (Moved d D1 ∧ SWK enc k w0 blk off D1 w1) := ⟨S1.out.1.trans hm1, hS1⟩
        clear hm1 hS1
        go_wp2
        go_roundg (i + y)
        case measure => omega
        case rel => exact ⟨i, y, D1, by simp, by simp, hip, by omega, him, by omega, Nat.le_refl _, S2⟩
end
end Go.Proofs.YtlgmbljfjfcpoaaGreat.Wk
/- fsim.Plan's comparison of events by their call: what the sort asks of it. -/
namespace Go.Proofs.YtlgmbljfjfcpoaaGreat.Wk
open Go.Shelf Go.RowKit Go.Lib Go.Sort

def cmpI (x y : Int) : Int := if x < y then -1 else if y < x then 1 else 0
set_option maxRecDepth 100000 in
set_option maxHeartbeats 400000 in
theorem isNaN_any (x : Int) (w : World) : Calls Tryz.prog 57 #[.int .i64 x] w fun e w' => e = .returned (.bool false) ∧ w' = w := by
  go_enter Tryz.func57, Tryz.ntmps57
  go_wp2_with fail
  go_ret
  exact ⟨by simp, rfl⟩
set_option maxRecDepth 100000 in
set_option maxHeartbeats 800000 in
theorem compare_any (x y : Int) (w : World) : Calls Tryz.prog 32 #[.int .i64 x, .int .i64 y] w fun e w' => e = .returned (.int .i64 (cmpI x y)) ∧ w' = w := by
  go_enter Tryz.func32, Tryz.ntmps32
  go_wp2_with fail
  refine (isNaN_any x _).mono ?_
  rintro e w1 ⟨rfl, rfl⟩
  go_wp2_with fail
  refine (isNaN_any y _).mono ?_
  rintro e w1 ⟨rfl, rfl⟩
  by_cases h1 : x < y
  · have HC : Hid (cmpI x y = -1) := by unfold Hid cmpI; rw [if_pos h1]
    go_wp2_with fail
    go_ret
    exact ⟨by rw [HC.out]; rfl, rfl⟩
  · by_cases h2 : y < x
    · have HC : Hid (cmpI x y = 1) := by unfold Hid cmpI; rw [if_neg h1, if_pos h2]
      go_wp2_with fail
      go_ret
      exact ⟨by rw [HC.out]; rfl, rfl⟩
    · have HC : Hid (cmpI x y = 0) := by unfold Hid cmpI; rw [if_neg h1, if_neg h2]
      go_wp2_with fail
      go_ret
      exact ⟨by rw [HC.out]; rfl, rfl⟩
set_option maxRecDepth 100000 in
set_option maxHeartbeats 800000 in
theorem plan2_any (x y : Int) (a1 a2 a3 a4 a5 a6 b1 b2 b3 b4 b5 b6 : Value) (w : World) : Calls Tryz.prog 31 #[.agg #[.int .i64 x, a1, a2, a3, a4, a5, a6], .agg #[.int .i64 y, b1, b2, b3, b4, b5, b6]] w fun e w' => e = .returned (.int .i64 (cmpI x y)) ∧ ∃ q os, w' = grow (w.drewN q) os := by
  go_enter Tryz.func31, Tryz.ntmps31
  go_wp2_with fail
  refine (compare_any x y _).mono ?_
  rintro e w1 ⟨rfl, h1⟩
  subst h1
  go_wp2_with fail
  go_ret
  refine ⟨rfl, 0, #[.cells #[.int .i64 x, a1, a2, a3, a4, a5, a6] 32, .cells #[.int .i64 y, b1, b2, b3, b4, b5, b6] 32], ?_⟩
  rw [alloc_eq_grow, alloc_eq_grow, grow_grow]
  rfl
end Go.Proofs.YtlgmbljfjfcpoaaGreat.Wk
