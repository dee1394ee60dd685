/- Texts put together: ZRf5. -/
import Derived.Test.YtlgmbljfjfcpoaaGreatQs37
/- Package refs: Delete, List, Unlock. -/
set_option linter.unusedVariables false
set_option linter.unusedSimpArgs false
namespace Go.Proofs.YtlgmbljfjfcpoaaGreat.Tx
open Go.RowKit Go.Maps Go.Proofs.YtlgmbljfjfcpoaaGreat.Sh

/-- strings.TrimPrefix of a directory and its sign. -/
theorem trim_any (dir p : List UInt8) (w : World) : Calls Tryz.prog 52 #[.string (Tx.str p), .string (Tx.str (dir ++ [47]))] w fun e w' => e = .returned (.string (Tx.str (lastN dir p))) ∧ w = w' := by
  refine (Tryz.strings_TrimPrefix (str p) (str (dir ++ [47])) w).mono ?_
  rintro e w' ⟨rfl, rfl⟩
  refine ⟨?_, rfl⟩
  have e1 : ∀ x : List UInt8, (str x).data.toList = x := fun x => by unfold str; simp
  rw [e1, e1]
  unfold lastN Lib.trimPrefix Lib.hasPrefix str
  rw [List.length_append]
  rfl
theorem lis_short {c : CSt} {N : Nat} (h : CReady c N) (dir : List UInt8) : (lisO c dir).length ≤ 900000 ∧ ∀ p ∈ lisO c dir, p.length ≤ 1000 := by
  have hs := h.small
  unfold lisO
  split
  · unfold listC
    refine ⟨?_, fun p hp => ?_⟩
    · refine Nat.le_trans (List.length_filter_le _ _) ?_
      unfold pathsM
      rw [List.length_map]
      exact hs.here
    · have hp := (List.mem_filter.1 hp).1
      unfold pathsM at hp
      obtain ⟨r, hr, rfl⟩ := List.mem_map.1 hp
      exact (hs.hrow r hr).1
  · exact ⟨by decide, fun p hp => by cases hp⟩
theorem last_le (dir p : List UInt8) : (lastN dir p).length ≤ p.length := by
  unfold lastN
  split
  · rw [List.length_drop]; omega
  · exact Nat.le_refl _
theorem nms_next {dir q : List UInt8} {l : List (List UInt8)} {k : Nat} (h : l[k]? = some q) : nmsL dir (l.take (k + 1)) = nmsL dir (l.take k) ++ if nameB (lastN dir q) = true then [lastN dir q] else [] := by
  unfold nmsL
  rw [List.take_add_one, h, List.map_append, List.filter_append]
  congr 1
  show List.filter nameB [lastN dir q] = _
  rw [List.filter_cons]
  rfl
theorem nms_len (dir : List UInt8) (l : List (List UInt8)) : (nmsL dir l).length ≤ l.length := by
  unfold nmsL
  refine Nat.le_trans (List.length_filter_le _ _) ?_
  rw [List.length_map]
  exact Nat.le_refl _
set_option maxRecDepth 100000 in
set_option maxHeartbeats 3200000 in
theorem namesin_any (F M : Nat → Prop) (b : Nat) (c : CSt) (i : Nat) (dir : List UInt8) (w : World) (h : FcAt F w b c M) (hg : GoC c i) (hi : i ≤ 3900) (hdl : dir.length ≤ 1000) :
    Calls Tryz.prog 49 #[.pointer (some ⟨b, 0, none⟩), .string (Tx.str dir)] w (LisPost F M w b (bgC c).c (lisE c dir) (rlsV c dir)) := by
  have H := Lib.hid h
  have HG := Lib.hid hg
  obtain ⟨re, hre⟩ : ∃ k, lisE c dir = k := ⟨_, rfl⟩
  have HRE := Lib.hid hre
  clear h hg hre
  go_enter Tryz.func49, Tryz.ntmps49
  go_wp2_with fail
  refine (list_any F M b c _ dir w H.out (HG.out.ready (by omega)) (by omega)).mono ?_
  rintro e w2 ⟨v, w1, rfl, hp, hb, ho⟩
  rw [HRE.out]
  have HP := Lib.hid hp
  have HB := Lib.hid hb
  clear hp hb
  by_cases h0 : re = 0
  · subst h0
    obtain ⟨L, hL⟩ : ∃ l, lisO c dir = l := ⟨_, rfl⟩
    have HE : Hid (rlsV c dir = nmsL dir L) := by unfold Hid rlsV; rw [HRE.out, if_pos rfl, hL]
    obtain ⟨hll, hlp⟩ := lis_short (HG.out.ready (by omega)) dir
    rw [hL] at hll hlp ho
    have HLP := Lib.hid hlp
    obtain ⟨pA, pc, rfl, pl1, pl2⟩ := ho.length
    simp only [List.length_map] at pl1 ho ⊢
    obtain ⟨m, hm⟩ : ∃ m, L.length = m := ⟨_, rfl⟩
    rw [hm] at pl1 hll ho ⊢
    have HO1 := Lib.hid ho
    have HMM := Lib.hid hm
    have z4 := str_size dir
    obtain ⟨ld, hld⟩ : ∃ ld, dir.length = ld := ⟨_, rfl⟩
    rw [hld] at z4 hdl
    have z5 := cat_sign dir
    clear hL hm hlp ho hld
    go_wp2_with fail
    go_loopw [8, 23] (fun v i wr => ∃ k : Nat, k ≤ m ∧ i = .int .i64 k ∧ OwnV 9 wr w2.heap.size v (((nmsL dir (L.take k)).map str).map sv) ∧ RowKit.Below w2.heap.size w2 wr) (fun _ i _ => m - (intOf i).toNat)
    case atStart => exact ⟨0, by omega, rfl, OwnV.nil_ _ _, Below.refl _ _⟩
    case round =>
      obtain ⟨k, hk, rfl, hof, hbe⟩ := hrel
      have k0 : (0 : Int) ≤ (k : Int) := by omega
      have HBE := Lib.hid hbe
      have HO := Lib.hid hof
      have hwz := hbe.size
      by_cases hlt : k < m
      · have k1 : (k : Int) < (m : Int) := by omega
        have k2 : (k : Int) ≤ (m : Int) := by omega
        have hkm : k < L.length := by rw [HMM.out]; exact hlt
        obtain ⟨q, hq⟩ : ∃ q, L[k] = q := ⟨_, rfl⟩
        have hqk : L[k]? = some q := by rw [List.getElem?_eq_getElem hkm, hq]
        have hql : q.length ≤ 1000 := HLP.out q (List.mem_of_getElem? hqk)
        have hov := HO1.out.below hbe
        obtain ⟨A', c', he, _, _, hrd⟩ := hov.slv.len
        injection he with he1 he2 he3
        subst he1
        clear he2 he3
        simp only [List.length_map] at hrd
        have hkm' : k < (L.map str).length := by rw [List.length_map]; exact hkm
        have hta := texts_at (xs := L.map str) (by simpa using hrd) k hkm'
        obtain ⟨ad, rfl, hcell⟩ := hta
        have hcell2 : wr.cell? (ad.add k) = some (.string (str q)) := by rw [hcell]; simp [hq]
        have HNX := Lib.hid (nms_next (dir := dir) hqk)
        have hsm : ((nmsL dir (L.take k)).map str).length + 1 ≤ 2000000 := by
          rw [List.length_map]
          have h1 := nms_len dir (L.take k)
          rw [List.length_take] at h1
          omega
        have hlq : (lastN dir q).length ≤ 1000 := Nat.le_trans (last_le _ _) hql
        obtain ⟨z, hz⟩ : ∃ z, lastN dir q = z := ⟨_, rfl⟩
        rw [hz] at HNX hlq
        have HZ := Lib.hid hz
        clear hov hrd hkm' hcell hq hqk hkm hof hbe hz
        obtain ⟨t, ht⟩ : ∃ t, nameB z = t := ⟨_, rfl⟩
        have HT := Lib.hid ht
        clear ht
        go_wp2_with fail
        refine (trim_any dir q wr).mono ?_
        rintro e w3 ⟨rfl, rfl⟩
        rw [HZ.out]
        go_wp2_with fail
        refine (cname_any z wr (by omega)).mono ?_
        rintro e w3 ⟨rfl, rfl⟩
        rw [HT.out]
        cases t with
        | false =>
          have HN : Hid (nmsL dir (L.take (k + 1)) = nmsL dir (L.take k)) := by have h := HNX.out; rw [if_neg (by rw [HT.out]; decide), List.append_nil] at h; exact h
          go_wp2_with fail
          go_roundw
          case rel => exact ⟨k + 1, by omega, by go_num, by rw [HN.out]; exact HO.out, HBE.out⟩
          case measure => simp [intOf]; omega
        | true =>
          have HN : Hid (nmsL dir (L.take (k + 1)) = nmsL dir (L.take k) ++ [z]) := by have h := HNX.out; rw [if_pos HT.out] at h; exact h
          go_wp2_with (at_builtin; refine append_text rfl (.tmp 33) (.tmp 35) rfl wr w2.heap.size u8 ((nmsL dir (L.take k)).map str) rfl HO.out (str z) rfl hsm hwz ?_; intro v3 w3 ho3 hb3; have HO3 := Lib.hid ho3; have HB3 := Lib.hid hb3; clear ho3 hb3)
          go_roundw
          case rel =>
            refine ⟨k + 1, by omega, by go_num, ?_, HBE.out.trans (HB3.out.mono (Nat.le_refl _))⟩
            rw [HN.out]
            simpa using HO3.out
          case measure => simp [intOf]; omega
      · obtain rfl : k = m := by omega
        have hfin : OwnV 9 wr w2.heap.size u8 (((nmsL dir L).map str).map sv) := by
          have := HO.out
          rw [List.take_of_length_le (Nat.le_of_eq HMM.out)] at this
          exact this
        have HFIN := Lib.hid hfin
        clear hfin
        go_wp2_with fail
        go_ret2
        exact ⟨_, w1, by rw [HRE.out]; rfl, HP.out, HB.out.trans (HBE.out.mono HB.out.size), by rw [HE.out]; exact HFIN.out.base HB.out.size⟩
  · have HE : Hid (rlsV c dir = []) := by unfold Hid rlsV; rw [HRE.out, if_neg h0]
    have y0 : (re != 0) = true := by simpa using h0
    have y1 : (re == 0) = false := by rw [beq_eq_false_iff_ne]; exact h0
    clear h0 ho
    go_wp2_with fail
    go_ret2
    exact ⟨_, w1, by rw [HRE.out]; rfl, HP.out, HB.out, by rw [HE.out]; exact OwnV.nil_ _ _⟩
/-- "s/r", "s/l". -/
def refD : List UInt8 := [115, 47, 114]
def lockD : List UInt8 := [115, 47, 108]
def ulkE (c : CSt) : Int := if lisE c lockD = 0 then unlE (bgC c).c (rlsV c lockD) else lisE c lockD
def ulkC (c : CSt) : CSt := if lisE c lockD = 0 then unlC (bgC c).c (rlsV c lockD) else (bgC c).c
def ulkN (c : CSt) : Int := if ulkE c = 0 then ((rlsV c lockD).length : Int) else 0
theorem FcAt.grown {F M M1 M2 : Nat → Prop} {w w1 w2 : World} {b : Nat} {c2 : CSt} (h01 : Only M w w1) (hM : ∀ k, M1 k → M k ∨ w.heap.size ≤ k) (h : FcAt (grow (grow F w w1 M1) w1 w2 M2) w2 b c2 M2) (h3 : Only M1 w1 w2) (h4 : ∀ k, M2 k → M1 k ∨ w1.heap.size ≤ k) : FcAt (grow F w w2 M2) w2 b c2 M2 := by
  obtain ⟨x, h1, h2⟩ := h
  refine ⟨x, h1.mono (F' := grow F w w2 M2) (fun k hk => grow_grow h3.size h01.size h4 hk) (fun k hk hm => ?_) (fun k hk => ?_), h2⟩
  · rcases hk with hk | ⟨_, _, g3⟩
    · exact h1.self k (.inl (.inl hk)) hm
    · exact g3 ((h2 k).2 hm)
  · rcases hk with hk | ⟨_, g2, _⟩
    · exact h1.low k (.inl (.inl hk))
    · exact g2
/-- While locks go: what was read stays. -/
def UInv (F M M1 : Nat → Prop) (w w2 : World) (b : Nat) (c : CSt) (wr : World) : Prop :=
  ∃ Mk, FcAt (grow F w wr Mk) wr b c Mk ∧ Only M w wr ∧ (∀ q, Mk q → M q ∨ w.heap.size ≤ q) ∧ Only M1 w2 wr ∧ ∀ q, Mk q → M1 q ∨ w2.heap.size ≤ q
theorem UInv.start {F M M1 : Nat → Prop} {w w1 w2 : World} {b : Nat} {c : CSt} (h : FcAt (grow F w w1 M1) w1 b c M1) (ho : Only M w w1) (hs : ∀ q, M1 q → M q ∨ w.heap.size ≤ q) (hb : Below w1.heap.size w1 w2) : UInv F M M1 w w2 b c w2 := by
  have hz := hb.size
  obtain ⟨x, h1, h2⟩ := h.below hb
  refine ⟨M1, ⟨x, h1.mono (F' := grow F w w2 M1) (fun k hk => ?_) (fun k hk hm => ?_) (fun k hk => ?_), h2⟩, ho.trans (Only.of_below (M := fun _ => False) hb) (fun _ hk => hk.elim), hs, Only.refl _ _, fun q hq => .inl hq⟩
  · rcases hk with hk | ⟨g1, g2, g3⟩
    · exact .inl hk
    · exact .inr ⟨g1, by omega, g3⟩
  · rcases hk with hk | ⟨_, _, g3⟩
    · exact h1.self k (.inl hk) hm
    · exact g3 ((h2 k).2 hm)
  · rcases hk with hk | ⟨_, g2, _⟩
    · exact h1.low k (.inl hk)
    · exact g2
theorem UInv.step {F M M1 Mk : Nat → Prop} {w w2 wr wn : World} {b : Nat} {c' : CSt} (g2 : Only M w wr) (g3 : ∀ q, Mk q → M q ∨ w.heap.size ≤ q) (g4 : Only M1 w2 wr) (g5 : ∀ q, Mk q → M1 q ∨ w2.heap.size ≤ q) (hp : FcPost (grow F w wr Mk) Mk wr b c' wn) : UInv F M M1 w w2 b c' wn := by
  obtain ⟨Mn, h1, h2, h3⟩ := hp
  have hz := g2.size
  have hz2 := g4.size
  refine ⟨Mn, FcAt.grown g2 g3 h1 h2 h3, g2.trans h2 g3, fun q hq => ?_, g4.trans h2 g5, fun q hq => ?_⟩
  · rcases h3 q hq with h | h
    · exact g3 q h
    · right; omega
  · rcases h3 q hq with h | h
    · exact g5 q h
    · right; omega
theorem UInv.post {F M M1 : Nat → Prop} {w w2 wr : World} {b : Nat} {c : CSt} (h : UInv F M M1 w w2 b c wr) : FcPost F M w b c wr := by
  obtain ⟨Mk, h1, h2, h3, _⟩ := h
  exact ⟨Mk, h1, h2, h3⟩
theorem unl_drop {c : CSt} {l : List (List UInt8)} {k : Nat} {n : List UInt8} (h : l[k]? = some n) : unlE c (l.drop k) = (if remE c (lockP n) = 0 then unlE (remC c (lockP n)) (l.drop (k + 1)) else remE c (lockP n)) ∧ unlC c (l.drop k) = (if remE c (lockP n) = 0 then unlC (remC c (lockP n)) (l.drop (k + 1)) else remC c (lockP n)) := by
  obtain ⟨hk, rfl⟩ := List.getElem?_eq_some_iff.1 h
  rw [List.drop_eq_getElem_cons hk]
  exact ⟨rfl, rfl⟩
set_option maxRecDepth 100000 in
set_option maxHeartbeats 3200000 in
theorem unlock_any (F M : Nat → Prop) (b : Nat) (c : CSt) (i : Nat) (w : World) (h : FcAt F w b c M) (hg : GoC c i) (hi : i + (rlsV c lockD).length ≤ 3800) (hlen : ∀ n ∈ rlsV c lockD, n.length ≤ 900000) :
    Calls Tryz.prog 23 #[.pointer (some ⟨b, 0, none⟩)] w fun e w' => e = .returned (.tuple #[.int .i64 (ulkN c), .int .i64 (ulkE c)]) ∧ FcPost F M w b (ulkC c) w' := by
  have H := Lib.hid h
  have HG := Lib.hid hg
  have HG1 := Lib.hid hg.bg
  obtain ⟨re, hre⟩ : ∃ k, lisE c lockD = k := ⟨_, rfl⟩
  have HRE := Lib.hid hre
  obtain ⟨L, hL⟩ : ∃ k, rlsV c lockD = k := ⟨_, rfl⟩
  have HL := Lib.hid hL
  obtain ⟨c1, hc1⟩ : ∃ x, (bgC c).c = x := ⟨_, rfl⟩
  have HC1 := Lib.hid hc1
  rw [hc1] at HG1
  rw [hL] at hi hlen
  have HLEN := Lib.hid hlen
  obtain ⟨m, hm⟩ : ∃ m, L.length = m := ⟨_, rfl⟩
  rw [hm] at hi
  have HMM := Lib.hid hm
  clear h hg hre hL hc1 hlen hm
  go_enter Tryz.func23, Tryz.ntmps23
  go_wp2_with fail
  refine (namesin_any F M b c i lockD w H.out HG.out (by omega) (by decide)).mono ?_
  rintro e w2 ⟨v, w1, rfl, hp, hb, ho⟩
  rw [HRE.out]
  rw [HC1.out] at hp
  rw [HL.out] at ho
  have HP := Lib.hid (hp.then_below hb)
  by_cases h0 : re = 0
  · subst h0
    obtain ⟨M1, g1, g2, g3⟩ := hp
    have HLT := Lib.hid g1.lt
    have HST := Lib.hid (UInv.start g1 g2 g3 hb)
    obtain ⟨pA, pc, rfl, pl1, pl2⟩ := ho.length
    simp only [List.length_map] at pl1 ho ⊢
    rw [HMM.out] at pl1 ho ⊢
    have HO := Lib.hid ho
    have HE : Hid (ulkE c = unlE c1 L ∧ ulkC c = unlC c1 L) := ⟨by unfold ulkE; rw [if_pos HRE.out, HC1.out, HL.out], by unfold ulkC; rw [if_pos HRE.out, HC1.out, HL.out]⟩
    clear ho g1 g2 g3 hb
    go_wp2_with fail
    go_loopw [19] (fun i' wr => ∃ (k : Nat) (ck : CSt), k ≤ m ∧ i' = .int .i64 k ∧ UInv F M M1 w w2 b ck wr ∧ GoC ck (i + 1 + k) ∧ unlE c1 L = unlE ck (L.drop k) ∧ unlC c1 L = unlC ck (L.drop k)) (fun i' _ => m - (intOf i').toNat)
    case atStart => exact ⟨0, c1, by omega, rfl, HST.out, HG1.out, rfl, rfl⟩
    case round =>
      obtain ⟨k, ck, hk, rfl, hu, hgk, hek, hck⟩ := hrel
      have k0 : (0 : Int) ≤ (k : Int) := by omega
      have HU := Lib.hid hu
      have HGK := Lib.hid hgk
      have HEK := Lib.hid hek
      have HCK := Lib.hid hck
      clear hu hgk hek hck
      by_cases hlt : k < m
      · have k1 : (k : Int) < (m : Int) := by omega
        have k2 : (k : Int) ≤ (m : Int) := by omega
        have hkm : k < L.length := by rw [HMM.out]; exact hlt
        obtain ⟨q, hq⟩ : ∃ q, L[k] = q := ⟨_, rfl⟩
        have hqk : L[k]? = some q := by rw [List.getElem?_eq_getElem hkm, hq]
        have hql : q.length ≤ 900000 := HLEN.out q (List.mem_of_getElem? hqk)
        have HDR := Lib.hid (unl_drop (c := ck) hqk)
        obtain ⟨Mk, a1, a2, a3, a4, a5⟩ := HU.out
        have hcell2 : ∃ g, pA = some ⟨g, 0, none⟩ ∧ wr.cell? ⟨g, k, none⟩ = some (.string (str q)) := by
          rcases HO.out.blk with ⟨_, he⟩ | ⟨g, c', cur, he, hBg, hgl, hgb, _⟩
          · have h1 := congrArg List.length he
            simp only [List.length_map, List.length_nil] at h1
            omega
          · injection he with he1 _ _
            obtain ⟨A', c', he, _, _, hrd⟩ := HO.out.slv.len
            injection he with he2 _ _
            subst he2
            simp only [List.length_map] at hrd
            have hkm' : k < (L.map str).length := by rw [List.length_map]; exact hkm
            obtain ⟨ad, e1, hc⟩ := texts_at (xs := L.map str) (by simpa using hrd) k hkm'
            rw [he1] at e1
            injection e1 with e1
            subst e1
            refine ⟨g, he1, ?_⟩
            rw [Addr.add_mid, Nat.zero_add] at hc
            rw [a4.cell hgl (fun hm => by have := HLT.out g hm; omega), hc]
            simp [hq]
        obtain ⟨g, rfl, hcell⟩ := hcell2
        obtain ⟨er, her⟩ : ∃ x, remE ck (lockP q) = x := ⟨_, rfl⟩
        have HER := Lib.hid her
        obtain ⟨cn, hcn⟩ : ∃ x, remC ck (lockP q) = x := ⟨_, rfl⟩
        have HCN := Lib.hid hcn
        have HGN : Hid (GoC cn (i + 1 + k + 1)) := by rw [← hcn]; exact HGK.out.rem _
        have HA1 := Lib.hid a1
        have HST' : Hid (∀ w', FcPost (grow F w wr Mk) Mk wr b cn w' → UInv F M M1 w w2 b cn w') := fun w' h => UInv.step a2 a3 a4 a5 h
        have HLQ : Hid ((lockP q).length ≤ 1000000) := by unfold Hid; rw [lockP_len]; omega
        clear a1 a2 a3 a4 a5 hq hqk hkm her hcn
        go_wp2_with fail
        refine (lock_any q wr hql).mono ?_
        rintro e w4 ⟨rfl, rfl⟩
        go_wp2_with fail
        refine (removef_any _ Mk b ck _ (lockP q) wr HA1.out (HGK.out.ready (by omega)) HLQ.out).mono ?_
        rintro e w4 ⟨rfl, hp4⟩
        rw [HCN.out] at hp4
        rw [HER.out]
        have HU4 := Lib.hid (HST'.out _ hp4)
        clear hp4
        by_cases hr0 : er = 0
        · subst hr0
          have HN : Hid (unlE c1 L = unlE cn (L.drop (k + 1)) ∧ unlC c1 L = unlC cn (L.drop (k + 1))) := by
            have h1 := HDR.out
            rw [if_pos HER.out, if_pos HER.out, HCN.out] at h1
            exact ⟨HEK.out.trans h1.1, HCK.out.trans h1.2⟩
          go_wp2_with fail
          go_roundw
          case rel => exact ⟨k + 1, cn, by omega, by go_num, HU4.out, HGN.out, HN.out.1, HN.out.2⟩
          case measure => simp [intOf]; omega
        · have HN : Hid (ulkE c = er ∧ ulkC c = cn ∧ ulkN c = 0) := by
            have h1 := HDR.out
            rw [HER.out, if_neg hr0, if_neg hr0, HCN.out] at h1
            have h2 : ulkE c = er := HE.out.1.trans (HEK.out.trans h1.1)
            exact ⟨h2, HE.out.2.trans (HCK.out.trans h1.2), by unfold ulkN; rw [h2, if_neg hr0]⟩
          have y0 : (er != 0) = true := by simpa using hr0
          have y1 : (er == 0) = false := by rw [beq_eq_false_iff_ne]; exact hr0
          clear hr0
          go_wp2_with fail
          go_ret2
          exact ⟨by rw [HN.out.1, HN.out.2.2]; rfl, by rw [HN.out.2.1]; exact HU4.out.post⟩
      · obtain rfl : k = m := by omega
        have HN : Hid (ulkE c = 0 ∧ ulkC c = ck ∧ ulkN c = (k : Int)) := by
          have h1 : L.drop k = [] := by rw [List.drop_of_length_le (Nat.le_of_eq HMM.out)]
          have h2 : ulkE c = 0 := by rw [HE.out.1, HEK.out, h1]; rfl
          exact ⟨h2, by rw [HE.out.2, HCK.out, h1]; rfl, by unfold ulkN; rw [h2, if_pos rfl, HL.out, HMM.out]⟩
        go_wp2_with fail
        go_ret2
        exact ⟨by rw [HN.out.1, HN.out.2.2]; rfl, by rw [HN.out.2.1]; exact HU.out.post⟩
  · have HE : Hid (ulkE c = re ∧ ulkC c = c1 ∧ ulkN c = 0) := by
      have h1 : ulkE c = re := by unfold ulkE; rw [HRE.out, if_neg h0]
      exact ⟨h1, by unfold ulkC; rw [HRE.out, if_neg h0, HC1.out], by unfold ulkN; rw [h1, if_neg h0]⟩
    have y0 : (re != 0) = true := by simpa using h0
    have y1 : (re == 0) = false := by rw [beq_eq_false_iff_ne]; exact h0
    clear h0 ho hp hb
    go_wp2_with fail
    go_ret2
    exact ⟨by rw [HE.out.1, HE.out.2.2]; rfl, by rw [HE.out.2.1]; exact HP.out⟩
end Go.Proofs.YtlgmbljfjfcpoaaGreat.Tx
