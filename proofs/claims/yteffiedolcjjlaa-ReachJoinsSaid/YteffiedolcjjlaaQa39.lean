/- Texts put together: YRcb, YRc6, YRc7. -/
import Derived.Test.YteffiedolcjjlaaQa15
import Derived.Test.YteffiedolcjjlaaQa38
/- slices.BinarySearch at texts that rise. -/
set_option linter.unusedVariables false
set_option linter.unusedSimpArgs false
namespace Go.Proofs.Yteffiedolcjjlaa.Tx
open Go.RowKit Go.Maps Go.Proofs.Yteffiedolcjjlaa.Sh

theorem isnan_any (x : ByteArray) (w : World) : Calls Try.prog 131 #[.string x] w fun e w' => e = .returned (.bool false) ∧ w = w' := by
  go_enter Try.func131, Try.ntmps131
  go_wp2
  go_ret
  exact ⟨by simp, rfl⟩
theorem isnan2_any (x : ByteArray) (w : World) : Calls Try.prog 107 #[.string x] w fun e w' => e = .returned (.bool false) ∧ w = w' := by
  go_enter Try.func107, Try.ntmps107
  go_wp2
  go_ret
  exact ⟨by simp, rfl⟩
theorem cless_any (x y : ByteArray) (w : World) : Calls Try.prog 106 #[.string x, .string y] w fun e w' => e = .returned (.bool (Op.bytesLess x.toList y.toList)) ∧ w = w' := by
  go_enter Try.func106, Try.ntmps106
  go_wp2_with (go_at_call 131; refine (isnan_any _ _).mono ?_; rintro e w' ⟨rfl, rfl⟩)
  go_ret
  exact ⟨rfl, rfl⟩
set_option maxRecDepth 100000 in
set_option maxHeartbeats 1600000 in
theorem bsearch_any (v : Value) (ys : List ByteArray) (x : ByteArray) (w : World) (h : SlV w v (ys.map sv)) (hs : Strict ys) (hl : ys.length ≤ 1000000) :
    Calls Try.prog 83 #[v, .string x] w fun e w' => ∃ i : Nat, e = .returned (.tuple #[.int .i64 (i : Int), .bool (hasT ys x)]) ∧ w = w' := by
  obtain ⟨A, c, rfl, hlc, hcm, hrd, _⟩ := h
  rw [List.length_map] at hlc hrd ⊢
  unfold maxLen at hcm
  have HR : Hid (∀ k (hk : k < ys.length), ∃ ad, A = some ad ∧ w.cell? (ad.add k) = some (.string ys[k])) := fun k hk => texts_at hrd k hk
  have HS : Hid (∀ i j (hi : i < ys.length) (hj : j < ys.length), i < j → bl ys[i].toList ys[j].toList = true) := fun i j hi hj hij => List.pairwise_iff_getElem.1 hs i j hi hj hij
  obtain ⟨n, hn⟩ : ∃ n, ys.length = n := ⟨_, rfl⟩
  obtain ⟨t, ht⟩ : ∃ t, hasT ys x = t := ⟨_, rfl⟩
  rw [ht]
  rw [hn] at hlc hl ⊢
  have HN := Lib.hid hn
  have HT := Lib.hid ht
  clear hrd hs hn ht
  go_enter Try.func83, Try.ntmps83
  go_wp2_with fail
  go_loopw [7, 8] (fun a b wr => ∃ lo hi : Nat, a = .int .i64 (lo : Int) ∧ b = .int .i64 (hi : Int) ∧ lo ≤ hi ∧ hi ≤ n ∧ wr = w ∧ (∀ k (hk : k < ys.length), k < lo → bl ys[k].toList x.toList = true) ∧ (∀ k (hk : k < ys.length), hi ≤ k → bl ys[k].toList x.toList = false)) (fun a b _ => (intOf b).toNat - (intOf a).toNat)
  case atStart => exact ⟨0, n, rfl, rfl, Nat.zero_le _, Nat.le_refl _, rfl, fun k hk h => absurd h (Nat.not_lt_zero _), fun k hk h => by have := HN.out; omega⟩
  case round =>
    obtain ⟨lo, hi, rfl, rfl, hlh, hin, rfl, h1, h2⟩ := hrel
    have H1 := Lib.hid h1
    have H2 := Lib.hid h2
    clear h1 h2
    have z0 : (0 : Int) ≤ (lo : Int) := by omega
    by_cases hlt : lo < hi
    · have z1 : (lo : Int) < (hi : Int) := by omega
      have hml : (lo + hi) / 2 < ys.length := by have := HN.out; omega
      obtain ⟨ad, rfl, x0⟩ := HR.out _ hml
      obtain ⟨m, hm⟩ : ∃ m, (lo + hi) / 2 = m := ⟨_, rfl⟩
      have hm1 : ((lo : Int) + (hi : Int)) / 2 = (m : Int) := by omega
      obtain ⟨y, hy⟩ : ∃ y, ys[(lo + hi) / 2] = y := ⟨_, rfl⟩
      rw [hy] at x0
      rw [hm] at x0
      have HY : Hid (∀ (hk : m < ys.length), ys[m] = y) := fun hk => by subst hm; exact hy
      have z2 : (0 : Int) ≤ (m : Int) := by omega
      have z3 : (m : Int) < (n : Int) := by omega
      have HMM : Hid (lo ≤ m ∧ m < hi) := ⟨by omega, by omega⟩
      have HML : Hid (m < ys.length) := by unfold Hid; omega
      clear hml hy hm
      cases hb : Op.bytesLess y.toList x.toList with
      | true =>
        have HB := Lib.hid hb
        clear hb
        go_wp2_with (go_at_call 106; refine (cless_any _ _ _).mono ?_; rw [HB.out]; rintro e w' ⟨rfl, rfl⟩)
        go_roundw
        case rel =>
          refine ⟨m + 1, hi, by go_num, rfl, HMM.out.2, hin, trivial, fun k hk hkm => ?_, H2.out⟩
          rcases Nat.lt_or_ge k m with h1 | h1
          · exact bl_trans _ _ _ (HS.out k m hk HML.out h1) (by rw [HY.out HML.out]; exact HB.out)
          · have : k = m := by omega
            subst this
            rw [HY.out hk]; exact HB.out
        case measure => simp [intOf]; have := HMM.out; omega
      | false =>
        have HB := Lib.hid hb
        clear hb
        go_wp2_with (go_at_call 106; refine (cless_any _ _ _).mono ?_; rw [HB.out]; rintro e w' ⟨rfl, rfl⟩)
        go_roundw
        case rel =>
          refine ⟨lo, m, rfl, by go_num, HMM.out.1, by have := HMM.out; omega, trivial, H1.out, fun k hk hkm => ?_⟩
          rcases Nat.lt_or_ge m k with h1 | h1
          · cases hc : bl ys[k].toList x.toList with
            | false => rfl
            | true =>
              have h2 := bl_trans _ _ _ (HS.out m k HML.out hk h1) hc
              rw [HY.out HML.out, show bl y.toList x.toList = false from HB.out] at h2
              cases h2
          · have : k = m := by omega
            subst this
            rw [HY.out hk]; exact HB.out
        case measure => simp [intOf]; have := HMM.out; omega
    · obtain rfl : lo = hi := by omega
      by_cases hln : lo < n
      · have z1 : (lo : Int) < (n : Int) := by omega
        have hll : lo < ys.length := by have := HN.out; omega
        obtain ⟨ad, rfl, x0⟩ := HR.out _ hll
        obtain ⟨y, hy⟩ : ∃ y, ys[lo] = y := ⟨_, rfl⟩
        rw [hy] at x0
        cases he : y.toList == x.toList with
        | true =>
          have HE : Hid (t = true) := by
            unfold Hid
            rw [← HT.out]
            have e : y = x := ba_ext (by simpa using he)
            exact hasT_yes (by rw [← e, ← hy]; exact List.getElem_mem _)
          clear hll hy
          go_wp2_with fail
          go_ret2
          rw [HE.out]
          exact ⟨lo, rfl, rfl⟩
        | false =>
          have HE : Hid (t = false) := by
            unfold Hid
            rw [← HT.out]
            refine hasT_no fun hm => ?_
            obtain ⟨k, hk, e⟩ := List.getElem_of_mem hm
            rcases Nat.lt_trichotomy k lo with h1 | h1 | h1
            · have := H1.out k hk h1
              rw [e, bl_irr] at this
              cases this
            · subst h1
              have e2 : y = x := hy.symm.trans e
              rw [e2, beq_self_eq_true] at he
              cases he
            · have h3 := HS.out lo k hll hk h1
              rw [e, H2.out lo hll (Nat.le_refl _)] at h3
              cases h3
          clear hll hy
          go_wp2_with (go_at_call 107; refine (isnan2_any _ _).mono ?_; rintro e w' ⟨rfl, rfl⟩)
          go_ret2
          rw [HE.out]
          exact ⟨lo, rfl, rfl⟩
      · obtain rfl : lo = n := by omega
        have HE : Hid (t = false) := by
          unfold Hid
          rw [← HT.out]
          refine hasT_no fun hm => ?_
          obtain ⟨k, hk, e⟩ := List.getElem_of_mem hm
          have := H1.out k hk (by have := HN.out; omega)
          rw [e, bl_irr] at this
          cases this
        go_wp2_with fail
        go_ret2
        rw [HE.out]
        exact ⟨lo, rfl, rfl⟩
end Go.Proofs.Yteffiedolcjjlaa.Tx
/- Package reach: Closure, Whole, Diff. -/
set_option linter.unusedVariables false
set_option linter.unusedSimpArgs false
namespace Go.Proofs.Yteffiedolcjjlaa.Ob
open Go.RowKit Go.Maps Go.Proofs.Yteffiedolcjjlaa.Sh
open Go.Proofs.Yteffiedolcjjlaa.Tx (OwnV SlV sv Only Rd reads_at hasT hasT_yes hasT_no hasT_iff own_only own_exact own_isMap own_within own_cells lawS key_ba isK NextOK hasT_snoc WK RB walk_any WalkPost sortT TextsPost Strict bsearch_any texts_at sort_strict')

theorem slv_rd {w : World} {v : Value} {vs : List Value} (h : SlV w v vs) : Rd (fun k => k < w.heap.size) w 1 v vs.length vs := by
  obtain ⟨A, c, hv, h1, h2, h3, h4⟩ := h
  refine ⟨A, c, hv, h1, h2, by simp, fun e => by rw [h4 e]; rfl, fun hn => ?_⟩
  obtain ⟨ad, e, hl, hc⟩ := h3.2 hn
  exact ⟨ad, e, hl, hl, hc⟩
theorem slv_rd' {w : World} {v : Value} {xs : List ByteArray} (h : SlV w v (xs.map sv)) : Rd (fun k => k < w.heap.size) w 1 v xs.length (xs.map sv) := by
  have := slv_rd h
  rwa [List.length_map] at this
def NewBk (p1 p2 p3 : Nat) (base : List UInt8 → Option (List UInt8)) (w : World) (e : Ending) (w' : World) : Prop :=
  ∃ b Z, e = .returned (.pointer (some ⟨b, 0, none⟩)) ∧ BkJ w p1 p2 p3 base b Z [] w' ∧ Below w.heap.size w w'
set_option maxRecDepth 100000 in
theorem newbk_any (p1 p2 p3 : Nat) (base : List UInt8 → Option (List UInt8)) (w : World) : Calls Try.prog 48 #[srcV p1 p2 p3] w (NewBk p1 p2 p3 base w) := by
  have hmm := @run_makeMap Try.prog
  show Calls Try.prog 48 #[.func (.func 46) #[] #[.pointer (some ⟨p1, 0, none⟩), .pointer (some ⟨p2, 0, none⟩), .pointer (some ⟨p3, 0, none⟩)]] w _
  go_enter Try.func48, Try.ntmps48
  go_wp2
  go_ret
  have b1 : Below w.heap.size w (w.alloc (.map #[] 0)) := (Below.refl _ _).alloc (Nat.le_refl _) _
  have z1 : (w.alloc (.map #[] 0)).heap.size = w.heap.size + 1 := by simp
  have k1 := Blk.new (w.alloc (.map #[] 0)) 113 #[srcV p1 p2 p3, .map (some w.heap.size)]
  have m1 : (w.alloc (.map #[] 0)).ownsMap Try.prog 9 hvR w.heap.size (Maps.size (.map [] : DataW Value)) (.map []) := World.ownsMap_made (H := Value) w Try.prog 9 hvR
  obtain ⟨w', hw'⟩ : ∃ w', w' = (w.alloc (.map #[] 0)).alloc (.cells #[srcV p1 p2 p3, .map (some w.heap.size)] 113) := ⟨_, rfl⟩
  have b2 : Below w.heap.size w w' := by rw [hw']; exact b1.alloc b1.size _
  have z2 : w'.heap.size = w.heap.size + 1 + 1 := by rw [hw']; simp
  have m2 : w'.ownsMap Try.prog 9 hvR w.heap.size (Maps.size (.map [] : DataW Value)) (.map []) := by rw [hw']; exact m1.alloc _
  rw [← hw', z1] at k1
  change NewBk p1 p2 p3 base w _ ((w.alloc (.map #[] 0)).alloc (.cells #[srcV p1 p2 p3, .map (some w.heap.size)] 113))
  rw [← hw']
  refine ⟨w.heap.size + 1, fun k => w.heap.size ≤ k ∧ k < w'.heap.size, rfl, ⟨fun _ => False, w.heap.size, ⟨k1, ⟨.map [], m2, PgOK.nil_⟩, fun k h => h.elim, ⟨by omega, by omega⟩, ⟨Nat.le_refl _, by omega⟩, fun k hk => hk, b2⟩⟩, b2⟩
/-- What Closure answers. -/
def CloR (base : List UInt8 → Option (List UInt8)) (ids : List ByteArray) (most : Int) (w : World) (e : Ending) (w' : World) : Prop :=
  (¬ (1 ≤ most ∧ most ≤ 2000) ∧ e = .returned (.tuple #[.slice none 0 0, .slice none 0 0, .int .i64 1]) ∧ Below w.heap.size w w') ∨
  ((1 ≤ most ∧ most ≤ 2000) ∧ ∃ xs k, WK (nxP base) ids xs k ∧ Below w.heap.size w w' ∧
    ((k = xs.length ∧ (xs.length : Int) ≤ most ∧ ∃ v1 v2, e = .returned (.tuple #[v1, v2, .int .i64 0]) ∧ OwnV 9 w' w.heap.size v1 ((sortT (xs.filter (isP base))).map sv) ∧ OwnV 9 w' w.heap.size v2 ((sortT (xs.filter (fun s => !isP base s))).map sv)) ∨
     (most < (xs.length : Int) ∧ e = .returned (.tuple #[.slice none 0 0, .slice none 0 0, .int .i64 14]))))
set_option maxRecDepth 100000 in
set_option maxHeartbeats 1600000 in
theorem closure_any {w : World} {p1 p2 p3 : Nat} {l : List (List UInt8)} {lie : Bool} {ids : List ByteArray} {vi : Value} (most : Int) (hs : SrcX w p1 p2 p3 l lie) (hl : l.length ≤ 1000000) (hsm : ∀ x ∈ l, x.length ≤ 1000000)
    (hv : SlV w vi (ids.map sv)) (hsz : ∀ s ∈ ids, s.size ≤ 1000000) (hil : ids.length ≤ 100000) :
    Calls Try.prog 11 #[srcV p1 p2 p3, vi, .int .i64 most] w (CloR (srcP l lie) ids most w) := by
  have HN := Lib.hid (newbk_any p1 p2 p3 (srcP l lie) w)
  have HC : Hid (∀ (b : Nat) (Z : Nat → Prop) (W : World), BkJ w p1 p2 p3 (srcP l lie) b Z [] W → Below w.heap.size w W → Calls Try.prog 49 #[.pointer (some ⟨b, 0, none⟩), vi, .int .i64 most] W (CloPost w p1 p2 p3 (srcP l lie) b Z [] ids most W)) := fun b Z W hj hb =>
    clo_any most hj hs hl hsm (by simp) ((slv_rd' hv).below hb) (fun k hk => Nat.lt_of_lt_of_le hk hb.size) hsz hil
  obtain ⟨sv0, hsv⟩ : ∃ v, v = srcV p1 p2 p3 := ⟨_, rfl⟩
  rw [← hsv] at HN ⊢
  clear hs hl hsm hv hsz hil hsv
  go_enter Try.func11, Try.ntmps11
  go_wp2_with fail
  refine HN.out.mono ?_
  rintro e w1 ⟨b, Z, rfl, hj, hb1⟩
  have HJ := Lib.hid hj
  have HB1 := Lib.hid hb1
  clear hj hb1
  go_wp2_with fail
  refine (HC.out b Z w1 HJ.out HB1.out).mono ?_
  rintro e w2 hpost
  rcases hpost with ⟨hm, rfl, rfl⟩ | ⟨hm, xs, k, Z', asked', hwk, hxs, hj2, _, hon, hz, ⟨hk, hle, v1, v2, rfl, ho1, ho2, _, _⟩ | ⟨hlt, rfl⟩⟩
  · have HM := Lib.hid hm
    clear hm
    go_wp2_with fail
    go_ret3
    exact .inl ⟨HM.out, rfl, HB1.out⟩
  · obtain ⟨F, bm, hbk⟩ := hj2
    have HF : Hid (CloR (srcP l lie) ids most w (.returned (.tuple #[v1, v2, .int .i64 0])) w2) := .inr ⟨hm, xs, k, hwk, hbk.old, .inl ⟨hk, hle, v1, v2, rfl, ho1.base HB1.out.size, ho2.base HB1.out.size⟩⟩
    clear hm hwk hxs hon hz hk hle ho1 ho2 hbk
    go_wp2_with fail
    go_ret3
    exact HF.out
  · obtain ⟨F, bm, hbk⟩ := hj2
    have HF : Hid (CloR (srcP l lie) ids most w (.returned (.tuple #[.slice none 0 0, .slice none 0 0, .int .i64 14])) w2) := .inr ⟨hm, xs, k, hwk, hbk.old, .inr ⟨hlt, rfl⟩⟩
    clear hm hwk hxs hon hz hlt hbk
    go_wp2_with fail
    go_ret3
    exact HF.out
end Go.Proofs.Yteffiedolcjjlaa.Ob
/- Package reach: Whole, without, Diff. -/
set_option linter.unusedVariables false
set_option linter.unusedSimpArgs false
namespace Go.Proofs.Yteffiedolcjjlaa.Ob
open Go.RowKit Go.Maps Go.Proofs.Yteffiedolcjjlaa.Sh
open Go.Proofs.Yteffiedolcjjlaa.Tx (OwnV SlV sv Only Rd reads_at hasT hasT_yes hasT_no hasT_iff own_only own_exact own_isMap own_within own_cells lawS key_ba isK NextOK hasT_snoc WK RB walk_any WalkPost sortT TextsPost Strict bsearch_any texts_at sort_strict')

theorem owned_slice {E : TypeId} {w : World} {B : Nat} {v : Value} {vs : List Value} (h : OwnV E w B v vs) : ∃ A c, v = .slice A vs.length c := by
  obtain ⟨A, c, e, _⟩ := h.length
  exact ⟨A, c, e⟩
def WholeR (base : List UInt8 → Option (List UInt8)) (ids : List ByteArray) (most : Int) (w : World) (e : Ending) (w' : World) : Prop :=
  ∃ t, e = .returned (.bool t) ∧ Below w.heap.size w w' ∧ ((¬ (1 ≤ most ∧ most ≤ 2000) ∧ t = false) ∨
    ((1 ≤ most ∧ most ≤ 2000) ∧ ∃ xs k, WK (nxP base) ids xs k ∧ ((k = xs.length ∧ (xs.length : Int) ≤ most ∧ t = decide ((xs.filter (fun s => !isP base s)).length = 0)) ∨ (most < (xs.length : Int) ∧ t = false))))
set_option maxRecDepth 100000 in
set_option maxHeartbeats 1600000 in
theorem whole_any {w : World} {p1 p2 p3 : Nat} {l : List (List UInt8)} {lie : Bool} {ids : List ByteArray} {vi : Value} (most : Int) (hs : SrcX w p1 p2 p3 l lie) (hl : l.length ≤ 1000000) (hsm : ∀ x ∈ l, x.length ≤ 1000000)
    (hv : SlV w vi (ids.map sv)) (hsz : ∀ s ∈ ids, s.size ≤ 1000000) (hil : ids.length ≤ 100000) :
    Calls Try.prog 18 #[srcV p1 p2 p3, vi, .int .i64 most] w (WholeR (srcP l lie) ids most w) := by
  have HC := Lib.hid (closure_any most hs hl hsm hv hsz hil)
  obtain ⟨sv0, hsv⟩ : ∃ v, v = srcV p1 p2 p3 := ⟨_, rfl⟩
  rw [← hsv] at HC ⊢
  clear hs hl hsm hv hsz hil hsv
  go_enter Try.func18, Try.ntmps18
  go_wp2_with fail
  refine HC.out.mono ?_
  rintro e w2 hpost
  rcases hpost with ⟨hm, rfl, hb⟩ | ⟨hm, xs, k, hwk, hb, ⟨hk, hle, v1, v2, rfl, ho1, ho2⟩ | ⟨hlt, rfl⟩⟩
  · have HM := Lib.hid hm
    have HB := Lib.hid hb
    clear hm hb
    go_wp2_with fail
    go_ret
    exact ⟨false, rfl, HB.out, .inl ⟨HM.out, rfl⟩⟩
  · obtain ⟨A, c, rfl⟩ := owned_slice ho2
    rw [List.length_map, Tx.sortT_length]
    obtain ⟨n, hn⟩ : ∃ n, (xs.filter (fun s => !isP (srcP l lie) s)).length = n := ⟨_, rfl⟩
    rw [hn]
    have HF : Hid (WholeR (srcP l lie) ids most w (.returned (.bool (decide (n = 0)))) w2) := ⟨_, rfl, hb, .inr ⟨hm, xs, k, hwk, .inl ⟨hk, hle, by rw [hn]⟩⟩⟩
    have hz : ((n : Int) == 0) = decide (n = 0) := by
      by_cases h : n = 0
      · subst h; rfl
      · rw [decide_eq_false h, beq_eq_false_iff_ne]; omega
    clear hm hwk hb hk hle ho1 ho2 hn
    go_wp2_with fail
    go_ret
    first
      | exact HF.out
      | (rw [hz]; exact HF.out)
  · have HF : Hid (WholeR (srcP l lie) ids most w (.returned (.bool false)) w2) := ⟨_, rfl, hb, .inr ⟨hm, xs, k, hwk, .inr ⟨hlt, rfl⟩⟩⟩
    clear hm hwk hb hlt
    go_wp2_with fail
    go_ret
    exact HF.out
def outT (xs ys : List ByteArray) : List ByteArray := xs.filter (fun s => !hasT ys s)
set_option maxRecDepth 100000 in
set_option maxHeartbeats 1600000 in
theorem without_any {w : World} {v1 v2 : Value} {xs ys : List ByteArray} (h1 : SlV w v1 (xs.map sv)) (h2 : SlV w v2 (ys.map sv)) (hs : Strict ys) (hx : xs.length ≤ 1000000) (hy : ys.length ≤ 1000000) :
    Calls Try.prog 56 #[v1, v2] w (TextsPost w (outT xs ys)) := by
  have HB : Hid (∀ (W : World) (s : ByteArray), Below w.heap.size w W → Calls Try.prog 83 #[v2, .string s] W fun e w' => ∃ i : Nat, e = .returned (.tuple #[.int .i64 (i : Int), .bool (hasT ys s)]) ∧ W = w') := fun W s hW => bsearch_any v2 ys s W (h2.below hW) hs hy
  obtain ⟨A, c, rfl, hlc, hcm, hrd, _⟩ := h1
  rw [List.length_map] at hlc hrd ⊢
  unfold maxLen at hcm
  have HR : Hid (∀ k (hk : k < xs.length), ∃ ad, A = some ad ∧ w.cell? (ad.add k) = some (.string xs[k])) := fun k hk => texts_at hrd k hk
  obtain ⟨n, hn⟩ : ∃ n, xs.length = n := ⟨_, rfl⟩
  rw [hn] at hlc hx ⊢
  have HN := Lib.hid hn
  clear h2 hs hy hrd hn
  go_enter Try.func56, Try.ntmps56
  go_wp2_with fail
  go_loopw [5, 12] (fun a x wr => ∃ i : Nat, i ≤ n ∧ x = .int .i64 (i : Int) ∧ OwnV 9 wr w.heap.size a ((outT (xs.take i) ys).map sv) ∧ Below w.heap.size w wr) (fun _ x _ => n - (intOf x).toNat)
  case atStart => exact ⟨0, Nat.zero_le _, rfl, OwnV.nil_ _ _, Below.refl _ _⟩
  case round =>
    obtain ⟨i, hi, rfl, ho, hb⟩ := hrel
    have HO := Lib.hid ho
    have HBW := Lib.hid hb
    obtain ⟨A1, c1, rfl⟩ := owned_slice ho
    clear ho hb
    have z0 : (0 : Int) ≤ (i : Int) := by omega
    by_cases hlt : i < n
    · have z1 : (i : Int) < (n : Int) := by omega
      have hix : i < xs.length := by have := HN.out; omega
      obtain ⟨ad, rfl, x0⟩ := HR.out i hix
      obtain ⟨s, hs⟩ : ∃ s, xs[i] = s := ⟨_, rfl⟩
      rw [hs] at x0
      have x1 : wr.cell? (ad.add i) = some (.string s) := (HBW.out.cell (World.block_lt_of_cell? w _ x0)).trans x0
      have hf := filter_snoc (fun s => !hasT ys s) (show xs[i]? = some s by rw [List.getElem?_eq_getElem hix, hs])
      have hol : (outT (xs.take i) ys).length + 1 ≤ 2000000 := by
        have h1 : (outT (xs.take i) ys).length ≤ (xs.take i).length := List.length_filter_le _ _
        rw [List.length_take] at h1
        omega
      have HOL := Lib.hid hol
      have HF : Hid (outT (xs.take (i + 1)) ys = outT (xs.take i) ys ++ (if !hasT ys s then [s] else [])) := hf
      obtain ⟨m1, hm1⟩ : ∃ m, ((outT (xs.take i) ys).map sv).length = m := ⟨_, rfl⟩
      rw [hm1] at HO ⊢
      obtain ⟨ts, hts⟩ : ∃ t, outT (xs.take i) ys = t := ⟨_, rfl⟩
      rw [hts] at HO HF HOL
      have HBS : Hid (w.heap.size ≤ wr.heap.size) := HBW.out.size
      clear hix hs hf hol hm1 hts x0
      cases ht : hasT ys s with
      | true =>
        have HT := Lib.hid ht
        clear ht
        go_wp2_with (go_at_call 83; refine (HB.out wr s HBW.out).mono ?_; rw [HT.out]; rintro e w' ⟨bi, rfl, rfl⟩)
        go_roundw
        case rel => exact ⟨i + 1, by omega, by go_num, by rw [HF.out, HT.out]; simpa using HO.out, HBW.out⟩
        case measure => simp [intOf]; omega
      | false =>
        have HT := Lib.hid ht
        clear ht
        go_wp2_with (first
          | (go_at_call 83; refine (HB.out wr s HBW.out).mono ?_; rw [HT.out]; rintro e w' ⟨bi, rfl, rfl⟩)
          | (at_builtin; refine Tx.append_text rfl (.tmp 24) (.tmp 26) rfl wr w.heap.size (.slice A1 m1 c1) ts rfl HO.out s rfl (by exact HOL.out) (by exact HBS.out) ?_; intro v3 w3 ho3 hb3; have HO3 := Lib.hid ho3; have HB3 := Lib.hid (HBW.out.trans hb3); clear ho3 hb3))
        go_roundw
        case rel => exact ⟨i + 1, by omega, by go_num, by rw [HF.out, HT.out]; simpa using HO3.out, HB3.out⟩
        case measure => simp [intOf]; omega
    · obtain rfl : i = n := by omega
      have hta : xs.take i = xs := List.take_of_length_le (by rw [HN.out]; exact Nat.le_refl _)
      obtain ⟨m1, hm1⟩ : ∃ m, ((outT (xs.take i) ys).map sv).length = m := ⟨_, rfl⟩
      rw [hm1] at HO ⊢
      clear hm1
      rw [hta] at HO
      clear hta
      go_wp2_with fail
      go_ret
      exact ⟨_, rfl, HO.out, HBW.out⟩
/-- What Diff answers. -/
def DiffR (base : List UInt8 → Option (List UInt8)) (as_ bs : List ByteArray) (most : Int) (w : World) (e : Ending) (w' : World) : Prop :=
  Below w.heap.size w w' ∧ ((¬ (1 ≤ most ∧ most ≤ 2000) ∧ e = .returned (.tuple #[.slice none 0 0, .int .i64 1])) ∨
  ((1 ≤ most ∧ most ≤ 2000) ∧ ∃ xs k, WK (nxP base) as_ xs k ∧ ((most < (xs.length : Int) ∧ e = .returned (.tuple #[.slice none 0 0, .int .i64 14])) ∨
    (k = xs.length ∧ (xs.length : Int) ≤ most ∧ ∃ ys j, WK (nxP base) bs ys j ∧ ((most < (ys.length : Int) ∧ e = .returned (.tuple #[.slice none 0 0, .int .i64 14])) ∨
      (j = ys.length ∧ (ys.length : Int) ≤ most ∧ ((0 < (xs.filter (fun s => !isP base s)).length ∧ e = .returned (.tuple #[.slice none 0 0, .int .i64 7])) ∨
        ((xs.filter (fun s => !isP base s)).length = 0 ∧ ∃ v, e = .returned (.tuple #[v, .int .i64 0]) ∧ OwnV 9 w' w.heap.size v ((outT (sortT (xs.filter (isP base))) (sortT (ys.filter (isP base)))).map sv)))))))))
set_option maxRecDepth 100000 in
set_option maxHeartbeats 1600000 in
theorem diff_any {w : World} {p1 p2 p3 : Nat} {l : List (List UInt8)} {lie : Bool} {as_ bs : List ByteArray} {va vb : Value} (most : Int) (hs : SrcX w p1 p2 p3 l lie) (hl : l.length ≤ 1000000) (hsm : ∀ x ∈ l, x.length ≤ 1000000)
    (ha : SlV w va (as_.map sv)) (hb : SlV w vb (bs.map sv)) (hsa : ∀ s ∈ as_, s.size ≤ 1000000) (hsb : ∀ s ∈ bs, s.size ≤ 1000000) (hla : as_.length ≤ 80000) (hlb : bs.length ≤ 80000) :
    Calls Try.prog 19 #[srcV p1 p2 p3, va, vb, .int .i64 most] w (DiffR (srcP l lie) as_ bs most w) := by
  have HN := Lib.hid (newbk_any p1 p2 p3 (srcP l lie) w)
  have HC1 : Hid (∀ (b : Nat) (Z : Nat → Prop) (W : World), BkJ w p1 p2 p3 (srcP l lie) b Z [] W → Below w.heap.size w W → Calls Try.prog 49 #[.pointer (some ⟨b, 0, none⟩), va, .int .i64 most] W (CloPost w p1 p2 p3 (srcP l lie) b Z [] as_ most W)) := fun b Z W hj hbW =>
    clo_any most hj hs hl hsm (by simp) ((slv_rd' ha).below hbW) (fun k hk => Nat.lt_of_lt_of_le hk hbW.size) hsa (by omega)
  have HC2 : Hid (∀ (b : Nat) (Z : Nat → Prop) (asked : List ByteArray) (W : World), BkJ w p1 p2 p3 (srcP l lie) b Z asked W → asked.length ≤ 90000 → Below w.heap.size w W → Calls Try.prog 49 #[.pointer (some ⟨b, 0, none⟩), vb, .int .i64 most] W (CloPost w p1 p2 p3 (srcP l lie) b Z asked bs most W)) := fun b Z asked W hj hal hbW =>
    clo_any most hj hs hl hsm hal ((slv_rd' hb).below hbW) (fun k hk => Nat.lt_of_lt_of_le hk hbW.size) hsb (by omega)
  obtain ⟨sv0, hsv⟩ : ∃ v, v = srcV p1 p2 p3 := ⟨_, rfl⟩
  rw [← hsv] at HN ⊢
  clear hs hl hsm ha hb hsa hsb hla hlb hsv
  go_enter Try.func19, Try.ntmps19
  go_wp2_with fail
  refine HN.out.mono ?_
  rintro e w1 ⟨b, Z, rfl, hj, hb1⟩
  have HJ := Lib.hid hj
  have HB1 := Lib.hid hb1
  clear hj hb1
  go_wp2_with fail
  refine (HC1.out b Z w1 HJ.out HB1.out).mono ?_
  rintro e w2 hpost
  rcases hpost with ⟨hm, rfl, rfl⟩ | ⟨hm, xs, k, Z', asked', hwk, hxs, hj2, hal, hon, hz, ⟨hk, hle, v1, v2, rfl, ho1, ho2, hz1, _⟩ | ⟨hlt, rfl⟩⟩
  · have HM := Lib.hid hm
    clear hm
    go_wp2_with fail
    go_ret2
    exact ⟨HB1.out, .inl ⟨HM.out, rfl⟩⟩
  · have hold : Below w.heap.size w w2 := by
      obtain ⟨F, bm, hbk⟩ := hj2
      exact hbk.old
    have hal2 : asked'.length ≤ 90000 := by simp at hal; omega
    have HJ2 := Lib.hid hj2
    have HAL := Lib.hid hal2
    have HB2 := Lib.hid hold
    have HM := Lib.hid hm
    have HWK := Lib.hid hwk
    have HK := Lib.hid hk
    have HLE := Lib.hid hle
    have HO1 := Lib.hid (ho1.base HB1.out.size)
    have HZ1 := Lib.hid hz1
    obtain ⟨A1, c1, rfl⟩ := owned_slice ho1
    obtain ⟨A2, c2, rfl⟩ := owned_slice ho2
    have hxl : xs.length ≤ 2000 := by omega
    have hfl1 : (xs.filter (isP (srcP l lie))).length ≤ 2000 := Nat.le_trans (List.length_filter_le _ _) hxl
    have HND : Hid (xs.Nodup) := hwk.nodup
    rw [List.length_map, Tx.sortT_length] at HO1 HZ1 ⊢
    rw [List.length_map, Tx.sortT_length]
    obtain ⟨n1, hn1⟩ : ∃ n, (xs.filter (isP (srcP l lie))).length = n := ⟨_, rfl⟩
    obtain ⟨n2, hn2⟩ : ∃ n, (xs.filter (fun s => !isP (srcP l lie) s)).length = n := ⟨_, rfl⟩
    rw [hn1] at HO1 HZ1 hfl1 ⊢
    rw [hn2]
    have HN1 := Lib.hid hn1
    have HN2 := Lib.hid hn2
    clear hm hwk hxs hon hz hk hle ho1 ho2 hz1 hj2 hal hal2 hold hn1 hn2 hxl
    go_wp2_with fail
    refine (HC2.out b Z' asked' w2 HJ2.out HAL.out HB2.out).mono ?_
    rintro e w3 hpost
    rcases hpost with ⟨hm, _, _⟩ | ⟨_, ys, j, Z3, asked3, hwk, _, hj3, _, hon3, hz3, ⟨hk, hle, v3, v4, rfl, ho3, ho4, _, _⟩ | ⟨hlt, rfl⟩⟩
    · exact absurd HM.out hm
    · have hold3 : Below w.heap.size w w3 := by
        obtain ⟨F, bm, hbk⟩ := hj3
        exact hbk.old
      have HB3 := Lib.hid hold3
      have HWK3 := Lib.hid hwk
      have HK3 := Lib.hid hk
      have HLE3 := Lib.hid hle
      obtain ⟨A3, c3, rfl⟩ := owned_slice ho3
      obtain ⟨A4, c4, rfl⟩ := owned_slice ho4
      have hyl : ys.length ≤ 2000 := by have := HM.out; omega
      have hfl3 : (ys.filter (isP (srcP l lie))).length ≤ 2000 := Nat.le_trans (List.length_filter_le _ _) hyl
      have hO1 : OwnV 9 w3 w.heap.size (.slice A1 n1 c1) ((sortT (xs.filter (isP (srcP l lie)))).map sv) := hon3.own HO1.out (fun k hk hz => HZ1.out k hk hz)
      have HWO := Lib.hid (without_any hO1.slv ho3.slv (sort_strict' (hwk.nodup.sublist List.filter_sublist)) (by rw [Tx.sortT_length, HN1.out]; omega) (by rw [Tx.sortT_length]; omega))
      rw [List.length_map, Tx.sortT_length] at HWO ⊢
      obtain ⟨n3, hn3⟩ : ∃ n, (ys.filter (isP (srcP l lie))).length = n := ⟨_, rfl⟩
      rw [hn3] at HWO ⊢
      clear hwk hj3 hon3 hz3 hk hle ho3 ho4 hold3 hyl hfl3 hO1 hn3
      by_cases h0 : 0 < n2
      · have h0' : (0 : Int) < (n2 : Int) := by omega
        have HF : Hid (DiffR (srcP l lie) as_ bs most w (.returned (.tuple #[.slice none 0 0, .int .i64 7])) w3) := ⟨HB3.out, .inr ⟨HM.out, xs, k, HWK.out, .inr ⟨HK.out, HLE.out, ys, j, HWK3.out, .inr ⟨HK3.out, HLE3.out, .inl ⟨by rw [HN2.out]; exact h0, rfl⟩⟩⟩⟩⟩
        clear h0
        go_wp2_with fail
        go_ret2
        exact HF.out
      · have h0' : (n2 : Int) ≤ 0 := by omega
        have HNZ : Hid (n2 = 0) := by unfold Hid; omega
        clear h0
        go_wp2_with fail
        refine HWO.out.mono ?_
        rintro e w4 ⟨v5, rfl, ho5, hb5⟩
        have HF : Hid (DiffR (srcP l lie) as_ bs most w (.returned (.tuple #[v5, .int .i64 0])) w4) := ⟨HB3.out.trans (hb5.mono HB3.out.size), .inr ⟨HM.out, xs, k, HWK.out, .inr ⟨HK.out, HLE.out, ys, j, HWK3.out, .inr ⟨HK3.out, HLE3.out, .inr ⟨by rw [HN2.out]; exact HNZ.out, v5, rfl, ho5.base HB3.out.size⟩⟩⟩⟩⟩
        clear ho5 hb5
        go_wp2_with fail
        go_ret2
        exact HF.out
    · have hold3 : Below w.heap.size w w3 := by
        obtain ⟨F, bm, hbk⟩ := hj3
        exact hbk.old
      have HF : Hid (DiffR (srcP l lie) as_ bs most w (.returned (.tuple #[.slice none 0 0, .int .i64 14])) w3) := ⟨hold3, .inr ⟨HM.out, xs, k, HWK.out, .inr ⟨HK.out, HLE.out, ys, j, hwk, .inl ⟨hlt, rfl⟩⟩⟩⟩
      clear hwk hj3 hon3 hz3 hlt hold3
      go_wp2_with fail
      go_ret2
      exact HF.out
  · have hold : Below w.heap.size w w2 := by
      obtain ⟨F, bm, hbk⟩ := hj2
      exact hbk.old
    have HF : Hid (DiffR (srcP l lie) as_ bs most w (.returned (.tuple #[.slice none 0 0, .int .i64 14])) w2) := ⟨hold, .inr ⟨hm, xs, k, hwk, .inl ⟨hlt, rfl⟩⟩⟩
    clear hm hwk hxs hj2 hal hon hz hlt hold
    go_wp2_with fail
    go_ret2
    exact HF.out
end Go.Proofs.Yteffiedolcjjlaa.Ob
