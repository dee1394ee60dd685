/- The reference's pattern, Pattern. -/
import Derived.Test.YtpbmdeohccdiaaaTn7
namespace Go.Proofs.Ytpbmdeohccdiaaa.Tx
open Go.RowKit Go.Proofs.Ytpbmdeohccdiaaa.Sh

def patDir (p : List UInt8) : Bool := p.getLast? == some 47
def patCore (p : List UInt8) : List UInt8 := if patDir p = true then p.take (p.length - 1) else p
/-- A pattern's parts: ahead of its star, has it one, behind it, is it of directories. -/
def patL (p : List UInt8) : Option (List UInt8 × Bool × List UInt8 × Bool) :=
  if nameB (patCore p) = true then
    match splitL 42 (patCore p) with
    | [_] => some (patCore p, false, [], patDir p)
    | [a, b] => if a.isEmpty = b.isEmpty then none else some (a, true, b, patDir p)
    | _ => none
  else none
def patV : Option (List UInt8 × Bool × List UInt8 × Bool) → Value
  | none => .tuple #[.string ⟨#[]⟩, .bool false, .string ⟨#[]⟩, .bool false, .bool false]
  | some (a, s, b, d) => .tuple #[.string (str a), .bool s, .string (str b), .bool d, .bool true]
def PatPost (w : World) (p : List UInt8) (e : Ending) (w' : World) : Prop := e = .returned (patV (patL p)) ∧ Below w.heap.size w w'
theorem bi42 : bi 42 = 42 := by unfold bi; rfl
theorem sign42 (cs : List UInt8) (w : World) (hn : cs.length ≤ 1000000) : Calls Try.prog 32 #[.string (str cs), .int .u8 42] w (TextsPost w ((splitL 42 cs).map str)) := by
  have h := rsplit_any cs 42 w hn
  rw [bi42] at h
  exact h
theorem patL_no {p : List UInt8} (h : nameB (patCore p) = false) : patL p = none := by unfold patL; rw [if_neg (by rw [h]; decide)]
theorem patL_one {p q y : List UInt8} (hc : patCore p = q) (hn : nameB q = true) (hs : splitL 42 q = [y]) : patL p = some (q, false, [], patDir p) := by
  unfold patL; rw [hc, if_pos hn, hs]
theorem patL_two {p q a b : List UInt8} (hc : patCore p = q) (hn : nameB q = true) (hs : splitL 42 q = [a, b]) : patL p = if a.isEmpty = b.isEmpty then none else some (a, true, b, patDir p) := by
  unfold patL; rw [hc, if_pos hn, hs]
theorem patL_ahead {p q b : List UInt8} (hc : patCore p = q) (hn : nameB q = true) (hs : splitL 42 q = [[], b]) (hb : 0 < b.length) : patL p = some ([], true, b, patDir p) := by
  rw [patL_two hc hn hs, if_neg]
  cases b with
  | nil => simp at hb
  | cons y r => simp
theorem patL_behind {p q a : List UInt8} (hc : patCore p = q) (hn : nameB q = true) (hs : splitL 42 q = [a, []]) (ha : 0 < a.length) : patL p = some (a, true, [], patDir p) := by
  rw [patL_two hc hn hs, if_neg]
  cases a with
  | nil => simp at ha
  | cons y r => simp
theorem patL_both {p q a b : List UInt8} (hc : patCore p = q) (hn : nameB q = true) (hs : splitL 42 q = [a, b]) (ha : 0 < a.length) (hb : 0 < b.length) : patL p = none := by
  rw [patL_two hc hn hs, if_pos]
  cases a with
  | nil => simp at ha
  | cons y r =>
    cases b with
    | nil => simp at hb
    | cons z t => rfl
theorem patL_many {p q : List UInt8} (hc : patCore p = q) (hn : nameB q = true) (hs : 2 < (splitL 42 q).length) : patL p = none := by
  unfold patL
  rw [hc, if_pos hn]
  split
  · rename_i h; rw [h] at hs; simp at hs
  · rename_i h; rw [h] at hs; simp at hs
  · rfl
theorem text_there {b : List UInt8} (h : 0 < b.length) : (str b).toList.isEmpty = false ∧ ((str b).toList == []) = false := by
  rw [str_toList]
  cases b with
  | nil => simp at h
  | cons c r => exact ⟨rfl, rfl⟩
theorem empty_ahead (x : ByteArray) : (⟨#[]⟩ : ByteArray) ++ x = x := by
  apply ByteArray.ext
  rw [ByteArray.data_append]
  simp
theorem empty_behind (x : ByteArray) : x ++ (⟨#[]⟩ : ByteArray) = x := by
  apply ByteArray.ext
  rw [ByteArray.data_append]
  simp
theorem pat_dir (cs : List UInt8) (k : Nat) (hk : cs.length = k + 1) : patDir cs = (cs.getD k 0 == 47) := by
  unfold patDir
  rw [List.getLast?_eq_getElem?, hk, Nat.add_sub_cancel, List.getD_eq_getElem?_getD, List.getElem?_eq_getElem (by omega)]
  simp

set_option maxRecDepth 100000 in
set_option maxHeartbeats 3200000 in
/-- What stands behind the name's test: the pieces at the star. -/
theorem pattern_any (cs : List UInt8) (w : World) (hn : cs.length ≤ 1000000) : Calls Try.prog 37 #[.string (str cs)] w (PatPost w cs) := by
  have hsz := str_size cs
  rcases Nat.eq_zero_or_pos cs.length with h0 | h0
  · have hc : cs = [] := List.eq_nil_of_length_eq_zero h0
    subst hc
    have HR : Hid (patL [] = none) := rfl
    have e1 : nameB [] = false := rfl
    go_enter Try.func37, Try.ntmps37
    go_wp2_with fail
    refine (rname_any [] _ (by simp)).mono ?_
    rintro e w1 ⟨rfl, rfl⟩
    rw [e1]
    go_wp2_with fail
    exact bodyPost_ret (v := patV none) (by simp [results, Try.results37, go_sem, patV]) rfl ⟨by rw [HR.out], Below.refl _ _⟩
  · obtain ⟨k, hk⟩ : ∃ k, cs.length = k + 1 := ⟨cs.length - 1, by omega⟩
    have hdir := pat_dir cs k hk
    have hix := index_str cs k (by omega)
    have hsl := slice_str cs 0 k
    rw [List.drop_zero] at hsl
    obtain ⟨x, hx⟩ : ∃ x, cs.getD k 0 = x := ⟨_, rfl⟩
    rw [hx] at hix hdir
    rw [hk] at hsz hn
    have HK := Lib.hid hk
    have k0 : (0 : Int) ≤ (k : Int) := by omega
    have k1 : (k : Int) ≤ 1000000 := by omega
    clear hx hk h0
    have hq0 : (x = 47 ∧ patDir cs = true ∧ patCore cs = cs.take k) ∨ ((bi x == 47) = false ∧ patDir cs = false ∧ patCore cs = cs) := by
      by_cases h3 : x = 47
      · left
        subst h3
        have hd : patDir cs = true := by rw [hdir]; rfl
        exact ⟨rfl, hd, by unfold patCore; rw [if_pos hd, HK.out]; rfl⟩
      · right
        have hd : patDir cs = false := by rw [hdir]; simpa using h3
        exact ⟨by rw [← bi47, beq_eq_false_iff_ne]; exact fun e => h3 (bi_inj e), hd, by unfold patCore; rw [if_neg (by rw [hd]; decide)]⟩
    have hql : (cs.take k).length ≤ 1000000 ∧ cs.length ≤ 1000000 := by
      rw [HK.out]
      exact ⟨by rw [List.length_take]; omega, hn⟩
    have HQL := Lib.hid hql
    clear hdir hql
    rcases hq0 with ⟨h3, hd, hc⟩ | ⟨h3, hd, hc⟩
    · subst h3
      rw [bi47] at hix
      obtain ⟨q, hq⟩ : ∃ q, cs.take k = q := ⟨_, rfl⟩
      rw [hq] at hc hsl
      have HQ : Hid (q.length ≤ 1000000) := by unfold Hid; rw [← hq]; exact HQL.out.1
      have HD := Lib.hid hd
      have HC := Lib.hid hc
      clear hd hc hq HQL
      go_enter Try.func37, Try.ntmps37
      go_wp2_with fail
      clear hsl hix
      refine (rname_any q _ HQ.out).mono ?_
      rintro e w1 ⟨rfl, rfl⟩
      obtain ⟨t, ht⟩ : ∃ t, nameB q = t := ⟨_, rfl⟩
      rw [ht]
      have HT := Lib.hid ht
      clear ht
      cases t with
      | false =>
        have HR : Hid (patL _ = none) := patL_no (by rw [HC.out]; exact HT.out)
        go_wp2_with fail
        exact bodyPost_ret (v := patV none) (by simp [results, Try.results37, go_sem, patV]) rfl ⟨by rw [HR.out], Below.refl _ _⟩
      | true =>
        go_wp2_with fail
        refine (sign42 q _ HQ.out).mono ?_
        rintro e w2 ⟨v, rfl, ho, hb⟩
        obtain ⟨A, c, rfl, hvc, hvm⟩ := ho.length
        obtain ⟨n, hN⟩ : ∃ n, (splitL 42 q).length = n := ⟨_, rfl⟩
        rw [List.length_map, List.length_map, hN] at ho hvc ⊢
        have hn2 : n ≤ 1000001 := by have h1 := splitL_length_le 42 q; have h2 := HQ.out; omega
        unfold maxLen at hvm
        have HN := Lib.hid hN
        have HO := Lib.hid ho
        have HB := Lib.hid hb
        clear ho hb hN
        have hcases : n = 1 ∨ n = 2 ∨ 2 < n := by
          have h1 := splitL_ne 42 q
          have h2 := HN.out
          rcases Nat.eq_zero_or_pos n with e | e
          · rw [e] at h2; exact absurd (List.eq_nil_of_length_eq_zero h2) h1
          · omega
        rcases hcases with rfl | rfl | h2
        · obtain ⟨y, hy⟩ := List.length_eq_one_iff.1 HN.out
          have HR := Lib.hid (patL_one HC.out HT.out hy)
          clear hy
          go_wp2_with fail
          exact bodyPost_ret (v := patV (some (q, false, [], patDir _))) (by rw [HD.out]; simp [results, Try.results37, go_sem, patV]; rfl) rfl ⟨by rw [HR.out], HB.out⟩
        · obtain ⟨a, b, hab⟩ : ∃ a b, splitL 42 q = [a, b] := by
            have h := HN.out
            match hh : splitL 42 q, h with
            | [a, b], _ => exact ⟨a, b, rfl⟩
          have h2 := patL_two HC.out HT.out hab
          have hal : a.length ≤ 1000000 := Nat.le_trans (piece_len (g := 42) (s := q) (by rw [hab]; simp)) HQ.out
          have hbl : b.length ≤ 1000000 := Nat.le_trans (piece_len (g := 42) (s := q) (by rw [hab]; simp)) HQ.out
          have ho := HO.out
          rw [hab] at ho
          obtain ⟨ad, rfl, hc0⟩ := piece_at ho 0 (by simp)
          obtain ⟨ad', e, hc1⟩ := piece_at ho 1 (by simp)
          injection e with e
          subst e
          rw [show ad.add 0 = ad by unfold Addr.add; simp] at hc0
          have hc0' : w2.cell? ad = some (.string (str a)) := hc0
          have hc1' : w2.cell? ⟨ad.block, ad.off + 1, none⟩ = some (.string (str b)) := by
            rw [← show ad.add 1 = ⟨ad.block, ad.off + 1, none⟩ by unfold Addr.add; rw [if_neg (by omega)]]
            exact hc1
          clear hc0 hc1 ho
          rcases Nat.eq_zero_or_pos a.length with ha | ha
          · have ha' : a = [] := List.eq_nil_of_length_eq_zero ha
            subst ha'
            rcases Nat.eq_zero_or_pos b.length with hb0 | hb0
            · have hb' : b = [] := List.eq_nil_of_length_eq_zero hb0
              subst hb'
              have HR := Lib.hid h2
              change w2.cell? ad = some (.string ⟨#[]⟩) at hc0'
              change w2.cell? ⟨ad.block, ad.off + 1, none⟩ = some (.string ⟨#[]⟩) at hc1'
              have hem : ((⟨#[]⟩ : ByteArray) ++ ⟨#[]⟩) = ⟨#[]⟩ := rfl
              clear h2 hab ha hb0 hal hbl
              go_wp2_with fail
              go_quiet (fail)
              go_wp2_with fail
              exact bodyPost_ret (v := patV none) (by simp [results, Try.results37, go_sem, patV]) rfl ⟨by rw [HR.out]; rfl, below_drewN HB.out _⟩
            · have HR := Lib.hid (patL_ahead HC.out HT.out hab hb0)
              obtain ⟨t1, t2⟩ := text_there hb0
              have hbz := str_size b
              have hem := empty_ahead (str b)
              change w2.cell? ad = some (.string ⟨#[]⟩) at hc0'
              obtain ⟨xb, hxb⟩ : ∃ xb, str b = xb := ⟨_, rfl⟩
              obtain ⟨lb, hlb⟩ : ∃ lb, b.length = lb := ⟨_, rfl⟩
              rw [hxb] at t1 t2 hbz hem hc1'
              rw [hlb] at hbz hbl
              have HXB := Lib.hid hxb
              have b0 : (0 : Int) ≤ (lb : Int) := by omega
              have b1 : (lb : Int) ≤ 1000000 := by omega
              clear h2 hab ha hb0 hal hxb hlb
              go_wp2_with fail
              go_quiet (fail)
              go_wp2_with fail
              go_quiet (fail)
              go_wp2_with fail
              exact bodyPost_ret (v := patV (some ([], true, b, patDir _))) (by rw [HD.out]; simp [results, Try.results37, go_sem, patV, HXB.out]; rfl) rfl ⟨by rw [HR.out], below_drewN (below_drewN HB.out _) _⟩
          · rcases Nat.eq_zero_or_pos b.length with hb0 | hb0
            · have hb' : b = [] := List.eq_nil_of_length_eq_zero hb0
              subst hb'
              have HR := Lib.hid (patL_behind HC.out HT.out hab ha)
              obtain ⟨t1, t2⟩ := text_there ha
              have hbz := str_size a
              have hem := empty_behind (str a)
              change w2.cell? ⟨ad.block, ad.off + 1, none⟩ = some (.string ⟨#[]⟩) at hc1'
              obtain ⟨xb, hxb⟩ : ∃ xb, str a = xb := ⟨_, rfl⟩
              obtain ⟨lb, hlb⟩ : ∃ lb, a.length = lb := ⟨_, rfl⟩
              rw [hxb] at t1 t2 hbz hem hc0'
              rw [hlb] at hbz hal
              have HXB := Lib.hid hxb
              have b0 : (0 : Int) ≤ (lb : Int) := by omega
              have b1 : (lb : Int) ≤ 1000000 := by omega
              clear h2 hab ha hb0 hbl hxb hlb
              go_wp2_with fail
              go_quiet (fail)
              go_wp2_with fail
              go_quiet (fail)
              go_wp2_with fail
              exact bodyPost_ret (v := patV (some (a, true, [], patDir _))) (by rw [HD.out]; simp [results, Try.results37, go_sem, patV, HXB.out]; rfl) rfl ⟨by rw [HR.out], below_drewN (below_drewN HB.out _) _⟩
            · have HR := Lib.hid (patL_both HC.out HT.out hab ha hb0)
              obtain ⟨t1, t2⟩ := text_there ha
              obtain ⟨t3, t4⟩ := text_there hb0
              obtain ⟨xa, hxa⟩ : ∃ xa, str a = xa := ⟨_, rfl⟩
              obtain ⟨xb, hxb⟩ : ∃ xb, str b = xb := ⟨_, rfl⟩
              rw [hxa] at t1 t2 hc0'
              rw [hxb] at t3 t4 hc1'
              clear h2 hab ha hb0 hal hbl hxa hxb
              go_wp2_with fail
              go_quiet (fail)
              go_wp2_with fail
              exact bodyPost_ret (v := patV none) (by simp [results, Try.results37, go_sem, patV]) rfl ⟨by rw [HR.out], below_drewN HB.out _⟩
        · have HR := Lib.hid (patL_many HC.out HT.out (by rw [HN.out]; exact h2))
          have z1 : (2 : Int) < (n : Int) := by omega
          have z2 : ((n : Int) == 1) = false := by rw [beq_eq_false_iff_ne]; omega
          go_wp2_with fail
          go_quiet (fail)
          go_wp2_with fail
          exact bodyPost_ret (v := patV none) (by simp [results, Try.results37, go_sem, patV]) rfl ⟨by rw [HR.out], below_drewN HB.out _⟩
    · have HQ := Lib.hid HQL.out.2
      have HD := Lib.hid hd
      have HC := Lib.hid hc
      clear hd hc HQL hsl
      generalize bi x = y at *
      go_enter Try.func37, Try.ntmps37
      go_wp2_with fail
      clear hix
      refine (rname_any cs _ HQ.out).mono ?_
      rintro e w1 ⟨rfl, rfl⟩
      obtain ⟨t, ht⟩ : ∃ t, nameB cs = t := ⟨_, rfl⟩
      rw [ht]
      have HT := Lib.hid ht
      clear ht
      cases t with
      | false =>
        have HR : Hid (patL _ = none) := patL_no (by rw [HC.out]; exact HT.out)
        go_wp2_with fail
        exact bodyPost_ret (v := patV none) (by simp [results, Try.results37, go_sem, patV]) rfl ⟨by rw [HR.out], Below.refl _ _⟩
      | true =>
        go_wp2_with fail
        refine (sign42 cs _ HQ.out).mono ?_
        rintro e w2 ⟨v, rfl, ho, hb⟩
        obtain ⟨A, c, rfl, hvc, hvm⟩ := ho.length
        obtain ⟨n, hN⟩ : ∃ n, (splitL 42 cs).length = n := ⟨_, rfl⟩
        rw [List.length_map, List.length_map, hN] at ho hvc ⊢
        have hn2 : n ≤ 1000001 := by have h1 := splitL_length_le 42 cs; have h2 := HQ.out; omega
        unfold maxLen at hvm
        have HN := Lib.hid hN
        have HO := Lib.hid ho
        have HB := Lib.hid hb
        clear ho hb hN
        have hcases : n = 1 ∨ n = 2 ∨ 2 < n := by
          have h1 := splitL_ne 42 cs
          have h2 := HN.out
          rcases Nat.eq_zero_or_pos n with e | e
          · rw [e] at h2; exact absurd (List.eq_nil_of_length_eq_zero h2) h1
          · omega
        rcases hcases with rfl | rfl | h2
        · obtain ⟨y, hy⟩ := List.length_eq_one_iff.1 HN.out
          have HR := Lib.hid (patL_one HC.out HT.out hy)
          clear hy
          go_wp2_with fail
          exact bodyPost_ret (v := patV (some (cs, false, [], patDir _))) (by rw [HD.out]; simp [results, Try.results37, go_sem, patV]; rfl) rfl ⟨by rw [HR.out], HB.out⟩
        · obtain ⟨a, b, hab⟩ : ∃ a b, splitL 42 cs = [a, b] := by
            have h := HN.out
            match hh : splitL 42 cs, h with
            | [a, b], _ => exact ⟨a, b, rfl⟩
          have h2 := patL_two HC.out HT.out hab
          have hal : a.length ≤ 1000000 := Nat.le_trans (piece_len (g := 42) (s := cs) (by rw [hab]; simp)) HQ.out
          have hbl : b.length ≤ 1000000 := Nat.le_trans (piece_len (g := 42) (s := cs) (by rw [hab]; simp)) HQ.out
          have ho := HO.out
          rw [hab] at ho
          obtain ⟨ad, rfl, hc0⟩ := piece_at ho 0 (by simp)
          obtain ⟨ad', e, hc1⟩ := piece_at ho 1 (by simp)
          injection e with e
          subst e
          rw [show ad.add 0 = ad by unfold Addr.add; simp] at hc0
          have hc0' : w2.cell? ad = some (.string (str a)) := hc0
          have hc1' : w2.cell? ⟨ad.block, ad.off + 1, none⟩ = some (.string (str b)) := by
            rw [← show ad.add 1 = ⟨ad.block, ad.off + 1, none⟩ by unfold Addr.add; rw [if_neg (by omega)]]
            exact hc1
          clear hc0 hc1 ho
          rcases Nat.eq_zero_or_pos a.length with ha | ha
          · have ha' : a = [] := List.eq_nil_of_length_eq_zero ha
            subst ha'
            rcases Nat.eq_zero_or_pos b.length with hb0 | hb0
            · have hb' : b = [] := List.eq_nil_of_length_eq_zero hb0
              subst hb'
              have HR := Lib.hid h2
              change w2.cell? ad = some (.string ⟨#[]⟩) at hc0'
              change w2.cell? ⟨ad.block, ad.off + 1, none⟩ = some (.string ⟨#[]⟩) at hc1'
              have hem : ((⟨#[]⟩ : ByteArray) ++ ⟨#[]⟩) = ⟨#[]⟩ := rfl
              clear h2 hab ha hb0 hal hbl
              go_wp2_with fail
              go_quiet (fail)
              go_wp2_with fail
              exact bodyPost_ret (v := patV none) (by simp [results, Try.results37, go_sem, patV]) rfl ⟨by rw [HR.out]; rfl, below_drewN HB.out _⟩
            · have HR := Lib.hid (patL_ahead HC.out HT.out hab hb0)
              obtain ⟨t1, t2⟩ := text_there hb0
              have hbz := str_size b
              have hem := empty_ahead (str b)
              change w2.cell? ad = some (.string ⟨#[]⟩) at hc0'
              obtain ⟨xb, hxb⟩ : ∃ xb, str b = xb := ⟨_, rfl⟩
              obtain ⟨lb, hlb⟩ : ∃ lb, b.length = lb := ⟨_, rfl⟩
              rw [hxb] at t1 t2 hbz hem hc1'
              rw [hlb] at hbz hbl
              have HXB := Lib.hid hxb
              have b0 : (0 : Int) ≤ (lb : Int) := by omega
              have b1 : (lb : Int) ≤ 1000000 := by omega
              clear h2 hab ha hb0 hal hxb hlb
              go_wp2_with fail
              go_quiet (fail)
              go_wp2_with fail
              go_quiet (fail)
              go_wp2_with fail
              exact bodyPost_ret (v := patV (some ([], true, b, patDir _))) (by rw [HD.out]; simp [results, Try.results37, go_sem, patV, HXB.out]; rfl) rfl ⟨by rw [HR.out], below_drewN (below_drewN HB.out _) _⟩
          · rcases Nat.eq_zero_or_pos b.length with hb0 | hb0
            · have hb' : b = [] := List.eq_nil_of_length_eq_zero hb0
              subst hb'
              have HR := Lib.hid (patL_behind HC.out HT.out hab ha)
              obtain ⟨t1, t2⟩ := text_there ha
              have hbz := str_size a
              have hem := empty_behind (str a)
              change w2.cell? ⟨ad.block, ad.off + 1, none⟩ = some (.string ⟨#[]⟩) at hc1'
              obtain ⟨xb, hxb⟩ : ∃ xb, str a = xb := ⟨_, rfl⟩
              obtain ⟨lb, hlb⟩ : ∃ lb, a.length = lb := ⟨_, rfl⟩
              rw [hxb] at t1 t2 hbz hem hc0'
              rw [hlb] at hbz hal
              have HXB := Lib.hid hxb
              have b0 : (0 : Int) ≤ (lb : Int) := by omega
              have b1 : (lb : Int) ≤ 1000000 := by omega
              clear h2 hab ha hb0 hbl hxb hlb
              go_wp2_with fail
              go_quiet (fail)
              go_wp2_with fail
              go_quiet (fail)
              go_wp2_with fail
              exact bodyPost_ret (v := patV (some (a, true, [], patDir _))) (by rw [HD.out]; simp [results, Try.results37, go_sem, patV, HXB.out]; rfl) rfl ⟨by rw [HR.out], below_drewN (below_drewN HB.out _) _⟩
            · have HR := Lib.hid (patL_both HC.out HT.out hab ha hb0)
              obtain ⟨t1, t2⟩ := text_there ha
              obtain ⟨t3, t4⟩ := text_there hb0
              obtain ⟨xa, hxa⟩ : ∃ xa, str a = xa := ⟨_, rfl⟩
              obtain ⟨xb, hxb⟩ : ∃ xb, str b = xb := ⟨_, rfl⟩
              rw [hxa] at t1 t2 hc0'
              rw [hxb] at t3 t4 hc1'
              clear h2 hab ha hb0 hal hbl hxa hxb
              go_wp2_with fail
              go_quiet (fail)
              go_wp2_with fail
              exact bodyPost_ret (v := patV none) (by simp [results, Try.results37, go_sem, patV]) rfl ⟨by rw [HR.out], below_drewN HB.out _⟩
        · have HR := Lib.hid (patL_many HC.out HT.out (by rw [HN.out]; exact h2))
          have z1 : (2 : Int) < (n : Int) := by omega
          have z2 : ((n : Int) == 1) = false := by rw [beq_eq_false_iff_ne]; omega
          go_wp2_with fail
          go_quiet (fail)
          go_wp2_with fail
          exact bodyPost_ret (v := patV none) (by simp [results, Try.results37, go_sem, patV]) rfl ⟨by rw [HR.out], below_drewN HB.out _⟩

theorem rpatternB_any (cs : List UInt8) (w : World) (hn : cs.length ≤ 1000000) : Calls Try.prog 30 #[.string (str cs)] w (BoolPost w (patL cs).isSome) := by
  obtain ⟨r, hr⟩ : ∃ r, patL cs = r := ⟨_, rfl⟩
  have HR := Lib.hid hr
  rw [hr]
  clear hr
  cases r with
  | none =>
    go_enter Try.func30, Try.ntmps30
    go_wp2_with fail
    refine (pattern_any cs _ hn).mono ?_
    rintro e w1 ⟨rfl, hb⟩
    rw [HR.out]
    have HB := Lib.hid hb
    clear hb
    unfold patV
    go_wp2_with fail
    go_ret
    exact ⟨rfl, HB.out⟩
  | some x =>
    obtain ⟨a, st, b, d⟩ := x
    go_enter Try.func30, Try.ntmps30
    go_wp2_with fail
    refine (pattern_any cs _ hn).mono ?_
    rintro e w1 ⟨rfl, hb⟩
    rw [HR.out]
    have HB := Lib.hid hb
    clear hb
    unfold patV
    go_wp2_with fail
    go_ret
    exact ⟨rfl, HB.out⟩
end Go.Proofs.Ytpbmdeohccdiaaa.Tx
