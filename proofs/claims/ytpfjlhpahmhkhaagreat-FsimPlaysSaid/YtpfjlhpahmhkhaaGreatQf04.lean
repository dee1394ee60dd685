/- Texts put together: WTn4, WTn5, WTn6, WTn7, WTn8, WTn9, WTq1, WTq3. -/
import Derived.Test.YtpfjlhpahmhkhaaGreatQf03
import GoSem.Op.String
/- The reference's Join, Under, Parents, Copy. -/
namespace Go.Proofs.YtpfjlhpahmhkhaaGreat.Tx
open Go.RowKit Go.Proofs.YtpfjlhpahmhkhaaGreat.Sh

/-- Is s beneath d? -/
def underB (d s : List UInt8) : Bool := pathB d && pathB s && decide (d.length + 1 < s.length) && (s.take d.length == d) && (s[d.length]? == some 47)
set_option maxRecDepth 100000 in
set_option maxHeartbeats 1600000 in
theorem runder_any (ds cs : List UInt8) (w : World) (hd : ds.length ≤ 1000000) (hn : cs.length ≤ 1000000) : Calls Tryz.prog 142 #[.string (str ds), .string (str cs)] w (BoolPost w (underB ds cs)) := by
  have hsz := str_size cs
  have hdz := str_size ds
  obtain ⟨t1, ht1⟩ : ∃ t, pathB ds = t := ⟨_, rfl⟩
  have HT1 := Lib.hid ht1
  cases t1 with
  | false =>
    have HR : Hid (underB ds cs = false) := by unfold Hid underB; rw [ht1]; rfl
    clear ht1
    go_enter Tryz.func142, Tryz.ntmps142
    go_wp2_with fail
    refine (rpath_any ds _ hd).mono ?_
    rintro e w1 ⟨rfl, hb⟩
    rw [HT1.out]
    have HB := Lib.hid hb
    clear hb
    go_wp2_with fail
    go_ret
    exact ⟨by rw [HR.out]; rfl, HB.out⟩
  | true =>
    obtain ⟨t2, ht2⟩ : ∃ t, pathB cs = t := ⟨_, rfl⟩
    have HT2 := Lib.hid ht2
    have HU : Hid (underB ds cs = (t2 && decide (ds.length + 1 < cs.length) && (cs.take ds.length == ds) && (cs[ds.length]? == some 47))) := by unfold Hid underB; rw [ht1, ht2, Bool.true_and]
    clear ht1 ht2
    have hdl : Hid (ds.length ≤ 200) := pathB_len HT1.out
    cases t2 with
    | false =>
      go_enter Tryz.func142, Tryz.ntmps142
      go_wp2_with fail
      refine (rpath_any ds _ hd).mono ?_
      rintro e w1 ⟨rfl, hb⟩
      rw [HT1.out]
      have HB := Lib.hid hb
      clear hb
      go_wp2_with fail
      refine (rpath_any cs _ hn).mono ?_
      rintro e w2 ⟨rfl, hb⟩
      rw [HT2.out]
      have HB2 := Lib.hid (HB.out.trans (hb.mono HB.out.size))
      clear hb
      go_wp2_with fail
      go_ret
      exact ⟨by rw [HU.out]; rfl, HB2.out⟩
    | true =>
      have hcl : Hid (cs.length ≤ 200) := pathB_len HT2.out
      obtain ⟨l, hL⟩ : ∃ l, cs.length = l := ⟨_, rfl⟩
      obtain ⟨m, hM⟩ : ∃ m, ds.length = m := ⟨_, rfl⟩
      rw [hL] at hsz hn
      rw [hM] at hdz hd
      have n0 : (0 : Int) ≤ (l : Int) := by omega
      have n1 : (l : Int) ≤ 200 := by have := hcl.out; omega
      have n2 : (0 : Int) ≤ (m : Int) := by omega
      have n3 : (m : Int) ≤ 200 := by have := hdl.out; omega
      have HL := Lib.hid hL
      have HM := Lib.hid hM
      clear hL hM
      by_cases h1 : m + 1 < l
      · have z1 : (m : Int) + 1 < (l : Int) := by omega
        have z2 : (m : Int) ≤ (l : Int) := by omega
        have z3 : (m : Int) < (l : Int) := by omega
        have hix := index_str cs m (by rw [HL.out]; omega)
        obtain ⟨x, hx⟩ : ∃ x, cs.getD m 0 = x := ⟨_, rfl⟩
        have hx' : cs[m]? = some x := by rw [← hx, List.getD_eq_getElem?_getD, List.getElem?_eq_getElem (by rw [HL.out]; omega)]; rfl
        rw [hx] at hix
        have hU2 : underB ds cs = ((cs.take m == ds) && (x == 47)) := by
          rw [HU.out, HL.out, HM.out, hx']
          simp [h1]
        have HU2 := Lib.hid hU2
        clear hx hx' hU2
        have hsl := slice_str cs 0 m
        have htl := str_toList ds
        have htl2 := str_toList ((cs.take m).drop 0)
        rw [List.drop_zero] at htl2 hsl
        by_cases h2 : cs.take m = ds
        · have e1 : (((str cs).extract 0 m).toList == (str ds).toList) = true := by rw [hsl, htl2, htl, h2]; exact beq_self_eq_true _
          have H2 : Hid ((cs.take m == ds) = true) := by unfold Hid; rw [h2]; exact beq_self_eq_true _
          clear hsl htl htl2 h2
          by_cases h3 : x = 47
          · subst h3
            rw [bi47] at hix
            go_enter Tryz.func142, Tryz.ntmps142
            go_wp2_with fail
            refine (rpath_any ds _ (by rw [HM.out]; exact hd)).mono ?_
            rintro e w1 ⟨rfl, hb⟩
            rw [HT1.out]
            have HB := Lib.hid hb
            clear hb
            go_wp2_with fail
            refine (rpath_any cs _ (by rw [HL.out]; exact hn)).mono ?_
            rintro e w2 ⟨rfl, hb⟩
            rw [HT2.out]
            have HB2 := Lib.hid (HB.out.trans (hb.mono HB.out.size))
            clear hb
            go_wp2_with fail
            go_ret
            exact ⟨by rw [HU2.out, H2.out]; rfl, HB2.out⟩
          · have e3 : (bi x == 47) = false := by rw [← bi47, beq_eq_false_iff_ne]; exact fun e => h3 (bi_inj e)
            have H3 : Hid ((x == 47) = false) := by unfold Hid; simpa using h3
            generalize bi x = y at *
            clear h3
            go_enter Tryz.func142, Tryz.ntmps142
            go_wp2_with fail
            refine (rpath_any ds _ (by rw [HM.out]; exact hd)).mono ?_
            rintro e w1 ⟨rfl, hb⟩
            rw [HT1.out]
            have HB := Lib.hid hb
            clear hb
            go_wp2_with fail
            refine (rpath_any cs _ (by rw [HL.out]; exact hn)).mono ?_
            rintro e w2 ⟨rfl, hb⟩
            rw [HT2.out]
            have HB2 := Lib.hid (HB.out.trans (hb.mono HB.out.size))
            clear hb
            go_wp2_with fail
            go_ret
            exact ⟨by rw [HU2.out, H2.out, H3.out]; rfl, HB2.out⟩
        · have e1 : (((str cs).extract 0 m).toList == (str ds).toList) = false := by rw [hsl, htl2, htl]; exact list_other h2
          have H2 : Hid ((cs.take m == ds) = false) := list_other h2
          clear hsl htl htl2 h2 hix
          go_enter Tryz.func142, Tryz.ntmps142
          go_wp2_with fail
          refine (rpath_any ds _ (by rw [HM.out]; exact hd)).mono ?_
          rintro e w1 ⟨rfl, hb⟩
          rw [HT1.out]
          have HB := Lib.hid hb
          clear hb
          go_wp2_with fail
          refine (rpath_any cs _ (by rw [HL.out]; exact hn)).mono ?_
          rintro e w2 ⟨rfl, hb⟩
          rw [HT2.out]
          have HB2 := Lib.hid (HB.out.trans (hb.mono HB.out.size))
          clear hb
          go_wp2_with fail
          go_ret
          exact ⟨by rw [HU2.out, H2.out]; rfl, HB2.out⟩
      · have z1 : (l : Int) ≤ (m : Int) + 1 := by omega
        have HU2 : Hid (underB ds cs = false) := by
          unfold Hid
          rw [HU.out, HL.out, HM.out]
          simp [h1]
        go_enter Tryz.func142, Tryz.ntmps142
        go_wp2_with fail
        refine (rpath_any ds _ (by rw [HM.out]; exact hd)).mono ?_
        rintro e w1 ⟨rfl, hb⟩
        rw [HT1.out]
        have HB := Lib.hid hb
        clear hb
        go_wp2_with fail
        refine (rpath_any cs _ (by rw [HL.out]; exact hn)).mono ?_
        rintro e w2 ⟨rfl, hb⟩
        rw [HT2.out]
        have HB2 := Lib.hid (HB.out.trans (hb.mono HB.out.size))
        clear hb
        go_wp2_with fail
        go_ret
        exact ⟨by rw [HU2.out]; rfl, HB2.out⟩
end Go.Proofs.YtpfjlhpahmhkhaaGreat.Tx
/- The reference's Parents, Copy. -/
namespace Go.Proofs.YtpfjlhpahmhkhaaGreat.Tx
open Go.RowKit Go.Proofs.YtpfjlhpahmhkhaaGreat.Sh

/-- What stands ahead of each sign ahead of place k. -/
def parP (s : List UInt8) : Nat → List (List UInt8)
  | 0 => []
  | k + 1 => if s[k]? = some 47 then parP s k ++ [s.take k] else parP s k
def parentsL (s : List UInt8) : List (List UInt8) := if pathB s = true then parP s s.length else []
theorem parP_len (s : List UInt8) : ∀ k, (parP s k).length ≤ k
  | 0 => Nat.le_refl _
  | k + 1 => by
    have := parP_len s k
    unfold parP
    split
    · simp; omega
    · omega

/-- A copy's name. -/
def copyL (s id : List UInt8) (n : Int) : List UInt8 := s ++ [126] ++ id.take 8 ++ List.replicate (min n 100).toNat 126
end Go.Proofs.YtpfjlhpahmhkhaaGreat.Tx
/- The reference's Join. -/
namespace Go.Proofs.YtpfjlhpahmhkhaaGreat.Tx
open Go.RowKit Go.Proofs.YtpfjlhpahmhkhaaGreat.Sh

def joinOk (l : List (List UInt8)) : Bool := !l.isEmpty && ((splitL 47 (joinL 47 l)).length == l.length) && pathB (joinL 47 l)
def joinT (l : List (List UInt8)) : List UInt8 := if joinOk l = true then joinL 47 l else []
def joinE (l : List (List UInt8)) : Int := if joinOk l = true then 0 else 6
def JoinPost (w : World) (l : List (List UInt8)) (e : Ending) (w' : World) : Prop := e = .returned (.tuple #[.string (str (joinT l)), .int .i64 (joinE l)]) ∧ Below w.heap.size w w'
end Go.Proofs.YtpfjlhpahmhkhaaGreat.Tx
/- The reference's takes. -/

namespace Go.Proofs.YtpfjlhpahmhkhaaGreat.Tx
open Go.RowKit Go.Proofs.YtpfjlhpahmhkhaaGreat.Sh

/-- Does a pattern take a name? -/
def takesB (fr : List UInt8) (star : Bool) (bk s : List UInt8) : Bool := if star = true then decide (fr.length + bk.length ≤ s.length) && (s.take fr.length == fr) && (s.drop (s.length - bk.length) == bk) else s == fr
end Go.Proofs.YtpfjlhpahmhkhaaGreat.Tx
/- The reference's pattern, Pattern. -/
namespace Go.Proofs.YtpfjlhpahmhkhaaGreat.Tx
open Go.RowKit Go.Proofs.YtpfjlhpahmhkhaaGreat.Sh

def patDir (p : List UInt8) : Bool := p.getLast? == some 47
def patCore (p : List UInt8) : List UInt8 := if patDir p = true then p.take (p.length - 1) else p
/-- A pattern's parts: ahead of its star, has it one, behind it, is it of directories. -/
def patL (p : List UInt8) : Option (List UInt8 × Bool × List UInt8 × Bool) :=
  if nameB (patCore p) = true then
    match splitL 42 (patCore p) with
    | [_] => some (patCore p, false, [], patDir p)
    | [a, b] => if a.isEmpty = b.isEmpty then none else some (a, true, b, patDir p)
    | _ => none
  else none
def patV : Option (List UInt8 × Bool × List UInt8 × Bool) → Value
  | none => .tuple #[.string ⟨#[]⟩, .bool false, .string ⟨#[]⟩, .bool false, .bool false]
  | some (a, s, b, d) => .tuple #[.string (str a), .bool s, .string (str b), .bool d, .bool true]
def PatPost (w : World) (p : List UInt8) (e : Ending) (w' : World) : Prop := e = .returned (patV (patL p)) ∧ Below w.heap.size w w'
theorem text_there {b : List UInt8} (h : 0 < b.length) : (str b).toList.isEmpty = false ∧ ((str b).toList == []) = false := by
  rw [str_toList]
  cases b with
  | nil => simp at h
  | cons c r => exact ⟨rfl, rfl⟩
end Go.Proofs.YtpfjlhpahmhkhaaGreat.Tx
/- The reference's Ignored. -/
namespace Go.Proofs.YtpfjlhpahmhkhaaGreat.Tx
open Go.RowKit Go.Proofs.YtpfjlhpahmhkhaaGreat.Sh

/-- A path's names; none, if it is no path. -/
def namesL (s : List UInt8) : List (List UInt8) := if pathB s = true then splitL 47 s else []
/-- Does a pattern take one of the names ahead of place k? -/
def hitTo (f : List UInt8) (st : Bool) (b : List UInt8) (d : Bool) (l : List (List UInt8)) (k : Nat) : Bool := (List.range k).any fun j => (!d || decide (j + 1 < l.length)) && takesB f st b (l.getD j [])
def hitP (l : List (List UInt8)) (p : List UInt8) : Bool := match patL p with
  | none => false
  | some (f, st, b, d) => hitTo f st b d l l.length
def ignoredB (ps : List (List UInt8)) (s : List UInt8) : Bool := ps.any (hitP (namesL s))
theorem namesL_few (s : List UInt8) : (namesL s).length ≤ s.length + 1 := by
  unfold namesL
  split
  · exact splitL_length_le 47 s
  · simp
end Go.Proofs.YtpfjlhpahmhkhaaGreat.Tx
/- Names and paths: what follows of their definitions. Plain lists. -/
namespace Go.Proofs.YtpfjlhpahmhkhaaGreat.Tx

theorem splitL_app (g : UInt8) : ∀ (a b : List UInt8), splitL g (a ++ g :: b) = splitL g a ++ splitL g b
  | [], b => splitL_sign g b
  | c :: r, b => by
    by_cases hc : c = g
    · subst hc
      rw [List.cons_append, splitL_sign, splitL_sign, splitL_app c r b]
      rfl
    · obtain ⟨p, ps, e1, e2⟩ := splitL_cons_ne hc (r ++ g :: b)
      obtain ⟨q, qs, e3, e4⟩ := splitL_cons_ne hc r
      rw [splitL_app g r b, e3] at e1
      injection e1 with e5 e6
      rw [List.cons_append, e2, e4, ← e5, ← e6]
      rfl
theorem pathB_iff (s : List UInt8) : pathB s = true ↔ s.length ≤ 200 ∧ (∀ p ∈ splitL 47 s, nameB p = true) ∧ (splitL 47 s).length ≤ 8 := by
  unfold pathB
  simp [and_assoc]
/-! Parents. -/
theorem parP_mem {s x : List UInt8} : ∀ {n : Nat}, x ∈ parP s n ↔ ∃ k, k < n ∧ s[k]? = some 47 ∧ x = s.take k
  | 0 => by simp [parP]
  | n + 1 => by
    unfold parP
    split
    · rename_i h
      rw [List.mem_append, parP_mem, List.mem_singleton]
      constructor
      · rintro (⟨k, h1, h2, h3⟩ | h3)
        · exact ⟨k, by omega, h2, h3⟩
        · exact ⟨n, by omega, h, h3⟩
      · rintro ⟨k, h1, h2, h3⟩
        by_cases e : k = n
        · subst e; exact .inr h3
        · exact .inl ⟨k, by omega, h2, h3⟩
    · rename_i h
      rw [parP_mem]
      constructor
      · rintro ⟨k, h1, h2, h3⟩; exact ⟨k, by omega, h2, h3⟩
      · rintro ⟨k, h1, h2, h3⟩
        by_cases e : k = n
        · subst e; exact absurd h2 h
        · exact ⟨k, by omega, h2, h3⟩
theorem cut_at {s : List UInt8} {k : Nat} (h : s[k]? = some 47) : s = s.take k ++ 47 :: s.drop (k + 1) := by
  obtain ⟨hk, e⟩ := List.getElem?_eq_some_iff.1 h
  rw [← e, ← List.drop_eq_getElem_cons hk, List.take_append_drop]
theorem cut_split {s : List UInt8} {k : Nat} (h : s[k]? = some 47) : splitL 47 s = splitL 47 (s.take k) ++ splitL 47 (s.drop (k + 1)) := by
  conv => lhs; rw [cut_at h]
  exact splitL_app 47 _ _
theorem pathB_cut {s : List UInt8} {k : Nat} (hp : pathB s = true) (h : s[k]? = some 47) : pathB (s.take k) = true ∧ k + 1 < s.length := by
  obtain ⟨h1, h2, h3⟩ := (pathB_iff s).1 hp
  have hs := cut_split h
  obtain ⟨hk, _⟩ := List.getElem?_eq_some_iff.1 h
  refine ⟨(pathB_iff _).2 ⟨by rw [List.length_take]; omega, fun p hp => h2 p (by rw [hs]; exact List.mem_append_left _ hp), by rw [hs, List.length_append] at h3; omega⟩, ?_⟩
  rcases Nat.lt_or_ge (k + 1) s.length with e | e
  · exact e
  · have hd : s.drop (k + 1) = [] := List.drop_eq_nil_of_le e
    have := h2 [] (by rw [hs, hd]; exact List.mem_append_right _ (by simp [splitL]))
    exact absurd this (by decide)
theorem under_iff (t s : List UInt8) : underB t s = true ↔ t ∈ parentsL s := by
  unfold parentsL
  constructor
  · intro h
    unfold underB at h
    simp only [Bool.and_eq_true, decide_eq_true_eq, beq_iff_eq] at h
    obtain ⟨⟨⟨⟨_, h2⟩, h3⟩, h4⟩, h5⟩ := h
    rw [if_pos h2, parP_mem]
    exact ⟨t.length, by omega, h5, h4.symm⟩
  · intro h
    split at h
    · rename_i hp
      obtain ⟨k, h1, h2, h3⟩ := parP_mem.1 h
      obtain ⟨g1, g2⟩ := pathB_cut hp h2
      have hl : t.length = k := by rw [h3, List.length_take]; omega
      unfold underB
      simp only [Bool.and_eq_true, decide_eq_true_eq, beq_iff_eq]
      rw [hl]
      exact ⟨⟨⟨⟨by rw [h3]; exact g1, hp⟩, g2⟩, h3.symm⟩, h2⟩
    · cases h
theorem parents_path {s x : List UInt8} (h : x ∈ parentsL s) : pathB x = true := by
  have := (under_iff x s).2 h
  unfold underB at this
  simp only [Bool.and_eq_true] at this
  exact this.1.1.1.1
theorem parP_count (s : List UInt8) : ∀ n, n ≤ s.length → (parP s n).length = (s.take n).count 47
  | 0, _ => by simp [parP]
  | n + 1, h => by
    have ih := parP_count s n (by omega)
    rw [List.take_succ_eq_append_getElem (by omega), List.count_append]
    by_cases e : s[n]? = some 47
    · have e2 : s[n] = 47 := by rw [List.getElem?_eq_getElem (by omega)] at e; injection e
      rw [parP, if_pos e, List.length_append, ih, e2]
      rfl
    · have e2 : s[n] ≠ 47 := fun h => e (by rw [List.getElem?_eq_getElem (by omega), h])
      rw [parP, if_neg e, ih, List.count_cons_of_ne e2]
      rfl
theorem parents_len {s : List UInt8} (hp : pathB s = true) : (parentsL s).length + 1 = (namesL s).length := by
  unfold parentsL namesL
  rw [if_pos hp, if_pos hp, splitL_length, parP_count s _ (Nat.le_refl _), List.take_length]
end Go.Proofs.YtpfjlhpahmhkhaaGreat.Tx
/- Texts in order: plain lists. -/
namespace Go.Proofs.YtpfjlhpahmhkhaaGreat.Tx

/-- Does a stand before b? -/
abbrev bl (a b : List UInt8) : Bool := Op.bytesLess a b
theorem bl_nil (b : List UInt8) : bl b [] = false := by cases b <;> rfl
theorem bl_cons (x y : UInt8) (a b : List UInt8) : bl (x :: a) (y :: b) = (decide (x < y) || (x == y && bl a b)) := by
  show Op.bytesLess _ _ = _
  rw [Op.bytesLess]
theorem bl_irr (a : List UInt8) : bl a a = false := by
  induction a with
  | nil => rfl
  | cons x a ih => rw [bl_cons, ih]; simp
theorem u8_tri (x y : UInt8) : x < y ∨ x = y ∨ y < x := by
  rcases Nat.lt_trichotomy x.toNat y.toNat with h | h | h
  · exact .inl h
  · exact .inr (.inl (UInt8.toNat_inj.1 h))
  · exact .inr (.inr h)
theorem u8_nlt {x y : UInt8} (h : x < y) : ¬ y < x ∧ x ≠ y := by
  have h' : x.toNat < y.toNat := h
  exact ⟨fun h2 => by have : y.toNat < x.toNat := h2; omega, fun e => by subst e; omega⟩
theorem bl_tri (a : List UInt8) : ∀ b : List UInt8, bl a b = true ∨ a = b ∨ bl b a = true := by
  induction a with
  | nil => intro b; cases b with | nil => exact .inr (.inl rfl) | cons y b => exact .inl rfl
  | cons x a ih =>
    intro b
    cases b with
    | nil => exact .inr (.inr rfl)
    | cons y b =>
      rw [bl_cons, bl_cons]
      rcases u8_tri x y with h | h | h
      · left; simp [h]
      · subst h
        rcases ih b with h | h | h
        · left; rw [h]; simp
        · right; left; rw [h]
        · right; right; rw [h]; simp
      · right; right; simp [h]
theorem bl_trans (a : List UInt8) : ∀ b c : List UInt8, bl a b = true → bl b c = true → bl a c = true := by
  induction a with
  | nil =>
    intro b c h1 h2
    cases c with
    | nil => rw [bl_nil] at h2; cases h2
    | cons z c => rfl
  | cons x a ih =>
    intro b c h1 h2
    cases b with
    | nil => rw [bl_nil] at h1; cases h1
    | cons y b =>
      cases c with
      | nil => rw [bl_nil] at h2; cases h2
      | cons z c =>
        rw [bl_cons] at h1 h2 ⊢
        rcases u8_tri x y with g1 | g1 | g1
        · rcases u8_tri y z with g2 | g2 | g2
          · have : x < z := by have a1 : x.toNat < y.toNat := g1; have a2 : y.toNat < z.toNat := g2; show x.toNat < z.toNat; omega
            simp [this]
          · subst g2; simp [g1]
          · have := u8_nlt g2
            simp [this.1, this.2.symm] at h2
        · subst g1
          rcases u8_tri x z with g2 | g2 | g2
          · simp [g2]
          · subst g2
            have hb1 : bl a b = true := by simpa using h1
            have hb2 : bl b c = true := by simpa using h2
            rw [ih b c hb1 hb2]
            simp
          · have := u8_nlt g2
            simp [this.1, this.2.symm] at h2
        · have := u8_nlt g1
          simp [this.1, this.2.symm] at h1
/-- Compare. -/
def cmpL (a b : List UInt8) : Int := if bl a b then -1 else if a = b then 0 else 1
end Go.Proofs.YtpfjlhpahmhkhaaGreat.Tx
