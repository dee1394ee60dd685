/- Texts put together: Tn2, Tn4, Tn5, Tn6, Tn7, Tn8, Tn9, Tq1, Tq3, Fm0. -/
import Derived.Test.YtalnfiegkkkkgaaGreatQr03
import GoSem.Op.String
/- The reference's Path, Split. -/
namespace Go.Proofs.YtalnfiegkkkkgaaGreat.Tx
open Go.RowKit Go.Proofs.YtalnfiegkkkkgaaGreat.Sh

def BoolPost (w : World) (t : Bool) (e : Ending) (w' : World) : Prop := e = .returned (.bool t) ∧ Below w.heap.size w w'
theorem piece_len {g : UInt8} : ∀ {s p : List UInt8}, p ∈ splitL g s → p.length ≤ s.length
  | [], p, h => by simp [splitL] at h; subst h; simp
  | c :: r, p, h => by
    by_cases hc : c = g
    · subst hc
      rw [splitL_sign] at h
      rcases List.mem_cons.1 h with rfl | h
      · simp
      · have := piece_len h; simp; omega
    · obtain ⟨q, qs, e1, e2⟩ := splitL_cons_ne hc r
      rw [e2] at h
      rcases List.mem_cons.1 h with rfl | h
      · have := piece_len (s := r) (p := q) (by rw [e1]; exact List.mem_cons_self)
        simp; omega
      · have := piece_len (s := r) (p := p) (by rw [e1]; exact List.mem_cons_of_mem _ h)
        simp; omega
theorem pathB_long {s : List UInt8} (h : 200 < s.length) : pathB s = false := by
  unfold pathB
  simp [show ¬ (s.length ≤ 200) from by omega]
theorem pathB_bad {s : List UInt8} {k : Nat} (hk : k < (splitL 47 s).length) (h : nameB (splitL 47 s)[k] = false) : pathB s = false := by
  unfold pathB
  have : (splitL 47 s).all nameB = false := by
    rw [List.all_eq_false]
    exact ⟨_, List.getElem_mem hk, by rw [h]; decide⟩
  rw [this, Bool.and_false, Bool.false_and]
theorem pathB_good {s : List UInt8} (h1 : s.length ≤ 200) (h : ∀ (k : Nat) (hk : k < (splitL 47 s).length), nameB (splitL 47 s)[k] = true) : pathB s = decide ((splitL 47 s).length ≤ 8) := by
  unfold pathB
  have : (splitL 47 s).all nameB = true := by
    rw [List.all_eq_true]
    intro x hx
    obtain ⟨i, hi, rfl⟩ := List.getElem_of_mem hx
    exact h i hi
  rw [this]
  simp [h1]
theorem pathB_len {s : List UInt8} (h : pathB s = true) : s.length ≤ 200 := by
  unfold pathB at h
  simp at h
  exact h.1.1
theorem bi47 : bi 47 = 47 := by unfold bi; rfl
theorem sign47 (cs : List UInt8) (w : World) (hn : cs.length ≤ 1000000) : Calls Tryz.prog 199 #[.string (str cs), .int .u8 47] w (TextsPost w ((splitL 47 cs).map str)) := by
  have h := rsplit_any cs 47 w hn
  rw [bi47] at h
  exact h
theorem piece_at {w : World} {B : Nat} {ps : List (List UInt8)} {A : Option Addr} {n c : Nat} (h : OwnV 9 w B (.slice A n c) ((ps.map str).map sv)) (k : Nat) (hk : k < ps.length) : ∃ ad, A = some ad ∧ w.cell? (ad.add k) = some (.string (str ps[k])) := by
  obtain ⟨A', c', hv, _, _, hr⟩ := h.slv.len
  injection hv with e1 e2 e3
  subst e1
  obtain ⟨ad, h1, h2⟩ := reads_at hr k (sv (str ps[k])) (by rw [List.map_map, List.getElem?_map, List.getElem?_eq_getElem hk]; rfl)
  exact ⟨ad, h1, h2⟩

set_option maxRecDepth 100000 in
set_option maxHeartbeats 1600000 in
theorem rpath_any (cs : List UInt8) (w : World) (hn : cs.length ≤ 1000000) : Calls Tryz.prog 165 #[.string (str cs)] w (BoolPost w (pathB cs)) := by
  have hsz := str_size cs
  obtain ⟨l, hL⟩ : ∃ l, cs.length = l := ⟨_, rfl⟩
  rw [hL] at hsz hn
  have HL := Lib.hid hL
  have n0 : (0 : Int) ≤ (l : Int) := by omega
  clear hL
  by_cases h1 : 200 < l
  · have HR : Hid (pathB cs = false) := pathB_long (by rw [HL.out]; exact h1)
    have z1 : (200 : Int) < (l : Int) := by omega
    go_enter Tryz.func165, Tryz.ntmps165
    go_wp2
    go_ret
    exact ⟨by rw [HR.out]; rfl, Below.refl _ _⟩
  · have z1 : (l : Int) ≤ 200 := by omega
    have h200 : l ≤ 200 := by omega
    clear h1
    go_enter Tryz.func165, Tryz.ntmps165
    go_wp2_with fail
    refine (sign47 cs _ (by rw [HL.out]; exact hn)).mono ?_
    rintro e w1 ⟨v, rfl, ho, hb⟩
    obtain ⟨A, c, rfl, hlc, hcm⟩ := ho.length
    obtain ⟨n, hN⟩ : ∃ n, (splitL 47 cs).length = n := ⟨_, rfl⟩
    rw [List.length_map, List.length_map, hN] at ho hlc ⊢
    unfold maxLen at hcm
    have hn201 : n ≤ 201 := by rw [← hN]; have := splitL_length_le 47 cs; rw [HL.out] at this; omega
    have HN := Lib.hid hN
    have HO := Lib.hid ho
    have HB := Lib.hid hb
    clear ho hb hN
    go_wp2_with fail
    go_loop [4] (fun i => ∃ k : Nat, k ≤ n ∧ i = .int .i64 k ∧ ∀ (j : Nat) (hj : j < (splitL 47 cs).length), j < k → nameB (splitL 47 cs)[j] = true) (fun i => n - (intOf i).toNat)
    case atStart => exact ⟨0, by omega, rfl, fun j _ hj => by omega⟩
    case round =>
      obtain ⟨k, hk, rfl, hok⟩ := hrel
      have HOK := Lib.hid hok
      clear hok
      have k0 : (0 : Int) ≤ (k : Int) := by omega
      by_cases hlt : k < n
      · have k1 : (k : Int) < (n : Int) := by omega
        have hkp : k < (splitL 47 cs).length := by rw [HN.out]; exact hlt
        obtain ⟨ad, rfl, hcell⟩ := piece_at HO.out k hkp
        have hpl := piece_len (List.getElem_mem hkp)
        obtain ⟨p, hp⟩ : ∃ p, (splitL 47 cs)[k] = p := ⟨_, rfl⟩
        rw [hp] at hcell hpl
        have HP := Lib.hid hp
        rw [HL.out] at hpl
        clear hp
        go_wp2_with fail
        refine (rname_any p _ (by omega)).mono ?_
        rintro e w2 ⟨rfl, rfl⟩
        obtain ⟨t, ht⟩ : ∃ t, nameB p = t := ⟨_, rfl⟩
        rw [ht]
        have HT := Lib.hid ht
        clear ht
        cases t with
        | false =>
          have HR : Hid (pathB cs = false) := pathB_bad hkp (by rw [HP.out]; exact HT.out)
          go_wp2
          go_ret
          exact ⟨by rw [HR.out]; rfl, HB.out⟩
        | true =>
          go_wp2
          go_round
          case rel =>
            refine ⟨k + 1, by omega, by go_num, fun j hj hjk => ?_⟩
            by_cases e : j = k
            · subst e; rw [HP.out]; exact HT.out
            · exact HOK.out j hj (by omega)
          case measure => simp [intOf]; omega
      · obtain rfl : k = n := by omega
        have HR : Hid (pathB cs = decide (k ≤ 8)) := by
          unfold Hid
          rw [pathB_good (by rw [HL.out]; exact h200) (fun j hj => HOK.out j hj (by rw [HN.out] at hj; exact hj)), HN.out]
        by_cases h8 : k ≤ 8
        · have z8 : (k : Int) ≤ 8 := by omega
          go_wp2
          go_ret
          exact ⟨by rw [HR.out]; simp [h8], HB.out⟩
        · have z8 : (8 : Int) < (k : Int) := by omega
          go_wp2
          go_ret
          exact ⟨by rw [HR.out]; simp [h8]; omega, HB.out⟩

end Go.Proofs.YtalnfiegkkkkgaaGreat.Tx
/- The reference's Join, Under, Parents, Copy. -/
namespace Go.Proofs.YtalnfiegkkkkgaaGreat.Tx
open Go.RowKit Go.Proofs.YtalnfiegkkkkgaaGreat.Sh

theorem str_append (a b : List UInt8) : str a ++ str b = str (a ++ b) := by
  unfold str
  apply ByteArray.ext
  rw [ByteArray.data_append]
  simp

/-- Is s beneath d? -/
def underB (d s : List UInt8) : Bool := pathB d && pathB s && decide (d.length + 1 < s.length) && (s.take d.length == d) && (s[d.length]? == some 47)
set_option maxRecDepth 100000 in
set_option maxHeartbeats 1600000 in
theorem runder_any (ds cs : List UInt8) (w : World) (hd : ds.length ≤ 1000000) (hn : cs.length ≤ 1000000) : Calls Tryz.prog 166 #[.string (str ds), .string (str cs)] w (BoolPost w (underB ds cs)) := by
  have hsz := str_size cs
  have hdz := str_size ds
  obtain ⟨t1, ht1⟩ : ∃ t, pathB ds = t := ⟨_, rfl⟩
  have HT1 := Lib.hid ht1
  cases t1 with
  | false =>
    have HR : Hid (underB ds cs = false) := by unfold Hid underB; rw [ht1]; rfl
    clear ht1
    go_enter Tryz.func166, Tryz.ntmps166
    go_wp2_with fail
    refine (rpath_any ds _ hd).mono ?_
    rintro e w1 ⟨rfl, hb⟩
    rw [HT1.out]
    have HB := Lib.hid hb
    clear hb
    go_wp2_with fail
    go_ret
    exact ⟨by rw [HR.out]; rfl, HB.out⟩
  | true =>
    obtain ⟨t2, ht2⟩ : ∃ t, pathB cs = t := ⟨_, rfl⟩
    have HT2 := Lib.hid ht2
    have HU : Hid (underB ds cs = (t2 && decide (ds.length + 1 < cs.length) && (cs.take ds.length == ds) && (cs[ds.length]? == some 47))) := by unfold Hid underB; rw [ht1, ht2, Bool.true_and]
    clear ht1 ht2
    have hdl : Hid (ds.length ≤ 200) := pathB_len HT1.out
    cases t2 with
    | false =>
      go_enter Tryz.func166, Tryz.ntmps166
      go_wp2_with fail
      refine (rpath_any ds _ hd).mono ?_
      rintro e w1 ⟨rfl, hb⟩
      rw [HT1.out]
      have HB := Lib.hid hb
      clear hb
      go_wp2_with fail
      refine (rpath_any cs _ hn).mono ?_
      rintro e w2 ⟨rfl, hb⟩
      rw [HT2.out]
      have HB2 := Lib.hid (HB.out.trans (hb.mono HB.out.size))
      clear hb
      go_wp2_with fail
      go_ret
      exact ⟨by rw [HU.out]; rfl, HB2.out⟩
    | true =>
      have hcl : Hid (cs.length ≤ 200) := pathB_len HT2.out
      obtain ⟨l, hL⟩ : ∃ l, cs.length = l := ⟨_, rfl⟩
      obtain ⟨m, hM⟩ : ∃ m, ds.length = m := ⟨_, rfl⟩
      rw [hL] at hsz hn
      rw [hM] at hdz hd
      have n0 : (0 : Int) ≤ (l : Int) := by omega
      have n1 : (l : Int) ≤ 200 := by have := hcl.out; omega
      have n2 : (0 : Int) ≤ (m : Int) := by omega
      have n3 : (m : Int) ≤ 200 := by have := hdl.out; omega
      have HL := Lib.hid hL
      have HM := Lib.hid hM
      clear hL hM
      by_cases h1 : m + 1 < l
      · have z1 : (m : Int) + 1 < (l : Int) := by omega
        have z2 : (m : Int) ≤ (l : Int) := by omega
        have z3 : (m : Int) < (l : Int) := by omega
        have hix := index_str cs m (by rw [HL.out]; omega)
        obtain ⟨x, hx⟩ : ∃ x, cs.getD m 0 = x := ⟨_, rfl⟩
        have hx' : cs[m]? = some x := by rw [← hx, List.getD_eq_getElem?_getD, List.getElem?_eq_getElem (by rw [HL.out]; omega)]; rfl
        rw [hx] at hix
        have hU2 : underB ds cs = ((cs.take m == ds) && (x == 47)) := by
          rw [HU.out, HL.out, HM.out, hx']
          simp [h1]
        have HU2 := Lib.hid hU2
        clear hx hx' hU2
        have hsl := slice_str cs 0 m
        have htl := str_toList ds
        have htl2 := str_toList ((cs.take m).drop 0)
        rw [List.drop_zero] at htl2 hsl
        by_cases h2 : cs.take m = ds
        · have e1 : (((str cs).extract 0 m).toList == (str ds).toList) = true := by rw [hsl, htl2, htl, h2]; exact beq_self_eq_true _
          have H2 : Hid ((cs.take m == ds) = true) := by unfold Hid; rw [h2]; exact beq_self_eq_true _
          clear hsl htl htl2 h2
          by_cases h3 : x = 47
          · subst h3
            rw [bi47] at hix
            go_enter Tryz.func166, Tryz.ntmps166
            go_wp2_with fail
            refine (rpath_any ds _ (by rw [HM.out]; exact hd)).mono ?_
            rintro e w1 ⟨rfl, hb⟩
            rw [HT1.out]
            have HB := Lib.hid hb
            clear hb
            go_wp2_with fail
            refine (rpath_any cs _ (by rw [HL.out]; exact hn)).mono ?_
            rintro e w2 ⟨rfl, hb⟩
            rw [HT2.out]
            have HB2 := Lib.hid (HB.out.trans (hb.mono HB.out.size))
            clear hb
            go_wp2_with fail
            go_ret
            exact ⟨by rw [HU2.out, H2.out]; rfl, HB2.out⟩
          · have e3 : (bi x == 47) = false := by rw [← bi47, beq_eq_false_iff_ne]; exact fun e => h3 (bi_inj e)
            have H3 : Hid ((x == 47) = false) := by unfold Hid; simpa using h3
            generalize bi x = y at *
            clear h3
            go_enter Tryz.func166, Tryz.ntmps166
            go_wp2_with fail
            refine (rpath_any ds _ (by rw [HM.out]; exact hd)).mono ?_
            rintro e w1 ⟨rfl, hb⟩
            rw [HT1.out]
            have HB := Lib.hid hb
            clear hb
            go_wp2_with fail
            refine (rpath_any cs _ (by rw [HL.out]; exact hn)).mono ?_
            rintro e w2 ⟨rfl, hb⟩
            rw [HT2.out]
            have HB2 := Lib.hid (HB.out.trans (hb.mono HB.out.size))
            clear hb
            go_wp2_with fail
            go_ret
            exact ⟨by rw [HU2.out, H2.out, H3.out]; rfl, HB2.out⟩
        · have e1 : (((str cs).extract 0 m).toList == (str ds).toList) = false := by rw [hsl, htl2, htl]; exact list_other h2
          have H2 : Hid ((cs.take m == ds) = false) := list_other h2
          clear hsl htl htl2 h2 hix
          go_enter Tryz.func166, Tryz.ntmps166
          go_wp2_with fail
          refine (rpath_any ds _ (by rw [HM.out]; exact hd)).mono ?_
          rintro e w1 ⟨rfl, hb⟩
          rw [HT1.out]
          have HB := Lib.hid hb
          clear hb
          go_wp2_with fail
          refine (rpath_any cs _ (by rw [HL.out]; exact hn)).mono ?_
          rintro e w2 ⟨rfl, hb⟩
          rw [HT2.out]
          have HB2 := Lib.hid (HB.out.trans (hb.mono HB.out.size))
          clear hb
          go_wp2_with fail
          go_ret
          exact ⟨by rw [HU2.out, H2.out]; rfl, HB2.out⟩
      · have z1 : (l : Int) ≤ (m : Int) + 1 := by omega
        have HU2 : Hid (underB ds cs = false) := by
          unfold Hid
          rw [HU.out, HL.out, HM.out]
          simp [h1]
        go_enter Tryz.func166, Tryz.ntmps166
        go_wp2_with fail
        refine (rpath_any ds _ (by rw [HM.out]; exact hd)).mono ?_
        rintro e w1 ⟨rfl, hb⟩
        rw [HT1.out]
        have HB := Lib.hid hb
        clear hb
        go_wp2_with fail
        refine (rpath_any cs _ (by rw [HL.out]; exact hn)).mono ?_
        rintro e w2 ⟨rfl, hb⟩
        rw [HT2.out]
        have HB2 := Lib.hid (HB.out.trans (hb.mono HB.out.size))
        clear hb
        go_wp2_with fail
        go_ret
        exact ⟨by rw [HU2.out]; rfl, HB2.out⟩
end Go.Proofs.YtalnfiegkkkkgaaGreat.Tx
/- The reference's Parents, Copy. -/
namespace Go.Proofs.YtalnfiegkkkkgaaGreat.Tx
open Go.RowKit Go.Proofs.YtalnfiegkkkkgaaGreat.Sh

/-- What stands ahead of each sign ahead of place k. -/
def parP (s : List UInt8) : Nat → List (List UInt8)
  | 0 => []
  | k + 1 => if s[k]? = some 47 then parP s k ++ [s.take k] else parP s k
def parentsL (s : List UInt8) : List (List UInt8) := if pathB s = true then parP s s.length else []
theorem parP_len (s : List UInt8) : ∀ k, (parP s k).length ≤ k
  | 0 => Nat.le_refl _
  | k + 1 => by
    have := parP_len s k
    unfold parP
    split
    · simp; omega
    · omega

/-- A copy's name. -/
def copyL (s id : List UInt8) (n : Int) : List UInt8 := s ++ [126] ++ id.take 8 ++ List.replicate (min n 100).toNat 126
end Go.Proofs.YtalnfiegkkkkgaaGreat.Tx
/- The reference's Join. -/
namespace Go.Proofs.YtalnfiegkkkkgaaGreat.Tx
open Go.RowKit Go.Proofs.YtalnfiegkkkkgaaGreat.Sh

theorem list_other' {a b : Nat} (h : a ≠ b) : (a == b) = false := by simpa using h
def joinOk (l : List (List UInt8)) : Bool := !l.isEmpty && ((splitL 47 (joinL 47 l)).length == l.length) && pathB (joinL 47 l)
def joinT (l : List (List UInt8)) : List UInt8 := if joinOk l = true then joinL 47 l else []
def joinE (l : List (List UInt8)) : Int := if joinOk l = true then 0 else 6
def JoinPost (w : World) (l : List (List UInt8)) (e : Ending) (w' : World) : Prop := e = .returned (.tuple #[.string (str (joinT l)), .int .i64 (joinE l)]) ∧ Below w.heap.size w w'
theorem joinL_len {g : UInt8} : ∀ (l : List (List UInt8)) (k : Nat), (joinL g (l.take k)).length ≤ (joinL g l).length
  | [], k => by simp
  | [p], k => by
    cases k with
    | zero => simp [joinL]
    | succ k => simp
  | p :: q :: r, k => by
    cases k with
    | zero => simp [joinL]
    | succ k =>
      cases k with
      | zero => simp [joinL]
      | succ k =>
        have h := joinL_len (g := g) (q :: r) (k + 1)
        have e1 : joinL g (p :: q :: r) = p ++ g :: joinL g (q :: r) := rfl
        have e2 : joinL g ((p :: q :: r).take (k + 1 + 1)) = p ++ g :: joinL g ((q :: r).take (k + 1)) := rfl
        rw [e1, e2]
        simp only [List.length_append, List.length_cons]
        omega
theorem joinOk_long {l : List (List UInt8)} {k : Nat} (h : 200 < (joinL 47 (l.take k)).length) : joinOk l = false := by
  have := joinL_len (g := 47) l k
  unfold joinOk
  rw [pathB_long (by omega), Bool.and_false]
theorem joinL_first {l : List (List UInt8)} (h : 0 < l.length) : joinL 47 (l.take 1) = l[0] := by
  cases l with
  | nil => simp at h
  | cons p r => rfl
theorem joinL_next {l : List (List UInt8)} {k : Nat} (h0 : 0 < k) (h : k < l.length) : joinL 47 (l.take (k + 1)) = joinL 47 (l.take k) ++ [47] ++ l[k] := by
  rw [List.take_succ_eq_append_getElem h, joinL_snoc _ (by intro e; have := congrArg List.length e; rw [List.length_take, Nat.min_eq_left (by omega), List.length_nil] at this; omega), List.append_assoc]
  rfl
theorem joined_no {l : List (List UInt8)} (h : joinOk l = false) : joinT l = [] ∧ joinE l = 6 := by unfold joinT joinE; rw [h]; exact ⟨rfl, rfl⟩
theorem joined_yes {l : List (List UInt8)} (h : joinOk l = true) : joinT l = joinL 47 l ∧ joinE l = 0 := by unfold joinT joinE; rw [h]; exact ⟨rfl, rfl⟩

end Go.Proofs.YtalnfiegkkkkgaaGreat.Tx
/- The reference's takes. -/

namespace Go.Proofs.YtalnfiegkkkkgaaGreat.Tx
open Go.RowKit Go.Proofs.YtalnfiegkkkkgaaGreat.Sh

/-- Does a pattern take a name? -/
def takesB (fr : List UInt8) (star : Bool) (bk s : List UInt8) : Bool := if star = true then decide (fr.length + bk.length ≤ s.length) && (s.take fr.length == fr) && (s.drop (s.length - bk.length) == bk) else s == fr
theorem same_texts (a b : List UInt8) : ((str a).toList == (str b).toList) = (a == b) := by rw [str_toList, str_toList]

end Go.Proofs.YtalnfiegkkkkgaaGreat.Tx
/- The reference's pattern, Pattern. -/
namespace Go.Proofs.YtalnfiegkkkkgaaGreat.Tx
open Go.RowKit Go.Proofs.YtalnfiegkkkkgaaGreat.Sh

def patDir (p : List UInt8) : Bool := p.getLast? == some 47
def patCore (p : List UInt8) : List UInt8 := if patDir p = true then p.take (p.length - 1) else p
/-- A pattern's parts: ahead of its star, has it one, behind it, is it of directories. -/
def patL (p : List UInt8) : Option (List UInt8 × Bool × List UInt8 × Bool) :=
  if nameB (patCore p) = true then
    match splitL 42 (patCore p) with
    | [_] => some (patCore p, false, [], patDir p)
    | [a, b] => if a.isEmpty = b.isEmpty then none else some (a, true, b, patDir p)
    | _ => none
  else none
def patV : Option (List UInt8 × Bool × List UInt8 × Bool) → Value
  | none => .tuple #[.string ⟨#[]⟩, .bool false, .string ⟨#[]⟩, .bool false, .bool false]
  | some (a, s, b, d) => .tuple #[.string (str a), .bool s, .string (str b), .bool d, .bool true]
def PatPost (w : World) (p : List UInt8) (e : Ending) (w' : World) : Prop := e = .returned (patV (patL p)) ∧ Below w.heap.size w w'
theorem bi42 : bi 42 = 42 := by unfold bi; rfl
theorem sign42 (cs : List UInt8) (w : World) (hn : cs.length ≤ 1000000) : Calls Tryz.prog 199 #[.string (str cs), .int .u8 42] w (TextsPost w ((splitL 42 cs).map str)) := by
  have h := rsplit_any cs 42 w hn
  rw [bi42] at h
  exact h
theorem patL_no {p : List UInt8} (h : nameB (patCore p) = false) : patL p = none := by unfold patL; rw [if_neg (by rw [h]; decide)]
theorem patL_one {p q y : List UInt8} (hc : patCore p = q) (hn : nameB q = true) (hs : splitL 42 q = [y]) : patL p = some (q, false, [], patDir p) := by
  unfold patL; rw [hc, if_pos hn, hs]
theorem patL_two {p q a b : List UInt8} (hc : patCore p = q) (hn : nameB q = true) (hs : splitL 42 q = [a, b]) : patL p = if a.isEmpty = b.isEmpty then none else some (a, true, b, patDir p) := by
  unfold patL; rw [hc, if_pos hn, hs]
theorem patL_ahead {p q b : List UInt8} (hc : patCore p = q) (hn : nameB q = true) (hs : splitL 42 q = [[], b]) (hb : 0 < b.length) : patL p = some ([], true, b, patDir p) := by
  rw [patL_two hc hn hs, if_neg]
  cases b with
  | nil => simp at hb
  | cons y r => simp
theorem patL_behind {p q a : List UInt8} (hc : patCore p = q) (hn : nameB q = true) (hs : splitL 42 q = [a, []]) (ha : 0 < a.length) : patL p = some (a, true, [], patDir p) := by
  rw [patL_two hc hn hs, if_neg]
  cases a with
  | nil => simp at ha
  | cons y r => simp
theorem patL_both {p q a b : List UInt8} (hc : patCore p = q) (hn : nameB q = true) (hs : splitL 42 q = [a, b]) (ha : 0 < a.length) (hb : 0 < b.length) : patL p = none := by
  rw [patL_two hc hn hs, if_pos]
  cases a with
  | nil => simp at ha
  | cons y r =>
    cases b with
    | nil => simp at hb
    | cons z t => rfl
theorem patL_many {p q : List UInt8} (hc : patCore p = q) (hn : nameB q = true) (hs : 2 < (splitL 42 q).length) : patL p = none := by
  unfold patL
  rw [hc, if_pos hn]
  split
  · rename_i h; rw [h] at hs; simp at hs
  · rename_i h; rw [h] at hs; simp at hs
  · rfl
theorem text_there {b : List UInt8} (h : 0 < b.length) : (str b).toList.isEmpty = false ∧ ((str b).toList == []) = false := by
  rw [str_toList]
  cases b with
  | nil => simp at h
  | cons c r => exact ⟨rfl, rfl⟩
theorem empty_ahead (x : ByteArray) : (⟨#[]⟩ : ByteArray) ++ x = x := by
  apply ByteArray.ext
  rw [ByteArray.data_append]
  simp
theorem empty_behind (x : ByteArray) : x ++ (⟨#[]⟩ : ByteArray) = x := by
  apply ByteArray.ext
  rw [ByteArray.data_append]
  simp
theorem pat_dir (cs : List UInt8) (k : Nat) (hk : cs.length = k + 1) : patDir cs = (cs.getD k 0 == 47) := by
  unfold patDir
  rw [List.getLast?_eq_getElem?, hk, Nat.add_sub_cancel, List.getD_eq_getElem?_getD, List.getElem?_eq_getElem (by omega)]
  simp

end Go.Proofs.YtalnfiegkkkkgaaGreat.Tx
/- The reference's Ignored. -/
namespace Go.Proofs.YtalnfiegkkkkgaaGreat.Tx
open Go.RowKit Go.Proofs.YtalnfiegkkkkgaaGreat.Sh

/-- A path's names; none, if it is no path. -/
def namesL (s : List UInt8) : List (List UInt8) := if pathB s = true then splitL 47 s else []
/-- Does a pattern take one of the names ahead of place k? -/
def hitTo (f : List UInt8) (st : Bool) (b : List UInt8) (d : Bool) (l : List (List UInt8)) (k : Nat) : Bool := (List.range k).any fun j => (!d || decide (j + 1 < l.length)) && takesB f st b (l.getD j [])
def hitP (l : List (List UInt8)) (p : List UInt8) : Bool := match patL p with
  | none => false
  | some (f, st, b, d) => hitTo f st b d l l.length
def ignoredB (ps : List (List UInt8)) (s : List UInt8) : Bool := ps.any (hitP (namesL s))
theorem hitTo_succ (f : List UInt8) (st : Bool) (b : List UInt8) (d : Bool) (l : List (List UInt8)) (k : Nat) : hitTo f st b d l (k + 1) = (hitTo f st b d l k || ((!d || decide (k + 1 < l.length)) && takesB f st b (l.getD k []))) := by
  unfold hitTo
  rw [List.range_succ, List.any_append]
  simp
theorem hitTo_more {f : List UInt8} {st : Bool} {b : List UInt8} {d : Bool} {l : List (List UInt8)} {k n : Nat} (hk : k ≤ n) (h : hitTo f st b d l k = true) : hitTo f st b d l n = true := by
  induction n with
  | zero => rw [show k = 0 by omega] at h; exact h
  | succ n ih =>
    by_cases e : k = n + 1
    · rw [← e]; exact h
    · rw [hitTo_succ, ih (by omega), Bool.true_or]
theorem patCore_len (p : List UInt8) : (patCore p).length ≤ p.length := by
  unfold patCore
  split
  · rw [List.length_take]; omega
  · exact Nat.le_refl _
theorem patL_len {p f b : List UInt8} {st d : Bool} (h : patL p = some (f, st, b, d)) : f.length ≤ p.length ∧ b.length ≤ p.length := by
  have hc := patCore_len p
  unfold patL at h
  split at h
  · split at h
    · injection h with h
      injection h with h1 h
      injection h with _ h
      injection h with h2 _
      subst h1 h2
      exact ⟨hc, by simp⟩
    · rename_i a c hs
      split at h
      · cases h
      · injection h with h
        injection h with h1 h
        injection h with _ h
        injection h with h2 _
        subst h1 h2
        have g1 := piece_len (g := 42) (s := patCore p) (p := a) (by rw [hs]; simp)
        have g2 := piece_len (g := 42) (s := patCore p) (p := c) (by rw [hs]; simp)
        omega
    · cases h
  · cases h
theorem namesL_len {s p : List UInt8} (h : p ∈ namesL s) : p.length ≤ s.length := by
  unfold namesL at h
  split at h
  · exact piece_len h
  · cases h
theorem namesL_few (s : List UInt8) : (namesL s).length ≤ s.length + 1 := by
  unfold namesL
  split
  · exact splitL_length_le 47 s
  · simp
theorem rnames_post {w : World} {s : List UInt8} {e : Ending} {w' : World} (h : TextsPost w (if pathB s = true then (splitL 47 s).map str else []) e w') : TextsPost w ((namesL s).map str) e w' := by
  have : (namesL s).map str = if pathB s = true then (splitL 47 s).map str else [] := by
    unfold namesL
    split <;> rfl
  rw [this]
  exact h

end Go.Proofs.YtalnfiegkkkkgaaGreat.Tx
/- Names and paths: what follows of their definitions. Plain lists. -/
namespace Go.Proofs.YtalnfiegkkkkgaaGreat.Tx

theorem splitL_app (g : UInt8) : ∀ (a b : List UInt8), splitL g (a ++ g :: b) = splitL g a ++ splitL g b
  | [], b => splitL_sign g b
  | c :: r, b => by
    by_cases hc : c = g
    · subst hc
      rw [List.cons_append, splitL_sign, splitL_sign, splitL_app c r b]
      rfl
    · obtain ⟨p, ps, e1, e2⟩ := splitL_cons_ne hc (r ++ g :: b)
      obtain ⟨q, qs, e3, e4⟩ := splitL_cons_ne hc r
      rw [splitL_app g r b, e3] at e1
      injection e1 with e5 e6
      rw [List.cons_append, e2, e4, ← e5, ← e6]
      rfl
theorem pathB_iff (s : List UInt8) : pathB s = true ↔ s.length ≤ 200 ∧ (∀ p ∈ splitL 47 s, nameB p = true) ∧ (splitL 47 s).length ≤ 8 := by
  unfold pathB
  simp [and_assoc]
theorem nameB_sign {p : List UInt8} (h : nameB p = true) : 47 ∉ p := by
  intro hm
  rw [nameB_eq] at h
  simp only [Bool.and_eq_true, List.all_eq_true] at h
  have := h.2 47 hm
  exact absurd this (by decide)
theorem nameB_one {p : List UInt8} (h : nameB p = true) : 1 ≤ p.length := by
  rw [nameB_eq] at h
  simp only [Bool.and_eq_true, decide_eq_true_eq] at h
  exact h.1.1.1.1
theorem joinOk_split {s : List UInt8} (h : pathB s = true) : joinOk (splitL 47 s) = true := by
  unfold joinOk
  rw [joinL_splitL, h]
  cases hs : splitL 47 s with
  | nil => exact absurd hs (splitL_ne _ _)
  | cons p ps => simp
theorem join_split {s : List UInt8} (h : pathB s = true) : joinT (splitL 47 s) = s ∧ joinE (splitL 47 s) = 0 := by
  obtain ⟨h1, h2⟩ := joined_yes (joinOk_split h)
  exact ⟨by rw [h1, joinL_splitL], h2⟩
theorem count_joinL {g : UInt8} : ∀ {l : List (List UInt8)}, l ≠ [] → (joinL g l).count g + 1 = l.length + (l.map fun p => p.count g).sum
  | [], h => absurd rfl h
  | [p], _ => by simp [joinL]; omega
  | p :: q :: r, _ => by
    have := count_joinL (g := g) (l := q :: r) (by simp)
    rw [joinL_cons (by simp), List.count_append, List.count_cons_self]
    simp only [List.length_cons, List.map_cons, List.sum_cons] at this ⊢
    omega
theorem sum_zero : ∀ {l : List Nat}, l.sum = 0 → ∀ x ∈ l, x = 0
  | [], _, x, hx => by cases hx
  | y :: r, h, x, hx => by
    rw [List.sum_cons] at h
    rcases List.mem_cons.1 hx with rfl | hx
    · omega
    · exact sum_zero (by omega) x hx
theorem joinOk_eq (l : List (List UInt8)) : joinOk l = (decide (1 ≤ l.length) && decide (l.length ≤ 8) && l.all nameB && decide ((joinL 47 l).length ≤ 200)) := by
  rw [Bool.eq_iff_iff]
  constructor
  · intro h
    unfold joinOk at h
    simp only [Bool.and_eq_true, beq_iff_eq, Bool.not_eq_true', List.isEmpty_eq_false_iff] at h
    obtain ⟨⟨h0, h1⟩, h2⟩ := h
    have hc := count_joinL (g := 47) h0
    rw [splitL_length] at h1
    have hs : (l.map fun p => p.count (47 : UInt8)).sum = 0 := by omega
    have hno : ∀ p ∈ l, (47 : UInt8) ∉ p := fun p hp => by
      have := sum_zero hs (p.count 47) (List.mem_map.2 ⟨p, hp, rfl⟩)
      exact List.count_eq_zero.1 this
    have he := splitL_joinL hno h0
    obtain ⟨g1, g2, g3⟩ := (pathB_iff _).1 h2
    rw [he] at g2 g3
    have hl : 1 ≤ l.length := by
      cases l with
      | nil => exact absurd rfl h0
      | cons p r => simp
    simp only [Bool.and_eq_true, decide_eq_true_eq, List.all_eq_true]
    exact ⟨⟨⟨hl, g3⟩, g2⟩, g1⟩
  · intro h
    simp only [Bool.and_eq_true, decide_eq_true_eq, List.all_eq_true] at h
    obtain ⟨⟨⟨hl, h8⟩, hn⟩, h200⟩ := h
    have h0 : l ≠ [] := by rintro rfl; simp at hl
    have he := splitL_joinL (g := 47) (fun p hp => nameB_sign (hn p hp)) h0
    unfold joinOk
    rw [he]
    have hp : pathB (joinL 47 l) = true := (pathB_iff _).2 ⟨h200, by rw [he]; exact hn, by rw [he]; exact h8⟩
    rw [hp]
    cases l with
    | nil => exact absurd rfl h0
    | cons p r => simp
theorem joined_split {l : List (List UInt8)} (h : joinOk l = true) : pathB (joinT l) = true ∧ namesL (joinT l) = l := by
  obtain ⟨h1, _⟩ := joined_yes h
  rw [joinOk_eq] at h
  simp only [Bool.and_eq_true, decide_eq_true_eq, List.all_eq_true] at h
  obtain ⟨⟨⟨hl, h8⟩, hn⟩, h200⟩ := h
  have h0 : l ≠ [] := by rintro rfl; simp at hl
  have he := splitL_joinL (g := 47) (fun p hp => nameB_sign (hn p hp)) h0
  have hp : pathB (joinL 47 l) = true := (pathB_iff _).2 ⟨h200, by rw [he]; exact hn, by rw [he]; exact h8⟩
  rw [h1]
  exact ⟨hp, by unfold namesL; rw [if_pos hp, he]⟩
theorem joinL_length {g : UInt8} : ∀ {l : List (List UInt8)}, l ≠ [] → (joinL g l).length + 1 = l.length + (l.map List.length).sum
  | [], h => absurd rfl h
  | [p], _ => by simp [joinL]; omega
  | p :: q :: r, _ => by
    have := joinL_length (g := g) (l := q :: r) (by simp)
    rw [joinL_cons (by simp), List.length_append, List.length_cons]
    simp only [List.length_cons, List.map_cons, List.sum_cons] at this ⊢
    omega

/-! Parents. -/
theorem parP_mem {s x : List UInt8} : ∀ {n : Nat}, x ∈ parP s n ↔ ∃ k, k < n ∧ s[k]? = some 47 ∧ x = s.take k
  | 0 => by simp [parP]
  | n + 1 => by
    unfold parP
    split
    · rename_i h
      rw [List.mem_append, parP_mem, List.mem_singleton]
      constructor
      · rintro (⟨k, h1, h2, h3⟩ | h3)
        · exact ⟨k, by omega, h2, h3⟩
        · exact ⟨n, by omega, h, h3⟩
      · rintro ⟨k, h1, h2, h3⟩
        by_cases e : k = n
        · subst e; exact .inr h3
        · exact .inl ⟨k, by omega, h2, h3⟩
    · rename_i h
      rw [parP_mem]
      constructor
      · rintro ⟨k, h1, h2, h3⟩; exact ⟨k, by omega, h2, h3⟩
      · rintro ⟨k, h1, h2, h3⟩
        by_cases e : k = n
        · subst e; exact absurd h2 h
        · exact ⟨k, by omega, h2, h3⟩
theorem cut_at {s : List UInt8} {k : Nat} (h : s[k]? = some 47) : s = s.take k ++ 47 :: s.drop (k + 1) := by
  obtain ⟨hk, e⟩ := List.getElem?_eq_some_iff.1 h
  rw [← e, ← List.drop_eq_getElem_cons hk, List.take_append_drop]
theorem cut_split {s : List UInt8} {k : Nat} (h : s[k]? = some 47) : splitL 47 s = splitL 47 (s.take k) ++ splitL 47 (s.drop (k + 1)) := by
  conv => lhs; rw [cut_at h]
  exact splitL_app 47 _ _
theorem pathB_cut {s : List UInt8} {k : Nat} (hp : pathB s = true) (h : s[k]? = some 47) : pathB (s.take k) = true ∧ k + 1 < s.length := by
  obtain ⟨h1, h2, h3⟩ := (pathB_iff s).1 hp
  have hs := cut_split h
  obtain ⟨hk, _⟩ := List.getElem?_eq_some_iff.1 h
  refine ⟨(pathB_iff _).2 ⟨by rw [List.length_take]; omega, fun p hp => h2 p (by rw [hs]; exact List.mem_append_left _ hp), by rw [hs, List.length_append] at h3; omega⟩, ?_⟩
  rcases Nat.lt_or_ge (k + 1) s.length with e | e
  · exact e
  · have hd : s.drop (k + 1) = [] := List.drop_eq_nil_of_le e
    have := h2 [] (by rw [hs, hd]; exact List.mem_append_right _ (by simp [splitL]))
    exact absurd this (by decide)
theorem under_iff (t s : List UInt8) : underB t s = true ↔ t ∈ parentsL s := by
  unfold parentsL
  constructor
  · intro h
    unfold underB at h
    simp only [Bool.and_eq_true, decide_eq_true_eq, beq_iff_eq] at h
    obtain ⟨⟨⟨⟨_, h2⟩, h3⟩, h4⟩, h5⟩ := h
    rw [if_pos h2, parP_mem]
    exact ⟨t.length, by omega, h5, h4.symm⟩
  · intro h
    split at h
    · rename_i hp
      obtain ⟨k, h1, h2, h3⟩ := parP_mem.1 h
      obtain ⟨g1, g2⟩ := pathB_cut hp h2
      have hl : t.length = k := by rw [h3, List.length_take]; omega
      unfold underB
      simp only [Bool.and_eq_true, decide_eq_true_eq, beq_iff_eq]
      rw [hl]
      exact ⟨⟨⟨⟨by rw [h3]; exact g1, hp⟩, g2⟩, h3.symm⟩, h2⟩
    · cases h
theorem under_self (s : List UInt8) : underB s s = false := by
  unfold underB
  simp
theorem parents_path {s x : List UInt8} (h : x ∈ parentsL s) : pathB x = true := by
  have := (under_iff x s).2 h
  unfold underB at this
  simp only [Bool.and_eq_true] at this
  exact this.1.1.1.1
theorem parP_take {s : List UInt8} {k : Nat} : ∀ {n : Nat}, n ≤ k → parP (s.take k) n = parP s n
  | 0, _ => rfl
  | n + 1, h => by
    unfold parP
    have e : (s.take k)[n]? = s[n]? := by rw [List.getElem?_take, if_pos (by omega)]
    rw [parP_take (n := n) (by omega), e, List.take_take, show min n k = n from by omega]
theorem parP_at {s : List UInt8} : ∀ {n i : Nat} (hi : i < (parP s n).length), ∃ k, k < n ∧ s[k]? = some 47 ∧ (parP s n)[i] = s.take k ∧ parP s k = (parP s n).take i
  | 0, i, hi => by simp [parP] at hi
  | n + 1, i, hi => by
    by_cases h : s[n]? = some 47
    · have e : parP s (n + 1) = parP s n ++ [s.take n] := by rw [parP, if_pos h]
      by_cases hl : i < (parP s n).length
      · obtain ⟨k, h1, h2, h3, h4⟩ := parP_at hl
        refine ⟨k, by omega, h2, ?_, ?_⟩
        · rw [List.getElem_of_eq e, List.getElem_append_left hl]; exact h3
        · rw [e, List.take_append_of_le_length (by omega)]; exact h4
      · have hi' : i = (parP s n).length := by
          have : (parP s (n + 1)).length = (parP s n).length + 1 := by rw [e]; simp
          omega
        subst hi'
        refine ⟨n, by omega, h, ?_, ?_⟩
        · rw [List.getElem_of_eq e, List.getElem_append_right (Nat.le_refl _)]; simp
        · rw [e, List.take_left']
          rfl
    · have e : parP s (n + 1) = parP s n := by rw [parP, if_neg h]
      have hl : i < (parP s n).length := by rw [← e]; exact hi
      obtain ⟨k, h1, h2, h3, h4⟩ := parP_at hl
      exact ⟨k, by omega, h2, by rw [List.getElem_of_eq e]; exact h3, by rw [e]; exact h4⟩
theorem parents_of {s : List UInt8} {i : Nat} (hi : i < (parentsL s).length) : parentsL (parentsL s)[i] = (parentsL s).take i := by
  by_cases hp : pathB s = true
  · have e : parentsL s = parP s s.length := by unfold parentsL; rw [if_pos hp]
    have hi' : i < (parP s s.length).length := by rw [← e]; exact hi
    obtain ⟨k, h1, h2, h3, h4⟩ := parP_at hi'
    have hx : (parentsL s)[i] = s.take k := by rw [List.getElem_of_eq e]; exact h3
    rw [hx, e, ← h4]
    unfold parentsL
    rw [if_pos (pathB_cut hp h2).1, List.length_take, Nat.min_eq_left (by omega), parP_take (Nat.le_refl _)]
  · have e : parentsL s = [] := by unfold parentsL; rw [if_neg hp]
    rw [e] at hi
    simp at hi
theorem parents_chain {s : List UInt8} {i : Nat} (h0 : 0 < i) (hi : i < (parentsL s).length) : underB ((parentsL s)[i - 1]'(by omega)) (parentsL s)[i] = true := by
  rw [under_iff, parents_of hi, List.mem_iff_getElem]
  exact ⟨i - 1, by simp; omega, by rw [List.getElem_take]⟩
theorem parP_count (s : List UInt8) : ∀ n, n ≤ s.length → (parP s n).length = (s.take n).count 47
  | 0, _ => by simp [parP]
  | n + 1, h => by
    have ih := parP_count s n (by omega)
    rw [List.take_succ_eq_append_getElem (by omega), List.count_append]
    by_cases e : s[n]? = some 47
    · have e2 : s[n] = 47 := by rw [List.getElem?_eq_getElem (by omega)] at e; injection e
      rw [parP, if_pos e, List.length_append, ih, e2]
      rfl
    · have e2 : s[n] ≠ 47 := fun h => e (by rw [List.getElem?_eq_getElem (by omega), h])
      rw [parP, if_neg e, ih, List.count_cons_of_ne e2]
      rfl
theorem parents_len {s : List UInt8} (hp : pathB s = true) : (parentsL s).length + 1 = (namesL s).length := by
  unfold parentsL namesL
  rw [if_pos hp, if_pos hp, splitL_length, parP_count s _ (Nat.le_refl _), List.take_length]
end Go.Proofs.YtalnfiegkkkkgaaGreat.Tx
/- Texts in order: plain lists. -/
namespace Go.Proofs.YtalnfiegkkkkgaaGreat.Tx

/-- Does a stand before b? -/
abbrev bl (a b : List UInt8) : Bool := Op.bytesLess a b
theorem bl_nil (b : List UInt8) : bl b [] = false := by cases b <;> rfl
theorem bl_cons (x y : UInt8) (a b : List UInt8) : bl (x :: a) (y :: b) = (decide (x < y) || (x == y && bl a b)) := by
  show Op.bytesLess _ _ = _
  rw [Op.bytesLess]
theorem bl_irr (a : List UInt8) : bl a a = false := by
  induction a with
  | nil => rfl
  | cons x a ih => rw [bl_cons, ih]; simp
theorem u8_tri (x y : UInt8) : x < y ∨ x = y ∨ y < x := by
  rcases Nat.lt_trichotomy x.toNat y.toNat with h | h | h
  · exact .inl h
  · exact .inr (.inl (UInt8.toNat_inj.1 h))
  · exact .inr (.inr h)
theorem u8_nlt {x y : UInt8} (h : x < y) : ¬ y < x ∧ x ≠ y := by
  have h' : x.toNat < y.toNat := h
  exact ⟨fun h2 => by have : y.toNat < x.toNat := h2; omega, fun e => by subst e; omega⟩
theorem bl_tri (a : List UInt8) : ∀ b : List UInt8, bl a b = true ∨ a = b ∨ bl b a = true := by
  induction a with
  | nil => intro b; cases b with | nil => exact .inr (.inl rfl) | cons y b => exact .inl rfl
  | cons x a ih =>
    intro b
    cases b with
    | nil => exact .inr (.inr rfl)
    | cons y b =>
      rw [bl_cons, bl_cons]
      rcases u8_tri x y with h | h | h
      · left; simp [h]
      · subst h
        rcases ih b with h | h | h
        · left; rw [h]; simp
        · right; left; rw [h]
        · right; right; rw [h]; simp
      · right; right; simp [h]
theorem bl_asymm (a : List UInt8) : ∀ b : List UInt8, bl a b = true → bl b a = false := by
  induction a with
  | nil => intro b _; exact bl_nil b
  | cons x a ih =>
    intro b h
    cases b with
    | nil => rw [bl_nil] at h; cases h
    | cons y b =>
      rw [bl_cons] at h ⊢
      rcases u8_tri x y with h1 | h1 | h1
      · have := u8_nlt h1
        simp [this.1]
        intro e; exact absurd e.symm this.2
      · subst h1
        have hb : bl a b = true := by simpa using h
        rw [ih b hb]
        simp
      · have := u8_nlt h1
        simp [this.1, this.2.symm] at h
theorem bl_trans (a : List UInt8) : ∀ b c : List UInt8, bl a b = true → bl b c = true → bl a c = true := by
  induction a with
  | nil =>
    intro b c h1 h2
    cases c with
    | nil => rw [bl_nil] at h2; cases h2
    | cons z c => rfl
  | cons x a ih =>
    intro b c h1 h2
    cases b with
    | nil => rw [bl_nil] at h1; cases h1
    | cons y b =>
      cases c with
      | nil => rw [bl_nil] at h2; cases h2
      | cons z c =>
        rw [bl_cons] at h1 h2 ⊢
        rcases u8_tri x y with g1 | g1 | g1
        · rcases u8_tri y z with g2 | g2 | g2
          · have : x < z := by have a1 : x.toNat < y.toNat := g1; have a2 : y.toNat < z.toNat := g2; show x.toNat < z.toNat; omega
            simp [this]
          · subst g2; simp [g1]
          · have := u8_nlt g2
            simp [this.1, this.2.symm] at h2
        · subst g1
          rcases u8_tri x z with g2 | g2 | g2
          · simp [g2]
          · subst g2
            have hb1 : bl a b = true := by simpa using h1
            have hb2 : bl b c = true := by simpa using h2
            rw [ih b c hb1 hb2]
            simp
          · have := u8_nlt g2
            simp [this.1, this.2.symm] at h2
        · have := u8_nlt g1
          simp [this.1, this.2.symm] at h1
/-- Compare. -/
def cmpL (a b : List UInt8) : Int := if bl a b then -1 else if a = b then 0 else 1
theorem cmpL_lt {a b : List UInt8} (h : bl a b = true) : cmpL a b = -1 := by unfold cmpL; rw [if_pos h]
theorem cmpL_eq (a : List UInt8) : cmpL a a = 0 := by unfold cmpL; rw [if_neg (by rw [bl_irr]; decide), if_pos rfl]
theorem cmpL_gt {a b : List UInt8} (h : bl b a = true) : cmpL a b = 1 := by
  unfold cmpL
  rw [if_neg (by rw [bl_asymm b a h]; decide), if_neg (by rintro rfl; rw [bl_irr] at h; cases h)]
theorem cmpL_neg (a b : List UInt8) : cmpL b a = - cmpL a b := by
  rcases bl_tri a b with h | h | h
  · rw [cmpL_lt h, cmpL_gt h]; rfl
  · subst h; rw [cmpL_eq]; rfl
  · rw [cmpL_lt h, cmpL_gt h]
theorem cmpL_cases (a b : List UInt8) : (Op.bytesLess a b = true ∧ cmpL a b = -1) ∨ (Op.bytesLess a b = false ∧ (a == b) = true ∧ cmpL a b = 0) ∨ (Op.bytesLess a b = false ∧ (a == b) = false ∧ cmpL a b = 1) := by
  rcases bl_tri a b with h | h | h
  · exact .inl ⟨h, cmpL_lt h⟩
  · subst h; exact .inr (.inl ⟨bl_irr a, beq_self_eq_true a, cmpL_eq a⟩)
  · refine .inr (.inr ⟨bl_asymm b a h, ?_, cmpL_gt h⟩)
    rw [beq_eq_false_iff_ne]; rintro rfl; rw [bl_irr] at h; cases h
end Go.Proofs.YtalnfiegkkkkgaaGreat.Tx
/- A file system that falls, as plain data: what the document's own answer does. (No Go in it.) -/
namespace Go.Proofs.YtalnfiegkkkkgaaGreat.Tx

/-- A file; a row: a file at a path; a change; an event; all there is. -/
structure FileM where
  mode : Int
  data : List UInt8
  time : Int
structure RowM where
  path : List UInt8
  f : FileM
structure OpM where
  kind : Int
  fr : List UInt8
  to : List UInt8
  f : FileM
structure EvM where
  at_ : Int
  kind : Int
  mode : Int
  keep : Int
  torn : Int
  path : List UInt8
  data : List UInt8
structure FSM where
  room : Int
  now : List RowM
  sure : List RowM
  pending : List OpM
  plan : List EvM
  calls : Int
  time : Int
  down : Bool
  user : List EvM

def findM (l : List RowM) (p : List UInt8) : Option Nat := l.findIdx? fun r => r.path == p
def withoutM (l : List RowM) (p : List UInt8) : List RowM := l.filter fun r => !(r.path == p)
/-- How many rows at the front stand ahead of p. -/
def headM (l : List RowM) (p : List UInt8) : Nat := (l.takeWhile fun r => bl r.path p).length
def withM (l : List RowM) (p : List UInt8) (f : FileM) : List RowM :=
  let m := withoutM l p
  m.take (headM m p) ++ [⟨p, f⟩] ++ m.drop (headM m p)
def mayM (l : List RowM) (p : List UInt8) : Bool := l.all fun r => !(underB p r.path || underB r.path p)
def usedM (l : List RowM) : Nat := (l.map fun r => r.f.data.length).sum
def applyM (l : List RowM) (o : OpM) : List RowM :=
  if o.kind = 1 then withM l o.to o.f
  else if o.kind = 2 then
    match findM l o.fr with
    | none => l
    | some i => match l[i]? with
      | none => l
      | some r => withM (withoutM l o.fr) o.to r.f
  else withoutM l o.fr
end Go.Proofs.YtalnfiegkkkkgaaGreat.Tx
