/- Texts put together: YRl1, YTs8. -/
import Derived.Test.YteffiedolcjjlaaQa39
import Derived.Test.YteffiedolcjjlaaQa24
import Derived.Test.YteffiedolcjjlaaQa14
import Derived.Test.YteffiedolcjjlaaQa37
/- marlaw12: first, few. -/
set_option linter.unusedVariables false
set_option linter.unusedSimpArgs false
namespace Go.Proofs.Yteffiedolcjjlaa.Ob
open Go.RowKit Go.Maps Go.Proofs.Yteffiedolcjjlaa.Sh
open Go.Proofs.Yteffiedolcjjlaa.Tx (OwnV SlV sv Only Rd reads_at hasT hasT_yes hasT_no hasT_iff WK RB sortT TextsPost Strict texts_at sort_strict')

/-! The chapter's example: a commit of the empty tree. -/
def exO : ObM := ⟨3, [], [], hashL [2, 0], [], 0, 0, []⟩
def exC : List UInt8 := encL exO
theorem ex_mayT : mayB (objK 2) = true := by decide
theorem ex_mayC : mayB exO = true := by decide +kernel
theorem ex_encT : encL (objK 2) = [2, 0] := by
  unfold encL encIs objK
  rw [if_neg (by decide), if_pos rfl, show ([] : List ItM).length = 0 from rfl, putL_lt (by decide)]
  rfl
theorem ex_ne : hashL [2, 0] ≠ hashL exC := by
  have e : exC = [3] ++ (unhexL (hashL [2, 0]) ++ [0] ++ [] ++ [0] ++ [0] ++ ([0] ++ [])) := by
    unfold exC encL encC exO
    rw [if_neg (by decide), if_neg (by decide), show (0 : Int).toNat = 0 from rfl, show ([] : List UInt8).length = 0 from rfl, putL_lt (by decide)]
    rfl
  rw [e]
  decide +kernel
theorem ex_len : exC.length ≤ 1000 := by
  have e : exC = [3] ++ (unhexL (hashL [2, 0]) ++ [0] ++ [] ++ [0] ++ [0] ++ ([0] ++ [])) := by
    unfold exC encL encC exO
    rw [if_neg (by decide), if_neg (by decide), show (0 : Int).toNat = 0 from rfl, show ([] : List UInt8).length = 0 from rfl, putL_lt (by decide)]
    rfl
  rw [e]
  decide +kernel
def exL : List (List UInt8) := [[2, 0], exC]
theorem ex_ids : tIds exL false = [hashL [2, 0], hashL exC] := rfl
theorem ex_srcT : srcP exL false (hashL [2, 0]) = some [2, 0] := by
  unfold srcP
  rw [ex_ids]
  exact if_pos rfl
theorem ex_srcC : srcP exL false (hashL exC) = some exC := by
  unfold srcP
  rw [ex_ids, show exL = [[2, 0], exC] from rfl, srcK, if_neg ex_ne, srcK, if_pos rfl]
theorem ex_objT : objP (srcP exL false) (hashL [2, 0]) = some (objK 2) := by
  rw [objP_some ex_srcT, ← ex_encT, decB_enc ex_mayT, if_pos rfl, objR_enc ex_mayT]
theorem ex_objC : objP (srcP exL false) (hashL exC) = some exO := by
  rw [objP_some ex_srcC]
  unfold exC
  rw [decB_enc ex_mayC, if_pos rfl, objR_enc ex_mayC]
theorem ex_nxT : nxP (srcP exL false) (str (hashL [2, 0])) = [] := by
  unfold nxP
  rw [str_toList, ex_objT]
  rfl
theorem ex_nxC : nxP (srcP exL false) (str (hashL exC)) = [str (hashL [2, 0])] := by
  unfold nxP
  rw [str_toList, ex_objC]
  rfl
theorem ex_is (s : ByteArray) (h : s = str (hashL [2, 0]) ∨ s = str (hashL exC)) : isP (srcP exL false) s = true := by
  rcases h with rfl | rfl
  · unfold isP; rw [str_toList, ex_objT]; rfl
  · unfold isP; rw [str_toList, ex_objC]; rfl
theorem ex_rb (s : ByteArray) : RB (nxP (srcP exL false)) [str (hashL exC)] s ↔ s = str (hashL exC) ∨ s = str (hashL [2, 0]) := by
  constructor
  · intro h
    refine h.all (P := fun s => s = str (hashL exC) ∨ s = str (hashL [2, 0])) (fun f hf => .inl (List.mem_singleton.1 hf)) fun a ha b hb => ?_
    rcases ha with rfl | rfl
    · rw [ex_nxC] at hb
      exact .inr (List.mem_singleton.1 hb)
    · rw [ex_nxT] at hb
      cases hb
  · rintro (rfl | rfl)
    · exact .here (List.mem_singleton.2 rfl)
    · exact (RB.here (List.mem_singleton.2 rfl)).step (by rw [ex_nxC]; exact List.mem_singleton.2 rfl)
/-- What is reached of the example: both. -/
theorem ex_two {xs : List ByteArray} {k : Nat} (h : WK (nxP (srcP exL false)) [str (hashL exC)] xs k) : xs.length ≤ 2 := by
  have := h.within (S := [str (hashL exC), str (hashL [2, 0])]) fun s hs => by
    rcases (ex_rb s).1 hs with rfl | rfl <;> simp
  simpa using this
theorem ex_all {xs : List ByteArray} (h : WK (nxP (srcP exL false)) [str (hashL exC)] xs xs.length) : (xs.filter (isP (srcP exL false))).length = 2 ∧ (xs.filter (fun s => !isP (srcP exL false) s)).length = 0 := by
  have hall : ∀ s ∈ xs, isP (srcP exL false) s = true := fun s hs => ex_is s ((ex_rb s).1 (h.rb s hs)).symm
  have hf : xs.filter (isP (srcP exL false)) = xs := List.filter_eq_self.2 hall
  have hf2 : xs.filter (fun s => !isP (srcP exL false) s) = [] := List.filter_eq_nil_iff.2 fun s hs => by rw [hall s hs]; decide
  rw [hf, hf2]
  refine ⟨Nat.le_antisymm (ex_two h) ?_, rfl⟩
  have hne : str (hashL exC) ≠ str (hashL [2, 0]) := fun e => ex_ne (str_inj e).symm
  have hnd : [str (hashL exC), str (hashL [2, 0])].Nodup := by
    rw [List.nodup_cons]
    exact ⟨fun hm => hne (List.mem_singleton.1 hm), List.pairwise_singleton _ _⟩
  exact Tx.nodup_len hnd fun s hs => h.done.2 ((ex_rb s).2 (by simpa using hs))
theorem ex_obV (W : World) (v : Value) (hv : v = .agg #[.int .i64 3, .slice none 0 0, .slice none 0 0, .string (str (hashL [2, 0])), .slice none 0 0, .int .i64 0, .int .i64 0, .string ⟨#[]⟩]) : ObV W v exO :=
  ⟨.slice none 0 0, .slice none 0 0, .slice none 0 0, hv, (Own.nil_ W 0).sl, SlI.nil_ W, SlV.nil_ W⟩
/-- A slice of two slices. -/
theorem ls_two {W : World} {v1 v2 : Value} {a b : List UInt8} (h1 : Sl W v1 a) (h2 : Sl W v2 b) : LsV (W.alloc (.cells #[v1, v2] 34)) (.slice (some ⟨W.heap.size, 0, none⟩) 2 2) [a, b] := by
  have hb : Below W.heap.size W (W.alloc (.cells #[v1, v2] 34)) := (Below.refl _ _).alloc (Nat.le_refl _) _
  have hk := Blk.new W 34 #[v1, v2]
  refine LsV.mk (l := [a, b]) (fun k => if k = 0 then v1 else v2) (Nat.le_refl _) (by unfold maxLen; omega) (fun e => by cases e) fun k x hx => ⟨_, rfl, by simp, ?_, ?_⟩
  · rw [Addr.add_mid, hk.cell, Nat.zero_add]
    match k, hx with
    | 0, _ => rfl
    | 1, _ => rfl
  · match k, hx with
    | 0, hx =>
      injection hx with hx
      subst hx
      exact h1.below hb
    | 1, hx =>
      injection hx with hx
      subst hx
      exact h2.below hb
def Yes1 (w : World) (e : Ending) (w' : World) : Prop := e = .returned (.bool true) ∧ Below w.heap.size w w'
set_option maxRecDepth 100000 in
set_option maxHeartbeats 3200000 in
theorem first12_any (w : World) : Calls Try.prog 7 #[] w (Yes1 w) := by
  have HE1 := Lib.hid (encode_any (.agg #[.int .i64 2, .slice none 0 0, .slice none 0 0, .string ⟨#[]⟩, .slice none 0 0, .int .i64 0, .int .i64 0, .string ⟨#[]⟩]) (objK 2) w (objK_v 2 _))
  go_enter Try.func7, Try.ntmps7
  go_wp2_with fail
  refine HE1.out.mono ?_
  rintro e w1 ⟨hy, -, hb1⟩
  obtain ⟨u1, rfl, hu1⟩ := hy ex_mayT
  rw [ex_encT] at hu1
  obtain ⟨A1, c1, rfl, _, _⟩ := hu1.length
  have HB1 := Lib.hid hb1
  have HS1 := Lib.hid hu1.sl
  clear hy hb1 hu1
  go_wp2_with fail
  refine (rid_any _ [2, 0] w1 HS1.out (by simp)).mono ?_
  rintro e w2 ⟨rfl, hb2⟩
  have HB2 := Lib.hid (HB1.out.trans (hb2.mono HB1.out.size))
  have HS2 := Lib.hid (HS1.out.below hb2)
  clear hb2
  go_wp2_with fail
  refine (encode_any _ exO w2 (ex_obV w2 _ rfl)).mono ?_
  rintro e w3 ⟨hy, -, hb3⟩
  obtain ⟨u3, rfl, hu3⟩ := hy ex_mayC
  obtain ⟨A3, c3, rfl, _, _⟩ := hu3.length
  obtain ⟨n3, hn3⟩ : ∃ n, (encL exO).length = n := ⟨_, rfl⟩
  have hn31 : n3 ≤ 1000 := by rw [← hn3]; exact ex_len
  rw [hn3] at hu3 ⊢
  have HB3 := Lib.hid (HB2.out.trans (hb3.mono HB2.out.size))
  have HS3 := Lib.hid (HS2.out.below hb3)
  have HC3 : Hid (Sl w3 (.slice A3 n3 c3) exC) := hu3.sl
  clear hy hb3 hu3 hn3
  go_wp2_with fail
  have HL : Hid (LsV (w3.alloc (.cells #[.slice A1 2 c1, .slice A3 n3 c3] 34)) (.slice (some ⟨w3.heap.size, 0, none⟩) 2 2) exL) := ls_two HS3.out HC3.out
  have HLS : Hid (exL.length ≤ 1000000 ∧ ∀ x ∈ exL, x.length ≤ 1000000) := by
    refine ⟨by decide, fun x hx => ?_⟩
    rcases List.mem_cons.1 hx with rfl | hx
    · decide
    · rw [List.mem_singleton.1 hx]
      have := ex_len
      omega
  have HBA : Hid (Below w.heap.size w (w3.alloc (.cells #[.slice A1 2 c1, .slice A3 n3 c3] 34))) := HB3.out.alloc HB3.out.size _
  have HCA : Hid (Sl (w3.alloc (.cells #[.slice A1 2 c1, .slice A3 n3 c3] 34)) (.slice A3 n3 c3) exC) := HC3.out.below ((Below.refl _ _).alloc (Nat.le_refl _) _)
  refine (source_any _ exL false _ HL.out HLS.out.1 HLS.out.2).mono ?_
  rintro e w4 ⟨p1, p2, p3, rfl, hsrc, hb4⟩
  have HB4 := Lib.hid (HBA.out.trans (hb4.mono HBA.out.size))
  have HC4 := Lib.hid (HCA.out.below hb4)
  have HSRC := Lib.hid hsrc
  clear hb4 hsrc
  go_wp2_with fail
  refine (rid_any _ exC w4 HC4.out (by have := ex_len; omega)).mono ?_
  rintro e w5 ⟨rfl, hb5⟩
  have HB5 := Lib.hid (HB4.out.trans (hb5.mono HB4.out.size))
  have HSR5 := Lib.hid (HSRC.out.below hb5)
  clear hb5
  have hb6 : Below w5.heap.size w5 (w5.alloc (.cells #[.string (str (hexL (sumOf exC)))] 9)) := (Below.refl _ _).alloc (Nat.le_refl _) _
  have hsl6 : SlV (w5.alloc (.cells #[.string (str (hexL (sumOf exC)))] 9)) (.slice (some ⟨w5.heap.size, 0, none⟩) 1 1) ([str (hashL exC)].map sv) := (own_text w5 (str (hashL exC))).slv
  have hclo := closure_any (vi := .slice (some ⟨w5.heap.size, 0, none⟩) 1 1) 10 (HSR5.out.below hb6) HLS.out.1 HLS.out.2 hsl6 (fun s hs => by
    rw [List.mem_singleton.1 hs, str_size]
    unfold hashL
    have := hexL_length (sumOf exC)
    rw [sumOf_length] at this
    omega) (by simp)
  have HCLO := Lib.hid hclo
  have HB6 : Hid (Below w.heap.size w (w5.alloc (.cells #[.string (str (hexL (sumOf exC)))] 9))) := HB5.out.alloc HB5.out.size _
  clear hb6 hsl6 hclo
  go_wp2_with fail
  refine HCLO.out.mono ?_
  rintro e w7 hpost
  rcases hpost with ⟨hm, rfl, hb⟩ | ⟨hm, xs, k, hwk, hb, ⟨hk, hle, v1, v2, rfl, ho1, ho2⟩ | ⟨hlt, rfl⟩⟩
  · exact absurd ⟨by decide, by decide⟩ hm
  · subst hk
    obtain ⟨h2, h0⟩ := ex_all hwk
    have HB7 := Lib.hid (HB6.out.trans (hb.mono HB6.out.size))
    obtain ⟨A1, c1, rfl⟩ := owned_slice ho1
    obtain ⟨A2, c2, rfl⟩ := owned_slice ho2
    rw [List.length_map, List.length_map, Tx.sortT_length, Tx.sortT_length, h2, h0]
    clear hm hwk hb hle ho1 ho2 h2 h0
    go_wp2_with fail
    go_ret
    exact ⟨rfl, HB7.out⟩
  · have := ex_two hwk
    omega
theorem first12_then {w : World} {B : Nat} {w1 : World} (h : Below B w w1) (hB : B ≤ w1.heap.size) : Calls Try.prog 7 #[] w1 fun e w' => e = .returned (.bool true) ∧ Below B w w' :=
  (first12_any w1).mono fun _ _ ⟨he, hb⟩ => ⟨he, h.trans (hb.mono hB)⟩
def FewR (l : List ByteArray) (w : World) (e : Ending) (w' : World) : Prop := ∃ t, e = .returned (.bool t) ∧ (t = true → l.length ≤ 20 ∧ ∀ s ∈ l, s.size ≤ 100) ∧ w = w'
set_option maxRecDepth 100000 in
set_option maxHeartbeats 1600000 in
theorem few12_any (v : Value) (l : List ByteArray) (w : World) (h : SlV w v (l.map sv)) : Calls Try.prog 9 #[v] w (FewR l w) := by
  obtain ⟨A, c, rfl, hlc, hcm, hrd, _⟩ := h
  rw [List.length_map] at hlc hrd ⊢
  unfold maxLen at hcm
  have HR : Hid (∀ k (hk : k < l.length), ∃ ad, A = some ad ∧ w.cell? (ad.add k) = some (.string l[k])) := fun k hk => texts_at hrd k hk
  obtain ⟨n, hn⟩ : ∃ n, l.length = n := ⟨_, rfl⟩
  rw [hn] at hlc ⊢
  have HN := Lib.hid hn
  clear hrd hn
  go_enter Try.func9, Try.ntmps9
  go_wp2_with fail
  go_loopw [3] (fun x wr => ∃ i : Nat, i ≤ n ∧ i ≤ 20 ∧ x = .int .i64 (i : Int) ∧ wr = w ∧ ∀ (j : Nat) (s : ByteArray), j < i → l[j]? = some s → s.size ≤ 100) (fun x _ => 21 - (intOf x).toNat)
  case atStart => exact ⟨0, Nat.zero_le _, Nat.zero_le _, rfl, rfl, fun j s hj => absurd hj (Nat.not_lt_zero _)⟩
  case round =>
    obtain ⟨i, hi, hi2, rfl, rfl, hall⟩ := hrel
    have HALL := Lib.hid hall
    clear hall
    have z0 : (0 : Int) ≤ (i : Int) := by omega
    by_cases hlt : i < n
    · have z1 : (i : Int) < (n : Int) := by omega
      by_cases h20 : i < 20
      · have z2 : (i : Int) < 20 := by omega
        have hil : i < l.length := by have := HN.out; omega
        obtain ⟨ad, rfl, x0⟩ := HR.out i hil
        obtain ⟨s, hs⟩ : ∃ s, l[i] = s := ⟨_, rfl⟩
        rw [hs] at x0
        have HGS : Hid (l[i]? = some s) := by unfold Hid; rw [List.getElem?_eq_getElem hil, hs]
        obtain ⟨m, hm⟩ : ∃ m, s.size = m := ⟨_, rfl⟩
        have HM := Lib.hid hm
        clear hil hs hm
        by_cases h100 : s.size ≤ 100
        · have z3 : (s.size : Int) ≤ 100 := by omega
          go_wp2_with fail
          go_roundw
          case rel => exact ⟨i + 1, by omega, by omega, by go_num, trivial, fun j s' hj hs' => by
            rcases Nat.lt_or_ge j i with h1 | h1
            · exact HALL.out j s' h1 hs'
            · have : j = i := by omega
              subst this
              rw [HGS.out] at hs'
              injection hs' with hs'
              rw [← hs']; exact h100⟩
          case measure => simp [intOf]; omega
        · have z3 : (100 : Int) < (s.size : Int) := by omega
          go_wp2_with fail
          go_ret
          exact ⟨false, rfl, (fun e => by cases e), rfl⟩
      · obtain rfl : i = 20 := by omega
        have z3 : (20 : Int) < (n : Int) := by omega
        go_wp2_with fail
        go_ret
        exact ⟨_, rfl, (fun e => by simp at e; omega), rfl⟩
    · obtain rfl : i = n := by omega
      have hfin : l.length ≤ 20 ∧ ∀ s ∈ l, s.size ≤ 100 := ⟨by rw [HN.out]; exact hi2, fun s hs => by
        obtain ⟨j, hj, e⟩ := List.getElem_of_mem hs
        exact HALL.out j s (by rw [← HN.out]; exact hj) (by rw [List.getElem?_eq_getElem hj, e])⟩
      have HF := Lib.hid hfin
      clear hfin
      go_wp2_with fail
      go_ret
      exact ⟨_, rfl, fun _ => HF.out, rfl⟩
end Go.Proofs.Yteffiedolcjjlaa.Ob
/- The reference's Sort and Unique: texts put where they belong. -/
namespace Go.Proofs.Yteffiedolcjjlaa.Tx
open Go.RowKit Go.Proofs.Yteffiedolcjjlaa.Sh

/-- A front of a slice of one's own is one's own. -/
theorem OwnV.front {E : TypeId} {w : World} {B n c : Nat} {A : Option Addr} {vs : List Value} (h : OwnV E w B (.slice A n c) vs) (k : Nat) (hk : k ≤ vs.length) (hA : A ≠ none) : OwnV E w B (.slice A k c) (vs.take k) := by
  rcases h.blk with ⟨he, _⟩ | ⟨g, c', cur, he, hb, _, hg, hc, hm, hs, ht⟩
  · injection he with e1 _ _; exact absurd e1 hA
  · injection he with e1 e2 e3
    subst e1 e3
    have el : k = (vs.take k).length := by rw [List.length_take]; omega
    conv => arg 4; rw [el]
    refine OwnV.mk hb hg (by rw [List.length_take]; omega) hm hs ?_
    rw [List.length_take, Nat.min_eq_left hk, ← ht, List.take_take, Nat.min_eq_left hk]
theorem ins_perm (out : List ByteArray) (x : ByteArray) (k : Nat) : (out.take k ++ ([x] ++ out.drop k)).Perm (out ++ [x]) := by
  have h1 : (out.take k ++ ([x] ++ out.drop k)).Perm ([x] ++ (out.take k ++ out.drop k)) := by
    rw [← List.append_assoc, ← List.append_assoc]
    exact (List.perm_append_comm (l₁ := out.take k) (l₂ := [x])).append_right _
  rw [List.take_append_drop] at h1
  exact h1.trans List.perm_append_comm

set_option maxRecDepth 100000 in
theorem texts_front (A : Option Addr) (l c k : Nat) (hkc : k ≤ c) (w : World) : (Instr.slice 23 (.slice A l c) none (some (.int .i64 (k : Int))) none).run Try.prog w = .ok (.slice A k c) w := by
  rw [run_slice_h w 23 A l c Try.underlying23 .i64 k (by omega) (by omega), size_str]
  simp only [Result.andThen_ok, sliced, Int.toNat_natCast]
  by_cases h : c = 0
  · subst h; simp
  · have e : A.map (fun a => a.add 0) = A := by cases A <;> simp [Addr.add]
    simp [h, e]
set_option maxRecDepth 100000 in
theorem texts_back (A : Option Addr) (l c k : Nat) (hkl : k ≤ l) (w : World) : (Instr.slice 23 (.slice A l c) (some (.int .i64 (k : Int))) none none).run Try.prog w = .ok (.slice (if c = k then A else A.map (·.add (k * 1))) (l - k) (c - k)) w := by
  rw [run_slice_l w 23 A l c Try.underlying23 .i64 k (by omega) (by omega), size_str]
  rfl
/-- What stands when a text has been put where it belongs. -/
theorem ins_own {W W1 : World} {B p co n : Nat} {Ao : Option Addr} {out : List ByteArray} (ho : OwnV 9 W B (.slice Ao n co) (out.map sv)) (hn : out.length = n) (hp : p ≤ n) (hW1 : Below W.heap.size W W1) :
    OwnV 9 W1 B (.slice Ao p co) ((out.take p).map sv) := by
  have h1 := ho.below hW1
  cases Ao with
  | none =>
    have hn0 : n = 0 ∧ co = 0 := by
      rcases ho.blk with ⟨he, _⟩ | ⟨_, _, _, he, _⟩
      · injection he with _ e2 e3; exact ⟨e2, e3⟩
      · injection he with e1 _ _; cases e1
    obtain ⟨rfl, rfl⟩ := hn0
    obtain rfl : p = 0 := by omega
    rw [List.take_zero]
    exact OwnV.nil_ _ _
  | some a =>
    have := h1.front p (by rw [List.length_map]; omega) (by intro e; cases e)
    rwa [List.map_take]

theorem one_more (x : ByteArray) (l : List ByteArray) : ∀ u ∈ [sv x] ++ l.map sv, u.oneCell' = true := fun u hu => sv_one (x :: l) u (by rw [List.map_cons]; exact hu)
theorem row_one (W : World) (x : ByteArray) : (W.alloc (.cells #[.string x] 9)).ownsRow W.heap.size 9 1 (.slice (some ⟨W.heap.size, 0, none⟩) 1 1) 1 [sv x] :=
  ⟨rfl, Or.inr ⟨W.heap.size, 1, #[.string x], rfl, Nat.le_refl _, heap_alloc_new W _, Nat.le_refl _, by unfold maxLen; omega, by simp, by simp [sv]⟩⟩
theorem row_of {w : World} {B : Nat} {v : Value} {ts : List ByteArray} (h : OwnV 9 w B v (ts.map sv)) (n : Nat) (hn : ts.length = n) : w.ownsRow B 9 1 v n (ts.map sv) := by unfold OwnV at h; rwa [List.length_map, hn] at h
theorem row_slice {w : World} {B n : Nat} {v : Value} {vs : List Value} (h : w.ownsRow B 9 1 v n vs) : ∃ A c, v = .slice A n c ∧ Reads w w.heap.size 1 A n vs := by
  have hl : vs.length = n := by have := h.1; omega
  subst hl
  have h' : OwnV 9 w B v vs := h
  obtain ⟨A, c, hv, _, _, hr⟩ := h'.slv.len
  exact ⟨A, c, hv, hr⟩
theorem row_done {w : World} {B p m : Nat} {v : Value} {out : List ByteArray} {x : ByteArray} (hp : (out.take p).length = p) (hm : 1 + (out.drop p).length = m) (h : w.ownsRow B 9 1 v (p + m) ((out.take p).map sv ++ ([sv x] ++ (out.drop p).map sv))) : OwnV 9 w B v ((out.take p ++ ([x] ++ out.drop p)).map sv) := by
  unfold OwnV
  rw [List.length_map, List.length_append, hp, List.length_append, List.length_singleton, hm, List.map_append, List.map_append]
  exact h

end Go.Proofs.Yteffiedolcjjlaa.Tx
