/- Texts put together: USc9. -/
import Derived.Test.YtbenkmihkbjgeaaGreatQu42
import Derived.Test.YtbenkmihkbjgeaaGreatQu43
import Derived.Test.YtbenkmihkbjgeaaGreatQu26
import Derived.BigQuiet
import Derived.OwnWalk
/- Package scan: Scan. (mk_sc9.py wrote it.) -/
set_option linter.unusedVariables false
set_option linter.unusedSimpArgs false
namespace Go.Proofs.YtbenkmihkbjgeaaGreat.Tx
open Go.RowKit Go.Maps Go.Proofs.YtbenkmihkbjgeaaGreat.Sh S7
def namesS (ig : List (List UInt8)) (l : List (List UInt8)) : List (List UInt8) := (l.map (lastN wD)).filter fun p => !ignoredB ig p
def scnE (X : IxM) (c : CSt) (ig : List (List UInt8)) : Int := if lisE c wD = 0 then allE X (scn0 c) (namesS ig (lisO c wD)) else lisE c wD
def scnS (X : IxM) (c : CSt) (ig : List (List UInt8)) : ScM := if lisE c wD = 0 then allS X (scn0 c) (namesS ig (lisO c wD)) else scn0 c
def scnC (X : IxM) (c : CSt) (ig : List (List UInt8)) : CSt := (scnS X c ig).c
def scnR (X : IxM) (c : CSt) (ig : List (List UInt8)) : List RwM := if scnE X c ig = 0 then (scnS X c ig).rows else []
def scnN (X : IxM) (c : CSt) (ig : List (List UInt8)) : Nat := if scnE X c ig = 0 then (scnS X c ig).n else 0
def scnX (X : IxM) (c : CSt) (ig : List (List UInt8)) : IxM := if scnE X c ig = 0 then ⟨(scnS X c ig).files, (scnC X c ig).time⟩ else X
section
variable {X : IxM} {s : ScM} {p : List UInt8}
theorem all_app : ∀ {l : List (List UInt8)} {s : ScM}, allE X s l = 0 → allE X s (l ++ [p]) = takE X (allS X s l) p ∧ allS X s (l ++ [p]) = takS X (allS X s l) p
 | [], s, _ => by
  refine ⟨?_, ?_⟩
  ·show (if takE X s p = 0 then allE X (takS X s p) [] else takE X s p) = takE X s p
   split
   ·rename_i h; exact h.symm
   ·rfl
  ·show (if takE X s p = 0 then allS X (takS X s p) [] else takS X s p) = takS X s p
   split <;> rfl
 | q :: l, s, h => by
  have h1 : (if takE X s q = 0 then allE X (takS X s q) l else takE X s q) = 0 := h
  by_cases h0 : takE X s q = 0
  ·rw [if_pos h0] at h1
   obtain ⟨g1, g2⟩ := all_app h1
   refine ⟨?_, ?_⟩
   ·show (if takE X s q = 0 then allE X (takS X s q) (l ++ [p]) else takE X s q) = takE X (if takE X s q = 0 then allS X (takS X s q) l else takS X s q) p
    rw [if_pos h0, if_pos h0]; exact g1
   ·show (if takE X s q = 0 then allS X (takS X s q) (l ++ [p]) else takS X s q) = takS X (if takE X s q = 0 then allS X (takS X s q) l else takS X s q) p
    rw [if_pos h0, if_pos h0]; exact g2
  ·rw [if_neg h0] at h1; exact absurd h1 h0
theorem all_stop : ∀ {l l2 : List (List UInt8)} {s : ScM}, allE X s l ≠ 0 → allE X s (l ++ l2) = allE X s l ∧ allS X s (l ++ l2) = allS X s l
 | [], _, s, h => absurd rfl h
 | q :: l, l2, s, h => by
  have h1 : (if takE X s q = 0 then allE X (takS X s q) l else takE X s q) ≠ 0 := h
  by_cases h0 : takE X s q = 0
  ·rw [if_pos h0] at h1
   obtain ⟨g1, g2⟩ := all_stop (l2 := l2) h1
   refine ⟨?_, ?_⟩
   ·show (if takE X s q = 0 then allE X (takS X s q) (l ++ l2) else takE X s q) = if takE X s q = 0 then allE X (takS X s q) l else takE X s q
    rw [if_pos h0, if_pos h0]; exact g1
   ·show (if takE X s q = 0 then allS X (takS X s q) (l ++ l2) else takS X s q) = if takE X s q = 0 then allS X (takS X s q) l else takS X s q
    rw [if_pos h0, if_pos h0]; exact g2
  ·refine ⟨?_, ?_⟩
   ·show (if takE X s q = 0 then allE X (takS X s q) (l ++ l2) else takE X s q) = if takE X s q = 0 then allE X (takS X s q) l else takE X s q
    rw [if_neg h0, if_neg h0]
   ·show (if takE X s q = 0 then allS X (takS X s q) (l ++ l2) else takS X s q) = if takE X s q = 0 then allS X (takS X s q) l else takS X s q
    rw [if_neg h0, if_neg h0]
end
theorem names_next {ig L : List (List UInt8)} {k : Nat} {q : List UInt8} (h : L[k]? = some q) : namesS ig (L.take (k + 1)) = namesS ig (L.take k) ++ if ignoredB ig (lastN wD q) = true then [] else [lastN wD q] := by
 unfold namesS
 rw [List.take_add_one, h, List.map_append, List.filter_append]
 congr 1
 show List.filter (fun p => !ignoredB ig p) [lastN wD q] = _
 rw [List.filter_cons]
 cases ignoredB ig (lastN wD q) <;> rfl
theorem names_all {ig L : List (List UInt8)} (k : Nat) : namesS ig L = namesS ig (L.take k) ++ namesS ig (L.drop k) := by
 conv => lhs; rw [← List.take_append_drop k L]
 unfold namesS
 rw [List.map_append, List.filter_append]
theorem names_len {ig L : List (List UInt8)} : (namesS ig L).length ≤ L.length := by
 unfold namesS
 refine Nat.le_trans (List.length_filter_le _ _) ?_
 rw [List.length_map]
 exact Nat.le_refl _
theorem all_bounds {X : IxM} : ∀ {l : List (List UInt8)} {s : ScM} {i : Nat}, GoS s.c i → GoS (allS X s l).c (i + 5 * l.length) ∧ (allS X s l).n ≤ s.n + l.length ∧ (allS X s l).files.length ≤ s.files.length + l.length
 | [], s, i, h => ⟨by simpa [allS] using h, by simp [allS], by simp [allS]⟩
 | p :: l, s, i, h => by
  have h1 := h.tak X p
  have h2 := (tak_rows X s p).2
  have h3 : (takS X s p).files.length ≤ s.files.length + 1 := by
   unfold takS
   split
   ·omega
   ·split
    ·dsimp only; omega
    ·split
     ·dsimp only; omega
     ·exact putK_len _ _
  show GoS (if takE X s p = 0 then allS X (takS X s p) l else takS X s p).c _ ∧ (if takE X s p = 0 then allS X (takS X s p) l else takS X s p).n ≤ _ ∧ (if takE X s p = 0 then allS X (takS X s p) l else takS X s p).files.length ≤ _
  rw [List.length_cons]
  split
  ·obtain ⟨g1, g2, g3⟩ := all_bounds (X := X) (l := l) h1
   exact ⟨g1.upto (by omega), by omega, by omega⟩
  ·exact ⟨h1.upto (by omega), by omega, by omega⟩
section
variable {w wx w2 : World} {b s i : Nat} {Z D : Nat → Prop} {c c' : CSt}
theorem StAt.of_read (h : StAt w wx b c s Z) (hm : MineP w w2 b c' (fun k => (Z k ∨ k = s) ∨ D k)) (hk : Keeps w (fun k => Z k ∨ k = s) wx w2) (hD : ∀ k, D k → wx.heap.size ≤ k) : StAt w w2 b c' s (fun k => Z k ∨ D k) := by
 obtain ⟨z1, z2, r, z3⟩ := h
 have hsl := z3.lt
 refine ⟨hm.fewer (fun k hk => ?_), ⟨z2.1, fun hz => ?_⟩, r, Only.blk hk z3 (fun hn => hn.1 (.inr rfl))⟩
 ·rcases hk with (hk | hk) | hk
  ·exact .inl (.inl hk)
  ·exact .inr hk
  ·exact .inl (.inr hk)
 ·rcases hz with hz | hz
  ·exact z2.2 hz
  ·have := hD s hz; omega
theorem lisn_any (dir : List UInt8) (h : MineP w wx b c Z) (hg : GoS c i) (hi : i ≤ 400000) (hd : dir.length ≤ 900000) :
  Calls Tryz.prog 33 #[.pointer (some ⟨b, 0, none⟩), .string (Tx.str dir)] wx fun e w' => ∃ (v : Value) (D : Nat → Prop) (B : Nat), e = .returned (.tuple #[v, .int .i64 (lisE c dir)]) ∧ MineP w w' b (bgC c).c (fun k => Z k ∨ D k) ∧ Keeps w Z wx w' ∧ (∀ k, D k → wx.heap.size ≤ k) ∧ OwnV 9 w' B v (((lisO c dir).map Tx.str).map sv) ∧ ∀ k, v.ownBlock = some k → D k := by
 obtain ⟨F, M, h1, h2, h3, h4⟩ := h
 refine (list_any F M b c _ dir wx h1 (hg.ready (by omega)) hd).mono ?_
 rintro e w' ⟨v, wm, rfl, hp, hb, ho⟩
 obtain ⟨m1, m2⟩ := MineP.of' h2 h3 h4 hp
 obtain ⟨M', _, hon, _⟩ := hp
 have hz := hon.size
 exact ⟨v, fun k => wm.heap.size ≤ k ∧ k < w'.heap.size, wm.heap.size, rfl, m1.fresh hb, m2.below hb, fun k hk => by omega, ho, fun k hk => ho.lt k hk⟩
end
def LoopR (w w3 : World) (b s x g bf : Nat) (m : Option Nat) (Z3 : Nat → Prop) (X : IxM) (c : CSt) (l : List (List UInt8)) (rv : Value) (Z4 : Nat → Prop) (wr : World) : Prop :=
 allE X (scn0 c) l = 0 ∧ ScA w wr b s x g bf m rv Z4 (allS X (scn0 c) l).c X (allS X (scn0 c) l).rows (allS X (scn0 c) l).files (allS X (scn0 c) l).n ∧ (∀ q, Z3 q → Z4 q) ∧ (∀ q, Z4 q → Z3 q ∨ w3.heap.size ≤ q) ∧ (∀ q, rv.ownBlock = some q → w3.heap.size ≤ q) ∧ Only (fun q => q = g ∨ q = bf ∨ (¬ Z3 q ∧ w.heap.size ≤ q)) w3 wr
theorem belowN_ {B : Nat} {a w : World} (h : Below B a w) (n : Nat) : Below B a (w.drewN n) := ⟨h.os, h.tape, h.output, h.size, h.block⟩
theorem nowm_any {w w1 : World} {b : Nat} {c : CSt} {Z : Nat → Prop} (h : MineP w w1 b c Z) : Calls Tryz.prog 37 #[.pointer (some ⟨b, 0, none⟩)] w1 fun e w' => e = .returned (.int .i64 c.time) ∧ w1 = w' := by
 obtain ⟨F, M, h1, _⟩ := h
 exact now_any h1
theorem trimw_any (q : List UInt8) (W : World) : Calls Tryz.prog 34 #[.string (Tx.str q), .string ⟨#[119, 47]⟩] W fun e w' => e = .returned (.string (Tx.str (lastN wD q))) ∧ W = w' := trim_any wD q W
def ScnPost (w wx : World) (b s x : Nat) (Z : Nat → Prop) (X : IxM) (c : CSt) (ig : List (List UInt8)) (e : Ending) (w' : World) : Prop :=
 ∃ rv m' Z', e = .returned (.tuple #[rv, .int .i64 (scnN X c ig : Int), .int .i64 (scnE X c ig)]) ∧ OwnR 120 w' w.heap.size rv (scnR X c ig) ∧ StAt w w' b (scnC X c ig) s Z' ∧ IxAt w' x (scnX X c ig) m' ∧ (∀ k, m' = some k → Z' k) ∧ (∀ k, Z k → Z' k) ∧ (∀ k, Z' k → Z k ∨ wx.heap.size ≤ k) ∧ Only (fun k => k = x ∨ (¬ Z k ∧ w.heap.size ≤ k)) wx w' ∧ ∀ k, rv.ownBlock = some k → Z' k
set_option maxRecDepth 100000 in
set_option maxHeartbeats 6400000 in
theorem scan_any {w wx : World} {b s x i : Nat} {m : Option Nat} {Z : Nat → Prop} {X : IxM} {c : CSt} {vI : Value} (ig : List (List UInt8)) (hS : StAt w wx b c s Z) (hX : IxAt wx x X m) (hZx : Z x ∧ ∀ k, m = some k → Z k) (hxl : w.heap.size ≤ x) (hg : GoS c i) (hi : i + 5 * (lisO c wD).length ≤ 300000) (hll : (lisO c wD).length ≤ 60000) (hI : SlV w vI ((ig.map Tx.str).map sv)) (hIn : ig.length ≤ 1000) (hIz : ∀ p ∈ ig, p.length ≤ 1000) (hids : ∀ k ∈ X.files, k.id.length ≤ 800000) :
  Calls Tryz.prog 14 #[.pointer (some ⟨b, 0, none⟩), .pointer (some ⟨s, 0, none⟩), .pointer (some ⟨x, 0, none⟩), vI] wx (ScnPost w wx b s x Z X c ig) := by
 have H0 := Lib.hid hS
 have HX := Lib.hid hX
 have HZX := Lib.hid hZx
 have HXL := Lib.hid hxl
 have HG := Lib.hid hg
 have HI := Lib.hid hI
 have HIN := Lib.hid hIn
 have HIZ := Lib.hid hIz
 have HIDS := Lib.hid hids
 obtain ⟨A1, c1, rfl, hI1, hI2, _⟩ := hI.len
 rw [List.length_map, List.length_map] at hI1 HI ⊢
 obtain ⟨il, hil⟩ : ∃ l, ig.length = l := ⟨_, rfl⟩
 rw [hil] at hI1 HI ⊢
 unfold maxLen at hI2
 obtain ⟨re, hre⟩ : ∃ k, lisE c wD = k := ⟨_, rfl⟩
 obtain ⟨L, hL⟩ : ∃ l, lisO c wD = l := ⟨_, rfl⟩
 obtain ⟨c2, hc2⟩ : ∃ k, (bgC c).c = k := ⟨_, rfl⟩
 have HRE := Lib.hid hre
 have HLL := Lib.hid hL
 have HC2 := Lib.hid hc2
 have HLP : Hid (∀ q ∈ L, q.length ≤ 1000) := by rw [← hL]; exact (lis_short (hg.ready (by omega)) wD).2
 have HLE := Lib.hid (lisn_any wD hS.1 hg (by omega) (by decide))
 rw [hre, hL, hc2] at HLE
 rw [hL] at hi hll
 have HIB := Lib.hid hi
 have HG2 : Hid (GoS c2 (i + 1)) := by rw [← hc2]; exact hg.bg
 clear hS hX hZx hxl hg hI hIn hIz hids hil hre hL hc2 hi
 go_enter Tryz.func14, Tryz.ntmps14
 go_wp2_with fail
 refine HLE.out.mono ?_
 rintro e w2 ⟨v, D, BL, rfl, hm, hk, hD, ho, hoD⟩
 have hs2 := H0.out.of_read (hm.fewer (fun k hk => hk)) hk hD
 have hkz : Keeps w Z wx w2 := hk.fewer (fun k hk => .inl hk)
 have hx2 := HX.out.only hkz (fun hn => hn.1 HZX.out.1) (fun k hk' hn => hn.1 (HZX.out.2 k hk'))
 have HS2 := Lib.hid hs2
 have HX2 := Lib.hid hx2
 have HKZ := Lib.hid hkz
 have HD := Lib.hid hD
 have HO2 := Lib.hid ho
 have HOD := Lib.hid hoD
 have HW2 : Hid (wx.heap.size ≤ w2.heap.size) := Only.size hkz
 obtain ⟨vA, vc, rfl, hv1, hv2⟩ := ho.length
 simp only [List.length_map] at hv1 HO2 HOD ⊢
 obtain ⟨M, hM⟩ : ∃ k, L.length = k := ⟨_, rfl⟩
 have HM := Lib.hid hM
 rw [hM] at hv1 HO2 HOD hll HIB ⊢
 unfold maxLen at hv2
 clear hm hk hD ho hoD hs2 hkz hx2 hM HLE
 by_cases h0 : re ≠ 0
 ·have e0 : (re != 0) = true := by simpa using h0
  have HE : Hid (scnE X c ig = re ∧ scnC X c ig = c2 ∧ scnR X c ig = [] ∧ scnN X c ig = 0 ∧ scnX X c ig = X) := by
   have h1 : scnE X c ig = re := by unfold scnE; rw [HRE.out, if_neg h0]
   have h2 : scnC X c ig = c2 := by unfold scnC scnS; rw [HRE.out, if_neg h0]; exact HC2.out
   exact ⟨h1, h2, by unfold scnR; rw [h1, if_neg h0], by unfold scnN; rw [h1, if_neg h0], by unfold scnX; rw [h1, if_neg h0]⟩
  clear h0
  go_wp2_with fail
  go_ret3
  exact ⟨_, m, fun k => Z k ∨ D k, by rw [HE.out.1, HE.out.2.2.2.1]; rfl, by rw [HE.out.2.2.1]; exact OwnR.nil_ _ _ _, by rw [HE.out.2.1]; exact HS2.out, by rw [HE.out.2.2.2.2]; exact HX2.out, fun k hk => .inl (HZX.out.2 k hk), fun k hk => .inl hk, fun k hk => hk.imp id (HD.out k), Only.more HKZ.out (fun k _ hk => .inr hk), fun k hk => by cases hk⟩
 obtain rfl : re = 0 := by omega
 clear h0
 have hmm := @run_makeMap Tryz.prog
 go_upto_region 5 with (fail)
 obtain ⟨w3, hw3⟩ : ∃ W, W = (w2.alloc (.map #[] 0)).alloc (.cells #[.pointer (some ⟨b, 0, none⟩), .pointer (some ⟨s, 0, none⟩), .pointer (some ⟨x, 0, none⟩), .slice none 0 0, .map (some w2.heap.size), .int .i64 0] 106) := ⟨_, rfl⟩
 rw [← hw3]
 obtain ⟨bf, hbf⟩ : ∃ k, k = w2.heap.size := ⟨_, rfl⟩
 obtain ⟨g, hgd⟩ : ∃ k, k = w2.heap.size + 1 := ⟨_, rfl⟩
 have hb3 : Below w2.heap.size w2 w3 := by rw [hw3]; exact ((Below.refl _ _).alloc (Nat.le_refl _) _).alloc (by simp) _
 have hsz3 : w3.heap.size = w2.heap.size + 2 := by rw [hw3]; simp
 obtain ⟨Z3, hZ3⟩ : ∃ Z3 : Nat → Prop, Z3 = fun k => (Z k ∨ D k) ∨ (w2.heap.size ≤ k ∧ k < w3.heap.size) := ⟨_, rfl⟩
 have HLT : Hid (s < w2.heap.size ∧ x < w2.heap.size) := ⟨by obtain ⟨_, _, _, z⟩ := HS2.out; exact z.lt, HX2.out.lt.1⟩
 have HML : Hid (∀ k, m = some k → k < w2.heap.size) := fun k hk => (HX2.out.lt.2 k hk).1
 have hW0 : w.heap.size ≤ w2.heap.size := HS2.out.bel.size
 have HA3 : Hid (ScA w w3 b s x g bf m (.slice none 0 0) Z3 c2 X [] [] 0) := by
  rw [hZ3]
  refine ⟨HS2.out.fresh hb3, HX2.out.below hb3, ?_, OwnR.nil_ _ _ _, ⟨.map [], ?_, KnOK.empty⟩, ⟨.inl (.inl HZX.out.1), fun k hk => .inl (.inl (HZX.out.2 k hk))⟩, ⟨.inr ⟨by omega, by omega⟩, by omega⟩, ⟨.inr ⟨by omega, by omega⟩, by omega⟩, fun k hk => by cases hk⟩
  ·rw [hw3, hgd, hbf]
   have := Blk.new (w2.alloc (.map #[] 0)) 106 #[.pointer (some ⟨b, 0, none⟩), .pointer (some ⟨s, 0, none⟩), .pointer (some ⟨x, 0, none⟩), .slice none 0 0, .map (some w2.heap.size), .int .i64 0]
   have e : (w2.alloc (.map #[] 0)).heap.size = w2.heap.size + 1 := by simp
   rw [e] at this
   exact this
  ·have h1 := World.ownsMap_made w2 Tryz.prog 9 Tx.hv
   have h2 := own_only h1 (Only.of_below (M := fun _ => False) (show Below (w2.alloc (.map #[] 0)).heap.size (w2.alloc (.map #[] 0)) w3 by rw [hw3]; exact (Below.refl _ _).alloc (Nat.le_refl _) _)) id
   rw [hbf]
   exact own_exact h2
 have HZ3 : Hid ((∀ k, Z k → Z3 k) ∧ (∀ k, Z3 k → Z k ∨ wx.heap.size ≤ k) ∧ (∀ k, D k → Z3 k)) := by
  rw [hZ3]
  refine ⟨fun k hk => .inl (.inl hk), fun k hk => ?_, fun k hk => .inl (.inr hk)⟩
  rcases hk with (hk | hk) | hk
  ·exact .inl hk
  ·exact .inr (HD.out k hk)
  ·have := HW2.out; exact .inr (by omega)
 have HV3 : Hid (OwnV 9 w3 BL (.slice vA M vc) ((L.map Tx.str).map sv)) := (Only.of_below (M := fun _ => False) hb3).own HO2.out (fun _ _ => id)
 have HVL : Hid (∀ k, (Value.slice vA M vc).ownBlock = some k → k < w2.heap.size) := fun k hk => (HO2.out.lt k hk).2
 have HGB : Hid (w2.heap.size ≤ g ∧ w2.heap.size ≤ bf ∧ g < w3.heap.size ∧ bf < w3.heap.size) := by unfold Hid; omega
 have HW3 : Hid (w2.heap.size ≤ w3.heap.size ∧ w.heap.size ≤ w2.heap.size) := by unfold Hid; omega
 have HK3 : Hid (Only (fun k => ¬ Z k ∧ w.heap.size ≤ k) wx w3) := Only.then_below HKZ.out hb3
 try rw [← hgd]
 clear hb3 hZ3 hw3 hsz3 hbf hgd hmm hW0
 go_wp2_with fail
 go_loopw [33] (fun iv wr => ∃ (k : Nat) (rv : Value) (Z4 : Nat → Prop), k ≤ M ∧ iv = .int .i64 (k : Int) ∧ LoopR w w3 b s x g bf m Z3 X c (namesS ig (L.take k)) rv Z4 wr) (fun iv _ => M - (intOf iv).toNat)
 case atStart => exact ⟨0, .slice none 0 0, Z3, Nat.zero_le _, rfl, rfl, by
  have h := HA3.out
  rw [← HC2.out] at h
  exact h, fun _ h => h, fun _ h => .inl h, (fun _ h => by cases h), Only.refl _ _⟩
 case round =>
  obtain ⟨k, rv, Z4, hk, rfl, hall, ha, hz1, hz2, hrv, hon⟩ := hrel
  obtain ⟨S, hS⟩ : ∃ S, allS X (scn0 c) (namesS ig (L.take k)) = S := ⟨_, rfl⟩
  have HALL := Lib.hid hall
  have HSS := Lib.hid hS
  rw [hS] at ha
  have HA := Lib.hid ha
  have HZ1 := Lib.hid hz1
  have HZ2 := Lib.hid hz2
  have HRV := Lib.hid hrv
  have HON := Lib.hid hon
  have HBND : Hid (GoS S.c (i + 1 + 5 * k) ∧ S.n ≤ k ∧ S.files.length ≤ k) := by
   have h1 := all_bounds (X := X) (l := namesS ig (L.take k)) (s := scn0 c) (i := i + 1) (show GoS (bgC c).c (i + 1) by rw [HC2.out]; exact HG2.out)
   have h2 := names_len (ig := ig) (L := L.take k)
   rw [List.length_take] at h2
   rw [hS] at h1
   obtain ⟨g1, g2, g3⟩ := h1
   refine ⟨g1.upto (by omega), ?_, ?_⟩
   ·have : (scn0 c).n = 0 := rfl
    omega
   ·have : (scn0 c).files.length = 0 := rfl
    omega
  have HVR : Hid (OwnV 9 wr BL (.slice vA M vc) ((L.map Tx.str).map sv)) := hon.own HV3.out (fun q hq hm => by
   have h1 := HVL.out q hq
   have h2 := HGB.out
   rcases hm with rfl | rfl | hm
   ·omega
   ·omega
   ·exact hm.1 (HZ3.out.2.2 q (HOD.out q hq)))
  have HIR : Hid (SlV wr (.slice A1 il c1) ((ig.map Tx.str).map sv)) := HI.out.below ha.st.bel
  have HMB : Hid (g ≠ x ∧ ∀ q, m = some q → q ≠ bf) := ⟨fun e => by have := HLT.out.2; have := HGB.out.1; omega, fun q hq e => by have := HML.out q hq; have := HGB.out.2.1; omega⟩
  have HWR : Hid (w3.heap.size ≤ wr.heap.size) := Only.size hon
  clear hall hS ha hz1 hz2 hrv hon
  have k0 : (0 : Int) ≤ (k : Int) := by omega
  by_cases hlt : k < M
  ·have k1 : (k : Int) < (M : Int) := by omega
   have k2 : (k : Int) ≤ (M : Int) := by omega
   have hkm : k < L.length := by rw [HM.out]; exact hlt
   obtain ⟨q, hq⟩ : ∃ q, L[k] = q := ⟨_, rfl⟩
   have hqk : L[k]? = some q := by rw [List.getElem?_eq_getElem hkm, hq]
   have hql : q.length ≤ 1000 := HLP.out q (List.mem_of_getElem? hqk)
   have hov := HVR.out
   obtain ⟨A', c', he, _, _, hrd⟩ := hov.slv.len
   injection he with he1 he2 he3
   subst he1
   clear he2 he3
   simp only [List.length_map] at hrd
   have hkm' : k < (L.map Tx.str).length := by rw [List.length_map]; exact hkm
   have hta := texts_at (xs := L.map Tx.str) (by simpa using hrd) k hkm'
   obtain ⟨ad, rfl, hcell⟩ := hta
   have hcell2 : wr.cell? (ad.add k) = some (.string (Tx.str q)) := by rw [hcell]; simp [hq]
   have HNX := Lib.hid (names_next (ig := ig) hqk)
   have HNA := Lib.hid (names_all (ig := ig) (L := L) (k + 1))
   have hlq : (lastN wD q).length ≤ 1000 := Nat.le_trans (last_le _ _) hql
   obtain ⟨z, hz⟩ : ∃ z, lastN wD q = z := ⟨_, rfl⟩
   rw [hz] at HNX hlq
   have HZQ := Lib.hid hz
   obtain ⟨t, ht⟩ : ∃ t, ignoredB ig z = t := ⟨_, rfl⟩
   have HT := Lib.hid ht
   have HLQ := Lib.hid hlq
   clear hov hrd hkm' hcell hq hqk hkm hz ht hql
   go_wp2_with fail
   refine (trimw_any q wr).mono ?_
   rintro e w4 ⟨rfl, rfl⟩
   rw [HZQ.out]
   go_wp2_with fail
   refine (nignored_any (.slice A1 il c1) ig z wr HIR.out (by have := HIN.out; omega) (fun p hp => by have := HIZ.out p hp; omega) (by omega)).mono ?_
   rw [HT.out]
   rintro e w5 ⟨rfl, hb5⟩
   have HA5 := Lib.hid (HA.out.below hb5)
   have HON5 := Lib.hid (Only.then_below HON.out hb5)
   have HW5 : Hid (wr.heap.size ≤ w5.heap.size) := hb5.size
   clear hb5 hcell2 HVR HIR HA HON
   cases t with
   | true =>
    have HN : Hid (namesS ig (L.take (k + 1)) = namesS ig (L.take k)) := by have h := HNX.out; rw [if_pos HT.out, List.append_nil] at h; exact h
    go_wp2_with fail
    go_roundw
    case rel => exact ⟨k + 1, rv, Z4, by omega, by go_num, by rw [HN.out]; exact HALL.out, by rw [HN.out, HSS.out]; exact HA5.out, HZ1.out, HZ2.out, HRV.out, HON5.out⟩
    case measure => simp [intOf]; omega
   | false =>
    have HN : Hid (namesS ig (L.take (k + 1)) = namesS ig (L.take k) ++ [z]) := by have h := HNX.out; rw [if_neg (by rw [HT.out]; decide)] at h; exact h
    have HAP : Hid (allE X (scn0 c) (namesS ig (L.take (k + 1))) = takE X S z ∧ allS X (scn0 c) (namesS ig (L.take (k + 1))) = takS X S z) := by
     have h := all_app (p := z) HALL.out
     rw [HSS.out] at h
     rw [HN.out]
     exact h
    go_wp2_with fail
    refine (sctake_any z HA5.out HMB.out.1 HMB.out.2 HBND.out.1 (by have := HIB.out; omega) (by have := HLQ.out; omega) (by have := HBND.out.2.1; omega) (by have := HBND.out.2.2; omega) HIDS.out (by have h1 := HW3.out; have h2 := HWR.out; have h3 := HW5.out; omega)).mono ?_
    obtain ⟨te, hte⟩ : ∃ k, takE X S z = k := ⟨_, rfl⟩
    rintro e w6 ⟨rv6, Z6, rfl, ha6, hz61, hz62, hrv6, hk6⟩
    rw [hte]
    have HTE := Lib.hid hte
    have HA6 := Lib.hid ha6
    have HZ61 : Hid (∀ q, Z3 q → Z6 q) := fun q hq => hz61 q (HZ1.out q hq)
    have HZ62 : Hid (∀ q, Z6 q → Z3 q ∨ w3.heap.size ≤ q) := fun q hq => by
     rcases hz62 q hq with h | h
     ·exact HZ2.out q h
     ·have h1 := HWR.out; have h2 := HW5.out; exact .inr (by omega)
    have HRV6 : Hid (∀ q, rv6.ownBlock = some q → w3.heap.size ≤ q) := fun q hq => by
     rcases hrv6 q hq with h | h
     ·exact HRV.out q h
     ·have h1 := HWR.out; have h2 := HW5.out; omega
    have HON6 : Hid (Only (fun q => q = g ∨ q = bf ∨ (¬ Z3 q ∧ w.heap.size ≤ q)) w3 w6) := HON5.out.trans hk6 (fun q hq => by
     rcases hq with hq | hq | hq | hq
     ·exact .inl (.inl hq)
     ·exact .inl (.inr (.inl hq))
     ·exact .inr (HRV.out q hq)
     ·exact .inl (.inr (.inr ⟨fun h => hq.1 (HZ1.out q h), hq.2⟩)))
    clear ha6 hz61 hz62 hrv6 hk6 hte HA5 HON5
    by_cases he0 : te = 0
    ·subst he0
     go_wp2_with fail
     go_roundw
     case rel => exact ⟨k + 1, rv6, Z6, by omega, by go_num, by rw [HAP.out.1]; exact HTE.out, by rw [HAP.out.2]; exact HA6.out, HZ61.out, HZ62.out, HRV6.out, HON6.out⟩
     case measure => simp [intOf]; omega
    ·have e0 : (te != 0) = true := by simpa using he0
     have HE : Hid (scnE X c ig = te ∧ scnC X c ig = (takS X S z).c ∧ scnR X c ig = [] ∧ scnN X c ig = 0 ∧ scnX X c ig = X) := by
      have h2 := all_stop (X := X) (l := namesS ig (L.take (k + 1))) (l2 := namesS ig (L.drop (k + 1))) (s := scn0 c) (by rw [HAP.out.1, HTE.out]; exact he0)
      rw [← HNA.out, HAP.out.1, HAP.out.2, HTE.out] at h2
      have g1 : scnE X c ig = te := by unfold scnE; rw [HRE.out, if_pos rfl, HLL.out]; exact h2.1
      have g2 : scnC X c ig = (takS X S z).c := by unfold scnC scnS; rw [HRE.out, if_pos rfl, HLL.out, h2.2]
      exact ⟨g1, g2, by unfold scnR; rw [g1, if_neg he0], by unfold scnN; rw [g1, if_neg he0], by unfold scnX; rw [g1, if_neg he0]⟩
     clear he0
     go_wp2_with fail
     go_ret3
     refine ⟨_, m, Z6, by rw [HE.out.1, HE.out.2.2.2.1]; rfl, by rw [HE.out.2.2.1]; exact OwnR.nil_ _ _ _, by rw [HE.out.2.1]; exact HA6.out.st, by rw [HE.out.2.2.2.2]; exact HA6.out.ix, HA6.out.zx.2, fun q hq => HZ61.out q (HZ3.out.1 q hq), fun q hq => ?_, ?_, fun q hq => by cases hq⟩
     ·rcases HZ62.out q hq with h | h
      ·exact HZ3.out.2.1 q h
      ·have h1 := HW2.out; have h2 := HW3.out.1; exact .inr (by omega)
     ·refine (Only.more HK3.out (fun q _ hq => .inr hq)).trans HON6.out (fun q hq => ?_)
      have h1 := HW2.out
      have h2 := HGB.out
      rcases hq with rfl | rfl | hq
      ·exact .inr (by omega)
      ·exact .inr (by omega)
      ·exact .inl (.inr ⟨fun h => hq.1 (HZ3.out.1 q h), hq.2⟩)
  ·obtain rfl : k = M := by omega
   have HE : Hid (scnE X c ig = 0 ∧ scnC X c ig = S.c ∧ scnR X c ig = S.rows ∧ scnN X c ig = S.n ∧ scnX X c ig = ⟨S.files, S.c.time⟩) := by
    have h3 : L.take k = L := List.take_of_length_le (Nat.le_of_eq HM.out)
    have h1 := HALL.out
    have h2 := HSS.out
    rw [h3] at h1 h2
    have g1 : scnE X c ig = 0 := by unfold scnE; rw [HRE.out, if_pos rfl, HLL.out]; exact h1
    have g0 : scnS X c ig = S := by unfold scnS; rw [HRE.out, if_pos rfl, HLL.out]; exact h2
    have g2 : scnC X c ig = S.c := by unfold scnC; rw [g0]
    exact ⟨g1, g2, by unfold scnR; rw [g1, if_pos rfl, g0], by unfold scnN; rw [g1, if_pos rfl, g0], by unfold scnX; rw [g1, if_pos rfl, g0, g2]⟩
   obtain ⟨tm, htm⟩ : ∃ t, S.c.time = t := ⟨_, rfl⟩
   rw [htm] at HE
   have HNOW := Lib.hid (nowm_any (HA.out.st.1.below ((Below.refl _ _).drew)))
   rw [htm] at HNOW
   obtain ⟨sn, hsn⟩ : ∃ k, S.n = k := ⟨_, rfl⟩
   rw [hsn] at HE
   obtain ⟨rA, rc, hrv, hr1, hr2, _, _⟩ := HA.out.rows.slR
   obtain ⟨rl, hrl⟩ : ∃ l, S.rows.length = l := ⟨_, rfl⟩
   rw [hrl] at hrv
   subst hrv
   have HSN := Lib.hid hsn
   have cg4 : wr.cell? ⟨g, 4, none⟩ = some (.map (some bf)) := HA.out.blk.cell 4
   have cx0 : wr.cell? ⟨x, 0, none⟩ = some (.map m) := HA.out.ix.blk.cell 0
   have cx1 : wr.cell? ⟨x, 1, none⟩ = some (.int .i64 X.at_) := HA.out.ix.blk.cell 1
   have fx0 : wr.frozen? ⟨x, 0, none⟩ = false := HA.out.ix.blk.frozen 0
   have fx1 : wr.frozen? ⟨x, 1, none⟩ = false := HA.out.ix.blk.frozen 1
   obtain ⟨W6, hW6⟩ : ∃ W, W = (wr.drew.setCell ⟨x, 0, none⟩ (.map (some bf))).setCell ⟨x, 1, none⟩ (.int .i64 tm) := ⟨_, rfl⟩
   have ho5 : Only (fun q => q = x) wr (wr.drew.setCell ⟨x, 0, none⟩ (.map (some bf))) := ((Only.refl (fun q => q = x) wr).drew).set_ (.inl rfl) _
   have ho6 : Only (fun q => q = x) wr W6 := by rw [hW6]; exact ho5.set_ (.inl rfl) _
   have hbx : Blk W6 x 102 #[.map (some bf), .int .i64 tm] := by
    rw [hW6]
    have h := (HA.out.ix.blk.drew.set_ 0 (.map (some bf))).set_ 1 (.int .i64 tm)
    simpa using h
   have hgx : g ≠ x := HMB.out.1
   have cg5 : (wr.drew.setCell ⟨x, 0, none⟩ (.map (some bf))).cell? ⟨g, 4, none⟩ = some (.map (some bf)) := (ho5.blk HA.out.blk hgx).cell 4
   have HB6 := Lib.hid (ho6.blk HA.out.blk hgx)
   have HO6 := Lib.hid ho6
   have HBX := Lib.hid hbx
   have cg6 : ((wr.drew.setCell ⟨x, 0, none⟩ (.map (some bf))).setCell ⟨x, 1, none⟩ (.int .i64 tm)).cell? ⟨g, 4, none⟩ = some (.map (some bf)) := by rw [← hW6]; exact HB6.out.cell 4
   clear ho5 ho6 hbx hgx htm hsn hrl HVR HIR
   go_wp2_with fail
   refine wp_region_held_drew (S := (fun W => W.cell? ⟨g, 4, none⟩ = some (.map (some bf)))) (by kernel_rfl) ?_ (fun hHeld => ?_)
   ·(try dsimp only); exact cg4
   refine take_at (i := 0) (d := 48) (v := ?_) rfl (by kernel_rfl) (hy := .inl ⟨by kernel_rfl, ?_⟩) (h := ?_)
   rotate_left
   ·intro W hSw; (try dsimp only at hSw); go_simp; first | done | with_reducible rfl
   try simp only [Act.put, List.setIfInBounds_toArray, List.set_cons_zero, List.set_cons_succ]
   refine take_at (i := 1) (d := 49) (v := ?_) rfl (by kernel_rfl) (hy := .inl ⟨by kernel_rfl, ?_⟩) (h := ?_)
   rotate_left
   ·intro W hSw; (try dsimp only at hSw); go_simp; first | done | with_reducible rfl
   try simp only [Act.put, List.setIfInBounds_toArray, List.set_cons_zero, List.set_cons_succ]
   refine take_at (i := 2) (d := 50) (v := ?_) rfl (by kernel_rfl) (hy := .inl ⟨by kernel_rfl, ?_⟩) (h := ?_)
   rotate_left
   ·intro W hSw; (try dsimp only at hSw); go_simp; first | done | with_reducible rfl
   try simp only [Act.put, List.setIfInBounds_toArray, List.set_cons_zero, List.set_cons_succ]
   refine take_at (i := 3) (d := 51) (v := ?_) rfl (by kernel_rfl) (hy := .inl ⟨by kernel_rfl, ?_⟩) (h := ?_)
   rotate_left
   ·intro W hSw; (try dsimp only at hSw); go_simp; first | done | with_reducible rfl
   try simp only [Act.put, List.setIfInBounds_toArray, List.set_cons_zero, List.set_cons_succ]
   refine take_at (i := 4) (d := 52) (v := ?_) rfl (by kernel_rfl) (hy := .inl ⟨by kernel_rfl, ?_⟩) (h := ?_)
   rotate_left
   ·intro W hSw; (try dsimp only at hSw); go_simp; first | done | with_reducible rfl
   try simp only [Act.put, List.setIfInBounds_toArray, List.set_cons_zero, List.set_cons_succ]
   refine wpAnyH_ready (rs := [5]) (by kernel_rfl) (by simp) (AllReadyH.cons rfl (fun K hK => ?_) AllReadyH.nil)
   go_simp
   refine HNOW.out.mono ?_
   rintro e w9 ⟨rfl, rfl⟩
   try go_wp2_with fail
   refine hK.out _ _ ?_ (fun hHeld => ?_)
   ·(try dsimp only); exact cg4
   clear hK K
   try simp only [Act.put, List.setIfInBounds_toArray, List.set_cons_zero, List.set_cons_succ]
   refine take_at (i := 6) (d := 54) (v := ?_) rfl (by kernel_rfl) (hy := .inl ⟨by kernel_rfl, ?_⟩) (h := ?_)
   rotate_left
   ·intro W hSw; (try dsimp only at hSw); go_simp; first | done | with_reducible rfl
   try simp only [Act.put, List.setIfInBounds_toArray, List.set_cons_zero, List.set_cons_succ]
   refine take_at (i := 7) (d := 55) (v := ?_) rfl (by kernel_rfl) (hy := .inl ⟨by kernel_rfl, ?_⟩) (h := ?_)
   rotate_left
   ·intro W hSw; (try dsimp only at hSw); go_simp; first | done | with_reducible rfl
   try simp only [Act.put, List.setIfInBounds_toArray, List.set_cons_zero, List.set_cons_succ]
   refine wpAnyH_ready (rs := [8]) (by kernel_rfl) (by simp) (AllReadyH.cons rfl (fun K hK => ?_) AllReadyH.nil)
   go_simp
   try go_wp2_with fail
   refine hK.out _ _ ?_ (fun hHeld => ?_)
   ·(try dsimp only); exact cg5
   clear hK K
   refine take_at (i := 9) (d := 56) (v := ?_) rfl (by kernel_rfl) (hy := .inl ⟨by kernel_rfl, ?_⟩) (h := ?_)
   rotate_left
   ·intro W hSw; (try dsimp only at hSw); go_simp; first | done | with_reducible rfl
   try simp only [Act.put, List.setIfInBounds_toArray, List.set_cons_zero, List.set_cons_succ]
   refine take_at (i := 10) (d := 57) (v := ?_) rfl (by kernel_rfl) (hy := .inl ⟨by kernel_rfl, ?_⟩) (h := ?_)
   rotate_left
   ·intro W hSw; (try dsimp only at hSw); go_simp; first | done | with_reducible rfl
   try simp only [Act.put, List.setIfInBounds_toArray, List.set_cons_zero, List.set_cons_succ]
   refine wpAnyH_ready (rs := [11]) (by kernel_rfl) (by simp) (AllReadyH.cons rfl (fun K hK => ?_) AllReadyH.nil)
   go_simp
   try go_wp2_with fail
   refine hK.out _ _ ?_ (fun hHeld => ?_)
   ·(try dsimp only); exact cg6
   clear hK K
   refine wpAnyH_done (by kernel_rfl) ?_ _
   go_wp2_with fail
   rw [show ((wr.setCell ⟨x, 0, none⟩ (.map (some bf))).setCell ⟨x, 1, none⟩ (.int .i64 tm)).drew = W6 from by rw [hW6]; rfl]
   clear hW6 cg4 cg5 cg6 cx0 cx1 fx0 fx1
   have d3 : W6.cell? ⟨g, 3, none⟩ = some (.slice rA rl rc) := HB6.out.cell 3
   have d5 : W6.cell? ⟨g, 5, none⟩ = some (.int .i64 (sn : Int)) := by have h := HB6.out.cell 5; rw [HSN.out] at h; exact h
   go_quiet (fail)
   go_wp2_with fail
   go_ret3
   obtain ⟨D9, f1, f2⟩ := HA.out.fil
   obtain ⟨z1, z2, r9, z3⟩ := HA.out.st
   refine ⟨_, some bf, Z4, by rw [HE.out.1, HE.out.2.2.2.1]; rfl, ?_, ?_, ?_, fun q hq => by injection hq with hq; subst hq; exact HA.out.zb.1, fun q hq => HZ1.out q (HZ3.out.1 q hq), fun q hq => ?_, ?_, HA.out.zr⟩
   ·rw [HE.out.2.2.1]
    exact (HA.out.rows.only HO6.out (fun q hq e => HA.out.rows.ne_blk HA.out.ix.blk (by decide) (e ▸ hq))).below (belowN_ (Below.refl _ _) _)
   ·rw [HE.out.2.1]
    exact StAt.below ⟨z1.upd HO6.out (.inl HA.out.zx.1) HXL.out, z2, r9, HO6.out.blk z3 (fun e => z2.2 (e ▸ HA.out.zx.1))⟩ (belowN_ (Below.refl _ _) _)
   ·rw [HE.out.2.2.2.2]
    exact IxAt.below ⟨HBX.out, (fun h => by cases h), (fun q hq => by
     injection hq with hq
     subst hq
     exact ⟨D9, own_only f1 HO6.out (fun e => own_cells f1 HA.out.ix.blk e), f2⟩)⟩ (belowN_ (Below.refl _ _) _)
   ·rcases HZ2.out q hq with h | h
    ·exact HZ3.out.2.1 q h
    ·have h1 := HW2.out; have h2 := HW3.out.1; exact .inr (by omega)
   ·refine Only.then_below (((Only.more HK3.out (fun q _ hq => .inr hq)).trans HON.out (fun q hq => ?_)).trans HO6.out (fun q hq => .inl (.inl hq))) (belowN_ (Below.refl _ _) _)
    have h1 := HW2.out
    have h2 := HGB.out
    rcases hq with rfl | rfl | hq
    ·exact .inr (by omega)
    ·exact .inr (by omega)
    ·exact .inl (.inr ⟨fun h => hq.1 (HZ3.out.1 q h), hq.2⟩)
end Go.Proofs.YtbenkmihkbjgeaaGreat.Tx
