/- Texts put together: UFx15, UFx16, UFx17, UFx18, UGt5, UGt6. -/
import Derived.Test.YtbenkmihkbjgeaaGreatQu06
import Derived.Test.YtbenkmihkbjgeaaGreatQu08
import Derived.Test.YtbenkmihkbjgeaaGreatQu09
import Derived.Shelf.AbstractIn
/- The reference's file system: Create, Write, Remove, Sync, Move, MoveNew. -/
namespace Go.Proofs.YtbenkmihkbjgeaaGreat.Tx
open Go.RowKit Go.Proofs.YtbenkmihkbjgeaaGreat.Sh
def writeE (st : FSM) (p : List UInt8) (mode : Int) (data : List UInt8) (only : Bool) : Int := if beginE st = 0 then putE (beginM st).st p mode data only (beginM st).full (beginM st).st.room else beginE st
def writeM (st : FSM) (p : List UInt8) (mode : Int) (data : List UInt8) (only : Bool) : FSM := if beginE st = 0 then putM (beginM st).st p mode data only (beginM st).full (beginM st).st.room else (beginM st).st
def removeE (st : FSM) (p : List UInt8) : Int := if beginE st = 0 then dropE (beginM st).st p else beginE st
def removeM (st : FSM) (p : List UInt8) : FSM := if beginE st = 0 then dropM (beginM st).st p else (beginM st).st
def syncM (st : FSM) : FSM := if beginE st = 0 then safeM (beginM st).st else (beginM st).st
end Go.Proofs.YtbenkmihkbjgeaaGreat.Tx
/- The reference's file system: what is asked of it; Reboot; New. -/
namespace Go.Proofs.YtbenkmihkbjgeaaGreat.Tx
open Go.RowKit Go.Proofs.YtbenkmihkbjgeaaGreat.Sh
def newM (room : Int) : FSM := ⟨room, [], [], [], [], 0, 0, false, []⟩
def newB (room : Int) : Bool := decide (0 ≤ room ∧ room ≤ 1073741824)
end Go.Proofs.YtbenkmihkbjgeaaGreat.Tx
/- The reference's file system: Paths, List. -/
namespace Go.Proofs.YtbenkmihkbjgeaaGreat.Tx
open Go.RowKit Go.Proofs.YtbenkmihkbjgeaaGreat.Sh
def pathsM (R : List RowM) : List (List UInt8) := R.map fun r => r.path
end Go.Proofs.YtbenkmihkbjgeaaGreat.Tx
/- The reference's file system: List. -/
namespace Go.Proofs.YtbenkmihkbjgeaaGreat.Tx
open Go.RowKit Go.Proofs.YtbenkmihkbjgeaaGreat.Sh
def listB (dir : List UInt8) (r : RowM) : Bool := decide (dir = []) || underB dir r.path
def listL (R : List RowM) (dir : List UInt8) : List (List UInt8) := pathsM (R.filter (listB dir))
def listE (st : FSM) (dir : List UInt8) : Int := if beginE st = 0 then (if dir ≠ [] ∧ pathB dir = false then 6 else 0) else beginE st
def listO (st : FSM) (dir : List UInt8) : List (List UInt8) := if listE st dir = 0 then listL (beginM st).st.now dir else []
def ListPost (F M : Nat → Prop) (w : World) (b : Nat) (s : FSM) (n : Int) (l : List (List UInt8)) (e : Ending) (w' : World) : Prop :=
 ∃ v w1, e = .returned (.tuple #[v, .int .i64 n]) ∧ FsPost F M w b s w1 ∧ Below w1.heap.size w1 w' ∧ OwnV 9 w' w1.heap.size v ((l.map str).map sv)
end Go.Proofs.YtbenkmihkbjgeaaGreat.Tx
/- Package fsim: a new tree; where files stand. -/
namespace Go.Proofs.YtbenkmihkbjgeaaGreat.Tx
open Go.RowKit Go.Maps Go.Sort Go.Shelf Go.Proofs.YtbenkmihkbjgeaaGreat.Sh

set_option maxRecDepth 100000 in
theorem tnew_any (F : Nat → Prop) (w : World) : Calls Tryz.prog 32 #[] w fun e w' => ∃ t', e = .returned (.pointer (some ⟨t', 0, none⟩)) ∧ NewTree F w w' t' [] := by
  have hmm := @run_makeMap Tryz.prog
  go_enter Tryz.func32, Tryz.ntmps32
  go_wp2
  go_ret
  have b1 : RowKit.Below w.heap.size w (w.alloc (.map #[] 0)) := (Below.refl _ _).alloc (Nat.le_refl _) _
  have b2 : RowKit.Below w.heap.size w ((w.alloc (.map #[] 0)).alloc (.map #[] 0)) := b1.alloc b1.size _
  have b3 : RowKit.Below w.heap.size w (((w.alloc (.map #[] 0)).alloc (.map #[] 0)).alloc (.cells #[.map (some w.heap.size), .map (some (w.heap.size + 1)), .int .i64 0] 166)) := b2.alloc b2.size _
  have z1 : (w.alloc (.map #[] 0)).heap.size = w.heap.size + 1 := by simp
  have z2 : ((w.alloc (.map #[] 0)).alloc (.map #[] 0)).heap.size = w.heap.size + 1 + 1 := by simp
  refine ⟨w.heap.size + 1 + 1, rfl, b3, w.heap.size, w.heap.size + 1, ⟨?_, ⟨.map [], ?_, fun _ => rfl, fun r hr => by cases hr⟩, ⟨.map [], ?_, fun _ => ⟨rfl, rfl⟩⟩, by omega, List.Pairwise.nil⟩, ?_⟩
  · have := Blk.new ((w.alloc (.map #[] 0)).alloc (.map #[] 0)) 166 #[.map (some w.heap.size), .map (some (w.heap.size + 1)), .int .i64 0]
    rw [z2] at this
    exact this
  · exact ((World.ownsMap_made w Tryz.prog 9 hv).alloc _).alloc _
  · have := (World.ownsMap_made (H := Unit) (w.alloc (.map #[] 0)) Tryz.prog 9 (plainElem Tryz.prog 3)).alloc (.cells #[.map (some w.heap.size), .map (some (w.heap.size + 1)), .int .i64 0] 166)
    rw [z1] at this
    exact this
  · rintro k (rfl | rfl | rfl) <;> omega

/-- Does s begin with p? -/
def prefB (s p : List UInt8) : Bool := decide (p.length ≤ s.length) && (s.take p.length == p)
set_option maxRecDepth 100000 in
theorem pref0_any (s p : List UInt8) (w : World) (hp : p.length ≤ 1000000) : Calls Tryz.prog 155 #[.string (str s), .string (str p)] w fun e w' => e = .returned (.bool (prefB s p)) ∧ w = w' := by
  have z1 := str_size s
  have z2 := str_size p
  obtain ⟨l, hl⟩ : ∃ l, s.length = l := ⟨_, rfl⟩
  obtain ⟨m, hm⟩ : ∃ m, p.length = m := ⟨_, rfl⟩
  rw [hl] at z1
  rw [hm] at z2 hp
  have he : (((str s).extract 0 m).toList == (str p).toList) = (s.take m == p) := by rw [slice_str, List.drop_zero, str_toList, str_toList]
  by_cases h : m ≤ l
  · have HP : Hid (prefB s p = (s.take m == p)) := by unfold Hid prefB; rw [hl, hm, decide_eq_true h]; rfl
    have h' : (m : Int) ≤ (l : Int) := by omega
    have h0 : (0 : Int) ≤ (m : Int) := by omega
    generalize (s.take m == p) = bb at *
    clear hl hm
    go_enter Tryz.func155, Tryz.ntmps155
    go_wp2
    go_ret
    exact ⟨by rw [HP.out]; rfl, rfl⟩
  · have HP : Hid (prefB s p = false) := by unfold Hid prefB; rw [hl, hm, decide_eq_false h]; rfl
    have h' : ¬ (m : Int) ≤ (l : Int) := by omega
    have h2 : (l : Int) < (m : Int) := by omega
    clear hl hm he
    go_enter Tryz.func155, Tryz.ntmps155
    go_wp2
    go_ret
    exact ⟨by rw [HP.out]; rfl, rfl⟩
theorem pref_any (s p : List UInt8) (w : World) (hp : p.length ≤ 1000000) : Calls Tryz.prog 154 #[.string (str s), .string (str p)] w fun e w' => e = .returned (.bool (prefB s p)) ∧ w = w' := by
  have H := Lib.hid (fun w => pref0_any s p w hp)
  go_enter Tryz.func154, Tryz.ntmps154
  go_wp2_with (go_at_call 155; refine (H.out _).mono ?_; rintro e w' ⟨rfl, rfl⟩)
  go_ret
  exact ⟨rfl, rfl⟩

/-- slices.Sort's two contracts at this dump, at the fence that asks nothing. -/
theorem sortsK (m : Nat) : AnyZ.SortsIn Tryz.prog Tryz.sortedA_ren Fence.wide m :=
  ⟨fun blk off cap ss W hH hblk hsz => callsIn_wide.2 (AnyM.slices_Sort_string Tryz.sortA blk off cap ss W hH hblk hsz),
   fun p cap W => callsIn_wide.2 (AnyM.slices_Sort_string_none Tryz.sortA p cap W)⟩
theorem keys_call (b : Nat) (w : World) : Calls Tryz.prog 153 #[.map (some b)] w fun e w' => e = .returned (.func (.func 197) #[] #[.pointer (some ⟨w.heap.size, 0, none⟩)]) ∧ w' = w.alloc (.cells #[.map (some b)] 163) :=
  (callsIn_wide (n := 5)).1 (AnyZ.keys_in Tryz.keysA Fence.wide 5 trivial rfl (some b) w)
set_option maxRecDepth 100000 in
theorem sorted_call (b n Bm : Nat) (D : DataW Value) (w : World) (hown : w.ownsMap Tryz.prog 9 hv b n D) (hBm : Bm < w.heap.size) (hm : w.cell? ⟨Bm, 0, none⟩ = some (.map (some b))) (hs : Maps.size D ≤ 1000000) :
    Calls Tryz.prog 152 #[.func (.func 197) #[] #[.pointer (some ⟨Bm, 0, none⟩)]] w fun e w' => ∃ (v : Value) (ss : List (List UInt8)), e = .returned v ∧ ss.Perm (strKeys D) ∧
      w'.ownsRow w.heap.size 9 1 v ss.length ((ss.mergeSort (fun x y => decide (x ≤ y))).map encStr) ∧ (v = .slice none 0 0 ↔ ss = []) ∧ RowKit.Below w.heap.size w w' := by
  have hseq : SeqGives Fence.wide 2 Tryz.prog 197 #[.pointer (some ⟨Bm, 0, none⟩)] encStr (fun ss => ss.Perm (strKeys D)) (Maps.size D) w :=
    AnyZ.keys_gives (ρ := Tryz.keysA_ren) { Tryz.keysA with } Fence.wide _ trivial rfl (by omega) Bm b n D w hBm hm hown
  have cS := AnyZ.sorted_in Tryz.sortedA Fence.wide 5 trivial trivial trivial trivial rfl (by omega) (sortsK _) (enters_of Tryz.func196 (by kernel_rfl) rfl) 197 #[.pointer (some ⟨Bm, 0, none⟩)] trivial (enters_of Tryz.func197 (by kernel_rfl) rfl) _ _ (by unfold maxLen; omega) (by omega) w hseq
  change CallsIn _ _ Tryz.prog 152 _ _ _ at cS
  exact callsIn_wide.1 cS
/-- Rows in order: their paths sorted are their paths. -/
theorem bl_lt : ∀ {a b : List UInt8}, bl a b = true → a < b
  | [], [], h => by cases h
  | [], y :: b, _ => List.nil_lt_cons y b
  | x :: a, [], h => by rw [bl_nil] at h; cases h
  | x :: a, y :: b, h => by
    rw [bl_cons, Bool.or_eq_true, Bool.and_eq_true] at h
    rcases h with h | ⟨h1, h2⟩
    · exact List.cons_lt_cons_iff.2 (.inl (of_decide_eq_true h))
    · exact List.cons_lt_cons_iff.2 (.inr ⟨beq_iff_eq.1 h1, bl_lt h2⟩)
theorem sort_ord {R : List RowM} (h : Ord R) {ss : List (List UInt8)} (hp : ss.Perm (R.map fun r => r.path)) : ss.mergeSort (fun x y => decide (x ≤ y)) = pathsM R := by
  have e : ss.mergeSort (fun x y => decide (x ≤ y)) = (R.map fun r => r.path).mergeSort (fun x y => decide (x ≤ y)) := mergeSort_of_perm hp
  rw [e]
  refine List.mergeSort_of_pairwise (List.pairwise_map.2 (h.imp fun {a b} hab => ?_))
  exact decide_eq_true (List.le_of_lt (bl_lt hab))
end Go.Proofs.YtbenkmihkbjgeaaGreat.Tx
/- Package fsim: where files stand, rising. -/
namespace Go.Proofs.YtbenkmihkbjgeaaGreat.Tx
open Go.RowKit Go.Maps Go.Sort Go.Shelf Go.Proofs.YtbenkmihkbjgeaaGreat.Sh
def hitC (dir p : List UInt8) : Bool := decide (dir = []) || prefB p (dir ++ [47])
def listC (R : List RowM) (dir : List UInt8) : List (List UInt8) := (pathsM R).filter (hitC dir)
theorem filter_next {l : List (List UInt8)} {k : Nat} {q : List UInt8} (h : l[k]? = some q) (f : List UInt8 → Bool) : (l.take (k + 1)).filter f = (l.take k).filter f ++ if f q = true then [q] else [] := by
 rw [List.take_add_one, h, List.filter_append]
 congr 1
 show [q].filter f = _
 by_cases hf : f q = true
 ·rw [if_pos hf, List.filter_cons, if_pos hf]; rfl
 ·rw [if_neg hf, List.filter_cons, if_neg hf]; rfl
theorem encS (l : List (List UInt8)) : l.map encStr = (l.map str).map sv := by
 rw [List.map_map]
 rfl
theorem cat_sign (d : List UInt8) : str d ++ ⟨#[47]⟩ = str (d ++ [47]) := by
 apply ByteArray.ext
 simp [str]
set_option maxRecDepth 100000 in
set_option maxHeartbeats 6400000 in
theorem tpaths_any (F : Nat → Prop) (t bf bu : Nat) (R : List RowM) (dir : List UInt8) (w : World) (h : TreeX F w t R bf bu) (hR : R.length ≤ 1000000) (hd : dir.length ≤ 900000) :
  Calls Tryz.prog 106 #[.pointer (some ⟨t, 0, none⟩), .string (str dir)] w (TextsPost w ((listC R dir).map str)) := by
 have c0 : w.cell? ⟨t, 0, none⟩ = some (.map (some bf)) := h.blk.cell 0
 have HX := Lib.hid h
 have HR := Lib.hid hR
 obtain ⟨D, hown, hfo⟩ := h.files
 obtain ⟨hpk, hsz⟩ := hfo.keys hown h.ord
 have HOWN := Lib.hid hown
 have HPK := Lib.hid hpk
 have HSZ := Lib.hid hsz
 clear h hR hown hfo hpk hsz
 go_enter Tryz.func106, Tryz.ntmps106
 go_wp2_with fail
 refine (keys_call bf _).mono ?_
 rintro e w1 ⟨rfl, hw1⟩
 have hb1 : RowKit.Below w.heap.size w w1 := by rw [hw1]; exact (Below.refl _ _).alloc (Nat.le_refl _) _
 have hz1 : w.heap.size < w1.heap.size := by rw [hw1]; simp
 have hc1 : w1.cell? ⟨w.heap.size, 0, none⟩ = some (.map (some bf)) := by rw [hw1]; exact (Blk.new w 163 #[.map (some bf)]).cell 0
 have HB1 := Lib.hid hb1
 have HZ1 := Lib.hid hz1
 have HC1 := Lib.hid hc1
 have HO1 := Lib.hid (own_only HOWN.out (Only.of_below (M := fun _ => False) hb1) id)
 clear hw1 hb1 hz1 hc1
 go_wp2_with fail
 refine (sorted_call bf _ w.heap.size D w1 HO1.out HZ1.out HC1.out (by rw [HSZ.out]; exact HR.out)).mono ?_
 rintro e w2 ⟨v, ss, rfl, hS, hrow, _, hb2⟩
 have hss : ss.Perm (R.map fun r => r.path) := hS.trans HPK.out.symm
 rw [sort_ord HX.out.ord hss, encS] at hrow
 have hl2 : ss.length = ((pathsM R).map str).length := by rw [hss.length_eq]; simp [pathsM]
 rw [hl2] at hrow
 have hov : OwnV 9 w2 w1.heap.size v (((pathsM R).map str).map sv) := by
  have := hrow
  rw [show ((pathsM R).map str).length = (((pathsM R).map str).map sv).length from by simp] at this
  exact this
 obtain ⟨pA, pc, rfl, pl1, pl2⟩ := hov.length
 simp only [List.length_map] at pl1 ⊢
 obtain ⟨m, hm⟩ : ∃ m, (pathsM R).length = m := ⟨_, rfl⟩
 have hmR : m ≤ 1000000 := by rw [← hm]; have := HR.out; simp [pathsM]; omega
 rw [hm] at pl1 ⊢
 have HP := Lib.hid hov
 have HMM := Lib.hid hm
 have HB2 := Lib.hid (HB1.out.trans (hb2.mono HB1.out.size))
 clear hss hrow hl2 hov hm hb2 hS c0
 go_wp2_with fail
 go_loopw [5, 15] (fun v i wr => ∃ k : Nat, k ≤ m ∧ i = .int .i64 k ∧ OwnV 9 wr w2.heap.size v (((((pathsM R).take k).filter (hitC dir)).map str).map sv) ∧ RowKit.Below w2.heap.size w2 wr) (fun _ i _ => m - (intOf i).toNat)
 case atStart => exact ⟨0, by omega, rfl, OwnV.nil_ _ _, Below.refl _ _⟩
 case round =>
  obtain ⟨k, hk, rfl, ho, hbe⟩ := hrel
  have k0 : (0 : Int) ≤ (k : Int) := by omega
  have HBE := Lib.hid hbe
  have HO := Lib.hid ho
  have hwz := hbe.size
  by_cases hlt : k < m
  ·have k1 : (k : Int) < (m : Int) := by omega
   have k2 : (k : Int) ≤ (m : Int) := by omega
   have hkm : k < (pathsM R).length := by rw [HMM.out]; exact hlt
   obtain ⟨q, hq⟩ : ∃ q, (pathsM R)[k] = q := ⟨_, rfl⟩
   have hqk : (pathsM R)[k]? = some q := by rw [List.getElem?_eq_getElem hkm, hq]
   have hov := HP.out.below hbe
   obtain ⟨A', c', he, _, _, hrd⟩ := hov.slv.len
   injection he with he1 he2 he3
   subst he1
   clear he2 he3
   simp only [List.length_map] at hrd
   have hkm' : k < ((pathsM R).map str).length := by rw [List.length_map]; exact hkm
   have hta := texts_at (xs := (pathsM R).map str) (by simpa using hrd) k hkm'
   obtain ⟨ad, rfl, hcell⟩ := hta
   have hcell2 : wr.cell? (ad.add k) = some (.string (str q)) := by rw [hcell]; simp [hq]
   have HQK := Lib.hid hqk
   have hsm : ((((pathsM R).take k).filter (hitC dir)).map str).length + 1 ≤ 2000000 := by
    rw [List.length_map]
    have h1 := List.length_filter_le (hitC dir) ((pathsM R).take k)
    rw [List.length_take] at h1
    omega
   clear hov hrd hkm' hcell hq hqk hkm ho hbe
   obtain ⟨hb, hhb⟩ : ∃ hb, hitC dir q = hb := ⟨_, rfl⟩
   have HHB := Lib.hid hhb
   clear hhb
   go_upto_region 5 with (fail)
   go_cut [26] (fun c wx => c = .bool hb ∧ wr = wx)
   case first =>
    by_cases hde : dir = []
    ·have HT : Hid (hb = true) := by have h := HHB.out; unfold Hid; rw [← h]; unfold hitC; rw [decide_eq_true hde]; rfl
     obtain ⟨z2, z3⟩ := str_nil hde
     clear hde
     go_wp2_with fail
     go_meet
     exact ⟨by rw [HT.out], rfl⟩
    ·have HT : Hid (prefB q (dir ++ [47]) = hb) := by have h := HHB.out; unfold Hid; rw [← h]; unfold hitC; rw [decide_eq_false hde]; rfl
     obtain ⟨z2, z3⟩ := str_some hde
     have z4 := str_size dir
     obtain ⟨ld, hld⟩ : ∃ ld, dir.length = ld := ⟨_, rfl⟩
     have HLD := Lib.hid hld
     rw [hld] at z4 hd
     have z5 := cat_sign dir
     clear hde hld
     go_wp2_with fail
     refine (pref_any q (dir ++ [47]) _ (by rw [List.length_append, HLD.out]; simp; omega)).mono ?_
     rintro e w3 ⟨rfl, rfl⟩
     rw [HT.out]
     go_wp2_with fail
     go_meet
     exact ⟨rfl, rfl⟩
   case rest =>
    obtain ⟨rfl, rfl⟩ := hcut
    cases hb with
    | false =>
     have HN : Hid (((pathsM R).take (k + 1)).filter (hitC dir) = ((pathsM R).take k).filter (hitC dir)) := by unfold Hid; rw [filter_next HQK.out, if_neg (by rw [HHB.out]; decide), List.append_nil]
     go_wp2_with fail
     go_roundw
     case rel => exact ⟨k + 1, by omega, by go_num, by rw [HN.out]; exact HO.out, HBE.out⟩
     case measure => simp [intOf]; omega
    | true =>
     have HN : Hid (((pathsM R).take (k + 1)).filter (hitC dir) = ((pathsM R).take k).filter (hitC dir) ++ [q]) := by unfold Hid; rw [filter_next HQK.out, if_pos HHB.out]
     go_wp2_with (at_builtin; refine append_text rfl (.tmp 27) (.tmp 29) rfl wr w2.heap.size u5 ((((pathsM R).take k).filter (hitC dir)).map str) rfl HO.out (str q) rfl hsm hwz ?_; intro v3 w3 ho3 hb3; have HO3 := Lib.hid ho3; have HB3 := Lib.hid hb3; clear ho3 hb3)
     go_roundw
     case rel =>
      refine ⟨k + 1, by omega, by go_num, ?_, HBE.out.trans (HB3.out.mono (Nat.le_refl _))⟩
      rw [HN.out]
      simpa using HO3.out
     case measure => simp [intOf]; omega
  ·obtain rfl : k = m := by omega
   have hfin : OwnV 9 wr w2.heap.size u5 (((listC R dir).map str).map sv) := by
    have := HO.out
    rw [List.take_of_length_le (Nat.le_of_eq HMM.out)] at this
    exact this
   have HFIN := Lib.hid hfin
   clear hfin ho hbe
   go_wp2_with fail
   go_ret
   exact ⟨u5, rfl, HFIN.out.base HB2.out.size, HB2.out.trans (HBE.out.mono HB2.out.size)⟩
end Go.Proofs.YtbenkmihkbjgeaaGreat.Tx
