/- Texts put together: VSc2, VSc3, VSc4, VSc5. -/
import Derived.Test.YtbenkmihkbjgeaaGreatQv32
import Derived.Test.YtbenkmihkbjgeaaGreatQv38
import Derived.Test.YtbenkmihkbjgeaaGreatQv42
import Derived.Deep.RegionLaw
/- Package store: Get, Has, PutObj of a Blob, on a file system behind many calls. -/
set_option linter.unusedVariables false
set_option linter.unusedSimpArgs false
namespace Go.Proofs.YtbenkmihkbjgeaaGreat.Tx
open Go.RowKit Go.Maps Go.Proofs.YtbenkmihkbjgeaaGreat.Sh
theorem str_same {x y : List UInt8} (h : x = y) : ((Tx.str x).toList == (Tx.str y).toList) = true := by rw [h]; exact beq_self_eq_true _
theorem str_nsame {x y : List UInt8} (h : x ≠ y) : ((Tx.str x).toList == (Tx.str y).toList) = false := by
 rw [Tx.str_toList, Tx.str_toList]; exact beq_eq_false_iff_ne.2 h
theorem MineP.fresh {w w1 w2 : World} {b : Nat} {c : CSt} {Z : Nat → Prop} (h : MineP w w1 b c Z) (hb : Below w1.heap.size w1 w2) : MineP w w2 b c (fun k => Z k ∨ (w1.heap.size ≤ k ∧ k < w2.heap.size)) := by
 obtain ⟨F, M, h1, h2, h3, h4⟩ := h
 refine ⟨F, M, h1.below hb, h2, h3.trans (hb.mono h3.size), fun k hk => ?_⟩
 rcases hk with hk | hk
 ·obtain ⟨z1, z2, z3⟩ := h4 k hk
  exact ⟨z1, z2, Nat.lt_of_lt_of_le z3 hb.size⟩
 ·exact ⟨fun hf => by have := h1.low k hf; omega, fun hm => by have := h1.lt k hm; omega, hk.2⟩
theorem StAt.fresh {w w1 w2 : World} {b s : Nat} {c : CSt} {Z : Nat → Prop} (h : StAt w w1 b c s Z) (hb : Below w1.heap.size w1 w2) : StAt w w2 b c s (fun k => Z k ∨ (w1.heap.size ≤ k ∧ k < w2.heap.size)) := by
 obtain ⟨h1, h2, r, h3⟩ := h
 have hl := h3.lt
 refine ⟨(h1.fresh hb).fewer (fun k hk => ?_), ⟨h2.1, fun hk => ?_⟩, r, h3.below hb h3.lt⟩
 ·rcases hk with (hk | hk) | hk
  ·exact .inl (.inl hk)
  ·exact .inr hk
  ·exact .inl (.inr hk)
 ·rcases hk with hk | hk
  ·exact h2.2 hk
  ·omega
set_option maxRecDepth 100000 in
set_option maxHeartbeats 1600000 in
theorem sgetq_any {w w1 : World} {b i s : Nat} {c : CSt} {Z : Nat → Prop} (id : List UInt8) (h : StAt w w1 b c s Z) (hg : GoS c i) (hi : i ≤ 390000) (hn : id.length ≤ 800000) :
  Calls Tryz.prog 139 #[.pointer (some ⟨s, 0, none⟩), .string (Tx.str id)] w1 fun e w' => ∃ v, e = .returned (.tuple #[v, .int .i64 (sgeE c id)]) ∧ (sgeE c id = 0 → SlV w' v ((redF c (objP id)).data.map bv)) ∧ StAt w w' b (hasC c id) s Z ∧ Keeps w Z w1 w' := by
 have H := Lib.hid h
 have HG := Lib.hid hg
 have HSH := Lib.hid (red_short (hg.ready (by omega)) (objP id))
 obtain ⟨t, ht⟩ : ∃ t, validB id = t := ⟨_, rfl⟩
 have HT := Lib.hid ht
 clear h hg ht
 go_enter Tryz.func139, Tryz.ntmps139
 go_wp2_with fail
 refine (Sh.valid_any id t HT.out w1 (by omega)).mono ?_
 rintro e w' ⟨rfl, rfl⟩
 cases t with
 | false =>
  have HE : Hid (sgeE c id = 6 ∧ hasC c id = c) := by unfold Hid sgeE hasC; rw [if_pos HT.out, if_pos HT.out]; exact ⟨rfl, rfl⟩
  go_wp2_with fail
  go_ret2
  refine ⟨_, by rw [HE.out.1]; rfl, fun h0 => ?_, by rw [HE.out.2]; exact H.out, Keeps.refl _ _ _⟩
  rw [HE.out.1] at h0
  cases h0
 | true =>
  have HC : Hid (hasC c id = (bgC c).c) := by unfold Hid hasC; rw [if_neg (by rw [HT.out]; decide)]
  go_wp2_with fail
  refine (sreadq_any id H.out HG.out (by omega) hn).mono ?_
  rintro e w2 ⟨v2, rfl, hv2, hs2, hk2⟩
  have HS2 := Lib.hid hs2
  have HK2 := Lib.hid hk2
  obtain ⟨re, hre⟩ : ∃ x, redE c (objP id) = x := ⟨_, rfl⟩
  obtain ⟨dat, hdat⟩ : ∃ x, (redF c (objP id)).data = x := ⟨_, rfl⟩
  have HRE := Lib.hid hre
  have HDAT := Lib.hid hdat
  rw [hre]
  rw [hdat] at hv2
  have HV2 := Lib.hid hv2
  have hdl : dat.length ≤ 1000000 := by rw [← hdat]; exact Nat.le_trans HSH.out (by decide)
  clear hs2 hk2 hre hdat hv2
  by_cases h0 : re = 0
  ·subst h0
   go_wp2_with fail
   refine (idc_any v2 dat w2 HV2.out hdl).mono ?_
   rintro e w3 ⟨rfl, hb3⟩
   have HS3 := Lib.hid (HS2.out.below hb3)
   have HK3 := Lib.hid (HK2.out.below hb3)
   have HV3 := Lib.hid (HV2.out.below hb3)
   clear hb3
   by_cases hq : idL dat = id
   ·have HE : Hid (sgeE c id = 0) := by unfold Hid sgeE; rw [if_neg (by rw [HT.out]; decide), if_neg (by rw [HRE.out]; decide), HDAT.out, if_pos hq]
    have y1 : ((Tx.str (hexL (sumOf dat))).toList == (Tx.str id).toList) = true := str_same hq
    have y2 : (!((Tx.str (hexL (sumOf dat))).toList == (Tx.str id).toList)) = false := by rw [y1]; rfl
    clear hq
    go_wp2_with fail
    go_ret2
    refine ⟨_, by rw [HE.out]; rfl, fun _ => ?_, by rw [HC.out]; exact HS3.out, HK3.out⟩
    rw [HDAT.out]
    exact HV3.out
   ·have HE : Hid (sgeE c id = 5) := by unfold Hid sgeE; rw [if_neg (by rw [HT.out]; decide), if_neg (by rw [HRE.out]; decide), HDAT.out, if_neg hq]
    have y1 : ((Tx.str (hexL (sumOf dat))).toList == (Tx.str id).toList) = false := str_nsame hq
    clear hq
    go_wp2_with fail
    go_ret2
    refine ⟨_, by rw [HE.out]; rfl, fun h9 => ?_, by rw [HC.out]; exact HS3.out, HK3.out⟩
    rw [HE.out] at h9
    cases h9
  ·have HE : Hid (sgeE c id = re) := by unfold Hid sgeE; rw [if_neg (by rw [HT.out]; decide), if_pos (by rw [HRE.out]; exact h0), HRE.out]
   have y1 : (re != 0) = true := by simpa using h0
   have HN := Lib.hid h0
   clear h0
   go_wp2_with fail
   go_ret2
   refine ⟨_, by rw [HE.out]; rfl, fun h9 => ?_, by rw [HC.out]; exact HS2.out, HK2.out⟩
   rw [HE.out] at h9
   exact absurd h9 HN.out
set_option maxRecDepth 100000 in
theorem shasq_any {w w1 : World} {b i s : Nat} {c : CSt} {Z : Nat → Prop} (id : List UInt8) (h : StAt w w1 b c s Z) (hg : GoS c i) (hi : i ≤ 390000) (hn : id.length ≤ 800000) :
  Calls Tryz.prog 88 #[.pointer (some ⟨s, 0, none⟩), .string (Tx.str id)] w1 fun e w' => e = .returned (.bool (hasE c id)) ∧ StAt w w' b (hasC c id) s Z ∧ Keeps w Z w1 w' := by
 have HC := Lib.hid (sgetq_any id h hg hi hn)
 obtain ⟨k, hk⟩ : ∃ k, sgeE c id = k := ⟨_, rfl⟩
 have HE : Hid (hasE c id = decide (k = 0)) := by unfold Hid hasE; rw [hk]
 rw [hk] at HC
 clear h hg hk
 go_enter Tryz.func88, Tryz.ntmps88
 go_wp2_with fail
 refine HC.out.mono ?_
 rintro e w2 ⟨v, rfl, _, hs, hk⟩
 have HS := Lib.hid hs
 have HK := Lib.hid hk
 clear hs hk
 go_wp2_with fail
 go_ret
 refine ⟨?_, HS.out, HK.out⟩
 rw [HE.out]
 rfl
theorem may_blob (d : List UInt8) (h : d.length ≤ 20000) : Ob.mayB ⟨1, d, [], [], [], 0, 0, []⟩ = true := by
 unfold Ob.mayB
 rw [if_pos rfl]
 unfold Ob.blobB
 rw [Bool.and_eq_true, decide_eq_true_eq]
 exact ⟨h, by rw [Ob.sameB_iff]; rfl⟩
theorem enc_blob (d : List UInt8) : Ob.encL ⟨1, d, [], [], [], 0, 0, []⟩ = blobL d := rfl
theorem bv_sh : (Sh.bv : UInt8 → Value) = Tx.bv := funext fun u => by
 unfold Sh.bv Tx.bv
 rw [Tx.bi_nat]
 first | rfl | (unfold Sh.bi; rfl) | (unfold Sh.bi; simp)
theorem by_own {w : World} {B : Nat} {v : Value} {d : List UInt8} (h : Sh.Own w B v d) : By (fun k => False ∨ (B ≤ k ∧ k < w.heap.size)) w v d := by
 refine OwnV.by_ (F := fun _ => False) ?_
 have h' : w.ownsRow B 5 1 v d.length (d.map Sh.bv) := h
 rw [bv_sh] at h'
 unfold Tx.OwnV
 rw [List.length_map]
 exact h'
set_option maxRecDepth 100000 in
set_option maxHeartbeats 1600000 in
theorem sblobq_any {w w1 : World} {b i s : Nat} {c : CSt} {Z : Nat → Prop} (v : Value) (d : List UInt8) (h : StAt w w1 b c s Z) (hg : GoS c i) (hi : i ≤ 390000) (hd : Sl w1 v d) (hl : d.length ≤ 4096) :
  Calls Tryz.prog 30 #[.pointer (some ⟨s, 0, none⟩), .agg #[.int .i64 1, v, .slice none 0 0, .string ⟨#[]⟩, .slice none 0 0, .int .i64 0, .int .i64 0, .string ⟨#[]⟩]] w1 fun e w' => e = .returned (.tuple #[.string (Tx.str (sptV c (blobL d))), .int .i64 (sptE c (blobL d))]) ∧ StAt w w' b (sptC c (blobL d)) s Z ∧ Keeps w Z w1 w' := by
 have H := Lib.hid h
 have HG := Lib.hid hg
 have HM := may_blob d (by omega)
 obtain ⟨w0, hw0⟩ : ∃ w0, w0 = w1.alloc (.cells #[.int .i64 1, v, .slice none 0 0, .string ⟨#[]⟩, .slice none 0 0, .int .i64 0, .int .i64 0, .string ⟨#[]⟩] 80) := ⟨_, rfl⟩
 have hb0 : Below w1.heap.size w1 w0 := by rw [hw0]; exact (Below.refl _ _).alloc (Nat.le_refl _) _
 have hd0 : Sl w0 v d := hd.below hb0
 have HB0 := Lib.hid hb0
 have HE := Lib.hid (Ob.encode_any (.agg #[.int .i64 1, v, .slice none 0 0, .string ⟨#[]⟩, .slice none 0 0, .int .i64 0, .int .i64 0, .string ⟨#[]⟩]) ⟨1, d, [], [], [], 0, 0, []⟩ w0 ⟨_, _, _, rfl, hd0, Ob.SlI.nil_ _, SlV.nil_ _⟩)
 have HL : Hid ((blobL d).length ≤ 20000) := by unfold Hid blobL; rw [List.length_cons]; omega
 obtain ⟨r1, hr1⟩ : ∃ x, sptV c (blobL d) = x := ⟨_, rfl⟩
 obtain ⟨r2, hr2⟩ : ∃ x, sptE c (blobL d) = x := ⟨_, rfl⟩
 have HR1 := Lib.hid hr1
 have HR2 := Lib.hid hr2
 have HHM := Lib.hid HM
 clear h hg hd HM hr1 hr2 hb0 hd0
 go_enter Tryz.func30, Tryz.ntmps30
 go_wp2_with fail
 rw [← hw0]
 clear hw0
 refine HE.out.mono ?_
 rintro e w2 ⟨hy, _, hb2⟩
 obtain ⟨u, rfl, hu⟩ := hy HHM.out
 rw [enc_blob] at hu
 have HS2 := Lib.hid ((H.out.below HB0.out).fresh hb2)
 have HK2 := Lib.hid (Keeps.of_below (w := w) (Z := Z) (HB0.out.trans (hb2.mono HB0.out.size)))
 have HBY := Lib.hid (by_own hu)
 obtain ⟨uA, uc, rfl, _, _⟩ := hu.length
 have HB2 := Lib.hid hb2
 obtain ⟨ul, hul⟩ : ∃ l, (blobL d).length = l := ⟨_, rfl⟩
 rw [hul] at HBY
 rw [hul]
 clear hu hy hul hb2
 go_wp2_with fail
 refine (sputq_any _ (blobL d) HS2.out HG.out (by omega) HBY.out (fun k hk => .inr (.inr (hk.elim False.elim id)))).mono ?_
 rw [HR1.out, HR2.out]
 rintro e w3 ⟨rfl, hs3, hk3⟩
 have HS3 := Lib.hid (hs3.fewer (fun k hk => .inl hk))
 have HK3 := Lib.hid (HK2.out.trans (hk3.fewer (fun k hk => .inl hk)))
 clear hs3 hk3
 go_wp2_with fail
 go_ret2
 exact ⟨by rw [HR1.out, HR2.out]; rfl, HS3.out, HK3.out⟩
end Go.Proofs.YtbenkmihkbjgeaaGreat.Tx
/- Package scan: rows of a table in memory; a map of what an index knows. -/
set_option linter.unusedVariables false
set_option linter.unusedSimpArgs false
namespace Go.Proofs.YtbenkmihkbjgeaaGreat.Tx
open Go.RowKit Go.Maps Go.Proofs.YtbenkmihkbjgeaaGreat.Sh
def rwC (r : RwM) : List Value := [.string (Tx.str r.path), .int .i64 r.mode, .string (Tx.str r.id)]
theorem rwC_one (l : List RwM) : ∀ u ∈ l.flatMap rwC, u.oneCell' = true := by
 intro u hu
 rw [List.mem_flatMap] at hu
 obtain ⟨x, _, hx⟩ := hu
 simp [rwC] at hx
 rcases hx with rfl | rfl | rfl <;> rfl
theorem rwC_at (l : List RwM) : ∀ (k : Nat) (x : RwM), l[k]? = some x → (l.flatMap rwC)[k * 3]? = some (.string (Tx.str x.path)) ∧ (l.flatMap rwC)[k * 3 + 1]? = some (.int .i64 x.mode) ∧ (l.flatMap rwC)[k * 3 + 2]? = some (.string (Tx.str x.id)) := by
 induction l with
 | nil => intro k x h; simp at h
 | cons y l ih =>
  intro k x h
  cases k with
  | zero =>
   simp at h
   subst h
   exact ⟨rfl, rfl, rfl⟩
  | succ k =>
   obtain ⟨h0, h1, h2⟩ := ih k x (by simpa using h)
   have e : ∀ j, ((y :: l).flatMap rwC)[(k + 1) * 3 + j]? = (l.flatMap rwC)[k * 3 + j]? := by
    intro j
    rw [List.flatMap_cons, List.getElem?_append_right (by simp [rwC]; omega)]
    congr 1
    simp [rwC]
    omega
   exact ⟨(e 0).trans h0, (e 1).trans h1, (e 2).trans h2⟩
def SlR (w : World) (v : Value) (l : List RwM) : Prop := ∃ A c, v = .slice A l.length c ∧ l.length ≤ c ∧ c ≤ maxLen ∧ (A = none → l = []) ∧ Reads w w.heap.size 3 A l.length (l.flatMap rwC)
def OwnR (T : TypeId) (w : World) (B : Nat) (v : Value) (l : List RwM) : Prop := w.ownsRow B T 3 v l.length (l.flatMap rwC)
section
variable {T : TypeId} {w w' : World} {B : Nat} {v : Value} {l : List RwM}
theorem SlR.nil_ (w : World) : SlR w (.slice none 0 0) [] := ⟨none, 0, rfl, by simp, by unfold maxLen; omega, fun _ => rfl, ⟨by simp, fun h => absurd h (by simp)⟩⟩
theorem rows_at {A : Option Addr} {n : Nat} (h : Reads w B 3 A n (l.flatMap rwC)) (hn : n = l.length) (k : Nat) (x : RwM) (hk : l[k]? = some x) :
  ∃ ad, A = some ad ∧ w.cell? (ad.add (k * 3)) = some (.string (Tx.str x.path)) ∧ w.cell? ⟨(ad.add (k * 3)).block, (ad.add (k * 3)).off + 1, none⟩ = some (.int .i64 x.mode) ∧ w.cell? ⟨(ad.add (k * 3)).block, (ad.add (k * 3)).off + 2, none⟩ = some (.string (Tx.str x.id)) := by
 have hl : k < l.length := (List.getElem?_eq_some_iff.1 hk).1
 obtain ⟨ad, e, _, hc⟩ := h.2 (by omega)
 obtain ⟨h0, h1, h2⟩ := rwC_at l k x hk
 refine ⟨ad, e, hc _ _ h0, ?_, ?_⟩
 ·rw [← Tx.add_field' ad (k * 3) 1 (by omega)]
  exact hc _ _ h1
 ·rw [← Tx.add_field' ad (k * 3) 2 (by omega)]
  exact hc _ _ h2
theorem OwnR.nil_ (T : TypeId) (w : World) (B : Nat) : OwnR T w B (.slice none 0 0) [] := World.ownsRow_nil w B T 3
theorem OwnR.below (h : OwnR T w B v l) (hb : Below w.heap.size w w') : OwnR T w' B v l :=
 World.ownsRow.kept h (only_of_below hb none) (by cases hv : v.ownBlock <;> simp)
theorem OwnR.lt (h : OwnR T w B v l) (k : Nat) (hk : v.ownBlock = some k) : B ≤ k ∧ k < w.heap.size := World.ownsRow.lt h k hk
theorem OwnR.slR (h : OwnR T w B v l) : SlR w v l := by
 rcases h.2 with ⟨rfl, h0⟩ | ⟨g, cap, cur, rfl, hb, hg, hc, hm, hcs, htk⟩
 ·have : l = [] := List.eq_nil_of_length_eq_zero h0
  subst this
  exact SlR.nil_ w
 ·have hr := Reads.of_own (show w.ownsRow B T 3 (.slice (some ⟨g, 0, none⟩) l.length cap) l.length (l.flatMap rwC) from h)
  exact ⟨_, cap, rfl, hc, hm, (fun e => by cases e), hr⟩
end
theorem info_srow : (Tryz.prog.info? 120).map (fun i => (i.zero, i.size, i.bytes)) = some (some (.agg #[.string ⟨#[]⟩, .int .i64 0, .string ⟨#[]⟩]), 3, 40) := by kernel_rfl
set_option maxRecDepth 100000 in
theorem sapp_row {ops : Array Oper} {o : Oper} {a : Act} {K : Act → World → Prop} {Q : Exit → Act → World → Prop} {E : Prop} (d : Nat) (hd : o.dst = some d) (hgd : o.guard = none) (s x : Operand)
  (ho : o.op = .call { callee := .builtin .append, args := #[s, x], argTypes := #[51, 51] }) (w : World) (B : Nat) (v : Value) (l : List RwM) (hs : a.eval s = v) (hown : OwnR 120 w B v l)
  (r : RwM) (g : Nat) (hg : Blk w g 120 #[.string (Tx.str r.path), .int .i64 r.mode, .string (Tx.str r.id)]) (hx : a.eval x = .slice (some ⟨g, 0, none⟩) 1 1) (hsmall : l.length + 1 ≤ 2000000) (hB : B ≤ w.heap.size)
  (h : ∀ v' w', OwnR 120 w' B v' (l ++ [r]) → w.grownBy w' v.ownBlock → (v'.ownBlock = v.ownBlock ∨ v'.ownBlock = some w.heap.size) → K (a.put (some d) v') w') : if Region.wanted o (yielded ops a.tmps) = true then Oper.wp Tryz.prog o a w K Q else E := by
 obtain ⟨i0, hi, hz0, hz1, hz2⟩ := info_parts info_srow
 have hr : Reads w w.heap.size 3 (some ⟨g, 0, none⟩) 1 ([r].flatMap rwC) := by
  refine ⟨rfl, fun _ => ⟨_, rfl, hg.lt, fun j v hv => ?_⟩⟩
  rw [Addr.add_mid, Nat.zero_add]
  have hj : j < 3 := by have := (List.getElem?_eq_some_iff.1 hv).1; simpa [rwC] using this
  have h1 := hg.cell j
  rw [← hv]
  rw [h1]
  match j, hj with
  | 0, _ => rfl
  | 1, _ => rfl
  | 2, _ => rfl
 refine step_append_any w hgd s x 51 ho B 120 i0 (.agg #[.string ⟨#[]⟩, .int .i64 0, .string ⟨#[]⟩]) 3 40 Tryz.underlying51 hi hz0 hz1 hz2 rfl (by decide) v l.length _ hs hown w.heap.size (some ⟨g, 0, none⟩) 1 1 _ hx hr (rwC_one [r]) (by unfold maxLen; omega) (by omega) hB ?_
 intro v' w' h1 h2 h3
 rw [hd]
 refine h v' w' ?_ h2 h3
 unfold OwnR
 rw [List.length_append, List.flatMap_append]
 exact h1
structure KnOK (l : List KnM) (D : DataW Value) : Prop where
 has_ : ∀ p, Maps.has D (.string p) = (knF l p).isSome
 at_ : ∀ p k, knF l p = some k → ∀ z, D.atKey (.string p) z = .held (.agg #[.int .i64 k.time, .string (Tx.str k.id)])
theorem KnOK.empty : KnOK [] (.map []) := ⟨fun p => rfl, fun p k h => by cases h⟩
theorem KnOK.put {l : List KnM} {D : DataW Value} (h : KnOK l D) (hm : Maps.IsMap D) (k : KnM) : KnOK (putK l k) (D.put (.string k.path) (.held (.agg #[.int .i64 k.time, .string (Tx.str k.id)]))) := by
 refine ⟨fun p => ?_, fun p x hx z => ?_⟩
 ·rw [knF_put]
  by_cases e : p = k.path
  ·subst e
   rw [Maps.has_put_same hm (isK _), if_pos rfl]
   rfl
  ·rw [Maps.has_put_other (fun x => e (by injection x)), if_neg e, h.has_]
 ·rw [knF_put] at hx
  by_cases e : p = k.path
  ·subst e
   rw [if_pos rfl] at hx
   injection hx with hx
   subst hx
   exact Maps.atKey_put_same hm (isK _) _ _
  ·rw [if_neg e] at hx
   rw [Maps.atKey_put_other (fun x => e (by injection x))]
   exact h.at_ p x hx z
end Go.Proofs.YtbenkmihkbjgeaaGreat.Tx
/- Package scan: what an index says of a path. -/
set_option linter.unusedVariables false
set_option linter.unusedSimpArgs false
namespace Go.Proofs.YtbenkmihkbjgeaaGreat.Tx
open Go.RowKit Go.Maps Go.Proofs.YtbenkmihkbjgeaaGreat.Sh
def notedV (k : KnM) : Value := .agg #[.int .i64 k.time, .string (Tx.str k.id)]
def zeroN : Value := .agg #[.int .i64 0, .string ⟨#[]⟩]
theorem zeroNoted (w : World) : (zeroValue 125).run Tryz.prog w = .ok zeroN w := by kernel_rfl
structure IxAt (w : World) (x : Nat) (X : IxM) (m : Option Nat) : Prop where
 blk : Blk w x 102 #[.map m, .int .i64 X.at_]
 none_ : m = none → X.files = []
 map_ : ∀ b, m = some b → ∃ D, OwnF w b D ∧ KnOK X.files D
section
variable {w w' : World} {x : Nat} {X : IxM} {m : Option Nat} {M : Nat → Prop}
theorem IxAt.only (h : IxAt w x X m) (ho : Only M w w') (hx : ¬ M x) (hm : ∀ b, m = some b → ¬ M b) : IxAt w' x X m := by
 refine ⟨ho.blk h.blk hx, h.none_, fun b hb => ?_⟩
 obtain ⟨D, h1, h2⟩ := h.map_ b hb
 exact ⟨D, own_only h1 ho (hm b hb), h2⟩
theorem IxAt.below (h : IxAt w x X m) (hb : Below w.heap.size w w') : IxAt w' x X m := h.only (Only.of_below (M := fun _ => False) hb) id (fun _ _ => id)
theorem IxAt.lt (h : IxAt w x X m) : x < w.heap.size ∧ ∀ b, m = some b → b < w.heap.size ∧ b ≠ x := ⟨h.blk.lt, fun b hb => by
 obtain ⟨D, h1, _⟩ := h.map_ b hb
 exact ⟨h1.lt, own_cells h1 h.blk⟩⟩
end
theorem KnOK.look {l : List KnM} {D : DataW Value} (h : KnOK l D) (p : List UInt8) : ∀ v ps, hv v = some (D.atKey (.string p) (.held zeroN), ps) → v = ((knF l p).map notedV).getD zeroN := by
 intro v ps hv'
 cases hp : knF l p with
 | none =>
  rw [Maps.atKey_of_not_has (by rw [h.has_, hp]; rfl)] at hv'
  unfold hv at hv'
  injection hv' with hv'
  injection hv' with h3 _
  injection h3
 | some k =>
  rw [h.at_ p k hp] at hv'
  unfold hv at hv'
  injection hv' with hv'
  injection hv' with h3 _
  injection h3
def IxSays (w : World) (X : IxM) (p : List UInt8) (t : Int) (e : Ending) (w' : World) : Prop :=
 Below w.heap.size w w' ∧ ((∃ id, ixL X p t = some id ∧ e = .returned (.tuple #[.string (Tx.str id), .bool true])) ∨ (ixL X p t = none ∧ e = .returned (.tuple #[.string ⟨#[]⟩, .bool false])))
set_option maxRecDepth 100000 in
set_option maxHeartbeats 1600000 in
theorem xhash_any {w : World} {x : Nat} {X : IxM} {m : Option Nat} (p : List UInt8) (t : Int) (h : IxAt w x X m) (hp : p.length ≤ 1000000) :
  Calls Tryz.prog 160 #[.pointer (some ⟨x, 0, none⟩), .string (Tx.str p), .int .i64 t] w (IxSays w X p t) := by
 have c0 : w.cell? ⟨x, 0, none⟩ = some (.map m) := h.blk.cell 0
 have c1 : w.cell? ⟨x, 1, none⟩ = some (.int .i64 X.at_) := h.blk.cell 1
 obtain ⟨fl, a⟩ := X
 replace c1 : w.cell? ⟨x, 1, none⟩ = some (.int .i64 a) := c1
 have HB : Hid (∀ o, Below w.heap.size w (w.alloc o)) := fun o => (Below.refl _ _).alloc (Nat.le_refl _) _
 have hxl := h.blk.lt
 cases m with
 | none =>
  have HN : Hid (ixL ⟨fl, a⟩ p t = none) := by
   have e : fl = [] := h.none_ rfl
   unfold Hid ixL knF
   rw [e]
   rfl
  have kn : ∀ W : World, (Instr.lookup 100 (.map none) (.string (Tx.str p)) true).run Tryz.prog W = .ok (.tuple #[.agg #[.int .i64 0, .string ⟨#[]⟩], .bool false]) W := fun W => Maps.look_nil (w := W) true lawS Tryz.underlying100 (zeroNoted W) (key_str p hp)
  clear h
  go_enter Tryz.func160, Tryz.ntmps160
  go_wp2_with fail
  go_ret2
  exact ⟨HB.out _, .inr ⟨HN.out, rfl⟩⟩
 | some b =>
  obtain ⟨D, hown, hkn⟩ := h.map_ b rfl
  have HOWN := Lib.hid hown
  have HKEY := Lib.hid (key_str p hp)
  have HLOOK := Lib.hid (hkn.look p)
  have hhas := hkn.has_ p
  clear h hown hkn
  cases hk : knF fl p with
  | none =>
   rw [hk] at HLOOK hhas
   have HN : Hid (ixL ⟨fl, a⟩ p t = none) := by unfold Hid ixL; dsimp only; rw [hk]
   have hh : Maps.has D (.string p) = false := hhas
   clear hhas hk
   go_enter Tryz.func160, Tryz.ntmps160
   go_wp2_with (at_lookup; refine wpList_lookup_own_ok _ rfl _ _ 100 rfl 9 125 lawS Tryz.underlying100 hv (zeroNoted _) (.held zeroN) [] rfl b _ D rfl (by exact HOWN.out) _ (.string p) rfl (by exact HKEY.out) ?_; intro v ps hv'; obtain rfl : v = zeroN := HLOOK.out v ps hv'; rw [hh]; unfold zeroN; clear hv')
   go_ret2
   exact ⟨HB.out _, .inr ⟨HN.out, rfl⟩⟩
  | some k =>
   rw [hk] at HLOOK hhas
   have hh : Maps.has D (.string p) = true := hhas
   obtain ⟨kp, kt, ki⟩ := k
   have hx : ixL ⟨fl, a⟩ p t = if kt = t ∧ t < a then some ki else none := by unfold ixL; dsimp only; rw [hk]
   have HX := Lib.hid hx
   clear hhas hk hx
   by_cases ht : kt = t
   ·subst ht
    have y0 : (kt != kt) = false := by simp
    by_cases ha : kt < a
    ·have y1 : decide (a ≤ kt) = false := decide_eq_false (by omega)
     have HV : Hid (ixL ⟨fl, a⟩ p kt = some ki) := by unfold Hid; rw [HX.out, if_pos ⟨rfl, ha⟩]
     clear ha
     go_enter Tryz.func160, Tryz.ntmps160
     go_wp2_with (at_lookup; refine wpList_lookup_own_ok _ rfl _ _ 100 rfl 9 125 lawS Tryz.underlying100 hv (zeroNoted _) (.held zeroN) [] rfl b _ D rfl (by exact HOWN.out) _ (.string p) rfl (by exact HKEY.out) ?_; intro v ps hv'; obtain rfl : v = .agg #[.int .i64 kt, .string (Tx.str ki)] := HLOOK.out v ps hv'; rw [hh]; clear hv')
     go_ret2
     exact ⟨HB.out _, .inl ⟨ki, HV.out, rfl⟩⟩
    ·have y1 : decide (a ≤ kt) = true := decide_eq_true (by omega)
     have HV : Hid (ixL ⟨fl, a⟩ p kt = none) := by unfold Hid; rw [HX.out, if_neg (fun h => ha h.2)]
     clear ha
     go_enter Tryz.func160, Tryz.ntmps160
     go_wp2_with (at_lookup; refine wpList_lookup_own_ok _ rfl _ _ 100 rfl 9 125 lawS Tryz.underlying100 hv (zeroNoted _) (.held zeroN) [] rfl b _ D rfl (by exact HOWN.out) _ (.string p) rfl (by exact HKEY.out) ?_; intro v ps hv'; obtain rfl : v = .agg #[.int .i64 kt, .string (Tx.str ki)] := HLOOK.out v ps hv'; rw [hh]; clear hv')
     go_ret2
     exact ⟨HB.out _, .inr ⟨HV.out, rfl⟩⟩
   ·have y0 : (kt != t) = true := by simpa using ht
    have HV : Hid (ixL ⟨fl, a⟩ p t = none) := by unfold Hid; rw [HX.out, if_neg (fun h => ht h.1)]
    clear ht
    go_enter Tryz.func160, Tryz.ntmps160
    go_wp2_with (at_lookup; refine wpList_lookup_own_ok _ rfl _ _ 100 rfl 9 125 lawS Tryz.underlying100 hv (zeroNoted _) (.held zeroN) [] rfl b _ D rfl (by exact HOWN.out) _ (.string p) rfl (by exact HKEY.out) ?_; intro v ps hv'; obtain rfl : v = .agg #[.int .i64 kt, .string (Tx.str ki)] := HLOOK.out v ps hv'; rw [hh]; clear hv')
    go_ret2
    exact ⟨HB.out _, .inr ⟨HV.out, rfl⟩⟩
end Go.Proofs.YtbenkmihkbjgeaaGreat.Tx
/- Package scan: what a scan holds; a file's hash. -/
set_option linter.unusedVariables false
set_option linter.unusedSimpArgs false
namespace Go.Proofs.YtbenkmihkbjgeaaGreat.Tx
open Go.RowKit Go.Maps Go.Proofs.YtbenkmihkbjgeaaGreat.Sh
theorem OwnR.only {T : TypeId} {M : Nat → Prop} {w w' : World} {B : Nat} {v : Value} {l : List RwM} (h : OwnR T w B v l) (ho : Only M w w') (hn : ∀ k, v.ownBlock = some k → ¬ M k) : OwnR T w' B v l := by
 rcases h with ⟨h0, h1 | ⟨g, cap, cur, hv, hb, hg, hc, hm, hcs, htk⟩⟩
 ·exact ⟨h0, .inl h1⟩
 ·subst hv
  have hl : g < w.heap.size := by
   have := (Array.getElem?_eq_some_iff.1 hg).1
   exact this
  exact ⟨h0, .inr ⟨g, cap, cur, rfl, hb, (ho.block g hl (hn g rfl)).trans hg, hc, hm, hcs, htk⟩⟩
structure ScA (w wx : World) (b s x g bf : Nat) (m : Option Nat) (rv : Value) (Z : Nat → Prop) (c : CSt) (X : IxM) (rows : List RwM) (files : List KnM) (n : Nat) : Prop where
 st : StAt w wx b c s Z
 ix : IxAt wx x X m
 blk : Blk wx g 106 #[.pointer (some ⟨b, 0, none⟩), .pointer (some ⟨s, 0, none⟩), .pointer (some ⟨x, 0, none⟩), rv, .map (some bf), .int .i64 (n : Int)]
 rows : OwnR 120 wx w.heap.size rv rows
 fil : ∃ D, OwnF wx bf D ∧ KnOK files D
 zx : Z x ∧ ∀ k, m = some k → Z k
 zg : Z g ∧ w.heap.size ≤ g
 zb : Z bf ∧ w.heap.size ≤ bf
 zr : ∀ k, rv.ownBlock = some k → Z k
section
variable {w wx w2 : World} {b s x g bf i : Nat} {m : Option Nat} {rv : Value} {Z Z' : Nat → Prop} {c c' : CSt} {X : IxM} {rows : List RwM} {files : List KnM} {n : Nat}
theorem ScA.step (h : ScA w wx b s x g bf m rv Z c X rows files n) (hs : StAt w w2 b c' s Z) (hk : Keeps w Z wx w2) : ScA w w2 b s x g bf m rv Z c' X rows files n := by
 obtain ⟨D, h1, h2⟩ := h.fil
 exact ⟨hs, h.ix.only hk (fun hn => hn.1 h.zx.1) (fun k hk' hn => hn.1 (h.zx.2 k hk')), Only.blk hk h.blk (fun hn => hn.1 h.zg.1), h.rows.only hk (fun k hk' hn => hn.1 (h.zr k hk')), ⟨D, own_only h1 hk (fun hn => hn.1 h.zb.1), h2⟩, h.zx, h.zg, h.zb, h.zr⟩
theorem ScA.below (h : ScA w wx b s x g bf m rv Z c X rows files n) (hb : Below wx.heap.size wx w2) : ScA w w2 b s x g bf m rv Z c X rows files n := h.step (h.st.below hb) (Keeps.of_below hb)
theorem ScA.fresh (h : ScA w wx b s x g bf m rv Z c X rows files n) (hb : Below wx.heap.size wx w2) : ScA w w2 b s x g bf m rv (fun k => Z k ∨ (wx.heap.size ≤ k ∧ k < w2.heap.size)) c X rows files n :=
 have h1 := h.below hb
 ⟨h.st.fresh hb, h1.ix, h1.blk, h1.rows, h1.fil, ⟨.inl h1.zx.1, fun k hk => .inl (h1.zx.2 k hk)⟩, ⟨.inl h1.zg.1, h1.zg.2⟩, ⟨.inl h1.zb.1, h1.zb.2⟩, fun k hk => .inl (h1.zr k hk)⟩
theorem ScA.fewer (h : ScA w wx b s x g bf m rv Z c X rows files n) (hz : ∀ k, Z' k → Z k) (h1 : Z' x ∧ ∀ k, m = some k → Z' k) (h2 : Z' g) (h3 : Z' bf) (h4 : ∀ k, rv.ownBlock = some k → Z' k) : ScA w wx b s x g bf m rv Z' c X rows files n :=
 ⟨h.st.fewer hz, h.ix, h.blk, h.rows, h.fil, h1, ⟨h2, h.zg.2⟩, ⟨h3, h.zb.2⟩, h4⟩
theorem ScA.g_x (h : ScA w wx b s x g bf m rv Z c X rows files n) : s ≠ g := fun e => h.st.2.1.2 (e ▸ h.zg.1)
theorem ScA.count (h : ScA w wx b s x g bf m rv Z c X rows files n) (hgx : g ≠ x) (n' : Nat) : ScA w (wx.setCell ⟨g, 5, none⟩ (.int .i64 (n' : Int))) b s x g bf m rv Z c X rows files n' := by
 have ho : Only (fun k => k = g) wx (wx.setCell ⟨g, 5, none⟩ (.int .i64 (n' : Int))) := (Only.refl (fun k => k = g) wx).set_ (.inl rfl) _
 obtain ⟨D, h1, h2⟩ := h.fil
 obtain ⟨z1, z2, r, z3⟩ := h.st
 have hb := h.blk.set_ 5 (.int .i64 (n' : Int))
 refine ⟨⟨z1.upd ho (.inl h.zg.1) h.zg.2, z2, r, ho.blk z3 h.g_x⟩, h.ix.only ho (fun e => hgx e.symm) (fun k hk e => by
  obtain ⟨D', g1, _⟩ := h.ix.map_ k hk
  exact own_cells g1 h.blk e), by simpa using hb, h.rows.only ho (fun k hk e => by
  subst e
  rcases h.rows.2 with ⟨e0, _⟩ | ⟨g', cap, cur, hv, _, hg', _⟩
  ·rw [e0] at hk; cases hk
  ·rw [hv] at hk
   injection hk with hk
   subst hk
   have := h.blk
   unfold Blk at this
   rw [hg'] at this
   injection this with this
   injection this with _ t1 _
   exact absurd t1 (by decide)), ⟨D, own_only h1 ho (fun e => own_cells h1 h.blk e), h2⟩, h.zx, h.zg, h.zb, h.zr⟩
end
end Go.Proofs.YtbenkmihkbjgeaaGreat.Tx
