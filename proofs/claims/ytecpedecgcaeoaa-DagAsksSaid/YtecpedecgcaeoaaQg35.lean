/- Texts put together: DgW. -/
import Derived.Test.YtecpedecgcaeoaaQg34
/- Package dag: Order. -/
set_option linter.unusedVariables false
set_option linter.unusedSimpArgs false
namespace Go.Proofs.Ytecpedecgcaeoaa.Tx
open Go.RowKit Go.Maps Go.Proofs.Ytecpedecgcaeoaa.Sh Go.Shelf Go.Lib
open Classical

theorem cmpG_lt {G : GR} {i j : Nat} : cmpG G i j < 0 ↔ befG G i j := by
  have hc : cmpL (idAt G i).toList (idAt G j).toList < 0 ↔ bl (idAt G i).toList (idAt G j).toList = true := by
    rcases bl_tri (idAt G i).toList (idAt G j).toList with q | q | q
    · rw [cmpL_lt q, q]; exact ⟨fun _ => rfl, fun _ => by decide⟩
    · rw [q, cmpL_eq, bl_irr]; exact ⟨fun h => absurd h (by decide), fun h => absurd h (by decide)⟩
    · rw [cmpL_gt q, bl_asymm _ _ q]; exact ⟨fun h => absurd h (by decide), fun h => absurd h (by decide)⟩
  unfold cmpG befG gcmp
  by_cases h1 : stAt G j < stAt G i
  · rw [if_pos h1, if_pos (by decide)]
    exact ⟨fun _ => .inl h1, fun _ => by decide⟩
  · by_cases h2 : stAt G i < stAt G j
    · rw [if_neg h1, if_pos h2, if_pos (by decide)]
      exact ⟨fun h => absurd h (by decide), fun h => h.elim (fun h => absurd h h1) (fun h => absurd h.1 (by omega))⟩
    · have h3 : stAt G i = stAt G j := by omega
      rw [if_neg h1, if_neg h2, if_neg (by decide), hc]
      exact ⟨fun h => .inr ⟨h3, h⟩, fun h => h.elim (fun h => absurd h h1) (·.2)⟩
theorem bef_irr {G : GR} {i : Nat} : ¬ befG G i i := fun h => h.elim (fun h => absurd h (Int.lt_irrefl _)) (fun h => by rw [bl_irr] at h; exact absurd h.2 (by decide))
theorem bef_trans {G : GR} {i j k : Nat} (h1 : befG G i j) (h2 : befG G j k) : befG G i k := by
  rcases h1 with h1 | ⟨e1, h1⟩ <;> rcases h2 with h2 | ⟨e2, h2⟩
  · exact .inl (by omega)
  · exact .inl (by omega)
  · exact .inl (by omega)
  · exact .inr ⟨e1.trans e2, bl_trans _ _ _ h1 h2⟩
theorem bef_ntrans {G : GR} {i j k : Nat} (h1 : ¬ befG G i j) (h2 : ¬ befG G j k) : ¬ befG G i k := by
  intro h
  have a : ¬ stAt G j < stAt G i := fun x => h1 (.inl x)
  have b : ¬ stAt G k < stAt G j := fun x => h2 (.inl x)
  rcases h with h | ⟨e, h⟩
  · omega
  · have e1 : stAt G i = stAt G j := by omega
    have e2 : stAt G j = stAt G k := by omega
    rcases bl_tri (idAt G i).toList (idAt G j).toList with q | q | q
    · exact h1 (.inr ⟨e1, q⟩)
    · rw [q] at h; exact h2 (.inr ⟨e2, h⟩)
    · exact h2 (.inr ⟨e2, bl_trans _ _ _ q h⟩)
theorem bef_tot {G : GR} (hw : GW G) {i j : Nat} (hi : i < G.length) (hj : j < G.length) (hne : i ≠ j) (h : ¬ befG G j i) : befG G i j := by
  have a : ¬ stAt G i < stAt G j := fun x => h (.inl x)
  by_cases q : stAt G j < stAt G i
  · exact .inl q
  · have e : stAt G i = stAt G j := by omega
    rcases bl_tri (idAt G i).toList (idAt G j).toList with p | p | p
    · exact .inr ⟨e, p⟩
    · exact absurd (hw.inj i j hi hj (ba_ext p)) hne
    · exact absurd (.inr ⟨e.symm, p⟩) h
theorem sorted_pw {n : Nat} [Inhabited (Fin n)] {G : GR} (hw : GW G) (hn : G.length = n) {ks : List Nat} (hk : ∀ k ∈ ks, k < n) (hnd : ks.Nodup) {d' : Array (Fin n)} (hp : Go.Sort.PermIn 0 (finA n ks hk).size (finA n ks hk) d') (hs : Go.Sort.SortedIn (ltOf fun x y : Fin n => cmpG G x.val y.val) 0 (finA n ks hk).size d') :
    (d'.toList.map fun i => i.val).Perm ks ∧ (d'.toList.map fun i => i.val).Pairwise (befG G) := by
  obtain ⟨h1, _, h3⟩ := hp
  have e1 : d'.extract 0 (finA n ks hk).size = d' := by rw [← h1]; simp
  have e2 : (finA n ks hk).extract 0 (finA n ks hk).size = finA n ks hk := by simp
  rw [e1, e2] at h3
  have hpm : (d'.toList.map fun i => i.val).Perm ks := by
    have := h3.map (fun i : Fin n => i.val)
    rwa [fin_vals hk] at this
  refine ⟨hpm, ?_⟩
  have hnd' : (d'.toList.map fun i => i.val).Nodup := hpm.nodup_iff.2 hnd
  rw [List.Nodup] at hnd'
  rw [List.pairwise_map] at hnd' ⊢
  rw [List.pairwise_iff_getElem] at hnd' ⊢
  intro i j hi hj hij
  have hne := hnd' i j hi hj hij
  have hj' : j < d'.size := by simpa using hj
  have hi' : i < d'.size := by simpa using hi
  have hb := hs i j (Nat.zero_le _) hij (by omega)
  rw [getElem!_pos d' j hj', getElem!_pos d' i hi'] at hb
  have hnb : ¬ befG G (d'.toList[j]).val (d'.toList[i]).val := by
    intro h
    have := cmpG_lt.2 h
    unfold ltOf at hb
    rw [decide_eq_false_iff_not] at hb
    exact hb this
  exact bef_tot hw (by rw [hn]; exact Fin.isLt _) (by rw [hn]; exact Fin.isLt _) hne hnb

set_option maxRecDepth 100000 in
set_option maxHeartbeats 3200000 in
/-- What SortFunc leaves: the places in order. -/
theorem gsort_any (Z F : Nat → Prop) (g bm bg B : Nat) (v u : Value) (G : GR) (ks : List Nat) (w : World) (hx : GX Z F w g bm v G) (hw : GW G) (hbg : Blk w bg 25 #[.pointer (some ⟨g, 0, none⟩)]) (ho : OwnV 3 w B u (ks.map nv)) (hk : ∀ k ∈ ks, k < G.length) (hnd : ks.Nodup) (hkl : ks.length ≤ 1000000) (hZ : ∀ k, Z k → k < B) (hb2 : bg < B) :
    Calls Try.prog 42 #[u, .func (.func 43) #[] #[.pointer (some ⟨bg, 0, none⟩)]] w fun e w' => e = .returned (.tuple #[]) ∧ ∃ os : List Nat, OwnV 3 w' B u (os.map nv) ∧ os.Perm ks ∧ os.Pairwise (befG G) ∧ Below B w w' := by
  have hnone : ∀ p c, Calls Try.prog 42 #[.slice p 0 c, .func (.func 43) #[] #[.pointer (some ⟨bg, 0, none⟩)]] w fun e w' => e = .returned (.tuple #[]) ∧ w' = w := fun p c =>
    AnyF.slices_SortFunc_none ({ Try.sortF with } : SlLaysF0.n6 Try.prog Try.sortF_ren) p c _ w
  rcases ho.blk with ⟨rfl, h0⟩ | ⟨blk, c, cur, rfl, hB, hlt, hg, hc, hcm, hs, ht⟩
  · have hk0 : ks = [] := List.map_eq_nil_iff.1 h0
    subst hk0
    refine (hnone none 0).mono ?_
    rintro e w' ⟨rfl, rfl⟩
    exact ⟨rfl, [], ho, List.Perm.refl _, List.Pairwise.nil, RowKit.Below.refl _ _⟩
  by_cases hk0 : ks = []
  · subst hk0
    refine (hnone (some ⟨blk, 0, none⟩) c).mono ?_
    rintro e w' ⟨rfl, rfl⟩
    exact ⟨rfl, [], ho, List.Perm.refl _, List.Pairwise.nil, RowKit.Below.refl _ _⟩
  have hn0 : 0 < G.length := by
    cases ks with
    | nil => exact absurd rfl hk0
    | cons a r => have := hk a List.mem_cons_self; omega
  haveI : Inhabited (Fin G.length) := ⟨⟨0, hn0⟩⟩
  have hlen : (ks.map nv).length = ks.length := List.length_map _
  have hsz : (finA G.length ks hk).size = (ks.map nv).length := by rw [fin_size, hlen]
  rw [← hsz] at ho ⊢
  have hcmp : CmpLays1 Try.prog 43 #[.pointer (some ⟨bg, 0, none⟩)] fv (fun x y : Fin G.length => cmpG G x.val y.val) blk 0 (finA G.length ks hk).size w := fun m os dk _ x y => by
    have ho1 := sw_only fv w blk 0 m dk os
    have hx' := hx.only ho1 (fun k hz e => by have := hZ k hz; omega)
    have hb' := (ho1.blk hbg (by omega)).cell 0
    refine (oclos_any Z F g bm bg v G x.val y.val _ hx' hb' x.isLt y.isLt).mono ?_
    rintro e w' ⟨rfl, hb, hd⟩
    exact ⟨rfl, grow_of_below hb hd⟩
  have hO : Go.Sort.SWO (ltOf fun x y : Fin G.length => cmpG G x.val y.val) := by
    have hl : ∀ x y : Fin G.length, ltOf (fun x y : Fin G.length => cmpG G x.val y.val) x y = true ↔ befG G x.val y.val := fun x y => by unfold ltOf; rw [decide_eq_true_eq]; exact cmpG_lt
    have hf : ∀ x y : Fin G.length, ltOf (fun x y : Fin G.length => cmpG G x.val y.val) x y = false ↔ ¬ befG G x.val y.val := fun x y => by rw [← Bool.not_eq_true, hl]
    exact ⟨fun x => (hf x x).2 bef_irr, fun x y z h1 h2 => (hl x z).2 (bef_trans ((hl _ _).1 h1) ((hl _ _).1 h2)), fun x y z h1 h2 => (hf x z).2 (bef_ntrans ((hf _ _).1 h1) ((hf _ _).1 h2))⟩
  have eg : ∀ args w, (callFunc 43 args).run Try.prog w = .ok (.enter 43 args) w := enters_of Try.func43 (by kernel_rfl) rfl
  have hcon := Any.slices_SortFunc Try.sortF fv (fun x => rfl) _ hO 43 #[.pointer (some ⟨bg, 0, none⟩)] blk 0 c (finA G.length ks hk) w eg hcmp (fin_holds hk ho) hlt (by rw [fin_size]; omega)
  refine hcon.mono ?_
  rintro e w' ⟨rfl, d', q, os, hp, hsd, rfl⟩
  have hpw := sorted_pw hw rfl hk hnd hp hsd
  have hown := sw_own (enc := fv) (m := q) (d := d') (os := os) ho hp.1 hsz.symm
  refine ⟨rfl, d'.toList.map (fun i => i.val), ?_, hpw.1, hpw.2, ?_⟩
  · rw [List.map_map]; exact hown
  · have := sw_only fv w blk 0 q d' os
    exact ⟨this.os, this.tape, this.output, this.size, fun k hk' => this.block k (by omega) (by omega)⟩
end Go.Proofs.Ytecpedecgcaeoaa.Tx
