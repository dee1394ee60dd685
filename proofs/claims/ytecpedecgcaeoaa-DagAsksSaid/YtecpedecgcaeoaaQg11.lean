/- Texts put together: DgR. -/
import Derived.Test.YtecpedecgcaeoaaQg10
/- What a commit more changes, plainly. (No package's code in it.) -/
set_option linter.unusedVariables false
set_option linter.unusedSimpArgs false
namespace Go.Proofs.Ytecpedecgcaeoaa.Tx
open Classical

theorem all_uniq_eq (G : GR) (ps : List ByteArray) : allG G (uniqT ps) = allG G ps := by
  rw [Bool.eq_iff_iff, all_iff, all_iff]
  exact ⟨fun h s hs => h s (((uniqT_spec ps).2 s).2 hs), fun h s hs => h s (((uniqT_spec ps).2 s).1 hs)⟩
section
variable {G : GR} {nd : ND} {a b s : ByteArray} {k : Nat} {fr : List Nat}
theorem in_add (ha : a ≠ nd.id) : inG (G ++ [nd]) a = inG G a := by
  unfold inG
  rw [pos_add]
  have hb : (nd.id.toList == a.toList) = false := by rw [beq_eq_false_iff_ne]; exact fun e => ha (ba_ext e).symm
  rw [hb]
  cases posL G a.toList <;> rfl
theorem pl_add (ha : inG G a = true) : pl (G ++ [nd]) a = pl G a := by
  unfold pl
  rw [pos_add, pos_in ha]
  rfl
theorem in_new : inG (G ++ [nd]) nd.id = true := by
  unfold inG
  rw [pos_add, beq_self_eq_true]
  cases posL G nd.id.toList <;> rfl
theorem pl_new (h : inG G nd.id = false) : pl (G ++ [nd]) nd.id = G.length := by
  unfold pl
  rw [pos_add, pos_out h, beq_self_eq_true]
  rfl
theorem rs_add (hw : GW G) (hw' : GW (G ++ [nd])) (hf : ∀ f ∈ fr, f < G.length) : RS (parAt (G ++ [nd])) fr k ↔ RS (parAt G) fr k :=
  ⟨fun h => h.same hw'.down (fun j hj => (parAt_old nd hj).symm) hf, fun h => h.same hw.down (fun j hj => parAt_old nd hj) hf⟩
theorem is_add (hw : GW G) (hw' : GW (G ++ [nd])) (ha : a ≠ nd.id) (hb : b ≠ nd.id) : isG (G ++ [nd]) a b = isG G a b := by
  unfold isG
  rw [in_add ha, in_add hb]
  cases hia : inG G a with
  | false => rfl
  | true =>
    cases hib : inG G b with
    | false => rfl
    | true =>
      rw [pl_add hia, pl_add hib]
      have := rs_add (k := pl G a) (fr := [pl G b]) hw hw' (fun f hf => by rw [List.mem_singleton.1 hf]; exact pl_lt hib)
      by_cases h : RS (parAt G) [pl G b] (pl G a)
      · rw [decide_eq_true h, decide_eq_true (this.2 h)]
      · rw [decide_eq_false h, decide_eq_false (fun x => h (this.1 x))]
theorem com_add (hw : GW G) (hw' : GW (G ++ [nd])) (ha : inG G a = true) (hb : inG G b = true) : comL (G ++ [nd]) [a] b = comL G [a] b := by
  have h1 : ∀ f ∈ [pl G b], f < G.length := fun f hf => by rw [List.mem_singleton.1 hf]; exact pl_lt hb
  have h2 : ∀ f ∈ [pl G a], f < G.length := fun f hf => by rw [List.mem_singleton.1 hf]; exact pl_lt ha
  have e1 : plsL (G ++ [nd]) [a] = [pl G a] := by show [pl (G ++ [nd]) a] = _; rw [pl_add ha]
  have e2 : plsL G [a] = [pl G a] := rfl
  unfold comL ancL
  rw [e1, e2, pl_add hb, show (G ++ [nd]).length = G.length + 1 by simp, List.range_succ, List.filter_append, List.filter_append]
  have h3 : ([G.length].filter fun k => decide (RS (parAt (G ++ [nd])) [pl G b] k)) = [] := by
    rw [List.filter_eq_nil_iff]
    intro x hx
    rw [List.mem_singleton.1 hx, decide_eq_true_iff]
    intro h
    have := h.lt hw'.down h1
    omega
  rw [h3, List.filter_nil, List.append_nil, List.filter_filter, List.filter_filter]
  refine List.filter_congr fun x _ => ?_
  congr 1
  · exact decide_eq_decide.2 (rs_add hw hw' h2)
  · exact decide_eq_decide.2 (rs_add hw hw' h1)
theorem bas_add (hw : GW G) (hw' : GW (G ++ [nd])) (ha : inG G a = true) (hb : inG G b = true) : basT (G ++ [nd]) [a] b = basT G [a] b := by
  unfold basT
  rw [com_add hw hw' ha hb]
  have hl : ∀ x ∈ comL G [a] b, x < G.length := com_lt
  have h1 : topL (parAt (G ++ [nd])) (comL G [a] b) = topL (parAt G) (comL G [a] b) := by
    unfold topL
    have hfl : (comL G [a] b).flatMap (parAt (G ++ [nd])) = (comL G [a] b).flatMap (parAt G) := by
      rw [List.flatMap_def, List.flatMap_def]
      exact congrArg _ (List.map_congr_left fun x hx => parAt_old nd (hl x hx))
    rw [hfl]
    refine List.filter_congr fun x _ => ?_
    congr 1
    exact decide_eq_decide.2 (rs_add hw hw' (fun f hf => by obtain ⟨q, _, hq⟩ := List.mem_flatMap.1 hf; exact par_lt hw hq))
  rw [h1]
  refine congrArg sortT (List.map_congr_left fun x hx => idAt_old nd (hl x (mem_top.1 hx).1))
theorem sort_strict {l : List ByteArray} (h : l.Nodup) : Strict (sortT l) := by
  have h1 : (sortT l).Nodup := (sortT_perm l).nodup_iff.2 h
  have h2 := sortT_sorted l
  refine List.Pairwise.imp_of_mem (R := fun a b => tle a b = true ∧ a ≠ b) ?_ (List.Pairwise.and h2 h1)
  rintro a b _ _ ⟨h3, h4⟩
  exact (tle_cases h3).elim id (fun e => absurd e h4)
theorem anc_strict (hw : GW G) {xs : List ByteArray} : Strict (ancT G xs) := by
  refine sort_strict ?_
  refine List.pairwise_map.2 (anc_nodup.imp_of_mem fun {x y} hx hy hne e => hne (hw.inj x y (mem_anc.1 hx).1 (mem_anc.1 hy).1 e))
theorem anc_add (hw : GW G) {ps : List ByteArray} (hall : allG G ps = true) (hin : inG G nd.id = false) (hp : nd.par = plsL G (uniqT ps)) (hw' : GW (G ++ [nd])) : ancT (G ++ [nd]) [nd.id] = uniqT (ancT G ps ++ [nd.id]) := by
  refine uniqT_eq (anc_strict hw') fun s => ?_
  have hallu : allG G (uniqT ps) = true := by rw [all_uniq_eq]; exact hall
  have hpn : parAt (G ++ [nd]) G.length = plsL G (uniqT ps) := by rw [parAt_of (at_new G nd), hp]
  have hidn : idAt (G ++ [nd]) G.length = nd.id := idAt_of (at_new G nd)
  have hpl : plsL (G ++ [nd]) [nd.id] = [G.length] := by show [pl (G ++ [nd]) nd.id] = _; rw [pl_new hin]
  have hmem : ∀ x, x ∈ plsL G (uniqT ps) ↔ x ∈ plsL G ps := fun x => by
    rw [mem_pls hw hallu, mem_pls hw hall, (uniqT_spec ps).2]
  rw [anc_memT, hpl, List.mem_append, List.mem_singleton, anc_memT]
  constructor
  · rintro ⟨k, hk, hr, rfl⟩
    rcases hr.self_or with e | h
    · right
      rw [e, hidn]
    · left
      rw [hpn] at h
      have h1 := (rs_add hw hw' (pls_lt hallu)).1 h
      have hkl := h1.lt hw.down (pls_lt hallu)
      exact ⟨k, hkl, h1.mono (fun f hf => (hmem f).1 hf), idAt_old nd hkl⟩
  · rintro (⟨k, hk, hr, rfl⟩ | rfl)
    · refine ⟨k, by simp; omega, ?_, (idAt_old nd hk).symm⟩
      refine RS.up ?_
      rw [hpn]
      exact (rs_add hw hw' (pls_lt hallu)).2 (hr.mono (fun f hf => (hmem f).2 hf))
    · exact ⟨G.length, by simp, .self _, hidn.symm⟩
end
/-- What Add answers to a commit above all of its parents. -/
theorem addE_above {G : GR} {id : ByteArray} {ps : List ByteArray} {t : Int} (h0 : id.size ≠ 0) (hin : inG G id = false) (hall : allG G ps = true) (ht : 0 ≤ t) (hst : ∀ s ∈ ps, stAt G (pl G s) ≤ t) (hl : G.length < 2000) : addE G id ps (t + 1) = 0 := by
  unfold addE
  rw [if_neg h0, if_neg (by rw [hin]; decide), if_neg (by rw [all_uniq_eq, hall]; decide), if_neg, if_neg (by omega)]
  rintro (h | h)
  · omega
  · have : aboveB G (t + 1) (plsL G (uniqT ps)) = true := List.all_eq_true.2 fun k hk => by
      obtain ⟨s, hs, rfl⟩ := List.mem_map.1 hk
      have := hst s (((uniqT_spec ps).2 s).1 hs)
      exact decide_eq_true (by omega)
    rw [this] at h
    cases h
theorem addE_none {G : GR} {id : ByteArray} {ps : List ByteArray} {t : Int} (h0 : id.size ≠ 0) (hin : inG G id = false) (hall : allG G ps = false) : addE G id ps t = 7 := by
  unfold addE
  rw [if_neg h0, if_neg (by rw [hin]; decide), if_pos (by rw [all_uniq_eq, hall])]
end Go.Proofs.Ytecpedecgcaeoaa.Tx
