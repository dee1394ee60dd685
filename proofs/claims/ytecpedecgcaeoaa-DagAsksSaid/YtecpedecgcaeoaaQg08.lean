/- Texts put together: Dg1. -/
import Derived.Test.YtecpedecgcaeoaaQg02
import Derived.Test.YtecpedecgcaeoaaQg07
/- Graphs of commits, plainly: nodes with their ids; what is added, what is answered. (No package's code in it.) -/
set_option linter.unusedVariables false
set_option linter.unusedSimpArgs false
namespace Go.Proofs.Ytecpedecgcaeoaa.Tx

/-- A commit: its parents are places. -/
structure ND where
  id : ByteArray
  par : List Nat
  stamp : Int
abbrev GR := List ND
def idAt (G : GR) (k : Nat) : ByteArray := (G[k]?.map ND.id).getD ⟨#[]⟩
def parAt (G : GR) (k : Nat) : List Nat := (G[k]?.map ND.par).getD []
def stAt (G : GR) (k : Nat) : Int := (G[k]?.map ND.stamp).getD 0
def posL (G : GR) (p : List UInt8) : Option Nat := G.findIdx? (fun n => n.id.toList == p)
def inG (G : GR) (s : ByteArray) : Bool := (posL G s.toList).isSome
def pl (G : GR) (s : ByteArray) : Nat := (posL G s.toList).getD 0
def allG (G : GR) (xs : List ByteArray) : Bool := xs.all (inG G)
def plsL (G : GR) (xs : List ByteArray) : List Nat := xs.map (pl G)
structure GW (G : GR) : Prop where
  inj : ∀ i j, i < G.length → j < G.length → idAt G i = idAt G j → i = j
  par : ∀ i, ∀ k ∈ parAt G i, k < i ∧ stAt G k < stAt G i
  rise : ∀ i, Strict ((parAt G i).map (idAt G))
  neg : ∀ i, 0 ≤ stAt G i
  sz : ∀ i, (idAt G i).size ≤ 1000000
section
variable {G : GR} {k i j : Nat} {s : ByteArray} {xs : List ByteArray} {n : ND}
theorem idAt_of (h : G[k]? = some n) : idAt G k = n.id := by unfold idAt; rw [h]; rfl
theorem parAt_of (h : G[k]? = some n) : parAt G k = n.par := by unfold parAt; rw [h]; rfl
theorem stAt_of (h : G[k]? = some n) : stAt G k = n.stamp := by unfold stAt; rw [h]; rfl
theorem parAt_out (h : G.length ≤ k) : parAt G k = [] := by unfold parAt; rw [List.getElem?_eq_none h]; rfl
theorem node_at (h : k < G.length) : ∃ n, G[k]? = some n := ⟨_, List.getElem?_eq_getElem h⟩
theorem GW.down (h : GW G) : Down (parAt G) := fun j k hk => (h.par j k hk).1
theorem pos_lt {p : List UInt8} (h : posL G p = some k) : k < G.length := by
  unfold posL at h
  obtain ⟨h1, _⟩ := List.findIdx?_eq_some_iff_getElem.1 h
  exact h1
theorem pos_id {p : List UInt8} (h : posL G p = some k) : (idAt G k).toList = p := by
  unfold posL at h
  obtain ⟨h1, h2, _⟩ := List.findIdx?_eq_some_iff_getElem.1 h
  rw [idAt_of (List.getElem?_eq_getElem h1)]
  exact beq_iff_eq.1 h2
theorem pos_some (h : GW G) (hk : k < G.length) : posL G (idAt G k).toList = some k := by
  cases hp : posL G (idAt G k).toList with
  | none =>
    unfold posL at hp
    have := List.findIdx?_eq_none_iff.1 hp G[k] (List.getElem_mem hk)
    rw [idAt_of (List.getElem?_eq_getElem hk), beq_self_eq_true] at this
    cases this
  | some m =>
    have := pos_id hp
    rw [h.inj m k (pos_lt hp) hk (ba_ext this)]
theorem in_iff (h : GW G) : inG G s = true ↔ ∃ k, k < G.length ∧ idAt G k = s := by
  unfold inG
  constructor
  · intro hs
    obtain ⟨k, hk⟩ := Option.isSome_iff_exists.1 hs
    exact ⟨k, pos_lt hk, ba_ext (pos_id hk)⟩
  · rintro ⟨k, hk, rfl⟩
    rw [pos_some h hk]
    rfl
theorem pl_lt (h : inG G s = true) : pl G s < G.length := by
  unfold inG at h
  obtain ⟨k, hk⟩ := Option.isSome_iff_exists.1 h
  unfold pl
  rw [hk]
  exact pos_lt hk
theorem id_pl (h : inG G s = true) : idAt G (pl G s) = s := by
  unfold inG at h
  obtain ⟨k, hk⟩ := Option.isSome_iff_exists.1 h
  unfold pl
  rw [hk]
  exact ba_ext (pos_id hk)
theorem pl_id (h : GW G) (hk : k < G.length) : pl G (idAt G k) = k := by
  unfold pl
  rw [pos_some h hk]
  rfl
theorem in_id (h : GW G) (hk : k < G.length) : inG G (idAt G k) = true := (in_iff h).2 ⟨k, hk, rfl⟩
theorem pos_in (h : inG G s = true) : posL G s.toList = some (pl G s) := by
  unfold inG at h
  obtain ⟨k, hk⟩ := Option.isSome_iff_exists.1 h
  unfold pl
  rw [hk]
  rfl
theorem pos_out (h : inG G s = false) : posL G s.toList = none := by
  unfold inG at h
  cases hp : posL G s.toList with
  | none => rfl
  | some k => rw [hp] at h; cases h
theorem all_iff : allG G xs = true ↔ ∀ s ∈ xs, inG G s = true := by unfold allG; rw [List.all_eq_true]
theorem pls_len : (plsL G xs).length = xs.length := by unfold plsL; rw [List.length_map]
theorem pls_lt (h : allG G xs = true) : ∀ k ∈ plsL G xs, k < G.length := by
  intro k hk
  obtain ⟨s, hs, rfl⟩ := List.mem_map.1 hk
  exact pl_lt (all_iff.1 h s hs)
theorem pls_ids (h : allG G xs = true) : (plsL G xs).map (idAt G) = xs := by
  unfold plsL
  rw [List.map_map]
  conv => rhs; rw [← List.map_id xs]
  refine List.map_congr_left fun s hs => ?_
  exact id_pl (all_iff.1 h s hs)
theorem mem_pls (hw : GW G) (h : allG G xs = true) : k ∈ plsL G xs ↔ k < G.length ∧ idAt G k ∈ xs := by
  constructor
  · intro hk
    obtain ⟨s, hs, rfl⟩ := List.mem_map.1 hk
    have := all_iff.1 h s hs
    exact ⟨pl_lt this, by rw [id_pl this]; exact hs⟩
  · rintro ⟨h1, h2⟩
    exact List.mem_map.2 ⟨_, h2, pl_id hw h1⟩
theorem par_lt (h : GW G) {p : Nat} (hp : p ∈ parAt G k) : p < G.length := by
  by_cases hk : k < G.length
  · have := (h.par k p hp).1; omega
  · rw [parAt_out (by omega)] at hp; cases hp
end

/-- A commit more. -/
def addG (G : GR) (id : ByteArray) (ps : List ByteArray) (stamp : Int) : GR := G ++ [⟨id, plsL G (uniqT ps), stamp⟩]
def aboveB (G : GR) (stamp : Int) (l : List Nat) : Bool := l.all fun k => decide (stAt G k < stamp)
def addE (G : GR) (id : ByteArray) (ps : List ByteArray) (stamp : Int) : Int :=
  if id.size = 0 then 6 else if inG G id then 8 else if allG G (uniqT ps) = false then 7 else if stamp < 0 ∨ aboveB G stamp (plsL G (uniqT ps)) = false then 1 else if 2000 ≤ G.length then 14 else 0
def addR (G : GR) (id : ByteArray) (ps : List ByteArray) (stamp : Int) : GR := if addE G id ps stamp = 0 then addG G id ps stamp else G
section
variable {G : GR} {id : ByteArray} {ps : List ByteArray} {stamp : Int} {k : Nat} {n : ND}
theorem idAt_old (n : ND) (h : k < G.length) : idAt (G ++ [n]) k = idAt G k := by unfold idAt; rw [List.getElem?_append_left h]
theorem parAt_old (n : ND) (h : k < G.length) : parAt (G ++ [n]) k = parAt G k := by unfold parAt; rw [List.getElem?_append_left h]
theorem stAt_old (n : ND) (h : k < G.length) : stAt (G ++ [n]) k = stAt G k := by unfold stAt; rw [List.getElem?_append_left h]
theorem at_new (G : GR) (n : ND) : (G ++ [n])[G.length]? = some n := by rw [List.getElem?_append_right (Nat.le_refl _), Nat.sub_self]; rfl
theorem addE_ok (h : addE G id ps stamp = 0) : id.size ≠ 0 ∧ inG G id = false ∧ allG G (uniqT ps) = true ∧ 0 ≤ stamp ∧ aboveB G stamp (plsL G (uniqT ps)) = true ∧ G.length < 2000 := by
  unfold addE at h
  split at h
  · cases h
  · rename_i h1
    split at h
    · cases h
    · rename_i h2
      split at h
      · cases h
      · rename_i h3
        split at h
        · cases h
        · rename_i h4
          split at h
          · cases h
          · rename_i h5
            exact ⟨h1, by simpa using h2, by simpa using h3, by omega, by cases hb : aboveB G stamp (plsL G (uniqT ps)) with | true => rfl | false => exact absurd (.inr hb) h4, by omega⟩
theorem GW.nil : GW [] := ⟨fun i j h => absurd h (by simp), fun i k hk => (by rw [parAt_out (by simp)] at hk; cases hk), fun i => by rw [parAt_out (by simp)]; exact List.Pairwise.nil, fun i => by unfold stAt; simp, fun i => by unfold idAt; simp [ByteArray.size]⟩
theorem GW.add (h : GW G) (hE : addE G id ps stamp = 0) (hs : id.size ≤ 1000000) : GW (addG G id ps stamp) := by
  obtain ⟨_, h2, h3, h4, h5, _⟩ := addE_ok hE
  unfold addG
  obtain ⟨n, hn⟩ : ∃ n : ND, n = ⟨id, plsL G (uniqT ps), stamp⟩ := ⟨_, rfl⟩
  rw [← hn]
  have e1 : idAt (G ++ [n]) G.length = id := by rw [idAt_of (at_new G n), hn]
  have e2 : parAt (G ++ [n]) G.length = plsL G (uniqT ps) := by rw [parAt_of (at_new G n), hn]
  have e3 : stAt (G ++ [n]) G.length = stamp := by rw [stAt_of (at_new G n), hn]
  have hno : ∀ i, i < G.length → idAt G i ≠ id := fun i hi e => by
    have := (in_iff h).2 ⟨i, hi, e⟩
    rw [h2] at this
    cases this
  have hl : (G ++ [n]).length = G.length + 1 := by simp
  refine ⟨fun i j hi hj e => ?_, fun i k hk => ?_, fun i => ?_, fun i => ?_, fun i => ?_⟩
  · rw [hl] at hi hj
    by_cases hi' : i < G.length
    · rw [idAt_old n hi'] at e
      by_cases hj' : j < G.length
      · rw [idAt_old n hj'] at e
        exact h.inj i j hi' hj' e
      · have : j = G.length := by omega
        subst this
        rw [e1] at e
        exact absurd e (hno i hi')
    · have : i = G.length := by omega
      subst this
      by_cases hj' : j < G.length
      · rw [idAt_old n hj', e1] at e
        exact absurd e.symm (hno j hj')
      · omega
  · by_cases hi : i < G.length
    · rw [parAt_old n hi] at hk
      have h6 := h.par i k hk
      rw [stAt_old n (by omega), stAt_old n hi]
      exact h6
    · by_cases hi2 : i = G.length
      · subst hi2
        rw [e2] at hk
        have h6 := pls_lt h3 k hk
        rw [stAt_old n h6, e3]
        exact ⟨h6, of_decide_eq_true (List.all_eq_true.1 h5 k hk)⟩
      · rw [parAt_out (by rw [hl]; omega)] at hk
        cases hk
  · by_cases hi : i < G.length
    · rw [parAt_old n hi]
      have : (parAt G i).map (idAt (G ++ [n])) = (parAt G i).map (idAt G) := List.map_congr_left fun k hk => idAt_old n (par_lt h hk)
      rw [this]
      exact h.rise i
    · by_cases hi2 : i = G.length
      · subst hi2
        rw [e2]
        have : (plsL G (uniqT ps)).map (idAt (G ++ [n])) = (plsL G (uniqT ps)).map (idAt G) := List.map_congr_left fun k hk => idAt_old n (pls_lt h3 k hk)
        rw [this, pls_ids h3]
        exact (uniqT_spec ps).1
      · rw [parAt_out (by rw [hl]; omega)]
        exact List.Pairwise.nil
  · by_cases hi : i < G.length
    · rw [stAt_old n hi]; exact h.neg i
    · by_cases hi2 : i = G.length
      · subst hi2; rw [e3]; exact h4
      · unfold stAt; rw [List.getElem?_eq_none (by rw [hl]; omega)]; exact Int.le_refl _
  · by_cases hi : i < G.length
    · rw [idAt_old n hi]; exact h.sz i
    · by_cases hi2 : i = G.length
      · subst hi2; rw [e1]; exact hs
      · unfold idAt; rw [List.getElem?_eq_none (by rw [hl]; omega)]; exact Nat.zero_le _
theorem GW.addR (h : GW G) (hs : id.size ≤ 1000000) : GW (addR G id ps stamp) := by
  unfold Tx.addR
  split
  · rename_i hE; exact h.add hE hs
  · exact h
theorem addR_len : (addR G id ps stamp).length ≤ G.length + 1 := by
  unfold addR addG
  split <;> simp
/-- What was there is as it was. -/
theorem pos_add (n : ND) (p : List UInt8) : posL (G ++ [n]) p = (posL G p).or (if n.id.toList == p then some G.length else none) := by
  unfold posL
  rw [List.findIdx?_append]
  congr 1
  cases h : n.id.toList == p <;> simp [List.findIdx?_cons, h]
end

/-- What is answered. -/
noncomputable def ancT (G : GR) (xs : List ByteArray) : List ByteArray := sortT ((ancL (parAt G) G.length (plsL G xs)).map (idAt G))
open Classical in
noncomputable def isG (G : GR) (a b : ByteArray) : Bool := inG G a && inG G b && decide (RS (parAt G) [pl G b] (pl G a))
open Classical in
noncomputable def comL (G : GR) (xs : List ByteArray) (b : ByteArray) : List Nat := (ancL (parAt G) G.length [pl G b]).filter fun k => decide (RS (parAt G) (plsL G xs) k)
noncomputable def basT (G : GR) (xs : List ByteArray) (b : ByteArray) : List ByteArray := sortT ((topL (parAt G) (comL G xs b)).map (idAt G))
noncomputable def topT (G : GR) (xs : List ByteArray) : List ByteArray := (topL (parAt G) (plsL G (uniqT xs))).map (idAt G)
/-- One stands ahead of another one. -/
def befG (G : GR) (i j : Nat) : Prop := stAt G j < stAt G i ∨ (stAt G i = stAt G j ∧ bl (idAt G i).toList (idAt G j).toList = true)
/-- In order. -/
def OrdG (G : GR) (xs : List ByteArray) (os : List Nat) : Prop := os.Perm (ancL (parAt G) G.length (plsL G xs)) ∧ os.Pairwise (befG G)
end Go.Proofs.Ytecpedecgcaeoaa.Tx
