/- Texts put together: Gr6. -/
import Derived.Test.YtecpedecgcaeoaaQg39
import Derived.Deep.RegionHeld
/- A region whose loads come ahead of its stores: what is held till number s has come up. -/
set_option linter.unusedVariables false
set_option linter.unusedSimpArgs false
namespace Go.Proofs.Ytecpedecgcaeoaa.Tx
open Go

section
variable {P : Program} {md : Region.Mode} {ops : Array Oper} {Q : Exit → Act → World → Prop} {C D : World → Prop} {s : Nat}
/-- All orders from here on; C is held till number s is listed. -/
def Till (P : Program) (md : Region.Mode) (ops : Array Oper) (Q : Exit → Act → World → Prop) (C : World → Prop) (s : Nat) : Nat → Array Bool → Act → World → Prop
  | 0, l, a, w => Region.ready md ops l = [] ∧ Q .normal a w
  | n + 1, l, a, w => (Region.ready md ops l = [] → Q .normal a w) ∧ ∀ i ∈ Region.ready md ops l, wpOp P ops Q i (fun a' w' => ((l.setIfInBounds i true).getD s true = false → C w') ∧ Till P md ops Q C s n (l.setIfInBounds i true) a' w') a w
theorem Till.any : ∀ (n : Nat) (l : Array Bool) (a : Act) (w : World), Till P md ops Q C s n l a w → wpAny P md ops Q n l a w
  | 0, _, _, _, h => h
  | n + 1, _, _, _, h => ⟨h.1, fun i hi => wpOp_mono (fun a' w' h' => Till.any n _ a' w' h'.2) (h.2 i hi)⟩
/-- D is known of every world that is met ahead of number i. -/
def Known (md : Region.Mode) (ops : Array Oper) (C D : World → Prop) (s i : Nat) : Prop := (∀ w, D w) ∨ ((∀ w, C w → D w) ∧ ∃ os, ops[s]? = some os ∧ ∃ e ∈ os.after, Region.binds md e = true ∧ e.on = i)
theorem Till.first {i : Nat} {oi : Oper} {v : Value} (hi : ops[i]? = some oi) (his : i ≠ s) (hsel : Region.noSelect ops = true) (hQ : ∀ c a w, Q (.panic c) (a.put oi.dst v) w → Q (.panic c) a w) (hk : Known md ops C D s i) : ∀ (n : Nat) (l : Array Bool) (a : Act) (w : World),
    (∀ j oj, ops[j]? = some oj → j ≠ i → l.getD j true = false → (∀ e ∈ oj.after, Region.binds md e = true → e.on ≠ i) → oi.apart ops oj = true) → i ∈ Region.ready md ops l → ((∀ w, D w) ∨ l.getD s true = false) → YieldsIf P ops D oi v a → D w → (l.getD s true = false → C w) →
    Till P md ops Q C s n (l.setIfInBounds i true) (a.put oi.dst v) w → Till P md ops Q C s (n + 1) l a w := by
  intro n
  have now : ∀ {m : Nat} {l : Array Bool} {a : Act} {w : World}, YieldsIf P ops D oi v a → D w → (l.getD s true = false → C w) → Till P md ops Q C s m (l.setIfInBounds i true) (a.put oi.dst v) w →
      wpOp P ops Q i (fun a' w' => ((l.setIfInBounds i true).getD s true = false → C w') ∧ Till P md ops Q C s m (l.setIfInBounds i true) a' w') a w := fun {m l a w} hy hD hC H => hy.wpOp hi hD ⟨fun h => hC (by rwa [getD_set_ne true his] at h), H⟩
  induction n with
  | zero =>
    intro l a w _ hr _ hy hD hC H
    refine ⟨fun h => absurd hr (by rw [h]; simp), fun j hj => ?_⟩
    by_cases e : j = i
    · subst e
      exact now hy hD hC H
    · have h1 := ready_mono hj e
      rw [H.1] at h1
      cases h1
  | succ n ih =>
    intro l a w hf hr hg hy hD hC H
    refine ⟨fun h => absurd hr (by rw [h]; simp), fun j hj => ?_⟩
    by_cases e : j = i
    · subst e
      exact now hy hD hC H
    · have h1 := H.2 j (ready_mono hj e)
      obtain ⟨un, oj, hoj, hall⟩ := mem_ready.1 hj
      have h0 := (mem_ready.1 hr).1
      have hnot : ∀ x ∈ oj.after, Region.binds md x = true → x.on ≠ i := fun x hx hb he => by
        have h2 := hall x hx hb
        rw [he] at h2
        rcases Nat.lt_or_ge i l.size with h' | h'
        · simp [h'] at h0 h2; rw [h0] at h2; cases h2
        · simp [Array.getElem?_eq_none h'] at h2
      have h2 := wpOp_putIf hoj (hf j oj hoj e un hnot) (fun cs b => Region.noSelect_spec hsel i oi cs b hi) (fun cs b => Region.noSelect_spec hsel j oj cs b hoj) hQ hy h1
      have hjs : (∀ w, D w) ∨ j ≠ s := hk.imp id fun ⟨_, os, hos, x, hx, hb, he⟩ hjs => by
        subst hjs
        rw [hoj] at hos
        injection hos with hos
        subst hos
        exact hnot x hx hb he
      have hfree : ∀ k ok, ops[k]? = some ok → k ≠ i → (l.setIfInBounds j true).getD k true = false → (∀ e ∈ ok.after, Region.binds md e = true → e.on ≠ i) → oi.apart ops ok = true := fun k ok hk' hki hun hno => hf k ok hk' hki (by
        by_cases hjk : j = k
        · subst hjk; exact un
        · rwa [getD_set_ne true hjk] at hun) hno
      have hup : ∀ {b : Bool}, (l.setIfInBounds j true).getD s true = b → ((l.setIfInBounds i true).setIfInBounds j true).getD s true = b := fun {b} h => by rw [Array.setIfInBounds_comm _ _ (Ne.symm e), getD_set_ne true his]; exact h
      have hg' : (∀ w, D w) ∨ (l.setIfInBounds j true).getD s true = false := by
        rcases hg with hg | hg
        · exact .inl hg
        · rcases hjs with h | h
          · exact .inl h
          · exact .inr (by rw [getD_set_ne true h]; exact hg)
      refine wpOp_mono (fun a' w' h3 => ⟨fun hl => h3.2.1 (hup hl), ih (l.setIfInBounds j true) a' w' hfree (ready_mono hr (Ne.symm e)) hg' h3.1 ?_ (fun hl => h3.2.1 (hup hl)) (by rw [Array.setIfInBounds_comm _ _ e]; exact h3.2.2)⟩) h2
      rcases hk with hk | hk
      · exact hk w'
      · rcases hg' with hg | hg
        · exact hg w'
        · exact hk.1 w' (h3.2.1 (hup hg))
/-- A copy, an address: taken first. -/
theorem Till.pure_ {i d : Nat} {oi : Oper} {v : Value} {n : Nat} {l : Array Bool} {a : Act} {w : World} (hi : ops[i]? = some oi) (hd : oi.dst = some d) (his : i ≠ s) (hs : Region.noSelect ops = true) (hf : Region.free md ops l i = true) (hr : (Region.ready md ops l).contains i = true)
    (hQ : ∀ c a w, Q (.panic c) (a.put (some d) v) w → Q (.panic c) a w) (hy : YieldsIf P ops (fun _ => True) oi v a) (hC : l.getD s true = false → C w) (h : Till P md ops Q C s n (l.setIfInBounds i true) (a.put (some d) v) w) : Till P md ops Q C s (n + 1) l a w :=
  Till.first hi his hs (by rw [hd]; exact hQ) (.inl fun _ => trivial) n l a w (Region.free_spec hi hf) (by simpa using hr) (.inl fun _ => trivial) hy trivial hC (by rw [hd]; exact h)
/-- The same, behind number s. -/
theorem Till.late_ {i d : Nat} {oi : Oper} {v : Value} {n : Nat} {l : Array Bool} {a : Act} {w : World} (hi : ops[i]? = some oi) (hd : oi.dst = some d) (his : i ≠ s) (hs : Region.noSelect ops = true) (hf : Region.free md ops l i = true) (hr : (Region.ready md ops l).contains i = true)
    (hQ : ∀ c a w, Q (.panic c) (a.put (some d) v) w → Q (.panic c) a w) (hy : YieldsIf P ops (fun _ => True) oi v a) (hl : l.getD s true = true) (h : Till P md ops Q C s n (l.setIfInBounds i true) (a.put (some d) v) w) : Till P md ops Q C s (n + 1) l a w :=
  Till.pure_ hi hd his hs hf hr hQ hy (fun hx => absurd (hl.symm.trans hx) (by decide)) h
/-- A load ahead of number s: taken first. -/
theorem Till.load_ {i d : Nat} {oi os : Oper} {v : Value} {n : Nat} {l : Array Bool} {a : Act} {w : World} (hi : ops[i]? = some oi) (hd : oi.dst = some d) (his : i ≠ s) (hos : ops[s]? = some os) (hw : (os.after.any fun e => Region.binds md e && e.on == i) = true) (hl : l.getD s true = false) (hs : Region.noSelect ops = true) (hf : Region.free md ops l i = true) (hr : (Region.ready md ops l).contains i = true)
    (hQ : ∀ c a w, Q (.panic c) (a.put (some d) v) w → Q (.panic c) a w) (hy : YieldsIf P ops C oi v a) (hC : C w) (h : Till P md ops Q C s n (l.setIfInBounds i true) (a.put (some d) v) w) : Till P md ops Q C s (n + 1) l a w := by
  obtain ⟨e, he, hb⟩ := Array.any_eq_true'.1 hw
  simp only [Bool.and_eq_true, beq_iff_eq] at hb
  exact Till.first hi his hs (by rw [hd]; exact hQ) (.inr ⟨fun _ h => h, os, hos, e, he, hb.1, hb.2⟩) n l a w (Region.free_spec hi hf) (by simpa using hr) (.inr hl) hy hC (fun _ => hC) (by rw [hd]; exact h)
/-- What is ready comes up. -/
def Comes (P : Program) (md : Region.Mode) (ops : Array Oper) (Q : Exit → Act → World → Prop) (C : World → Prop) (s : Nat) (n : Nat) (l : Array Bool) (a : Act) (w : World) (rs : List Nat) : Prop :=
  ∀ i ∈ rs, wpOp P ops Q i (fun a' w' => ((l.setIfInBounds i true).getD s true = false → C w') ∧ Till P md ops Q C s n (l.setIfInBounds i true) a' w') a w
theorem Comes.nil {n : Nat} {l : Array Bool} {a : Act} {w : World} : Comes P md ops Q C s n l a w [] := fun _ h => by cases h
theorem Comes.cons {n : Nat} {l : Array Bool} {a : Act} {w : World} {i : Nat} {o : Oper} {rs : List Nat} (ho : ops[i]? = some o)
    (h : ∀ K : Act → World → Prop, Shut (∀ a w, C w → (C w → Till P md ops Q C s n (l.setIfInBounds i true) a w) → K a w) → if Region.wanted o (yielded ops a.tmps) = true then Oper.wp P o a w K Q else K (a.put o.dst undef) w)
    (hs : Comes P md ops Q C s n l a w rs) : Comes P md ops Q C s n l a w (i :: rs) := fun j hj => by
  rcases List.mem_cons.1 hj with rfl | hj
  · exact wpOp_step ho fun K hK => h K fun a w hC hW => hK a w ⟨fun _ => hC, hW hC⟩
  · exact hs j hj
theorem Comes.late {n : Nat} {l : Array Bool} {a : Act} {w : World} {i : Nat} {o : Oper} {rs : List Nat} (ho : ops[i]? = some o) (hl : (l.setIfInBounds i true).getD s true = true)
    (h : ∀ K : Act → World → Prop, Shut (∀ a w, True → (True → Till P md ops Q C s n (l.setIfInBounds i true) a w) → K a w) → if Region.wanted o (yielded ops a.tmps) = true then Oper.wp P o a w K Q else K (a.put o.dst undef) w)
    (hs : Comes P md ops Q C s n l a w rs) : Comes P md ops Q C s n l a w (i :: rs) := fun j hj => by
  rcases List.mem_cons.1 hj with rfl | hj
  · exact wpOp_step ho fun K hK => h K fun a w _ hW => hK a w ⟨fun h => absurd (hl.symm.trans h) (by decide), hW trivial⟩
  · exact hs j hj
theorem Till.ready {rs : List Nat} {n : Nat} {l : Array Bool} {a : Act} {w : World} (hr : Region.ready md ops l = rs) (hne : rs ≠ []) (h : Comes P md ops Q C s n l a w rs) : Till P md ops Q C s (n + 1) l a w := ⟨fun h0 => absurd (hr ▸ h0) hne, hr ▸ h⟩
theorem Till.done {l : Array Bool} {a : Act} {w : World} (hr : Region.ready md ops l = []) (h : Q .normal a w) : ∀ n, Till P md ops Q C s n l a w
  | 0 => ⟨hr, h⟩
  | _ + 1 => ⟨fun _ => h, by rw [hr]; simp⟩
theorem Till.region {id : Nat} {a : Act} {w : World} (hm : P.follows .mixedOrders = true) (hC : C w.drew) (h : C w.drew → Till P .any ops Q C s ops.size (Array.replicate ops.size false) a w.drew) : (Code.region id ops true).wp P Q a w :=
  wp_region_any hm (Till.any _ _ _ _ (h hC))
end
