/- Edits as they came in. -/
import Derived.Test.YtchoklhadnoidaaLnH
import Derived.Test.YtchoklhadnoidaaSw0
import Derived.OpenShut
import Derived.ShutString
import Derived.ChangeOld
import Derived.WideShapes
set_option linter.unusedVariables false
set_option linter.unusedSimpArgs false
namespace Go.Proofs.Ytchoklhadnoidaa.Ln
open Go.ChangeShapes Go.WideShapes Go.RowKit Go.Deep Go.Proofs.Ytchoklhadnoidaa.Sh Go.Proofs.Ytchoklhadnoidaa.Tx

section
variable {H : Type} {enc : TypeId × Value → H} {w : World} {base n : Nat} {held : Bool} {v : Value} {y : DataW H × List MemPlace}
theorem int_in (h : DataW.trod enc Try.prog w base (fun _ => true) held n 3 [v] = some y) : ∃ k, v = .int .i64 k ∧ -9223372036854775808 ≤ k ∧ k ≤ 9223372036854775807 := by
  obtain ⟨k, hv, _, hw⟩ := DataW.trod_int Try.underlying3 h
  simp at hv
  refine ⟨k, hv, ?_⟩
  simpa [Lit.wf, IntKind.min, IntKind.max, IntKind.signed, IntKind.bits] using hw
set_option maxRecDepth 100000 in
theorem texts_in (h : DataW.trod enc Try.prog w base (fun _ => true) held n 25 [v] = some y) : ∃ ts : List ByteArray, SlV w v (ts.map sv) ∧ ∀ s ∈ ts, s.size ≤ maxLen := by
  rcases open_strings Try.underlying25 Try.underlying9 (by kernel_rfl) h with ⟨hcs, _⟩ | ⟨x, l, c, zs, hcs, _, hl, hm, hz, _, hcell, hwz⟩
  · simp at hcs
    subst hcs
    exact ⟨[], SlV.nil_ w, fun s hs => by cases hs⟩
  · simp at hcs
    subst hcs
    have : IsTexts w (some x) l c zs := .inr ⟨_, rfl, hl, hm, by simpa using hz, hcell, hwz⟩
    obtain ⟨ts, _, h2, h3⟩ := this.slv
    exact ⟨ts, h2, h3⟩
end
/-- A slice of edits that came in. -/
def IsEds (w : World) (a : Option Addr) (len cap : Nat) : Prop := ∃ l : List EdI, l.length = len ∧ SlEd w (.slice a len cap) l ∧ ∀ e ∈ l, WfE e ∧ ∀ s ∈ e.ins, s.size ≤ maxLen
set_option maxRecDepth 100000 in
set_option maxHeartbeats 1600000 in
theorem isEds_of {H : Type} {enc : TypeId × Value → H} {w : World} {base n : Nat} {held : Bool} {a : Option Addr} {len cap : Nat} {y : DataW H × List MemPlace} (h : DataW.trod enc Try.prog w base (fun _ => true) held n 40 [.slice a len cap] = some y) : IsEds w a len cap := by
  rcases structs_w Try.underlying40 Try.underlying49 (by kernel_rfl) (by kernel_rfl) h with ⟨rfl, rfl, rfl⟩ | ⟨ad, rfl, hl, hm, hat⟩
  · exact ⟨[], rfl, SlEd.nil_ _, fun e he => by cases he⟩
  · have key : ∀ i : Nat, ∃ t : EdI × Value, i < len → (∀ (r : Nat) (u : Value), (edC t)[r]? = some u → w.cell? (ad.add (i * 3 + r)) = some u) ∧ SlV w t.2 (t.1.ins.map sv) ∧ WfE t.1 ∧ ∀ s ∈ t.1.ins, s.size ≤ maxLen := by
      intro i
      by_cases hi : i < len
      · obtain ⟨v0, n0, y0, e0, t0, _⟩ := hat i hi 0 _ rfl
        obtain ⟨v1, n1, y1, e1, t1, _⟩ := hat i hi 1 _ rfl
        obtain ⟨v2, n2, y2, e2, t2, _⟩ := hat i hi 2 _ rfl
        obtain ⟨k0, rfl, b0, c0⟩ := int_in t0
        obtain ⟨k1, rfl, b1, c1⟩ := int_in t1
        obtain ⟨ts, hs, ht⟩ := texts_in t2
        refine ⟨(⟨k0, k1, ts⟩, v2), fun _ => ⟨fun r u hu => ?_, hs, ⟨b0, c0, b1, c1⟩, ht⟩⟩
        match r, hu with
        | 0, hu => rw [← hu]; exact e0
        | 1, hu => rw [← hu]; exact e1
        | 2, hu => rw [← hu]; exact e2
        | r + 3, hu => simp [edC] at hu
      · exact ⟨(⟨0, 0, []⟩, .slice none 0 0), fun h => absurd h hi⟩
    obtain ⟨f, hf⟩ := Classical.axiomOfChoice key
    have hmem : ∀ x ∈ (List.range len).map f, ∃ i, i < len ∧ f i = x := by
      intro x hx
      obtain ⟨i, hi, e⟩ := List.mem_map.1 hx
      exact ⟨i, List.mem_range.1 hi, e⟩
    refine ⟨((List.range len).map f).map Prod.fst, by simp, ⟨(List.range len).map f, rfl, ⟨some ad, cap, by simp, by simpa using hl, hm, ?_⟩, fun x hx => ?_⟩, fun e he => ?_⟩
    · have hk := edC_len ((List.range len).map f)
      refine ⟨?_, fun h0 => ⟨ad, rfl, ?_, fun j u hu => ?_⟩⟩
      · rw [List.length_flatten]
        have : ∀ L : List (List Value), (∀ r ∈ L, r.length = 3) → (L.map List.length).sum = L.length * 3 := by
          intro L
          induction L with
          | nil => intro _; rfl
          | cons r L ih => intro h; rw [List.map_cons, List.sum_cons, ih (fun x hx => h x (List.mem_cons_of_mem _ hx)), h r List.mem_cons_self, List.length_cons]; omega
        exact this _ hk
      · simp at h0
        have := World.block_lt_of_cell? w _ ((hf 0 (by omega)).1 0 _ rfl)
        rw [block_of_add] at this
        exact this
      · have hj : j < len * 3 := by
          have := (List.getElem?_eq_some_iff.1 hu).1
          rw [List.length_flatten] at this
          have h3 : ∀ L : List (List Value), (∀ r ∈ L, r.length = 3) → (L.map List.length).sum = L.length * 3 := by
            intro L
            induction L with
            | nil => intro _; rfl
            | cons r L ih => intro h; rw [List.map_cons, List.sum_cons, ih (fun x hx => h x (List.mem_cons_of_mem _ hx)), h r List.mem_cons_self, List.length_cons]; omega
          rw [h3 _ hk] at this
          simpa using this
        have hi3 : j / 3 < len := by omega
        have hr3 : j % 3 < 3 := Nat.mod_lt _ (by omega)
        obtain ⟨u2, hu2⟩ : ∃ u2, (edC (f (j / 3)))[j % 3]? = some u2 := ⟨_, List.getElem?_eq_getElem (by show j % 3 < 3; exact hr3)⟩
        have hrow : (((List.range len).map f).map edC)[j / 3]? = some (edC (f (j / 3))) := by
          rw [List.getElem?_map, List.getElem?_map, List.getElem?_range hi3]
          rfl
        have hfl := flat_at hk (j / 3) _ hrow (j % 3) u2 hu2
        rw [show j / 3 * 3 + j % 3 = j by omega, hu] at hfl
        injection hfl with hfl
        subst hfl
        have := (hf (j / 3) hi3).1 (j % 3) u hu2
        rwa [show j / 3 * 3 + j % 3 = j by omega] at this
    · obtain ⟨i, hi, rfl⟩ := hmem x hx
      exact (hf i hi).2.1
    · obtain ⟨x, hx, rfl⟩ := List.mem_map.1 he
      obtain ⟨i, hi, rfl⟩ := hmem x hx
      exact (hf i hi).2.2
end Go.Proofs.Ytchoklhadnoidaa.Ln
