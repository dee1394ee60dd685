/- Maps of texts to numbers, of one's own. (No package's code in it.) -/
import Derived.Test.YtcjhkfklkcmehaaFv1
import Derived.Test.YtcjhkfklkcmehaaTs1
import Derived.Maps.OwnSet
import Derived.Maps.OwnOps
import Derived.Maps.StringElems
import Derived.Sort.KeysCollected
set_option linter.unusedVariables false
set_option linter.unusedSimpArgs false
namespace Go.Proofs.Ytcjhkfklkcmehaa.Tx
open Go.RowKit Go.Maps Go.Proofs.Ytcjhkfklkcmehaa.Sh

theorem lawS : Keyed Try.prog 9 := string_keyed Try.underlying9
theorem isK (p : List UInt8) : WideAt.IsKeyLit (.string p) := trivial
theorem key_ba (s : ByteArray) (hp : s.size ≤ 1000000) : keyOf Try.prog 9 (.string s) = some (.string s.toList) := by
  have := Go.WideMaps.keyOf_string_mk (P := Try.prog) (s := s) Try.underlying9 (by unfold maxLen; omega)
  rw [this, ByteArray.toList_eq]
section
variable {H : Type} {P : Program} {k : TypeId} {R : Value → Option (DataW H × List MemPlace)} {w w' : World} {b n : Nat} {D : DataW H}
theorem own_exact (h : w.ownsMap P k R b n D) : w.ownsMap P k R b (Maps.size D) D := by
  obtain ⟨es, clock, hb, F, hs, hD⟩ := h
  refine ⟨es, clock, hb, F, ?_, hD⟩
  rw [hD, Maps.size_eq, length_sorted]
  simp
theorem own_only {M : Nat → Prop} (h : w.ownsMap P k R b n D) (ho : Only M w w') (hn : ¬ M b) : w'.ownsMap P k R b n D := by
  have hlt := h.lt
  obtain ⟨es, clock, hb, F, hs, hD⟩ := h
  exact ⟨es, clock, (ho.block b hlt hn).trans hb, F, hs, hD⟩
/-- A block of cells is no map. -/
theorem own_cells {g : Nat} {T : TypeId} {cs : Array Value} (h : w.ownsMap P k R b n D) (hg : Blk w g T cs) : b ≠ g := by
  rintro rfl
  obtain ⟨es, clock, hb, _⟩ := h
  unfold Blk at hg
  rw [hb] at hg
  cases hg
end
theorem own_keys {H : Type} {R : Value → Option (DataW H × List MemPlace)} {w : World} {b n : Nat} {D : DataW H} (h : w.ownsMap Try.prog 9 R b n D) :
    ∃ es, D = .map es ∧ es.Pairwise (fun p q => p.1 ≠ q.1) ∧ ∀ e ∈ es, ∃ x, e.1 = .string x := by
  obtain ⟨es, rfl, hp⟩ := h.tidy lawS
  obtain ⟨es', he, hk⟩ := h.keysOf
  cases he
  refine ⟨es, rfl, hp, fun e he => ?_⟩
  obtain ⟨v, hv⟩ := hk e he
  obtain ⟨x, _, hx, _⟩ := Maps.keyOf_str Try.underlying9 hv
  exact ⟨x, hx⟩
theorem own_isMap {H : Type} {R : Value → Option (DataW H × List MemPlace)} {w : World} {b n : Nat} {D : DataW H} (h : w.ownsMap Try.prog 9 R b n D) : Maps.IsMap D := by
  obtain ⟨es, rfl, _, _⟩ := own_keys h
  exact ⟨es, rfl⟩
theorem within_ {α : Type} [DecidableEq α] : ∀ {l ds : List α}, l.Nodup → (∀ x ∈ l, x ∈ ds) → l.length ≤ ds.length
  | [], ds, _, _ => Nat.zero_le _
  | x :: l, ds, hn, hs => by
    have hx : x ∈ ds := hs x List.mem_cons_self
    have hn' := List.nodup_cons.1 hn
    have := within_ (ds := ds.erase x) hn'.2 fun y hy => (List.mem_erase_of_ne (fun e => hn'.1 (by rw [← e]; exact hy))).2 (hs y (List.mem_cons_of_mem _ hy))
    have hl := List.length_erase_of_mem hx
    have h0 : 0 < ds.length := List.length_pos_of_mem hx
    rw [List.length_cons]
    omega
def strOf' : Lit → List UInt8
  | .string x => x
  | _ => []
theorem own_within {H : Type} {R : Value → Option (DataW H × List MemPlace)} {w : World} {b n : Nat} {D : DataW H} (h : w.ownsMap Try.prog 9 R b n D) {ds : List (List UInt8)} (hm : ∀ x, Maps.has D (.string x) = true → x ∈ ds) : Maps.size D ≤ ds.length := by
  obtain ⟨es, rfl, hp, hk⟩ := own_keys h
  rw [Maps.size_eq]
  have hl : (es.map fun p => strOf' p.1).length = es.length := List.length_map _
  rw [← hl]
  refine within_ (List.pairwise_map.2 (hp.imp_of_mem ?_)) (fun x hx => ?_)
  · intro p q hp' hq' hne e
    refine hne ?_
    obtain ⟨a, ha⟩ := hk p hp'
    obtain ⟨c, hc⟩ := hk q hq'
    rw [ha, hc] at e ⊢
    exact congrArg _ e
  · obtain ⟨p, hp', rfl⟩ := List.mem_map.1 hx
    obtain ⟨a, ha⟩ := hk p hp'
    refine hm _ (List.any_eq_true.2 ⟨p, hp', ?_⟩)
    rw [ha]
    exact beq_self_eq_true a
theorem zeroI (w : World) : (zeroValue 3).run Try.prog w = .ok (.int .i64 0) w := by kernel_rfl
end Go.Proofs.Ytcjhkfklkcmehaa.Tx
