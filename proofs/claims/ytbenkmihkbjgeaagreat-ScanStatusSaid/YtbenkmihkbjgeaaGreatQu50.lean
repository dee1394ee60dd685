/- Texts put together: USc20a. -/
import Derived.Test.YtbenkmihkbjgeaaGreatQu45
/- What differs, read row by row. -/
set_option linter.unusedVariables false
set_option linter.unusedSimpArgs false
namespace Go.Proofs.YtbenkmihkbjgeaaGreat.Tx
open Go.RowKit Go.Maps Go.Proofs.YtbenkmihkbjgeaaGreat.Sh S7
theorem stsM_self (a : List RwM) (l : List ByteArray) : stsM a a l = [] := by
 unfold stsM
 rw [List.filter_eq_nil_iff]
 intro c hc
 obtain ⟨x, _, rfl⟩ := List.mem_map.1 hc
 unfold cgM sameM
 simp
theorem cg_at {w : World} {B n : Nat} {A : Option Addr} {l : List CgM} (h : Reads w B 5 A n (l.flatMap cgC)) (hn : n = l.length) (k : Nat) (x : CgM) (hk : l[k]? = some x) :
  ∃ ad, A = some ad ∧ w.cell? (ad.add (k * 5)) = some (.string (Tx.str x.path)) ∧ w.cell? ⟨(ad.add (k * 5)).block, (ad.add (k * 5)).off + 1, none⟩ = some (.int .i64 x.old.1) ∧ w.cell? ⟨(ad.add (k * 5)).block, (ad.add (k * 5)).off + 2, none⟩ = some (.string (Tx.str x.old.2)) ∧
   w.cell? ⟨(ad.add (k * 5)).block, (ad.add (k * 5)).off + 3, none⟩ = some (.int .i64 x.new.1) ∧ w.cell? ⟨(ad.add (k * 5)).block, (ad.add (k * 5)).off + 4, none⟩ = some (.string (Tx.str x.new.2)) := by
 have hl : k < l.length := (List.getElem?_eq_some_iff.1 hk).1
 obtain ⟨ad, e, _, hc⟩ := h.2 (by omega)
 have ha := cgC_at l k x hk
 refine ⟨ad, e, hc _ _ (ha 0 _ rfl), ?_, ?_, ?_, ?_⟩
 ·rw [← Tx.add_field' ad (k * 5) 1 (by omega)]
  exact hc _ _ (ha 1 _ rfl)
 ·rw [← Tx.add_field' ad (k * 5) 2 (by omega)]
  exact hc _ _ (ha 2 _ rfl)
 ·rw [← Tx.add_field' ad (k * 5) 3 (by omega)]
  exact hc _ _ (ha 3 _ rfl)
 ·rw [← Tx.add_field' ad (k * 5) 4 (by omega)]
  exact hc _ _ (ha 4 _ rfl)
theorem OwnCg.slice {T : TypeId} {w : World} {B : Nat} {v : Value} {l : List CgM} (h : OwnCg T w B v l) : ∃ A c, v = .slice A l.length c ∧ l.length ≤ c ∧ c ≤ maxLen ∧ Reads w w.heap.size 5 A l.length (l.flatMap cgC) := by
 rcases h.2 with ⟨rfl, h0⟩ | ⟨g, cap, cur, rfl, hb, hg, hc, hm, hcs, htk⟩
 ·have : l = [] := List.eq_nil_of_length_eq_zero h0
  subst this
  exact ⟨none, 0, rfl, Nat.le_refl _, by unfold maxLen; omega, by simp, fun h => absurd h (by simp)⟩
 ·exact ⟨_, cap, rfl, hc, hm, Reads.of_own (show w.ownsRow B T 5 (.slice (some ⟨g, 0, none⟩) l.length cap) l.length (l.flatMap cgC) from h)⟩
end Go.Proofs.YtbenkmihkbjgeaaGreat.Tx
