/- The reference's Path, Split. -/
import Derived.Test.YtcmlofgkcalhnaaTn1
namespace Go.Proofs.Ytcmlofgkcalhnaa.Tx
open Go.RowKit Go.Proofs.Ytcmlofgkcalhnaa.Sh

def BoolPost (w : World) (t : Bool) (e : Ending) (w' : World) : Prop := e = .returned (.bool t) ∧ Below w.heap.size w w'
theorem piece_len {g : UInt8} : ∀ {s p : List UInt8}, p ∈ splitL g s → p.length ≤ s.length
  | [], p, h => by simp [splitL] at h; subst h; simp
  | c :: r, p, h => by
    by_cases hc : c = g
    · subst hc
      rw [splitL_sign] at h
      rcases List.mem_cons.1 h with rfl | h
      · simp
      · have := piece_len h; simp; omega
    · obtain ⟨q, qs, e1, e2⟩ := splitL_cons_ne hc r
      rw [e2] at h
      rcases List.mem_cons.1 h with rfl | h
      · have := piece_len (s := r) (p := q) (by rw [e1]; exact List.mem_cons_self)
        simp; omega
      · have := piece_len (s := r) (p := p) (by rw [e1]; exact List.mem_cons_of_mem _ h)
        simp; omega
theorem pathB_long {s : List UInt8} (h : 200 < s.length) : pathB s = false := by
  unfold pathB
  simp [show ¬ (s.length ≤ 200) from by omega]
theorem pathB_bad {s : List UInt8} {k : Nat} (hk : k < (splitL 47 s).length) (h : nameB (splitL 47 s)[k] = false) : pathB s = false := by
  unfold pathB
  have : (splitL 47 s).all nameB = false := by
    rw [List.all_eq_false]
    exact ⟨_, List.getElem_mem hk, by rw [h]; decide⟩
  rw [this, Bool.and_false, Bool.false_and]
theorem pathB_good {s : List UInt8} (h1 : s.length ≤ 200) (h : ∀ (k : Nat) (hk : k < (splitL 47 s).length), nameB (splitL 47 s)[k] = true) : pathB s = decide ((splitL 47 s).length ≤ 8) := by
  unfold pathB
  have : (splitL 47 s).all nameB = true := by
    rw [List.all_eq_true]
    intro x hx
    obtain ⟨i, hi, rfl⟩ := List.getElem_of_mem hx
    exact h i hi
  rw [this]
  simp [h1]
theorem pathB_len {s : List UInt8} (h : pathB s = true) : s.length ≤ 200 := by
  unfold pathB at h
  simp at h
  exact h.1.1
theorem bi47 : bi 47 = 47 := by unfold bi; rfl
theorem piece_at {w : World} {B : Nat} {ps : List (List UInt8)} {A : Option Addr} {n c : Nat} (h : OwnV 9 w B (.slice A n c) ((ps.map str).map sv)) (k : Nat) (hk : k < ps.length) : ∃ ad, A = some ad ∧ w.cell? (ad.add k) = some (.string (str ps[k])) := by
  obtain ⟨A', c', hv, _, _, hr⟩ := h.slv.len
  injection hv with e1 e2 e3
  subst e1
  obtain ⟨ad, h1, h2⟩ := reads_at hr k (sv (str ps[k])) (by rw [List.map_map, List.getElem?_map, List.getElem?_eq_getElem hk]; rfl)
  exact ⟨ad, h1, h2⟩

end Go.Proofs.Ytcmlofgkcalhnaa.Tx
