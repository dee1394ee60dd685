/- Texts put together: Gq0. -/
import Derived.Test.YtecpedecgcaeoaaQg08
import Derived.Test.YtecpedecgcaeoaaQg05
import Derived.BigQuiet
import Derived.WalkKit
/- The document's Graph in memory, read: at, Has, Stamp, Parents. -/
set_option linter.unusedVariables false
set_option linter.unusedSimpArgs false
namespace Go.Proofs.Ytecpedecgcaeoaa.Tx
open Go.RowKit

section
variable {G : GR} {i : Nat} {p : List UInt8}
theorem at_here (hk : i < G.length) (he : (idAt G i).toList = p) (hn : ∀ j, j < i → (idAt G j).toList ≠ p) : posL G p = some i := by
  unfold posL
  rw [List.findIdx?_eq_some_iff_getElem]
  refine ⟨hk, ?_, fun j hj => ?_⟩
  · rw [idAt_of (List.getElem?_eq_getElem hk)] at he
    exact beq_iff_eq.2 he
  · have h1 := hn j hj
    rw [idAt_of (List.getElem?_eq_getElem (by omega))] at h1
    simpa using h1
theorem at_not (hn : ∀ j, j < G.length → (idAt G j).toList ≠ p) : posL G p = none := by
  unfold posL
  rw [List.findIdx?_eq_none_iff]
  intro n hm
  obtain ⟨j, hj, rfl⟩ := List.getElem_of_mem hm
  have h1 := hn j hj
  rw [idAt_of (List.getElem?_eq_getElem hj)] at h1
  exact beq_eq_false_iff_ne.2 h1
end
/-- Where an id is, or -1. -/
def atP (G : GR) (s : ByteArray) : Int := match posL G s.toList with
  | some k => (k : Int)
  | none => -1
/-- The document's Graph at g, as it is read. -/
structure RG (w : World) (g : Nat) (G : GR) : Prop where
  c0 : ∃ v, w.cell? ⟨g, 0, none⟩ = some v ∧ SlV w v (G.map fun n => sv n.id)
  c1 : ∃ A c, w.cell? ⟨g, 1, none⟩ = some (.slice A G.length c) ∧ ∀ k, k < G.length → ∃ ad v, A = some ad ∧ w.cell? (ad.add k) = some v ∧ SlV w v (((parAt G k).map (idAt G)).map sv)
  c2 : ∃ v, w.cell? ⟨g, 2, none⟩ = some v ∧ SlV w v (G.map fun n => (.int .i64 n.stamp : Value))
theorem RG.below {w w' : World} {g : Nat} {G : GR} (h : RG w g G) (hb : Below w.heap.size w w') : RG w' g G := by
  obtain ⟨v0, a0, b0⟩ := h.c0
  obtain ⟨A, c, a1, b1⟩ := h.c1
  obtain ⟨v2, a2, b2⟩ := h.c2
  refine ⟨⟨v0, (hb.cell (World.block_lt_of_cell? w _ a0)).trans a0, b0.below hb⟩, ⟨A, c, (hb.cell (World.block_lt_of_cell? w _ a1)).trans a1, fun k hk => ?_⟩, ⟨v2, (hb.cell (World.block_lt_of_cell? w _ a2)).trans a2, b2.below hb⟩⟩
  obtain ⟨ad, v, e, x, y⟩ := b1 k hk
  exact ⟨ad, v, e, (hb.cell (World.block_lt_of_cell? w _ x)).trans x, y.below hb⟩
set_option maxRecDepth 100000 in
set_option maxHeartbeats 1600000 in
theorem rat_any {w : World} {g : Nat} {G : GR} (s : ByteArray) (h : RG w g G) (hl : G.length ≤ 1000000) : Calls Try.prog 32 #[.pointer (some ⟨g, 0, none⟩), .string s] w fun e w' => e = .returned (.int .i64 (atP G s)) ∧ w = w' := by
  obtain ⟨v0, y0, hs⟩ := h.c0
  obtain ⟨A, c, rfl, hlc, hcm, hrd, _⟩ := hs
  rw [List.length_map] at y0 hlc hrd
  unfold maxLen at hcm
  have HRD : Hid (∀ k, k < G.length → ∃ ad, A = some ad ∧ w.cell? (ad.add k) = some (sv (idAt G k))) := fun k hk => reads_at hrd k _ (by rw [List.getElem?_map, List.getElem?_eq_getElem hk, idAt_of (List.getElem?_eq_getElem hk)]; rfl)
  have HHE := Lib.hid (fun (i : Nat) (h1 : i < G.length) (h2 : (idAt G i).toList = s.toList) (h3 : ∀ j, j < i → (idAt G j).toList ≠ s.toList) => at_here h1 h2 h3)
  have HNO := Lib.hid (fun (h3 : ∀ j, j < G.length → (idAt G j).toList ≠ s.toList) => at_not (G := G) h3)
  obtain ⟨n, hn⟩ : ∃ n, G.length = n := ⟨_, rfl⟩
  rw [hn] at y0 hlc hl HRD HHE HNO
  clear h hrd hn
  go_enter Try.func32, Try.ntmps32
  go_wp2_with fail
  go_loopw [5] (fun x wr => ∃ i : Nat, i ≤ n ∧ x = .int .i64 (i : Int) ∧ wr = w ∧ ∀ j, j < i → (idAt G j).toList ≠ s.toList) (fun x _ => n - (intOf x).toNat)
  case atStart => exact ⟨0, Nat.zero_le _, rfl, rfl, fun j hj => absurd hj (Nat.not_lt_zero _)⟩
  case round =>
    obtain ⟨i, hi, rfl, rfl, hno⟩ := hrel
    have HJ := Lib.hid hno
    clear hno
    have z0 : (0 : Int) ≤ (i : Int) := by omega
    by_cases hlt : i < n
    · have z1 : (i : Int) < (n : Int) := by omega
      obtain ⟨ad, rfl, x0⟩ := HRD.out i hlt
      obtain ⟨u, hu⟩ : ∃ u, idAt G i = u := ⟨_, rfl⟩
      rw [hu] at x0
      have x1 : wr.cell? (ad.add i) = some (.string u) := x0
      clear x0
      by_cases he : u.toList = s.toList
      · have t1 : (u.toList == s.toList) = true := beq_iff_eq.2 he
        have HP := Lib.hid (HHE.out i hlt (by rw [hu]; exact he) HJ.out)
        clear he hu
        go_wp2_with fail
        go_ret
        exact ⟨by unfold atP; rw [HP.out]; rfl, rfl⟩
      · have t1 : (u.toList == s.toList) = false := beq_eq_false_iff_ne.2 he
        have HNE : Hid ((idAt G i).toList ≠ s.toList) := by unfold Hid; rw [hu]; exact he
        clear he hu
        go_wp2_with fail
        go_roundw
        case rel => exact ⟨i + 1, by omega, by go_num, trivial, fun j hj => by
          rcases Nat.lt_or_ge j i with h1 | h1
          · exact HJ.out j h1
          · have : j = i := by omega
            subst this
            exact HNE.out⟩
        case measure => simp [intOf]; omega
    · obtain rfl : i = n := by omega
      have HP := Lib.hid (HNO.out (fun j hj => HJ.out j hj))
      go_wp2_with fail
      go_ret
      exact ⟨by unfold atP; rw [HP.out]; rfl, rfl⟩
theorem atP_in {G : GR} {s : ByteArray} (h : inG G s = true) : atP G s = (pl G s : Int) := by unfold atP; rw [pos_in h]
theorem atP_out {G : GR} {s : ByteArray} (h : inG G s = false) : atP G s = -1 := by unfold atP; rw [pos_out h]
set_option maxRecDepth 100000 in
theorem rghas_any {w : World} {g : Nat} {G : GR} (s : ByteArray) (h : RG w g G) (hl : G.length ≤ 1000000) : Calls Try.prog 14 #[.pointer (some ⟨g, 0, none⟩), .string s] w fun e w' => e = .returned (.bool (inG G s)) ∧ w = w' := by
  have HC := Lib.hid (rat_any s h hl)
  cases hi : inG G s with
  | true =>
    rw [atP_in hi] at HC
    have z : (0 : Int) ≤ (pl G s : Int) := by omega
    clear h hl hi
    go_enter Try.func14, Try.ntmps14
    go_wp2_with fail
    refine HC.out.mono ?_
    rintro e w' ⟨rfl, rfl⟩
    go_wp2_with fail
    go_ret
    exact ⟨rfl, rfl⟩
  | false =>
    rw [atP_out hi] at HC
    clear h hl hi
    go_enter Try.func14, Try.ntmps14
    go_wp2_with fail
    refine HC.out.mono ?_
    rintro e w' ⟨rfl, rfl⟩
    go_wp2_with fail
    go_ret
    exact ⟨rfl, rfl⟩
end Go.Proofs.Ytecpedecgcaeoaa.Tx
