/- The laws' graph: made of the commits that came in. -/
import Derived.Test.YtcjhkfklkcmehaaDgC
set_option linter.unusedVariables false
set_option linter.unusedSimpArgs false
namespace Go.Proofs.Ytcjhkfklkcmehaa.Tx
open Go.RowKit Go.Maps Go.Proofs.Ytcjhkfklkcmehaa.Sh

def madeG (l : List LN) : GR := l.foldl (fun G n => addR G n.id n.par n.stamp) []
theorem madeG_snoc (l : List LN) (k : Nat) (hk : k < l.length) : madeG (l.take (k + 1)) = addR (madeG (l.take k)) l[k].id l[k].par l[k].stamp := by
  unfold madeG
  rw [List.take_succ_eq_append_getElem hk, List.foldl_append]
  rfl
/-- A graph of k commits at most, each of a hundred parents at most. -/
structure GK (G : GR) (k : Nat) : Prop where
  w : GW G
  len : G.length ≤ k
  par : ∀ n ∈ G, n.par.length ≤ 100
  st : ∀ n ∈ G, n.stamp ≤ 9223372036854775807
theorem GK.nil : GK [] 0 := ⟨GW.nil, Nat.le_refl _, fun n h => (by cases h), fun n h => (by cases h)⟩
theorem GK.gs {G : GR} {k : Nat} (h : GK G k) (hk : k ≤ 2000) : GS G := GS.of (Nat.le_trans h.len hk) (fun n hn => Nat.le_trans (h.par n hn) (by omega))
theorem GK.add {G : GR} {k : Nat} (h : GK G k) {id : ByteArray} {ps : List ByteArray} {stamp : Int} (hid : id.size ≤ 1000000) (hp : ps.length ≤ 100) (hst : stamp ≤ 9223372036854775807) : GK (addR G id ps stamp) (k + 1) := by
  refine ⟨h.w.addR hid, Nat.le_trans addR_len (Nat.add_le_add_right h.len 1), fun n hn => ?_, fun n hn => ?_⟩
  · unfold addR at hn
    split at hn
    · unfold addG at hn
      rw [List.mem_append, List.mem_singleton] at hn
      rcases hn with hn | rfl
      · exact h.par n hn
      · show (plsL G (uniqT ps)).length ≤ 100
        rw [pls_len]
        exact Nat.le_trans (uniqT_len ps) hp
    · exact h.par n hn
  · unfold addR at hn
    split at hn
    · unfold addG at hn
      rw [List.mem_append, List.mem_singleton] at hn
      rcases hn with hn | rfl
      · exact h.st n hn
      · exact hst
    · exact h.st n hn
theorem gk_made {l : List LN} (h : FewN l) (hst : ∀ n ∈ l, n.stamp ≤ 9223372036854775807) : ∀ k, k ≤ l.length → GK (madeG (l.take k)) k
  | 0, _ => GK.nil
  | k + 1, hk => by
    have hn := h.2 l[k] (List.getElem_mem (by omega))
    rw [madeG_snoc l k (by omega)]
    exact (gk_made h hst k (by omega)).add (by omega) (by omega) (hst _ (List.getElem_mem (by omega)))
theorem gk_whole {l : List LN} (h : FewN l) (hst : ∀ n ∈ l, n.stamp ≤ 9223372036854775807) : GK (madeG l) 40 := by
  have := gk_made h hst l.length (Nat.le_refl _)
  rw [List.take_of_length_le (Nat.le_refl _)] at this
  exact ⟨this.w, Nat.le_trans this.len h.1, this.par, this.st⟩
def MadePost (w : World) (l : List LN) (e : Ending) (w' : World) : Prop :=
  (∃ g, e = .returned (.pointer (some ⟨g, 0, none⟩)) ∧ GO w w' g (madeG l) ∧ FewN l) ∨ (e = .returned (.pointer none) ∧ Below w.heap.size w w')

set_option maxRecDepth 100000 in
set_option maxHeartbeats 3200000 in
theorem gmade_any (v : Value) (xs : List LN) (w : World) (h : LnV w v xs) (hsh : ShN xs) (hst : ∀ n ∈ xs, n.stamp ≤ 9223372036854775807) : Calls Try.prog 33 #[v] w (MadePost w xs) := by
  obtain ⟨A, c, rfl, hlc, hcm⟩ := h.slice
  have hfew := fun (W : World) (hW : Below w.heap.size w W) => gFew_any _ xs W (h.below hW) hsh
  have hAT := fun (W : World) (hW : Below w.heap.size w W) k a hk => (h.below hW).at_ k a hk
  obtain ⟨l, hl⟩ : ∃ l, xs.length = l := ⟨_, rfl⟩
  rw [hl] at hlc hfew ⊢
  unfold maxLen at hcm
  have HFEW := Lib.hid hfew
  have HAT := Lib.hid hAT
  have HSH := Lib.hid hsh
  have HST := Lib.hid hst
  have HL := Lib.hid hl
  clear h hAT hsh hl hfew hst
  go_enter Try.func33, Try.ntmps33
  go_wp2_with fail
  refine (gnew_any w).mono ?_
  rintro e w1 ⟨g, rfl, h1, hb1⟩
  have h0 : GO w w1 g [] := ⟨⟨_, h1, fun k hk => hk.1⟩, hb1⟩
  have H0 := Lib.hid h0
  have HF := Lib.hid (HFEW.out w1 hb1)
  clear h1 hb1 h0
  go_wp2_with fail
  refine (HF.out).mono ?_
  rintro e w2 ⟨t, rfl, ht, rfl⟩
  cases t with
  | false =>
    clear ht
    go_wp2_with fail
    go_ret
    exact .inr ⟨rfl, H0.out.b⟩
  | true =>
  have hfn := ht rfl
  have HFN := Lib.hid hfn
  have hl40 : l ≤ 40 := by rw [← HL.out]; exact hfn.1
  clear ht hfn
  go_wp2_with fail
  go_loopw [4] (fun i wr => ∃ k : Nat, k ≤ l ∧ i = .int .i64 k ∧ GO w wr g (madeG (xs.take k))) (fun i _ => l - (intOf i).toNat)
  case atStart => exact ⟨0, Nat.zero_le _, rfl, H0.out⟩
  case round =>
    obtain ⟨k, hk, rfl, hgo⟩ := hrel
    have HGO := Lib.hid hgo
    have z0 : (0 : Int) ≤ (k : Int) := by omega
    by_cases hlt : k < l
    · have z1 : (k : Int) < (l : Int) := by omega
      have hkl : k < xs.length := by rw [HL.out]; exact hlt
      obtain ⟨ad, A2, c2, rfl, c0, c1, c3, hs2⟩ := HAT.out wr hgo.b k xs[k] (List.getElem?_eq_getElem hkl)
      have hx := HFN.out.2 xs[k] (List.getElem_mem hkl)
      have HS := Lib.hid (madeG_snoc xs k hkl)
      have hgk := gk_made HFN.out HST.out k (by omega)
      have hadd := hgo.add_any hgk.w (hgk.gs (by omega)) xs[k].id _ xs[k].par xs[k].stamp wr.drew (Below.refl _ _).drew (by omega) (show SlV wr.drew _ _ from hs2) (fun s hs => by have := hx.2.2 s hs; omega) (by omega)
      obtain ⟨ix, hix⟩ : ∃ ix, xs[k].id = ix := ⟨_, rfl⟩
      obtain ⟨ps, hps⟩ : ∃ ps, xs[k].par = ps := ⟨_, rfl⟩
      obtain ⟨st, hst⟩ : ∃ st, xs[k].stamp = st := ⟨_, rfl⟩
      rw [hix] at c0 hadd HS
      rw [hps] at c1 hadd HS
      rw [hst] at c3 hadd HS
      obtain ⟨m, hm⟩ : ∃ m, ps.length = m := ⟨_, rfl⟩
      rw [hm] at c1 hadd
      have HADD := Lib.hid hadd
      have hbk := World.block_lt_of_cell? wr _ c0
      rw [block_of_add] at hbk
      have HC : Hid (∀ W : World, Below w.heap.size w W → W.cell? (ad.add (k * 3)) = some (.string ix) ∧ W.cell? ⟨(ad.add (k * 3)).block, (ad.add (k * 3)).off + 1, none⟩ = some (.slice A2 m c2) ∧ W.cell? ⟨(ad.add (k * 3)).block, (ad.add (k * 3)).off + 2, none⟩ = some (.int .i64 st)) := fun W hW => by
        obtain ⟨ad', A2', c2', he, d0, d1, d3, _⟩ := HAT.out W hW k xs[k] (List.getElem?_eq_getElem hkl)
        injection he with he
        subst he
        obtain ⟨ad'', A3, c3', he, f0, f1, f3, _⟩ := HAT.out w (Below.refl _ _) k xs[k] (List.getElem?_eq_getElem hkl)
        injection he with he
        subst he
        have hlw : ad.block < w.heap.size := by have := World.block_lt_of_cell? w _ f0; rwa [block_of_add] at this
        have k1 : W.cell? ⟨(ad.add (k * 3)).block, (ad.add (k * 3)).off + 1, none⟩ = w.cell? ⟨(ad.add (k * 3)).block, (ad.add (k * 3)).off + 1, none⟩ := hW.cell (by rw [block_of_add]; exact hlw)
        have k2 : wr.cell? ⟨(ad.add (k * 3)).block, (ad.add (k * 3)).off + 1, none⟩ = w.cell? ⟨(ad.add (k * 3)).block, (ad.add (k * 3)).off + 1, none⟩ := hgo.b.cell (by rw [block_of_add]; exact hlw)
        exact ⟨by rw [d0, hix], by rw [k1, ← k2, c1], by rw [d3, hst]⟩
      obtain ⟨q0, q1, q2⟩ := HC.out wr hgo.b
      clear hkl hx hgk hadd hix hps hst hm hs2 c0 c1 c3 hgo hbk
      go_wp2_with fail
      go_region_held3 (fun W => W.cell? (ad.add (k * 3)) = some (.string ix) ∧ W.cell? ⟨(ad.add (k * 3)).block, (ad.add (k * 3)).off + 1, none⟩ = some (.slice A2 m c2) ∧ W.cell? ⟨(ad.add (k * 3)).block, (ad.add (k * 3)).off + 2, none⟩ = some (.int .i64 st)) (first | exact HC.out _ HG2.out.b | exact ⟨q0, q1, q2⟩) (first
        | (go_at_call 13; refine (HADD.out).mono ?_; rintro e w3 ⟨rfl, hg2⟩; have HG2 := Lib.hid hg2; clear hg2))
      go_wp2_with fail
      go_roundw
      case rel => exact ⟨k + 1, by omega, by go_num, by rw [HS.out]; exact HG2.out⟩
      case measure => simp [intOf]; omega
    · obtain rfl : k = l := by omega
      have HE := Lib.hid (show xs.take k = xs from List.take_of_length_le (by rw [HL.out]; omega))
      clear hgo
      go_wp2_with fail
      go_ret
      refine .inl ⟨g, rfl, ?_, HFN.out⟩
      have := HGO.out
      rwa [HE.out] at this
end Go.Proofs.Ytcjhkfklkcmehaa.Tx
