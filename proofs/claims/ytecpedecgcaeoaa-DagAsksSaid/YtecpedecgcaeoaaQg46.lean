/- Texts put together: Gr9. -/
import Derived.Test.YtecpedecgcaeoaaQg44
import Derived.Test.YtecpedecgcaeoaaQg45
import Derived.Test.YtecpedecgcaeoaaQg42
/- DagAsks: what both graphs answer. -/
set_option linter.unusedVariables false
set_option linter.unusedSimpArgs false
namespace Go.Proofs.Ytecpedecgcaeoaa.Tx
open Go.RowKit Go.Maps Go.Proofs.Ytecpedecgcaeoaa.Sh

theorem first_back {w w1 : World} (h : Below w.heap.size w w1) : Calls Try.prog 4 #[] w1 (Yes w) :=
  (gfirst_any w1).mono fun e w' ⟨he, hb⟩ => ⟨he, h.trans (hb.mono h.size)⟩
/-- What both graphs answer, standing side by side in v. -/
structure BCalls (v : World) (g x : Nat) (G : GR) : Prop where
  len : ∀ W : World, Below v.heap.size v W → Calls Try.prog 12 #[.pointer (some ⟨g, 0, none⟩)] W fun e w' => e = .returned (.int .i64 (G.length : Int)) ∧ W = w'
  ids : ∃ A c, ∀ W, Below v.heap.size v W → W.cell? ⟨x, 0, none⟩ = some (.slice A G.length c)
  has : ∀ (W : World) (a : ByteArray), Below v.heap.size v W → a.size ≤ 1000000 → Calls Try.prog 13 #[.pointer (some ⟨g, 0, none⟩), .string a] W fun e w' => e = .returned (.bool (inG G a)) ∧ W = w'
  hasd : ∀ (W : World) (a : ByteArray), Below v.heap.size v W → Calls Try.prog 14 #[.pointer (some ⟨x, 0, none⟩), .string a] W fun e w' => e = .returned (.bool (inG G a)) ∧ W = w'
  st : ∀ (W : World) (a : ByteArray), Below v.heap.size v W → a.size ≤ 1000000 → Calls Try.prog 15 #[.pointer (some ⟨g, 0, none⟩), .string a] W fun e w' => e = .returned (.int .i64 (if inG G a then stAt G (pl G a) else -1)) ∧ W = w'
  std : ∀ (W : World) (a : ByteArray), Below v.heap.size v W → Calls Try.prog 16 #[.pointer (some ⟨x, 0, none⟩), .string a] W fun e w' => e = .returned (.int .i64 (if inG G a then stAt G (pl G a) else -1)) ∧ Below W.heap.size W w'
  par : ∀ (W : World) (a : ByteArray), Below v.heap.size v W → a.size ≤ 1000000 → Calls Try.prog 17 #[.pointer (some ⟨g, 0, none⟩), .string a] W (TextsPost W (if inG G a then (parAt G (pl G a)).map (idAt G) else []))
  pard : ∀ (W : World) (a : ByteArray), Below v.heap.size v W → Calls Try.prog 18 #[.pointer (some ⟨x, 0, none⟩), .string a] W (TextsPost W (if inG G a then (parAt G (pl G a)).map (idAt G) else []))
theorem Both.calls {w v : World} {g x : Nat} {G : GR} (h : Both w v g x G G) (hw : GW G) (hs : GS G) : BCalls v g x G := by
  obtain ⟨⟨Z, Y, h1, h2, _, _, _⟩, _⟩ := h
  have hl := hs.len
  refine ⟨fun W hW => glen_any Z g G W (h1.below hW), ?_, fun W a hW ha => ghas_any Z g G a W (h1.below hW) ha, fun W a hW => rghas_any a (h2.below hW).rg (by omega), fun W a hW ha => gstamp_any Z g G a W (h1.below hW) ha, fun W a hW => Gd.rgstamp_any a (h2.below hW).rg (by omega), fun W a hW ha => gparents_any Z g G a W (h1.below hW) hw ha (Nat.le_trans (hs.par _) (by omega)), fun W a hW => Gd.rgparents_any a (h2.below hW).rg (by omega) (fun k => Nat.le_trans (hs.par k) (by omega))⟩
  obtain ⟨v0, y0, hs0⟩ := h2.rg.c0
  obtain ⟨A, c, rfl, _, _, _⟩ := hs0
  rw [List.length_map] at y0
  exact ⟨A, c, fun W hW => (hW.cell (World.block_lt_of_cell? v _ y0)).trans y0⟩
/-- A question's answer, in one form. -/
def AskU (w : World) (L : List ByteArray) (n : Int) (e : Ending) (w' : World) : Prop := Below w.heap.size w w' ∧ ∃ v, e = .returned (.tuple #[v, .int .i64 n]) ∧ OwnV 9 w' w.heap.size v (L.map sv)
theorem AskPost.u {w w' : World} {ok : Bool} {ts : List ByteArray} {e : Ending} (h : AskPost w ok ts e w') : AskU w (if ok then ts else []) (if ok then 0 else 7) e w' := by
  obtain ⟨hb, ⟨rfl, v, he, ho⟩ | ⟨rfl, he⟩⟩ := h
  · exact ⟨hb, v, he, ho⟩
  · exact ⟨hb, _, he, OwnV.nil_ _ _⟩
def OrdU (w : World) (G : GR) (xs : List ByteArray) (e : Ending) (w' : World) : Prop := ∃ L, AskU w L (if allG G xs then 0 else 7) e w' ∧ (allG G xs = true → ∃ os, OrdG G xs os ∧ L = os.map (idAt G)) ∧ (allG G xs = false → L = [])
theorem OrdPost.u {w w' : World} {G : GR} {xs : List ByteArray} {e : Ending} (h : OrdPost w G xs e w') : OrdU w G xs e w' := by
  obtain ⟨hb, ⟨h1, v, os, he, hg, ho⟩ | ⟨h1, he⟩⟩ := h
  · exact ⟨_, ⟨hb, v, by rw [h1]; exact he, ho⟩, fun _ => ⟨os, hg, rfl⟩, fun h => by rw [h1] at h; cases h⟩
  · exact ⟨[], ⟨hb, _, by rw [h1]; exact he, OwnV.nil_ _ _⟩, fun h => absurd (h1.symm.trans h) (by decide), fun _ => rfl⟩
theorem ordu_same {G : GR} {xs L L' : List ByteArray} (hw : GW G) (h1 : allG G xs = true → ∃ os, OrdG G xs os ∧ L = os.map (idAt G)) (h2 : allG G xs = false → L = []) (h1' : allG G xs = true → ∃ os, OrdG G xs os ∧ L' = os.map (idAt G)) (h2' : allG G xs = false → L' = []) : L' = L := by
  cases h : allG G xs with
  | false => rw [h2 h, h2' h]
  | true =>
    obtain ⟨os, a, rfl⟩ := h1 h
    obtain ⟨os', a', rfl⟩ := h1' h
    rw [ord_same hw a a']
/-- The questions behind the loop. -/
structure BTail (v : World) (g x : Nat) (G : GR) (ts : List ByteArray) (b : ByteArray) : Prop where
  anc : ∃ L n, ∀ (W : World) (u : Value), Below v.heap.size v W → SlV W u (ts.map sv) → Calls Try.prog 19 #[.pointer (some ⟨g, 0, none⟩), u] W (AskU W L n) ∧ Calls Try.prog 20 #[.pointer (some ⟨x, 0, none⟩), u] W (AskU W L n)
  bas : ∃ L n, ∀ (W : World) (u : Value), Below v.heap.size v W → SlV W u (ts.map sv) → Calls Try.prog 21 #[.pointer (some ⟨g, 0, none⟩), u, .string b] W (AskU W L n) ∧ Calls Try.prog 22 #[.pointer (some ⟨x, 0, none⟩), u, .string b] W (AskU W L n)
  top : ∃ L n, ∀ (W : World) (u : Value), Below v.heap.size v W → SlV W u (ts.map sv) → Calls Try.prog 23 #[.pointer (some ⟨g, 0, none⟩), u] W (AskU W L n) ∧ Calls Try.prog 24 #[.pointer (some ⟨x, 0, none⟩), u] W (AskU W L n)
  ord : ∃ n, ∀ (W : World) (u : Value), Below v.heap.size v W → SlV W u (ts.map sv) → Calls Try.prog 25 #[.pointer (some ⟨g, 0, none⟩), u] W (fun e w' => ∃ L, AskU W L n e w' ∧ ∀ (W2 : World) (u2 : Value), Below v.heap.size v W2 → SlV W2 u2 (ts.map sv) → Calls Try.prog 26 #[.pointer (some ⟨x, 0, none⟩), u2] W2 (AskU W2 L n))
  is_ : ∀ a : ByteArray, a.size ≤ 1000000 → ∃ t, ∀ W : World, Below v.heap.size v W → Calls Try.prog 27 #[.pointer (some ⟨g, 0, none⟩), .string a, .string b] W (fun e w' => e = .returned (.bool t) ∧ Below W.heap.size W w') ∧ Calls Try.prog 28 #[.pointer (some ⟨x, 0, none⟩), .string a, .string b] W fun e w' => e = .returned (.bool t) ∧ Below W.heap.size W w'
theorem Both.tail {w v : World} {g x : Nat} {G : GR} {ts : List ByteArray} {b : ByteArray} (h : Both w v g x G G) (hw : GW G) (hs : GS G) (hl : G.length ≤ 400) (hn : ts.length ≤ 400) (hsz : ∀ s ∈ ts, s.size ≤ 1000000) (hb : b.size ≤ 1000000) : BTail v g x G ts b := by
  obtain ⟨⟨Z, Y, h1, h2, _, _, _⟩, _⟩ := h
  have ha := all_uq (G := G) (xs := ts)
  refine ⟨⟨_, _, fun W u hW hu => ⟨(gancs_any Z g G u ts W (h1.below hW) hw hs hu hsz (by omega)).mono fun e w' hp => hp.u, (rganc_any u ts (h2.below hW).rg hw hs.len hu (by omega)).mono fun e w' hp => hp.u⟩⟩,
    ⟨_, _, fun W u hW hu => ⟨(gbases_any Z g G u ts b W (h1.below hW) hw hs hu hsz (by omega) hb).mono fun e w' hp => hp.u, (rgbases_any u ts b (h2.below hW).rg hw hs hl hu hn).mono fun e w' hp => hp.u⟩⟩,
    ⟨_, _, fun W u hW hu => ⟨(gtopsx_any Z g G u ts W (h1.below hW) hw hs hu hsz (by omega)).mono fun e w' hp => hp.u, by
      have q := rgtops_any u ts (h2.below hW).rg hw hs hl hu hn
      rw [← ha] at q
      exact q.mono fun e w' hp => hp.u⟩⟩,
    ⟨if allG G ts then 0 else 7, fun W u hW hu => (gorder_any Z g G u ts W (h1.below hW) hw hs hu hsz (by omega)).mono fun e w' hp => ?_⟩,
    fun a hA => ⟨_, fun W hW => ⟨gis_any Z g G a b W (h1.below hW) hw hs hA hb, rgis_any a b (h2.below hW).rg hw hl⟩⟩⟩
  obtain ⟨L, q1, q2, q3⟩ := hp.u
  exact ⟨L, q1, fun W2 u2 hW2 hu2 => (rgorder_any u2 ts (h2.below hW2).rg hw hl hu2 hn).mono fun e w' hp' => by
    obtain ⟨L', p1, p2, p3⟩ := hp'.u
    rw [ordu_same hw q2 q3 p2 p3] at p1
    exact p1⟩
end Go.Proofs.Ytecpedecgcaeoaa.Tx
