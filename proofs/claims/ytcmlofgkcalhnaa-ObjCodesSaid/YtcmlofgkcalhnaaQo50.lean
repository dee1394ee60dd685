/- Texts put together: Ro10, Ro0. -/
import Derived.Test.YtcmlofgkcalhnaaQo49
import Derived.Test.YtcmlofgkcalhnaaQo36
/- The document's Reader: Num. -/
namespace Go.Proofs.Ytcmlofgkcalhnaa.Ob
open Go.RowKit Go.Proofs.Ytcmlofgkcalhnaa.Sh
open Go.Proofs.Ytcmlofgkcalhnaa.Tx (OwnV SlV sv bl nameB reads_at texts_at toList_ne')

theorem numA_ok {bs : List UInt8} {p : Nat} (hp : p ≤ bs.length) {a b : Int} (h : getR bs (p : Int) = (a, b, 0)) : ∃ n m : Nat, a = n ∧ b = m ∧ m ≤ bs.length ∧ numR (bs.drop p, false) = (n, (bs.drop m, false)) := by
  rw [getR_in hp] at h
  by_cases h0 : (getE (bs.drop p)).2.2 = 0
  · rw [if_pos h0] at h
    injection h with h1 h
    injection h with h2 _
    refine ⟨(getE (bs.drop p)).1, p + (getE (bs.drop p)).2.1, h1.symm, by rw [← h2]; simp, ?_, ?_⟩
    · have hl : (bs.drop p).length = bs.length - p := List.length_drop
      unfold getE at h0 ⊢
      split at h0
      · cases h0
      · rename_i hne
        have := cont_le (bs.drop p)
        rw [if_neg hne]
        split
        · show p + (cont (bs.drop p) + 1) ≤ bs.length; omega
        · show p + 0 ≤ bs.length; omega
    · unfold numR
      rw [if_pos h0]
      show ((getE (bs.drop p)).1, ((bs.drop p).drop (getE (bs.drop p)).2.1, false)) = _
      rw [List.drop_drop]
  · rw [if_neg h0] at h
    injection h with h1 h
    injection h with h2 h3
    exfalso
    exact h0 (by omega)
theorem numA_bad {bs : List UInt8} {p : Nat} (hp : p ≤ bs.length) {a b c : Int} (h : getR bs (p : Int) = (a, b, c)) (hc : c ≠ 0) : numR (bs.drop p, false) = (0, ([], true)) := by
  rw [getR_in hp] at h
  unfold numR
  by_cases h0 : (getE (bs.drop p)).2.2 = 0
  · rw [if_pos h0] at h
    injection h with h1 h
    injection h with h2 h3
    exact absurd h3.symm hc
  · rw [if_neg h0]
theorem numR_failed : numR ([], true) = (0, ([], true)) := by
  unfold numR
  split
  · rename_i h
    revert h
    decide
  · rfl
set_option maxRecDepth 100000 in
set_option maxHeartbeats 3200000 in
theorem rnum_any (w0 w : World) (g : Nat) (s : Rdr) (h : RfAt w0 w g s) : Calls Try.prog 38 #[.pointer (some ⟨g, 0, none⟩)] w (RNum w0 w g (numR s).1 (numR s).2) := by
  obtain ⟨A, c, bs, p, bad, h1, h2, h3, h4, rfl, h6, h7⟩ := h
  obtain ⟨x0, x1, x2, f1, f2⟩ := three_cells h1
  obtain ⟨l, hl⟩ : ∃ l, bs.length = l := ⟨_, rfl⟩
  obtain ⟨⟨a, b, k⟩, hr⟩ : ∃ q, getR bs (p : Int) = q := ⟨_, rfl⟩
  have HRR := Lib.hid hr
  have H1 := Lib.hid h1
  have H2 := Lib.hid h2
  have H3 := Lib.hid h3
  have H4 := Lib.hid h4
  have H6 := Lib.hid h6
  have H7 := Lib.hid h7
  have HL := Lib.hid hl
  rw [hl] at x0
  clear h1 h2 h3 h4 h6 h7 hl hr
  have HSL : Hid (∀ W, Below w.heap.size w W → Sl W (.slice A l c) bs) := fun W hW => by
    have := H2.out.below (H7.out.trans (hW.mono H7.out.size))
    rw [HL.out] at this
    exact this
  have HFIN : Hid (∀ W (q : Nat) (bd : Bool) (i : Nat) (u : Value), Below w.heap.size w W → (i = 2 ∧ u = .bool bd ∧ q = p ∨ i = 1 ∧ u = .int .i64 (q : Int) ∧ bd = bad) → q ≤ l → RfAt w0 (W.setCell ⟨g, i, none⟩ u) g (absR bs q bd) ∧ Upd g w (W.setCell ⟨g, i, none⟩ u)) := fun W q bd i u hW hc hq => by
    have hu : Upd g w (W.setCell ⟨g, i, none⟩ u) := (Upd.of_below hW).set_ i u
    refine ⟨⟨A, c, bs, q, bd, ?_, H2.out, by rw [HL.out]; exact hq, H4.out, rfl, H6.out, H7.out.trans (hu.below H6.out H7.out.size)⟩, hu⟩
    have hb := H1.out.below hW H1.out.lt
    rcases hc with ⟨rfl, rfl, rfl⟩ | ⟨rfl, rfl, rfl⟩
    · simpa using hb.set_ 2 (.bool bd)
    · simpa using hb.set_ 1 (.int .i64 (q : Int))
  have HCL : Hid (∀ W, Below w.heap.size w W → W.cell? ⟨g, 0, none⟩ = some (.slice A l c) ∧ W.cell? ⟨g, 1, none⟩ = some (.int .i64 (p : Int)) ∧ W.cell? ⟨g, 2, none⟩ = some (.bool bad) ∧ W.frozen? ⟨g, 1, none⟩ = false ∧ W.frozen? ⟨g, 2, none⟩ = false) := fun W hW => by
    have hb := H1.out.below hW H1.out.lt
    rw [HL.out] at hb
    exact three_cells hb
  have hpl : p ≤ l := by rw [← HL.out]; exact H3.out
  have HPL := Lib.hid hpl
  have k00 : (0 : Int) ≤ (p : Int) := by omega
  clear hpl x0 x1 x2 f1 f2
  have go1 : ∀ (t : Bool), (bad = t) → Calls Try.prog 38 #[.pointer (some ⟨g, 0, none⟩)] w (RNum w0 w g (numR (absR bs p bad)).1 (numR (absR bs p bad)).2) := by
    intro t ht
    subst ht
    cases bad with
    | true =>
      have HT : Hid (numR (absR bs p true) = (0, ([], true))) := numR_failed
      rw [HT.out]
      go_enter Try.func38, Try.ntmps38
      go_wp2_with fail
      go_region_held3 (fun W : World => W.cell? ⟨g, 0, none⟩ = some (.slice A l c) ∧ W.cell? ⟨g, 1, none⟩ = some (.int .i64 (p : Int)))
        (first | exact ⟨(HCL.out _ HB3.out).1, (HCL.out _ HB3.out).2.1⟩ | exact ⟨(HCL.out _ (Below.refl _ _).drew).1, (HCL.out _ (Below.refl _ _).drew).2.1⟩)
        (first | (go_at_call 65; refine (rget_any _ bs _ a b k _ (HSL.out _ (Below.refl _ _).drew) HRR.out).mono ?_; rintro e w3 ⟨rfl, hb3⟩; have HB3 := Lib.hid (show Below w.heap.size w w3 from ⟨hb3.os, hb3.tape, hb3.output, hb3.size, hb3.block⟩); clear hb3))
      obtain ⟨y0, y1, y2, f1, f2⟩ := HCL.out _ HB3.out
      go_wp2_with fail
      go_ret
      have h9 := HFIN.out w3 p true 2 (.bool true) HB3.out (.inl ⟨rfl, rfl, rfl⟩) HPL.out
      exact ⟨rfl, h9.1, h9.2⟩
    | false =>
      rw [absR_ok]
      by_cases hk : k = 0
      · subst hk
        obtain ⟨n, m, rfl, rfl, hm, hnum⟩ := numA_ok H3.out HRR.out
        rw [HL.out] at hm
        have HN := Lib.hid hnum
        have HM := Lib.hid hm
        clear hnum hm
        rw [HN.out]
        go_enter Try.func38, Try.ntmps38
        go_wp2_with fail
        go_region_held3 (fun W : World => W.cell? ⟨g, 0, none⟩ = some (.slice A l c) ∧ W.cell? ⟨g, 1, none⟩ = some (.int .i64 (p : Int)))
          (first | exact ⟨(HCL.out _ HB3.out).1, (HCL.out _ HB3.out).2.1⟩ | exact ⟨(HCL.out _ (Below.refl _ _).drew).1, (HCL.out _ (Below.refl _ _).drew).2.1⟩)
          (first | (go_at_call 65; refine (rget_any _ bs _ n m 0 _ (HSL.out _ (Below.refl _ _).drew) HRR.out).mono ?_; rintro e w3 ⟨rfl, hb3⟩; have HB3 := Lib.hid (show Below w.heap.size w w3 from ⟨hb3.os, hb3.tape, hb3.output, hb3.size, hb3.block⟩); clear hb3))
        obtain ⟨y0, y1, y2, f1, f2⟩ := HCL.out _ HB3.out
        go_wp2_with fail
        go_ret
        have h9 := HFIN.out w3 m false 1 (.int .i64 (m : Int)) HB3.out (.inr ⟨rfl, rfl, rfl⟩) HM.out
        rw [absR_ok] at h9
        exact ⟨rfl, h9.1, h9.2⟩
      · have HN := Lib.hid (numA_bad H3.out HRR.out hk)
        rw [HN.out]
        have ek : (k == 0) = false := beq_eq_false_iff_ne.2 hk
        have ek' : (k != 0) = true := by simpa using hk
        clear hk
        go_enter Try.func38, Try.ntmps38
        go_wp2_with fail
        go_region_held3 (fun W : World => W.cell? ⟨g, 0, none⟩ = some (.slice A l c) ∧ W.cell? ⟨g, 1, none⟩ = some (.int .i64 (p : Int)))
          (first | exact ⟨(HCL.out _ HB3.out).1, (HCL.out _ HB3.out).2.1⟩ | exact ⟨(HCL.out _ (Below.refl _ _).drew).1, (HCL.out _ (Below.refl _ _).drew).2.1⟩)
          (first | (go_at_call 65; refine (rget_any _ bs _ a b k _ (HSL.out _ (Below.refl _ _).drew) HRR.out).mono ?_; rintro e w3 ⟨rfl, hb3⟩; have HB3 := Lib.hid (show Below w.heap.size w w3 from ⟨hb3.os, hb3.tape, hb3.output, hb3.size, hb3.block⟩); clear hb3))
        obtain ⟨y0, y1, y2, f1, f2⟩ := HCL.out _ HB3.out
        go_wp2_with fail
        go_ret
        have h9 := HFIN.out w3 p true 2 (.bool true) HB3.out (.inl ⟨rfl, rfl, rfl⟩) HPL.out
        exact ⟨rfl, h9.1, h9.2⟩
  exact go1 _ rfl
end Go.Proofs.Ytcmlofgkcalhnaa.Ob
/- The document's reader of objects, plain: where it takes bytes to be an object, the program does, and it is the same one. -/
namespace Go.Proofs.Ytcmlofgkcalhnaa.Ob
open Go.Proofs.Ytcmlofgkcalhnaa.Sh
open Go.Proofs.Ytcmlofgkcalhnaa.Tx (nameB bl)

def idsR2 : Nat → Rdr → List (List UInt8) × Rdr
  | 0, s => ([], s)
  | n + 1, s => if s.2 = true then ([], s) else ((hashR s).1 :: (idsR2 n (hashR s).2).1, (idsR2 n (hashR s).2).2)
theorem idsR2_zero (s : Rdr) : idsR2 0 s = ([], s) := rfl
theorem idsR2_fail (n : Nat) (s : Rdr) (h : s.2 = true) : idsR2 n s = ([], s) := by
  cases n with
  | zero => rfl
  | succ n => rw [idsR2, if_pos h]
theorem idsR2_step (n : Nat) (s : Rdr) (h : s.2 = false) : idsR2 (n + 1) s = ((hashR s).1 :: (idsR2 n (hashR s).2).1, (idsR2 n (hashR s).2).2) := by
  rw [idsR2, if_neg (by rw [h]; decide)]
theorem idsR2_eq (n : Nat) : ∀ s : Rdr, (idsR n s).2.2 = false → idsR2 n s = idsR n s := by
  induction n with
  | zero => intro s _; rfl
  | succ n ih =>
    intro s h
    rw [idsR] at h
    replace h : (idsR n (hashR s).2).2.2 = false := h
    have h1 := (idsR_back n (pe _) h).1
    have h2 := (hashR_back (pe (hashR s)) h1).1
    rw [idsR2_step n s h2, ih _ h]
    rfl
theorem idsR2_len (n : Nat) : ∀ s : Rdr, (idsR2 n s).1.length ≤ n := by
  induction n with
  | zero => intro s; simp [idsR2]
  | succ n ih =>
    intro s
    rw [idsR2]
    split
    · simp
    · have := ih (hashR s).2
      simp only [List.length_cons]
      omega
def commP2 (t : List UInt8) (s : Rdr) : ComM × Rdr := commS t (idsR2 (octR s).1 (octR s).2).1 (idsR2 (octR s).1 (octR s).2).2
def commR2 (s : Rdr) : ComM × Rdr := commP2 (hashR s).1 (hashR s).2
theorem commS_flag {t : List UInt8} {ids : List (List UInt8)} {s : Rdr} (h : (commS t ids s).2.2 = false) : s.2 = false := by
  unfold commS at h
  obtain ⟨st, s4, e4⟩ : ∃ st s4, numR s = (st, s4) := ⟨_, _, pe _⟩
  rw [e4] at h
  unfold commA at h
  simp only at h
  obtain ⟨au, s5, e5⟩ : ∃ au s5, numR s4 = (au, s5) := ⟨_, _, pe _⟩
  rw [e5] at h
  unfold commM at h
  simp only at h
  obtain ⟨ms, s6, e6⟩ : ∃ ms s6, textR s5 = (ms, s6) := ⟨_, _, pe _⟩
  rw [e6] at h
  simp only at h
  obtain ⟨f1, _⟩ := textR_back e6 h
  obtain ⟨g1, _, _⟩ := numR_back e5 f1
  exact (numR_back e4 g1).1
theorem commR2_eq {s : Rdr} (h : (commR s).2.2 = false) : commR2 s = commR s := by
  unfold commR at h
  unfold commR commR2
  obtain ⟨t, s1, e1⟩ : ∃ t s1, hashR s = (t, s1) := ⟨_, _, pe _⟩
  rw [e1] at h ⊢
  unfold commP at h
  unfold commP commP2
  simp only at h ⊢
  obtain ⟨k, s2, e2⟩ : ∃ k s2, octR s1 = (k, s2) := ⟨_, _, pe _⟩
  rw [e2] at h ⊢
  simp only at h ⊢
  have h1 : (idsR k s2).2.2 = false := commS_flag h
  rw [idsR2_eq k s2 h1]
def objS2 (k : Nat) (s : Rdr) : ObM × Rdr :=
  if k = 1 then (⟨1, (takeR s s.1.length).1, [], [], [], 0, 0, []⟩, (takeR s s.1.length).2)
  else if k = 2 then (⟨2, [], (itemsR (numR s).1 (numR s).2).1, [], [], 0, 0, []⟩, (itemsR (numR s).1 (numR s).2).2)
  else if k = 3 then (⟨3, [], [], (commR2 s).1.tree, (commR2 s).1.parents, (commR2 s).1.stamp, (commR2 s).1.author, (commR2 s).1.msg⟩, (commR2 s).2)
  else (objK k, s)
theorem objS2_eq {k : Nat} {s : Rdr} (h : (objS k s).2.2 = false) : objS2 k s = objS k s := by
  unfold objS2 objS
  unfold objS at h
  by_cases h1 : k = 1
  · rw [if_pos h1, if_pos h1]
    have e : takeR s s.1.length = (s.1, ([], s.2)) := by
      unfold takeR
      rw [if_neg (by omega)]
      simp
    rw [e]
  · rw [if_neg h1] at h
    rw [if_neg h1, if_neg h1]
    by_cases h2 : k = 2
    · rw [if_pos h2, if_pos h2]
    · rw [if_neg h2] at h
      rw [if_neg h2, if_neg h2]
      by_cases h3 : k = 3
      · rw [if_pos h3] at h
        simp only at h
        rw [if_pos h3, if_pos h3, commR2_eq h]
      · rw [if_neg h3, if_neg h3]
def objR2 (b : List UInt8) : ObM × Rdr := objS2 (octR (b, false)).1 (octR (b, false)).2
/-- Does the document take bytes to be an object? -/
def okR2 (b : List UInt8) : Bool := !(objR2 b).2.2 && mayB (objR2 b).1 && (encL (objR2 b).1 == b)
theorem objR2_of {b : List UInt8} (h : decB b = true) : objR2 b = objR b := by
  have hf : (objR b).2.2 = false := by
    unfold decB at h
    rw [Bool.and_eq_true, Bool.and_eq_true, Bool.not_eq_true'] at h
    exact h.1.1
  unfold objR at hf ⊢
  unfold objR2
  obtain ⟨k, s, hk⟩ : ∃ k s, octR (b, false) = (k, s) := ⟨_, _, pe _⟩
  rw [hk] at hf ⊢
  exact objS2_eq hf
theorem okR2_eq (b : List UInt8) : okR2 b = decB b := by
  cases hd : decB b with
  | true =>
    unfold okR2
    rw [objR2_of hd, enc_objR hd]
    unfold decB at hd
    rw [Bool.and_eq_true, Bool.and_eq_true] at hd
    rw [hd.1.1, hd.2]
    simp
  | false =>
    cases ho : okR2 b with
    | false => rfl
    | true =>
      unfold okR2 at ho
      rw [Bool.and_eq_true, Bool.and_eq_true, beq_iff_eq] at ho
      have := decB_enc ho.1.2
      rw [ho.2, hd] at this
      cases this
end Go.Proofs.Ytcmlofgkcalhnaa.Ob
