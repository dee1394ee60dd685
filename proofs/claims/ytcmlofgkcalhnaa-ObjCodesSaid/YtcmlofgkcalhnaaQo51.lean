/- Texts put together: Ro11. -/
import Derived.Test.YtcmlofgkcalhnaaQo50
import Derived.Test.YtcmlofgkcalhnaaQo42
/- The document's Decode: what it has read so far. -/
namespace Go.Proofs.Ytcmlofgkcalhnaa.Ob
open Go.RowKit Go.Proofs.Ytcmlofgkcalhnaa.Sh
open Go.Proofs.Ytcmlofgkcalhnaa.Tx (OwnV SlV sv bl nameB reads_at texts_at toList_ne')

/-! How great it is. -/
theorem takeR_le (s : Rdr) (n : Nat) : (takeR s n).1.length ≤ s.1.length := by
  unfold takeR
  split
  · simp
  · simp; omega
theorem hashR_64 (s : Rdr) : (hashR s).1.length ≤ 64 := by
  unfold hashR
  rw [hexL_length]
  have := (takeR_len s 32).1
  omega
theorem textR_le (s : Rdr) : (textR s).1.length ≤ s.1.length := by
  unfold textR
  exact Nat.le_trans (takeR_le _ _) (numR_len s)
theorem itemsR_ids (n : Nat) : ∀ (s : Rdr), ∀ x ∈ (itemsR n s).1, x.2.2.length ≤ 64 := by
  induction n with
  | zero => intro s x hx; simp [itemsR] at hx
  | succ n ih =>
    intro s x hx
    rw [itemsR] at hx
    split at hx
    · simp at hx
    · rcases List.mem_cons.1 hx with h | h
      · subst h
        exact hashR_64 _
      · exact ih _ x h
theorem itemsR_le (n : Nat) : ∀ (s : Rdr), (itemsR n s).1.length ≤ s.1.length + 1 := by
  induction n with
  | zero => intro s; simp [itemsR]
  | succ n ih =>
    intro s
    rw [itemsR]
    split
    · simp
    · rw [List.length_cons]
      have h1 := itemR_len s
      cases hf : (itemR s).2.2 with
      | false =>
        have := h1.2 hf
        have := ih (itemR s).2
        omega
      | true =>
        rw [itemsR_fail n _ hf]
        simp
theorem idsR2_64 (n : Nat) : ∀ (s : Rdr), ∀ x ∈ (idsR2 n s).1, x.length ≤ 64 := by
  induction n with
  | zero => intro s x hx; simp [idsR2] at hx
  | succ n ih =>
    intro s x hx
    rw [idsR2] at hx
    split at hx
    · simp at hx
    · rcases List.mem_cons.1 hx with h | h
      · subst h
        exact hashR_64 _
      · exact ih _ x h
theorem idsR2_snoc (n : Nat) : ∀ s : Rdr, (idsR2 n s).2.2 = false → idsR2 (n + 1) s = ((idsR2 n s).1 ++ [(hashR (idsR2 n s).2).1], (hashR (idsR2 n s).2).2) := by
  induction n with
  | zero =>
    intro s h
    replace h : s.2 = false := h
    rw [idsR2_step 0 s h]
    rfl
  | succ n ih =>
    intro s h
    cases hs : s.2 with
    | true =>
      rw [idsR2_fail _ s hs] at h
      rw [hs] at h
      cases h
    | false =>
      rw [idsR2_step n s hs] at h
      rw [idsR2_step (n + 1) s hs, ih _ h, idsR2_step n s hs]
      rfl
theorem idsR2_stop (n : Nat) : ∀ s : Rdr, (idsR2 n s).2.2 = true → idsR2 (n + 1) s = idsR2 n s := by
  induction n with
  | zero =>
    intro s h
    replace h : s.2 = true := h
    rw [idsR2_fail _ s h, idsR2_fail _ s h]
  | succ n ih =>
    intro s h
    cases hs : s.2 with
    | true => rw [idsR2_fail _ s hs, idsR2_fail _ s hs]
    | false =>
      rw [idsR2_step n s hs] at h
      rw [idsR2_step (n + 1) s hs, ih _ h, idsR2_step n s hs]
theorem idsR2_more {n m : Nat} (h : n ≤ m) (s : Rdr) (hf : (idsR2 n s).2.2 = true) : idsR2 m s = idsR2 n s := by
  induction m with
  | zero => rw [show n = 0 from by omega]
  | succ m ih =>
    rcases Nat.eq_or_lt_of_le h with h1 | h1
    · rw [h1]
    · have h2 := ih (by omega)
      rw [idsR2_stop m s (by rw [h2]; exact hf), h2]
theorem tok_read {b : List UInt8} (h : b.length ≤ 1000000) : TOk (objR2 b).1 := by
  have hk : (octR (b, false)).2.1.length ≤ 1000000 := Nat.le_trans (octR_len _) h
  unfold objR2
  generalize (octR (b, false)).1 = k at *
  generalize (octR (b, false)).2 = s at *
  unfold objS2
  by_cases h1 : k = 1
  · rw [if_pos h1]
    exact ⟨by simp, fun x hx => by simp at hx, fun x hx => by simp at hx, by simp, by have := takeR_le s s.1.length; simp; omega, by simp⟩
  · rw [if_neg h1]
    by_cases h2 : k = 2
    · rw [if_pos h2]
      have hn := numR_len s
      refine ⟨by simp, fun x hx => by simp at hx, fun x hx => ?_, by simp, by simp, ?_⟩
      · have := itemsR_ids _ _ x hx
        omega
      · have := itemsR_le (numR s).1 (numR s).2
        show (itemsR (numR s).1 (numR s).2).1.length ≤ _
        omega
    · rw [if_neg h2]
      by_cases h3 : k = 3
      · rw [if_pos h3]
        have g1 := hashR_64 s
        have hil : ∀ (n : Nat) (q : Rdr), (idsR2 n q).2.1.length ≤ q.1.length := by
          intro n
          induction n with
          | zero => intro q; exact Nat.le_refl _
          | succ n ih =>
            intro q
            rw [idsR2]
            split
            · exact Nat.le_refl _
            · exact Nat.le_trans (ih _) (hashR_len q)
        have l1 := hashR_len s
        unfold commR2
        obtain ⟨t, s1, e1⟩ : ∃ t s1, hashR s = (t, s1) := ⟨_, _, pe _⟩
        rw [e1] at g1 l1 ⊢
        have l2 := octR_len s1
        unfold commP2
        obtain ⟨m, s2, e2⟩ : ∃ m s2, octR s1 = (m, s2) := ⟨_, _, pe _⟩
        simp only at g1 l1 ⊢
        rw [e2] at l2 ⊢
        simp only at l2 ⊢
        have g3 := idsR2_64 m s2
        have l3 := hil m s2
        obtain ⟨ids, s3, e3⟩ : ∃ ids s3, idsR2 m s2 = (ids, s3) := ⟨_, _, pe _⟩
        rw [e3] at g3 l3 ⊢
        simp only at g3 l3 ⊢
        unfold commS
        have l4 := numR_len s3
        obtain ⟨st, s4, e4⟩ : ∃ st s4, numR s3 = (st, s4) := ⟨_, _, pe _⟩
        rw [e4] at l4 ⊢
        unfold commA
        simp only at l4 ⊢
        have l5 := numR_len s4
        obtain ⟨au, s5, e5⟩ : ∃ au s5, numR s4 = (au, s5) := ⟨_, _, pe _⟩
        rw [e5] at l5 ⊢
        unfold commM
        simp only at l5 ⊢
        have l6 := textR_le s5
        obtain ⟨ms, s6, e6⟩ : ∃ ms s6, textR s5 = (ms, s6) := ⟨_, _, pe _⟩
        rw [e6] at l6 ⊢
        simp only at l6 ⊢
        refine ⟨?_, fun x hx => ?_, fun x hx => by simp at hx, ?_, by simp, by simp⟩
        · simp only; omega
        · have := g3 x hx
          omega
        · simp only; omega
      · rw [if_neg h3]
        exact ⟨by simp [objK], fun x hx => by simp [objK] at hx, fun x hx => by simp [objK] at hx, by simp [objK], by simp [objK], by simp [objK]⟩

/-! In memory. -/
theorem RfAt.flag {w0 w : World} {g : Nat} {s : Rdr} (h : RfAt w0 w g s) : w.cell? ⟨g, 2, none⟩ = some (.bool s.2) := by
  obtain ⟨A, c, bs, p, bad, h1, _, _, _, h5, _, _⟩ := h
  have := h1.cell 2
  subst h5
  cases bad <;> exact this
def zero6 : Array Value := #[.int .i64 0, .slice none 0 0, .slice none 0 0, .string ⟨#[]⟩, .slice none 0 0, .int .i64 0, .int .i64 0, .string ⟨#[]⟩]
/-- What stands in the object's block b while it is read; R is the block of the result. -/
structure OdX (w wx : World) (R b : Nat) (o : ObM) (A : Option Addr) (n c : Nat) (A2 : Option Addr) (n2 c2 : Nat) (A3 : Option Addr) (n3 c3 : Nat) : Prop where
  blk : Blk wx b 40 #[.int .i64 o.kind, .slice A n c, .slice A2 n2 c2, .string (str o.tree), .slice A3 n3 c3, .int .i64 o.stamp, .int .i64 o.author, .string (str o.msg)]
  data : Own wx w.heap.size (.slice A n c) o.data
  items : OwnI 58 wx w.heap.size (.slice A2 n2 c2) o.items
  pars : OwnV 9 wx w.heap.size (.slice A3 n3 c3) ((o.parents.map str).map sv)
  below : Below w.heap.size w wx
  res : Blk wx R 40 zero6
  apart : R ≠ b
  lowb : w.heap.size ≤ b
section
variable {w wx wy : World} {R b g : Nat} {o : ObM} {A A2 A3 : Option Addr} {n c n2 c2 n3 c3 : Nat}
theorem OdX.upd (h : OdX w wx R b o A n c A2 n2 c2 A3 n3 c3) {cs : Array Value} (hg : Blk wx g 66 cs) (hu : Upd g wx wy) (hz : w.heap.size ≤ g) : OdX w wy R b o A n c A2 n2 c2 A3 n3 c3 :=
  ⟨hu.blk h.blk (Blk.ne_ h.blk hg (by decide)), row_upd h.data hg (by decide) hu, row_upd h.items hg (by decide) hu, row_upd h.pars hg (by decide) hu, h.below.trans (hu.below hz h.below.size), hu.blk h.res (Blk.ne_ h.res hg (by decide)), h.apart, h.lowb⟩
theorem OdX.still (h : OdX w wx R b o A n c A2 n2 c2 A3 n3 c3) (hb : Below wx.heap.size wx wy) : OdX w wy R b o A n c A2 n2 c2 A3 n3 c3 :=
  ⟨h.blk.below hb h.blk.lt, h.data.below hb, h.items.below hb, Tx.OwnV.below h.pars hb, h.below.trans (hb.mono h.below.size), h.res.below hb h.res.lt, h.apart, h.lowb⟩
theorem OdX.wrote (h : OdX w wx R b o A n c A2 n2 c2 A3 n3 c3) (i : Nat) (u : Value) : Below w.heap.size w (wx.setCell ⟨b, i, none⟩ u) ∧ Own (wx.setCell ⟨b, i, none⟩ u) w.heap.size (.slice A n c) o.data ∧ OwnI 58 (wx.setCell ⟨b, i, none⟩ u) w.heap.size (.slice A2 n2 c2) o.items ∧ OwnV 9 (wx.setCell ⟨b, i, none⟩ u) w.heap.size (.slice A3 n3 c3) ((o.parents.map str).map sv) ∧ Blk (wx.setCell ⟨b, i, none⟩ u) R 40 zero6 := by
  have hu := (Upd.refl b wx).set_ i u
  exact ⟨h.below.trans (hu.below h.lowb h.below.size), row_upd h.data h.blk (by decide) hu, row_upd h.items h.blk (by decide) hu, row_upd h.pars h.blk (by decide) hu, hu.blk h.res h.apart⟩
theorem OdX.setTree (h : OdX w wx R b o A n c A2 n2 c2 A3 n3 c3) (t : List UInt8) : OdX w (wx.setCell ⟨b, 3, none⟩ (.string (str t))) R b { o with tree := t } A n c A2 n2 c2 A3 n3 c3 := by
  obtain ⟨h1, h2, h3, h4, h5⟩ := h.wrote 3 (.string (str t))
  exact ⟨by simpa using h.blk.set_ 3 (.string (str t)), h2, h3, h4, h1, h5, h.apart, h.lowb⟩
theorem OdX.setStamp (h : OdX w wx R b o A n c A2 n2 c2 A3 n3 c3) (k : Int) : OdX w (wx.setCell ⟨b, 5, none⟩ (.int .i64 k)) R b { o with stamp := k } A n c A2 n2 c2 A3 n3 c3 := by
  obtain ⟨h1, h2, h3, h4, h5⟩ := h.wrote 5 (.int .i64 k)
  exact ⟨by simpa using h.blk.set_ 5 (.int .i64 k), h2, h3, h4, h1, h5, h.apart, h.lowb⟩
theorem OdX.setAuthor (h : OdX w wx R b o A n c A2 n2 c2 A3 n3 c3) (k : Int) : OdX w (wx.setCell ⟨b, 6, none⟩ (.int .i64 k)) R b { o with author := k } A n c A2 n2 c2 A3 n3 c3 := by
  obtain ⟨h1, h2, h3, h4, h5⟩ := h.wrote 6 (.int .i64 k)
  exact ⟨by simpa using h.blk.set_ 6 (.int .i64 k), h2, h3, h4, h1, h5, h.apart, h.lowb⟩
theorem OdX.setMsg (h : OdX w wx R b o A n c A2 n2 c2 A3 n3 c3) (t : List UInt8) : OdX w (wx.setCell ⟨b, 7, none⟩ (.string (str t))) R b { o with msg := t } A n c A2 n2 c2 A3 n3 c3 := by
  obtain ⟨h1, h2, h3, h4, h5⟩ := h.wrote 7 (.string (str t))
  exact ⟨by simpa using h.blk.set_ 7 (.string (str t)), h2, h3, h4, h1, h5, h.apart, h.lowb⟩
theorem OdX.setData (h : OdX w wx R b o A n c A2 n2 c2 A3 n3 c3) {A' : Option Addr} {n' c' : Nat} {d : List UInt8} (hd : Own wx w.heap.size (.slice A' n' c') d) : OdX w (wx.setCell ⟨b, 1, none⟩ (.slice A' n' c')) R b { o with data := d } A' n' c' A2 n2 c2 A3 n3 c3 := by
  obtain ⟨h1, h2, h3, h4, h5⟩ := h.wrote 1 (.slice A' n' c')
  exact ⟨by simpa using h.blk.set_ 1 (.slice A' n' c'), row_upd hd h.blk (by decide) ((Upd.refl b wx).set_ 1 _), h3, h4, h1, h5, h.apart, h.lowb⟩
theorem OdX.setItems (h : OdX w wx R b o A n c A2 n2 c2 A3 n3 c3) {A' : Option Addr} {n' c' : Nat} {l : List ItM} (hd : OwnI 58 wx w.heap.size (.slice A' n' c') l) : OdX w (wx.setCell ⟨b, 2, none⟩ (.slice A' n' c')) R b { o with items := l } A n c A' n' c' A3 n3 c3 := by
  obtain ⟨h1, h2, h3, h4, h5⟩ := h.wrote 2 (.slice A' n' c')
  exact ⟨by simpa using h.blk.set_ 2 (.slice A' n' c'), h2, row_upd hd h.blk (by decide) ((Upd.refl b wx).set_ 2 _), h4, h1, h5, h.apart, h.lowb⟩
theorem OdX.setPars (h : OdX w wx R b o A n c A2 n2 c2 A3 n3 c3) {A' : Option Addr} {n' c' : Nat} {l : List (List UInt8)} (hd : OwnV 9 wx w.heap.size (.slice A' n' c') ((l.map str).map sv)) : OdX w (wx.setCell ⟨b, 4, none⟩ (.slice A' n' c')) R b { o with parents := l } A n c A2 n2 c2 A' n' c' := by
  obtain ⟨h1, h2, h3, h4, h5⟩ := h.wrote 4 (.slice A' n' c')
  exact ⟨by simpa using h.blk.set_ 4 (.slice A' n' c'), h2, h3, row_upd hd h.blk (by decide) ((Upd.refl b wx).set_ 4 _), h1, h5, h.apart, h.lowb⟩
end
end Go.Proofs.Ytcmlofgkcalhnaa.Ob
