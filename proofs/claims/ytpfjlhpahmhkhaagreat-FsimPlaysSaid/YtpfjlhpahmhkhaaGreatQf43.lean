/- Texts put together: WGx0, WGx1. -/
import Derived.Test.YtpfjlhpahmhkhaaGreatQf35
import Derived.Test.YtpfjlhpahmhkhaaGreatQf16
/- A row that is sorted by a key, its elements told apart by where they were: what a stable sort leaves. (No Go in it.) -/
set_option linter.unusedVariables false
set_option linter.unusedSimpArgs false
namespace Go.Proofs.YtpfjlhpahmhkhaaGreat.Wk
open Go.Shelf Go.RowKit Go.Lib Go.Sort

section
variable {β : Type} [Inhabited β]
theorem get_swp (D : Array β) {i j : Nat} (hi : i < D.size) (hj : j < D.size) (t : Nat) : (swp D i j)[t]! = D[if t = i then j else if t = j then i else t]! := by
  by_cases h1 : t = i
  · subst h1
    rw [if_pos rfl]
    by_cases h2 : t = j
    · subst h2; exact swp_right D t t hj
    · exact swp_left D t j hi h2
  · rw [if_neg h1]
    by_cases h2 : t = j
    · subst h2; rw [if_pos rfl]; exact swp_right D i t hj
    · rw [if_neg h2]; exact swp_other D i j t h1 h2
/-- Each element is one that was there, and none is there twice. -/
structure TagOk (tag : β → Nat) (d0 D : Array β) : Prop where
  size : D.size = d0.size
  was : ∀ i, i < D.size → tag D[i]! < d0.size ∧ D[i]! = d0[tag D[i]!]!
  once : ∀ i j, i < D.size → j < D.size → tag D[i]! = tag D[j]! → i = j
variable {tag : β → Nat} {key : β → Int} {d0 D : Array β}
theorem TagOk.refl (h : ∀ i, i < d0.size → tag d0[i]! = i) : TagOk tag d0 d0 :=
  ⟨rfl, fun i hi => by rw [h i hi]; exact ⟨hi, rfl⟩, fun i j hi hj e => by rw [h i hi, h j hj] at e; exact e⟩
theorem TagOk.swp (h : TagOk tag d0 D) {i j : Nat} (hi : i < D.size) (hj : j < D.size) : TagOk tag d0 (swp D i j) := by
  have hp : ∀ t, t < D.size → (if t = i then j else if t = j then i else t) < D.size := fun t ht => by split; exact hj; split; exact hi; exact ht
  refine ⟨by rw [size_swp]; exact h.size, fun t ht => ?_, fun t u ht hu e => ?_⟩
  · rw [size_swp] at ht
    rw [get_swp D hi hj]
    exact h.was _ (hp t ht)
  · rw [size_swp] at ht hu
    rw [get_swp D hi hj, get_swp D hi hj] at e
    have := h.once _ _ (hp t ht) (hp u hu) e
    split at this <;> split at this <;> (try split at this) <;> (try split at this) <;> omega
/-- Ahead: by the key, then by where it was. -/
def tlt (tag : β → Nat) (key : β → Int) (x y : β) : Prop := key x < key y ∨ (key x = key y ∧ tag x < tag y)
omit [Inhabited β] in
theorem tlt.trans {x y z : β} (h1 : tlt tag key x y) (h2 : tlt tag key y z) : tlt tag key x z := by
  rcases h1 with h1 | ⟨h1, h1'⟩ <;> rcases h2 with h2 | ⟨h2, h2'⟩
  · exact .inl (by omega)
  · exact .inl (by omega)
  · exact .inl (by omega)
  · exact .inr ⟨by omega, by omega⟩
omit [Inhabited β] in
theorem tlt.le {x y : β} (h : tlt tag key x y) : key x ≤ key y := by
  rcases h with h | ⟨h, _⟩ <;> omega
/-- From a on, below b: each is ahead of what stands behind it. -/
def SrtT (tag : β → Nat) (key : β → Int) (D : Array β) (a b : Nat) : Prop := ∀ i j, a ≤ i → i < j → j < b → tlt tag key D[i]! D[j]!
omit [Inhabited β] in
theorem inc_ext {f : β → Nat} : ∀ {l m : List β}, (l.Pairwise fun x y => f x < f y) → (m.Pairwise fun x y => f x < f y) → (∀ x, x ∈ l ↔ x ∈ m) → l = m
  | [], [], _, _, _ => rfl
  | [], y :: m, _, _, h => by have := (h y).2 List.mem_cons_self; cases this
  | x :: l, [], _, _, h => by have := (h x).1 List.mem_cons_self; cases this
  | x :: l, y :: m, hl, hm, h => by
    obtain ⟨l1, l2⟩ := List.pairwise_cons.1 hl
    obtain ⟨m1, m2⟩ := List.pairwise_cons.1 hm
    have hxy : x = y := by
      rcases List.mem_cons.1 ((h x).1 List.mem_cons_self) with e | e
      · exact e
      · rcases List.mem_cons.1 ((h y).2 List.mem_cons_self) with e2 | e2
        · exact e2.symm
        · have := l1 y e2; have := m1 x e; omega
    subst hxy
    rw [inc_ext l2 m2 fun z => ⟨fun hz => ?_, fun hz => ?_⟩]
    · rcases List.mem_cons.1 ((h z).1 (List.mem_cons_of_mem _ hz)) with e | e
      · have := l1 z hz; rw [e] at this; omega
      · exact e
    · rcases List.mem_cons.1 ((h z).2 (List.mem_cons_of_mem _ hz)) with e | e
      · have := m1 z hz; rw [e] at this; omega
      · exact e
theorem get_list (D : Array β) {i : Nat} (hi : i < D.size) : D[i]! = D.toList[i]'(by simpa using hi) := by
  rw [getElem!_pos D i hi]
  simp
theorem mem_get {x : β} : x ∈ D.toList ↔ ∃ i, i < D.size ∧ D[i]! = x := by
  constructor
  · intro h
    obtain ⟨i, hi, e⟩ := List.mem_iff_getElem.1 h
    have hi' : i < D.size := by simpa using hi
    exact ⟨i, hi', by rw [get_list D hi']; exact e⟩
  · rintro ⟨i, hi, rfl⟩
    rw [get_list D hi]
    exact List.getElem_mem _
theorem pair_get {R : β → β → Prop} (h : ∀ i j, i < j → j < D.size → R D[i]! D[j]!) : D.toList.Pairwise R := by
  rw [List.pairwise_iff_getElem]
  intro i j hi hj hij
  have hj' : j < D.size := by simpa using hj
  have hi' : i < D.size := by omega
  have := h i j hij hj'
  rw [get_list D hi', get_list D hj'] at this
  exact this
/-- Every one that was there is there. -/
theorem TagOk.all (h : TagOk tag d0 D) (h0 : ∀ i, i < d0.size → tag d0[i]! = i) {t : Nat} (ht : t < d0.size) : ∃ i, i < D.size ∧ D[i]! = d0[t]! := by
  have hnd : (D.toList.map tag).Nodup := by
    rw [List.nodup_iff_pairwise_ne, List.pairwise_map]
    refine pair_get fun i j hij hj e => ?_
    have := h.once i j (by omega) hj e
    omega
  by_cases hm : t ∈ D.toList.map tag
  · obtain ⟨x, hx, rfl⟩ := List.mem_map.1 hm
    obtain ⟨i, hi, rfl⟩ := mem_get.1 hx
    exact ⟨i, hi, (h.was i hi).2⟩
  · have h1 : (t :: D.toList.map tag).Nodup := List.nodup_cons.2 ⟨hm, hnd⟩
    have h2 := Tx.nodup_within h1 (m := List.range d0.size) (fun x hx => by
      rw [List.mem_range]
      rcases List.mem_cons.1 hx with rfl | hx
      · exact ht
      · obtain ⟨y, hy, rfl⟩ := List.mem_map.1 hx
        obtain ⟨i, hi, rfl⟩ := mem_get.1 hy
        exact (h.was i hi).1)
    simp at h2
    have := h.size
    omega
/-- What a stable sort leaves: rising, and what has one key stands as it stood. -/
theorem TagOk.out (h : TagOk tag d0 D) (h0 : ∀ i, i < d0.size → tag d0[i]! = i) (hs : SrtT tag key D 0 D.size) : (D.toList.Pairwise fun x y => key x ≤ key y) ∧ ∀ k, (D.toList.filter fun x => decide (key x = k)) = d0.toList.filter fun x => decide (key x = k) := by
  refine ⟨pair_get fun i j hij hj => (hs i j (Nat.zero_le _) hij hj).le, fun k => ?_⟩
  refine inc_ext (f := tag) ?_ ?_ fun x => ?_
  · rw [List.pairwise_filter]
    refine pair_get fun i j hij hj h1 h2 => ?_
    have h1 := of_decide_eq_true h1
    have h2 := of_decide_eq_true h2
    rcases hs i j (Nat.zero_le _) hij hj with h3 | h3
    · omega
    · exact h3.2
  · rw [List.pairwise_filter]
    refine pair_get fun i j hij hj _ _ => ?_
    rw [h0 i (by omega), h0 j hj]
    exact hij
  · rw [List.mem_filter, List.mem_filter, mem_get, mem_get]
    constructor
    · rintro ⟨⟨i, hi, rfl⟩, h2⟩
      exact ⟨⟨_, (h.was i hi).1, (h.was i hi).2.symm⟩, h2⟩
    · rintro ⟨⟨t, ht, rfl⟩, h2⟩
      exact ⟨h.all h0 ht, h2⟩
end
end Go.Proofs.YtpfjlhpahmhkhaaGreat.Wk
/- Insertion sort, stable, as plain data: what its loops keep. (No Go in it.) -/
set_option linter.unusedVariables false
set_option linter.unusedSimpArgs false
namespace Go.Proofs.YtpfjlhpahmhkhaaGreat.Wk
open Go.Shelf Go.RowKit Go.Lib Go.Sort

section
variable {β : Type} [Inhabited β]
/-- Only what stands from a on, below b, is moved, and it stays there. -/
structure Within (a b : Nat) (d D : Array β) : Prop where
  size : D.size = d.size
  out : ∀ t, t < a ∨ b ≤ t → D[t]! = d[t]!
  ins : ∀ i, a ≤ i → i < b → ∃ j, a ≤ j ∧ j < b ∧ D[i]! = d[j]!
theorem Within.refl (a b : Nat) (d : Array β) : Within a b d d := ⟨rfl, fun _ _ => rfl, fun i h1 h2 => ⟨i, h1, h2, rfl⟩⟩
theorem Within.trans {a b : Nat} {d D E : Array β} (h : Within a b d D) (h2 : Within a b D E) : Within a b d E := by
  refine ⟨h2.size.trans h.size, fun t ht => (h2.out t ht).trans (h.out t ht), fun i h3 h4 => ?_⟩
  obtain ⟨j, j1, j2, j3⟩ := h2.ins i h3 h4
  obtain ⟨q, q1, q2, q3⟩ := h.ins j j1 j2
  exact ⟨q, q1, q2, j3.trans q3⟩
theorem Within.more {a b a' b' : Nat} {d D : Array β} (h : Within a b d D) (ha : a' ≤ a) (hb : b ≤ b') : Within a' b' d D := by
  refine ⟨h.size, fun t ht => h.out t (by omega), fun i h1 h2 => ?_⟩
  by_cases hi : a ≤ i ∧ i < b
  · obtain ⟨j, j1, j2, j3⟩ := h.ins i hi.1 hi.2
    exact ⟨j, by omega, by omega, j3⟩
  · exact ⟨i, h1, h2, h.out i (by omega)⟩
theorem Within.swp {a b : Nat} (D : Array β) {i j : Nat} (hi : i < D.size) (hj : j < D.size) (h1 : a ≤ i) (h2 : i < b) (h3 : a ≤ j) (h4 : j < b) : Within a b D (swp D i j) := by
  refine ⟨size_swp D i j, fun t ht => swp_other D i j t (by omega) (by omega), fun t g1 g2 => ?_⟩
  rw [get_swp D hi hj]
  refine ⟨_, ?_, ?_, rfl⟩
  · split; exact h3; split; exact h1; exact g1
  · split; exact h4; split; exact h2; exact g2
/-- What stands from a on, below b, came in this order. -/
def TagInc (tag : β → Nat) (d : Array β) (a b : Nat) : Prop := ∀ i j, a ≤ i → i < j → j < b → tag d[i]! < tag d[j]!
/-- The outer loop. -/
structure InsO (tag : β → Nat) (key : β → Int) (d0 d D : Array β) (a b i : Nat) : Prop where
  tags : TagOk tag d0 D
  win : Within a (min i b) d D
  srt : SrtT tag key D a (min i b)
/-- The inner one: x is at j. -/
structure InsI (tag : β → Nat) (key : β → Int) (d0 d D : Array β) (a i j : Nat) : Prop where
  tags : TagOk tag d0 D
  win : Within a (i + 1) d D
  rest : ∀ p q, a ≤ p → p < q → q ≤ i → p ≠ j → q ≠ j → tlt tag key D[p]! D[q]!
  behind : ∀ q, j < q → q ≤ i → tlt tag key D[j]! D[q]!
  last : ∀ p, a ≤ p → p ≤ i → p ≠ j → tag D[p]! < tag D[j]!
variable {tag : β → Nat} {key : β → Int} {d0 d D : Array β} {a b i j : Nat}
theorem InsO.start (h : TagOk tag d0 d) : InsO tag key d0 d d a b (a + 1) :=
  ⟨h, Within.refl _ _ _, fun p q h1 h2 h3 => by omega⟩
theorem InsO.inner (h : InsO tag key d0 d D a b i) (ht : TagInc tag d a b) (hai : a < i) (hib : i < b) : InsI tag key d0 d D a i i := by
  have hm : min i b = i := by omega
  have hw := h.win
  have hs := h.srt
  rw [hm] at hw hs
  refine ⟨h.tags, hw.more (Nat.le_refl _) (by omega), fun p q h1 h2 h3 h4 h5 => hs p q h1 h2 (by omega), fun q h1 h2 => by omega, fun p h1 h2 h3 => ?_⟩
  obtain ⟨r, r1, r2, r3⟩ := hw.ins p h1 (by omega)
  rw [r3, hw.out i (.inr (Nat.le_refl _))]
  exact ht r i r1 r2 hib
theorem InsI.step (h : InsI tag key d0 d D a i j) {y : Nat} (hy : j = y + 1) (hay : a ≤ y) (hji : j ≤ i) (hi : i < D.size) (hk : key D[j]! < key D[y]!) : InsI tag key d0 d (swp D j y) a i y := by
  have hj : j < D.size := by omega
  have hyD : y < D.size := by omega
  have hx : tlt tag key D[j]! D[y]! := .inl hk
  refine ⟨h.tags.swp hj hyD, h.win.trans (Within.swp D hj hyD (by omega) (by omega) hay (by omega)), fun p q h1 h2 h3 h4 h5 => ?_, fun q h1 h2 => ?_, fun p h1 h2 h3 => ?_⟩
  · rw [get_swp D hj hyD, get_swp D hj hyD]
    by_cases hp : p = j
    · rw [if_pos hp, if_neg (by omega), if_neg h5]
      exact h.rest y q hay (by omega) h3 (by omega) (by omega)
    · rw [if_neg hp, if_neg h4]
      by_cases hq : q = j
      · rw [if_pos hq]
        exact h.rest p y h1 (by omega) (by omega) hp (by omega)
      · rw [if_neg hq, if_neg h5]
        exact h.rest p q h1 h2 h3 hp hq
  · rw [get_swp D hj hyD, get_swp D hj hyD, if_neg (by omega), if_pos rfl]
    by_cases hq : q = j
    · rw [if_pos hq]; exact hx
    · rw [if_neg hq, if_neg (by omega)]
      exact h.behind q (by omega) h2
  · rw [get_swp D hj hyD, get_swp D hj hyD, if_neg (show ¬ y = j by omega), if_pos rfl]
    by_cases hp : p = j
    · rw [if_pos hp]; exact h.last y hay (by omega) (by omega)
    · rw [if_neg hp, if_neg h3]
      exact h.last p h1 h2 hp
theorem InsI.here (h : InsI tag key d0 d D a i j) (haj : a < j) (hji : j ≤ i) (hib : i < b) (hk : ¬ key D[j]! < key D[j - 1]!) : InsO tag key d0 d D a b (i + 1) := by
  have hm : min (i + 1) b = i + 1 := by omega
  have hx : tlt tag key D[j - 1]! D[j]! := by
    have := h.last (j - 1) (by omega) (by omega) (by omega)
    by_cases he : key D[j - 1]! = key D[j]!
    · exact .inr ⟨he, this⟩
    · exact .inl (by omega)
  refine ⟨h.tags, by rw [hm]; exact h.win, by
    rw [hm]
    intro p q h1 h2 h3
    by_cases hp : p = j
    · subst hp; exact h.behind q h2 (by omega)
    · by_cases hq : q = j
      · subst hq
        by_cases hp2 : p = q - 1
        · rw [hp2]; exact hx
        · exact (h.rest p (q - 1) h1 (by omega) (by omega) hp (by omega)).trans hx
      · exact h.rest p q h1 h2 (by omega) hp hq⟩
theorem InsI.first (h : InsI tag key d0 d D a i a) (hib : i < b) : InsO tag key d0 d D a b (i + 1) := by
  have hm : min (i + 1) b = i + 1 := by omega
  refine ⟨h.tags, by rw [hm]; exact h.win, by
    rw [hm]
    intro p q h1 h2 h3
    by_cases hp : p = a
    · subst hp; exact h.behind q h2 (by omega)
    · exact h.rest p q h1 h2 (by omega) hp (by omega)⟩
theorem InsO.done (h : InsO tag key d0 d D a b i) (hb : b ≤ i) : TagOk tag d0 D ∧ Within a b d D ∧ SrtT tag key D a b := by
  have hm : min i b = b := by omega
  have hw := h.win
  have hs := h.srt
  rw [hm] at hw hs
  exact ⟨h.tags, hw, hs⟩
end
end Go.Proofs.YtpfjlhpahmhkhaaGreat.Wk
