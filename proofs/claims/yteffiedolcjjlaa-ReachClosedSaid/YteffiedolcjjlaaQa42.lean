/- Texts put together: YRp0. -/
import Derived.Test.YteffiedolcjjlaaQa40
import Derived.Test.YteffiedolcjjlaaQa41
/- Closures of few objects: they end below the limit; Closure, Diff, Whole at that limit. -/
set_option linter.unusedVariables false
set_option linter.unusedSimpArgs false
namespace Go.Proofs.Yteffiedolcjjlaa.Ob
open Go.RowKit Go.Maps Go.Proofs.Yteffiedolcjjlaa.Sh
open Go.Proofs.Yteffiedolcjjlaa.Tx (OwnV SlV sv Only Rd reads_at hasT hasT_yes hasT_no hasT_iff WK RB sortT TextsPost Strict texts_at sort_strict' mem_sort)

theorem flat_le {α β : Type} {f : α → List β} {m : Nat} : ∀ {l : List α}, (∀ x ∈ l, (f x).length ≤ m) → (l.flatMap f).length ≤ l.length * m
  | [], _ => by simp
  | x :: l, h => by
    rw [List.flatMap_cons, List.length_append, List.length_cons, Nat.add_mul, Nat.one_mul]
    have h1 := h x List.mem_cons_self
    have h2 := flat_le (l := l) fun y hy => h y (List.mem_cons_of_mem _ hy)
    omega
theorem encI_ge {x : ItM} (h : itB x = true) : 33 ≤ (encI x).length := by
  have h1 := (validB_len (itB_of h).2.2.2).1
  have h2 := unhexL_length x.2.2
  unfold encI
  rw [List.length_append, List.length_append, h2, h1, List.length_singleton]
  omega
theorem flat_ge {l : List ItM} (h : ∀ x ∈ l, itB x = true) : l.length * 33 ≤ (l.flatMap encI).length := by
  induction l with
  | nil => simp
  | cons x l ih =>
    have h1 := encI_ge (h x List.mem_cons_self)
    have h2 := ih fun y hy => h y (List.mem_cons_of_mem _ hy)
    rw [List.flatMap_cons, List.length_append, List.length_cons]
    omega
theorem refs45 {b : List UInt8} (h : decB b = true) (hb : b.length ≤ 1500) : (refsL (objR b).1).length ≤ 45 := by
  have hm := decB_may h
  have he := enc_objR h
  obtain ⟨o, ho⟩ : ∃ o, (objR b).1 = o := ⟨_, rfl⟩
  rw [ho] at hm he ⊢
  unfold refsL
  rcases mayB_kind hm with ⟨hk, _⟩ | ⟨hk, ht⟩ | ⟨hk, hc⟩
  · rw [if_neg (by omega), if_neg (by omega)]; simp
  · rw [if_pos hk, List.length_map]
    have h1 := flat_ge (mem_of_at (itemsB_of (treeB_of ht).1).2)
    have h2 : (o.items.flatMap encI).length ≤ (encL o).length := by
      unfold encL encIs
      rw [if_neg (by omega), if_pos hk, List.length_append, List.length_append]
      omega
    rw [he] at h2
    omega
  · rw [if_neg (by omega), if_pos hk, List.length_cons]
    obtain ⟨_, _, c3⟩ := commB_of hc
    have := (parB_of c3.par).1
    omega
/-- All that may be reached of names, over the objects of l. -/
def Bd (l : List (List UInt8)) (names : List ByteArray) : List ByteArray := names ++ l.flatMap (fun b => if decB b = true then (refsL (objR b).1).map str else [])
section
variable {l : List (List UInt8)} {lie : Bool} {names ids bs xs ys : List ByteArray} {k : Nat} {s t : ByteArray}
theorem nx_bd (h : t ∈ nxP (srcP l lie) s) : t ∈ Bd l names := by
  unfold nxP at h
  obtain ⟨r, hr, rfl⟩ := List.mem_map.1 h
  cases hb : srcP l lie s.toList with
  | none => rw [objP_none hb] at hr; cases hr
  | some b =>
    rw [objP_some hb] at hr
    split at hr
    · rename_i hd
      refine List.mem_append_right _ (List.mem_flatMap.2 ⟨b, srcP_mem hb, ?_⟩)
      rw [if_pos hd]
      exact List.mem_map.2 ⟨r, hr, rfl⟩
    · cases hr
theorem rb_bd (hi : ∀ f ∈ ids, f ∈ Bd l names) (h : RB (nxP (srcP l lie)) ids s) : s ∈ Bd l names := h.all hi fun a _ b hb => nx_bd hb
theorem bd_len (hl : l.length ≤ 40) (hb : ∀ b ∈ l, b.length ≤ 1500) (hn : names.length ≤ 40) : (Bd l names).length ≤ 1840 := by
  unfold Bd
  have h1 := flat_le (f := fun b => if decB b = true then (refsL (objR b).1).map str else []) (m := 45) (l := l) fun b hm => by
    split
    · rename_i hd
      rw [List.length_map]
      exact refs45 hd (hb b hm)
    · simp
  rw [List.length_append]
  have h2 : l.length * 45 ≤ 40 * 45 := Nat.mul_le_mul_right _ hl
  omega
theorem wk_small (hl : l.length ≤ 40) (hb : ∀ b ∈ l, b.length ≤ 1500) (hn : names.length ≤ 40) (hi : ∀ f ∈ ids, f ∈ Bd l names) (h : WK (nxP (srcP l lie)) ids xs k) : xs.length ≤ 1840 :=
  Nat.le_trans (h.within fun s hs => rb_bd hi hs) (bd_len hl hb hn)
/-- What a closure is: those that are some, and those that are none, rising. -/
structure CL (base : List UInt8 → Option (List UInt8)) (ids x y : List ByteArray) : Prop where
  sx : Strict x
  sy : Strict y
  mx : ∀ s, s ∈ x ↔ RB (nxP base) ids s ∧ isP base s = true
  my : ∀ s, s ∈ y ↔ RB (nxP base) ids s ∧ isP base s = false
  len : x.length ≤ 1840 ∧ y.length ≤ 1840
theorem CL.of {base : List UInt8 → Option (List UInt8)} (h : WK (nxP base) ids xs xs.length) (hl : xs.length ≤ 1840) : CL base ids (sortT (xs.filter (isP base))) (sortT (xs.filter (fun s => !isP base s))) := by
  refine ⟨sort_strict' (h.nodup.sublist List.filter_sublist), sort_strict' (h.nodup.sublist List.filter_sublist), fun s => ?_, fun s => ?_, ?_, ?_⟩
  · rw [mem_sort, List.mem_filter, h.done]
  · rw [mem_sort, List.mem_filter, h.done]
    cases isP base s <;> simp
  · rw [Tx.sortT_length]; exact Nat.le_trans (List.length_filter_le _ _) hl
  · rw [Tx.sortT_length]; exact Nat.le_trans (List.length_filter_le _ _) hl
end
def CloY (base : List UInt8 → Option (List UInt8)) (ids : List ByteArray) (w : World) (e : Ending) (w' : World) : Prop :=
  ∃ x y v1 v2, CL base ids x y ∧ e = .returned (.tuple #[v1, v2, .int .i64 0]) ∧ Below w.heap.size w w' ∧ OwnV 9 w' w.heap.size v1 (x.map sv) ∧ OwnV 9 w' w.heap.size v2 (y.map sv)
def WholeY (base : List UInt8 → Option (List UInt8)) (ids : List ByteArray) (w : World) (e : Ending) (w' : World) : Prop :=
  ∃ t, e = .returned (.bool t) ∧ Below w.heap.size w w' ∧ (t = true ↔ ∀ s, RB (nxP base) ids s → isP base s = true)
def DiffY (base : List UInt8 → Option (List UInt8)) (as_ bs : List ByteArray) (w : World) (e : Ending) (w' : World) : Prop :=
  Below w.heap.size w w' ∧ (((∃ s, RB (nxP base) as_ s ∧ isP base s = false) ∧ e = .returned (.tuple #[.slice none 0 0, .int .i64 7])) ∨
    ((∀ s, RB (nxP base) as_ s → isP base s = true) ∧ ∃ d v, e = .returned (.tuple #[v, .int .i64 0]) ∧ OwnV 9 w' w.heap.size v (d.map sv) ∧ Strict d ∧ d.length ≤ 1840 ∧ ∀ s, s ∈ d ↔ RB (nxP base) as_ s ∧ ¬ RB (nxP base) bs s))
section
variable {l : List (List UInt8)} {lie : Bool} {names ids as_ bs : List ByteArray} {w : World} {p1 p2 p3 : Nat} {vi va vb : Value}
theorem no_filter {base : List UInt8 → Option (List UInt8)} {xs : List ByteArray} (h : WK (nxP base) ids xs xs.length) : (xs.filter (fun s => !isP base s)).length = 0 ↔ ∀ s, RB (nxP base) ids s → isP base s = true := by
  rw [List.length_eq_zero_iff, List.filter_eq_nil_iff]
  constructor
  · intro h1 s hs
    have := h1 s (h.done.2 hs)
    simpa using this
  · intro h1 s hs
    rw [h1 s (h.done.1 hs)]
    decide
theorem cloY_any (hs : SrcX w p1 p2 p3 l lie) (hl : l.length ≤ 40) (hb : ∀ x ∈ l, x.length ≤ 1500) (hn : names.length ≤ 40) (hi : ∀ f ∈ ids, f ∈ Bd l names) (hv : SlV w vi (ids.map sv)) (hsz : ∀ s ∈ ids, s.size ≤ 1000000) (hil : ids.length ≤ 80000) :
    Calls Try.prog 11 #[srcV p1 p2 p3, vi, .int .i64 2000] w (CloY (srcP l lie) ids w) := by
  refine (closure_any 2000 hs (by omega) (fun x hx => by have := hb x hx; omega) hv hsz (by omega)).mono ?_
  intro e w' hpost
  rcases hpost with ⟨hm, _⟩ | ⟨_, xs, k, hwk, hbe, ⟨hk, hle, v1, v2, rfl, ho1, ho2⟩ | ⟨hlt, _⟩⟩
  · exact absurd ⟨by decide, by decide⟩ hm
  · subst hk
    exact ⟨_, _, v1, v2, CL.of hwk (wk_small hl hb hn hi hwk), rfl, hbe, ho1, ho2⟩
  · have := wk_small hl hb hn hi hwk
    omega
theorem wholeY_any (hs : SrcX w p1 p2 p3 l lie) (hl : l.length ≤ 40) (hb : ∀ x ∈ l, x.length ≤ 1500) (hn : names.length ≤ 40) (hi : ∀ f ∈ ids, f ∈ Bd l names) (hv : SlV w vi (ids.map sv)) (hsz : ∀ s ∈ ids, s.size ≤ 1000000) (hil : ids.length ≤ 80000) :
    Calls Try.prog 18 #[srcV p1 p2 p3, vi, .int .i64 2000] w (WholeY (srcP l lie) ids w) := by
  refine (whole_any 2000 hs (by omega) (fun x hx => by have := hb x hx; omega) hv hsz (by omega)).mono ?_
  rintro e w' ⟨t, rfl, hbe, hpost⟩
  rcases hpost with ⟨hm, _⟩ | ⟨_, xs, k, hwk, ⟨hk, hle, ht⟩ | ⟨hlt, _⟩⟩
  · exact absurd ⟨by decide, by decide⟩ hm
  · subst hk
    refine ⟨t, rfl, hbe, ?_⟩
    rw [ht, decide_eq_true_iff, no_filter hwk]
  · have := wk_small hl hb hn hi hwk
    omega
theorem diffY_any (hs : SrcX w p1 p2 p3 l lie) (hl : l.length ≤ 40) (hb : ∀ x ∈ l, x.length ≤ 1500) (hn : names.length ≤ 40) (hia : ∀ f ∈ as_, f ∈ Bd l names) (hib : ∀ f ∈ bs, f ∈ Bd l names) (ha : SlV w va (as_.map sv)) (hvb : SlV w vb (bs.map sv)) (hsa : ∀ s ∈ as_, s.size ≤ 1000000) (hsb : ∀ s ∈ bs, s.size ≤ 1000000) (hla : as_.length ≤ 80000) (hlb : bs.length ≤ 80000) :
    Calls Try.prog 19 #[srcV p1 p2 p3, va, vb, .int .i64 2000] w (DiffY (srcP l lie) as_ bs w) := by
  refine (diff_any 2000 hs (by omega) (fun x hx => by have := hb x hx; omega) ha hvb hsa hsb hla hlb).mono ?_
  rintro e w' ⟨hbe, hpost⟩
  refine ⟨hbe, ?_⟩
  rcases hpost with ⟨hm, _⟩ | ⟨_, xs, k, hwk, ⟨hlt, _⟩ | ⟨hk, hle, ys, j, hwj, ⟨hlt, _⟩ | ⟨hj, hle2, ⟨h0, rfl⟩ | ⟨h0, v, rfl, ho⟩⟩⟩⟩
  · exact absurd ⟨by decide, by decide⟩ hm
  · have := wk_small hl hb hn hia hwk
    omega
  · have := wk_small hl hb hn hib hwj
    omega
  · subst hk
    refine .inl ⟨?_, rfl⟩
    obtain ⟨s, hs⟩ := List.exists_mem_of_length_pos h0
    rw [List.mem_filter, hwk.done] at hs
    exact ⟨s, hs.1, by simpa using hs.2⟩
  · subst hk hj
    have c1 := CL.of hwk (wk_small hl hb hn hia hwk)
    have c2 := CL.of hwj (wk_small hl hb hn hib hwj)
    have hall := (no_filter hwk).1 h0
    refine .inr ⟨hall, _, v, rfl, ho, c1.sx.sublist List.filter_sublist, Nat.le_trans (List.length_filter_le _ _) c1.len.1, fun s => ?_⟩
    unfold outT
    rw [List.mem_filter, c1.mx]
    constructor
    · rintro ⟨⟨h1, h2⟩, h3⟩
      refine ⟨h1, fun h4 => ?_⟩
      rw [hasT_yes ((c2.mx s).2 ⟨h4, h2⟩)] at h3
      cases h3
    · rintro ⟨h1, h2⟩
      refine ⟨⟨h1, hall s h1⟩, ?_⟩
      rw [hasT_no fun h4 => h2 ((c2.mx s).1 h4).1]
      rfl
end
end Go.Proofs.Yteffiedolcjjlaa.Ob
