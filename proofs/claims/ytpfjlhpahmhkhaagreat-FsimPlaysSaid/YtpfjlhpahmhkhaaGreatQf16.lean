/- Texts put together: WGm0, WGt0. -/
import Derived.Test.YtpfjlhpahmhkhaaGreatQf15
import Derived.Test.YtpfjlhpahmhkhaaGreatQf10
import Derived.Maps.OwnSet
import Derived.Maps.OwnOps
import Derived.Maps.StringElems
import Derived.Sort.KeysCollected
/- Rows with one more, with one less: how many stand under each directory. (No Go in it.) -/
namespace Go.Proofs.YtpfjlhpahmhkhaaGreat.Tx

/-- The directories above each row, a row's behind the other's. -/
def dirsM (R : List RowM) : List (List UInt8) := R.flatMap fun r => parentsL r.path
/-- How many rows stand under p. -/
def cntM (R : List RowM) (p : List UInt8) : Nat := (dirsM R).count p
def standsM (R : List RowM) (p : List UInt8) : Bool := R.any fun r => r.path == p
theorem stands_iff {R : List RowM} {p : List UInt8} : standsM R p = true ↔ ∃ r ∈ R, r.path = p := by
  unfold standsM
  rw [List.any_eq_true]
  constructor
  · rintro ⟨r, h1, h2⟩; exact ⟨r, h1, beq_iff_eq.1 h2⟩
  · rintro ⟨r, h1, h2⟩; exact ⟨r, h1, beq_iff_eq.2 h2⟩
theorem stands_no {R : List RowM} {p : List UInt8} : standsM R p = false ↔ ∀ r ∈ R, r.path ≠ p := by
  rw [← Bool.not_eq_true, stands_iff]
  constructor
  · intro h r hr e; exact h ⟨r, hr, e⟩
  · rintro h ⟨r, hr, e⟩; exact h r hr e
theorem stands_find {R : List RowM} {p : List UInt8} : standsM R p = (findM R p).isSome := by
  cases h : standsM R p with
  | false =>
    have := find_none_iff.2 (stands_no.1 h)
    cases hf : findM R p with
    | none => rfl
    | some i => rw [hf] at this; cases this
  | true =>
    cases hf : findM R p with
    | none =>
      have := find_none_iff.1 (by rw [hf]; rfl)
      obtain ⟨r, h1, h2⟩ := stands_iff.1 h
      exact absurd h2 (this r h1)
    | some i => rfl
theorem stands_with {R : List RowM} {p q : List UInt8} {f : FileM} : standsM (withM R p f) q = (decide (q = p) || standsM R q) := by
  by_cases h : q = p
  · subst h
    rw [decide_eq_true rfl, Bool.true_or]
    exact stands_iff.2 ⟨⟨q, f⟩, mem_with.2 (.inl rfl), rfl⟩
  · rw [decide_eq_false h, Bool.false_or]
    cases hs : standsM R q with
    | true =>
      obtain ⟨r, h1, h2⟩ := stands_iff.1 hs
      exact stands_iff.2 ⟨r, mem_with.2 (.inr ⟨h1, by rw [h2]; exact h⟩), h2⟩
    | false =>
      refine stands_no.2 fun r hr e => ?_
      rcases mem_with.1 hr with rfl | ⟨h1, _⟩
      · exact h e.symm
      · exact stands_no.1 hs r h1 e
theorem stands_without {R : List RowM} {p q : List UInt8} : standsM (withoutM R p) q = (!decide (q = p) && standsM R q) := by
  by_cases h : q = p
  · subst h
    rw [decide_eq_true rfl, Bool.not_true, Bool.false_and]
    exact stands_no.2 fun r hr => (mem_without.1 hr).2
  · rw [decide_eq_false h, Bool.not_false, Bool.true_and]
    cases hs : standsM R q with
    | true =>
      obtain ⟨r, h1, h2⟩ := stands_iff.1 hs
      exact stands_iff.2 ⟨r, mem_without.2 ⟨h1, by rw [h2]; exact h⟩, h2⟩
    | false => exact stands_no.2 fun r hr e => stands_no.1 hs r (mem_without.1 hr).1 e
theorem count_swap {α : Type} [BEq α] (A B C : List α) (q : α) : (A ++ (B ++ C)).count q = (A ++ C).count q + B.count q := by
  simp only [List.count_append]; omega
theorem dirs_app (A B : List RowM) : dirsM (A ++ B) = dirsM A ++ dirsM B := List.flatMap_append
theorem dirs_cons (r : RowM) (R : List RowM) : dirsM (r :: R) = parentsL r.path ++ dirsM R := List.flatMap_cons
theorem cnt_with (R : List RowM) (p : List UInt8) (f : FileM) (q : List UInt8) : cntM (withM R p f) q = cntM (withoutM R p) q + (parentsL p).count q := by
  obtain ⟨A, B, h1, h2, _, _⟩ := with_split R p f
  unfold cntM
  rw [h1, h2, dirs_app, dirs_app, dirs_cons, count_swap]
theorem without_mid {A B : List RowM} {r : RowM} (h : Ord (A ++ r :: B)) : withoutM (A ++ r :: B) r.path = A ++ B := by
  have hn : ∀ x ∈ A ++ B, x.path ≠ r.path := by
    intro x hx e
    obtain ⟨_, g2, g3⟩ := List.pairwise_append.1 h
    rcases List.mem_append.1 hx with hx | hx
    · have := g3 x hx r List.mem_cons_self
      rw [e, bl_irr] at this; cases this
    · have := (List.pairwise_cons.1 g2).1 x hx
      rw [e, bl_irr] at this; cases this
  unfold withoutM
  rw [List.filter_append, List.filter_cons, if_neg (by simp)]
  rw [← List.filter_append]
  exact List.filter_eq_self.2 fun x hx => by simpa using hn x hx
theorem cnt_without {R : List RowM} (h : Ord R) {r : RowM} (hr : r ∈ R) (q : List UInt8) : cntM R q = cntM (withoutM R r.path) q + (parentsL r.path).count q := by
  obtain ⟨A, B, rfl⟩ := List.append_of_mem hr
  rw [without_mid h]
  unfold cntM
  rw [dirs_app, dirs_app, dirs_cons, count_swap]
theorem parents_few (s : List UInt8) : (parentsL s).length ≤ 7 := by
  cases hp : pathB s with
  | false => unfold parentsL; rw [if_neg (by rw [hp]; decide)]; simp
  | true =>
    have h1 := parents_len hp
    have h2 := ((pathB_iff s).1 hp).2.2
    have h3 : (namesL s).length = (splitL 47 s).length := by unfold namesL; rw [if_pos hp]
    omega
theorem dirs_len : ∀ R : List RowM, (dirsM R).length ≤ 7 * R.length
  | [] => by simp [dirsM]
  | r :: R => by
    have h1 := parents_few r.path
    have h2 := dirs_len R
    rw [dirs_cons, List.length_append, List.length_cons]
    omega
theorem cnt_le (R : List RowM) (q : List UInt8) : cntM R q ≤ 7 * R.length := Nat.le_trans List.count_le_length (dirs_len R)
/-- A list without repeats within another one is no longer. -/
theorem nodup_within {α : Type} [BEq α] [LawfulBEq α] : ∀ {l m : List α}, l.Nodup → (∀ x ∈ l, x ∈ m) → l.length ≤ m.length
  | [], _, _, _ => Nat.zero_le _
  | x :: l, m, hn, hs => by
    have hn' := List.nodup_cons.1 hn
    have hx : x ∈ m := hs x List.mem_cons_self
    have := nodup_within (l := l) (m := m.erase x) hn'.2 (fun y hy => by
      have hne : y ≠ x := fun e => hn'.1 (e ▸ hy)
      exact (List.mem_erase_of_ne hne).2 (hs y (List.mem_cons_of_mem _ hy)))
    rw [List.length_erase_of_mem hx] at this
    have := List.length_pos_of_mem hx
    rw [List.length_cons]
    omega
theorem parP_nodup (s : List UInt8) : ∀ n, n ≤ s.length → (parP s n).Nodup
  | 0, _ => List.nodup_nil
  | n + 1, h => by
    unfold parP
    split
    · refine List.nodup_append.2 ⟨parP_nodup s n (by omega), by simp, fun a ha b hb e => ?_⟩
      rw [List.mem_singleton] at hb
      obtain ⟨k, hk, _, hx⟩ := parP_mem.1 ha
      have : (s.take k).length = (s.take n).length := by rw [← hx, e, hb]
      rw [List.length_take, List.length_take] at this
      omega
    · exact parP_nodup s n (by omega)
theorem parents_nodup (s : List UInt8) : (parentsL s).Nodup := by
  unfold parentsL
  split
  · exact parP_nodup s _ (Nat.le_refl _)
  · exact List.nodup_nil
theorem nodup_count {α : Type} [BEq α] [LawfulBEq α] {x : α} : ∀ {l : List α}, l.Nodup → x ∈ l → l.count x = 1
  | [], _, h => by cases h
  | y :: l, hn, h => by
    have hn' := List.nodup_cons.1 hn
    rw [List.count_cons]
    by_cases e : y = x
    · subst e
      rw [List.count_eq_zero.2 hn'.1]
      simp
    · rcases List.mem_cons.1 h with h | h
      · exact absurd h.symm e
      · rw [nodup_count hn'.2 h]
        simp [e]
theorem count_parents (s q : List UInt8) : (parentsL s).count q = if underB q s = true then 1 else 0 := by
  split
  · rename_i h
    exact nodup_count (parents_nodup s) ((under_iff q s).1 h)
  · rename_i h
    exact List.count_eq_zero.2 fun hm => h ((under_iff q s).2 hm)
/-- Does none stand under p? -/
theorem cnt_zero {R : List RowM} {p : List UInt8} : cntM R p = 0 ↔ ∀ r ∈ R, underB p r.path = false := by
  unfold cntM dirsM
  rw [List.count_eq_zero, List.mem_flatMap]
  constructor
  · intro h r hr
    cases hu : underB p r.path with
    | false => rfl
    | true => exact absurd ⟨r, hr, (under_iff _ _).1 hu⟩ h
  · rintro h ⟨r, hr, hm⟩
    have := h r hr
    rw [(under_iff _ _).2 hm] at this
    cases this
end Go.Proofs.YtpfjlhpahmhkhaaGreat.Tx
/- Package fsim: a tree of files in memory: two maps and a number. -/
namespace Go.Proofs.YtpfjlhpahmhkhaaGreat.Tx
open Go.RowKit Go.Maps Go.Proofs.YtpfjlhpahmhkhaaGreat.Sh

/-- A map's element as it is. -/
def hv (v : Value) : Option (DataW Value × List MemPlace) := some (.held v, [])
/-- A file as a value; d: its data, as a value. -/
def fileV (f : FileM) (d : Value) : Value := .agg #[.int .i64 f.mode, d, .int .i64 f.time]
abbrev OwnF (w : World) (b : Nat) (D : DataW Value) : Prop := w.ownsMap Tryz.prog 9 hv b (Maps.size D) D
abbrev OwnU (w : World) (b : Nat) (D : DataW Unit) : Prop := w.ownsMap Tryz.prog 9 (plainElem Tryz.prog 3) b (Maps.size D) D

theorem lawS : Keyed Tryz.prog 9 := string_keyed Tryz.underlying9
theorem isK (p : List UInt8) : WideAt.IsKeyLit (.string p) := trivial
theorem key_str (p : List UInt8) (hp : p.length ≤ 1000000) : keyOf Tryz.prog 9 (.string (str p)) = some (.string p) := by
  have := Go.WideMaps.keyOf_string_mk (P := Tryz.prog) (s := str p) Tryz.underlying9 (by rw [str_size]; unfold maxLen; omega)
  rw [this]
  exact congrArg (fun l => some (Lit.string l)) (by simp [str] : (str p).data.toList = p)

section
variable {H : Type} {P : Program} {k : TypeId} {R : Value → Option (DataW H × List MemPlace)} {w w' : World} {b n : Nat} {D : DataW H}
theorem own_exact (h : w.ownsMap P k R b n D) : w.ownsMap P k R b (Maps.size D) D := by
  obtain ⟨es, clock, hb, F, hs, hD⟩ := h
  refine ⟨es, clock, hb, F, ?_, hD⟩
  rw [hD, Maps.size_eq, length_sorted]
  simp
theorem own_only {M : Nat → Prop} (h : w.ownsMap P k R b n D) (ho : Only M w w') (hn : ¬ M b) : w'.ownsMap P k R b n D := by
  have hlt := h.lt
  obtain ⟨es, clock, hb, F, hs, hD⟩ := h
  exact ⟨es, clock, (ho.block b hlt hn).trans hb, F, hs, hD⟩
end
theorem own_keys {H : Type} {R : Value → Option (DataW H × List MemPlace)} {w : World} {b n : Nat} {D : DataW H} (h : w.ownsMap Tryz.prog 9 R b n D) :
    ∃ es, D = .map es ∧ es.Pairwise (fun p q => p.1 ≠ q.1) ∧ ∀ e ∈ es, ∃ x, e.1 = .string x := by
  obtain ⟨es, rfl, hp⟩ := h.tidy lawS
  obtain ⟨es', he, hk⟩ := h.keysOf
  cases he
  refine ⟨es, rfl, hp, fun e he => ?_⟩
  obtain ⟨v, hv⟩ := hk e he
  obtain ⟨x, _, hx, _⟩ := Maps.keyOf_str Tryz.underlying9 hv
  exact ⟨x, hx⟩
/-- How many entries a map has: as many as there are keys. -/
theorem own_perm {H : Type} {R : Value → Option (DataW H × List MemPlace)} {w : World} {b n : Nat} {D : DataW H} (h : w.ownsMap Tryz.prog 9 R b n D) {ss : List (List UInt8)} (hn : ss.Nodup) (hm : ∀ x, x ∈ ss ↔ Maps.has D (.string x) = true) :
    ss.Perm (strKeys D) ∧ Maps.size D = ss.length := by
  obtain ⟨es, rfl, hp, hk⟩ := own_keys h
  have := perm_strKeys hp hk hn hm
  refine ⟨this, ?_⟩
  rw [this.length_eq, Maps.size_eq]
  exact (List.length_map _).symm
theorem own_within {H : Type} {R : Value → Option (DataW H × List MemPlace)} {w : World} {b n : Nat} {D : DataW H} (h : w.ownsMap Tryz.prog 9 R b n D) {ds : List (List UInt8)} (hm : ∀ x, Maps.has D (.string x) = true → x ∈ ds) : Maps.size D ≤ ds.length := by
  obtain ⟨es, rfl, hp, hk⟩ := own_keys h
  rw [Maps.size_eq]
  have hl : (es.map fun p => strOf p.1).length = es.length := List.length_map _
  rw [← hl]
  refine nodup_within (List.pairwise_map.2 (hp.imp_of_mem ?_)) (fun x hx => ?_)
  · intro p q hp' hq' hne e
    refine hne ?_
    obtain ⟨a, ha⟩ := hk p hp'
    obtain ⟨c, hc⟩ := hk q hq'
    rw [ha, hc] at e ⊢
    exact congrArg _ e
  · obtain ⟨p, hp', rfl⟩ := List.mem_map.1 hx
    obtain ⟨a, ha⟩ := hk p hp'
    refine hm _ (List.any_eq_true.2 ⟨p, hp', ?_⟩)
    rw [ha]
    exact beq_self_eq_true a

/-- The map of files holds just the rows. -/
structure FilesOK (F : Nat → Prop) (w : World) (R : List RowM) (D : DataW Value) : Prop where
  has_ : ∀ p, Maps.has D (.string p) = standsM R p
  at_ : ∀ r ∈ R, ∃ d, By F w d r.f.data ∧ ∀ z, D.atKey (.string r.path) z = .held (fileV r.f d)
/-- The map of directories counts as c says. -/
def UnderOK (c : List UInt8 → Nat) (D : DataW Unit) : Prop := ∀ p, Maps.has D (.string p) = decide (0 < c p) ∧ D.atKey (.string p) (.lit (.int .i64 0)) = .lit (.int .i64 (c p))
def treeM (t bf bu : Nat) : Nat → Prop := fun k => k = t ∨ k = bf ∨ k = bu
/-- Block t is a tree of these rows. -/
structure TreeX (F : Nat → Prop) (w : World) (t : Nat) (R : List RowM) (bf bu : Nat) : Prop where
  blk : Blk w t 241 #[.map (some bf), .map (some bu), .int .i64 (usedM R)]
  files : ∃ D, OwnF w bf D ∧ FilesOK F w R D
  under : ∃ D, OwnU w bu D ∧ UnderOK (cntM R) D
  ne : bf ≠ bu
  ord : Ord R
theorem FilesOK.only {F M : Nat → Prop} {w w' : World} {R : List RowM} {D : DataW Value} (h : FilesOK F w R D) (ho : Only M w w') (hF : ∀ k, F k → ¬ M k) : FilesOK F w' R D :=
  ⟨h.has_, fun r hr => by
    obtain ⟨d, h1, h2⟩ := h.at_ r hr
    exact ⟨d, h1.only ho hF, h2⟩⟩
theorem FilesOK.mono {F F' : Nat → Prop} {w : World} {R : List RowM} {D : DataW Value} (h : FilesOK F w R D) (hF : ∀ k, k < w.heap.size → F k → F' k) : FilesOK F' w R D :=
  ⟨h.has_, fun r hr => by
    obtain ⟨d, h1, h2⟩ := h.at_ r hr
    exact ⟨d, h1.mono hF, h2⟩⟩
section
variable {F F' M : Nat → Prop} {w w' : World} {t bf bu : Nat} {R : List RowM}
theorem TreeX.only (h : TreeX F w t R bf bu) (ho : Only M w w') (hF : ∀ k, F k → ¬ M k) (hM : ∀ k, treeM t bf bu k → ¬ M k) : TreeX F w' t R bf bu := by
  obtain ⟨D, h1, h2⟩ := h.files
  obtain ⟨E, h3, h4⟩ := h.under
  exact ⟨ho.blk h.blk (hM t (.inl rfl)), ⟨D, own_only h1 ho (hM bf (.inr (.inl rfl))), h2.only ho hF⟩, ⟨E, own_only h3 ho (hM bu (.inr (.inr rfl))), h4⟩, h.ne, h.ord⟩
theorem TreeX.below (h : TreeX F w t R bf bu) (hb : Below w.heap.size w w') : TreeX F w' t R bf bu := h.only (Only.of_below (M := fun _ => False) hb) (fun _ _ => id) (fun _ _ => id)
theorem TreeX.mono (h : TreeX F w t R bf bu) (hF : ∀ k, k < w.heap.size → F k → F' k) : TreeX F' w t R bf bu := by
  obtain ⟨D, h1, h2⟩ := h.files
  exact ⟨h.blk, ⟨D, h1, h2.mono hF⟩, h.under, h.ne, h.ord⟩
theorem TreeX.lt (h : TreeX F w t R bf bu) (k : Nat) (hk : treeM t bf bu k) : k < w.heap.size := by
  obtain ⟨D, h1, _⟩ := h.files
  obtain ⟨E, h3, _⟩ := h.under
  rcases hk with rfl | rfl | rfl
  · exact h.blk.lt
  · exact h1.lt
  · exact h3.lt
/-- A block of cells is no map. -/
theorem own_cells {H : Type} {P : Program} {k : TypeId} {Rr : Value → Option (DataW H × List MemPlace)} {w : World} {b n g : Nat} {D : DataW H} {T : TypeId} {cs : Array Value} (h : w.ownsMap P k Rr b n D) (hg : Blk w g T cs) : b ≠ g := by
  rintro rfl
  obtain ⟨es, clock, hb, _⟩ := h
  unfold Blk at hg
  rw [hb] at hg
  cases hg
theorem TreeX.f_ne (h : TreeX F w t R bf bu) : bf ≠ t := by
  obtain ⟨D, h1, _⟩ := h.files
  exact own_cells h1 h.blk
theorem TreeX.u_ne (h : TreeX F w t R bf bu) : bu ≠ t := by
  obtain ⟨E, h3, _⟩ := h.under
  exact own_cells h3 h.blk
end
theorem ord_nodup {R : List RowM} (h : Ord R) : (R.map fun r => r.path).Nodup := by
  refine List.pairwise_map.2 (h.imp fun {a c} hab e => ?_)
  rw [e, bl_irr] at hab
  cases hab
theorem FilesOK.keys {F : Nat → Prop} {w w2 : World} {b n : Nat} {R : List RowM} {D : DataW Value} (h : FilesOK F w R D) (hown : w2.ownsMap Tryz.prog 9 hv b n D) (ho : Ord R) : (R.map fun r => r.path).Perm (strKeys D) ∧ Maps.size D = R.length := by
  have := own_perm hown (ss := R.map fun r => r.path) (ord_nodup ho) (fun x => by
    rw [h.has_, stands_iff, List.mem_map])
  rw [List.length_map] at this
  exact this
theorem UnderOK.small {c : List UInt8 → Nat} {w : World} {b n : Nat} {D : DataW Unit} (h : UnderOK c D) (hown : w.ownsMap Tryz.prog 9 (plainElem Tryz.prog 3) b n D) {ds : List (List UInt8)} (hc : ∀ p, c p ≤ ds.count p) : Maps.size D ≤ ds.length :=
  own_within hown fun x hx => by
    rw [(h x).1] at hx
    have := hc x
    have h0 : 0 < c x := of_decide_eq_true hx
    exact List.count_pos_iff.1 (by omega)
/-- One more, one less of a directory. -/
theorem UnderOK.put {c c' : List UInt8 → Nat} {D : DataW Unit} (h : UnderOK c D) (hm : Maps.IsMap D) (q : List UInt8) (v : Nat) (hv : 0 < v) (hq : c' q = v) (hc : ∀ p, p ≠ q → c' p = c p) : UnderOK c' (D.put (.string q) (.lit (.int .i64 v))) := fun p => by
  by_cases e : p = q
  · subst e
    rw [Maps.has_put_same hm (isK _), Maps.atKey_put_same hm (isK _), hq]
    exact ⟨(decide_eq_true hv).symm, rfl⟩
  · have hne : Lit.string p ≠ Lit.string q := fun h => e (by injection h)
    rw [Maps.has_put_other hne, Maps.atKey_put_other hne, hc p e]
    exact h p
theorem UnderOK.del {c c' : List UInt8 → Nat} {D D0 : DataW Unit} (h : UnderOK c D0) (q : List UInt8) (v : DataW Unit) (hD : D = D0.put (.string q) v) (hq : c' q = 0) (hc : ∀ p, p ≠ q → c' p = c p) : UnderOK c' (D.del (.string q)) := fun p => by
  by_cases e : p = q
  · subst e
    rw [Maps.has_del_same, Maps.atKey_del_same, hq]
    exact ⟨rfl, rfl⟩
  · have hne : Lit.string p ≠ Lit.string q := fun h => e (by injection h)
    rw [Maps.has_del_other hne, Maps.atKey_del_other hne, hD, Maps.has_put_other hne, Maps.atKey_put_other hne, hc p e]
    exact h p
/-- A file put, a file taken away. -/
theorem FilesOK.put {F : Nat → Prop} {w : World} {R : List RowM} {D : DataW Value} (h : FilesOK F w R D) (hm : Maps.IsMap D) {p : List UInt8} {f : FileM} {d : Value} (hd : By F w d f.data) : FilesOK F w (withM R p f) (D.put (.string p) (.held (fileV f d))) := by
  refine ⟨fun q => ?_, fun r hr => ?_⟩
  · rw [stands_with]
    by_cases e : q = p
    · subst e
      rw [Maps.has_put_same hm (isK _), decide_eq_true rfl, Bool.true_or]
    · have hne : Lit.string q ≠ Lit.string p := fun h => e (by injection h)
      rw [Maps.has_put_other hne, decide_eq_false e, Bool.false_or]
      exact h.has_ q
  · rcases mem_with.1 hr with rfl | ⟨h1, h2⟩
    · exact ⟨d, hd, fun z => Maps.atKey_put_same hm (isK _) _ z⟩
    · obtain ⟨d', h3, h4⟩ := h.at_ r h1
      have hne : Lit.string r.path ≠ Lit.string p := fun h => h2 (by injection h)
      exact ⟨d', h3, fun z => by rw [Maps.atKey_put_other hne]; exact h4 z⟩
theorem FilesOK.del {F : Nat → Prop} {w : World} {R : List RowM} {D : DataW Value} (h : FilesOK F w R D) (p : List UInt8) : FilesOK F w (withoutM R p) (D.del (.string p)) := by
  refine ⟨fun q => ?_, fun r hr => ?_⟩
  · rw [stands_without]
    by_cases e : q = p
    · subst e
      rw [Maps.has_del_same, decide_eq_true rfl, Bool.not_true, Bool.false_and]
    · have hne : Lit.string q ≠ Lit.string p := fun h => e (by injection h)
      rw [Maps.has_del_other hne, decide_eq_false e, Bool.not_false, Bool.true_and]
      exact h.has_ q
  · obtain ⟨h1, h2⟩ := mem_without.1 hr
    obtain ⟨d', h3, h4⟩ := h.at_ r h1
    have hne : Lit.string r.path ≠ Lit.string p := fun h => h2 (by injection h)
    exact ⟨d', h3, fun z => by rw [Maps.atKey_del_other hne]; exact h4 z⟩
end Go.Proofs.YtpfjlhpahmhkhaaGreat.Tx
