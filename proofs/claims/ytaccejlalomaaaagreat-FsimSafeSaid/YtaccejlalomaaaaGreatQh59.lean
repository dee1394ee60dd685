/- Texts put together: Hs0. -/
import Derived.Test.YtaccejlalomaaaaGreatQh56
/- Calm calls leave what they do not name: as plain data; the names in a row of one's own. -/
set_option linter.unusedVariables false
set_option linter.unusedSimpArgs false
namespace Go.Proofs.YtaccejlalomaaaaGreat.Tx
open Go.RowKit Go.Maps Go.Proofs.YtaccejlalomaaaaGreat.Sh

/-- The changes name but N's paths; all else stands as in R0. -/
structure Named (N : List (List UInt8)) (R0 : List RowM) (c : CSt) : Prop where
  here : c.here = foldC c.durable c.pending c.pending.length
  like : ∀ k (r : RowM), r.path ∉ N → (r ∈ foldC c.durable c.pending k ↔ r ∈ R0)
  named : ∀ q ∈ c.pending, (q.gone = [] ∨ q.gone ∈ N) ∧ (q.path = [] ∨ q.path ∈ N)
theorem like_apply {N : List (List UInt8)} {R : List RowM} {q : ChM} (hg : q.gone = [] ∨ q.gone ∈ N) (hp : q.path = [] ∨ q.path ∈ N) {r : RowM} (hr : r.path ∉ N) : r ∈ applyC R q ↔ r ∈ R := by
  have h1 : r ∈ goneM R q.gone ↔ r ∈ R := by
    rcases hg with hg | hg
    · rw [hg, gone_nil]
    · unfold goneM
      split
      · exact Iff.rfl
      · rw [mem_without]
        exact ⟨fun h => h.1, fun h => ⟨h, fun e => hr (e ▸ hg)⟩⟩
  unfold applyC
  split
  · exact h1
  · rename_i hne
    rcases hp with hp | hp
    · exact absurd hp hne
    · rw [mem_with]
      constructor
      · rintro (h | ⟨h, _⟩)
        · exact absurd (by rw [h]; exact hp) hr
        · exact h1.1 h
      · intro h
        exact .inr ⟨h1.2 h, fun e => hr (e ▸ hp)⟩
section
variable {N N' : List (List UInt8)} {R0 : List RowM} {c : CSt}
theorem Named.more (h : Named N R0 c) (hN : ∀ p ∈ N, p ∈ N') : Named N' R0 c := ⟨h.here, fun k r hr => h.like k r (fun hm => hr (hN _ hm)), fun q hq => ⟨(h.named q hq).1.imp id (hN _), (h.named q hq).2.imp id (hN _)⟩⟩
theorem Named.same {c' : CSt} (h : Named N R0 c) (h1 : c'.here = c.here) (h2 : c'.durable = c.durable) (h3 : c'.pending = c.pending) : Named N R0 c' := ⟨by rw [h1, h2, h3]; exact h.here, fun k r hr => by rw [h2, h3]; exact h.like k r hr, fun q hq => by rw [h3] at hq; exact h.named q hq⟩
theorem Named.do_ (h : Named N R0 c) (q : ChM) (hg : q.gone = [] ∨ q.gone ∈ N) (hp : q.path = [] ∨ q.path ∈ N) : Named N R0 (doC c q) := by
  refine ⟨?_, fun k r hr => ?_, fun x hx => ?_⟩
  · rw [pend_do, fold_do c q h.here, if_neg (by omega)]; rfl
  · rw [fold_do c q h.here]
    split
    · exact h.like k r hr
    · rw [like_apply hg hp hr, h.here]
      exact h.like _ r hr
  · rcases List.mem_append.1 (show x ∈ c.pending ++ [q] from hx) with h1 | h1
    · exact h.named x h1
    · rw [List.mem_singleton.1 h1]; exact ⟨hg, hp⟩
theorem Named.settle (h : Named N R0 c) : Named N R0 (settleC c) := by
  have e : c.here = c.pending.foldl applyC c.durable := by rw [← foldC_all _ _ (Nat.le_refl _)]; exact h.here
  refine ⟨e, fun k r hr => ?_, fun q hq => by cases hq⟩
  have e2 : foldC (settleC c).durable (settleC c).pending k = c.here := by
    unfold foldC
    show (([] : List ChM).take k).foldl applyC (c.pending.foldl applyC c.durable) = c.here
    rw [e]
    simp
  rw [e2, h.here]
  exact h.like _ r hr
theorem Named.does (h : Named N R0 c) (hp : c.plan = []) (hd : c.down = false) {o : LOp} (h0 : 0 ≤ o.kind) (h7 : o.kind ≤ 7) (hpa : o.path ∈ N) (hde : o.dest ∈ N) : Named N R0 (doesC c o) := by
  have hb := (bg_calm hp hd).1
  have hc : Named N R0 { c with calls := c.calls + 1 } := h.same rfl rfl rfl
  have hcrt : ∀ create, Named N R0 (crtC c o.path o.mode o.data create) := fun create => by
    rw [(crt_calm hp hd _ _ _ _).2]
    unfold wrC
    split
    · exact hc.do_ _ (.inl rfl) (.inr hpa)
    · exact hc
  have hmov : ∀ create, Named N R0 (movC c o.path o.dest create) := fun create => by
    rw [(mov_calm hp hd _ _ _).2]
    unfold mvC
    split
    · exact hc.do_ _ (.inr hpa) (.inr hde)
    · exact hc
  refine doesC_at (P := fun c' => Named N R0 c') c o (fun _ => hcrt _) (fun _ => hcrt _) (fun _ => hmov _) (fun _ => hmov _) (fun _ => ?_) (fun e => ?_) (fun _ => ?_) (fun _ => ?_) (fun e => by omega) (fun e => by omega) (fun e => by omega) (fun e => by omega) (fun e => by omega) (fun e => by omega)
  · rw [rem_calm hp hd]
    unfold rmC
    split
    · exact hc.do_ _ (.inr hpa) (.inl rfl)
    · exact hc
  · rw [syn_calm hp hd]
    exact hc.settle
  · rw [hb]; exact hc
  · rw [hb]; exact hc
theorem Named.start (hs : c.durable = c.here) (hp : c.pending = []) : Named [] c.here c := by
  have e : ∀ k, foldC c.durable c.pending k = c.here := fun k => by unfold foldC; rw [hp, hs]; simp
  exact ⟨(e _).symm, fun k r _ => by rw [e], fun q hq => by rw [hp] at hq; cases hq⟩
theorem Named.crash (h : Named N R0 c) (hd : c.down = false) (keep torn : Int) {r : RowM} (hr : r.path ∉ N) : r ∈ (crC c keep torn).here ↔ r ∈ R0 := by
  rw [cr_here hd, left_fold]
  split
  · exact h.like _ r hr
  · rename_i q hq
    split
    · obtain ⟨h1, h2⟩ := h.named q (List.mem_of_getElem? hq)
      rw [like_apply (q := partC q torn) h1 h2 hr]
      exact h.like _ r hr
    · exact h.like _ r hr
end
theorem cr_after {c : CSt} (hd : c.down = false) (keep torn : Int) : (crC c keep torn).pending = [] ∧ (crC c keep torn).down = true := by
  unfold crC
  rw [if_neg (by rw [hd]; decide)]
  exact ⟨rfl, rfl⟩
/-- A file of a path that is not named stands as it did. -/
theorem peek_like {N : List (List UInt8)} {R R' : List RowM} (ho : Ord R) (ho' : Ord R') (h : ∀ r : RowM, r.path ∉ N → (r ∈ R' ↔ r ∈ R)) {r : RowM} (hr : r ∈ R) (hn : r.path ∉ N) : peekB R' r.path = true ∧ peekF R' r.path = peekF R r.path := by
  have h1 := (h r hn).2 hr
  obtain ⟨a1, a2⟩ := peek_row ho' h1
  obtain ⟨b1, b2⟩ := peek_row ho hr
  exact ⟨a2, a1.trans b1.symm⟩
/-- The names of the first k operations. -/
def namesO (l : List LOp) : List (List UInt8) := l.flatMap fun o => [o.path, o.dest]
theorem namesO_app (l m : List LOp) : namesO (l ++ m) = namesO l ++ namesO m := List.flatMap_append
theorem step_names {ops : Array Oper} {o : Oper} {a : Act} {Kk : Act → World → Prop} {Q : Exit → Act → World → Prop} {E : Prop} (hgd : o.guard = none) (s x : Operand)
    (ho : o.op = .call { callee := .builtin .append, args := #[s, x], argTypes := #[43, 43] }) {w : World} {B : Nat} {v : Value} {ts : List ByteArray} {g : Nat} {p q : ByteArray} (hown : OwnV 9 w B v (ts.map sv)) (hg : Blk w g 9 #[.string p, .string q])
    (hs : a.eval s = v) (hx : a.eval x = .slice (some ⟨g, 0, none⟩) 2 2) (hsmall : ts.length + 2 ≤ 2000000) (hB : B ≤ w.heap.size)
    (h : ∀ v' w', OwnV 9 w' B v' ((ts ++ [p, q]).map sv) → w.grownBy w' v.ownBlock → (v'.ownBlock = v.ownBlock ∨ v'.ownBlock = some w.heap.size) → Kk (a.put o.dst v') w') : if Region.wanted o (yielded ops a.tmps) = true then Oper.wp Tryz.prog o a w Kk Q else E := by
  obtain ⟨i0, hi, hz0, hz1, hz2⟩ := info_parts info_str
  have hown' : w.ownsRow B 9 1 v ts.length (ts.map sv) := by have := hown; unfold OwnV at this; rwa [List.length_map] at this
  have hr : Reads w w.heap.size 1 (some ⟨g, 0, none⟩) 2 ([p, q].map sv) := ⟨rfl, fun _ => ⟨⟨g, 0, none⟩, rfl, hg.lt, fun j u hu => by
    rw [Addr.add_mid, Nat.zero_add, hg.cell, ← hu]
    simp [sv]⟩⟩
  refine step_append_any w hgd s x 43 ho B 9 i0 (.string ⟨#[]⟩) 1 16 Tryz.underlying43 hi hz0 hz1 hz2 rfl (by decide) v ts.length _ hs hown' w.heap.size _ 2 2 _ hx hr (sv_one [p, q]) (by unfold maxLen; omega) (by omega) hB ?_
  intro v' w' h1 h2 h3
  refine h v' w' ?_ h2 h3
  rw [List.map_append]
  have e : ((ts.map sv) ++ [p, q].map sv).length = ts.length + 2 := by simp
  unfold OwnV
  rw [e]
  exact h1
end Go.Proofs.YtaccejlalomaaaaGreat.Tx
