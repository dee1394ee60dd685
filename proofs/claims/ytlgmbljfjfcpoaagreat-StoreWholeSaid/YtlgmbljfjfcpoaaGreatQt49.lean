/- Texts put together: YSr7. -/
import Derived.Test.YtlgmbljfjfcpoaaGreatQt41
import Derived.Test.YtlgmbljfjfcpoaaGreatQt46
import Derived.Test.YtlgmbljfjfcpoaaGreatQt38
import Derived.Test.YtlgmbljfjfcpoaaGreatQt48
/- What a store's caller keeps beside it: a slice of texts of its own; the file system's calls beside. -/
set_option linter.unusedVariables false
set_option linter.unusedSimpArgs false
namespace Go.Proofs.YtlgmbljfjfcpoaaGreat.Tx
open Go.RowKit Go.Maps Go.Proofs.YtlgmbljfjfcpoaaGreat.Sh

abbrev domS {A B : Prop} (_ : A → B) : Prop := A
theorem withS {G : Prop} (k : (G → G) → G) : G := k id
theorem FcAt.widen7 {F F' M : Nat → Prop} {w : World} {b : Nat} {c : CSt} (h : FcAt F w b c M) (h1 : ∀ k, F k → F' k) (h2 : ∀ k, F' k → ¬ M k) (h3 : ∀ k, F' k → k < w.heap.size) : FcAt F' w b c M := by
  obtain ⟨x, hx, hm⟩ := h
  exact ⟨x, hx.mono h1 (fun k hk hf => h2 k hk ((hm k).2 hf)) h3, hm⟩
theorem GoC.small7 {c : CSt} {i : Nat} (h : GoC c i) (hi : i ≤ 3900) : CSmall c := h.fits.small (by omega)
section
variable {w w1 : World} {b : Nat} {c : CSt}
theorem up7 (h : Mine w w1 b c) : Calls Tryz.prog 11 #[.pointer (some ⟨b, 0, none⟩)] w1 fun e w' => e = .returned (.bool (!c.down)) ∧ w1 = w' := by
  obtain ⟨F, M, h1, h2, h3⟩ := h
  exact up_any h1
theorem crash7 (keep torn : Int) (h : Mine w w1 b c) (hs : CSmall c) : Calls Tryz.prog 13 #[.pointer (some ⟨b, 0, none⟩), .int .i64 keep, .int .i64 torn] w1 fun e w' => e = .returned (.tuple #[]) ∧ Mine w w' b (crC c keep torn) := by
  obtain ⟨F, M, h1, h2, h3⟩ := h
  exact (crash_any F M b c keep torn w1 h1 hs).mono fun e w' h => ⟨h.1, Mine.of h2 h3 h.2⟩
end
section
variable {w w1 w2 : World} {b g i s : Nat} {c c' : CSt} {Z Z' M : Nat → Prop}
theorem MineP.grow (h : MineP w w1 b c Z) (ho : Only M w1 w2) (hM : ∀ k, M k → Z k ∧ w.heap.size ≤ k) (hz : ∀ k, Z' k → Z k ∨ (w1.heap.size ≤ k ∧ k < w2.heap.size)) : MineP w w2 b c Z' := by
  obtain ⟨F, Mf, h1, h2, h3, h4⟩ := h
  refine ⟨F, Mf, h1.only ho (fun k hk e => (h4 k (hM k e).1).1 hk) (fun k hk e => (h4 k (hM k e).1).2.1 hk), h2, ((Only.of_below (M := fun _ => False) h3).trans ho (fun k hk => .inr (hM k hk).2)).below, fun k hk => ?_⟩
  rcases hz k hk with hk | ⟨k1, k2⟩
  · exact ⟨(h4 k hk).1, (h4 k hk).2.1, Nat.lt_of_lt_of_le (h4 k hk).2.2 ho.size⟩
  · refine ⟨fun hf => ?_, fun hm => ?_, k2⟩
    · have := h1.low _ hf; omega
    · have := h1.lt _ hm; omega
/-- The store, and a slice of texts beside it. -/
def Told (w w1 : World) (b : Nat) (c : CSt) (s : Nat) (v : Value) (ts : List (List UInt8)) : Prop :=
  StAt w w1 b c s (fun k => v.ownBlock = some k) ∧ OwnV 9 w1 w.heap.size v ((ts.map str).map sv)
theorem Told.start (h : StAt w w1 b c s (fun _ => False)) : Told w w1 b c s (.slice none 0 0) [] :=
  ⟨h.fewer (fun k hk => by simp [Value.ownBlock] at hk), OwnV.nil_ _ _⟩
theorem Told.below {v : Value} {ts : List (List UInt8)} (h : Told w w1 b c s v ts) (hb : Below w1.heap.size w1 w2) : Told w w2 b c s v ts := ⟨h.1.below hb, h.2.below hb⟩
theorem Told.keeps {v : Value} {ts : List (List UInt8)} (h : Told w w1 b c s v ts) (hs : StAt w w2 b c' s (fun k => v.ownBlock = some k)) (hk : Keeps w (fun k => v.ownBlock = some k) w1 w2) : Told w w2 b c' s v ts :=
  ⟨hs, Only.own hk h.2 (fun k hk hm => hm.1 hk)⟩
theorem Told.app {v v' : Value} {ts ts' : List (List UInt8)} (h : Told w w1 b c s v ts) (hg : w1.grownBy w2 v.ownBlock) (ho : OwnV 9 w2 w.heap.size v' ((ts'.map str).map sv)) (hk : v'.ownBlock = v.ownBlock ∨ v'.ownBlock = some w1.heap.size) : Told w w2 b c s v' ts' := by
  obtain ⟨⟨m, s1, r, blk⟩, h2⟩ := h
  have ho1 : Only (fun k => v.ownBlock = some k) w1 w2 := (Only.refl _ w1).grown hg (fun g e => .inl e)
  have hlt := blk.lt
  refine ⟨⟨m.grow ho1 (fun k hk => ⟨.inl hk, (h2.lt k hk).1⟩) (fun k hz => ?_), ⟨s1.1, fun hs => ?_⟩, r, Only.blk ho1 blk s1.2⟩, ho⟩
  · rcases hz with hz | hz
    · rcases hk with hk | hk
      · exact .inl (.inl (hk ▸ hz))
      · rw [hk] at hz
        injection hz with hz
        exact .inr ⟨by omega, (ho.lt k (by rw [hk, hz])).2⟩
    · exact .inl (.inr hz)
  · rcases hk with hk | hk
    · exact s1.2 (by rw [← hk]; exact hs)
    · have hs' : v'.ownBlock = some s := hs
      rw [hk] at hs'
      injection hs' with hs'
      omega
theorem Told.mine {v : Value} {ts : List (List UInt8)} (h : Told w w1 b c s v ts) : Mine w w1 b c := h.1.1.mine
theorem plan_in {G : Nat → Prop} {v : Value} {l : List EvM} (h : Mine w w1 b c) (hv : InL evK G w v l) (hG : ∀ k, G k → k < w.heap.size) (hn : l.length ≤ 1000000) (hd : ∀ e ∈ l, e.data.length ≤ 140737488351232) :
    Calls Tryz.prog 8 #[.pointer (some ⟨b, 0, none⟩), v] w1 fun e w' => e = .returned (.tuple #[]) ∧ ∃ R, PlanR c l R ∧ Mine w w' b { c with plan := R } := by
  obtain ⟨F, M, h1, h2, h3⟩ := h
  have hz := h3.size
  have hw : FcAt (fun k => F k ∨ G k) w1 b c M := by
    refine h1.widen7 (fun k hk => .inl hk) (fun k hk hm => ?_) (fun k hk => ?_)
    · rcases hk with hk | hk
      · exact h1.apart_ k hk hm
      · have := hG k hk; have := h2 k hm; omega
    · rcases hk with hk | hk
      · have := h1.low k hk; omega
      · have := hG k hk; omega
  refine (plan_any _ M b c v l w1 hw ((hv.below h3).mono (fun k _ hk => .inr hk)).tmp hn (fun e he => Nat.le_trans (hd e he) (by decide))).mono ?_
  rintro e w' ⟨he, R, hR, hp⟩
  exact ⟨he, R, hR, Mine.of h2 h3 hp⟩
theorem peek_mine (p : List UInt8) (h : Mine w w1 b c) (hs : CSmall c) (hp : p.length ≤ 1000000) : Calls Tryz.prog 12 #[.pointer (some ⟨b, 0, none⟩), .string (str p)] w1 fun e w' => ∃ A dc, e = .returned (.tuple #[.agg #[.int .i64 (peekF c.here p).mode, .slice A (peekF c.here p).data.length dc, .int .i64 (peekF c.here p).time], .bool (peekB c.here p)]) ∧ SlV w' (.slice A (peekF c.here p).data.length dc) ((peekF c.here p).data.map bv) ∧ Mine w w' b c ∧ Below w1.heap.size w1 w' := by
  obtain ⟨F, M, h1, h2, h3⟩ := h
  refine (peek_any p h1 hs hp).mono ?_
  rintro e w' ⟨u, rfl, ⟨v, rfl, ho⟩, hb⟩
  obtain ⟨A, dc, rfl, _, _⟩ := ho.length
  have hv := ho.slv
  rw [List.length_map] at hv ⊢
  exact ⟨A, dc, rfl, hv, ⟨F, M, h1.below hb, h2, h3.trans (hb.mono h3.size)⟩, hb⟩
theorem paths_mine (h : Mine w w1 b c) (hs : CSmall c) : Calls Tryz.prog 14 #[.pointer (some ⟨b, 0, none⟩)] w1 fun e w' => TextsPost w1 ((pathsM c.here).map str) e w' ∧ Mine w w' b c := by
  obtain ⟨F, M, h1, h2, h3⟩ := h
  refine (paths_any h1 hs).mono ?_
  rintro e w' ⟨v, rfl, ho, hb⟩
  exact ⟨⟨v, rfl, ho, hb⟩, F, M, h1.below hb, h2, h3.trans (hb.mono h3.size)⟩
end
theorem by_of_sl {w : World} {v : Value} {bs : List UInt8} (h : Sl w v bs) : By (Low w) w v bs := by
  obtain ⟨A, c, rfl, h1, h2, h3, h4⟩ := h
  refine ⟨A, c, rfl, h1, h2, by simp, fun e => ?_, fun h0 => ?_⟩
  · simp [h4 e]
  · obtain ⟨ad, rfl, g1, g2⟩ := h3 h0
    refine ⟨ad, rfl, g1, g1, fun j u hu => ?_⟩
    have hj : j < bs.length := by have := (List.getElem?_eq_some_iff.1 hu).1; simpa using this
    rw [g2 j hj, ← hu, List.getElem?_map, List.getElem?_eq_getElem hj, List.getD_eq_getElem?_getD, List.getElem?_eq_getElem hj]
    show some (Value.int .u8 (Sh.bi bs[j])) = some (bv bs[j])
    unfold bv
    rw [Tx.bi_nat]
    first | rfl | (unfold Sh.bi; rfl) | (unfold Sh.bi; simp)
theorem append_text_g {ops : Array Oper} {rest : List Oper} {o : Oper} {a : Act} {Q : Exit → Act → World → Prop} (hgd : o.guard = none) (s x : Operand)
    (ho : o.op = .call { callee := .builtin .append, args := #[s, x], argTypes := #[36, 36] }) (w : World) (B : Nat) (v : Value) (ts : List ByteArray) (hs : a.eval s = v) (hown : OwnV 9 w B v (ts.map sv))
    (u : ByteArray) (hx : a.eval x = .slice (some ⟨w.heap.size, 0, none⟩) 1 1) (hsmall : ts.length + 1 ≤ 2000000) (hB : B ≤ w.heap.size)
    (h : ∀ v' w', OwnV 9 w' B v' ((ts ++ [u]).map sv) → (w.alloc (.cells #[.string u] 9)).grownBy w' v.ownBlock → (v'.ownBlock = v.ownBlock ∨ v'.ownBlock = some (w.alloc (.cells #[.string u] 9)).heap.size) → wpList Tryz.prog ops Q rest (a.put o.dst v') w') : wpList Tryz.prog ops Q (o :: rest) a (w.alloc (.cells #[.string u] 9)) := by
  have hr : Reads (w.alloc (.cells #[.string u] 9)) (w.heap.size + 1) 1 (some ⟨w.heap.size, 0, none⟩) 1 ([u].map sv) := by
    refine ⟨rfl, fun _ => ⟨_, rfl, by simp, fun j v hv => ?_⟩⟩
    rw [Addr.add_mid, cell_of_row _ _ _ _ 9 (0, 0) (heap_alloc_new w _), Nat.zero_add, ← hv]
    simp [sv]
  obtain ⟨i0, hi, hz0, hz1, hz2⟩ := info_parts info_str
  have hown2 := hown.alloc (.cells #[.string u] 9)
  have hown' : (w.alloc (.cells #[.string u] 9)).ownsRow B 9 1 v ts.length (ts.map sv) := by have := hown2; unfold OwnV at this; rwa [List.length_map] at this
  refine wpList_append_any _ hgd s x 36 ho B 9 i0 (.string ⟨#[]⟩) 1 16 Tryz.underlying36 hi hz0 hz1 hz2 rfl (by decide) v ts.length _ hs hown' _ _ 1 1 _ hx hr (sv_one [u]) (by unfold maxLen; omega) (by omega) (by simp; omega) ?_
  intro v' w' h1 h2 h3
  refine h v' w' ?_ h2 h3
  unfold OwnV
  rw [List.length_map, List.length_append, List.map_append]
  exact h1
end Go.Proofs.YtlgmbljfjfcpoaaGreat.Tx
