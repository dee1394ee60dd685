/- Texts put together: Gm2, Gs12. -/
import Derived.Test.YtfmlnodhbojdpaaGreatQc40
/- Package fsim: a call begins, as plain data. (No Go in it.) -/
namespace Go.Proofs.YtfmlnodhbojdpaaGreat.Tx

structure BgC where
  room : Int
  err : Int
  c : CSt
/-- An event happens; it is off the plan. -/
def evC (s : BgC) (e : EvM) : BgC :=
  let c : CSt := { s.c with plan := s.c.plan.tail }
  if e.kind = 1 then { s with c := crC c e.keep e.torn }
  else if e.kind = 2 then { s with room := -1, c := c }
  else if e.kind = 3 then { s with err := 11, c := c }
  else if e.kind = 4 then { s with c := uwC c e.path e.mode e.data }
  else if e.kind = 5 then { s with c := urC c e.path }
  else { s with c := c }
def bg0 (c : CSt) : BgC := ⟨c.room, 0, { c with calls := c.calls + 1 }⟩
def bgK (c : CSt) (k : Nat) : BgC := (c.plan.take k).foldl evC (bg0 c)
/-- How many events happen. -/
def bgN (c : CSt) : Nat := (c.plan.takeWhile fun e => decide (e.at_ = c.calls + 1)).length
def bgC (c : CSt) : BgC := bgK c (bgN c)
def bgE (c : CSt) : Int := if (bgC c).c.down = true then 12 else (bgC c).err
theorem bgK_zero (c : CSt) : bgK c 0 = bg0 c := rfl
theorem bgK_next {c : CSt} {k : Nat} {e : EvM} (h : c.plan[k]? = some e) : bgK c (k + 1) = evC (bgK c k) e := by
  unfold bgK
  rw [List.take_add_one, h, List.foldl_append]
  rfl
theorem settle_plan (c : CSt) : (settleC c).plan = c.plan ∧ (settleC c).calls = c.calls ∧ (settleC c).room = c.room := ⟨rfl, rfl, rfl⟩
theorem wr_plan (c : CSt) (p : List UInt8) (mode : Int) (data : List UInt8) (room : Int) (create : Bool) : (wrC c p mode data room create).plan = c.plan ∧ (wrC c p mode data room create).calls = c.calls ∧ (wrC c p mode data room create).room = c.room := by
  unfold wrC
  split <;> exact ⟨rfl, rfl, rfl⟩
theorem rm_plan (c : CSt) (p : List UInt8) : (rmC c p).plan = c.plan ∧ (rmC c p).calls = c.calls ∧ (rmC c p).room = c.room := by
  unfold rmC
  split <;> exact ⟨rfl, rfl, rfl⟩
theorem uw_plan (c : CSt) (p : List UInt8) (mode : Int) (data : List UInt8) : (uwC c p mode data).plan = c.plan ∧ (uwC c p mode data).calls = c.calls ∧ (uwC c p mode data).room = c.room := by
  unfold uwC
  split
  · exact wr_plan c p mode data _ _
  · exact ⟨rfl, rfl, rfl⟩
theorem ur_plan (c : CSt) (p : List UInt8) : (urC c p).plan = c.plan ∧ (urC c p).calls = c.calls ∧ (urC c p).room = c.room := by
  unfold urC
  split
  · exact rm_plan c p
  · exact ⟨rfl, rfl, rfl⟩
theorem cr_plan (c : CSt) (keep torn : Int) : (crC c keep torn).plan = c.plan ∧ (crC c keep torn).calls = c.calls ∧ (crC c keep torn).room = c.room := by
  unfold crC
  split <;> exact ⟨rfl, rfl, rfl⟩
theorem ev_plan (s : BgC) (e : EvM) : (evC s e).c.plan = s.c.plan.tail ∧ (evC s e).c.calls = s.c.calls ∧ (evC s e).c.room = s.c.room := by
  unfold evC
  split
  · exact cr_plan _ _ _
  · split
    · exact ⟨rfl, rfl, rfl⟩
    · split
      · exact ⟨rfl, rfl, rfl⟩
      · split
        · exact uw_plan _ _ _ _
        · split
          · exact ur_plan _ _
          · exact ⟨rfl, rfl, rfl⟩
theorem bgK_plan (c : CSt) : ∀ k, (bgK c k).c.plan = c.plan.drop k ∧ (bgK c k).c.calls = c.calls + 1 ∧ (bgK c k).c.room = c.room
  | 0 => ⟨rfl, rfl, rfl⟩
  | k + 1 => by
    obtain ⟨h1, h2, h3⟩ := bgK_plan c k
    cases h : c.plan[k]? with
    | none =>
      have hl : c.plan.length ≤ k := by simpa using h
      have e : bgK c (k + 1) = bgK c k := by unfold bgK; rw [List.take_of_length_le (by omega), List.take_of_length_le hl]
      rw [e]
      refine ⟨?_, h2, h3⟩
      rw [h1, List.drop_of_length_le hl, List.drop_of_length_le (by omega)]
    | some q =>
      rw [bgK_next h]
      obtain ⟨g1, g2, g3⟩ := ev_plan (bgK c k) q
      exact ⟨by rw [g1, h1, List.tail_drop], g2.trans h2, g3.trans h3⟩
theorem CFits.plan {c : CSt} {N : Nat} (h : CFits c N) (l : List EvM) : CFits { c with plan := l } N := ⟨h.here, h.both, h.users, h.time0, h.time, h.hrow, h.drow, h.prow⟩
theorem CFits.calls {c : CSt} {N : Nat} (h : CFits c N) (n : Int) : CFits { c with calls := n } N := ⟨h.here, h.both, h.users, h.time0, h.time, h.hrow, h.drow, h.prow⟩
theorem CFits.cr {c : CSt} {N : Nat} (h : CFits c N) (keep torn : Int) : CFits (crC c keep torn) N := by
  unfold crC
  split
  · exact h
  · have hlen : (leftC c keep torn).length ≤ c.pending.length := by
      unfold leftC
      rw [List.length_append, List.length_take]
      cases hq : c.pending[keepC c keep]? with
      | none => simp; omega
      | some q =>
        have := (List.getElem?_eq_some_iff.1 hq).1
        show _ + (if tearsB q torn = true then [partC q torn] else []).length ≤ _
        split
        · simp; omega
        · simp; omega
    have h1 : CFits { c with pending := leftC c keep torn } N := by
      refine ⟨h.here, by have := h.both; show c.durable.length + (leftC c keep torn).length ≤ _; omega, h.users, h.time0, h.time, h.hrow, h.drow, fun r hr => ?_⟩
      have hr' : r ∈ leftC c keep torn := hr
      unfold leftC at hr'
      rcases List.mem_append.1 hr' with hm | hm
      · exact h.prow r (List.mem_of_mem_take hm)
      · cases hq : c.pending[keepC c keep]? with
        | none => rw [hq] at hm; cases hm
        | some q =>
          rw [hq] at hm
          have h' : r ∈ (if tearsB q torn = true then [partC q torn] else []) := hm
          split at h'
          · rw [List.mem_singleton.1 h']
            have := h.prow q (List.mem_of_getElem? hq)
            exact ⟨this.1, this.2.1, by show (q.f.data.take torn.toNat).length ≤ _; rw [List.length_take]; have := this.2.2; omega⟩
          · cases h'
    have h2 := h1.settle
    have h3 := h2.both
    refine ⟨?_, h2.both, h2.users, h2.time0, h2.time, h2.drow, h2.drow, h2.prow⟩
    show (settleC { c with pending := leftC c keep torn }).durable.length ≤ N
    omega
theorem CFits.ev {s : BgC} {N : Nat} (h : CFits s.c N) (e : EvM) : CFits (evC s e).c (N + 2) := by
  have h1 := h.plan s.c.plan.tail
  unfold evC
  split
  · exact (h1.cr _ _).more (by omega)
  · split
    · exact h1.more (by omega)
    · split
      · exact h1.more (by omega)
      · split
        · exact h1.uw _ _ _
        · split
          · exact h1.ur _
          · exact h1.more (by omega)
theorem CFits.bg {c : CSt} {N : Nat} (h : CFits c N) : ∀ k, k ≤ c.plan.length → CFits (bgK c k).c (N + 2 * k)
  | 0, _ => h.calls _
  | k + 1, hk => by
    have hq : c.plan[k]? = some c.plan[k] := List.getElem?_eq_getElem (by omega)
    rw [bgK_next hq]
    have := (CFits.bg h k (by omega)).ev c.plan[k]
    exact this.more (by omega)
theorem bgN_le (c : CSt) : bgN c ≤ c.plan.length := by
  unfold bgN
  exact (List.takeWhile_prefix _).length_le
/-- The k-th event happens just if k is below; at the end none does. -/
theorem take_while_at {α : Type} {p : α → Bool} : ∀ {l : List α} {k : Nat} {e : α}, k < (l.takeWhile p).length → l[k]? = some e → p e = true
  | [], k, e, h, _ => by simp at h
  | a :: l, 0, e, h, he => by
    rw [List.takeWhile_cons] at h
    split at h
    · rename_i ha
      have : a = e := by simpa using he
      rw [← this]; exact ha
    · simp at h
  | a :: l, k + 1, e, h, he => by
    rw [List.takeWhile_cons] at h
    split at h
    · exact take_while_at (by simpa using h) (by simpa using he)
    · simp at h
theorem take_while_end {α : Type} {p : α → Bool} : ∀ {l : List α} {e : α}, l[(l.takeWhile p).length]? = some e → p e = false
  | [], e, he => by simp at he
  | a :: l, e, he => by
    rw [List.takeWhile_cons] at he
    split at he
    · exact take_while_end (l := l) (by simpa using he)
    · rename_i ha
      have : a = e := by simpa using he
      rw [← this]
      simpa using ha
end Go.Proofs.YtfmlnodhbojdpaaGreat.Tx
/- Package fsim: a call begins. -/
namespace Go.Proofs.YtfmlnodhbojdpaaGreat.Tx
open Go.RowKit Go.Maps Go.Proofs.YtfmlnodhbojdpaaGreat.Sh

/-- How long the plan is, by the world. -/
def planL (w : World) (b : Nat) : Nat := match w.cell? ⟨b, 4, none⟩ with
  | some (.slice _ n _) => n
  | _ => 0
section
variable {F M : Nat → Prop} {w w' : World} {b : Nat} {c : CSt} {x : FcV}
theorem FcX.evs (h : FcX F w b c x) : ∃ A n, x.plan = .slice A c.plan.length n ∧ c.plan.length ≤ n ∧ n ≤ maxLen ∧ InL evK F w (.slice A c.plan.length n) c.plan := by
  have h1 := h.plan
  obtain ⟨A, n, e, h2, h3⟩ := evs_slice h1.tmp
  refine ⟨A, n, e, h2, h3, ?_⟩
  rw [e] at h1
  exact h1
theorem FcX.planL_ (h : FcX F w b c x) : planL w b = c.plan.length := by
  obtain ⟨A, n, e, _⟩ := h.evs
  unfold planL
  rw [h.blk.cell 4]
  show (match some x.plan with | some (.slice _ n _) => n | _ => 0) = _
  rw [e]
/-- Another plan, that is read. -/
theorem FcX.plan_ (hX : FcX F w b c x) (hM : ∀ k, M k ↔ fcM b x k) {v : Value} {l : List EvM} (h : InL evK F w v l) : FcAt F (w.setCell ⟨b, 4, none⟩ v) b { c with plan := l } M := by
  have ow : Only (fun k => k = b) w (w.setCell ⟨b, 4, none⟩ v) := Only.set_ (M := fun k => k = b) (g := b) (i := 4) (Only.refl _ w) (.inl rfl) v
  refine ⟨{ x with plan := v }, ⟨hX.blk.set_ 4 v, hX.here.only ow hX.Fb (fun k hk e => hX.hb (e ▸ hk)), hX.dur.only ow hX.Fb (fun k hk e => hX.db (e ▸ hk)), hX.pending.only ow hX.Fb (fun k hk e => hX.pb (e ▸ hk)), h.only ow hX.Fb,
    hX.users.only ow hX.Fb (fun k hk e => hX.ub (e ▸ hk)), hX.self, fun k hk => Nat.lt_of_lt_of_le (hX.low k hk) ow.size, hX.apart⟩, hM⟩
end
theorem Rd.tail {F : Nat → Prop} {w : World} {sz n c : Nat} {A : Option Addr} {xs : List Value} (h : Rd F w sz (.slice A (n + 1) c) (n + 1) xs) : Rd F w sz (.slice (if c = 1 then A else A.map (fun a => a.add (1 * sz))) n (c - 1)) n (xs.drop sz) := by
  obtain ⟨A', c', e, h1, h2, h3, h4, h5⟩ := h
  injection e with ea eb ec
  subst ea ec
  refine ⟨_, _, rfl, by omega, by omega, by rw [List.length_drop, h3, Nat.add_mul]; omega, fun hn => ?_, fun hn => ?_⟩
  · by_cases h : c = 1
    · omega
    · rw [if_neg h] at hn
      have : A = none := by cases A with
        | none => rfl
        | some a => cases hn
      have := h4 this
      omega
  · obtain ⟨ad, rfl, hf, hl, hc⟩ := h5 (by omega)
    rw [if_neg (by omega)]
    refine ⟨ad.add (1 * sz), rfl, by rw [block_of_add]; exact hf, by rw [block_of_add]; exact hl, fun j u hu => ?_⟩
    rw [add_of_add, Nat.one_mul]
    refine hc _ _ ?_
    rw [List.getElem?_drop] at hu
    exact hu
theorem InL.tail {K : Shape} {F : Nat → Prop} {w : World} {n c : Nat} {A : Option Addr} {a : K.α} {l : List K.α} (h : InL K F w (.slice A (n + 1) c) (a :: l)) (hl : l.length = n) : InL K F w (.slice (if c = 1 then A else A.map (fun a => a.add (1 * K.m))) n (c - 1)) l := by
  obtain ⟨ds, h1, h2⟩ := h
  cases ds with
  | nil => have := h2.1; simp at this
  | cons d ds =>
    refine ⟨ds, ?_, ?_⟩
    · have h3 : Rd F w K.m (.slice A (n + 1) c) (n + 1) (ShC K (a :: l) (d :: ds)) := by
        have := h1
        rw [List.length_cons, hl] at this
        exact this
      have h4 := h3.tail
      have e : (ShC K (a :: l) (d :: ds)).drop K.m = ShC K l ds := by
        show ((K.cells a d) ++ ShC K l ds).drop K.m = _
        rw [List.drop_left' (K.len a d)]
      rw [e] at h4
      rw [hl]
      exact h4
    · refine ⟨by have := h2.1; simpa using this, fun i d' bs hd hb => h2.2 (i + 1) d' bs (by simpa using hd) (by simpa using hb)⟩
theorem size_fe (w : World) : (sizeOf (Tryz.prog.elem 33)).run Tryz.prog w = .ok 7 w := by kernel_rfl
set_option maxRecDepth 100000 in
theorem evs_back (A : Option Addr) (l c : Nat) (hl : 1 ≤ l) (w : World) : (Instr.slice 33 (.slice A l c) (some (.int .i64 1)) none none).run Tryz.prog w = .ok (.slice (if c = 1 then A else A.map (fun a => a.add (1 * 7))) (l - 1) (c - 1)) w := by
  rw [run_slice_l w 33 A l c Tryz.underlying33 .i64 1 (by omega) (by omega), size_fe]
  simp only [Result.andThen_ok, sliced, Int.toNat_one]
end Go.Proofs.YtfmlnodhbojdpaaGreat.Tx
