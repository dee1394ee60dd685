/- Texts put together: Hk0. -/
import Derived.Test.YtaccejlalomaaaaGreatQh55
/- Calm calls, falls that keep all or nothing, what a user writes: as plain data; a loop of calm calls. -/
set_option linter.unusedVariables false
set_option linter.unusedSimpArgs false
namespace Go.Proofs.YtaccejlalomaaaaGreat.Tx
open Go.RowKit Go.Maps Go.Proofs.YtaccejlalomaaaaGreat.Sh

structure Quiet (c c' : CSt) (k : Int) : Prop where
  plan : c'.plan = []
  down : c'.down = false
  durable : k ≠ 5 → c'.durable = c.durable
theorem Quiet.of_eq {c c' : CSt} {k : Int} (h1 : c'.plan = c.plan) (h2 : c'.down = c.down) (h3 : c'.durable = c.durable) (hp : c.plan = []) (hd : c.down = false) : Quiet c c' k := ⟨h1.trans hp, h2.trans hd, fun _ => h3⟩
theorem rem_calm {c : CSt} (hp : c.plan = []) (hd : c.down = false) (p : List UInt8) : remC c p = rmC { c with calls := c.calls + 1 } p := by
  obtain ⟨h1, h2⟩ := bg_calm hp hd
  unfold remC
  rw [if_pos h2, h1]
  rfl
theorem syn_calm {c : CSt} (hp : c.plan = []) (hd : c.down = false) : synC c = settleC { c with calls := c.calls + 1 } := by
  obtain ⟨h1, h2⟩ := bg_calm hp hd
  unfold synC
  rw [if_pos h2, h1]
  rfl
theorem quiet_does {c : CSt} (hp : c.plan = []) (hd : c.down = false) {o : LOp} (h0 : 0 ≤ o.kind) (h7 : o.kind ≤ 7) : Quiet c (doesC c o) o.kind := by
  have hb := (bg_calm hp hd).1
  have hcrt : ∀ create, Quiet c (crtC c o.path o.mode o.data create) o.kind := fun create => by
    rw [(crt_calm hp hd _ _ _ _).2]
    unfold wrC
    split <;> exact Quiet.of_eq rfl rfl rfl hp hd
  have hmov : ∀ create, Quiet c (movC c o.path o.dest create) o.kind := fun create => by
    rw [(mov_calm hp hd _ _ _).2]
    unfold mvC
    split <;> exact Quiet.of_eq rfl rfl rfl hp hd
  refine doesC_at (P := fun c' => Quiet c c' o.kind) c o (fun _ => hcrt _) (fun _ => hcrt _) (fun _ => hmov _) (fun _ => hmov _) (fun _ => ?_) (fun e => ?_) (fun _ => ?_) (fun _ => ?_) (fun e => by omega) (fun e => by omega) (fun e => by omega) (fun e => by omega) (fun e => by omega) (fun e => by omega)
  · rw [rem_calm hp hd]
    unfold rmC
    split <;> exact Quiet.of_eq rfl rfl rfl hp hd
  · rw [syn_calm hp hd]
    exact ⟨hp, hd, fun h => absurd e h⟩
  · rw [hb]; exact Quiet.of_eq rfl rfl rfl hp hd
  · rw [hb]; exact Quiet.of_eq rfl rfl rfl hp hd
theorem cr_here {c : CSt} (hd : c.down = false) (keep torn : Int) : (crC c keep torn).here = (leftC c keep torn).foldl applyC c.durable := by
  unfold crC
  rw [if_neg (by rw [hd]; decide)]
  rfl
theorem cr_all {c : CSt} (hi : InvC c) (hd : c.down = false) {keep torn : Int} (hk : (c.pending.length : Int) ≤ keep) : (crC c keep torn).here = c.here := by
  have he : keepC c keep = c.pending.length := by unfold keepC; omega
  rw [cr_here hd, left_fold, he]
  have hn : c.pending[c.pending.length]? = none := by simp
  rw [hn]
  exact hi.here.symm
theorem cr_none {c : CSt} (hd : c.down = false) : (crC c 0 (-1)).here = c.durable := by
  have he : keepC c 0 = 0 := by unfold keepC; omega
  rw [cr_here hd, left_fold, he]
  split
  · rfl
  · rename_i q hq
    rw [if_neg (by unfold tearsB; simp)]
    rfl
theorem cr_sure {c : CSt} (hd : c.down = false) (hp : c.pending = []) (keep torn : Int) : (crC c keep torn).here = c.durable := by
  rw [cr_here hd]
  unfold leftC
  rw [hp]
  simp
structure Wrote (c c' : CSt) (p data : List UInt8) : Prop where
  path : pathB p = true
  stands : peekB c'.here p = true
  data : (peekF c'.here p).data = data
  sure : c'.durable = c'.here
  none : c'.pending = []
  down : c'.down = c.down
theorem uw_fine {c : CSt} (hi : InvC c) {p : List UInt8} {data : List UInt8} (h : uwE c p 1 data = 0) : Wrote c (uwC c p 1 data) p data := by
  have hw : wrE c p 1 data 9223372036854775807 false = 0 := by
    unfold uwE at h
    split at h
    · cases h
    · exact h
  obtain ⟨a, _, _, m, _, _⟩ := wrE_ok hw
  have e : uwC c p 1 data = noteC (wrC c p 1 data 9223372036854775807 false) ⟨0, 4, 1, 0, 0, p, data⟩ := by unfold uwC; rw [if_pos h]
  have e2 : wrC c p 1 data 9223372036854775807 false = doC c ⟨[], p, ⟨1, data, c.time + 1⟩⟩ := by unfold wrC; rw [if_pos hw]
  have hi2 := hi.wr p 1 data 9223372036854775807 false
  have eh : (uwC c p 1 data).here = withM c.here p ⟨1, data, c.time + 1⟩ := by
    rw [e, e2]
    exact apply_put _ _ _ (path_ne a)
  have hm : (⟨p, ⟨1, data, c.time + 1⟩⟩ : RowM) ∈ withM c.here p ⟨1, data, c.time + 1⟩ := mem_with.2 (.inl rfl)
  obtain ⟨p1, p2⟩ := peek_row (with_ord hi.rows.ord p _) hm
  refine ⟨a, by rw [eh]; exact p2, by rw [eh, p1], ?_, by rw [e]; rfl, ?_⟩
  · have h1 : (uwC c p 1 data).here = (wrC c p 1 data 9223372036854775807 false).here := by rw [e]; rfl
    rw [h1, hi2.here, foldC_all _ _ (Nat.le_refl _), e]
    rfl
  · rw [e, e2]; rfl
theorem uw_said {c : CSt} {p data : List UInt8} (h : uwE c p 1 data ≠ 0) : uwC c p 1 data = c := by unfold uwC; rw [if_neg h]
theorem copy_ap2 {F M M' Z : Nat → Prop} {w w' : World} (ha : Ap F M Z) (hz : ∀ k, Z k → k < w.heap.size) (hl : ∀ k, M' k → w.heap.size ≤ k) : Ap (grow F w w' M') M' Z := fun k hk => by
  have := hz k hk
  refine ⟨fun hf => ?_, fun hm => by have := hl k hm; omega⟩
  rcases hf with hf | ⟨h1, _⟩
  · exact (ha k hk).1 hf
  · omega
theorem ap_new {F M M' : Nat → Prop} {w : World} {b : Nat} {c : CSt} (h : FcAt F w b c M) (hl : ∀ k, M' k → w.heap.size ≤ k) : Ap F M M' := fun k hk => by
  have := hl k hk
  exact ⟨fun hf => by have := h.low k hf; omega, fun hm => by have := h.lt k hm; omega⟩
/-- A loop of calm calls: one file system goes on, another one stays. -/
structure CalmInv (FW MW : Nat → Prop) (bw : Nat) (cw : CSt) (GG : Nat → Prop) (w : World) (v : Value) (l : List LOp) (b d k : Nat) (wr : World) (F M : Nat → Prop) (cs : CSt) (s : FSM) : Prop where
  two : TwoAt F wr b cs d s M
  sub : ∀ q, GG q → F q
  goC : GoC cs (110 + k)
  goM : GoM s (110 + k)
  inv : InvC cs
  plan : cs.plan = []
  down : cs.down = false
  ops : OpsF GG wr v l
  was : FcAt FW wr bw cw MW
  ap : Ap FW MW M
  low : ∀ q, M q → w.heap.size ≤ q
  below : Below w.heap.size w wr
section
variable {FW MW GG : Nat → Prop} {bw : Nat} {cw : CSt} {w wr w2 : World} {v : Value} {l : List LOp} {b d k : Nat} {F M : Nat → Prop} {cs c' : CSt} {s : FSM} {o : LOp}
theorem CalmInv.does (h : CalmInv FW MW bw cw GG w v l b d k wr F M cs s) (hd : DoesR cs o c') (h0 : 0 ≤ o.kind) (h7 : o.kind ≤ 7) (hp : TwoPost F M wr b c' d (doesM s o) w2) (ho : OpOK o) : ∃ F' M', CalmInv FW MW bw cw GG w v l b d (k + 1) w2 F' M' c' (doesM s o) ∧ c' = doesC cs o := by
  obtain ⟨M1, h1, h2, h3⟩ := hp
  have hz2 := h.below.size
  have hc : c' = doesC cs o := hd.1 (by omega)
  have hq := quiet_does h.plan h.down h0 h7
  refine ⟨_, M1, ⟨h1, fun q hq => .inl (h.sub q hq), h.goC.doesR ho hd, h.goM.does ho, h.inv.doesR hd, by rw [hc]; exact hq.plan, by rw [hc]; exact hq.down, h.ops.only h2 (fun q hq => h.two.apart_ q (h.sub q hq)), h.was.stay h.ap h2, h.ap.step h.was h3, fun q hq => ?_, ?_⟩, hc⟩
  · rcases h3 q hq with h4 | h4
    · exact h.low q h4
    · omega
  · exact h.below.trans ⟨h2.os, h2.tape, h2.output, h2.size, fun q hq => h2.block q (by omega) (fun hm => by have := h.low q hm; omega)⟩
theorem CalmInv.skip (h : CalmInv FW MW bw cw GG w v l b d k wr F M cs s) : CalmInv FW MW bw cw GG w v l b d (k + 1) wr F M cs s :=
  ⟨h.two, h.sub, h.goC.more (by omega), h.goM.more (by omega), h.inv, h.plan, h.down, h.ops, h.was, h.ap, h.low, h.below⟩
end
end Go.Proofs.YtaccejlalomaaaaGreat.Tx
