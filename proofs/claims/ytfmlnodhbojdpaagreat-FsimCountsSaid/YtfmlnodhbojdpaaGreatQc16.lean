/- Texts put together: Fx11. -/
import Derived.Test.YtfmlnodhbojdpaaGreatQc15
/- The reference's file system: Crash. -/
namespace Go.Proofs.YtfmlnodhbojdpaaGreat.Tx
open Go.RowKit Go.Proofs.YtfmlnodhbojdpaaGreat.Sh

/-- One of its plain cells was set. -/
theorem cell_fin {F M : Nat → Prop} {w : World} {b : Nat} {st st' : FSM} {x : FsV} (i : Nat) (u : Value) (hX : RefX F w b st x) (hM : ∀ k, M k ↔ fsM b x k) (hst : (fsC st x).setIfInBounds i u = fsC st' x) (h1 : st'.now = st.now) (h2 : st'.sure = st.sure) (h3 : st'.pending = st.pending) (h4 : st'.plan = st.plan) (h5 : st'.user = st.user) :
    FsPost F M w b st' (w.setCell ⟨b, i, none⟩ u) := by
  have ob : Only (fun k => k = b) w (w.setCell ⟨b, i, none⟩ u) := Only.set_ (M := fun k => k = b) (g := b) (i := i) (Only.refl _ w) (.inl rfl) u
  have hFb : ∀ k, F k → ¬ (k = b) := fun k hk e => hX.self (by rw [← e]; exact hk)
  have hun : ∀ k, x.user.ownBlock = some k → ¬ (k = b) := fun k hk e => hX.u_ne (by rw [hk, e])
  have hpn : ∀ k, x.pending.ownBlock = some k → ¬ (k = b) := fun k hk e => hX.p_ne (by rw [hk, e])
  refine fs_fin (x' := x) hX hM (ob.more (fun k _ h => .inl h)) (fun k h => .inl h) (by rw [← hst]; exact hX.blk.set_ i u) ?_ ?_ ?_ ?_ ?_
  · rw [h1]; exact (hX.now.only ob hFb).mono (fun k _ hk => .inl hk)
  · rw [h2]; exact (hX.sure.only ob hFb).mono (fun k _ hk => .inl hk)
  · rw [h3]; exact (hX.pending.only ob hFb hpn).toG (fun k _ hk => .inl hk) (fun k hk => .inr (.inl hk)) hX.pending.2
  · rw [h4]; exact (hX.plan.only ob hFb).mono (fun k _ hk => .inl hk)
  · rw [h5]; exact (hX.user.only ob hFb hun).toG (fun k _ hk => .inl hk) (fun k hk => .inr (.inr hk)) hX.user.2
/-- What is there was set. -/
theorem now_fin {F M : Nat → Prop} {w wl : World} {b : Nat} {st : FSM} {x : FsV} {v : Value} {l : List RowM} (hX : RefX F w b st x) (hM : ∀ k, M k ↔ fsM b x k) (hl : Below w.heap.size w wl) (hv : RowsIn (fun k => F k ∨ (w.heap.size ≤ k ∧ k < wl.heap.size)) wl v l) :
    FsPost F M w b { st with now := l } (wl.setCell ⟨b, 1, none⟩ v) := by
  have hbw := hX.blk.lt
  have hz := hl.size
  have hwz : (wl.setCell ⟨b, 1, none⟩ v).heap.size = wl.heap.size := by simp [World.setCell]
  have ob : Only (fun k => k = b) w (wl.setCell ⟨b, 1, none⟩ v) := Only.set_ (M := fun k => k = b) (g := b) (i := 1) (Only.of_below hl) (.inl rfl) v
  have hFb : ∀ k, F k → ¬ (k = b) := fun k hk e => hX.self (by rw [← e]; exact hk)
  have hun : ∀ k, x.user.ownBlock = some k → ¬ (k = b) := fun k hk e => hX.u_ne (by rw [hk, e])
  have hpn : ∀ k, x.pending.ownBlock = some k → ¬ (k = b) := fun k hk e => hX.p_ne (by rw [hk, e])
  refine fs_fin (x' := { x with now := v }) hX hM (ob.more (fun k _ h => .inl h)) (fun k h => .inl h) ((hX.blk.below hl hbw).set_ 1 v) ?_ ((hX.sure.only ob hFb).mono (fun k _ hk => .inl hk)) ((hX.pending.only ob hFb hpn).toG (fun k _ hk => .inl hk) (fun k hk => .inr (.inl hk)) hX.pending.2) ((hX.plan.only ob hFb).mono (fun k _ hk => .inl hk)) ((hX.user.only ob hFb hun).toG (fun k _ hk => .inl hk) (fun k hk => .inr (.inr hk)) hX.user.2)
  refine (hv.only (Only.set_ (M := fun k => k = b) (g := b) (i := 1) (Only.refl _ wl) (.inl rfl) v) (fun k hk e => ?_)).mono (fun k hk hf => ?_)
  · rcases hk with hk | hk
    · exact hFb k hk e
    · omega
  · rcases hf with hf | hf
    · exact .inl hf
    · exact .inr ⟨hf.1, hk, fun hm => by have := hX.lt k hm; omega⟩
theorem apply_len (R : List RowM) (o : OpM) : (applyM R o).length ≤ R.length + 1 := by
  have hw : ∀ (R : List RowM) p f, (withM R p f).length ≤ R.length + 1 := fun R p f => by
    unfold withM
    have := without_le R p
    simp only [List.length_append, List.length_take, List.length_drop, List.length_singleton]
    omega
  unfold applyM
  split
  · exact hw _ _ _
  · split
    · split
      · omega
      · split
        · omega
        · have h1 := hw (withoutM R o.fr) o.to
          rename_i r _
          have h2 := h1 r.f
          have h3 := without_le R o.fr
          omega
    · have := without_le R o.fr; omega
theorem again_next {st : FSM} {k : Nat} {o : OpM} (h : st.pending[k]? = some o) : againM st (k + 1) = applyM (againM st k) o := by
  unfold againM
  obtain ⟨hl, e⟩ := List.getElem?_eq_some_iff.1 h
  rw [List.take_succ_eq_append_getElem hl, List.foldl_append, e]
  rfl
theorem again_len (st : FSM) : ∀ k, (againM st k).length ≤ st.sure.length + k
  | 0 => by simp [againM]
  | k + 1 => by
    have ih := again_len st k
    cases h : st.pending[k]? with
    | none =>
      have hl : st.pending.length ≤ k := by simpa using h
      have e : againM st (k + 1) = againM st k := by
        unfold againM
        rw [List.take_of_length_le hl, List.take_of_length_le (by omega)]
      rw [e]; omega
    | some o =>
      rw [again_next h]
      have := apply_len (againM st k) o
      omega
/-- Changes that are read. -/
def OpsTmp (F : Nat → Prop) (w : World) (v : Value) (l : List OpM) : Prop := TmpL opK F w v l
theorem RefX.ops {F : Nat → Prop} {w : World} {b : Nat} {st : FSM} {x : FsV} (h : RefX F w b st x) : ∃ (A : Option Addr) (c : Nat), x.pending = .slice A st.pending.length c ∧ st.pending.length ≤ c ∧ c ≤ maxLen ∧ OpsTmp F w (.slice A st.pending.length c) st.pending := by
  obtain ⟨A, c, h1, h2, h3⟩ := h.pending.tmp.slice
  refine ⟨A, c, h1, h2, h3, ?_⟩
  have := h.pending.tmp
  rw [h1] at this
  exact this
theorem OpsTmp.below {F : Nat → Prop} {w w' : World} {v : Value} {l : List OpM} (h : OpsTmp F w v l) (hb : Below w.heap.size w w') : OpsTmp F w' v l := TmpL.below h hb
/-- A change's cells, in changes that are read. -/
theorem op_cells {F : Nat → Prop} {w : World} {A : Option Addr} {n c : Nat} {l : List OpM} (h : OpsTmp F w (.slice A n c) l) (k : Nat) (o : OpM) (hk : l[k]? = some o) :
    ∃ (ad : Addr) (dA : Option Addr) (dc : Nat), A = some ad ∧ By F w (.slice dA o.f.data.length dc) o.f.data ∧ o.f.data.length ≤ dc ∧ dc ≤ maxLen ∧ w.cell? (ad.add (k * 6)) = some (.int .i64 o.kind) ∧ w.cell? ⟨(ad.add (k * 6)).block, (ad.add (k * 6)).off + 1, none⟩ = some (.string (str o.fr)) ∧
      w.cell? ⟨(ad.add (k * 6)).block, (ad.add (k * 6)).off + 2, none⟩ = some (.string (str o.to)) ∧ w.cell? ⟨(ad.add (k * 6)).block, (ad.add (k * 6)).off + 3, none⟩ = some (.int .i64 o.f.mode) ∧
      w.cell? ⟨(ad.add (k * 6)).block, (ad.add (k * 6)).off + 4, none⟩ = some (.slice dA o.f.data.length dc) ∧ w.cell? ⟨(ad.add (k * 6)).block, (ad.add (k * 6)).off + 5, none⟩ = some (.int .i64 o.f.time) := by
  obtain ⟨ad, d, hA, hby, hc⟩ := TmpL.at_ h k o hk
  obtain ⟨dA, dc, rfl, g1, g2⟩ := By.slice (bs := o.f.data) hby
  have e : ∀ j u, 0 < j → (opK.cells o (.slice dA o.f.data.length dc))[j]? = some u → w.cell? ⟨(ad.add (k * 6)).block, (ad.add (k * 6)).off + j, none⟩ = some u := fun j u hj hu => by
    rw [← add_field _ _ j hj]; exact hc j u hu
  exact ⟨ad, dA, dc, hA, hby, g1, g2, hc 0 _ rfl, e 1 _ (by decide) rfl, e 2 _ (by decide) rfl, e 3 _ (by decide) rfl, e 4 _ (by decide) rfl, e 5 _ (by decide) rfl⟩
theorem size_byte (w : World) : (sizeOf (Tryz.prog.elem 32)).run Tryz.prog w = .ok 1 w := by kernel_rfl
set_option maxRecDepth 100000 in
theorem bytes_front (A : Option Addr) (l c k : Nat) (hkc : k ≤ c) (w : World) : (Instr.slice 32 (.slice A l c) none (some (.int .i64 (k : Int))) none).run Tryz.prog w = .ok (.slice A k c) w := by
  rw [run_slice_h w 32 A l c Tryz.underlying32 .i64 k (by omega) (by omega), size_byte]
  simp only [Result.andThen_ok, sliced, Int.toNat_natCast]
  by_cases h : c = 0
  · subst h; simp
  · have e : A.map (fun a => a.add 0) = A := by cases A <;> simp [Addr.add]
    simp [h, e]
theorem By.take {F : Nat → Prop} {w : World} {A : Option Addr} {n c : Nat} {bs : List UInt8} (h : By F w (.slice A n c) bs) (k : Nat) (hk : k ≤ n) : By F w (.slice A k c) (bs.take k) := by
  obtain ⟨A', c', hv, h1, h2, h3, h4, h5⟩ := h
  injection hv with e1 e2 e3
  subst e1 e3
  have hl : (bs.take k).length = k := by rw [List.length_take]; omega
  refine ⟨A, c, by rw [hl], by rw [hl]; omega, h2, by simp, fun e => by rw [hl]; have := h4 e; omega, fun hn => ?_⟩
  obtain ⟨ad, e, hf, hlt, hc⟩ := h5 (by rw [hl] at hn; omega)
  refine ⟨ad, e, hf, hlt, fun j u hu => hc j u ?_⟩
  rw [List.map_take, List.getElem?_take] at hu
  split at hu
  · exact hu
  · cases hu
end Go.Proofs.YtfmlnodhbojdpaaGreat.Tx
