/- Texts put together: Ge1, Ge2, Ge3, Rf3. -/
import Derived.Test.YtalnfiegkkkkgaaGreatQr37
import Derived.IntWalk
import Derived.Test.YtalnfiegkkkkgaaGreatQr34
/- One call of either file system, one behind the other. -/
namespace Go.Proofs.YtalnfiegkkkkgaaGreat.Tx
open Go.RowKit Go.Maps Go.Proofs.YtalnfiegkkkkgaaGreat.Sh

set_option maxRecDepth 100000 in
set_option maxHeartbeats 400000 in
theorem rcopyb_big (v : Value) (bs : List UInt8) (w : World) (h : SlV w v (bs.map bv)) (hn : bs.length ≤ 140737488355328) : Calls Tryz.prog 71 #[v] w fun e w' => ∃ v', e = .returned v' ∧ OwnV 5 w' w.heap.size v' (bs.map bv) ∧ Below w.heap.size w w' := by
  obtain ⟨A, c, rfl, hlc, hcm, hR⟩ := (h.below ((Below.refl w.heap.size w).alloc (Nat.le_refl _) (.cells #[] 5))).len
  rw [List.length_map] at hlc hR ⊢
  have hown : OwnV 5 (w.alloc (.cells #[] 5)) w.heap.size (.slice (some ⟨w.heap.size, 0, none⟩) 0 0) (([] : List UInt8).map bv) := World.ownsRow_made w #[] 0 (Nat.le_refl _) (by unfold maxLen; omega) rfl
  obtain ⟨l, hl⟩ : ∃ l, bs.length = l := ⟨_, rfl⟩
  rw [hl] at hR hn ⊢
  have hsm : ([] : List UInt8).length + l ≤ 140737488355328 := by simp; omega
  have hz : w.heap.size ≤ (w.alloc (.cells #[] 5)).heap.size := by simp
  have HR := Lib.hid hR
  have HOWN := Lib.hid hown
  clear hR hown hl h hlc hcm
  go_enter Tryz.func71, Tryz.ntmps71
  go_wp2_with (at_builtin; refine append_bytes rfl (.tmp 3) (.tmp 4) rfl _ w.heap.size (.slice (some ⟨w.heap.size, 0, none⟩) 0 0) [] rfl HOWN.out _ A l c bs rfl HR.out hsm hz ?_; intro v3 w3 ho3 hb3; have HO := Lib.hid ho3; have HB := Lib.hid hb3; clear ho3 hb3)
  go_ret
  refine ⟨v3, rfl, ?_, ((Below.refl _ _).alloc (Nat.le_refl _) _).trans HB.out⟩
  simpa using HO.out
section
variable {F M Mf Mx G : Nat → Prop} {w w1 w2 : World} {b d : Nat} {c c' : CSt} {s s' : FSM}
theorem TwoX.later (h : TwoX F w b c d s Mf Mx) (hp : FcPost F Mf w b c' w1) : RefAt F w1 d s Mx := by
  obtain ⟨M1, _, h2, _⟩ := hp
  exact h.x.only h2 (fun k hk => h.f.apart_ k hk) (fun k hk hf => h.apart k hf hk)
theorem FsPost.then_below (h : FsPost F M w d s' w1) (hb : Below w1.heap.size w1 w2) : FsPost F M w d s' w2 := by
  obtain ⟨M2, h1, h3, h4⟩ := h
  exact FsPost.trans h3 h4 (FsPost.of_below hb (FsPost.refl (h1.below hb)))
theorem two_both (h : TwoX F w b c d s Mf Mx) (hM : ∀ k, M k ↔ Mf k ∨ Mx k) (hp : FcPost F Mf w b c' w1) (hq : FsPost F Mx w1 d s' w2) : TwoPost F M w b c' d s' w2 := by
  obtain ⟨M1, h1, h2, h3⟩ := hp
  obtain ⟨M2, h4, h5, h6⟩ := hq
  have z1 := h2.size
  have z2 := h5.size
  have hxl := h.x.mlt
  have hs : ∀ k, M1 k ∨ M2 k → M k ∨ w.heap.size ≤ k := fun k hk => by
    rcases hk with hk | hk
    · exact (h3 k hk).imp (fun h => (hM k).2 (.inl h)) id
    · exact (h6 k hk).imp (fun h => (hM k).2 (.inr h)) (fun h => by omega)
  have hap : ∀ k, F k → ¬ M k := fun k hk hm => by
    rcases (hM k).1 hm with h9 | h9
    · exact h.f.apart_ k hk h9
    · exact h.x.apart_ k hk h9
  have hga := grow_apart (w' := w2) hap h.f.low hs
  have hgl := grow_lt (w := w) (w' := w2) (M' := fun k => M1 k ∨ M2 k) h.f.low (by omega)
  refine ⟨fun k => M1 k ∨ M2 k, ⟨M1, M2, ⟨?_, ?_, fun k hk hx => ?_⟩, fun _ => Iff.rfl⟩, (h2.more (fun k _ hk => (hM k).2 (.inl hk))).trans h5 (fun k hk => .inl ((hM k).2 (.inr hk))), hs⟩
  · refine (h1.only h5 (fun k hk hx => ?_) (fun k hk hx => ?_)).mono_ (fun k hk => ?_) (fun k hk hm => hga k hk (.inl hm)) hgl
    · rcases hk with hk | ⟨g1, _, _⟩
      · exact h.x.apart_ k hk hx
      · have := hxl k hx; omega
    · rcases h3 k hk with h9 | h9
      · exact h.apart k h9 hx
      · have := hxl k hx; omega
    · rcases hk with hk | ⟨g1, g2, g3⟩
      · exact .inl hk
      · refine .inr ⟨g1, by omega, fun h9 => ?_⟩
        rcases h9 with h9 | h9
        · exact g3 h9
        · rcases h6 k h9 with h8 | h8
          · have := hxl k h8; omega
          · omega
  · refine h4.mono_ (fun k hk => ?_) (fun k hk hm => hga k hk (.inr hm)) hgl
    rcases hk with hk | ⟨g1, g2, g3⟩
    · exact .inl hk
    · refine .inr ⟨by omega, g2, fun h9 => ?_⟩
      rcases h9 with h9 | h9
      · have := h1.lt k h9; omega
      · exact g3 h9
  · rcases h6 k hx with h9 | h9
    · rcases h3 k hk with h8 | h8
      · exact h.apart k h8 h9
      · have := hxl k h9; omega
    · have := h1.lt k hk; omega
end
end Go.Proofs.YtalnfiegkkkkgaaGreat.Tx
/- marlaw5.FewEvents, flag. -/
namespace Go.Proofs.YtalnfiegkkkkgaaGreat.Tx
open Go.RowKit Go.Maps Go.Proofs.YtalnfiegkkkkgaaGreat.Sh

set_option maxRecDepth 100000 in
set_option maxHeartbeats 1600000 in
theorem fewev_any (F : Nat → Prop) (v : Value) (l : List EvM) (w : World) (h : EvsF F w v l) : Calls Tryz.prog 25 #[v] w fun e w' => ∃ t, e = .returned (.bool t) ∧ (t = true → l.length ≤ 60 ∧ ∀ e ∈ l, e.path.length ≤ 400) ∧ Below w.heap.size w w' := by
  obtain ⟨A, c, rfl, hlc, hcm⟩ := evs_slice h
  obtain ⟨n, hn⟩ : ∃ n, l.length = n := ⟨_, rfl⟩
  have HL := Lib.hid h
  have HN := Lib.hid hn
  rw [hn] at hlc HL ⊢
  unfold maxLen at hcm
  clear h hn
  go_enter Tryz.func25, Tryz.ntmps25
  go_wp2
  go_loopw [3, 4] (fun s i wr => ∃ (k : Nat) (z : Int), k ≤ n ∧ k ≤ 60 ∧ i = .int .i64 k ∧ s = .int .i64 z ∧ 0 ≤ z ∧ z ≤ 160000 ∧ (∀ e ∈ l.take k, e.path.length ≤ 400) ∧ Below w.heap.size w wr) (fun _ i _ => n - (intOf i).toNat)
  case atStart => exact ⟨0, 0, Nat.zero_le _, Nat.zero_le _, rfl, rfl, by omega, by omega, fun e he => by simp at he, Below.refl _ _⟩
  case round =>
    obtain ⟨k, z, hk, hk6, rfl, rfl, hz0, hz1, hpk, hb⟩ := hrel
    have HB := Lib.hid hb
    have HPK := Lib.hid hpk
    clear hb hpk
    have p0 : (0 : Int) ≤ (k : Int) := by omega
    by_cases hlt : k < n
    · by_cases h60 : k < 60
      · have hkl : k < l.length := by rw [HN.out]; exact hlt
        obtain ⟨ad, dA, dc, rfl, _, _, _, _, _, _, x5, x6⟩ := ev_cells (TmpL.below HL.out HB.out) k l[k] (List.getElem?_eq_getElem hkl)
        have HX := Lib.hid (show l.take (k + 1) = l.take k ++ [l[k]] from List.take_succ_eq_append_getElem hkl)
        obtain ⟨pl, hpl⟩ : ∃ pl, l[k].path.length = pl := ⟨_, rfl⟩
        have hsp : (str l[k].path).toList.length = pl := by rw [str_toList]; exact hpl
        have HPL := Lib.hid hpl
        obtain ⟨dl, hdl⟩ : ∃ dl, l[k].data.length = dl := ⟨_, rfl⟩
        rw [hdl] at x6
        generalize l[k] = e at *
        clear hkl hdl hpl
        have p1 : (k : Int) < (n : Int) := by omega
        have p2 : (k : Int) < 60 := by omega
        have hm0 : (0 : Int) ≤ min (dl : Int) 40000 ∧ min (dl : Int) 40000 ≤ 40000 := by omega
        have hm1 : (0 : Int) ≤ min (pl : Int) 1000 ∧ min (pl : Int) 1000 ≤ 1000 := by omega
        have w1 : IntKind.i64.wrap (z + min (dl : Int) 40000) = z + min (dl : Int) 40000 := IntWalk.i64_in _ (by omega)
        have w2 : IntKind.i64.wrap (z + min (dl : Int) 40000 + min (pl : Int) 1000) = z + min (dl : Int) 40000 + min (pl : Int) 1000 := IntWalk.i64_in _ (by omega)
        have hsz : (str e.path).size = pl := by rw [str_size]; exact HPL.out
        rw [show str e.path = ⟨(str e.path).data⟩ from rfl] at x5 hsz hsp
        generalize (⟨(str e.path).data⟩ : ByteArray) = sp at *
        by_cases hl4 : (400 : Int) < (pl : Int)
        · go_wp2_with fail
          go_quiet (fail)
          go_wp2_with fail
          go_ret
          exact ⟨_, rfl, fun h => by simp at h, below_drewN HB.out _⟩
        · go_wp2_with fail
          go_quiet (fail)
          go_wp2_with fail
          go_roundw
          case rel => exact ⟨k + 1, min (z + min (dl : Int) 40000 + min (pl : Int) 1000) 160000, by omega, by omega, by go_num, by go_num, by omega, by omega, fun x hx => by
            rw [HX.out] at hx
            rcases List.mem_append.1 hx with h9 | h9
            · exact HPK.out x h9
            · rw [List.mem_singleton.1 h9, HPL.out]; omega, below_drewN HB.out _⟩
          case measure => simp [intOf]; omega
      · obtain rfl : k = 60 := by omega
        have e60 : ¬ (n ≤ 60) := by omega
        have e61 : decide ((n : Int) ≤ 60) = false := by simp; omega
        go_wp2_with fail
        go_ret
        exact ⟨_, rfl, fun h => by simp at h, HB.out⟩
    · obtain rfl : k = n := by omega
      have HF : Hid (k ≤ 60 ∧ ∀ e ∈ l, e.path.length ≤ 400) := ⟨hk6, fun e he => HPK.out e (by rw [List.take_of_length_le (by rw [HN.out]; exact Nat.le_refl _)]; exact he)⟩
      go_wp2_with fail
      all_goals
        go_ret
        exact ⟨_, rfl, fun _ => HF.out, HB.out⟩
end Go.Proofs.YtalnfiegkkkkgaaGreat.Tx
/- The laws' operations in memory; marlaw5.Few. -/
namespace Go.Proofs.YtalnfiegkkkkgaaGreat.Tx
open Go.RowKit Go.Maps Go.Proofs.YtalnfiegkkkkgaaGreat.Sh

/-- An operation's cells, from a on. -/
structure OpCells (G : Nat → Prop) (w : World) (a : Addr) (o : LOp) (dv pv : Value) : Prop where
  data : By G w dv o.data
  plan : InL evK G w pv o.plan
  kind : w.cell? a = some (.int .i64 o.kind)
  mode : w.cell? ⟨a.block, a.off + 1, none⟩ = some (.int .i64 o.mode)
  keep : w.cell? ⟨a.block, a.off + 2, none⟩ = some (.int .i64 o.keep)
  torn : w.cell? ⟨a.block, a.off + 3, none⟩ = some (.int .i64 o.torn)
  path : w.cell? ⟨a.block, a.off + 4, none⟩ = some (.string (str o.path))
  dest : w.cell? ⟨a.block, a.off + 5, none⟩ = some (.string (str o.dest))
  dcell : w.cell? ⟨a.block, a.off + 6, none⟩ = some dv
  pcell : w.cell? ⟨a.block, a.off + 7, none⟩ = some pv
def OpsF (G : Nat → Prop) (w : World) (v : Value) (l : List LOp) : Prop := ∃ A c, v = .slice A l.length c ∧ l.length ≤ c ∧ c ≤ maxLen ∧ ∀ k o, l[k]? = some o → ∃ ad dv pv, A = some ad ∧ G ad.block ∧ ad.block < w.heap.size ∧ OpCells G w (ad.add (k * 8)) o dv pv
theorem OpCells.only {G M : Nat → Prop} {w w' : World} {a : Addr} {o : LOp} {dv pv : Value} (h : OpCells G w a o dv pv) (ho : Only M w w') (hG : ∀ k, G k → ¬ M k) (ha : G a.block) (hl : a.block < w.heap.size) : OpCells G w' a o dv pv := by
  have hn := hG _ ha
  exact ⟨h.data.only ho hG, h.plan.only ho hG, (ho.cell hl hn).trans h.kind, (ho.cell (p := ⟨a.block, a.off + 1, none⟩) hl hn).trans h.mode, (ho.cell (p := ⟨a.block, a.off + 2, none⟩) hl hn).trans h.keep, (ho.cell (p := ⟨a.block, a.off + 3, none⟩) hl hn).trans h.torn, (ho.cell (p := ⟨a.block, a.off + 4, none⟩) hl hn).trans h.path, (ho.cell (p := ⟨a.block, a.off + 5, none⟩) hl hn).trans h.dest, (ho.cell (p := ⟨a.block, a.off + 6, none⟩) hl hn).trans h.dcell, (ho.cell (p := ⟨a.block, a.off + 7, none⟩) hl hn).trans h.pcell⟩
theorem addr_block (a : Addr) (n : Nat) : (a.add n).block = a.block := by unfold Addr.add; split <;> rfl
theorem OpsF.only {G M : Nat → Prop} {w w' : World} {v : Value} {l : List LOp} (h : OpsF G w v l) (ho : Only M w w') (hG : ∀ k, G k → ¬ M k) : OpsF G w' v l := by
  obtain ⟨A, c, h1, h2, h3, h4⟩ := h
  refine ⟨A, c, h1, h2, h3, fun k o hk => ?_⟩
  obtain ⟨ad, dv, pv, e, g1, g2, g3⟩ := h4 k o hk
  exact ⟨ad, dv, pv, e, g1, Nat.lt_of_lt_of_le g2 ho.size, g3.only ho hG (by rw [addr_block]; exact g1) (by rw [addr_block]; exact g2)⟩
theorem OpsF.below {G : Nat → Prop} {w w' : World} {v : Value} {l : List LOp} (h : OpsF G w v l) (hb : Below w.heap.size w w') : OpsF G w' v l := h.only (Only.of_below (M := fun _ => False) hb) (fun _ _ => id)
/-- What Few says of an operation. -/
structure OpFew (o : LOp) : Prop where
  path : o.path.length ≤ 400
  dest : o.dest.length ≤ 400
  plan : o.plan.length ≤ 60
  paths : ∀ e ∈ o.plan, e.path.length ≤ 400

set_option maxRecDepth 100000 in
set_option maxHeartbeats 3200000 in
theorem few_any (G : Nat → Prop) (v : Value) (l : List LOp) (w : World) (h : OpsF G w v l) : Calls Tryz.prog 12 #[v] w fun e w' => ∃ t, e = .returned (.bool t) ∧ (t = true → l.length ≤ 100 ∧ ∀ o ∈ l, OpFew o) ∧ Below w.heap.size w w' := by
  have HL := Lib.hid h
  obtain ⟨A, c, rfl, hlc, hcm, _⟩ := h
  obtain ⟨n, hn⟩ : ∃ n, l.length = n := ⟨_, rfl⟩
  have HN := Lib.hid hn
  rw [hn] at hlc HL ⊢
  unfold maxLen at hcm
  clear hn
  go_enter Tryz.func12, Tryz.ntmps12
  go_wp2
  go_loopw [3, 4] (fun s i wr => ∃ (k : Nat) (z : Int), k ≤ n ∧ k ≤ 100 ∧ i = .int .i64 k ∧ s = .int .i64 z ∧ 0 ≤ z ∧ z ≤ 160000 ∧ (∀ o ∈ l.take k, OpFew o) ∧ Below w.heap.size w wr) (fun _ i _ => n - (intOf i).toNat)
  case atStart => exact ⟨0, 0, Nat.zero_le _, Nat.zero_le _, rfl, rfl, by omega, by omega, fun e he => by simp at he, Below.refl _ _⟩
  case round =>
    obtain ⟨k, z, hk, hk6, rfl, rfl, hz0, hz1, hpk, hb⟩ := hrel
    have HB := Lib.hid hb
    have HPK := Lib.hid hpk
    clear hb hpk
    have p0 : (0 : Int) ≤ (k : Int) := by omega
    by_cases hlt : k < n
    · by_cases h60 : k < 100
      · have hkl : k < l.length := by rw [HN.out]; exact hlt
        obtain ⟨A', c', hv, _, _, hat⟩ := HL.out
        injection hv with e1 e2 e3
        subst e1
        clear e2 e3
        obtain ⟨ad, dv, pv, rfl, hGa, hal, hoc⟩ := hat k l[k] (List.getElem?_eq_getElem hkl)
        clear hat
        have HOC := Lib.hid hoc
        have HGA := Lib.hid hGa
        have HAL := Lib.hid hal
        have HX := Lib.hid (show l.take (k + 1) = l.take k ++ [l[k]] from List.take_succ_eq_append_getElem hkl)
        generalize l[k] = o at *
        clear hkl hoc hGa hal
        have HSC : Hid (∀ W, Below w.heap.size w W → OpCells G W (ad.add (k * 8)) o dv pv) := fun W hW => HOC.out.only (Only.of_below (M := fun _ => False) hW) (fun _ _ => id) (by rw [addr_block]; exact HGA.out) (by rw [addr_block]; exact HAL.out)
        have hc0 := HSC.out wr HB.out
        have x4 := hc0.path
        have x5 := hc0.dest
        have x6 := hc0.dcell
        have x7 := hc0.pcell
        clear hc0
        have p1 : (k : Int) < (n : Int) := by omega
        have p2 : (k : Int) < 100 := by omega
        have hs4 : (str o.path).size = o.path.length := str_size _
        have hs5 : (str o.dest).size = o.dest.length := str_size _
        go_wp2_with fail
        refine (fewev_any G pv o.plan wr (HSC.out wr HB.out).plan.tmp).mono ?_
        rintro e w1 ⟨t, rfl, ht, hb1⟩
        have HB1 := Lib.hid (HB.out.trans (hb1.mono HB.out.size))
        have HT := Lib.hid ht
        clear hb1 ht x4 x5 x6 x7
        have hc1 := HSC.out w1 HB1.out
        have y4 := hc1.path
        have y5 := hc1.dest
        obtain ⟨dA, dc, hdv, _, _⟩ := hc1.data.slice
        subst hdv
        have y6 := hc1.dcell
        clear hc1
        obtain ⟨dl, hdl⟩ : ∃ dl, o.data.length = dl := ⟨_, rfl⟩
        rw [hdl] at y6
        clear hdl
        have hm0 : (0 : Int) ≤ min (dl : Int) 40000 ∧ min (dl : Int) 40000 ≤ 40000 := by omega
        have w1' : IntKind.i64.wrap (z + min (dl : Int) 40000) = z + min (dl : Int) 40000 := IntWalk.i64_in _ (by omega)
        cases t
        · go_wp2_with fail
          go_ret
          exact ⟨_, rfl, fun h => by simp at h, HB1.out⟩
        · by_cases hl4 : (400 : Int) < (o.path.length : Int)
          · go_wp2_with fail
            go_ret
            exact ⟨_, rfl, fun h => by simp at h, HB1.out⟩
          · by_cases hl5 : (400 : Int) < (o.dest.length : Int)
            · go_wp2_with fail
              go_ret
              exact ⟨_, rfl, fun h => by simp at h, HB1.out⟩
            · have HOF : Hid (OpFew o) := ⟨by omega, by omega, (HT.out rfl).1, (HT.out rfl).2⟩
              go_wp2_with fail
              go_roundw
              case rel => exact ⟨k + 1, min (z + min (dl : Int) 40000) 160000, by omega, by omega, by go_num, by go_num, by omega, by omega, fun x hx => by
                rw [HX.out] at hx
                rcases List.mem_append.1 hx with h9 | h9
                · exact HPK.out x h9
                · rw [List.mem_singleton.1 h9]; exact HOF.out, HB1.out⟩
              case measure => simp [intOf]; omega
      · obtain rfl : k = 100 := by omega
        have e61 : decide ((n : Int) ≤ 100) = false := by simp; omega
        go_wp2_with fail
        go_ret
        exact ⟨_, rfl, fun h => by simp at h, HB.out⟩
    · obtain rfl : k = n := by omega
      have HF : Hid (k ≤ 100 ∧ ∀ o ∈ l, OpFew o) := ⟨hk6, fun e he => HPK.out e (by rw [List.take_of_length_le (by rw [HN.out]; exact Nat.le_refl _)]; exact he)⟩
      go_wp2_with fail
      all_goals
        go_ret
        exact ⟨_, rfl, fun _ => HF.out, HB.out⟩
end Go.Proofs.YtalnfiegkkkkgaaGreat.Tx
/- Package refs, as plain data: whatever goes wrong within Set. (No Go in it.) -/
set_option linter.unusedVariables false
set_option linter.unusedSimpArgs false
namespace Go.Proofs.YtalnfiegkkkkgaaGreat.Tx
open Go.RowKit Go.Proofs.YtalnfiegkkkkgaaGreat.Sh

/-- "head", "other". -/
def hdN : List UInt8 := [104, 101, 97, 100]
def otN : List UInt8 := [111, 116, 104, 101, 114]
theorem hd_name : nameB hdN = true := by decide
theorem ot_name : nameB otN = true := by decide
theorem hd_ot : refP hdN ≠ refP otN := by decide
/-- The rows that may stand. -/
structure Good (a b o : List UInt8) (R : List RowM) : Prop where
  ord : Ord R
  rows : ∀ r ∈ R, (r.path = refP otN ∧ r.f.data = o ++ [10]) ∨ (r.path = refP hdN ∧ ((a ≠ [] ∧ r.f.data = a ++ [10]) ∨ r.f.data = b ++ [10])) ∨ (r.path = lockP hdN ∧ r.f.data.length ≤ 65)
  other : peekB R (refP otN) = true
  head : a ≠ [] → peekB R (refP hdN) = true
/-- The changes that Set makes. -/
def ChG (b : List UInt8) (q : ChM) : Prop := (q.gone = [] ∧ q.path = lockP hdN ∧ q.f.data.length ≤ 65) ∨ (q.gone = lockP hdN ∧ q.path = []) ∨ (q.gone = lockP hdN ∧ q.path = refP hdN ∧ q.f.data = b ++ [10])
section
variable {a b o : List UInt8} {R : List RowM}
theorem Good.put (h : Good a b o R) (f : FileM) (hf : f.data.length ≤ 65) : Good a b o (withM R (lockP hdN) f) := by
  refine ⟨with_ord h.ord _ _, fun r hr => ?_, by rw [peek_with, h.other]; simp, fun ha => by rw [peek_with, h.head ha]; simp⟩
  rcases mem_with.1 hr with rfl | ⟨hr, _⟩
  · exact .inr (.inr ⟨rfl, hf⟩)
  · exact h.rows r hr
theorem Good.drop (h : Good a b o R) : Good a b o (withoutM R (lockP hdN)) :=
  ⟨without_ord h.ord _, fun r hr => h.rows r (mem_without.1 hr).1, by rw [peek_without, h.other]; decide, fun ha => by rw [peek_without, h.head ha]; decide⟩
theorem Good.set (h : Good a b o R) (f : FileM) (hf : f.data = b ++ [10]) : Good a b o (withM R (refP hdN) f) := by
  refine ⟨with_ord h.ord _ _, fun r hr => ?_, by rw [peek_with, h.other]; simp, fun ha => by rw [peek_with]; simp⟩
  rcases mem_with.1 hr with rfl | ⟨hr, _⟩
  · exact .inr (.inl ⟨rfl, .inr hf⟩)
  · exact h.rows r hr
theorem Good.apply (h : Good a b o R) {q : ChM} (hq : ChG b q) : Good a b o (applyC R q) := by
  obtain ⟨g, p, f⟩ := q
  rcases hq with ⟨h1, h2, h3⟩ | ⟨h1, h2⟩ | ⟨h1, h2, h3⟩
  · dsimp only at h1 h2 h3
    subst h1 h2
    rw [apply_put _ _ _ (lockP_ne _)]
    exact h.put f h3
  · dsimp only at h1 h2
    subst h1 h2
    rw [apply_drop _ _ _ (lockP_ne _)]
    exact h.drop
  · dsimp only at h1 h2 h3
    subst h1 h2
    rw [apply_move _ _ _ _ (lockP_ne _) (refP_ne _)]
    exact h.drop.set f h3
theorem Good.fold : ∀ {l : List ChM} {R : List RowM}, Good a b o R → (∀ q ∈ l, ChG b q) → Good a b o (l.foldl applyC R)
  | [], _, h, _ => h
  | q :: l, R, h, hl => by
    rw [List.foldl_cons]
    exact Good.fold (h.apply (hl q List.mem_cons_self)) (fun q hq => hl q (List.mem_cons_of_mem _ hq))
end
theorem crr_here {c : CSt} (hd : c.down = false) (keep torn : Int) : (crC c keep torn).here = (leftC c keep torn).foldl applyC c.durable := by
  unfold crC
  rw [if_neg (by rw [hd]; decide)]
  rfl
theorem crr_sure {c : CSt} (hd : c.down = false) (hp : c.pending = []) (keep torn : Int) : (crC c keep torn).here = c.durable := by
  rw [crr_here hd]
  unfold leftC
  rw [hp]
  simp
structure JInv (a b o : List UInt8) (c : CSt) : Prop where
  good : Good a b o c.durable
  pend : ∀ q ∈ c.pending, ChG b q
  here : c.here = c.pending.foldl applyC c.durable
  lock : c.down = false → peekB c.here (lockP hdN) = true → (peekF c.here (lockP hdN)).data = b ++ [10]
  plan : ∀ e ∈ c.plan, e.kind ≠ 4 ∧ e.kind ≠ 5
section
variable {a b o : List UInt8} {c : CSt}
theorem JInv.now (h : JInv a b o c) : Good a b o c.here := by rw [h.here]; exact h.good.fold h.pend
theorem JInv.same (h : JInv a b o c) {c' : CSt} (h1 : c'.durable = c.durable) (h2 : c'.pending = c.pending) (h3 : c'.here = c.here) (h4 : c'.down = false → c.down = false) (h5 : ∀ e ∈ c'.plan, e ∈ c.plan) : JInv a b o c' :=
  ⟨by rw [h1]; exact h.good, by rw [h2]; exact h.pend, by rw [h3, h1, h2]; exact h.here, by rw [h3]; exact fun hd => h.lock (h4 hd), fun e he => h.plan e (h5 e he)⟩
theorem left_chg {b : List UInt8} {c : CSt} (h : ∀ q ∈ c.pending, ChG b q) (keep torn : Int) : ∀ q ∈ leftC c keep torn, ChG b q := by
  intro q hq
  unfold leftC at hq
  rcases List.mem_append.1 hq with hm | hm
  · exact h q (List.mem_of_mem_take hm)
  · cases hx : c.pending[keepC c keep]? with
    | none => rw [hx] at hm; cases hm
    | some x =>
      rw [hx] at hm
      have hm' : q ∈ (if tearsB x torn = true then [partC x torn] else []) := hm
      split at hm'
      · rename_i ht
        rw [List.mem_singleton.1 hm']
        have hg : x.gone = [] := by
          unfold tearsB at ht
          simp only [Bool.and_eq_true, decide_eq_true_eq] at ht
          exact ht.1
        rcases h x (List.mem_of_getElem? hx) with ⟨h1, h2, h3⟩ | ⟨h1, _⟩ | ⟨h1, _, _⟩
        · refine .inl ⟨h1, h2, ?_⟩
          show (x.f.data.take torn.toNat).length ≤ 65
          rw [List.length_take]
          omega
        · rw [hg] at h1; exact absurd h1.symm (lockP_ne _)
        · rw [hg] at h1; exact absurd h1.symm (lockP_ne _)
      · cases hm'
theorem JInv.cr (h : JInv a b o c) (keep torn : Int) : JInv a b o (crC c keep torn) := by
  by_cases hd : c.down = true
  · have : crC c keep torn = c := by unfold crC; rw [if_pos hd]
    rw [this]
    exact h
  · have hd' : c.down = false := by simpa using hd
    have hg : Good a b o ((leftC c keep torn).foldl applyC c.durable) := h.good.fold (left_chg h.pend keep torn)
    have h1 := crr_here hd' keep torn
    have h2 : (crC c keep torn).durable = (leftC c keep torn).foldl applyC c.durable ∧ (crC c keep torn).pending = [] ∧ (crC c keep torn).down = true ∧ (crC c keep torn).plan = c.plan := by
      unfold crC
      rw [if_neg hd]
      exact ⟨rfl, rfl, rfl, rfl⟩
    exact ⟨by rw [h2.1]; exact hg, by rw [h2.2.1]; exact fun q hq => (by cases hq), by rw [h1, h2.1, h2.2.1]; rfl, (fun hx => by rw [h2.2.2.1] at hx; cases hx), by rw [h2.2.2.2]; exact h.plan⟩
theorem JInv.ev {s : BgC} (h : JInv a b o s.c) {e : EvM} (he : e.kind ≠ 4 ∧ e.kind ≠ 5) : JInv a b o (evC s e).c := by
  have h0 : JInv a b o { s.c with plan := s.c.plan.tail } := h.same rfl rfl rfl id (fun e he => List.mem_of_mem_tail he)
  unfold evC
  split
  · exact h0.cr _ _
  · split
    · exact h0
    · split
      · exact h0
      · rw [if_neg he.1, if_neg he.2]
        exact h0
theorem JInv.bgk (h : JInv a b o c) : ∀ k, JInv a b o (bgK c k).c
  | 0 => h.same rfl rfl rfl id (fun e he => he)
  | k + 1 => by
    cases hq : c.plan[k]? with
    | none => rw [bgK_more hq]; exact h.bgk k
    | some e => rw [bgK_next hq]; exact (h.bgk k).ev (h.plan e (List.mem_of_getElem? hq))
theorem JInv.bg (h : JInv a b o c) : JInv a b o (bgC c).c := h.bgk _
theorem JInv.do_ (h : JInv a b o c) {q : ChM} (hq : ChG b q) (hl : peekB (applyC c.here q) (lockP hdN) = true → (peekF (applyC c.here q) (lockP hdN)).data = b ++ [10]) : JInv a b o (doC c q) := by
  refine ⟨h.good, fun x hx => ?_, ?_, fun _ => hl, h.plan⟩
  · rcases List.mem_append.1 hx with hx | hx
    · exact h.pend x hx
    · rw [List.mem_singleton.1 hx]; exact hq
  · show applyC c.here q = (c.pending ++ [q]).foldl applyC c.durable
    rw [List.foldl_append, ← h.here]
    rfl
theorem JInv.settle (h : JInv a b o c) : JInv a b o (settleC c) :=
  ⟨h.good.fold h.pend, fun q hq => (by cases hq), h.here, h.lock, h.plan⟩
theorem JInv.wr (h : JInv a b o c) (hb : validB b = true) (room : Int) : JInv a b o (wrC c (lockP hdN) 1 (b ++ [10]) room true) := by
  unfold wrC
  split
  · refine h.do_ (.inl ⟨rfl, rfl, by simp [valid_len hb]⟩) (fun _ => ?_)
    rw [apply_put _ _ _ (lockP_ne _), peekf_with h.now.ord]
  · exact h
theorem JInv.rm (h : JInv a b o c) : JInv a b o (rmC c (lockP hdN)) := by
  unfold rmC
  split
  · refine h.do_ (.inr (.inl ⟨rfl, rfl⟩)) (fun hs => ?_)
    rw [apply_drop _ _ _ (lockP_ne _), peek_without] at hs
    simp at hs
  · exact h
theorem JInv.mv (h : JInv a b o c) (hd : c.down = false) : JInv a b o (mvC c (lockP hdN) (refP hdN) false) := by
  unfold mvC
  split
  · rename_i hx
    have hl := h.lock hd (mvE_ok hx.1).2.2.1
    refine h.do_ (.inr (.inr ⟨rfl, rfl, hl⟩)) (fun hs => ?_)
    rw [apply_move _ _ _ _ (lockP_ne _) (refP_ne _), peek_with, peek_without] at hs
    have : lockP hdN ≠ refP hdN := by decide
    simp [this] at hs
  · exact h
theorem JInv.crt (h : JInv a b o c) (hb : validB b = true) : JInv a b o (crtC c (lockP hdN) 1 (b ++ [10]) true) := by
  unfold crtC
  split
  · exact h.bg.wr hb _
  · exact h.bg
theorem bg_up {c : CSt} (h : bgE c = 0) : (bgC c).c.down = false := by
  unfold bgE at h
  cases hd : (bgC c).c.down with
  | false => rfl
  | true => rw [if_pos hd] at h; cases h
theorem JInv.mov (h : JInv a b o c) : JInv a b o (movC c (lockP hdN) (refP hdN) false) := by
  unfold movC
  split
  · rename_i hx
    exact h.bg.mv (bg_up hx)
  · exact h.bg
theorem JInv.rem (h : JInv a b o c) : JInv a b o (remC c (lockP hdN)) := by
  unfold remC
  split
  · exact h.bg.rm
  · exact h.bg
theorem JInv.syn (h : JInv a b o c) : JInv a b o (synC c) := by
  unfold synC
  split
  · exact h.bg.settle
  · exact h.bg
theorem JInv.prep (h : JInv a b o c) (n old : List UInt8) : JInv a b o (prepC c n old) := by
  unfold prepC
  split
  · exact h.bg.syn
  · exact h.bg
theorem JInv.sl (h : JInv a b o c) (old : List UInt8) : JInv a b o (slC c hdN old) := by
  unfold slC
  split
  · split
    · exact (h.prep hdN old).mov.syn
    · exact (h.prep hdN old).mov
  · exact (h.prep hdN old).rem
theorem JInv.set_ (h : JInv a b o c) (hb : validB b = true) (old : List UInt8) : JInv a b o (setC c hdN old b) := by
  unfold setC
  split
  · exact h
  · split
    · exact h
    · split
      · exact (h.crt hb).sl old
      · exact h.crt hb
/-- What begins a call and does not fail leaves the files. -/
theorem bg_files {c : CSt} (hp : ∀ e ∈ c.plan, e.kind ≠ 4 ∧ e.kind ≠ 5) : ∀ k, (bgK c k).c.down = false → (bgK c k).c.here = c.here ∧ (bgK c k).c.durable = c.durable ∧ (bgK c k).c.pending = c.pending
  | 0, _ => ⟨rfl, rfl, rfl⟩
  | k + 1, hd => by
    cases hq : c.plan[k]? with
    | none => rw [bgK_more hq] at hd ⊢; exact bg_files hp k hd
    | some e =>
      rw [bgK_next hq] at hd ⊢
      have he := hp e (List.mem_of_getElem? hq)
      have ih := bg_files hp k
      generalize bgK c k = s at *
      unfold evC at hd ⊢
      split at hd
      · exfalso
        rename_i h1
        dsimp only at hd
        unfold crC at hd
        split at hd
        · rename_i h2
          rw [h2] at hd; cases hd
        · cases hd
      · rename_i h1
        rw [if_neg h1]
        split at hd
        · rename_i h2; rw [if_pos h2]; exact ih hd
        · rename_i h2
          rw [if_neg h2]
          split at hd
          · rename_i h3; rw [if_pos h3]; exact ih hd
          · rename_i h3
            rw [if_neg h3, if_neg he.1, if_neg he.2]
            rw [if_neg he.1, if_neg he.2] at hd
            exact ih hd
/-- A Set that says OK. -/
theorem JInv.said (h : JInv a b o c) (hb : validB b = true) {old : List UInt8} (he : setE c hdN old b = 0) :
    (setC c hdN old b).down = false ∧ (setC c hdN old b).pending = [] ∧ (setC c hdN old b).durable = (setC c hdN old b).here ∧ peekB (setC c hdN old b).here (refP hdN) = true ∧ (peekF (setC c hdN old b).here (refP hdN)).data = b ++ [10] := by
  have hJ := h.set_ hb old
  unfold setE at he
  unfold setC at hJ ⊢
  rw [if_neg (by decide)] at he hJ ⊢
  split at he
  · cases he
  · rename_i h1
    rw [if_neg h1] at hJ ⊢
    split at he
    · rename_i h2
      rw [if_pos h2] at hJ ⊢
      have h3 := h.crt hb
      generalize crtC c (lockP hdN) 1 (b ++ [10]) true = c1 at *
      unfold slE at he
      unfold slC at hJ ⊢
      split at he
      · rename_i h4
        rw [if_pos h4] at hJ ⊢
        have h5 := h3.prep hdN old
        generalize prepC c1 hdN old = c2 at *
        split at he
        · rename_i h6
          rw [if_pos h6] at hJ ⊢
          have h7 := h5.mov
          have h8 : peekB (movC c2 (lockP hdN) (refP hdN) false).here (refP hdN) = true ∧ (peekF (movC c2 (lockP hdN) (refP hdN) false).here (refP hdN)).data = b ++ [10] := by
            unfold movE at h6
            split at h6
            · rename_i g1
              have g2 := bg_up g1
              have g3 := h5.bg
              unfold movC
              rw [if_pos g1]
              generalize (bgC c2).c = s at *
              unfold mvC
              rw [if_pos ⟨h6, by decide⟩]
              show peekB (applyC s.here ⟨lockP hdN, refP hdN, peekF s.here (lockP hdN)⟩) (refP hdN) = true ∧ (peekF (applyC s.here ⟨lockP hdN, refP hdN, peekF s.here (lockP hdN)⟩) (refP hdN)).data = b ++ [10]
              rw [apply_move _ _ _ _ (lockP_ne _) (refP_ne _), peekf_with (without_ord g3.now.ord _), peek_with]
              exact ⟨by simp, g3.lock g2 (mvE_ok h6).2.2.1⟩
            · rename_i g1
              exact absurd h6 g1
          generalize movC c2 (lockP hdN) (refP hdN) false = c3 at *
          have g4 := bg_up he
          obtain ⟨g5, _, _⟩ := bg_files h7.plan (bgN c3) g4
          unfold synC at hJ ⊢
          rw [if_pos he] at hJ ⊢
          have g6 : (settleC (bgC c3).c).here = c3.here := g5
          refine ⟨g4, rfl, ?_, by rw [g6]; exact h8.1, by rw [g6]; exact h8.2⟩
          have := hJ.here
          exact this.symm
        · rename_i h6
          exact absurd he h6
      · rename_i h4
        exact absurd he h4
    · rename_i h2
      split at he
      · cases he
      · exact absurd he h2
end
/-- The ref is just this. -/
def isB (R : List RowM) (n id : List UInt8) : Bool := if id = [] then !peekB R (refP n) else peekB R (refP n) && decide ((peekF R (refP n)).data = id ++ [10])
theorem Good.either {a b o : List UInt8} {R : List RowM} (h : Good a b o R) (hb : b ≠ []) : isB R hdN a = true ∨ isB R hdN b = true := by
  unfold isB
  rw [if_neg hb]
  cases hs : peekB R (refP hdN) with
  | false =>
    by_cases ha : a = []
    · rw [if_pos ha]; exact .inl rfl
    · rw [h.head ha] at hs; cases hs
  | true =>
    rcases h.rows _ (peek_at hs) with ⟨h1, _⟩ | ⟨_, ⟨h1, h2⟩ | h2⟩ | ⟨h1, _⟩
    · exact absurd h1 hd_ot
    · rw [if_neg h1]; left; simpa using h2
    · right; simpa using h2
    · exact absurd h1 (ref_lock _ _)
theorem Good.rest {a b o : List UInt8} {R : List RowM} (h : Good a b o R) (ho : o ≠ []) : isB R otN o = true := by
  unfold isB
  rw [if_neg ho, h.other]
  rcases h.rows _ (peek_at h.other) with ⟨_, h2⟩ | ⟨h1, _⟩ | ⟨h1, _⟩
  · simpa using h2
  · exact absurd h1.symm hd_ot
  · exact absurd h1 (ref_lock _ _)
theorem is_of {R : List RowM} {n id : List UInt8} (hid : id ≠ []) (h1 : peekB R (refP n) = true) (h2 : (peekF R (refP n)).data = id ++ [10]) : isB R n id = true := by
  unfold isB
  rw [if_neg hid, h1]
  simpa using h2
theorem JInv.crashed {a b o : List UInt8} {c : CSt} (h : JInv a b o c) {n : List UInt8} (hd : c.down = false) (hp : c.pending = []) (hs : c.durable = c.here) (keep torn : Int) : (crC c keep torn).here = c.here := by
  rw [crr_sure hd hp, hs]
theorem Good.few {a b o : List UInt8} {R : List RowM} (h : Good a b o R) (ha : a.length ≤ 64) (hb : b.length ≤ 64) (ho : o.length ≤ 64) : usedM R ≤ 400 := by
  have h1 : R.length ≤ 3 := by
    have := nodup_within (ord_nodup h.ord) (m := [refP otN, refP hdN, lockP hdN]) (fun x hx => by
      obtain ⟨r, hr, rfl⟩ := List.mem_map.1 hx
      rcases h.rows r hr with ⟨e, _⟩ | ⟨e, _⟩ | ⟨e, _⟩ <;> rw [e] <;> simp)
    simpa using this
  have h2 : ∀ r ∈ R, r.f.data.length ≤ 65 := fun r hr => by
    rcases h.rows r hr with ⟨_, e⟩ | ⟨_, ⟨_, e⟩ | e⟩ | ⟨_, e⟩
    · rw [e]; simp; omega
    · rw [e]; simp; omega
    · rw [e]; simp; omega
    · exact e
  unfold usedM
  have h3 : ∀ (l : List RowM), (∀ r ∈ l, r.f.data.length ≤ 65) → (l.map fun r => r.f.data.length).sum ≤ 65 * l.length := by
    intro l
    induction l with
    | nil => intro _; simp
    | cons x l ih =>
      intro hl
      have e1 := ih (fun r hr => hl r (List.mem_cons_of_mem _ hr))
      have e2 := hl x List.mem_cons_self
      simp only [List.map_cons, List.sum_cons, List.length_cons]
      omega
  have := h3 R h2
  omega
end Go.Proofs.YtalnfiegkkkkgaaGreat.Tx
