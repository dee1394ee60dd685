/- Texts put together: Ge2, Ge3. -/
import Derived.Test.YtfmlnodhbojdpaaGreatQc50
import Derived.IntWalk
/- marlaw5.FewEvents, flag. -/
namespace Go.Proofs.YtfmlnodhbojdpaaGreat.Tx
open Go.RowKit Go.Maps Go.Proofs.YtfmlnodhbojdpaaGreat.Sh

set_option maxRecDepth 100000 in
set_option maxHeartbeats 400000 in
theorem flag_any (t : Bool) (w : World) : Calls Tryz.prog 44 #[.bool t] w fun e w' => e = .returned (.int .i64 (if t = true then 1 else 0)) ∧ w = w' := by
  cases t
  all_goals
    go_enter Tryz.func44, Tryz.ntmps44
    go_wp2_with fail
    go_ret
    exact ⟨rfl, rfl⟩

set_option maxRecDepth 100000 in
set_option maxHeartbeats 1600000 in
theorem fewev_any (F : Nat → Prop) (v : Value) (l : List EvM) (w : World) (h : EvsF F w v l) : Calls Tryz.prog 50 #[v] w fun e w' => ∃ t, e = .returned (.bool t) ∧ (t = true → l.length ≤ 60 ∧ ∀ e ∈ l, e.path.length ≤ 400) ∧ Below w.heap.size w w' := by
  obtain ⟨A, c, rfl, hlc, hcm⟩ := evs_slice h
  obtain ⟨n, hn⟩ : ∃ n, l.length = n := ⟨_, rfl⟩
  have HL := Lib.hid h
  have HN := Lib.hid hn
  rw [hn] at hlc HL ⊢
  unfold maxLen at hcm
  clear h hn
  go_enter Tryz.func50, Tryz.ntmps50
  go_wp2
  go_loopw [3, 4] (fun s i wr => ∃ (k : Nat) (z : Int), k ≤ n ∧ k ≤ 60 ∧ i = .int .i64 k ∧ s = .int .i64 z ∧ 0 ≤ z ∧ z ≤ 160000 ∧ (∀ e ∈ l.take k, e.path.length ≤ 400) ∧ Below w.heap.size w wr) (fun _ i _ => n - (intOf i).toNat)
  case atStart => exact ⟨0, 0, Nat.zero_le _, Nat.zero_le _, rfl, rfl, by omega, by omega, fun e he => by simp at he, Below.refl _ _⟩
  case round =>
    obtain ⟨k, z, hk, hk6, rfl, rfl, hz0, hz1, hpk, hb⟩ := hrel
    have HB := Lib.hid hb
    have HPK := Lib.hid hpk
    clear hb hpk
    have p0 : (0 : Int) ≤ (k : Int) := by omega
    by_cases hlt : k < n
    · by_cases h60 : k < 60
      · have hkl : k < l.length := by rw [HN.out]; exact hlt
        obtain ⟨ad, dA, dc, rfl, _, _, _, _, _, _, x5, x6⟩ := ev_cells (TmpL.below HL.out HB.out) k l[k] (List.getElem?_eq_getElem hkl)
        have HX := Lib.hid (show l.take (k + 1) = l.take k ++ [l[k]] from List.take_succ_eq_append_getElem hkl)
        obtain ⟨pl, hpl⟩ : ∃ pl, l[k].path.length = pl := ⟨_, rfl⟩
        have hsp : (str l[k].path).toList.length = pl := by rw [str_toList]; exact hpl
        have HPL := Lib.hid hpl
        obtain ⟨dl, hdl⟩ : ∃ dl, l[k].data.length = dl := ⟨_, rfl⟩
        rw [hdl] at x6
        generalize l[k] = e at *
        clear hkl hdl hpl
        have p1 : (k : Int) < (n : Int) := by omega
        have p2 : (k : Int) < 60 := by omega
        have hm0 : (0 : Int) ≤ min (dl : Int) 40000 ∧ min (dl : Int) 40000 ≤ 40000 := by omega
        have hm1 : (0 : Int) ≤ min (pl : Int) 1000 ∧ min (pl : Int) 1000 ≤ 1000 := by omega
        have w1 : IntKind.i64.wrap (z + min (dl : Int) 40000) = z + min (dl : Int) 40000 := IntWalk.i64_in _ (by omega)
        have w2 : IntKind.i64.wrap (z + min (dl : Int) 40000 + min (pl : Int) 1000) = z + min (dl : Int) 40000 + min (pl : Int) 1000 := IntWalk.i64_in _ (by omega)
        have hsz : (str e.path).size = pl := by rw [str_size]; exact HPL.out
        rw [show str e.path = ⟨(str e.path).data⟩ from rfl] at x5 hsz hsp
        generalize (⟨(str e.path).data⟩ : ByteArray) = sp at *
        by_cases hl4 : (400 : Int) < (pl : Int)
        · go_wp2_with fail
          go_quiet (fail)
          go_wp2_with fail
          go_ret
          exact ⟨_, rfl, fun h => by simp at h, below_drewN HB.out _⟩
        · go_wp2_with fail
          go_quiet (fail)
          go_wp2_with fail
          go_roundw
          case rel => exact ⟨k + 1, min (z + min (dl : Int) 40000 + min (pl : Int) 1000) 160000, by omega, by omega, by go_num, by go_num, by omega, by omega, fun x hx => by
            rw [HX.out] at hx
            rcases List.mem_append.1 hx with h9 | h9
            · exact HPK.out x h9
            · rw [List.mem_singleton.1 h9, HPL.out]; omega, below_drewN HB.out _⟩
          case measure => simp [intOf]; omega
      · obtain rfl : k = 60 := by omega
        have e60 : ¬ (n ≤ 60) := by omega
        have e61 : decide ((n : Int) ≤ 60) = false := by simp; omega
        go_wp2_with fail
        go_ret
        exact ⟨_, rfl, fun h => by simp at h, HB.out⟩
    · obtain rfl : k = n := by omega
      have HF : Hid (k ≤ 60 ∧ ∀ e ∈ l, e.path.length ≤ 400) := ⟨hk6, fun e he => HPK.out e (by rw [List.take_of_length_le (by rw [HN.out]; exact Nat.le_refl _)]; exact he)⟩
      go_wp2_with fail
      all_goals
        go_ret
        exact ⟨_, rfl, fun _ => HF.out, HB.out⟩
end Go.Proofs.YtfmlnodhbojdpaaGreat.Tx
/- The laws' operations in memory; marlaw5.Few. -/
namespace Go.Proofs.YtfmlnodhbojdpaaGreat.Tx
open Go.RowKit Go.Maps Go.Proofs.YtfmlnodhbojdpaaGreat.Sh

/-- An operation's cells, from a on. -/
structure OpCells (G : Nat → Prop) (w : World) (a : Addr) (o : LOp) (dv pv : Value) : Prop where
  data : By G w dv o.data
  plan : InL evK G w pv o.plan
  kind : w.cell? a = some (.int .i64 o.kind)
  mode : w.cell? ⟨a.block, a.off + 1, none⟩ = some (.int .i64 o.mode)
  keep : w.cell? ⟨a.block, a.off + 2, none⟩ = some (.int .i64 o.keep)
  torn : w.cell? ⟨a.block, a.off + 3, none⟩ = some (.int .i64 o.torn)
  path : w.cell? ⟨a.block, a.off + 4, none⟩ = some (.string (str o.path))
  dest : w.cell? ⟨a.block, a.off + 5, none⟩ = some (.string (str o.dest))
  dcell : w.cell? ⟨a.block, a.off + 6, none⟩ = some dv
  pcell : w.cell? ⟨a.block, a.off + 7, none⟩ = some pv
def OpsF (G : Nat → Prop) (w : World) (v : Value) (l : List LOp) : Prop := ∃ A c, v = .slice A l.length c ∧ l.length ≤ c ∧ c ≤ maxLen ∧ ∀ k o, l[k]? = some o → ∃ ad dv pv, A = some ad ∧ G ad.block ∧ ad.block < w.heap.size ∧ OpCells G w (ad.add (k * 8)) o dv pv
theorem OpCells.only {G M : Nat → Prop} {w w' : World} {a : Addr} {o : LOp} {dv pv : Value} (h : OpCells G w a o dv pv) (ho : Only M w w') (hG : ∀ k, G k → ¬ M k) (ha : G a.block) (hl : a.block < w.heap.size) : OpCells G w' a o dv pv := by
  have hn := hG _ ha
  exact ⟨h.data.only ho hG, h.plan.only ho hG, (ho.cell hl hn).trans h.kind, (ho.cell (p := ⟨a.block, a.off + 1, none⟩) hl hn).trans h.mode, (ho.cell (p := ⟨a.block, a.off + 2, none⟩) hl hn).trans h.keep, (ho.cell (p := ⟨a.block, a.off + 3, none⟩) hl hn).trans h.torn, (ho.cell (p := ⟨a.block, a.off + 4, none⟩) hl hn).trans h.path, (ho.cell (p := ⟨a.block, a.off + 5, none⟩) hl hn).trans h.dest, (ho.cell (p := ⟨a.block, a.off + 6, none⟩) hl hn).trans h.dcell, (ho.cell (p := ⟨a.block, a.off + 7, none⟩) hl hn).trans h.pcell⟩
theorem addr_block (a : Addr) (n : Nat) : (a.add n).block = a.block := by unfold Addr.add; split <;> rfl
theorem OpsF.only {G M : Nat → Prop} {w w' : World} {v : Value} {l : List LOp} (h : OpsF G w v l) (ho : Only M w w') (hG : ∀ k, G k → ¬ M k) : OpsF G w' v l := by
  obtain ⟨A, c, h1, h2, h3, h4⟩ := h
  refine ⟨A, c, h1, h2, h3, fun k o hk => ?_⟩
  obtain ⟨ad, dv, pv, e, g1, g2, g3⟩ := h4 k o hk
  exact ⟨ad, dv, pv, e, g1, Nat.lt_of_lt_of_le g2 ho.size, g3.only ho hG (by rw [addr_block]; exact g1) (by rw [addr_block]; exact g2)⟩
theorem OpsF.below {G : Nat → Prop} {w w' : World} {v : Value} {l : List LOp} (h : OpsF G w v l) (hb : Below w.heap.size w w') : OpsF G w' v l := h.only (Only.of_below (M := fun _ => False) hb) (fun _ _ => id)
/-- What Few says of an operation. -/
structure OpFew (o : LOp) : Prop where
  path : o.path.length ≤ 400
  dest : o.dest.length ≤ 400
  plan : o.plan.length ≤ 60
  paths : ∀ e ∈ o.plan, e.path.length ≤ 400

set_option maxRecDepth 100000 in
set_option maxHeartbeats 3200000 in
theorem few_any (G : Nat → Prop) (v : Value) (l : List LOp) (w : World) (h : OpsF G w v l) : Calls Tryz.prog 14 #[v] w fun e w' => ∃ t, e = .returned (.bool t) ∧ (t = true → l.length ≤ 100 ∧ ∀ o ∈ l, OpFew o) ∧ Below w.heap.size w w' := by
  have HL := Lib.hid h
  obtain ⟨A, c, rfl, hlc, hcm, _⟩ := h
  obtain ⟨n, hn⟩ : ∃ n, l.length = n := ⟨_, rfl⟩
  have HN := Lib.hid hn
  rw [hn] at hlc HL ⊢
  unfold maxLen at hcm
  clear hn
  go_enter Tryz.func14, Tryz.ntmps14
  go_wp2
  go_loopw [3, 4] (fun s i wr => ∃ (k : Nat) (z : Int), k ≤ n ∧ k ≤ 100 ∧ i = .int .i64 k ∧ s = .int .i64 z ∧ 0 ≤ z ∧ z ≤ 160000 ∧ (∀ o ∈ l.take k, OpFew o) ∧ Below w.heap.size w wr) (fun _ i _ => n - (intOf i).toNat)
  case atStart => exact ⟨0, 0, Nat.zero_le _, Nat.zero_le _, rfl, rfl, by omega, by omega, fun e he => by simp at he, Below.refl _ _⟩
  case round =>
    obtain ⟨k, z, hk, hk6, rfl, rfl, hz0, hz1, hpk, hb⟩ := hrel
    have HB := Lib.hid hb
    have HPK := Lib.hid hpk
    clear hb hpk
    have p0 : (0 : Int) ≤ (k : Int) := by omega
    by_cases hlt : k < n
    · by_cases h60 : k < 100
      · have hkl : k < l.length := by rw [HN.out]; exact hlt
        obtain ⟨A', c', hv, _, _, hat⟩ := HL.out
        injection hv with e1 e2 e3
        subst e1
        clear e2 e3
        obtain ⟨ad, dv, pv, rfl, hGa, hal, hoc⟩ := hat k l[k] (List.getElem?_eq_getElem hkl)
        clear hat
        have HOC := Lib.hid hoc
        have HGA := Lib.hid hGa
        have HAL := Lib.hid hal
        have HX := Lib.hid (show l.take (k + 1) = l.take k ++ [l[k]] from List.take_succ_eq_append_getElem hkl)
        generalize l[k] = o at *
        clear hkl hoc hGa hal
        have HSC : Hid (∀ W, Below w.heap.size w W → OpCells G W (ad.add (k * 8)) o dv pv) := fun W hW => HOC.out.only (Only.of_below (M := fun _ => False) hW) (fun _ _ => id) (by rw [addr_block]; exact HGA.out) (by rw [addr_block]; exact HAL.out)
        have hc0 := HSC.out wr HB.out
        have x4 := hc0.path
        have x5 := hc0.dest
        have x6 := hc0.dcell
        have x7 := hc0.pcell
        clear hc0
        have p1 : (k : Int) < (n : Int) := by omega
        have p2 : (k : Int) < 100 := by omega
        have hs4 : (str o.path).size = o.path.length := str_size _
        have hs5 : (str o.dest).size = o.dest.length := str_size _
        go_wp2_with fail
        refine (fewev_any G pv o.plan wr (HSC.out wr HB.out).plan.tmp).mono ?_
        rintro e w1 ⟨t, rfl, ht, hb1⟩
        have HB1 := Lib.hid (HB.out.trans (hb1.mono HB.out.size))
        have HT := Lib.hid ht
        clear hb1 ht x4 x5 x6 x7
        have hc1 := HSC.out w1 HB1.out
        have y4 := hc1.path
        have y5 := hc1.dest
        obtain ⟨dA, dc, hdv, _, _⟩ := hc1.data.slice
        subst hdv
        have y6 := hc1.dcell
        clear hc1
        obtain ⟨dl, hdl⟩ : ∃ dl, o.data.length = dl := ⟨_, rfl⟩
        rw [hdl] at y6
        clear hdl
        have hm0 : (0 : Int) ≤ min (dl : Int) 40000 ∧ min (dl : Int) 40000 ≤ 40000 := by omega
        have w1' : IntKind.i64.wrap (z + min (dl : Int) 40000) = z + min (dl : Int) 40000 := IntWalk.i64_in _ (by omega)
        cases t
        · go_wp2_with fail
          go_ret
          exact ⟨_, rfl, fun h => by simp at h, HB1.out⟩
        · by_cases hl4 : (400 : Int) < (o.path.length : Int)
          · go_wp2_with fail
            go_ret
            exact ⟨_, rfl, fun h => by simp at h, HB1.out⟩
          · by_cases hl5 : (400 : Int) < (o.dest.length : Int)
            · go_wp2_with fail
              go_ret
              exact ⟨_, rfl, fun h => by simp at h, HB1.out⟩
            · have HOF : Hid (OpFew o) := ⟨by omega, by omega, (HT.out rfl).1, (HT.out rfl).2⟩
              go_wp2_with fail
              go_roundw
              case rel => exact ⟨k + 1, min (z + min (dl : Int) 40000) 160000, by omega, by omega, by go_num, by go_num, by omega, by omega, fun x hx => by
                rw [HX.out] at hx
                rcases List.mem_append.1 hx with h9 | h9
                · exact HPK.out x h9
                · rw [List.mem_singleton.1 h9]; exact HOF.out, HB1.out⟩
              case measure => simp [intOf]; omega
      · obtain rfl : k = 100 := by omega
        have e61 : decide ((n : Int) ≤ 100) = false := by simp; omega
        go_wp2_with fail
        go_ret
        exact ⟨_, rfl, fun h => by simp at h, HB.out⟩
    · obtain rfl : k = n := by omega
      have HF : Hid (k ≤ 100 ∧ ∀ o ∈ l, OpFew o) := ⟨hk6, fun e he => HPK.out e (by rw [List.take_of_length_le (by rw [HN.out]; exact Nat.le_refl _)]; exact he)⟩
      go_wp2_with fail
      all_goals
        go_ret
        exact ⟨_, rfl, fun _ => HF.out, HB.out⟩
end Go.Proofs.YtfmlnodhbojdpaaGreat.Tx
