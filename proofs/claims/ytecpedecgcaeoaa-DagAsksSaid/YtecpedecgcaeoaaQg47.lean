/- Texts put together: GrA. -/
import Derived.Test.YtecpedecgcaeoaaQg46
/- DagAsks: the law's walk. -/
set_option linter.unusedVariables false
set_option linter.unusedSimpArgs false
namespace Go.Proofs.Ytecpedecgcaeoaa.Tx
open Go.RowKit Go.Maps Go.Proofs.Ytecpedecgcaeoaa.Sh

set_option maxRecDepth 100000 in
set_option maxHeartbeats 12800000 in
theorem dagAsks_walk (a0 : Option Addr) (len0 cap0 : Nat) (a1 : Option Addr) (len1 cap1 : Nat) (z1 : List ByteArray) (b : ByteArray) (w : World) (w0 : IsNodes w a0 len0 cap0) (w1 : IsTexts w a1 len1 cap1 z1) (w2 : b.size ≤ maxLen) :
    Calls Try.prog 3 #[.slice a0 len0 cap0, .slice a1 len1 cap1, .string b] w (Yes w) := by
  obtain ⟨xs, hln, hsn, hst⟩ := w0
  obtain ⟨ts, htl, hts, htz⟩ := w1.slv
  have HFEWN := Lib.hid (fun (W : World) (hW : Below w.heap.size w W) => gFew_any _ xs W (hln.below hW) hsn)
  have HFEWT := Lib.hid (fun (W : World) (hW : Below w.heap.size w W) => gfew_any _ ts W (hts.below hW) htz)
  have HAT := Lib.hid (fun (W : World) (hW : Below w.heap.size w W) k a hk => (hln.below hW).at_ k a hk)
  obtain ⟨A, c, hv, hlc, hcm⟩ := hln.slice
  injection hv with e1 e2 e3
  subst e1 e3
  unfold maxLen at hcm w2
  obtain ⟨l, hl⟩ : ∃ l, xs.length = l := ⟨_, rfl⟩
  rw [hl] at e2 hlc
  subst e2
  have HL := Lib.hid hl
  have HSTN := Lib.hid hst
  have HTS := Lib.hid hts
  have HTL := Lib.hid htl
  have sb0 : (0 : Int) ≤ (b.size : Int) := by omega
  have sb1 : (b.size : Int) ≤ 9223372036854775807 := by omega
  clear hln hsn hst hts w1 htz htl hl
  go_enter Try.func3, Try.ntmps3
  go_wp2_with fail
  refine (gfirst_any w).mono ?_
  rintro e v1 ⟨rfl, hb1⟩
  have HB1 := Lib.hid hb1
  clear hb1
  go_wp2_with fail
  refine (gnew_any v1).mono ?_
  rintro e v2 ⟨g, rfl, h1, hb2⟩
  have h0 : GO w v2 g [] := ⟨⟨_, h1, fun k hk => Nat.le_trans HB1.out.size hk.1⟩, HB1.out.trans (hb2.mono HB1.out.size)⟩
  have H0 := Lib.hid h0
  have HF := Lib.hid (HFEWN.out v2 h0.b)
  have HF2 := Lib.hid (HFEWT.out v2 h0.b)
  have HY := Lib.hid (first_back h0.b)
  clear h1 hb2 h0
  go_wp2_with fail
  refine (HF.out).mono ?_
  rintro e v3 ⟨t, rfl, ht, rfl⟩
  cases t with
  | false =>
    clear ht
    go_wp2_with fail
    refine (HY.out).mono ?_
    rintro e v3 ⟨rfl, hb3⟩
    have HB3 := Lib.hid hb3
    clear hb3
    go_wp2_with fail
    go_ret
    exact ⟨rfl, HB3.out⟩
  | true =>
  have HFN := Lib.hid (ht rfl)
  clear ht
  go_wp2_with fail
  refine (HF2.out).mono ?_
  rintro e v3 ⟨t, rfl, ht, rfl⟩
  cases t with
  | false =>
    clear ht
    go_wp2_with fail
    refine (HY.out).mono ?_
    rintro e v3 ⟨rfl, hb3⟩
    have HB3 := Lib.hid hb3
    clear hb3
    go_wp2_with fail
    go_ret
    exact ⟨rfl, HB3.out⟩
  | true =>
  have HFT := Lib.hid (ht rfl)
  clear ht
  by_cases hb : 100 < b.size
  · have z : (100 : Int) < (b.size : Int) := by omega
    go_wp2_with fail
    refine (HY.out).mono ?_
    rintro e v3 ⟨rfl, hb3⟩
    have HB3 := Lib.hid hb3
    clear hb3
    go_wp2_with fail
    go_ret
    exact ⟨rfl, HB3.out⟩
  have z : (b.size : Int) ≤ 100 := by omega
  have hl40 : len0 ≤ 40 := by rw [← HL.out]; exact HFN.out.1
  have HBO := Lib.hid (Both.made H0.out (Below.refl _ _))
  clear HF HF2
  go_wp2_with fail
  go_loopw [9] (fun y wr => ∃ k : Nat, k ≤ len0 ∧ y = .int .i64 k ∧ Both w wr g v2.heap.size (madeG (xs.take k)) (madeG (xs.take k))) (fun y _ => len0 - (intOf y).toNat)
  case atStart => exact ⟨0, Nat.zero_le _, rfl, HBO.out⟩
  case round =>
    obtain ⟨k, hk, rfl, hbo⟩ := hrel
    have HB := Lib.hid hbo
    have z0 : (0 : Int) ≤ (k : Int) := by omega
    by_cases hlt : k < len0
    · have z1 : (k : Int) < (len0 : Int) := by omega
      have hkl : k < xs.length := by rw [HL.out]; exact hlt
      obtain ⟨ad, A2x, c2x, rfl, c0, c1, c3, hs2⟩ := HAT.out wr hbo.b k xs[k] (List.getElem?_eq_getElem hkl)
      obtain ⟨_, A2, c2, e9, d0, d1, d3, hs3⟩ := HAT.out w (Below.refl _ _) k xs[k] (List.getElem?_eq_getElem hkl)
      injection e9 with e9
      subst e9
      have hx := HFN.out.2 xs[k] (List.getElem_mem hkl)
      have HS := Lib.hid (madeG_snoc xs k hkl)
      have hgk := gk_made HFN.out HSTN.out k (by omega)
      have hgk2 := gk_made HFN.out HSTN.out (k + 1) (by omega)
      obtain ⟨G, hG⟩ : ∃ G, madeG (xs.take k) = G := ⟨_, rfl⟩
      rw [hG] at HB HS hgk hbo
      have HG := Lib.hid hG
      have HGW := Lib.hid hgk.w
      have HGS := Lib.hid (hgk.gs (by omega))
      have HG2W := Lib.hid hgk2.w
      have HG2S := Lib.hid (hgk2.gs (by omega))
      obtain ⟨ix, hix⟩ : ∃ ix, xs[k].id = ix := ⟨_, rfl⟩
      obtain ⟨ps, hps⟩ : ∃ ps, xs[k].par = ps := ⟨_, rfl⟩
      obtain ⟨st, hst⟩ : ∃ st, xs[k].stamp = st := ⟨_, rfl⟩
      rw [hix] at c0 d0 hx HS
      rw [hps] at c1 d1 hs2 hs3 hx HS
      rw [hst] at c3 d3 HS
      have hlw : ad.block < w.heap.size := by have := World.block_lt_of_cell? w _ d0; rwa [block_of_add] at this
      have k1 : wr.cell? ⟨(ad.add (k * 3)).block, (ad.add (k * 3)).off + 1, none⟩ = w.cell? ⟨(ad.add (k * 3)).block, (ad.add (k * 3)).off + 1, none⟩ := hbo.b.cell (by rw [block_of_add]; exact hlw)
      have k2 := k1.symm.trans c1
      rw [d1] at k2
      injection k2 with k2
      injection k2 with k3 k4 k5
      subst k3 k5
      obtain ⟨m, hm⟩ : ∃ m, ps.length = m := ⟨_, rfl⟩
      rw [hm] at c1 d1 hs2 hs3
      have HC : Hid (∀ W : World, Below w.heap.size w W → W.cell? (ad.add (k * 3)) = some (.string ix) ∧ W.cell? ⟨(ad.add (k * 3)).block, (ad.add (k * 3)).off + 1, none⟩ = some (.slice A2 m c2) ∧ W.cell? ⟨(ad.add (k * 3)).block, (ad.add (k * 3)).off + 2, none⟩ = some (.int .i64 st)) := fun W hW => ⟨(hW.cell (by rw [block_of_add]; exact hlw)).trans d0, (hW.cell (by rw [block_of_add]; exact hlw)).trans d1, (hW.cell (by rw [block_of_add]; exact hlw)).trans d3⟩
      have HPS : Hid (SlV w (.slice A2 m c2) (ps.map sv)) := hs3
      have HPM := Lib.hid hm
      have HX := Lib.hid hx
      have hps8 := hx.2.1
      rw [hm] at hps8
      obtain ⟨q0, q1, q2⟩ := HC.out wr hbo.b
      have hcp := copyt_any (.slice A2 m c2) ps wr hs2 (by omega)
      have HCP := Lib.hid hcp
      clear hkl hx hgk hgk2 hix hps hst hm hs2 hs3 c0 c1 c3 d0 d1 d3 k1 k4 hbo hG hcp
      go_wp2_with fail
      refine (HCP.out).mono ?_
      rintro e w3 ⟨u, rfl, hu, hb3⟩
      have HU := Lib.hid hu
      have HB3 := Lib.hid hb3
      have HADD := Lib.hid (HB.out.adds HGW.out HGS.out ix u (.slice A2 m c2) ps st hb3.drew (by have := HX.out.1; omega) (hu.slv.below (Below.refl _ _).drew) HPS.out (fun s hs => by have := HX.out.2.2 s hs; omega) (by rw [HPM.out]; omega))
      obtain ⟨er, her⟩ : ∃ er, addE G ix ps st = er := ⟨_, rfl⟩
      rw [her] at HADD
      have HWR := Lib.hid HB.out.b
      clear hu hb3 her
      go_wp2_with fail
      refine wp_region_held_drew (S := (fun W => W.cell? (ad.add (k * 3)) = some (.string ix) ∧ W.cell? ⟨(ad.add (k * 3)).block, (ad.add (k * 3)).off + 1, none⟩ = some (.slice A2 m c2) ∧ W.cell? ⟨(ad.add (k * 3)).block, (ad.add (k * 3)).off + 2, none⟩ = some (.int .i64 st))) (by kernel_rfl) ?_ (fun hHeld => ?_)
      · try dsimp only
        exact HC.out _ ((HWR.out.trans (HB3.out.mono HWR.out.size)).drew)
      refine take_at (i := 0) (d := 67) (oi := { dst := some 67, op := Op.move (Operand.tmp 7), type := 25, pos := "law.go:70", after := #[], guard := none }) (v := ?_) (by kernel_rfl) (by kernel_rfl) (by kernel_rfl) (by kernel_rfl) (by kernel_rfl) (fun _ _ _ h => h) (Or.inl ⟨by kernel_rfl, ?_⟩) (by assumption) ?_
      rotate_left
      · intro W hSw
        try dsimp only at hSw
        go_simp
        first | done | with_reducible rfl
      try simp only [Act.put, List.setIfInBounds_toArray, List.set_cons_zero, List.set_cons_succ]
      refine take_at (i := 1) (d := 68) (oi := { dst := some 68, op := Op.move (Operand.tmp 0), type := 22, pos := "law.go:70", after := #[], guard := none }) (v := ?_) (by kernel_rfl) (by kernel_rfl) (by kernel_rfl) (by kernel_rfl) (by kernel_rfl) (fun _ _ _ h => h) (Or.inl ⟨by kernel_rfl, ?_⟩) (by assumption) ?_
      rotate_left
      · intro W hSw
        try dsimp only at hSw
        go_simp
        first | done | with_reducible rfl
      try simp only [Act.put, List.setIfInBounds_toArray, List.set_cons_zero, List.set_cons_succ]
      refine take_at (i := 2) (d := 69) (oi := { dst := some 69, op := Op.move (Operand.tmp 9), type := 3, pos := "law.go:70", after := #[], guard := none }) (v := ?_) (by kernel_rfl) (by kernel_rfl) (by kernel_rfl) (by kernel_rfl) (by kernel_rfl) (fun _ _ _ h => h) (Or.inl ⟨by kernel_rfl, ?_⟩) (by assumption) ?_
      rotate_left
      · intro W hSw
        try dsimp only at hSw
        go_simp
        first | done | with_reducible rfl
      try simp only [Act.put, List.setIfInBounds_toArray, List.set_cons_zero, List.set_cons_succ]
      refine take_at (i := 3) (d := 70) (oi := { dst := some 70, op := Op.indexAddr 22 (Operand.tmp 68) (Operand.tmp 69), type := 0, pos := "law.go:70", after := #[{ on := 1, ground := Ground.data }, { on := 2, ground := Ground.data }], guard := none }) (v := ?_) (by kernel_rfl) (by kernel_rfl) (by kernel_rfl) (by kernel_rfl) (by kernel_rfl) (fun _ _ _ h => h) (Or.inl ⟨by kernel_rfl, ?_⟩) (by assumption) ?_
      rotate_left
      · intro W hSw
        try dsimp only at hSw
        go_simp
        first | done | with_reducible rfl
      try simp only [Act.put, List.setIfInBounds_toArray, List.set_cons_zero, List.set_cons_succ]
      refine take_at (i := 4) (d := 71) (oi := { dst := some 71, op := Op.fieldAddr 36 (Operand.tmp 70) 0, type := 0, pos := "law.go:70", after := #[{ on := 3, ground := Ground.data }], guard := none }) (v := ?_) (by kernel_rfl) (by kernel_rfl) (by kernel_rfl) (by kernel_rfl) (by kernel_rfl) (fun _ _ _ h => h) (Or.inl ⟨by kernel_rfl, ?_⟩) (by assumption) ?_
      rotate_left
      · intro W hSw
        try dsimp only at hSw
        go_simp
        first | done | with_reducible rfl
      try simp only [Act.put, List.setIfInBounds_toArray, List.set_cons_zero, List.set_cons_succ]
      refine take_at (i := 5) (d := 72) (oi := { dst := some 72, op := Op.load 9 (Operand.tmp 71), type := 9, pos := "law.go:70", after := #[{ on := 4, ground := Ground.data }], guard := none }) (v := ?_) (by kernel_rfl) (by kernel_rfl) (by kernel_rfl) (by kernel_rfl) (by kernel_rfl) (fun _ _ _ h => h) (Or.inl ⟨by kernel_rfl, ?_⟩) (by assumption) ?_
      rotate_left
      · intro W hSw
        try dsimp only at hSw
        obtain ⟨p0, p1, p2⟩ := hSw
        go_simp
        first | done | with_reducible rfl
      try simp only [Act.put, List.setIfInBounds_toArray, List.set_cons_zero, List.set_cons_succ]
      refine take_at (i := 6) (d := 73) (oi := { dst := some 73, op := Op.move (Operand.tmp 10), type := 23, pos := "law.go:70", after := #[], guard := none }) (v := ?_) (by kernel_rfl) (by kernel_rfl) (by kernel_rfl) (by kernel_rfl) (by kernel_rfl) (fun _ _ _ h => h) (Or.inl ⟨by kernel_rfl, ?_⟩) (by assumption) ?_
      rotate_left
      · intro W hSw
        try dsimp only at hSw
        go_simp
        first | done | with_reducible rfl
      try simp only [Act.put, List.setIfInBounds_toArray, List.set_cons_zero, List.set_cons_succ]
      refine take_at (i := 7) (d := 74) (oi := { dst := some 74, op := Op.move (Operand.tmp 0), type := 22, pos := "law.go:70", after := #[], guard := none }) (v := ?_) (by kernel_rfl) (by kernel_rfl) (by kernel_rfl) (by kernel_rfl) (by kernel_rfl) (fun _ _ _ h => h) (Or.inl ⟨by kernel_rfl, ?_⟩) (by assumption) ?_
      rotate_left
      · intro W hSw
        try dsimp only at hSw
        go_simp
        first | done | with_reducible rfl
      try simp only [Act.put, List.setIfInBounds_toArray, List.set_cons_zero, List.set_cons_succ]
      refine take_at (i := 8) (d := 75) (oi := { dst := some 75, op := Op.move (Operand.tmp 9), type := 3, pos := "law.go:70", after := #[], guard := none }) (v := ?_) (by kernel_rfl) (by kernel_rfl) (by kernel_rfl) (by kernel_rfl) (by kernel_rfl) (fun _ _ _ h => h) (Or.inl ⟨by kernel_rfl, ?_⟩) (by assumption) ?_
      rotate_left
      · intro W hSw
        try dsimp only at hSw
        go_simp
        first | done | with_reducible rfl
      try simp only [Act.put, List.setIfInBounds_toArray, List.set_cons_zero, List.set_cons_succ]
      refine take_at (i := 9) (d := 76) (oi := { dst := some 76, op := Op.indexAddr 22 (Operand.tmp 74) (Operand.tmp 75), type := 0, pos := "law.go:70", after := #[{ on := 7, ground := Ground.data }, { on := 8, ground := Ground.data }], guard := none }) (v := ?_) (by kernel_rfl) (by kernel_rfl) (by kernel_rfl) (by kernel_rfl) (by kernel_rfl) (fun _ _ _ h => h) (Or.inl ⟨by kernel_rfl, ?_⟩) (by assumption) ?_
      rotate_left
      · intro W hSw
        try dsimp only at hSw
        go_simp
        first | done | with_reducible rfl
      try simp only [Act.put, List.setIfInBounds_toArray, List.set_cons_zero, List.set_cons_succ]
      refine take_at (i := 10) (d := 77) (oi := { dst := some 77, op := Op.fieldAddr 36 (Operand.tmp 76) 2, type := 0, pos := "law.go:70", after := #[{ on := 9, ground := Ground.data }], guard := none }) (v := ?_) (by kernel_rfl) (by kernel_rfl) (by kernel_rfl) (by kernel_rfl) (by kernel_rfl) (fun _ _ _ h => h) (Or.inl ⟨by kernel_rfl, ?_⟩) (by assumption) ?_
      rotate_left
      · intro W hSw
        try dsimp only at hSw
        go_simp
        first | done | with_reducible rfl
      try simp only [Act.put, List.setIfInBounds_toArray, List.set_cons_zero, List.set_cons_succ]
      refine take_at (i := 11) (d := 78) (oi := { dst := some 78, op := Op.load 3 (Operand.tmp 77), type := 3, pos := "law.go:70", after := #[{ on := 10, ground := Ground.data }], guard := none }) (v := ?_) (by kernel_rfl) (by kernel_rfl) (by kernel_rfl) (by kernel_rfl) (by kernel_rfl) (fun _ _ _ h => h) (Or.inl ⟨by kernel_rfl, ?_⟩) (by assumption) ?_
      rotate_left
      · intro W hSw
        try dsimp only at hSw
        obtain ⟨p0, p1, p2⟩ := hSw
        go_simp
        first | done | with_reducible rfl
      try simp only [Act.put, List.setIfInBounds_toArray, List.set_cons_zero, List.set_cons_succ]
      refine take_at (i := 13) (d := 80) (oi := { dst := some 80, op := Op.move (Operand.tmp 8), type := 29, pos := "law.go:70", after := #[], guard := none }) (v := ?_) (by kernel_rfl) (by kernel_rfl) (by kernel_rfl) (by kernel_rfl) (by kernel_rfl) (fun _ _ _ h => h) (Or.inl ⟨by kernel_rfl, ?_⟩) (by assumption) ?_
      rotate_left
      · intro W hSw
        try dsimp only at hSw
        go_simp
        first | done | with_reducible rfl
      try simp only [Act.put, List.setIfInBounds_toArray, List.set_cons_zero, List.set_cons_succ]
      refine take_at (i := 14) (d := 81) (oi := { dst := some 81, op := Op.move (Operand.tmp 0), type := 22, pos := "law.go:70", after := #[], guard := none }) (v := ?_) (by kernel_rfl) (by kernel_rfl) (by kernel_rfl) (by kernel_rfl) (by kernel_rfl) (fun _ _ _ h => h) (Or.inl ⟨by kernel_rfl, ?_⟩) (by assumption) ?_
      rotate_left
      · intro W hSw
        try dsimp only at hSw
        go_simp
        first | done | with_reducible rfl
      try simp only [Act.put, List.setIfInBounds_toArray, List.set_cons_zero, List.set_cons_succ]
      refine take_at (i := 15) (d := 82) (oi := { dst := some 82, op := Op.move (Operand.tmp 9), type := 3, pos := "law.go:70", after := #[], guard := none }) (v := ?_) (by kernel_rfl) (by kernel_rfl) (by kernel_rfl) (by kernel_rfl) (by kernel_rfl) (fun _ _ _ h => h) (Or.inl ⟨by kernel_rfl, ?_⟩) (by assumption) ?_
      rotate_left
      · intro W hSw
        try dsimp only at hSw
        go_simp
        first | done | with_reducible rfl
      try simp only [Act.put, List.setIfInBounds_toArray, List.set_cons_zero, List.set_cons_succ]
      refine take_at (i := 16) (d := 83) (oi := { dst := some 83, op := Op.indexAddr 22 (Operand.tmp 81) (Operand.tmp 82), type := 0, pos := "law.go:70", after := #[{ on := 14, ground := Ground.data }, { on := 15, ground := Ground.data }], guard := none }) (v := ?_) (by kernel_rfl) (by kernel_rfl) (by kernel_rfl) (by kernel_rfl) (by kernel_rfl) (fun _ _ _ h => h) (Or.inl ⟨by kernel_rfl, ?_⟩) (by assumption) ?_
      rotate_left
      · intro W hSw
        try dsimp only at hSw
        go_simp
        first | done | with_reducible rfl
      try simp only [Act.put, List.setIfInBounds_toArray, List.set_cons_zero, List.set_cons_succ]
      refine take_at (i := 17) (d := 84) (oi := { dst := some 84, op := Op.fieldAddr 36 (Operand.tmp 83) 0, type := 0, pos := "law.go:70", after := #[{ on := 16, ground := Ground.data }], guard := none }) (v := ?_) (by kernel_rfl) (by kernel_rfl) (by kernel_rfl) (by kernel_rfl) (by kernel_rfl) (fun _ _ _ h => h) (Or.inl ⟨by kernel_rfl, ?_⟩) (by assumption) ?_
      rotate_left
      · intro W hSw
        try dsimp only at hSw
        go_simp
        first | done | with_reducible rfl
      try simp only [Act.put, List.setIfInBounds_toArray, List.set_cons_zero, List.set_cons_succ]
      refine take_at (i := 18) (d := 85) (oi := { dst := some 85, op := Op.load 9 (Operand.tmp 84), type := 9, pos := "law.go:70", after := #[{ on := 17, ground := Ground.data }], guard := none }) (v := ?_) (by kernel_rfl) (by kernel_rfl) (by kernel_rfl) (by kernel_rfl) (by kernel_rfl) (fun _ _ _ h => h) (Or.inl ⟨by kernel_rfl, ?_⟩) (by assumption) ?_
      rotate_left
      · intro W hSw
        try dsimp only at hSw
        obtain ⟨p0, p1, p2⟩ := hSw
        go_simp
        first | done | with_reducible rfl
      try simp only [Act.put, List.setIfInBounds_toArray, List.set_cons_zero, List.set_cons_succ]
      refine take_at (i := 19) (d := 86) (oi := { dst := some 86, op := Op.move (Operand.tmp 0), type := 22, pos := "law.go:70", after := #[], guard := none }) (v := ?_) (by kernel_rfl) (by kernel_rfl) (by kernel_rfl) (by kernel_rfl) (by kernel_rfl) (fun _ _ _ h => h) (Or.inl ⟨by kernel_rfl, ?_⟩) (by assumption) ?_
      rotate_left
      · intro W hSw
        try dsimp only at hSw
        go_simp
        first | done | with_reducible rfl
      try simp only [Act.put, List.setIfInBounds_toArray, List.set_cons_zero, List.set_cons_succ]
      refine take_at (i := 20) (d := 87) (oi := { dst := some 87, op := Op.move (Operand.tmp 9), type := 3, pos := "law.go:70", after := #[], guard := none }) (v := ?_) (by kernel_rfl) (by kernel_rfl) (by kernel_rfl) (by kernel_rfl) (by kernel_rfl) (fun _ _ _ h => h) (Or.inl ⟨by kernel_rfl, ?_⟩) (by assumption) ?_
      rotate_left
      · intro W hSw
        try dsimp only at hSw
        go_simp
        first | done | with_reducible rfl
      try simp only [Act.put, List.setIfInBounds_toArray, List.set_cons_zero, List.set_cons_succ]
      refine take_at (i := 21) (d := 88) (oi := { dst := some 88, op := Op.indexAddr 22 (Operand.tmp 86) (Operand.tmp 87), type := 0, pos := "law.go:70", after := #[{ on := 19, ground := Ground.data }, { on := 20, ground := Ground.data }], guard := none }) (v := ?_) (by kernel_rfl) (by kernel_rfl) (by kernel_rfl) (by kernel_rfl) (by kernel_rfl) (fun _ _ _ h => h) (Or.inl ⟨by kernel_rfl, ?_⟩) (by assumption) ?_
      rotate_left
      · intro W hSw
        try dsimp only at hSw
        go_simp
        first | done | with_reducible rfl
      try simp only [Act.put, List.setIfInBounds_toArray, List.set_cons_zero, List.set_cons_succ]
      refine take_at (i := 22) (d := 89) (oi := { dst := some 89, op := Op.fieldAddr 36 (Operand.tmp 88) 1, type := 0, pos := "law.go:70", after := #[{ on := 21, ground := Ground.data }], guard := none }) (v := ?_) (by kernel_rfl) (by kernel_rfl) (by kernel_rfl) (by kernel_rfl) (by kernel_rfl) (fun _ _ _ h => h) (Or.inl ⟨by kernel_rfl, ?_⟩) (by assumption) ?_
      rotate_left
      · intro W hSw
        try dsimp only at hSw
        go_simp
        first | done | with_reducible rfl
      try simp only [Act.put, List.setIfInBounds_toArray, List.set_cons_zero, List.set_cons_succ]
      refine take_at (i := 23) (d := 90) (oi := { dst := some 90, op := Op.load 23 (Operand.tmp 89), type := 23, pos := "law.go:70", after := #[{ on := 22, ground := Ground.data }], guard := none }) (v := ?_) (by kernel_rfl) (by kernel_rfl) (by kernel_rfl) (by kernel_rfl) (by kernel_rfl) (fun _ _ _ h => h) (Or.inl ⟨by kernel_rfl, ?_⟩) (by assumption) ?_
      rotate_left
      · intro W hSw
        try dsimp only at hSw
        obtain ⟨p0, p1, p2⟩ := hSw
        go_simp
        first | done | with_reducible rfl
      try simp only [Act.put, List.setIfInBounds_toArray, List.set_cons_zero, List.set_cons_succ]
      refine take_at (i := 24) (d := 91) (oi := { dst := some 91, op := Op.move (Operand.tmp 0), type := 22, pos := "law.go:70", after := #[], guard := none }) (v := ?_) (by kernel_rfl) (by kernel_rfl) (by kernel_rfl) (by kernel_rfl) (by kernel_rfl) (fun _ _ _ h => h) (Or.inl ⟨by kernel_rfl, ?_⟩) (by assumption) ?_
      rotate_left
      · intro W hSw
        try dsimp only at hSw
        go_simp
        first | done | with_reducible rfl
      try simp only [Act.put, List.setIfInBounds_toArray, List.set_cons_zero, List.set_cons_succ]
      refine take_at (i := 25) (d := 92) (oi := { dst := some 92, op := Op.move (Operand.tmp 9), type := 3, pos := "law.go:70", after := #[], guard := none }) (v := ?_) (by kernel_rfl) (by kernel_rfl) (by kernel_rfl) (by kernel_rfl) (by kernel_rfl) (fun _ _ _ h => h) (Or.inl ⟨by kernel_rfl, ?_⟩) (by assumption) ?_
      rotate_left
      · intro W hSw
        try dsimp only at hSw
        go_simp
        first | done | with_reducible rfl
      try simp only [Act.put, List.setIfInBounds_toArray, List.set_cons_zero, List.set_cons_succ]
      refine take_at (i := 26) (d := 93) (oi := { dst := some 93, op := Op.indexAddr 22 (Operand.tmp 91) (Operand.tmp 92), type := 0, pos := "law.go:70", after := #[{ on := 24, ground := Ground.data }, { on := 25, ground := Ground.data }], guard := none }) (v := ?_) (by kernel_rfl) (by kernel_rfl) (by kernel_rfl) (by kernel_rfl) (by kernel_rfl) (fun _ _ _ h => h) (Or.inl ⟨by kernel_rfl, ?_⟩) (by assumption) ?_
      rotate_left
      · intro W hSw
        try dsimp only at hSw
        go_simp
        first | done | with_reducible rfl
      try simp only [Act.put, List.setIfInBounds_toArray, List.set_cons_zero, List.set_cons_succ]
      refine take_at (i := 27) (d := 94) (oi := { dst := some 94, op := Op.fieldAddr 36 (Operand.tmp 93) 2, type := 0, pos := "law.go:70", after := #[{ on := 26, ground := Ground.data }], guard := none }) (v := ?_) (by kernel_rfl) (by kernel_rfl) (by kernel_rfl) (by kernel_rfl) (by kernel_rfl) (fun _ _ _ h => h) (Or.inl ⟨by kernel_rfl, ?_⟩) (by assumption) ?_
      rotate_left
      · intro W hSw
        try dsimp only at hSw
        go_simp
        first | done | with_reducible rfl
      try simp only [Act.put, List.setIfInBounds_toArray, List.set_cons_zero, List.set_cons_succ]
      refine take_at (i := 28) (d := 95) (oi := { dst := some 95, op := Op.load 3 (Operand.tmp 94), type := 3, pos := "law.go:70", after := #[{ on := 27, ground := Ground.data }], guard := none }) (v := ?_) (by kernel_rfl) (by kernel_rfl) (by kernel_rfl) (by kernel_rfl) (by kernel_rfl) (fun _ _ _ h => h) (Or.inl ⟨by kernel_rfl, ?_⟩) (by assumption) ?_
      rotate_left
      · intro W hSw
        try dsimp only at hSw
        obtain ⟨p0, p1, p2⟩ := hSw
        go_simp
        first | done | with_reducible rfl
      try simp only [Act.put, List.setIfInBounds_toArray, List.set_cons_zero, List.set_cons_succ]
      refine wpAnyH_ready (rs := [12]) (by kernel_rfl) (by simp) (AllReadyH.cons (o := { dst := some 79, op := Op.call { callee := Callee.value (Operand.func 9), args := #[Operand.tmp 67, Operand.tmp 72, Operand.tmp 73, Operand.tmp 78], argTypes := #[25, 9, 23, 3] }, type := 37, pos := "law.go:70", after := #[{ on := 0, ground := Ground.data }, { on := 5, ground := Ground.data }, { on := 6, ground := Ground.data }, { on := 11, ground := Ground.data }], guard := none }) (by kernel_rfl) (fun K hK => ?_) AllReadyH.nil)
      go_simp
      refine (HADD.out).mono ?_
      rintro e w4 ⟨rfl, hb4, hd4⟩
      have HB4 := Lib.hid hb4
      have HD4 := Lib.hid (hd4 w4 (Below.refl _ _))
      clear hb4 hd4
      try go_wp2_with fail
      refine hK.out _ _ ?_ (fun hHeld => ?_)
      · try dsimp only
        exact HC.out _ HB4.out
      clear hK K
      try simp only [Act.put, List.setIfInBounds_toArray, List.set_cons_zero, List.set_cons_succ]
      refine wpAnyH_ready (rs := [29]) (by kernel_rfl) (by simp) (AllReadyH.cons (o := { dst := some 96, op := Op.call { callee := Callee.value (Operand.func 10), args := #[Operand.tmp 80, Operand.tmp 85, Operand.tmp 90, Operand.tmp 95], argTypes := #[29, 9, 23, 3] }, type := 37, pos := "law.go:70", after := #[{ on := 13, ground := Ground.data }, { on := 18, ground := Ground.data }, { on := 23, ground := Ground.data }, { on := 28, ground := Ground.data }, { on := 12, ground := Ground.chain }], guard := none }) (by kernel_rfl) (fun K hK => ?_) AllReadyH.nil)
      go_simp
      refine (HD4.out).mono ?_
      rintro e w5 ⟨rfl, hbo5, hown⟩
      have HO5 := Lib.hid hbo5
      have HU5 := Lib.hid (hown _ _ _ HU.out)
      clear hbo5 hown
      try go_wp2_with fail
      refine hK.out _ _ ?_ (fun hHeld => ?_)
      · try dsimp only
        exact HC.out _ HO5.out.b
      clear hK K
      try simp only [Act.put, List.setIfInBounds_toArray, List.set_cons_zero, List.set_cons_succ]
      refine take_at (i := 30) (d := 97) (oi := { dst := some 97, op := Op.binOp BinOp.neq 37 (Operand.tmp 79) (Operand.tmp 96) 37, type := 4, pos := "law.go:70", after := #[{ on := 12, ground := Ground.data }, { on := 29, ground := Ground.data }], guard := none }) (v := ?_) (by kernel_rfl) (by kernel_rfl) (by kernel_rfl) (by kernel_rfl) (by kernel_rfl) (fun _ _ _ h => h) (Or.inl ⟨by kernel_rfl, ?_⟩) (by assumption) ?_
      rotate_left
      · intro W hSw
        try dsimp only at hSw
        go_simp
        first | done | with_reducible rfl
      try simp only [Act.put, List.setIfInBounds_toArray, List.set_cons_zero, List.set_cons_succ]
      refine take_at (i := 31) (d := 98) (oi := { dst := some 98, op := Op.move (Operand.tmp 97), type := 4, pos := "law.go:70", after := #[{ on := 30, ground := Ground.data }, { on := 29, ground := Ground.chain }], guard := none }) (v := ?_) (by kernel_rfl) (by kernel_rfl) (by kernel_rfl) (by kernel_rfl) (by kernel_rfl) (fun _ _ _ h => h) (Or.inl ⟨by kernel_rfl, ?_⟩) (by assumption) ?_
      rotate_left
      · intro W hSw
        try dsimp only at hSw
        go_simp
        first | done | with_reducible rfl
      try simp only [Act.put, List.setIfInBounds_toArray, List.set_cons_zero, List.set_cons_succ]
      refine take_at (i := 32) (d := 99) (oi := { dst := some 99, op := Op.move (Operand.tmp 10), type := 23, pos := "law.go:70", after := #[{ on := 31, ground := Ground.guard }], guard := some (31, false) }) (v := ?_) (by kernel_rfl) (by kernel_rfl) (by kernel_rfl) (by kernel_rfl) (by kernel_rfl) (fun _ _ _ h => h) (Or.inl ⟨by kernel_rfl, ?_⟩) (by assumption) ?_
      rotate_left
      · intro W hSw
        try dsimp only at hSw
        go_simp
        first | done | with_reducible rfl
      try simp only [Act.put, List.setIfInBounds_toArray, List.set_cons_zero, List.set_cons_succ]
      refine take_at (i := 33) (d := 100) (oi := { dst := some 100, op := Op.move (Operand.tmp 0), type := 22, pos := "law.go:70", after := #[{ on := 31, ground := Ground.guard }], guard := some (31, false) }) (v := ?_) (by kernel_rfl) (by kernel_rfl) (by kernel_rfl) (by kernel_rfl) (by kernel_rfl) (fun _ _ _ h => h) (Or.inl ⟨by kernel_rfl, ?_⟩) (by assumption) ?_
      rotate_left
      · intro W hSw
        try dsimp only at hSw
        go_simp
        first | done | with_reducible rfl
      try simp only [Act.put, List.setIfInBounds_toArray, List.set_cons_zero, List.set_cons_succ]
      refine take_at (i := 34) (d := 101) (oi := { dst := some 101, op := Op.move (Operand.tmp 9), type := 3, pos := "law.go:70", after := #[{ on := 31, ground := Ground.guard }], guard := some (31, false) }) (v := ?_) (by kernel_rfl) (by kernel_rfl) (by kernel_rfl) (by kernel_rfl) (by kernel_rfl) (fun _ _ _ h => h) (Or.inl ⟨by kernel_rfl, ?_⟩) (by assumption) ?_
      rotate_left
      · intro W hSw
        try dsimp only at hSw
        go_simp
        first | done | with_reducible rfl
      try simp only [Act.put, List.setIfInBounds_toArray, List.set_cons_zero, List.set_cons_succ]
      refine take_at (i := 35) (d := 102) (oi := { dst := some 102, op := Op.indexAddr 22 (Operand.tmp 100) (Operand.tmp 101), type := 0, pos := "law.go:70", after := #[{ on := 33, ground := Ground.data }, { on := 34, ground := Ground.data }, { on := 31, ground := Ground.guard }], guard := some (31, false) }) (v := ?_) (by kernel_rfl) (by kernel_rfl) (by kernel_rfl) (by kernel_rfl) (by kernel_rfl) (fun _ _ _ h => h) (Or.inl ⟨by kernel_rfl, ?_⟩) (by assumption) ?_
      rotate_left
      · intro W hSw
        try dsimp only at hSw
        go_simp
        first | done | with_reducible rfl
      try simp only [Act.put, List.setIfInBounds_toArray, List.set_cons_zero, List.set_cons_succ]
      refine take_at (i := 36) (d := 103) (oi := { dst := some 103, op := Op.fieldAddr 36 (Operand.tmp 102) 1, type := 0, pos := "law.go:70", after := #[{ on := 35, ground := Ground.data }, { on := 31, ground := Ground.guard }], guard := some (31, false) }) (v := ?_) (by kernel_rfl) (by kernel_rfl) (by kernel_rfl) (by kernel_rfl) (by kernel_rfl) (fun _ _ _ h => h) (Or.inl ⟨by kernel_rfl, ?_⟩) (by assumption) ?_
      rotate_left
      · intro W hSw
        try dsimp only at hSw
        go_simp
        first | done | with_reducible rfl
      try simp only [Act.put, List.setIfInBounds_toArray, List.set_cons_zero, List.set_cons_succ]
      refine take_at (i := 37) (d := 104) (oi := { dst := some 104, op := Op.load 23 (Operand.tmp 103), type := 23, pos := "law.go:70", after := #[{ on := 36, ground := Ground.data }, { on := 31, ground := Ground.guard }], guard := some (31, false) }) (v := ?_) (by kernel_rfl) (by kernel_rfl) (by kernel_rfl) (by kernel_rfl) (by kernel_rfl) (fun _ _ _ h => h) (Or.inl ⟨by kernel_rfl, ?_⟩) (by assumption) ?_
      rotate_left
      · intro W hSw
        try dsimp only at hSw
        obtain ⟨p0, p1, p2⟩ := hSw
        go_simp
        first | done | with_reducible rfl
      try simp only [Act.put, List.setIfInBounds_toArray, List.set_cons_zero, List.set_cons_succ]
      refine wpAnyH_ready (rs := [38]) (by kernel_rfl) (by simp) (AllReadyH.cons (o := { dst := some 105, op := Op.call { callee := Callee.value (Operand.func 11), args := #[Operand.tmp 99, Operand.tmp 104], argTypes := #[23, 23] }, type := 4, pos := "law.go:70", after := #[{ on := 32, ground := Ground.data }, { on := 37, ground := Ground.data }, { on := 31, ground := Ground.chain }, { on := 31, ground := Ground.guard }], guard := some (31, false) }) (by kernel_rfl) (fun K hK => ?_) AllReadyH.nil)
      go_simp
      refine (texts_same _ _ ps w5 HU5.out.slv (HPS.out.below HO5.out.b)).mono ?_
      rintro e w6 ⟨rfl, hb6⟩
      have HB6 := Lib.hid hb6
      clear hb6
      try go_wp2_with fail
      refine hK.out _ _ ?_ (fun hHeld => ?_)
      · try dsimp only
        exact HC.out _ (HO5.out.b.trans (HB6.out.mono HO5.out.b.size))
      clear hK K
      try simp only [Act.put, List.setIfInBounds_toArray, List.set_cons_zero, List.set_cons_succ]
      refine take_at (i := 39) (d := 106) (oi := { dst := some 106, op := Op.unOp UnOp.not 4 (Operand.tmp 105), type := 4, pos := "law.go:70", after := #[{ on := 38, ground := Ground.data }, { on := 31, ground := Ground.guard }], guard := some (31, false) }) (v := ?_) (by kernel_rfl) (by kernel_rfl) (by kernel_rfl) (by kernel_rfl) (by kernel_rfl) (fun _ _ _ h => h) (Or.inl ⟨by kernel_rfl, ?_⟩) (by assumption) ?_
      rotate_left
      · intro W hSw
        try dsimp only at hSw
        go_simp
        first | done | with_reducible rfl
      try simp only [Act.put, List.setIfInBounds_toArray, List.set_cons_zero, List.set_cons_succ]
      refine take_at (i := 40) (d := 107) (oi := { dst := some 107, op := Op.pick (Operand.tmp 98) (Operand.const (Value.bool true)) (Operand.tmp 106), type := 4, pos := "law.go:70", after := #[{ on := 31, ground := Ground.data }, { on := 39, ground := Ground.data }], guard := none }) (v := ?_) (by kernel_rfl) (by kernel_rfl) (by kernel_rfl) (by kernel_rfl) (by kernel_rfl) (fun _ _ _ h => h) (Or.inl ⟨by kernel_rfl, ?_⟩) (by assumption) ?_
      rotate_left
      · intro W hSw
        try dsimp only at hSw
        go_simp
        first | done | with_reducible rfl
      try simp only [Act.put, List.setIfInBounds_toArray, List.set_cons_zero, List.set_cons_succ]
      refine wpAnyH_done (by kernel_rfl) ?_ _
      have HO6 := HO5.out.below HB6.out
      have hg1 := HG2W.out
      have hg2 := HG2S.out
      rw [HS.out] at hg1 hg2
      obtain ⟨G2, hG2⟩ : ∃ G2, addR G ix ps st = G2 := ⟨_, rfl⟩
      rw [hG2] at HO6 hg1 hg2 HS
      have bc := HO6.calls hg1 hg2
      have hix : ix.size ≤ 1000000 := by have := HX.out.1; omega
      obtain ⟨n2, hn2⟩ : ∃ n, G2.length = n := ⟨_, rfl⟩
      have hlen := bc.len w6.drew (Below.refl _ _).drew
      obtain ⟨Ai, ci, hids⟩ := bc.ids
      rw [hn2] at hlen hids
      have HLEN := Lib.hid hlen
      have HIDS := Lib.hid hids
      obtain ⟨hb, hbb⟩ : ∃ t, inG G2 ix = t := ⟨_, rfl⟩
      have HHAS := Lib.hid (bc.has w6.drew ix (Below.refl _ _).drew hix)
      have HHASD := Lib.hid (bc.hasd w6.drew ix (Below.refl _ _).drew)
      obtain ⟨s2, hs2⟩ : ∃ t, (if inG G2 ix then stAt G2 (pl G2 ix) else -1) = t := ⟨_, rfl⟩
      have HSTP := Lib.hid (bc.st w6.drew ix (Below.refl _ _).drew hix)
      have HSTD := Lib.hid (bc.std w6.drew ix (Below.refl _ _).drew)
      obtain ⟨L2, hL2⟩ : ∃ t, (if inG G2 ix then (parAt G2 (pl G2 ix)).map (idAt G2) else []) = t := ⟨_, rfl⟩
      have HPAR := Lib.hid (fun W hW => bc.par W ix hW hix)
      have HPARD := Lib.hid (fun W hW => bc.pard W ix hW)
      rw [hs2] at HSTP HSTD
      rw [hL2] at HPAR HPARD
      rw [hbb] at HHAS HHASD
      have HO6' := Lib.hid HO6
      have HC6 := Lib.hid (fun W (hW : Below w6.heap.size w6 W) => HC.out W (HO6'.out.b.trans (hW.mono HO6'.out.b.size)))
      clear HO6 hg1 hg2 hG2 bc hn2 hlen hids hbb hs2 hL2 hix
      go_wp2_with fail
      refine wp_region_held_drew (S := (fun W => (W.cell? (ad.add (k * 3)) = some (.string ix) ∧ W.cell? ⟨(ad.add (k * 3)).block, (ad.add (k * 3)).off + 1, none⟩ = some (.slice A2 m c2) ∧ W.cell? ⟨(ad.add (k * 3)).block, (ad.add (k * 3)).off + 2, none⟩ = some (.int .i64 st)) ∧ W.cell? ⟨v2.heap.size, 0, none⟩ = some (.slice Ai n2 ci))) (by kernel_rfl) ?_ (fun hHeld => ?_)
      · try dsimp only
        exact ⟨HC6.out _ (Below.refl _ _).drew, HIDS.out _ (Below.refl _ _).drew⟩
      refine take_at (i := 0) (d := 108) (oi := { dst := some 108, op := Op.move (Operand.tmp 7), type := 25, pos := "law.go:73", after := #[], guard := none }) (v := ?_) (by kernel_rfl) (by kernel_rfl) (by kernel_rfl) (by kernel_rfl) (by kernel_rfl) (fun _ _ _ h => h) (Or.inl ⟨by kernel_rfl, ?_⟩) (by assumption) ?_
      rotate_left
      · intro W hSw
        try dsimp only at hSw
        go_simp
        first | done | with_reducible rfl
      try simp only [Act.put, List.setIfInBounds_toArray, List.set_cons_zero, List.set_cons_succ]
      refine take_at (i := 2) (d := 110) (oi := { dst := some 110, op := Op.move (Operand.tmp 8), type := 29, pos := "law.go:73", after := #[], guard := none }) (v := ?_) (by kernel_rfl) (by kernel_rfl) (by kernel_rfl) (by kernel_rfl) (by kernel_rfl) (fun _ _ _ h => h) (Or.inl ⟨by kernel_rfl, ?_⟩) (by assumption) ?_
      rotate_left
      · intro W hSw
        try dsimp only at hSw
        go_simp
        first | done | with_reducible rfl
      try simp only [Act.put, List.setIfInBounds_toArray, List.set_cons_zero, List.set_cons_succ]
      refine take_at (i := 3) (d := 111) (oi := { dst := some 111, op := Op.nilCheck (Operand.tmp 110), type := 0, pos := "law.go:73", after := #[{ on := 2, ground := Ground.data }], guard := none }) (v := ?_) (by kernel_rfl) (by kernel_rfl) (by kernel_rfl) (by kernel_rfl) (by kernel_rfl) (fun _ _ _ h => h) (Or.inl ⟨by kernel_rfl, ?_⟩) (by assumption) ?_
      rotate_left
      · intro W hSw
        try dsimp only at hSw
        go_simp
        first | done | with_reducible rfl
      try simp only [Act.put, List.setIfInBounds_toArray, List.set_cons_zero, List.set_cons_succ]
      refine take_at (i := 4) (d := 112) (oi := { dst := some 112, op := Op.fieldAddr 33 (Operand.tmp 111) 0, type := 0, pos := "law.go:73", after := #[{ on := 3, ground := Ground.data }], guard := none }) (v := ?_) (by kernel_rfl) (by kernel_rfl) (by kernel_rfl) (by kernel_rfl) (by kernel_rfl) (fun _ _ _ h => h) (Or.inl ⟨by kernel_rfl, ?_⟩) (by assumption) ?_
      rotate_left
      · intro W hSw
        try dsimp only at hSw
        go_simp
        first | done | with_reducible rfl
      try simp only [Act.put, List.setIfInBounds_toArray, List.set_cons_zero, List.set_cons_succ]
      refine take_at (i := 5) (d := 113) (oi := { dst := some 113, op := Op.load 23 (Operand.tmp 112), type := 23, pos := "law.go:73", after := #[{ on := 4, ground := Ground.data }], guard := none }) (v := ?_) (by kernel_rfl) (by kernel_rfl) (by kernel_rfl) (by kernel_rfl) (by kernel_rfl) (fun _ _ _ h => h) (Or.inl ⟨by kernel_rfl, ?_⟩) (by assumption) ?_
      rotate_left
      · intro W hSw
        try dsimp only at hSw
        obtain ⟨⟨p0, p1, p2⟩, p3⟩ := hSw
        go_simp
        first | done | with_reducible rfl
      try simp only [Act.put, List.setIfInBounds_toArray, List.set_cons_zero, List.set_cons_succ]
      refine take_at (i := 6) (d := 114) (oi := { dst := some 114, op := Op.call { callee := Callee.builtin Builtin.len, args := #[Operand.tmp 113], argTypes := #[23] }, type := 3, pos := "law.go:73", after := #[{ on := 5, ground := Ground.data }], guard := none }) (v := ?_) (by kernel_rfl) (by kernel_rfl) (by kernel_rfl) (by kernel_rfl) (by kernel_rfl) (fun _ _ _ h => h) (Or.inl ⟨by kernel_rfl, ?_⟩) (by assumption) ?_
      rotate_left
      · intro W hSw
        try dsimp only at hSw
        go_simp
        first | done | with_reducible rfl
      try simp only [Act.put, List.setIfInBounds_toArray, List.set_cons_zero, List.set_cons_succ]
      refine wpAnyH_ready (rs := [1]) (by kernel_rfl) (by simp) (AllReadyH.cons (o := { dst := some 109, op := Op.call { callee := Callee.value (Operand.func 12), args := #[Operand.tmp 108], argTypes := #[25] }, type := 3, pos := "law.go:73", after := #[{ on := 0, ground := Ground.data }], guard := none }) (by kernel_rfl) (fun K hK => ?_) AllReadyH.nil)
      go_simp
      refine (HLEN.out).mono ?_
      rintro e w7 ⟨rfl, rfl⟩
      try go_wp2_with fail
      refine hK.out _ _ ?_ (fun hHeld => ?_)
      · try dsimp only
        exact ⟨HC6.out _ (Below.refl _ _).drew, HIDS.out _ (Below.refl _ _).drew⟩
      clear hK K
      try simp only [Act.put, List.setIfInBounds_toArray, List.set_cons_zero, List.set_cons_succ]
      refine take_at (i := 7) (d := 115) (oi := { dst := some 115, op := Op.binOp BinOp.neq 3 (Operand.tmp 109) (Operand.tmp 114) 3, type := 4, pos := "law.go:73", after := #[{ on := 1, ground := Ground.data }, { on := 6, ground := Ground.data }], guard := none }) (v := ?_) (by kernel_rfl) (by kernel_rfl) (by kernel_rfl) (by kernel_rfl) (by kernel_rfl) (fun _ _ _ h => h) (Or.inl ⟨by kernel_rfl, ?_⟩) (by assumption) ?_
      rotate_left
      · intro W hSw
        try dsimp only at hSw
        go_simp
        first | done | with_reducible rfl
      try simp only [Act.put, List.setIfInBounds_toArray, List.set_cons_zero, List.set_cons_succ]
      refine take_at (i := 8) (d := 116) (oi := { dst := some 116, op := Op.move (Operand.tmp 115), type := 4, pos := "law.go:73", after := #[{ on := 7, ground := Ground.data }, { on := 1, ground := Ground.chain }], guard := none }) (v := ?_) (by kernel_rfl) (by kernel_rfl) (by kernel_rfl) (by kernel_rfl) (by kernel_rfl) (fun _ _ _ h => h) (Or.inl ⟨by kernel_rfl, ?_⟩) (by assumption) ?_
      rotate_left
      · intro W hSw
        try dsimp only at hSw
        go_simp
        first | done | with_reducible rfl
      try simp only [Act.put, List.setIfInBounds_toArray, List.set_cons_zero, List.set_cons_succ]
      refine take_at (i := 9) (d := 117) (oi := { dst := some 117, op := Op.move (Operand.tmp 7), type := 25, pos := "law.go:73", after := #[{ on := 8, ground := Ground.guard }], guard := some (8, false) }) (v := ?_) (by kernel_rfl) (by kernel_rfl) (by kernel_rfl) (by kernel_rfl) (by kernel_rfl) (fun _ _ _ h => h) (Or.inl ⟨by kernel_rfl, ?_⟩) (by assumption) ?_
      rotate_left
      · intro W hSw
        try dsimp only at hSw
        go_simp
        first | done | with_reducible rfl
      try simp only [Act.put, List.setIfInBounds_toArray, List.set_cons_zero, List.set_cons_succ]
      refine take_at (i := 10) (d := 118) (oi := { dst := some 118, op := Op.move (Operand.tmp 0), type := 22, pos := "law.go:73", after := #[{ on := 8, ground := Ground.guard }], guard := some (8, false) }) (v := ?_) (by kernel_rfl) (by kernel_rfl) (by kernel_rfl) (by kernel_rfl) (by kernel_rfl) (fun _ _ _ h => h) (Or.inl ⟨by kernel_rfl, ?_⟩) (by assumption) ?_
      rotate_left
      · intro W hSw
        try dsimp only at hSw
        go_simp
        first | done | with_reducible rfl
      try simp only [Act.put, List.setIfInBounds_toArray, List.set_cons_zero, List.set_cons_succ]
      refine take_at (i := 11) (d := 119) (oi := { dst := some 119, op := Op.move (Operand.tmp 9), type := 3, pos := "law.go:73", after := #[{ on := 8, ground := Ground.guard }], guard := some (8, false) }) (v := ?_) (by kernel_rfl) (by kernel_rfl) (by kernel_rfl) (by kernel_rfl) (by kernel_rfl) (fun _ _ _ h => h) (Or.inl ⟨by kernel_rfl, ?_⟩) (by assumption) ?_
      rotate_left
      · intro W hSw
        try dsimp only at hSw
        go_simp
        first | done | with_reducible rfl
      try simp only [Act.put, List.setIfInBounds_toArray, List.set_cons_zero, List.set_cons_succ]
      refine take_at (i := 12) (d := 120) (oi := { dst := some 120, op := Op.indexAddr 22 (Operand.tmp 118) (Operand.tmp 119), type := 0, pos := "law.go:73", after := #[{ on := 10, ground := Ground.data }, { on := 11, ground := Ground.data }, { on := 8, ground := Ground.guard }], guard := some (8, false) }) (v := ?_) (by kernel_rfl) (by kernel_rfl) (by kernel_rfl) (by kernel_rfl) (by kernel_rfl) (fun _ _ _ h => h) (Or.inl ⟨by kernel_rfl, ?_⟩) (by assumption) ?_
      rotate_left
      · intro W hSw
        try dsimp only at hSw
        go_simp
        first | done | with_reducible rfl
      try simp only [Act.put, List.setIfInBounds_toArray, List.set_cons_zero, List.set_cons_succ]
      refine take_at (i := 13) (d := 121) (oi := { dst := some 121, op := Op.fieldAddr 36 (Operand.tmp 120) 0, type := 0, pos := "law.go:73", after := #[{ on := 12, ground := Ground.data }, { on := 8, ground := Ground.guard }], guard := some (8, false) }) (v := ?_) (by kernel_rfl) (by kernel_rfl) (by kernel_rfl) (by kernel_rfl) (by kernel_rfl) (fun _ _ _ h => h) (Or.inl ⟨by kernel_rfl, ?_⟩) (by assumption) ?_
      rotate_left
      · intro W hSw
        try dsimp only at hSw
        go_simp
        first | done | with_reducible rfl
      try simp only [Act.put, List.setIfInBounds_toArray, List.set_cons_zero, List.set_cons_succ]
      refine take_at (i := 14) (d := 122) (oi := { dst := some 122, op := Op.load 9 (Operand.tmp 121), type := 9, pos := "law.go:73", after := #[{ on := 13, ground := Ground.data }, { on := 8, ground := Ground.guard }], guard := some (8, false) }) (v := ?_) (by kernel_rfl) (by kernel_rfl) (by kernel_rfl) (by kernel_rfl) (by kernel_rfl) (fun _ _ _ h => h) (Or.inl ⟨by kernel_rfl, ?_⟩) (by assumption) ?_
      rotate_left
      · intro W hSw
        try dsimp only at hSw
        obtain ⟨⟨p0, p1, p2⟩, p3⟩ := hSw
        go_simp
        first | done | with_reducible rfl
      try simp only [Act.put, List.setIfInBounds_toArray, List.set_cons_zero, List.set_cons_succ]
      refine take_at (i := 16) (d := 124) (oi := { dst := some 124, op := Op.move (Operand.tmp 8), type := 29, pos := "law.go:73", after := #[{ on := 8, ground := Ground.guard }], guard := some (8, false) }) (v := ?_) (by kernel_rfl) (by kernel_rfl) (by kernel_rfl) (by kernel_rfl) (by kernel_rfl) (fun _ _ _ h => h) (Or.inl ⟨by kernel_rfl, ?_⟩) (by assumption) ?_
      rotate_left
      · intro W hSw
        try dsimp only at hSw
        go_simp
        first | done | with_reducible rfl
      try simp only [Act.put, List.setIfInBounds_toArray, List.set_cons_zero, List.set_cons_succ]
      refine take_at (i := 17) (d := 125) (oi := { dst := some 125, op := Op.move (Operand.tmp 0), type := 22, pos := "law.go:73", after := #[{ on := 8, ground := Ground.guard }], guard := some (8, false) }) (v := ?_) (by kernel_rfl) (by kernel_rfl) (by kernel_rfl) (by kernel_rfl) (by kernel_rfl) (fun _ _ _ h => h) (Or.inl ⟨by kernel_rfl, ?_⟩) (by assumption) ?_
      rotate_left
      · intro W hSw
        try dsimp only at hSw
        go_simp
        first | done | with_reducible rfl
      try simp only [Act.put, List.setIfInBounds_toArray, List.set_cons_zero, List.set_cons_succ]
      refine take_at (i := 18) (d := 126) (oi := { dst := some 126, op := Op.move (Operand.tmp 9), type := 3, pos := "law.go:73", after := #[{ on := 8, ground := Ground.guard }], guard := some (8, false) }) (v := ?_) (by kernel_rfl) (by kernel_rfl) (by kernel_rfl) (by kernel_rfl) (by kernel_rfl) (fun _ _ _ h => h) (Or.inl ⟨by kernel_rfl, ?_⟩) (by assumption) ?_
      rotate_left
      · intro W hSw
        try dsimp only at hSw
        go_simp
        first | done | with_reducible rfl
      try simp only [Act.put, List.setIfInBounds_toArray, List.set_cons_zero, List.set_cons_succ]
      refine take_at (i := 19) (d := 127) (oi := { dst := some 127, op := Op.indexAddr 22 (Operand.tmp 125) (Operand.tmp 126), type := 0, pos := "law.go:73", after := #[{ on := 17, ground := Ground.data }, { on := 18, ground := Ground.data }, { on := 8, ground := Ground.guard }], guard := some (8, false) }) (v := ?_) (by kernel_rfl) (by kernel_rfl) (by kernel_rfl) (by kernel_rfl) (by kernel_rfl) (fun _ _ _ h => h) (Or.inl ⟨by kernel_rfl, ?_⟩) (by assumption) ?_
      rotate_left
      · intro W hSw
        try dsimp only at hSw
        go_simp
        first | done | with_reducible rfl
      try simp only [Act.put, List.setIfInBounds_toArray, List.set_cons_zero, List.set_cons_succ]
      refine take_at (i := 20) (d := 128) (oi := { dst := some 128, op := Op.fieldAddr 36 (Operand.tmp 127) 0, type := 0, pos := "law.go:73", after := #[{ on := 19, ground := Ground.data }, { on := 8, ground := Ground.guard }], guard := some (8, false) }) (v := ?_) (by kernel_rfl) (by kernel_rfl) (by kernel_rfl) (by kernel_rfl) (by kernel_rfl) (fun _ _ _ h => h) (Or.inl ⟨by kernel_rfl, ?_⟩) (by assumption) ?_
      rotate_left
      · intro W hSw
        try dsimp only at hSw
        go_simp
        first | done | with_reducible rfl
      try simp only [Act.put, List.setIfInBounds_toArray, List.set_cons_zero, List.set_cons_succ]
      refine take_at (i := 21) (d := 129) (oi := { dst := some 129, op := Op.load 9 (Operand.tmp 128), type := 9, pos := "law.go:73", after := #[{ on := 20, ground := Ground.data }, { on := 8, ground := Ground.guard }], guard := some (8, false) }) (v := ?_) (by kernel_rfl) (by kernel_rfl) (by kernel_rfl) (by kernel_rfl) (by kernel_rfl) (fun _ _ _ h => h) (Or.inl ⟨by kernel_rfl, ?_⟩) (by assumption) ?_
      rotate_left
      · intro W hSw
        try dsimp only at hSw
        obtain ⟨⟨p0, p1, p2⟩, p3⟩ := hSw
        go_simp
        first | done | with_reducible rfl
      try simp only [Act.put, List.setIfInBounds_toArray, List.set_cons_zero, List.set_cons_succ]
      refine wpAnyH_ready (rs := [15]) (by kernel_rfl) (by simp) (AllReadyH.cons (o := { dst := some 123, op := Op.call { callee := Callee.value (Operand.func 13), args := #[Operand.tmp 117, Operand.tmp 122], argTypes := #[25, 9] }, type := 4, pos := "law.go:73", after := #[{ on := 9, ground := Ground.data }, { on := 14, ground := Ground.data }, { on := 8, ground := Ground.chain }, { on := 8, ground := Ground.guard }], guard := some (8, false) }) (by kernel_rfl) (fun K hK => ?_) AllReadyH.nil)
      go_simp
      refine (HHAS.out).mono ?_
      rintro e w7 ⟨rfl, rfl⟩
      try go_wp2_with fail
      refine hK.out _ _ ?_ (fun hHeld => ?_)
      · try dsimp only
        exact ⟨HC6.out _ (Below.refl _ _).drew, HIDS.out _ (Below.refl _ _).drew⟩
      clear hK K
      try simp only [Act.put, List.setIfInBounds_toArray, List.set_cons_zero, List.set_cons_succ]
      refine wpAnyH_ready (rs := [22]) (by kernel_rfl) (by simp) (AllReadyH.cons (o := { dst := some 130, op := Op.call { callee := Callee.value (Operand.func 14), args := #[Operand.tmp 124, Operand.tmp 129], argTypes := #[29, 9] }, type := 4, pos := "law.go:73", after := #[{ on := 16, ground := Ground.data }, { on := 21, ground := Ground.data }, { on := 15, ground := Ground.chain }, { on := 8, ground := Ground.guard }], guard := some (8, false) }) (by kernel_rfl) (fun K hK => ?_) AllReadyH.nil)
      go_simp
      refine (HHASD.out).mono ?_
      rintro e w7 ⟨rfl, rfl⟩
      try go_wp2_with fail
      refine hK.out _ _ ?_ (fun hHeld => ?_)
      · try dsimp only
        exact ⟨HC6.out _ (Below.refl _ _).drew, HIDS.out _ (Below.refl _ _).drew⟩
      clear hK K
      try simp only [Act.put, List.setIfInBounds_toArray, List.set_cons_zero, List.set_cons_succ]
      refine take_at (i := 23) (d := 131) (oi := { dst := some 131, op := Op.binOp BinOp.neq 4 (Operand.tmp 123) (Operand.tmp 130) 4, type := 4, pos := "law.go:73", after := #[{ on := 15, ground := Ground.data }, { on := 22, ground := Ground.data }, { on := 8, ground := Ground.guard }], guard := some (8, false) }) (v := ?_) (by kernel_rfl) (by kernel_rfl) (by kernel_rfl) (by kernel_rfl) (by kernel_rfl) (fun _ _ _ h => h) (Or.inl ⟨by kernel_rfl, ?_⟩) (by assumption) ?_
      rotate_left
      · intro W hSw
        try dsimp only at hSw
        go_simp
        first | done | with_reducible rfl
      try simp only [Act.put, List.setIfInBounds_toArray, List.set_cons_zero, List.set_cons_succ]
      refine take_at (i := 24) (d := 132) (oi := { dst := some 132, op := Op.pick (Operand.tmp 116) (Operand.const (Value.bool true)) (Operand.tmp 131), type := 4, pos := "law.go:73", after := #[{ on := 8, ground := Ground.data }, { on := 23, ground := Ground.data }], guard := none }) (v := ?_) (by kernel_rfl) (by kernel_rfl) (by kernel_rfl) (by kernel_rfl) (by kernel_rfl) (fun _ _ _ h => h) (Or.inl ⟨by kernel_rfl, ?_⟩) (by assumption) ?_
      rotate_left
      · intro W hSw
        try dsimp only at hSw
        go_simp
        first | done | with_reducible rfl
      try simp only [Act.put, List.setIfInBounds_toArray, List.set_cons_zero, List.set_cons_succ]
      refine take_at (i := 25) (d := 133) (oi := { dst := some 133, op := Op.move (Operand.tmp 132), type := 4, pos := "law.go:73", after := #[{ on := 24, ground := Ground.data }, { on := 22, ground := Ground.chain }], guard := none }) (v := ?_) (by kernel_rfl) (by kernel_rfl) (by kernel_rfl) (by kernel_rfl) (by kernel_rfl) (fun _ _ _ h => h) (Or.inl ⟨by kernel_rfl, ?_⟩) (by assumption) ?_
      rotate_left
      · intro W hSw
        try dsimp only at hSw
        go_simp
        first | done | with_reducible rfl
      try simp only [Act.put, List.setIfInBounds_toArray, List.set_cons_zero, List.set_cons_succ]
      refine take_at (i := 26) (d := 134) (oi := { dst := some 134, op := Op.move (Operand.tmp 7), type := 25, pos := "law.go:73", after := #[{ on := 25, ground := Ground.guard }], guard := some (25, false) }) (v := ?_) (by kernel_rfl) (by kernel_rfl) (by kernel_rfl) (by kernel_rfl) (by kernel_rfl) (fun _ _ _ h => h) (Or.inl ⟨by kernel_rfl, ?_⟩) (by assumption) ?_
      rotate_left
      · intro W hSw
        try dsimp only at hSw
        go_simp
        first | done | with_reducible rfl
      try simp only [Act.put, List.setIfInBounds_toArray, List.set_cons_zero, List.set_cons_succ]
      refine take_at (i := 27) (d := 135) (oi := { dst := some 135, op := Op.move (Operand.tmp 0), type := 22, pos := "law.go:73", after := #[{ on := 25, ground := Ground.guard }], guard := some (25, false) }) (v := ?_) (by kernel_rfl) (by kernel_rfl) (by kernel_rfl) (by kernel_rfl) (by kernel_rfl) (fun _ _ _ h => h) (Or.inl ⟨by kernel_rfl, ?_⟩) (by assumption) ?_
      rotate_left
      · intro W hSw
        try dsimp only at hSw
        go_simp
        first | done | with_reducible rfl
      try simp only [Act.put, List.setIfInBounds_toArray, List.set_cons_zero, List.set_cons_succ]
      refine take_at (i := 28) (d := 136) (oi := { dst := some 136, op := Op.move (Operand.tmp 9), type := 3, pos := "law.go:73", after := #[{ on := 25, ground := Ground.guard }], guard := some (25, false) }) (v := ?_) (by kernel_rfl) (by kernel_rfl) (by kernel_rfl) (by kernel_rfl) (by kernel_rfl) (fun _ _ _ h => h) (Or.inl ⟨by kernel_rfl, ?_⟩) (by assumption) ?_
      rotate_left
      · intro W hSw
        try dsimp only at hSw
        go_simp
        first | done | with_reducible rfl
      try simp only [Act.put, List.setIfInBounds_toArray, List.set_cons_zero, List.set_cons_succ]
      refine take_at (i := 29) (d := 137) (oi := { dst := some 137, op := Op.indexAddr 22 (Operand.tmp 135) (Operand.tmp 136), type := 0, pos := "law.go:73", after := #[{ on := 27, ground := Ground.data }, { on := 28, ground := Ground.data }, { on := 25, ground := Ground.guard }], guard := some (25, false) }) (v := ?_) (by kernel_rfl) (by kernel_rfl) (by kernel_rfl) (by kernel_rfl) (by kernel_rfl) (fun _ _ _ h => h) (Or.inl ⟨by kernel_rfl, ?_⟩) (by assumption) ?_
      rotate_left
      · intro W hSw
        try dsimp only at hSw
        go_simp
        first | done | with_reducible rfl
      try simp only [Act.put, List.setIfInBounds_toArray, List.set_cons_zero, List.set_cons_succ]
      refine take_at (i := 30) (d := 138) (oi := { dst := some 138, op := Op.fieldAddr 36 (Operand.tmp 137) 0, type := 0, pos := "law.go:73", after := #[{ on := 29, ground := Ground.data }, { on := 25, ground := Ground.guard }], guard := some (25, false) }) (v := ?_) (by kernel_rfl) (by kernel_rfl) (by kernel_rfl) (by kernel_rfl) (by kernel_rfl) (fun _ _ _ h => h) (Or.inl ⟨by kernel_rfl, ?_⟩) (by assumption) ?_
      rotate_left
      · intro W hSw
        try dsimp only at hSw
        go_simp
        first | done | with_reducible rfl
      try simp only [Act.put, List.setIfInBounds_toArray, List.set_cons_zero, List.set_cons_succ]
      refine take_at (i := 31) (d := 139) (oi := { dst := some 139, op := Op.load 9 (Operand.tmp 138), type := 9, pos := "law.go:73", after := #[{ on := 30, ground := Ground.data }, { on := 25, ground := Ground.guard }], guard := some (25, false) }) (v := ?_) (by kernel_rfl) (by kernel_rfl) (by kernel_rfl) (by kernel_rfl) (by kernel_rfl) (fun _ _ _ h => h) (Or.inl ⟨by kernel_rfl, ?_⟩) (by assumption) ?_
      rotate_left
      · intro W hSw
        try dsimp only at hSw
        obtain ⟨⟨p0, p1, p2⟩, p3⟩ := hSw
        go_simp
        first | done | with_reducible rfl
      try simp only [Act.put, List.setIfInBounds_toArray, List.set_cons_zero, List.set_cons_succ]
      refine take_at (i := 33) (d := 141) (oi := { dst := some 141, op := Op.move (Operand.tmp 8), type := 29, pos := "law.go:73", after := #[{ on := 25, ground := Ground.guard }], guard := some (25, false) }) (v := ?_) (by kernel_rfl) (by kernel_rfl) (by kernel_rfl) (by kernel_rfl) (by kernel_rfl) (fun _ _ _ h => h) (Or.inl ⟨by kernel_rfl, ?_⟩) (by assumption) ?_
      rotate_left
      · intro W hSw
        try dsimp only at hSw
        go_simp
        first | done | with_reducible rfl
      try simp only [Act.put, List.setIfInBounds_toArray, List.set_cons_zero, List.set_cons_succ]
      refine take_at (i := 34) (d := 142) (oi := { dst := some 142, op := Op.move (Operand.tmp 0), type := 22, pos := "law.go:73", after := #[{ on := 25, ground := Ground.guard }], guard := some (25, false) }) (v := ?_) (by kernel_rfl) (by kernel_rfl) (by kernel_rfl) (by kernel_rfl) (by kernel_rfl) (fun _ _ _ h => h) (Or.inl ⟨by kernel_rfl, ?_⟩) (by assumption) ?_
      rotate_left
      · intro W hSw
        try dsimp only at hSw
        go_simp
        first | done | with_reducible rfl
      try simp only [Act.put, List.setIfInBounds_toArray, List.set_cons_zero, List.set_cons_succ]
      refine take_at (i := 35) (d := 143) (oi := { dst := some 143, op := Op.move (Operand.tmp 9), type := 3, pos := "law.go:73", after := #[{ on := 25, ground := Ground.guard }], guard := some (25, false) }) (v := ?_) (by kernel_rfl) (by kernel_rfl) (by kernel_rfl) (by kernel_rfl) (by kernel_rfl) (fun _ _ _ h => h) (Or.inl ⟨by kernel_rfl, ?_⟩) (by assumption) ?_
      rotate_left
      · intro W hSw
        try dsimp only at hSw
        go_simp
        first | done | with_reducible rfl
      try simp only [Act.put, List.setIfInBounds_toArray, List.set_cons_zero, List.set_cons_succ]
      refine take_at (i := 36) (d := 144) (oi := { dst := some 144, op := Op.indexAddr 22 (Operand.tmp 142) (Operand.tmp 143), type := 0, pos := "law.go:73", after := #[{ on := 34, ground := Ground.data }, { on := 35, ground := Ground.data }, { on := 25, ground := Ground.guard }], guard := some (25, false) }) (v := ?_) (by kernel_rfl) (by kernel_rfl) (by kernel_rfl) (by kernel_rfl) (by kernel_rfl) (fun _ _ _ h => h) (Or.inl ⟨by kernel_rfl, ?_⟩) (by assumption) ?_
      rotate_left
      · intro W hSw
        try dsimp only at hSw
        go_simp
        first | done | with_reducible rfl
      try simp only [Act.put, List.setIfInBounds_toArray, List.set_cons_zero, List.set_cons_succ]
      refine take_at (i := 37) (d := 145) (oi := { dst := some 145, op := Op.fieldAddr 36 (Operand.tmp 144) 0, type := 0, pos := "law.go:73", after := #[{ on := 36, ground := Ground.data }, { on := 25, ground := Ground.guard }], guard := some (25, false) }) (v := ?_) (by kernel_rfl) (by kernel_rfl) (by kernel_rfl) (by kernel_rfl) (by kernel_rfl) (fun _ _ _ h => h) (Or.inl ⟨by kernel_rfl, ?_⟩) (by assumption) ?_
      rotate_left
      · intro W hSw
        try dsimp only at hSw
        go_simp
        first | done | with_reducible rfl
      try simp only [Act.put, List.setIfInBounds_toArray, List.set_cons_zero, List.set_cons_succ]
      refine take_at (i := 38) (d := 146) (oi := { dst := some 146, op := Op.load 9 (Operand.tmp 145), type := 9, pos := "law.go:73", after := #[{ on := 37, ground := Ground.data }, { on := 25, ground := Ground.guard }], guard := some (25, false) }) (v := ?_) (by kernel_rfl) (by kernel_rfl) (by kernel_rfl) (by kernel_rfl) (by kernel_rfl) (fun _ _ _ h => h) (Or.inl ⟨by kernel_rfl, ?_⟩) (by assumption) ?_
      rotate_left
      · intro W hSw
        try dsimp only at hSw
        obtain ⟨⟨p0, p1, p2⟩, p3⟩ := hSw
        go_simp
        first | done | with_reducible rfl
      try simp only [Act.put, List.setIfInBounds_toArray, List.set_cons_zero, List.set_cons_succ]
      refine wpAnyH_ready (rs := [32]) (by kernel_rfl) (by simp) (AllReadyH.cons (o := { dst := some 140, op := Op.call { callee := Callee.value (Operand.func 15), args := #[Operand.tmp 134, Operand.tmp 139], argTypes := #[25, 9] }, type := 3, pos := "law.go:73", after := #[{ on := 26, ground := Ground.data }, { on := 31, ground := Ground.data }, { on := 25, ground := Ground.chain }, { on := 25, ground := Ground.guard }], guard := some (25, false) }) (by kernel_rfl) (fun K hK => ?_) AllReadyH.nil)
      go_simp
      refine (HSTP.out).mono ?_
      rintro e w7 ⟨rfl, rfl⟩
      try go_wp2_with fail
      refine hK.out _ _ ?_ (fun hHeld => ?_)
      · try dsimp only
        exact ⟨HC6.out _ (Below.refl _ _).drew, HIDS.out _ (Below.refl _ _).drew⟩
      clear hK K
      try simp only [Act.put, List.setIfInBounds_toArray, List.set_cons_zero, List.set_cons_succ]
      refine wpAnyH_ready (rs := [39]) (by kernel_rfl) (by simp) (AllReadyH.cons (o := { dst := some 147, op := Op.call { callee := Callee.value (Operand.func 16), args := #[Operand.tmp 141, Operand.tmp 146], argTypes := #[29, 9] }, type := 3, pos := "law.go:73", after := #[{ on := 33, ground := Ground.data }, { on := 38, ground := Ground.data }, { on := 32, ground := Ground.chain }, { on := 25, ground := Ground.guard }], guard := some (25, false) }) (by kernel_rfl) (fun K hK => ?_) AllReadyH.nil)
      go_simp
      refine (HSTD.out).mono ?_
      rintro e w7 ⟨rfl, hb7⟩
      have HB7 := Lib.hid ((Below.refl w6.heap.size w6).drew.trans hb7)
      clear hb7
      try go_wp2_with fail
      refine hK.out _ _ ?_ (fun hHeld => ?_)
      · try dsimp only
        exact ⟨HC6.out _ HB7.out, HIDS.out _ HB7.out⟩
      clear hK K
      try simp only [Act.put, List.setIfInBounds_toArray, List.set_cons_zero, List.set_cons_succ]
      refine take_at (i := 40) (d := 148) (oi := { dst := some 148, op := Op.binOp BinOp.neq 3 (Operand.tmp 140) (Operand.tmp 147) 3, type := 4, pos := "law.go:73", after := #[{ on := 32, ground := Ground.data }, { on := 39, ground := Ground.data }, { on := 25, ground := Ground.guard }], guard := some (25, false) }) (v := ?_) (by kernel_rfl) (by kernel_rfl) (by kernel_rfl) (by kernel_rfl) (by kernel_rfl) (fun _ _ _ h => h) (Or.inl ⟨by kernel_rfl, ?_⟩) (by assumption) ?_
      rotate_left
      · intro W hSw
        try dsimp only at hSw
        go_simp
        first | done | with_reducible rfl
      try simp only [Act.put, List.setIfInBounds_toArray, List.set_cons_zero, List.set_cons_succ]
      refine take_at (i := 41) (d := 149) (oi := { dst := some 149, op := Op.pick (Operand.tmp 133) (Operand.const (Value.bool true)) (Operand.tmp 148), type := 4, pos := "law.go:73", after := #[{ on := 25, ground := Ground.data }, { on := 40, ground := Ground.data }], guard := none }) (v := ?_) (by kernel_rfl) (by kernel_rfl) (by kernel_rfl) (by kernel_rfl) (by kernel_rfl) (fun _ _ _ h => h) (Or.inl ⟨by kernel_rfl, ?_⟩) (by assumption) ?_
      rotate_left
      · intro W hSw
        try dsimp only at hSw
        go_simp
        first | done | with_reducible rfl
      try simp only [Act.put, List.setIfInBounds_toArray, List.set_cons_zero, List.set_cons_succ]
      refine take_at (i := 42) (d := 150) (oi := { dst := some 150, op := Op.move (Operand.tmp 149), type := 4, pos := "law.go:73", after := #[{ on := 41, ground := Ground.data }, { on := 39, ground := Ground.chain }], guard := none }) (v := ?_) (by kernel_rfl) (by kernel_rfl) (by kernel_rfl) (by kernel_rfl) (by kernel_rfl) (fun _ _ _ h => h) (Or.inl ⟨by kernel_rfl, ?_⟩) (by assumption) ?_
      rotate_left
      · intro W hSw
        try dsimp only at hSw
        go_simp
        first | done | with_reducible rfl
      try simp only [Act.put, List.setIfInBounds_toArray, List.set_cons_zero, List.set_cons_succ]
      refine take_at (i := 43) (d := 151) (oi := { dst := some 151, op := Op.move (Operand.tmp 7), type := 25, pos := "law.go:73", after := #[{ on := 42, ground := Ground.guard }], guard := some (42, false) }) (v := ?_) (by kernel_rfl) (by kernel_rfl) (by kernel_rfl) (by kernel_rfl) (by kernel_rfl) (fun _ _ _ h => h) (Or.inl ⟨by kernel_rfl, ?_⟩) (by assumption) ?_
      rotate_left
      · intro W hSw
        try dsimp only at hSw
        go_simp
        first | done | with_reducible rfl
      try simp only [Act.put, List.setIfInBounds_toArray, List.set_cons_zero, List.set_cons_succ]
      refine take_at (i := 44) (d := 152) (oi := { dst := some 152, op := Op.move (Operand.tmp 0), type := 22, pos := "law.go:73", after := #[{ on := 42, ground := Ground.guard }], guard := some (42, false) }) (v := ?_) (by kernel_rfl) (by kernel_rfl) (by kernel_rfl) (by kernel_rfl) (by kernel_rfl) (fun _ _ _ h => h) (Or.inl ⟨by kernel_rfl, ?_⟩) (by assumption) ?_
      rotate_left
      · intro W hSw
        try dsimp only at hSw
        go_simp
        first | done | with_reducible rfl
      try simp only [Act.put, List.setIfInBounds_toArray, List.set_cons_zero, List.set_cons_succ]
      refine take_at (i := 45) (d := 153) (oi := { dst := some 153, op := Op.move (Operand.tmp 9), type := 3, pos := "law.go:73", after := #[{ on := 42, ground := Ground.guard }], guard := some (42, false) }) (v := ?_) (by kernel_rfl) (by kernel_rfl) (by kernel_rfl) (by kernel_rfl) (by kernel_rfl) (fun _ _ _ h => h) (Or.inl ⟨by kernel_rfl, ?_⟩) (by assumption) ?_
      rotate_left
      · intro W hSw
        try dsimp only at hSw
        go_simp
        first | done | with_reducible rfl
      try simp only [Act.put, List.setIfInBounds_toArray, List.set_cons_zero, List.set_cons_succ]
      refine take_at (i := 46) (d := 154) (oi := { dst := some 154, op := Op.indexAddr 22 (Operand.tmp 152) (Operand.tmp 153), type := 0, pos := "law.go:73", after := #[{ on := 44, ground := Ground.data }, { on := 45, ground := Ground.data }, { on := 42, ground := Ground.guard }], guard := some (42, false) }) (v := ?_) (by kernel_rfl) (by kernel_rfl) (by kernel_rfl) (by kernel_rfl) (by kernel_rfl) (fun _ _ _ h => h) (Or.inl ⟨by kernel_rfl, ?_⟩) (by assumption) ?_
      rotate_left
      · intro W hSw
        try dsimp only at hSw
        go_simp
        first | done | with_reducible rfl
      try simp only [Act.put, List.setIfInBounds_toArray, List.set_cons_zero, List.set_cons_succ]
      refine take_at (i := 47) (d := 155) (oi := { dst := some 155, op := Op.fieldAddr 36 (Operand.tmp 154) 0, type := 0, pos := "law.go:73", after := #[{ on := 46, ground := Ground.data }, { on := 42, ground := Ground.guard }], guard := some (42, false) }) (v := ?_) (by kernel_rfl) (by kernel_rfl) (by kernel_rfl) (by kernel_rfl) (by kernel_rfl) (fun _ _ _ h => h) (Or.inl ⟨by kernel_rfl, ?_⟩) (by assumption) ?_
      rotate_left
      · intro W hSw
        try dsimp only at hSw
        go_simp
        first | done | with_reducible rfl
      try simp only [Act.put, List.setIfInBounds_toArray, List.set_cons_zero, List.set_cons_succ]
      refine take_at (i := 48) (d := 156) (oi := { dst := some 156, op := Op.load 9 (Operand.tmp 155), type := 9, pos := "law.go:73", after := #[{ on := 47, ground := Ground.data }, { on := 42, ground := Ground.guard }], guard := some (42, false) }) (v := ?_) (by kernel_rfl) (by kernel_rfl) (by kernel_rfl) (by kernel_rfl) (by kernel_rfl) (fun _ _ _ h => h) (Or.inl ⟨by kernel_rfl, ?_⟩) (by assumption) ?_
      rotate_left
      · intro W hSw
        try dsimp only at hSw
        obtain ⟨⟨p0, p1, p2⟩, p3⟩ := hSw
        go_simp
        first | done | with_reducible rfl
      try simp only [Act.put, List.setIfInBounds_toArray, List.set_cons_zero, List.set_cons_succ]
      refine take_at (i := 50) (d := 158) (oi := { dst := some 158, op := Op.move (Operand.tmp 8), type := 29, pos := "law.go:73", after := #[{ on := 42, ground := Ground.guard }], guard := some (42, false) }) (v := ?_) (by kernel_rfl) (by kernel_rfl) (by kernel_rfl) (by kernel_rfl) (by kernel_rfl) (fun _ _ _ h => h) (Or.inl ⟨by kernel_rfl, ?_⟩) (by assumption) ?_
      rotate_left
      · intro W hSw
        try dsimp only at hSw
        go_simp
        first | done | with_reducible rfl
      try simp only [Act.put, List.setIfInBounds_toArray, List.set_cons_zero, List.set_cons_succ]
      refine take_at (i := 51) (d := 159) (oi := { dst := some 159, op := Op.move (Operand.tmp 0), type := 22, pos := "law.go:73", after := #[{ on := 42, ground := Ground.guard }], guard := some (42, false) }) (v := ?_) (by kernel_rfl) (by kernel_rfl) (by kernel_rfl) (by kernel_rfl) (by kernel_rfl) (fun _ _ _ h => h) (Or.inl ⟨by kernel_rfl, ?_⟩) (by assumption) ?_
      rotate_left
      · intro W hSw
        try dsimp only at hSw
        go_simp
        first | done | with_reducible rfl
      try simp only [Act.put, List.setIfInBounds_toArray, List.set_cons_zero, List.set_cons_succ]
      refine take_at (i := 52) (d := 160) (oi := { dst := some 160, op := Op.move (Operand.tmp 9), type := 3, pos := "law.go:73", after := #[{ on := 42, ground := Ground.guard }], guard := some (42, false) }) (v := ?_) (by kernel_rfl) (by kernel_rfl) (by kernel_rfl) (by kernel_rfl) (by kernel_rfl) (fun _ _ _ h => h) (Or.inl ⟨by kernel_rfl, ?_⟩) (by assumption) ?_
      rotate_left
      · intro W hSw
        try dsimp only at hSw
        go_simp
        first | done | with_reducible rfl
      try simp only [Act.put, List.setIfInBounds_toArray, List.set_cons_zero, List.set_cons_succ]
      refine take_at (i := 53) (d := 161) (oi := { dst := some 161, op := Op.indexAddr 22 (Operand.tmp 159) (Operand.tmp 160), type := 0, pos := "law.go:73", after := #[{ on := 51, ground := Ground.data }, { on := 52, ground := Ground.data }, { on := 42, ground := Ground.guard }], guard := some (42, false) }) (v := ?_) (by kernel_rfl) (by kernel_rfl) (by kernel_rfl) (by kernel_rfl) (by kernel_rfl) (fun _ _ _ h => h) (Or.inl ⟨by kernel_rfl, ?_⟩) (by assumption) ?_
      rotate_left
      · intro W hSw
        try dsimp only at hSw
        go_simp
        first | done | with_reducible rfl
      try simp only [Act.put, List.setIfInBounds_toArray, List.set_cons_zero, List.set_cons_succ]
      refine take_at (i := 54) (d := 162) (oi := { dst := some 162, op := Op.fieldAddr 36 (Operand.tmp 161) 0, type := 0, pos := "law.go:73", after := #[{ on := 53, ground := Ground.data }, { on := 42, ground := Ground.guard }], guard := some (42, false) }) (v := ?_) (by kernel_rfl) (by kernel_rfl) (by kernel_rfl) (by kernel_rfl) (by kernel_rfl) (fun _ _ _ h => h) (Or.inl ⟨by kernel_rfl, ?_⟩) (by assumption) ?_
      rotate_left
      · intro W hSw
        try dsimp only at hSw
        go_simp
        first | done | with_reducible rfl
      try simp only [Act.put, List.setIfInBounds_toArray, List.set_cons_zero, List.set_cons_succ]
      refine take_at (i := 55) (d := 163) (oi := { dst := some 163, op := Op.load 9 (Operand.tmp 162), type := 9, pos := "law.go:73", after := #[{ on := 54, ground := Ground.data }, { on := 42, ground := Ground.guard }], guard := some (42, false) }) (v := ?_) (by kernel_rfl) (by kernel_rfl) (by kernel_rfl) (by kernel_rfl) (by kernel_rfl) (fun _ _ _ h => h) (Or.inl ⟨by kernel_rfl, ?_⟩) (by assumption) ?_
      rotate_left
      · intro W hSw
        try dsimp only at hSw
        obtain ⟨⟨p0, p1, p2⟩, p3⟩ := hSw
        go_simp
        first | done | with_reducible rfl
      try simp only [Act.put, List.setIfInBounds_toArray, List.set_cons_zero, List.set_cons_succ]
      refine wpAnyH_ready (rs := [49]) (by kernel_rfl) (by simp) (AllReadyH.cons (o := { dst := some 157, op := Op.call { callee := Callee.value (Operand.func 17), args := #[Operand.tmp 151, Operand.tmp 156], argTypes := #[25, 9] }, type := 23, pos := "law.go:73", after := #[{ on := 43, ground := Ground.data }, { on := 48, ground := Ground.data }, { on := 42, ground := Ground.chain }, { on := 42, ground := Ground.guard }], guard := some (42, false) }) (by kernel_rfl) (fun K hK => ?_) AllReadyH.nil)
      go_simp
      refine (HPAR.out w7 HB7.out).mono ?_
      rintro e w8 ⟨u8, rfl, hu8, hb8⟩
      have HB8 := Lib.hid (HB7.out.trans (hb8.mono HB7.out.size))
      have HU8 := Lib.hid hu8
      clear hu8 hb8
      try go_wp2_with fail
      refine hK.out _ _ ?_ (fun hHeld => ?_)
      · try dsimp only
        exact ⟨HC6.out _ HB8.out, HIDS.out _ HB8.out⟩
      clear hK K
      try simp only [Act.put, List.setIfInBounds_toArray, List.set_cons_zero, List.set_cons_succ]
      refine wpAnyH_ready (rs := [56]) (by kernel_rfl) (by simp) (AllReadyH.cons (o := { dst := some 164, op := Op.call { callee := Callee.value (Operand.func 18), args := #[Operand.tmp 158, Operand.tmp 163], argTypes := #[29, 9] }, type := 23, pos := "law.go:73", after := #[{ on := 50, ground := Ground.data }, { on := 55, ground := Ground.data }, { on := 49, ground := Ground.chain }, { on := 42, ground := Ground.guard }], guard := some (42, false) }) (by kernel_rfl) (fun K hK => ?_) AllReadyH.nil)
      go_simp
      refine (HPARD.out w8 HB8.out).mono ?_
      rintro e w9 ⟨u9, rfl, hu9, hb9⟩
      have HB9 := Lib.hid (HB8.out.trans (hb9.mono HB8.out.size))
      have HU9 := Lib.hid hu9.slv
      have HU89 := Lib.hid (HU8.out.below hb9).slv
      clear hu9 hb9
      try go_wp2_with fail
      refine hK.out _ _ ?_ (fun hHeld => ?_)
      · try dsimp only
        exact ⟨HC6.out _ HB9.out, HIDS.out _ HB9.out⟩
      clear hK K
      try simp only [Act.put, List.setIfInBounds_toArray, List.set_cons_zero, List.set_cons_succ]
      refine wpAnyH_ready (rs := [57]) (by kernel_rfl) (by simp) (AllReadyH.cons (o := { dst := some 165, op := Op.call { callee := Callee.value (Operand.func 11), args := #[Operand.tmp 157, Operand.tmp 164], argTypes := #[23, 23] }, type := 4, pos := "law.go:73", after := #[{ on := 49, ground := Ground.data }, { on := 56, ground := Ground.data }, { on := 56, ground := Ground.chain }, { on := 42, ground := Ground.guard }], guard := some (42, false) }) (by kernel_rfl) (fun K hK => ?_) AllReadyH.nil)
      go_simp
      refine (texts_same _ _ L2 w9 HU89.out HU9.out).mono ?_
      rintro e w10 ⟨rfl, hb10⟩
      have HB13 := Lib.hid (HB9.out.trans (hb10.mono HB9.out.size))
      clear hb10
      try go_wp2_with fail
      refine hK.out _ _ ?_ (fun hHeld => ?_)
      · try dsimp only
        exact ⟨HC6.out _ HB13.out, HIDS.out _ HB13.out⟩
      clear hK K
      try simp only [Act.put, List.setIfInBounds_toArray, List.set_cons_zero, List.set_cons_succ]
      refine take_at (i := 58) (d := 166) (oi := { dst := some 166, op := Op.unOp UnOp.not 4 (Operand.tmp 165), type := 4, pos := "law.go:73", after := #[{ on := 57, ground := Ground.data }, { on := 42, ground := Ground.guard }], guard := some (42, false) }) (v := ?_) (by kernel_rfl) (by kernel_rfl) (by kernel_rfl) (by kernel_rfl) (by kernel_rfl) (fun _ _ _ h => h) (Or.inl ⟨by kernel_rfl, ?_⟩) (by assumption) ?_
      rotate_left
      · intro W hSw
        try dsimp only at hSw
        go_simp
        first | done | with_reducible rfl
      try simp only [Act.put, List.setIfInBounds_toArray, List.set_cons_zero, List.set_cons_succ]
      refine take_at (i := 59) (d := 167) (oi := { dst := some 167, op := Op.pick (Operand.tmp 150) (Operand.const (Value.bool true)) (Operand.tmp 166), type := 4, pos := "law.go:73", after := #[{ on := 42, ground := Ground.data }, { on := 58, ground := Ground.data }], guard := none }) (v := ?_) (by kernel_rfl) (by kernel_rfl) (by kernel_rfl) (by kernel_rfl) (by kernel_rfl) (fun _ _ _ h => h) (Or.inl ⟨by kernel_rfl, ?_⟩) (by assumption) ?_
      rotate_left
      · intro W hSw
        try dsimp only at hSw
        go_simp
        first | done | with_reducible rfl
      try simp only [Act.put, List.setIfInBounds_toArray, List.set_cons_zero, List.set_cons_succ]
      refine wpAnyH_done (by kernel_rfl) ?_ _
      go_wp2_with fail
      go_roundw
      case rel => exact ⟨k + 1, by omega, by go_num, by rw [HS.out]; exact HO6'.out.below HB13.out⟩
      case measure => simp [intOf]; omega
    · obtain rfl : k = len0 := by omega
      have hgk := gk_made HFN.out HSTN.out k (by rw [HL.out]; exact Nat.le_refl _)
      obtain ⟨G, hG⟩ : ∃ G, madeG (xs.take k) = G := ⟨_, rfl⟩
      rw [hG] at HB hgk hbo
      have bt := hbo.tail (ts := ts) (b := b) hgk.w (hgk.gs (by omega)) (by have := hgk.len; omega) (by have := HFT.out.1; omega) (fun s hs => by have := HFT.out.2 s hs; omega) (by omega)
      obtain ⟨La, na, hanc⟩ := bt.anc
      obtain ⟨Lb, nb, hbas⟩ := bt.bas
      obtain ⟨Lt, nt, htop⟩ := bt.top
      obtain ⟨no, hord⟩ := bt.ord
      have HANC := Lib.hid hanc
      have HBAS := Lib.hid hbas
      have HTOP := Lib.hid htop
      have HORD := Lib.hid hord
      have HIS := Lib.hid bt.is_
      have HCP := Lib.hid (copyt_any (.slice a1 len1 cap1) ts wr (HTS.out.below hbo.b) (by have := HFT.out.1; omega))
      have HTW := Lib.hid (HTS.out.below hbo.b)
      have HWB := Lib.hid hbo.b
      clear hgk hG hbo bt hanc hbas htop hord
      go_wp2_with fail
      refine (HCP.out).mono ?_
      rintro e wt0 ⟨u, rfl, hu, hb⟩
      have HW0 := Lib.hid hb
      have HVu_0 := Lib.hid hu.slv
      have HVt_0 := Lib.hid (HTW.out.below hb)
      clear hu hb
      go_wp2_with fail
      refine (HANC.out wt0 _ HW0.out HVu_0.out).1.mono ?_
      rintro e wt1 ⟨hb, v0, rfl, ho⟩
      have HVu_1 := Lib.hid (HVu_0.out.below hb)
      have HVt_1 := Lib.hid (HVt_0.out.below hb)
      have HW1 := Lib.hid (HW0.out.trans (hb.mono HW0.out.size))
      have HV0_1 := Lib.hid ho.slv
      clear hb ho
      go_wp2_with fail
      refine (HANC.out wt1 _ HW1.out HVt_1.out).2.mono ?_
      rintro e wt2 ⟨hb, v1, rfl, ho⟩
      have HVu_2 := Lib.hid (HVu_1.out.below hb)
      have HVt_2 := Lib.hid (HVt_1.out.below hb)
      have HV0_2 := Lib.hid (HV0_1.out.below hb)
      have HW2 := Lib.hid (HW1.out.trans (hb.mono HW1.out.size))
      have HV1_2 := Lib.hid ho.slv
      clear hb ho
      go_wp2_with fail
      refine (HBAS.out wt2 _ HW2.out HVu_2.out).1.mono ?_
      rintro e wt3 ⟨hb, v2, rfl, ho⟩
      have HVu_3 := Lib.hid (HVu_2.out.below hb)
      have HVt_3 := Lib.hid (HVt_2.out.below hb)
      have HV0_3 := Lib.hid (HV0_2.out.below hb)
      have HV1_3 := Lib.hid (HV1_2.out.below hb)
      have HW3 := Lib.hid (HW2.out.trans (hb.mono HW2.out.size))
      have HV2_3 := Lib.hid ho.slv
      clear hb ho
      go_wp2_with fail
      refine (HBAS.out wt3 _ HW3.out HVt_3.out).2.mono ?_
      rintro e wt4 ⟨hb, v3, rfl, ho⟩
      have HVu_4 := Lib.hid (HVu_3.out.below hb)
      have HVt_4 := Lib.hid (HVt_3.out.below hb)
      have HV0_4 := Lib.hid (HV0_3.out.below hb)
      have HV1_4 := Lib.hid (HV1_3.out.below hb)
      have HV2_4 := Lib.hid (HV2_3.out.below hb)
      have HW4 := Lib.hid (HW3.out.trans (hb.mono HW3.out.size))
      have HV3_4 := Lib.hid ho.slv
      clear hb ho
      go_wp2_with fail
      refine (HTOP.out wt4 _ HW4.out HVu_4.out).1.mono ?_
      rintro e wt5 ⟨hb, v4, rfl, ho⟩
      have HVu_5 := Lib.hid (HVu_4.out.below hb)
      have HVt_5 := Lib.hid (HVt_4.out.below hb)
      have HV0_5 := Lib.hid (HV0_4.out.below hb)
      have HV1_5 := Lib.hid (HV1_4.out.below hb)
      have HV2_5 := Lib.hid (HV2_4.out.below hb)
      have HV3_5 := Lib.hid (HV3_4.out.below hb)
      have HW5 := Lib.hid (HW4.out.trans (hb.mono HW4.out.size))
      have HV4_5 := Lib.hid ho.slv
      clear hb ho
      go_wp2_with fail
      refine (HTOP.out wt5 _ HW5.out HVt_5.out).2.mono ?_
      rintro e wt6 ⟨hb, v5, rfl, ho⟩
      have HVu_6 := Lib.hid (HVu_5.out.below hb)
      have HVt_6 := Lib.hid (HVt_5.out.below hb)
      have HV0_6 := Lib.hid (HV0_5.out.below hb)
      have HV1_6 := Lib.hid (HV1_5.out.below hb)
      have HV2_6 := Lib.hid (HV2_5.out.below hb)
      have HV3_6 := Lib.hid (HV3_5.out.below hb)
      have HV4_6 := Lib.hid (HV4_5.out.below hb)
      have HW6 := Lib.hid (HW5.out.trans (hb.mono HW5.out.size))
      have HV5_6 := Lib.hid ho.slv
      clear hb ho
      go_wp2_with fail
      refine (HORD.out wt6 _ HW6.out HVu_6.out).mono ?_
      rintro e wt7 ⟨Lo, ⟨hb, v6, rfl, ho⟩, hord⟩
      have HORD2 := Lib.hid hord
      clear hord
      have HVu_7 := Lib.hid (HVu_6.out.below hb)
      have HVt_7 := Lib.hid (HVt_6.out.below hb)
      have HV0_7 := Lib.hid (HV0_6.out.below hb)
      have HV1_7 := Lib.hid (HV1_6.out.below hb)
      have HV2_7 := Lib.hid (HV2_6.out.below hb)
      have HV3_7 := Lib.hid (HV3_6.out.below hb)
      have HV4_7 := Lib.hid (HV4_6.out.below hb)
      have HV5_7 := Lib.hid (HV5_6.out.below hb)
      have HW7 := Lib.hid (HW6.out.trans (hb.mono HW6.out.size))
      have HV6_7 := Lib.hid ho.slv
      clear hb ho
      go_wp2_with fail
      refine (HORD2.out wt7 _ HW7.out HVt_7.out).mono ?_
      rintro e wt8 ⟨hb, v7, rfl, ho⟩
      have HVu_8 := Lib.hid (HVu_7.out.below hb)
      have HVt_8 := Lib.hid (HVt_7.out.below hb)
      have HV0_8 := Lib.hid (HV0_7.out.below hb)
      have HV1_8 := Lib.hid (HV1_7.out.below hb)
      have HV2_8 := Lib.hid (HV2_7.out.below hb)
      have HV3_8 := Lib.hid (HV3_7.out.below hb)
      have HV4_8 := Lib.hid (HV4_7.out.below hb)
      have HV5_8 := Lib.hid (HV5_7.out.below hb)
      have HV6_8 := Lib.hid (HV6_7.out.below hb)
      have HW8 := Lib.hid (HW7.out.trans (hb.mono HW7.out.size))
      have HV7_8 := Lib.hid ho.slv
      clear hb ho
      go_wp2_with fail
      refine (texts_same _ _ La wt8 HV0_8.out HV1_8.out).mono ?_
      rintro e wt9 ⟨rfl, hb⟩
      have HVu_9 := Lib.hid (HVu_8.out.below hb)
      have HVt_9 := Lib.hid (HVt_8.out.below hb)
      have HV0_9 := Lib.hid (HV0_8.out.below hb)
      have HV1_9 := Lib.hid (HV1_8.out.below hb)
      have HV2_9 := Lib.hid (HV2_8.out.below hb)
      have HV3_9 := Lib.hid (HV3_8.out.below hb)
      have HV4_9 := Lib.hid (HV4_8.out.below hb)
      have HV5_9 := Lib.hid (HV5_8.out.below hb)
      have HV6_9 := Lib.hid (HV6_8.out.below hb)
      have HV7_9 := Lib.hid (HV7_8.out.below hb)
      have HW9 := Lib.hid (HW8.out.trans (hb.mono HW8.out.size))
      clear hb
      go_wp2_with fail
      refine (texts_same _ _ Lb wt9 HV2_9.out HV3_9.out).mono ?_
      rintro e wt10 ⟨rfl, hb⟩
      have HVu_10 := Lib.hid (HVu_9.out.below hb)
      have HVt_10 := Lib.hid (HVt_9.out.below hb)
      have HV0_10 := Lib.hid (HV0_9.out.below hb)
      have HV1_10 := Lib.hid (HV1_9.out.below hb)
      have HV2_10 := Lib.hid (HV2_9.out.below hb)
      have HV3_10 := Lib.hid (HV3_9.out.below hb)
      have HV4_10 := Lib.hid (HV4_9.out.below hb)
      have HV5_10 := Lib.hid (HV5_9.out.below hb)
      have HV6_10 := Lib.hid (HV6_9.out.below hb)
      have HV7_10 := Lib.hid (HV7_9.out.below hb)
      have HW10 := Lib.hid (HW9.out.trans (hb.mono HW9.out.size))
      clear hb
      go_wp2_with fail
      refine (texts_same _ _ Lt wt10 HV4_10.out HV5_10.out).mono ?_
      rintro e wt11 ⟨rfl, hb⟩
      have HVu_11 := Lib.hid (HVu_10.out.below hb)
      have HVt_11 := Lib.hid (HVt_10.out.below hb)
      have HV0_11 := Lib.hid (HV0_10.out.below hb)
      have HV1_11 := Lib.hid (HV1_10.out.below hb)
      have HV2_11 := Lib.hid (HV2_10.out.below hb)
      have HV3_11 := Lib.hid (HV3_10.out.below hb)
      have HV4_11 := Lib.hid (HV4_10.out.below hb)
      have HV5_11 := Lib.hid (HV5_10.out.below hb)
      have HV6_11 := Lib.hid (HV6_10.out.below hb)
      have HV7_11 := Lib.hid (HV7_10.out.below hb)
      have HW11 := Lib.hid (HW10.out.trans (hb.mono HW10.out.size))
      clear hb
      go_wp2_with fail
      refine (texts_same _ _ Lo wt11 HV6_11.out HV7_11.out).mono ?_
      rintro e wt12 ⟨rfl, hb⟩
      have HVu_12 := Lib.hid (HVu_11.out.below hb)
      have HVt_12 := Lib.hid (HVt_11.out.below hb)
      have HV0_12 := Lib.hid (HV0_11.out.below hb)
      have HV1_12 := Lib.hid (HV1_11.out.below hb)
      have HV2_12 := Lib.hid (HV2_11.out.below hb)
      have HV3_12 := Lib.hid (HV3_11.out.below hb)
      have HV4_12 := Lib.hid (HV4_11.out.below hb)
      have HV5_12 := Lib.hid (HV5_11.out.below hb)
      have HV6_12 := Lib.hid (HV6_11.out.below hb)
      have HV7_12 := Lib.hid (HV7_11.out.below hb)
      have HW12 := Lib.hid (HW11.out.trans (hb.mono HW11.out.size))
      clear hb
      go_wp2_with fail
      refine (texts_same _ _ ts wt12 HVu_12.out HVt_12.out).mono ?_
      rintro e wt13 ⟨rfl, hb⟩
      have HVu_13 := Lib.hid (HVu_12.out.below hb)
      have HVt_13 := Lib.hid (HVt_12.out.below hb)
      have HV0_13 := Lib.hid (HV0_12.out.below hb)
      have HV1_13 := Lib.hid (HV1_12.out.below hb)
      have HV2_13 := Lib.hid (HV2_12.out.below hb)
      have HV3_13 := Lib.hid (HV3_12.out.below hb)
      have HV4_13 := Lib.hid (HV4_12.out.below hb)
      have HV5_13 := Lib.hid (HV5_12.out.below hb)
      have HV6_13 := Lib.hid (HV6_12.out.below hb)
      have HV7_13 := Lib.hid (HV7_12.out.below hb)
      have HW13 := Lib.hid (HW12.out.trans (hb.mono HW12.out.size))
      clear hb
      have HBW := Lib.hid (HWB.out.trans (HW13.out.mono HWB.out.size))
      have HFST := Lib.hid ((gfirst_any wt13.drew).mono fun e w9 (hp : Yes _ e w9) => (⟨hp.1, (HW13.out.drew.trans (hp.2.mono HW13.out.drew.size))⟩ : e = .returned (.bool true) ∧ Below wr.heap.size wr w9))
      by_cases hz : len1 = 0
      · subst hz
        as_aux_lemma =>
        go_wp2_with fail
        refine wp_region_held_drew (S := (fun W => True)) (by kernel_rfl) ?_ (fun hHeld => ?_)
        · try dsimp only
          all_goals trivial
        refine wpAnyH_ready (rs := [0]) (by kernel_rfl) (by simp) (AllReadyH.cons rfl (fun K hK => ?_) AllReadyH.nil)
        go_simp
        refine (HFST.out).mono ?_
        rintro e wf ⟨rfl, hbf⟩
        have HRF := Lib.hid hbf
        clear hbf
        try go_wp2_with fail
        refine hK.out _ _ ?_ (fun hHeld => ?_)
        · try dsimp only
          all_goals trivial
        clear hK K
        try simp only [Act.put, List.setIfInBounds_toArray, List.set_cons_zero, List.set_cons_succ]
        refine take_at (i := 1) (d := 269) (v := ?_) rfl (by kernel_rfl) (by kernel_rfl) (by kernel_rfl) (by kernel_rfl) (fun _ _ _ h => h) (Or.inl ⟨by kernel_rfl, ?_⟩) (by assumption) ?_
        rotate_left
        · intro W hSw
          try dsimp only at hSw
          go_simp
          first | done | with_reducible rfl
        try simp only [Act.put, List.setIfInBounds_toArray, List.set_cons_zero, List.set_cons_succ]
        refine take_at (i := 2) (d := 270) (v := ?_) rfl (by kernel_rfl) (by kernel_rfl) (by kernel_rfl) (by kernel_rfl) (fun _ _ _ h => h) (Or.inl ⟨by kernel_rfl, ?_⟩) (by assumption) ?_
        rotate_left
        · intro W hSw
          try dsimp only at hSw
          go_simp
          first | done | with_reducible rfl
        try simp only [Act.put, List.setIfInBounds_toArray, List.set_cons_zero, List.set_cons_succ]
        refine take_at (i := 3) (d := 271) (v := ?_) rfl (by kernel_rfl) (by kernel_rfl) (by kernel_rfl) (by kernel_rfl) (fun _ _ _ h => h) (Or.inl ⟨by kernel_rfl, ?_⟩) (by assumption) ?_
        rotate_left
        · intro W hSw
          try dsimp only at hSw
          go_simp
          first | done | with_reducible rfl
        try simp only [Act.put, List.setIfInBounds_toArray, List.set_cons_zero, List.set_cons_succ]
        refine take_at (i := 4) (d := 272) (v := ?_) rfl (by kernel_rfl) (by kernel_rfl) (by kernel_rfl) (by kernel_rfl) (fun _ _ _ h => h) (Or.inl ⟨by kernel_rfl, ?_⟩) (by assumption) ?_
        rotate_left
        · intro W hSw
          try dsimp only at hSw
          go_simp
          first | done | with_reducible rfl
        try simp only [Act.put, List.setIfInBounds_toArray, List.set_cons_zero, List.set_cons_succ]
        refine take_at (i := 5) (d := 273) (v := ?_) rfl (by kernel_rfl) (by kernel_rfl) (by kernel_rfl) (by kernel_rfl) (fun _ _ _ h => h) (Or.inl ⟨by kernel_rfl, ?_⟩) (by assumption) ?_
        rotate_left
        · intro W hSw
          try dsimp only at hSw
          go_simp
          first | done | with_reducible rfl
        try simp only [Act.put, List.setIfInBounds_toArray, List.set_cons_zero, List.set_cons_succ]
        refine take_at (i := 6) (d := 274) (v := undef) rfl (by kernel_rfl) (by kernel_rfl) (by kernel_rfl) (by kernel_rfl) (fun _ _ _ h => h) (Or.inr ⟨by kernel_rfl, rfl⟩) (by assumption) ?_
        try simp only [Act.put, List.setIfInBounds_toArray, List.set_cons_zero, List.set_cons_succ]
        refine take_at (i := 7) (d := 275) (v := undef) rfl (by kernel_rfl) (by kernel_rfl) (by kernel_rfl) (by kernel_rfl) (fun _ _ _ h => h) (Or.inr ⟨by kernel_rfl, rfl⟩) (by assumption) ?_
        try simp only [Act.put, List.setIfInBounds_toArray, List.set_cons_zero, List.set_cons_succ]
        refine take_at (i := 8) (d := 276) (v := undef) rfl (by kernel_rfl) (by kernel_rfl) (by kernel_rfl) (by kernel_rfl) (fun _ _ _ h => h) (Or.inr ⟨by kernel_rfl, rfl⟩) (by assumption) ?_
        try simp only [Act.put, List.setIfInBounds_toArray, List.set_cons_zero, List.set_cons_succ]
        refine take_at (i := 9) (d := 277) (v := undef) rfl (by kernel_rfl) (by kernel_rfl) (by kernel_rfl) (by kernel_rfl) (fun _ _ _ h => h) (Or.inr ⟨by kernel_rfl, rfl⟩) (by assumption) ?_
        try simp only [Act.put, List.setIfInBounds_toArray, List.set_cons_zero, List.set_cons_succ]
        refine take_at (i := 10) (d := 278) (v := undef) rfl (by kernel_rfl) (by kernel_rfl) (by kernel_rfl) (by kernel_rfl) (fun _ _ _ h => h) (Or.inr ⟨by kernel_rfl, rfl⟩) (by assumption) ?_
        try simp only [Act.put, List.setIfInBounds_toArray, List.set_cons_zero, List.set_cons_succ]
        refine take_at (i := 11) (d := 279) (v := undef) rfl (by kernel_rfl) (by kernel_rfl) (by kernel_rfl) (by kernel_rfl) (fun _ _ _ h => h) (Or.inr ⟨by kernel_rfl, rfl⟩) (by assumption) ?_
        try simp only [Act.put, List.setIfInBounds_toArray, List.set_cons_zero, List.set_cons_succ]
        refine take_at (i := 12) (d := 280) (v := undef) rfl (by kernel_rfl) (by kernel_rfl) (by kernel_rfl) (by kernel_rfl) (fun _ _ _ h => h) (Or.inr ⟨by kernel_rfl, rfl⟩) (by assumption) ?_
        try simp only [Act.put, List.setIfInBounds_toArray, List.set_cons_zero, List.set_cons_succ]
        refine take_at (i := 13) (d := 281) (v := undef) rfl (by kernel_rfl) (by kernel_rfl) (by kernel_rfl) (by kernel_rfl) (fun _ _ _ h => h) (Or.inr ⟨by kernel_rfl, rfl⟩) (by assumption) ?_
        try simp only [Act.put, List.setIfInBounds_toArray, List.set_cons_zero, List.set_cons_succ]
        refine take_at (i := 14) (d := 282) (v := undef) rfl (by kernel_rfl) (by kernel_rfl) (by kernel_rfl) (by kernel_rfl) (fun _ _ _ h => h) (Or.inr ⟨by kernel_rfl, rfl⟩) (by assumption) ?_
        try simp only [Act.put, List.setIfInBounds_toArray, List.set_cons_zero, List.set_cons_succ]
        refine take_at (i := 15) (d := 283) (v := undef) rfl (by kernel_rfl) (by kernel_rfl) (by kernel_rfl) (by kernel_rfl) (fun _ _ _ h => h) (Or.inr ⟨by kernel_rfl, rfl⟩) (by assumption) ?_
        try simp only [Act.put, List.setIfInBounds_toArray, List.set_cons_zero, List.set_cons_succ]
        refine take_at (i := 16) (d := 284) (v := undef) rfl (by kernel_rfl) (by kernel_rfl) (by kernel_rfl) (by kernel_rfl) (fun _ _ _ h => h) (Or.inr ⟨by kernel_rfl, rfl⟩) (by assumption) ?_
        try simp only [Act.put, List.setIfInBounds_toArray, List.set_cons_zero, List.set_cons_succ]
        refine take_at (i := 17) (d := 285) (v := undef) rfl (by kernel_rfl) (by kernel_rfl) (by kernel_rfl) (by kernel_rfl) (fun _ _ _ h => h) (Or.inr ⟨by kernel_rfl, rfl⟩) (by assumption) ?_
        try simp only [Act.put, List.setIfInBounds_toArray, List.set_cons_zero, List.set_cons_succ]
        refine take_at (i := 18) (d := 286) (v := undef) rfl (by kernel_rfl) (by kernel_rfl) (by kernel_rfl) (by kernel_rfl) (fun _ _ _ h => h) (Or.inr ⟨by kernel_rfl, rfl⟩) (by assumption) ?_
        try simp only [Act.put, List.setIfInBounds_toArray, List.set_cons_zero, List.set_cons_succ]
        refine take_at (i := 19) (d := 287) (v := ?_) rfl (by kernel_rfl) (by kernel_rfl) (by kernel_rfl) (by kernel_rfl) (fun _ _ _ h => h) (Or.inl ⟨by kernel_rfl, ?_⟩) (by assumption) ?_
        rotate_left
        · intro W hSw
          try dsimp only at hSw
          go_simp
          first | done | with_reducible rfl
        try simp only [Act.put, List.setIfInBounds_toArray, List.set_cons_zero, List.set_cons_succ]
        refine take_at (i := 20) (d := 288) (v := ?_) rfl (by kernel_rfl) (by kernel_rfl) (by kernel_rfl) (by kernel_rfl) (fun _ _ _ h => h) (Or.inl ⟨by kernel_rfl, ?_⟩) (by assumption) ?_
        rotate_left
        · intro W hSw
          try dsimp only at hSw
          go_simp
          first | done | with_reducible rfl
        try simp only [Act.put, List.setIfInBounds_toArray, List.set_cons_zero, List.set_cons_succ]
        refine take_at (i := 21) (d := 6) (v := ?_) rfl (by kernel_rfl) (by kernel_rfl) (by kernel_rfl) (by kernel_rfl) (fun _ _ _ h => h) (Or.inl ⟨by kernel_rfl, ?_⟩) (by assumption) ?_
        rotate_left
        · intro W hSw
          try dsimp only at hSw
          go_simp
          first | done | with_reducible rfl
        try simp only [Act.put, List.setIfInBounds_toArray, List.set_cons_zero, List.set_cons_succ]
        refine wpAnyH_done (by kernel_rfl) ?_ _
        go_wp2_with fail
        go_ret
        exact ⟨rfl, HWB.out.trans (HRF.out.mono HWB.out.size)⟩
      · have hz0 : (0 : Int) < (len1 : Int) := by omega
        have hzn : ¬ ((len1 : Int) = 0) := by omega
        have hzp : 0 < len1 := by omega
        have hzb : ((len1 : Int) == 0) = false := beq_eq_false_iff_ne.2 hzn
        obtain ⟨xa, hxa⟩ : ∃ x, ts[0]? = some x := ⟨_, List.getElem?_eq_getElem (by rw [HTL.out]; omega)⟩
        have hxs : xa.size ≤ 1000000 := by have := HFT.out.2 xa (List.mem_of_getElem? hxa); omega
        obtain ⟨ti, hisx⟩ := HIS.out xa hxs
        have HISX := Lib.hid hisx
        obtain ⟨ada, rfl, ca⟩ := gtext_cell HTW.out 0 xa hxa
        have HCX : Hid (∀ W, Below wr.heap.size wr W → W.cell? ada = some (.string xa)) := fun W hW => (hW.cell (World.block_lt_of_cell? wr _ ca)).trans ca
        clear hisx hxa hxs ca
        as_aux_lemma =>
        go_wp2_with fail
        refine wp_region_held_drew (S := (fun W => W.cell? ada = some (.string xa))) (by kernel_rfl) ?_ (fun hHeld => ?_)
        · try dsimp only
          exact HCX.out _ HW13.out.drew
        refine wpAnyH_ready (rs := [0]) (by kernel_rfl) (by simp) (AllReadyH.cons rfl (fun K hK => ?_) AllReadyH.nil)
        go_simp
        refine (HFST.out).mono ?_
        rintro e wf ⟨rfl, hbf⟩
        have HRF := Lib.hid hbf
        clear hbf
        try go_wp2_with fail
        refine hK.out _ _ ?_ (fun hHeld => ?_)
        · try dsimp only
          exact HCX.out _ HRF.out
        clear hK K
        try simp only [Act.put, List.setIfInBounds_toArray, List.set_cons_zero, List.set_cons_succ]
        refine take_at (i := 1) (d := 269) (v := ?_) rfl (by kernel_rfl) (by kernel_rfl) (by kernel_rfl) (by kernel_rfl) (fun _ _ _ h => h) (Or.inl ⟨by kernel_rfl, ?_⟩) (by assumption) ?_
        rotate_left
        · intro W hSw
          try dsimp only at hSw
          go_simp
          first | done | with_reducible rfl
        try simp only [Act.put, List.setIfInBounds_toArray, List.set_cons_zero, List.set_cons_succ]
        refine take_at (i := 2) (d := 270) (v := ?_) rfl (by kernel_rfl) (by kernel_rfl) (by kernel_rfl) (by kernel_rfl) (fun _ _ _ h => h) (Or.inl ⟨by kernel_rfl, ?_⟩) (by assumption) ?_
        rotate_left
        · intro W hSw
          try dsimp only at hSw
          go_simp
          first | done | with_reducible rfl
        try simp only [Act.put, List.setIfInBounds_toArray, List.set_cons_zero, List.set_cons_succ]
        refine take_at (i := 3) (d := 271) (v := ?_) rfl (by kernel_rfl) (by kernel_rfl) (by kernel_rfl) (by kernel_rfl) (fun _ _ _ h => h) (Or.inl ⟨by kernel_rfl, ?_⟩) (by assumption) ?_
        rotate_left
        · intro W hSw
          try dsimp only at hSw
          go_simp
          first | done | with_reducible rfl
        try simp only [Act.put, List.setIfInBounds_toArray, List.set_cons_zero, List.set_cons_succ]
        refine take_at (i := 4) (d := 272) (v := ?_) rfl (by kernel_rfl) (by kernel_rfl) (by kernel_rfl) (by kernel_rfl) (fun _ _ _ h => h) (Or.inl ⟨by kernel_rfl, ?_⟩) (by assumption) ?_
        rotate_left
        · intro W hSw
          try dsimp only at hSw
          go_simp
          first | done | with_reducible rfl
        try simp only [Act.put, List.setIfInBounds_toArray, List.set_cons_zero, List.set_cons_succ]
        refine take_at (i := 5) (d := 273) (v := ?_) rfl (by kernel_rfl) (by kernel_rfl) (by kernel_rfl) (by kernel_rfl) (fun _ _ _ h => h) (Or.inl ⟨by kernel_rfl, ?_⟩) (by assumption) ?_
        rotate_left
        · intro W hSw
          try dsimp only at hSw
          go_simp
          first | done | with_reducible rfl
        try simp only [Act.put, List.setIfInBounds_toArray, List.set_cons_zero, List.set_cons_succ]
        refine take_at (i := 6) (d := 274) (v := ?_) rfl (by kernel_rfl) (by kernel_rfl) (by kernel_rfl) (by kernel_rfl) (fun _ _ _ h => h) (Or.inl ⟨by kernel_rfl, ?_⟩) (by assumption) ?_
        rotate_left
        · intro W hSw
          try dsimp only at hSw
          go_simp
          first | done | with_reducible rfl
        try simp only [Act.put, List.setIfInBounds_toArray, List.set_cons_zero, List.set_cons_succ]
        refine take_at (i := 7) (d := 275) (v := ?_) rfl (by kernel_rfl) (by kernel_rfl) (by kernel_rfl) (by kernel_rfl) (fun _ _ _ h => h) (Or.inl ⟨by kernel_rfl, ?_⟩) (by assumption) ?_
        rotate_left
        · intro W hSw
          try dsimp only at hSw
          go_simp
          first | done | with_reducible rfl
        try simp only [Act.put, List.setIfInBounds_toArray, List.set_cons_zero, List.set_cons_succ]
        refine take_at (i := 8) (d := 276) (v := ?_) rfl (by kernel_rfl) (by kernel_rfl) (by kernel_rfl) (by kernel_rfl) (fun _ _ _ h => h) (Or.inl ⟨by kernel_rfl, ?_⟩) (by assumption) ?_
        rotate_left
        · intro W hSw
          try dsimp only at hSw
          go_simp
          first | done | with_reducible rfl
        try simp only [Act.put, List.setIfInBounds_toArray, List.set_cons_zero, List.set_cons_succ]
        refine take_at (i := 9) (d := 277) (v := ?_) rfl (by kernel_rfl) (by kernel_rfl) (by kernel_rfl) (by kernel_rfl) (fun _ _ _ h => h) (Or.inl ⟨by kernel_rfl, ?_⟩) (by assumption) ?_
        rotate_left
        · intro W hSw
          try dsimp only at hSw
          go_simp
          first | done | with_reducible rfl
        try simp only [Act.put, List.setIfInBounds_toArray, List.set_cons_zero, List.set_cons_succ]
        refine take_at (i := 10) (d := 278) (v := ?_) rfl (by kernel_rfl) (by kernel_rfl) (by kernel_rfl) (by kernel_rfl) (fun _ _ _ h => h) (Or.inl ⟨by kernel_rfl, ?_⟩) (by assumption) ?_
        rotate_left
        · intro W hSw
          try dsimp only at hSw
          go_simp
          first | done | with_reducible rfl
        try simp only [Act.put, List.setIfInBounds_toArray, List.set_cons_zero, List.set_cons_succ]
        refine take_at (i := 12) (d := 280) (v := ?_) rfl (by kernel_rfl) (by kernel_rfl) (by kernel_rfl) (by kernel_rfl) (fun _ _ _ h => h) (Or.inl ⟨by kernel_rfl, ?_⟩) (by assumption) ?_
        rotate_left
        · intro W hSw
          try dsimp only at hSw
          go_simp
          first | done | with_reducible rfl
        try simp only [Act.put, List.setIfInBounds_toArray, List.set_cons_zero, List.set_cons_succ]
        refine take_at (i := 13) (d := 281) (v := ?_) rfl (by kernel_rfl) (by kernel_rfl) (by kernel_rfl) (by kernel_rfl) (fun _ _ _ h => h) (Or.inl ⟨by kernel_rfl, ?_⟩) (by assumption) ?_
        rotate_left
        · intro W hSw
          try dsimp only at hSw
          go_simp
          first | done | with_reducible rfl
        try simp only [Act.put, List.setIfInBounds_toArray, List.set_cons_zero, List.set_cons_succ]
        refine take_at (i := 14) (d := 282) (v := ?_) rfl (by kernel_rfl) (by kernel_rfl) (by kernel_rfl) (by kernel_rfl) (fun _ _ _ h => h) (Or.inl ⟨by kernel_rfl, ?_⟩) (by assumption) ?_
        rotate_left
        · intro W hSw
          try dsimp only at hSw
          go_simp
          first | done | with_reducible rfl
        try simp only [Act.put, List.setIfInBounds_toArray, List.set_cons_zero, List.set_cons_succ]
        refine take_at (i := 15) (d := 283) (v := ?_) rfl (by kernel_rfl) (by kernel_rfl) (by kernel_rfl) (by kernel_rfl) (fun _ _ _ h => h) (Or.inl ⟨by kernel_rfl, ?_⟩) (by assumption) ?_
        rotate_left
        · intro W hSw
          try dsimp only at hSw
          go_simp
          first | done | with_reducible rfl
        try simp only [Act.put, List.setIfInBounds_toArray, List.set_cons_zero, List.set_cons_succ]
        refine take_at (i := 16) (d := 284) (v := ?_) rfl (by kernel_rfl) (by kernel_rfl) (by kernel_rfl) (by kernel_rfl) (fun _ _ _ h => h) (Or.inl ⟨by kernel_rfl, ?_⟩) (by assumption) ?_
        rotate_left
        · intro W hSw
          try dsimp only at hSw
          go_simp
          first | done | with_reducible rfl
        try simp only [Act.put, List.setIfInBounds_toArray, List.set_cons_zero, List.set_cons_succ]
        refine wpAnyH_ready (rs := [11]) (by kernel_rfl) (by simp) (AllReadyH.cons rfl (fun K hK => ?_) AllReadyH.nil)
        go_simp
        refine ((HISX.out wf HRF.out).1).mono ?_
        rintro e wg ⟨rfl, hbg⟩
        have HBG := Lib.hid hbg
        have HRG := Lib.hid (HRF.out.trans (hbg.mono HRF.out.size))
        clear hbg
        try go_wp2_with fail
        refine hK.out _ _ ?_ (fun hHeld => ?_)
        · try dsimp only
          exact HCX.out _ HRG.out
        clear hK K
        try simp only [Act.put, List.setIfInBounds_toArray, List.set_cons_zero, List.set_cons_succ]
        refine wpAnyH_ready (rs := [17]) (by kernel_rfl) (by simp) (AllReadyH.cons rfl (fun K hK => ?_) AllReadyH.nil)
        go_simp
        refine ((HISX.out wg HRG.out).2).mono ?_
        rintro e wh ⟨rfl, hbh⟩
        have HRH := Lib.hid (HRG.out.trans (hbh.mono HRG.out.size))
        clear hbh
        try go_wp2_with fail
        refine hK.out _ _ ?_ (fun hHeld => ?_)
        · try dsimp only
          exact HCX.out _ HRH.out
        clear hK K
        try simp only [Act.put, List.setIfInBounds_toArray, List.set_cons_zero, List.set_cons_succ]
        refine take_at (i := 18) (d := 286) (v := ?_) rfl (by kernel_rfl) (by kernel_rfl) (by kernel_rfl) (by kernel_rfl) (fun _ _ _ h => h) (Or.inl ⟨by kernel_rfl, ?_⟩) (by assumption) ?_
        rotate_left
        · intro W hSw
          try dsimp only at hSw
          go_simp
          first | done | with_reducible rfl
        try simp only [Act.put, List.setIfInBounds_toArray, List.set_cons_zero, List.set_cons_succ]
        refine take_at (i := 19) (d := 287) (v := ?_) rfl (by kernel_rfl) (by kernel_rfl) (by kernel_rfl) (by kernel_rfl) (fun _ _ _ h => h) (Or.inl ⟨by kernel_rfl, ?_⟩) (by assumption) ?_
        rotate_left
        · intro W hSw
          try dsimp only at hSw
          go_simp
          first | done | with_reducible rfl
        try simp only [Act.put, List.setIfInBounds_toArray, List.set_cons_zero, List.set_cons_succ]
        refine take_at (i := 20) (d := 288) (v := ?_) rfl (by kernel_rfl) (by kernel_rfl) (by kernel_rfl) (by kernel_rfl) (fun _ _ _ h => h) (Or.inl ⟨by kernel_rfl, ?_⟩) (by assumption) ?_
        rotate_left
        · intro W hSw
          try dsimp only at hSw
          go_simp
          first | done | with_reducible rfl
        try simp only [Act.put, List.setIfInBounds_toArray, List.set_cons_zero, List.set_cons_succ]
        refine take_at (i := 21) (d := 6) (v := ?_) rfl (by kernel_rfl) (by kernel_rfl) (by kernel_rfl) (by kernel_rfl) (fun _ _ _ h => h) (Or.inl ⟨by kernel_rfl, ?_⟩) (by assumption) ?_
        rotate_left
        · intro W hSw
          try dsimp only at hSw
          go_simp
          first | done | with_reducible rfl
        try simp only [Act.put, List.setIfInBounds_toArray, List.set_cons_zero, List.set_cons_succ]
        refine wpAnyH_done (by kernel_rfl) ?_ _
        go_wp2_with fail
        go_ret
        exact ⟨rfl, HWB.out.trans (HRH.out.mono HWB.out.size)⟩
