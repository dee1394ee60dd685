/- Texts put together: YRk. -/
import Derived.Test.YteffiedolcjjlaaQa45
import Derived.Test.YteffiedolcjjlaaQa49
import Derived.Test.YteffiedolcjjlaaQa32
/- marlaw12.ReachClosed: the walk. -/
set_option linter.unusedVariables false
set_option linter.unusedSimpArgs false
namespace Go.Proofs.Yteffiedolcjjlaa.Ob
open Go.RowKit Go.Maps Go.Proofs.Yteffiedolcjjlaa.Sh
open Go.Proofs.Yteffiedolcjjlaa.Tx (OwnV SlV sv Only Rd reads_at hasT hasT_yes hasT_no hasT_iff WK RB sortT TextsPost Strict texts_at sort_strict' mem_sort uniqT uniqT_eq copyt_any runiq_any texts_same append_texts rhas_any)

/-- What the document's Decode makes of what a source told. -/
structure DecT (base : List UInt8 → Option (List UInt8)) (s : ByteArray) (t : Bool) (k : Int) (v : Value) (o : ObM) (w : World) : Prop where
  ob : ObV w v o
  few : o.items.length ≤ 400 ∧ o.parents.length ≤ 400
  is : (t && (k == 0)) = isP base s
  nx : isP base s = true → (refsL o).map str = nxP base s
  no : isP base s = false → refsL o = []
theorem objK_few : (objK 0).items.length ≤ 400 ∧ (objK 0).parents.length ≤ 400 := by decide
theorem DecT.none_ {base : List UInt8 → Option (List UInt8)} {s : ByteArray} {k : Int} {v : Value} {w : World} (hb : base s.toList = none) (h : RDecIs [] v k w) : DecT base s false k v (objK 0) w := by
  have e : isP base s = false := by unfold isP; rw [objP_none hb]; rfl
  exact ⟨h.no decB_nil, objK_few, by rw [e]; rfl, (fun h1 => by rw [e] at h1; cases h1), fun _ => rfl⟩
theorem DecT.some_ {base : List UInt8 → Option (List UInt8)} {s : ByteArray} {k : Int} {v : Value} {w : World} {x : List UInt8} (hb : base s.toList = some x) (h : RDecIs x v k w) : ∃ o, DecT base s true k v o w := by
  cases hd : decB x with
  | false =>
    have e : isP base s = false := by unfold isP; rw [objP_some hb, hd]; rfl
    have hk : (k == 0) = false := by
      rcases Classical.em (x = []) with h0 | h0
      · rw [h.short h0]; rfl
      · rw [h.form h0 hd]; rfl
    exact ⟨objK 0, h.no hd, objK_few, by rw [e, hk]; rfl, (fun h1 => by rw [e] at h1; cases h1), fun _ => rfl⟩
  | true =>
    have e : objP base s.toList = some (objR x).1 := by rw [objP_some hb, hd]; rfl
    have e2 : isP base s = true := by unfold isP; rw [e]; rfl
    obtain ⟨h0, h1⟩ := h.yes hd
    refine ⟨(objR x).1, h1, may_few (decB_may hd), by rw [e2, h0]; rfl, fun _ => ?_, fun h2 => by rw [e2] at h2; cases h2⟩
    unfold nxP
    rw [e]
    rfl
/-- An object as a struct, its slices written out. -/
theorem ObV.lit {w : World} {v : Value} {o : ObM} (h : ObV w v o) : ∃ A n c A2 n2 c2 A3 n3 c3, v = .agg #[.int .i64 o.kind, .slice A n c, .slice A2 n2 c2, .string (str o.tree), .slice A3 n3 c3, .int .i64 o.stamp, .int .i64 o.author, .string (str o.msg)] := by
  obtain ⟨d, it, ps, rfl, ⟨A, c, rfl, _⟩, ⟨A2, c2, rfl, _⟩, ⟨A3, c3, rfl, _⟩⟩ := h
  exact ⟨_, _, _, _, _, _, _, _, _, rfl⟩
set_option maxRecDepth 100000 in
set_option maxHeartbeats 6400000 in
theorem closed_any (v : Value) (l : List (List UInt8)) (va : Value) (a : List ByteArray) (w : World) (h : LsV w v l) (ha : SlV w va (a.map sv)) : Calls Try.prog 3 #[v, va] w (Yes1 w) := by
  have H := Lib.hid h
  have HA := Lib.hid ha
  obtain ⟨Aa, ca, rfl⟩ := slv_slice ha
  rw [List.length_map] at HA
  rw [List.length_map]
  obtain ⟨na, hna⟩ : ∃ n, a.length = n := ⟨_, rfl⟩
  rw [hna] at HA ⊢
  have HNA := Lib.hid hna
  clear h ha hna
  go_enter Try.func3, Try.ntmps3
  go_wp2_with fail
  refine (first12_any w).mono ?_
  rintro e w1 ⟨rfl, hb1⟩
  have HB1 := Lib.hid hb1
  clear hb1
  go_wp2_with fail
  refine (pfew_any v l w1 (H.out.below HB1.out)).mono ?_
  rintro e w2 ⟨t, rfl, ht, hb2⟩
  have HT := Lib.hid ht
  have HB2 := Lib.hid (HB1.out.trans (hb2.mono HB1.out.size))
  clear hb2 ht
  cases t with
  | false =>
    go_wp2_with fail
    refine (first12_then HB2.out HB2.out.size).mono ?_
    rintro e w3 ⟨rfl, hb3⟩
    have HB3 := Lib.hid hb3
    clear hb3
    go_wp2_with fail
    go_ret
    exact ⟨rfl, HB3.out⟩
  | true =>
  obtain ⟨hl40, hl15⟩ := HT.out rfl
  have HL40 := Lib.hid hl40
  have HL15 := Lib.hid hl15
  clear hl40 hl15
  go_wp2_with fail
  refine (few12_any _ a w2 (HA.out.below HB2.out)).mono ?_
  rintro e w' ⟨ta, rfl, hta, rfl⟩
  have HTA := Lib.hid hta
  clear hta
  cases ta with
  | false =>
    go_wp2_with fail
    refine (first12_then HB2.out HB2.out.size).mono ?_
    rintro e w3 ⟨rfl, hb3⟩
    have HB3 := Lib.hid hb3
    clear hb3
    go_wp2_with fail
    go_ret
    exact ⟨rfl, HB3.out⟩
  | true =>
  obtain ⟨ha20, has⟩ := HTA.out rfl
  have HA20 := Lib.hid ha20
  have HAS := Lib.hid has
  clear ha20 has
  have HNM : Hid (a.length ≤ 40) := by unfold Hid; have := HA20.out; omega
  have HNS : Hid (∀ n ∈ a, n.size ≤ 100) := HAS.out
  have HIA : Hid (∀ f ∈ a, f ∈ Bd l a) := fun f hf => List.mem_append_left _ hf
  have HSZ : Hid (∀ f ∈ Bd l a, f.size ≤ 1000000) := fun f hf => bd_size HNS.out hf
  go_wp2_with fail
  refine (source_any v l false w2 (H.out.below HB2.out) (by have := HL40.out; omega) (fun x hx => by have := HL15.out x hx; omega)).mono ?_
  rintro e w3 ⟨p1, p2, p3, rfl, hsrc, hb3⟩
  have HSRC := Lib.hid hsrc
  have HB3 := Lib.hid (HB2.out.trans (hb3.mono HB2.out.size))
  clear hsrc hb3
  go_wp2_with fail
  refine (cloY_any (names := a) HSRC.out HL40.out HL15.out HNM.out HIA.out (HA.out.below HB3.out) (fun s hs => HSZ.out s (HIA.out s hs)) (by have := HA20.out; omega)).mono ?_
  rintro e w4 ⟨x, y, vx, vy, hc1, rfl, hb4, hox, hoy⟩
  have HC1 := Lib.hid hc1
  have HB4 := Lib.hid (HB3.out.trans (hb4.mono HB3.out.size))
  have HSR4 := Lib.hid (HSRC.out.below hb4)
  have HOX := Lib.hid (hox.base HB3.out.size)
  have HOY := Lib.hid (hoy.base HB3.out.size)
  obtain ⟨Ax, cx, rfl⟩ := owned_slice hox
  obtain ⟨Ay, cy, rfl⟩ := owned_slice hoy
  obtain ⟨nx, hnx⟩ : ∃ n, (x.map sv).length = n := ⟨_, rfl⟩
  obtain ⟨ny, hny⟩ : ∃ n, (y.map sv).length = n := ⟨_, rfl⟩
  rw [hnx] at HOX ⊢
  rw [hny] at HOY ⊢
  rw [List.length_map] at hnx hny
  have HNX : Hid (x.length = nx ∧ y.length = ny) := ⟨hnx, hny⟩
  have hxl : nx ≤ 1840 := by rw [← hnx]; exact hc1.len.1
  have hyl : ny ≤ 1840 := by rw [← hny]; exact hc1.len.2
  clear hc1 hb4 hox hoy hnx hny
  go_wp2_with fail
  refine (copyt_any _ x w4 HOX.out.slv (by have := HNX.out; omega)).mono ?_
  rintro e w5 ⟨v5, rfl, ho5, hb5⟩
  obtain ⟨A5, c5, rfl⟩ := owned_slice ho5
  have HO5 := Lib.hid ho5
  have HB45 := Lib.hid hb5
  have HR5 := Lib.hid (own_reads (HOY.out.below hb5)).2
  have HS5 : Hid (w4.heap.size ≤ w5.heap.size) := hb5.size
  have HM5 : Hid (x.length + ny ≤ 2000000) := by unfold Hid; have := HNX.out; omega
  rw [List.length_map, HNX.out.1] at HO5 ⊢
  clear ho5 hb5
  go_wp2_with (at_builtin; refine append_texts rfl (.tmp 41) (.tmp 42) rfl w5 w4.heap.size (.slice A5 nx c5) x rfl HO5.out _ Ay ny cy y rfl HR5.out (by exact HM5.out) (by exact HS5.out) ?_; intro v6 w6 ho6 hb6; have HO6 := Lib.hid (ho6.base (Nat.le_refl _)); have HB46 : Hid (Below w4.heap.size w4 w6) := HB45.out.trans hb6; obtain ⟨A6, c6, hv6⟩ := owned_slice ho6; obtain ⟨N, hN6⟩ : ∃ n, ((x ++ y).map sv).length = n := ⟨_, rfl⟩; rw [hN6] at hv6; have HN6 := Lib.hid hN6; subst hv6; clear ho6 hb6 hN6)
  have HB6 := Lib.hid (HB4.out.trans (HB46.out.mono HB4.out.size))
  have HSR6 := Lib.hid (HSR4.out.below HB46.out)
  have HOX6 := Lib.hid (HOX.out.below HB46.out)
  have HOY6 := Lib.hid (HOY.out.below HB46.out)
  obtain ⟨al, hal⟩ : ∃ al, x ++ y = al := ⟨_, rfl⟩
  have halt : al.length = nx + ny := by rw [← hal, List.length_append]; have := HNX.out; omega
  rw [hal] at HO6 HN6
  have hNn : N = nx + ny := by have := HN6.out; rw [List.length_map] at this; omega
  have hnd : al.Nodup := by
    rw [← hal, List.nodup_append]
    refine ⟨Tx.strict_nd HC1.out.sx, Tx.strict_nd HC1.out.sy, fun s hs t ht e => ?_⟩
    subst e
    have h1 := ((HC1.out.mx s).1 hs).2
    rw [((HC1.out.my s).1 ht).2] at h1
    cases h1
  have hmem : ∀ s, s ∈ al ↔ RB (nxP (srcP l false)) a s := fun s => by
    rw [← hal, List.mem_append, HC1.out.mx, HC1.out.my]
    cases isP (srcP l false) s <;> simp
  have hul : (uniqT al).length = nx + ny := by
    rw [← halt]
    exact Nat.le_antisymm (Tx.uniqT_len al) (Tx.nodup_len hnd fun s hs => ((Tx.uniqT_spec al).2 s).2 hs)
  have HAL : Hid (al.length = N) := by unfold Hid; omega
  have HMEM := Lib.hid hmem
  have HUL := Lib.hid hul
  have hNb : N ≤ 3680 := by omega
  have HNN := Lib.hid hNn
  clear hal halt hnd hmem hul hNn
  go_wp2_with fail
  refine (rises_strict HOX6.out.slv HC1.out.sx).mono ?_
  rintro e w7 ⟨rfl, hb7⟩
  have HB67 := Lib.hid hb7
  clear hb7
  go_wp2_with fail
  refine (rises_strict (HOY6.out.below HB67.out).slv HC1.out.sy).mono ?_
  rintro e w8 ⟨rfl, hb8⟩
  have HB68 := Lib.hid (HB67.out.trans (hb8.mono HB67.out.size))
  clear hb8
  go_wp2_with fail
  refine (runiq_any _ al w8 (HO6.out.below HB68.out).slv (by have := HAL.out; omega)).mono ?_
  rintro e w9 ⟨v9, rfl, ho9, hb9⟩
  obtain ⟨A9, c9, rfl⟩ := owned_slice ho9
  have HB69 := Lib.hid (HB68.out.trans (hb9.mono HB68.out.size))
  rw [List.length_map, HUL.out, ← HNN.out]
  have zb : ((N : Int) != (N : Int)) = false := bne_self_eq_false _
  clear ho9 hb9
  have HB9 := Lib.hid (HB6.out.trans (HB69.out.mono HB6.out.size))
  have HSR9 := Lib.hid (HSR6.out.below HB69.out)
  have HOX9 := Lib.hid (HOX6.out.below HB69.out)
  have HOY9 := Lib.hid (HOY6.out.below HB69.out)
  have HO9 := Lib.hid (HO6.out.below HB69.out)
  have HA9 := Lib.hid (HA.out.below HB9.out)
  have hnab : na ≤ 20 := by have := HA20.out; have := HNA.out; omega
  go_wp2_with fail
  go_loopw [10] (fun x wr => ∃ i : Nat, i ≤ na ∧ x = .int .i64 (i : Int) ∧ wr = w9) (fun x _ => na - (intOf x).toNat)
  case atStart => exact ⟨0, Nat.zero_le _, rfl, rfl⟩
  case round =>
    obtain ⟨i, hi, rfl, rfl⟩ := hrel
    have z0 : (0 : Int) ≤ (i : Int) := by omega
    by_cases hlt : i < na
    · have z1 : (i : Int) < (na : Int) := by omega
      have hia : i < a.length := by have := HNA.out; omega
      obtain ⟨s, hs⟩ : ∃ s, a[i]? = some s := ⟨_, List.getElem?_eq_getElem hia⟩
      obtain ⟨ad, rfl, x0⟩ : ∃ ad, Aa = some ad ∧ wr.cell? (ad.add i) = some (.string s) := by
        obtain ⟨A', c', e', _, _, hrd, _⟩ := HA9.out
        injection e' with e' _ _
        subst e'
        exact reads_at hrd i (sv s) (by rw [List.getElem?_map, hs]; rfl)
      have HH := Lib.hid (rhas_any (.slice A6 N c6) al s wr HO9.out.slv)
      rw [hasT_yes ((HMEM.out s).2 (.here (List.mem_of_getElem? hs)))] at HH
      clear hia hs
      go_wp2_with fail
      refine HH.out.mono ?_
      rintro e w' ⟨rfl, rfl⟩
      go_wp2_with fail
      go_roundw
      case rel => exact ⟨i + 1, by omega, by go_num, trivial⟩
      case measure => simp [intOf]; omega
    · obtain rfl : i = na := by omega
      obtain ⟨wo, hwo⟩ : ∃ W, W = wr := ⟨_, rfl⟩
      subst hwo
      go_wp2_with fail
      go_loopw [11] (fun x wr => ∃ j : Nat, j ≤ N ∧ x = .int .i64 (j : Int) ∧ Below wo.heap.size wo wr) (fun x _ => N - (intOf x).toNat)
      case atStart => exact ⟨0, Nat.zero_le _, rfl, Below.refl _ _⟩
      case round =>
        obtain ⟨j, hj, rfl, hbw⟩ := hrel
        have HBW := Lib.hid hbw
        clear hbw
        have z0 : (0 : Int) ≤ (j : Int) := by omega
        by_cases hlt : j < N
        · have z1 : (j : Int) < (N : Int) := by omega
          have hja : j < al.length := by have := HAL.out; omega
          obtain ⟨s, hs⟩ : ∃ s, al[j]? = some s := ⟨_, List.getElem?_eq_getElem hja⟩
          have hcell : ∀ W, Below wo.heap.size wo W → ∃ ad, A6 = some ad ∧ W.cell? (ad.add j) = some (.string s) := fun W hW => by
            obtain ⟨A', c', e', _, _, hrd, _⟩ := (HO9.out.below hW).slv
            injection e' with e' _ _
            subst e'
            exact reads_at hrd j (sv s) (by rw [List.getElem?_map, hs]; rfl)
          obtain ⟨ad, rfl, x0⟩ := hcell wr HBW.out
          have HCELL : Hid (∀ W, Below wo.heap.size wo W → W.cell? (ad.add j) = some (.string s)) := fun W hW => by
            obtain ⟨ad', e, h⟩ := hcell W hW
            injection e with e
            subst e
            exact h
          have hsm := (HMEM.out s).1 (List.mem_of_getElem? hs)
          have HRB := Lib.hid hsm
          have hxs : hasT x s = isP (srcP l false) s := by
            cases hp : isP (srcP l false) s with
            | true => exact hasT_yes ((HC1.out.mx s).2 ⟨hsm, hp⟩)
            | false =>
              refine hasT_no fun hm => ?_
              have := ((HC1.out.mx s).1 hm).2
              rw [hp] at this
              cases this
          have HXS := Lib.hid hxs
          have HSC := Lib.hid (src1_any s (HSR9.out.below HBW.out) (by have := HL40.out; omega) (fun x hx => by have := HL15.out x hx; omega))
          clear hja hs hcell hsm hxs
          go_wp2_with fail
          refine HSC.out.mono ?_
          rintro e w10 ⟨A10, n10, c10, t, rfl, hb10, hcase⟩
          have HB10 := Lib.hid (HBW.out.trans (hb10.mono HBW.out.size))
          have hdec : Calls Try.prog 16 #[.slice A10 n10 c10] w10 fun e w' => ∃ v k o, e = .returned (.tuple #[v, .int .i64 k]) ∧ Below w10.heap.size w10 w' ∧ DecT (srcP l false) s t k v o w' := by
            rcases hcase with ⟨h1, rfl, rfl, rfl, rfl⟩ | ⟨xx, h1, rfl, h3, h4⟩
            · refine (rdecode_any _ [] w10 (Own.nil_ w10 0).sl (by simp)).mono ?_
              rintro e w' ⟨v, k, rfl, h2, h3⟩
              exact ⟨v, k, _, rfl, h3, DecT.none_ h1 h2⟩
            · refine (rdecode_any _ xx w10 h4.sl (by have := HL15.out xx (srcP_mem h1); omega)).mono ?_
              rintro e w' ⟨v, k, rfl, h5, h6⟩
              obtain ⟨o, ho⟩ := DecT.some_ h1 h5
              exact ⟨v, k, o, rfl, h6, ho⟩
          have HDEC := Lib.hid hdec
          clear hb10 hcase hdec
          go_wp2_with fail
          refine HDEC.out.mono ?_
          rintro e w11 ⟨v11, k11, o, rfl, hb11, hdt⟩
          have HDT := Lib.hid hdt
          have HB11 := Lib.hid (HB10.out.trans (hb11.mono HB10.out.size))
          obtain ⟨D1, d1, e1, D2, d2, e2, D3, d3, e3, rfl⟩ := hdt.ob.lit
          have hb12 : Below w11.heap.size w11 (w11.alloc (.cells #[.int .i64 o.kind, .slice D1 d1 e1, .slice D2 d2 e2, .string (str o.tree), .slice D3 d3 e3, .int .i64 o.stamp, .int .i64 o.author, .string (str o.msg)] 38)) := (Below.refl _ _).alloc (Nat.le_refl _) _
          have x12 := HCELL.out _ (HB11.out.trans (hb12.mono HB11.out.size))
          clear hb11 hdt hb12
          have HB12 : Hid (Below wo.heap.size wo (w11.alloc (.cells #[.int .i64 o.kind, .slice D1 d1 e1, .slice D2 d2 e2, .string (str o.tree), .slice D3 d3 e3, .int .i64 o.stamp, .int .i64 o.author, .string (str o.msg)] 38))) := HB11.out.alloc HB11.out.size _
          have HOB : Hid (ObV (w11.alloc (.cells #[.int .i64 o.kind, .slice D1 d1 e1, .slice D2 d2 e2, .string (str o.tree), .slice D3 d3 e3, .int .i64 o.stamp, .int .i64 o.author, .string (str o.msg)] 38)) (.agg #[.int .i64 o.kind, .slice D1 d1 e1, .slice D2 d2 e2, .string (str o.tree), .slice D3 d3 e3, .int .i64 o.stamp, .int .i64 o.author, .string (str o.msg)]) o) := HDT.out.ob.below ((Below.refl _ _).alloc (Nat.le_refl _) _)
          have HBO : Hid (Blk (w11.alloc (.cells #[.int .i64 o.kind, .slice D1 d1 e1, .slice D2 d2 e2, .string (str o.tree), .slice D3 d3 e3, .int .i64 o.stamp, .int .i64 o.author, .string (str o.msg)] 38)) w11.heap.size 38 #[.int .i64 o.kind, .slice D1 d1 e1, .slice D2 d2 e2, .string (str o.tree), .slice D3 d3 e3, .int .i64 o.stamp, .int .i64 o.author, .string (str o.msg)]) := Blk.new _ _ _
          obtain ⟨tt, htt⟩ : ∃ tt, isP (srcP l false) s = tt := ⟨_, rfl⟩
          rw [htt] at HXS
          have htk := HDT.out.is
          rw [htt] at htk
          have HTT := Lib.hid htt
          have HTK := Lib.hid htk
          clear htt htk
          go_upto_region 22 with (fail)
          obtain ⟨W, hW⟩ : ∃ W, W = (w11.alloc (.cells #[.int .i64 o.kind, .slice D1 d1 e1, .slice D2 d2 e2, .string (str o.tree), .slice D3 d3 e3, .int .i64 o.stamp, .int .i64 o.author, .string (str o.msg)] 38)) := ⟨_, rfl⟩
          rw [← hW] at HB12 HOB HBO x12 ⊢
          clear hW
          have HH := Lib.hid (rhas_any (.slice Ax nx cx) x s W (HOX9.out.below HB12.out).slv)
          rw [HXS.out] at HH
          go_cut [104] (fun fl wx => fl = .bool false ∧ wx = W)
          case first =>
            have zt : (tt != tt) = false := bne_self_eq_false _
            cases t with
            | false =>
              have e0 : tt = false := HTK.out.symm
              subst e0
              go_wp2_with (go_at_call 15; refine HH.out.mono ?_; rintro e w' ⟨rfl, rfl⟩)
              go_meet
              exact ⟨rfl, rfl⟩
            | true =>
              have e0 : (k11 == 0) = tt := HTK.out
              go_wp2_with (go_at_call 15; refine HH.out.mono ?_; rintro e w' ⟨rfl, rfl⟩)
              go_meet
              exact ⟨by first | rfl | simp [e0], rfl⟩
          case rest =>
            obtain ⟨rfl, hwx⟩ := hcut
            subst hwx
            obtain ⟨y0, y1, y2, y3, y4, y5, y6, y7⟩ := box_cells HBO.out
            have HREF := Lib.hid (rrefs_any _ o _ HOB.out HDT.out.few.1 HDT.out.few.2)
            obtain ⟨rs, hrs⟩ : ∃ rs, (refsL o).map str = rs := ⟨_, rfl⟩
            have hrt : tt = true → ∀ r ∈ rs, r ∈ al := fun e r hr => by
              rw [← hrs, HDT.out.nx (HTT.out.trans e)] at hr
              exact (HMEM.out r).2 (HRB.out.step hr)
            have hr0 : tt = false → rs = [] := fun e => by rw [← hrs, HDT.out.no (HTT.out.trans e)]; rfl
            have hrl : rs.length ≤ 401 := by
              rw [← hrs, List.length_map]
              have := HDT.out.few
              unfold refsL
              split
              · rw [List.length_map]; omega
              · split
                · rw [List.length_cons]; omega
                · simp
            unfold RefsPost at HREF
            rw [hrs] at HREF
            have HRT := Lib.hid hrt
            have HR0 := Lib.hid hr0
            clear hrs hrt hr0
            go_wp2_with fail
            refine HREF.out.mono ?_
            rintro e w13 ⟨v13, rfl, ho13, hb13⟩
            have HB13 := Lib.hid (HB12.out.trans (hb13.mono HB12.out.size))
            have HO13 := Lib.hid ho13
            obtain ⟨A13, c13, rfl⟩ := owned_slice ho13
            rw [List.length_map] at HO13 ⊢
            obtain ⟨R, hR⟩ : ∃ R, rs.length = R := ⟨_, rfl⟩
            rw [hR] at HO13 hrl ⊢
            have HRN := Lib.hid hR
            have x13 := HCELL.out _ HB13.out
            have HHX := Lib.hid (rhas_any (.slice Ax nx cx) x s w13 (HOX9.out.below HB13.out).slv)
            rw [HXS.out] at HHX
            clear ho13 hb13 hR y0 y1 y2 y3 y4 y5 y6 y7 x12 x0
            go_wp2_with fail
            go_loopw [17] (fun x wq => ∃ m : Nat, m ≤ R ∧ x = .int .i64 (m : Int) ∧ wq = w13) (fun x _ => R - (intOf x).toNat)
            case atStart => exact ⟨0, Nat.zero_le _, rfl, rfl⟩
            case round =>
              obtain ⟨m, hm, rfl, rfl⟩ := hrel
              have y0 : (0 : Int) ≤ (m : Int) := by omega
              by_cases hmR : m < R
              · have y1 : (m : Int) < (R : Int) := by omega
                have hmr : m < rs.length := by have := HRN.out; omega
                have HT1 : Hid (tt = true) := by
                  unfold Hid
                  cases tt with
                  | true => rfl
                  | false =>
                    rw [HR0.out rfl] at hmr
                    simp at hmr
                obtain ⟨r, hr⟩ : ∃ r, rs[m]? = some r := ⟨_, List.getElem?_eq_getElem hmr⟩
                obtain ⟨ar, rfl, xr⟩ : ∃ ar, A13 = some ar ∧ wr.cell? (ar.add m) = some (.string r) := by
                  obtain ⟨A', c', e', _, _, hrd, _⟩ := HO13.out.slv
                  injection e' with e' _ _
                  subst e'
                  exact reads_at hrd m (sv r) (by rw [List.getElem?_map, hr]; rfl)
                have HHR := Lib.hid (rhas_any (.slice (some ad) N c6) al r wr (HO9.out.below HB13.out).slv)
                rw [hasT_yes (HRT.out HT1.out r (List.mem_of_getElem? hr))] at HHR
                rw [HT1.out] at HHX
                clear hmr hr
                go_wp2_with fail
                refine HHX.out.mono ?_
                rintro e w' ⟨rfl, rfl⟩
                go_wp2_with fail
                refine HHR.out.mono ?_
                rintro e w' ⟨rfl, rfl⟩
                go_wp2_with fail
                go_roundw
                case rel => exact ⟨m + 1, by omega, by go_num, trivial⟩
                case measure => simp [intOf]; omega
              · obtain rfl : m = R := by omega
                go_wp2_with fail
                go_roundw
                case rel => exact ⟨j + 1, by omega, by go_num, HB13.out⟩
                case measure => simp [intOf]; omega
        · obtain rfl : j = N := by omega
          have HB14 := Lib.hid (HB9.out.trans (HBW.out.mono HB9.out.size))
          have HSR14 := Lib.hid (HSR9.out.below HBW.out)
          have HY0 : Hid (ny = 0 ↔ ∀ s, RB (nxP (srcP l false)) a s → isP (srcP l false) s = true) := by
            unfold Hid
            rw [← HNX.out.2, List.length_eq_zero_iff, List.eq_nil_iff_forall_not_mem]
            constructor
            · intro h s hs
              cases hp : isP (srcP l false) s with
              | true => rfl
              | false => exact absurd ((HC1.out.my s).2 ⟨hs, hp⟩) (h s)
            · intro h s hs
              have h1 := ((HC1.out.my s).1 hs)
              rw [h s h1.1] at h1
              exact absurd h1.2 (by decide)
          go_wp2_with fail
          refine (first12_any wr).mono ?_
          rintro e w15 ⟨rfl, hb15⟩
          have HB15 := Lib.hid (HB14.out.trans (hb15.mono HB14.out.size))
          have HSR15 := Lib.hid (HSR14.out.below hb15)
          clear hb15
          go_wp2_with fail
          refine (wholeY_any (names := a) HSR15.out HL40.out HL15.out HNM.out HIA.out (HA.out.below HB15.out) (fun s hs => HSZ.out s (HIA.out s hs)) (by have := HA20.out; omega)).mono ?_
          rintro e w16 ⟨t, rfl, hb16, ht⟩
          have HB16 := Lib.hid (HB15.out.trans (hb16.mono HB15.out.size))
          have zt : (t == ((ny : Int) == 0)) = true := by
            have h1 := ht.trans HY0.out.symm
            cases t with
            | true =>
              have : ny = 0 := h1.1 rfl
              subst this
              rfl
            | false =>
              have h2 : ¬ ny = 0 := fun e => by have := h1.2 e; cases this
              have h3 : ((ny : Int) == 0) = false := by rw [beq_eq_false_iff_ne]; omega
              rw [h3]; rfl
          have HZT := Lib.hid zt
          clear hb16 ht zt
          go_wp2_with fail
          go_ret
          refine ⟨?_, HB16.out⟩
          show Ending.returned (.bool (t == ((ny : Int) == 0))) = _
          rw [HZT.out]
end Go.Proofs.Yteffiedolcjjlaa.Ob
