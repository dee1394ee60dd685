/- Texts put together: Ro13. -/
import Derived.Test.YtcmlofgkcalhnaaQo52
import Derived.Test.YtcmlofgkcalhnaaQo46
import Derived.Test.YtcmlofgkcalhnaaQo27
/- marlaw6.ObjCodes: the walk. -/
namespace Go.Proofs.Ytcmlofgkcalhnaa.Ob
open Go.RowKit Go.Proofs.Ytcmlofgkcalhnaa.Sh
open Go.Proofs.Ytcmlofgkcalhnaa.Tx (OwnV SlV sv bl nameB reads_at texts_at toList_ne')

theorem ObV.lits9 {w : World} {v : Value} {o : ObM} (h : ObV w v o) : ∃ A l c A2 l2 c2 A3 l3 c3, v = .agg #[.int .i64 o.kind, .slice A l c, .slice A2 l2 c2, .string (str o.tree), .slice A3 l3 c3, .int .i64 o.stamp, .int .i64 o.author, .string (str o.msg)] := by
  obtain ⟨d, it, ps, rfl, ⟨A, c, rfl, _⟩, ⟨A2, c2, rfl, _⟩, ⟨A3, c3, rfl, _⟩⟩ := h
  exact ⟨A, _, c, A2, _, c2, A3, _, c3, rfl⟩
def encV (o : ObM) : List UInt8 := if mayB o = true then encL o else []
def encK (o : ObM) : Int := if mayB o = true then 0 else 1
def EncOne (w : World) (o : ObM) (e : Ending) (w' : World) : Prop := ∃ A n c, e = .returned (.tuple #[.slice A n c, .int .i64 (encK o)]) ∧ Sl w' (.slice A n c) (encV o) ∧ Below w.heap.size w w'
theorem EncPost.one {w : World} {o : ObM} {e : Ending} {w' : World} (h : EncPost w o e w') : EncOne w o e w' := by
  unfold EncOne encV encK
  cases hm : mayB o with
  | true =>
    obtain ⟨u, rfl, hu⟩ := h.1 hm
    have hs := hu.sl
    obtain ⟨A, c, rfl, _⟩ := hs.len
    exact ⟨_, _, _, rfl, by simpa using hs, h.2.2⟩
  | false =>
    obtain rfl := h.2.1 hm
    exact ⟨none, 0, 0, rfl, by simpa using (Own.nil_ w' 0).sl, h.2.2⟩
def decO (bs : List UInt8) : ObM := if decB bs = true then (objR bs).1 else objK 0
def decK (bs : List UInt8) : Int := if bs = [] then 2 else if decB bs = true then 0 else 4
def DecOne (w : World) (bs : List UInt8) (e : Ending) (w' : World) : Prop := ∃ v, e = .returned (.tuple #[v, .int .i64 (decK bs)]) ∧ ObV w' v (decO bs) ∧ Below w.heap.size w w'
theorem DecPost.one {w : World} {bs : List UInt8} {e : Ending} {w' : World} (h : DecPost w bs e w') : DecOne w bs e w' := by
  obtain ⟨v, k, rfl, hd, hb⟩ := h
  unfold DecOne decO decK
  by_cases h0 : bs = []
  · have hn : decB bs = false := by rw [h0]; exact decB_nil
    rw [if_pos h0, hn]
    exact ⟨v, by rw [hd.short h0], by simpa using (hd.no hn).obV, hb⟩
  · rw [if_neg h0]
    cases hn : decB bs with
    | true => exact ⟨v, by rw [(hd.yes hn).1]; rfl, by simpa using (hd.yes hn).2.obV, hb⟩
    | false => exact ⟨v, by rw [hd.form h0 hn]; rfl, by simpa using (hd.no hn).obV, hb⟩
theorem RDecPost.one {w : World} {bs : List UInt8} {e : Ending} {w' : World} (h : RDecPost w bs e w') : DecOne w bs e w' := by
  obtain ⟨v, k, rfl, hd, hb⟩ := h
  unfold DecOne decO decK
  by_cases h0 : bs = []
  · have hn : decB bs = false := by rw [h0]; exact decB_nil
    rw [if_pos h0, hn]
    exact ⟨v, by rw [hd.short h0], by simpa using hd.no hn, hb⟩
  · rw [if_neg h0]
    cases hn : decB bs with
    | true => exact ⟨v, by rw [(hd.yes hn).1]; rfl, by simpa using (hd.yes hn).2, hb⟩
    | false => exact ⟨v, by rw [hd.form h0 hn]; rfl, by simpa using hd.no hn, hb⟩
theorem dec_items {bs : List UInt8} (h : bs.length ≤ 1000000) : (decO bs).items.length ≤ 1000001 := by
  unfold decO
  split
  · rename_i hd
    unfold objR objS
    have h1 := octR_len (bs, false)
    split
    · simp
    · split
      · have h2 := itemsR_le (numR (octR (bs, false)).2).1 (numR (octR (bs, false)).2).2
        have h3 := numR_len (octR (bs, false)).2
        have h4 : (octR (bs, false)).2.1.length ≤ bs.length := h1
        show (itemsR (numR (octR (bs, false)).2).1 (numR (octR (bs, false)).2).2).1.length ≤ _
        omega
      · split
        · simp
        · simp [objK]
  · simp [objK]
/-- How great its texts may be. -/
def Long (o : ObM) : Prop := (∀ x ∈ o.parents, x.length ≤ 140737488351232) ∧ ∀ x ∈ o.items, x.2.2.length ≤ 140737488351232
set_option linter.unusedSimpArgs false in
set_option maxRecDepth 100000 in
set_option maxHeartbeats 25600000 in
theorem objCodes_w (v v' bv_ : Value) (o p : ObM) (bs : List UInt8) (w : World) (h : ObV w v o) (h' : ObV w v' p) (hbs : Sl w bv_ bs) (hlong : Long o) : Calls Try.prog 4 #[v, v', bv_] w (Yes w) := by
  have HV := Lib.hid h
  have HV' := Lib.hid h'
  obtain ⟨A, l, c, A2, l2, c2, A3, l3, c3, rfl⟩ := h.lits9
  obtain ⟨B, m, d, B2, m2, d2, B3, m3, d3, rfl⟩ := h'.lits9
  have HBS := Lib.hid hbs
  obtain ⟨BA, bc, rfl, hblc, hbcm, _⟩ := hbs.len
  unfold maxLen at hbcm
  obtain ⟨bn, hbn⟩ : ∃ n, bs.length = n := ⟨_, rfl⟩
  have HBN := Lib.hid hbn
  rw [hbn] at hblc HBS ⊢
  have HLG := Lib.hid hlong
  clear h h' hbs hbn hlong
  obtain ⟨w0, hw0⟩ : ∃ W, W = (w.alloc (.cells #[.int .i64 o.kind, .slice A l c, .slice A2 l2 c2, .string (str o.tree), .slice A3 l3 c3, .int .i64 o.stamp, .int .i64 o.author, .string (str o.msg)] 32)).alloc (.cells #[.int .i64 p.kind, .slice B m d, .slice B2 m2 d2, .string (str p.tree), .slice B3 m3 d3, .int .i64 p.stamp, .int .i64 p.author, .string (str p.msg)] 32) := ⟨_, rfl⟩
  have HB : Hid (Below w.heap.size w w0) := by unfold Hid; rw [hw0]; exact ((Below.refl _ _).alloc (Nat.le_refl _) _).alloc (by simp) _
  have HKO : Hid (Blk w0 w.heap.size 32 #[.int .i64 o.kind, .slice A l c, .slice A2 l2 c2, .string (str o.tree), .slice A3 l3 c3, .int .i64 o.stamp, .int .i64 o.author, .string (str o.msg)]) := by unfold Hid; rw [hw0]; exact (Blk.new _ _ _).alloc _
  have HKP : Hid (Blk w0 (w.heap.size + 1) 32 #[.int .i64 p.kind, .slice B m d, .slice B2 m2 d2, .string (str p.tree), .slice B3 m3 d3, .int .i64 p.stamp, .int .i64 p.author, .string (str p.msg)]) := by
    unfold Hid
    rw [hw0, show w.heap.size + 1 = (w.alloc (.cells #[.int .i64 o.kind, .slice A l c, .slice A2 l2 c2, .string (str o.tree), .slice A3 l3 c3, .int .i64 o.stamp, .int .i64 o.author, .string (str o.msg)] 32)).heap.size from by simp]
    exact Blk.new _ _ _
  go_enter Try.func4, Try.ntmps4
  go_wp2_with fail
  rw [← hw0]
  clear hw0
  refine (first_any _).mono ?_
  rintro e w1 ⟨rfl, hb⟩
  replace HB := Lib.hid (Below.after HB.out hb)
  replace HKO := Lib.hid (HKO.out.below hb HKO.out.lt)
  replace HKP := Lib.hid (HKP.out.below hb HKP.out.lt)
  clear hb
  obtain ⟨x0, x1, x2, x3, x4, x5, x6, x7⟩ := box_cells HKO.out
  go_wp2_with fail
  clear x0 x1 x2 x3 x4 x5 x6 x7
  refine (few_any _ o w1 (HV.out.below HB.out)).mono ?_
  rintro e w2 ⟨t1, rfl, ht1, hb⟩
  replace HB := Lib.hid (Below.after HB.out hb)
  replace HKO := Lib.hid (HKO.out.below hb HKO.out.lt)
  replace HKP := Lib.hid (HKP.out.below hb HKP.out.lt)
  clear hb
  cases t1 with
  | false =>
    clear ht1
    go_wp2_with fail
    refine (first_any _).mono ?_
    rintro e wl ⟨rfl, hb⟩
    replace HB := Lib.hid (Below.after HB.out hb)
    clear hb
    go_wp2_with fail
    go_ret
    exact ⟨rfl, HB.out⟩
  | true =>
    have HF1 := Lib.hid (ht1 rfl)
    clear ht1
    obtain ⟨x0, x1, x2, x3, x4, x5, x6, x7⟩ := box_cells HKP.out
    go_wp2_with fail
    clear x0 x1 x2 x3 x4 x5 x6 x7
    refine (few_any _ p w2 (HV'.out.below HB.out)).mono ?_
    rintro e w3 ⟨t2, rfl, ht2, hb⟩
    replace HB := Lib.hid (Below.after HB.out hb)
    replace HKO := Lib.hid (HKO.out.below hb HKO.out.lt)
    replace HKP := Lib.hid (HKP.out.below hb HKP.out.lt)
    clear hb
    cases t2 with
    | false =>
      clear ht2
      go_wp2_with fail
      refine (first_any _).mono ?_
      rintro e wl ⟨rfl, hb⟩
      replace HB := Lib.hid (Below.after HB.out hb)
      clear hb
      go_wp2_with fail
      go_ret
      exact ⟨rfl, HB.out⟩
    | true =>
      have HF2 := Lib.hid (ht2 rfl)
      clear ht2
      by_cases hbig : 30000 < bn
      · have hbig' : (30000 : Int) < (bn : Int) := by omega
        go_wp2_with fail
        refine (first_any _).mono ?_
        rintro e wl ⟨rfl, hb⟩
        replace HB := Lib.hid (Below.after HB.out hb)
        clear hb
        go_wp2_with fail
        go_ret
        exact ⟨rfl, HB.out⟩
      · have hbig' : (bn : Int) ≤ 30000 := by omega
        have HBL : Hid (bs.length ≤ 1000000) := by unfold Hid; rw [HBN.out]; omega
        clear hbig
        have HTO : Hid (TOk o) := ⟨by have := HF1.out.tree; omega, HLG.out.1, HLG.out.2, by have := HF1.out.msg; omega, by have := HF1.out.data; omega, by have := HF1.out.items; omega⟩
        have HIO : Hid (o.items.length ≤ 1000001) := by have := HF1.out.items; unfold Hid; omega
        have HIP : Hid (p.items.length ≤ 1000001) := by have := HF2.out.items; unfold Hid; omega
        have HID : Hid ((decO bs).items.length ≤ 1000001) := dec_items HBL.out
        obtain ⟨oD, hoD⟩ : ∃ x, decO bs = x := ⟨_, rfl⟩
        obtain ⟨kD, hkD⟩ : ∃ x, decK bs = x := ⟨_, rfl⟩
        obtain ⟨bE, hbE⟩ : ∃ x, encV o = x := ⟨_, rfl⟩
        obtain ⟨kE, hkE⟩ : ∃ x, encK o = x := ⟨_, rfl⟩
        obtain ⟨mo, hmo⟩ : ∃ x, mayB o = x := ⟨_, rfl⟩
        obtain ⟨sm, hsm⟩ : ∃ x, sameB o p = x := ⟨_, rfl⟩
        have HMO := Lib.hid hmo
        have HSM := Lib.hid hsm
        have HOD := Lib.hid hoD
        have HKD := Lib.hid hkD
        have HBE := Lib.hid hbE
        have HKE := Lib.hid hkE
        rw [hoD] at HID
        clear hmo hsm hoD hkD hbE hkE
        go_wp2_with fail
        refine (copyb_any (.slice BA bn bc) bs _ (HBS.out.below HB.out) (by have := HBL.out; omega)).mono ?_
        rintro e w4 ⟨vi, rfl, hi, hb⟩
        replace HB := Lib.hid (Below.after HB.out hb)
        replace HKO := Lib.hid (HKO.out.below hb HKO.out.lt)
        replace HKP := Lib.hid (HKP.out.below hb HKP.out.lt)
        clear hb
        have HIN := Lib.hid hi.sl
        obtain ⟨IA, ic, rfl, hil, him, _⟩ := hi.sl.len
        rw [HBN.out] at HIN hil ⊢
        unfold maxLen at him
        clear hi
        obtain ⟨x0, x1, x2, x3, x4, x5, x6, x7⟩ := box_cells HKO.out
        go_wp2_with fail
        clear x0 x1 x2 x3 x4 x5 x6 x7
        refine (encode_any _ o w4 (HV.out.below HB.out)).mono ?_
        intro e w5 hp
        obtain ⟨XA, xn, xc, rfl, hx, hb⟩ := hp.one
        rw [HBE.out] at hx
        rw [HKE.out]
        have HX := Lib.hid hx
        replace HIN := Lib.hid (HIN.out.below hb)
        clear hp hx
        replace HB := Lib.hid (Below.after HB.out hb)
        replace HKO := Lib.hid (HKO.out.below hb HKO.out.lt)
        replace HKP := Lib.hid (HKP.out.below hb HKP.out.lt)
        clear hb
        obtain ⟨x0, x1, x2, x3, x4, x5, x6, x7⟩ := box_cells HKO.out
        go_wp2_with fail
        clear x0 x1 x2 x3 x4 x5 x6 x7
        refine (plain_any _ o w5 (HV.out.below HB.out) HIO.out).mono ?_
        rintro e w6 ⟨p1, rfl, hp1, hb⟩
        have HP1 := Lib.hid hp1
        replace HIN := Lib.hid (HIN.out.below hb)
        replace HX := Lib.hid (HX.out.below hb)
        clear hp1
        replace HB := Lib.hid (Below.after HB.out hb)
        replace HKO := Lib.hid (HKO.out.below hb HKO.out.lt)
        replace HKP := Lib.hid (HKP.out.below hb HKP.out.lt)
        clear hb
        go_wp2_with fail
        refine (rencode_any p1 o w6 HP1.out HTO.out).mono ?_
        intro e w7 hp
        obtain ⟨YA, yn, yc, rfl, hy, hb⟩ := hp.one
        rw [HBE.out] at hy
        rw [HKE.out]
        have HY := Lib.hid hy
        replace HIN := Lib.hid (HIN.out.below hb)
        replace HX := Lib.hid (HX.out.below hb)
        clear hp hy HP1
        replace HB := Lib.hid (Below.after HB.out hb)
        replace HKO := Lib.hid (HKO.out.below hb HKO.out.lt)
        replace HKP := Lib.hid (HKP.out.below hb HKP.out.lt)
        clear hb
        go_wp2_with fail
        refine (decode_any _ bs w7 HIN.out HBL.out).mono ?_
        intro e w8 hp
        obtain ⟨vq, rfl, hq, hb⟩ := hp.one
        rw [HOD.out] at hq
        rw [HKD.out]
        obtain ⟨E1, e1, f1, E2, e2, f2, E3, e3, f3, rfl⟩ := hq.lits9
        have HQ := Lib.hid (hq.below ((Below.refl _ _).alloc (Nat.le_refl _) (.cells #[.int .i64 oD.kind, .slice E1 e1 f1, .slice E2 e2 f2, .string (str oD.tree), .slice E3 e3 f3, .int .i64 oD.stamp, .int .i64 oD.author, .string (str oD.msg)] 32)))
        have hb9 : Below w7.heap.size w7 (w8.alloc (.cells #[.int .i64 oD.kind, .slice E1 e1 f1, .slice E2 e2 f2, .string (str oD.tree), .slice E3 e3 f3, .int .i64 oD.stamp, .int .i64 oD.author, .string (str oD.msg)] 32)) := hb.alloc hb.size _
        have HKQ : Hid (Blk (w8.alloc (.cells #[.int .i64 oD.kind, .slice E1 e1 f1, .slice E2 e2 f2, .string (str oD.tree), .slice E3 e3 f3, .int .i64 oD.stamp, .int .i64 oD.author, .string (str oD.msg)] 32)) w8.heap.size 32 #[.int .i64 oD.kind, .slice E1 e1 f1, .slice E2 e2 f2, .string (str oD.tree), .slice E3 e3 f3, .int .i64 oD.stamp, .int .i64 oD.author, .string (str oD.msg)]) := Blk.new _ _ _
        replace HIN := Lib.hid (HIN.out.below hb9)
        replace HX := Lib.hid (HX.out.below hb9)
        replace HY := Lib.hid (HY.out.below hb9)
        replace HB := Lib.hid (Below.after HB.out hb9)
        replace HKO := Lib.hid (HKO.out.below hb9 HKO.out.lt)
        replace HKP := Lib.hid (HKP.out.below hb9 HKP.out.lt)
        clear hp hq hb hb9
        go_wp2_with fail
        refine (rdecode_any _ bs _ (HBS.out.below HB.out) HBL.out).mono ?_
        intro e w9 hp
        obtain ⟨vr, rfl, hr, hb⟩ := hp.one
        rw [HOD.out] at hr
        rw [HKD.out]
        obtain ⟨G1, g1, h1, G2, g2, h2, G3, g3, h3, rfl⟩ := hr.lits9
        have HR := Lib.hid (hr.below ((Below.refl _ _).alloc (Nat.le_refl _) (.cells #[.int .i64 oD.kind, .slice G1 g1 h1, .slice G2 g2 h2, .string (str oD.tree), .slice G3 g3 h3, .int .i64 oD.stamp, .int .i64 oD.author, .string (str oD.msg)] 40)))
        have hb9 := hb.alloc hb.size (.cells #[.int .i64 oD.kind, .slice G1 g1 h1, .slice G2 g2 h2, .string (str oD.tree), .slice G3 g3 h3, .int .i64 oD.stamp, .int .i64 oD.author, .string (str oD.msg)] 40)
        have HKR : Hid (Blk (w9.alloc (.cells #[.int .i64 oD.kind, .slice G1 g1 h1, .slice G2 g2 h2, .string (str oD.tree), .slice G3 g3 h3, .int .i64 oD.stamp, .int .i64 oD.author, .string (str oD.msg)] 40)) w9.heap.size 40 #[.int .i64 oD.kind, .slice G1 g1 h1, .slice G2 g2 h2, .string (str oD.tree), .slice G3 g3 h3, .int .i64 oD.stamp, .int .i64 oD.author, .string (str oD.msg)]) := Blk.new _ _ _
        replace HIN := Lib.hid (HIN.out.below hb9)
        replace HX := Lib.hid (HX.out.below hb9)
        replace HY := Lib.hid (HY.out.below hb9)
        replace HQ := Lib.hid (HQ.out.below hb9)
        replace HKQ := Lib.hid (HKQ.out.below hb9 HKQ.out.lt)
        replace HB := Lib.hid (Below.after HB.out hb9)
        replace HKO := Lib.hid (HKO.out.below hb9 HKO.out.lt)
        replace HKP := Lib.hid (HKP.out.below hb9 HKP.out.lt)
        clear hp hr hb hb9
        go_upto_region 10 with (fail)
        obtain ⟨wx, hwx⟩ : ∃ W, W = w9.alloc (.cells #[.int .i64 oD.kind, .slice G1 g1 h1, .slice G2 g2 h2, .string (str oD.tree), .slice G3 g3 h3, .int .i64 oD.stamp, .int .i64 oD.author, .string (str oD.msg)] 40) := ⟨_, rfl⟩
        rw [← hwx] at HIN HX HY HQ HKQ HB HKO HKP HR HKR ⊢
        clear hwx
        try simp only [List.append_eq, List.cons_append, List.nil_append]
        have HALL : Hid (∀ W, Below wx.heap.size wx W → Below w.heap.size w W) := fun W hW => Below.after HB.out hW
        have HS : Hid (Below wx.heap.size wx wx.drew) := (Below.refl _ _).drew
        refine wp_region_held_drew (S := (fun W : World => Below wx.heap.size wx W)) (by kernel_rfl) ?_ (fun hHeld => ?_)
        · try dsimp only
          exact HS.out
        refine wpAnyH_ready (rs := [0]) (by kernel_rfl) (by simp) (AllReadyH.cons rfl (fun K hK => ?_) AllReadyH.nil)
        go_simp
        go_at_call 12
        refine (first_any _).mono ?_
        rintro e wn ⟨rfl, hb⟩
        replace HS := Lib.hid (Below.after HS.out hb)
        clear hb
        try go_wp2_with fail
        refine hK.out _ _ ?_ (fun hHeld => ?_)
        · try dsimp only
          exact HS.out
        clear hK K
        try simp only [Act.put, List.setIfInBounds_toArray, List.set_cons_zero, List.set_cons_succ]
        refine take_at (i := 1) (d := 56) (v := ?_) rfl (by kernel_rfl) (by kernel_rfl) (by kernel_rfl) (by kernel_rfl) (fun _ _ _ h => h) (Or.inl ⟨by kernel_rfl, ?_⟩) (by assumption) ?_
        rotate_left
        · intro W hSw
          try dsimp only at hSw
          go_simp
          first | done | with_reducible rfl
        try simp only [Act.put, List.setIfInBounds_toArray, List.set_cons_zero, List.set_cons_succ]
        refine take_at (i := 2) (d := 57) (v := ?_) rfl (by kernel_rfl) (by kernel_rfl) (by kernel_rfl) (by kernel_rfl) (fun _ _ _ h => h) (Or.inl ⟨by kernel_rfl, ?_⟩) (by assumption) ?_
        rotate_left
        · intro W hSw
          try dsimp only at hSw
          go_simp
          first | done | with_reducible rfl
        try simp only [Act.put, List.setIfInBounds_toArray, List.set_cons_zero, List.set_cons_succ]
        refine take_at (i := 3) (d := 58) (v := ?_) rfl (by kernel_rfl) (by kernel_rfl) (by kernel_rfl) (by kernel_rfl) (fun _ _ _ h => h) (Or.inl ⟨by kernel_rfl, ?_⟩) (by assumption) ?_
        rotate_left
        · intro W hSw
          try dsimp only at hSw
          go_simp
          first | done | with_reducible rfl
        try simp only [Act.put, List.setIfInBounds_toArray, List.set_cons_zero, List.set_cons_succ]
        refine wpAnyH_ready (rs := [4]) (by kernel_rfl) (by simp) (AllReadyH.cons rfl (fun K hK => ?_) AllReadyH.nil)
        go_simp
        go_at_call 20
        refine (bytes_any _ _ bE bE _ (HX.out.below HS.out) (HY.out.below HS.out) true (beq_self_eq_true _)).mono ?_
        rintro e wn ⟨rfl, rfl⟩
        try go_wp2_with fail
        refine hK.out _ _ ?_ (fun hHeld => ?_)
        · try dsimp only
          exact HS.out
        clear hK K
        try simp only [Act.put, List.setIfInBounds_toArray, List.set_cons_zero, List.set_cons_succ]
        refine take_at (i := 5) (d := 60) (v := ?_) rfl (by kernel_rfl) (by kernel_rfl) (by kernel_rfl) (by kernel_rfl) (fun _ _ _ h => h) (Or.inl ⟨by kernel_rfl, ?_⟩) (by assumption) ?_
        rotate_left
        · intro W hSw
          try dsimp only at hSw
          go_simp
          first | done | with_reducible rfl
        try simp only [Act.put, List.setIfInBounds_toArray, List.set_cons_zero, List.set_cons_succ]
        refine take_at (i := 6) (d := 61) (v := ?_) rfl (by kernel_rfl) (by kernel_rfl) (by kernel_rfl) (by kernel_rfl) (fun _ _ _ h => h) (Or.inl ⟨by kernel_rfl, ?_⟩) (by assumption) ?_
        rotate_left
        · intro W hSw
          try dsimp only at hSw
          go_simp
          first | done | with_reducible rfl
        try simp only [Act.put, List.setIfInBounds_toArray, List.set_cons_zero, List.set_cons_succ]
        refine take_at (i := 7) (d := 62) (v := ?_) rfl (by kernel_rfl) (by kernel_rfl) (by kernel_rfl) (by kernel_rfl) (fun _ _ _ h => h) (Or.inl ⟨by kernel_rfl, ?_⟩) (by assumption) ?_
        rotate_left
        · intro W hSw
          try dsimp only at hSw
          go_simp
          first | done | with_reducible rfl
        try simp only [Act.put, List.setIfInBounds_toArray, List.set_cons_zero, List.set_cons_succ]
        refine take_at (i := 8) (d := 63) (v := ?_) rfl (by kernel_rfl) (by kernel_rfl) (by kernel_rfl) (by kernel_rfl) (fun _ _ _ h => h) (Or.inl ⟨by kernel_rfl, ?_⟩) (by assumption) ?_
        rotate_left
        · intro W hSw
          try dsimp only at hSw
          go_simp
          first | done | with_reducible rfl
        try simp only [Act.put, List.setIfInBounds_toArray, List.set_cons_zero, List.set_cons_succ]
        refine take_at (i := 9) (d := 64) (v := ?_) rfl (by kernel_rfl) (by kernel_rfl) (by kernel_rfl) (by kernel_rfl) (fun _ _ _ h => h) (Or.inl ⟨by kernel_rfl, ?_⟩) (by assumption) ?_
        rotate_left
        · intro W hSw
          try dsimp only at hSw
          go_simp
          first | done | with_reducible rfl
        try simp only [Act.put, List.setIfInBounds_toArray, List.set_cons_zero, List.set_cons_succ]
        refine take_at (i := 10) (d := 65) (v := ?_) rfl (by kernel_rfl) (by kernel_rfl) (by kernel_rfl) (by kernel_rfl) (fun _ _ _ h => h) (Or.inl ⟨by kernel_rfl, ?_⟩) (by assumption) ?_
        rotate_left
        · intro W hSw
          try dsimp only at hSw
          go_simp
          first | done | with_reducible rfl
        try simp only [Act.put, List.setIfInBounds_toArray, List.set_cons_zero, List.set_cons_succ]
        refine take_at (i := 11) (d := 66) (v := ?_) rfl (by kernel_rfl) (by kernel_rfl) (by kernel_rfl) (by kernel_rfl) (fun _ _ _ h => h) (Or.inl ⟨by kernel_rfl, ?_⟩) (by assumption) ?_
        rotate_left
        · intro W hSw
          try dsimp only at hSw
          go_simp
          first | done | with_reducible rfl
        try simp only [Act.put, List.setIfInBounds_toArray, List.set_cons_zero, List.set_cons_succ]
        refine take_at (i := 12) (d := 67) (v := ?_) rfl (by kernel_rfl) (by kernel_rfl) (by kernel_rfl) (by kernel_rfl) (fun _ _ _ h => h) (Or.inl ⟨by kernel_rfl, ?_⟩) (by assumption) ?_
        rotate_left
        · intro W hSw
          try dsimp only at hSw
          have hz8 := HKO.out.below hSw HKO.out.lt
          obtain ⟨x0, x1, x2, x3, x4, x5, x6, x7⟩ := box_cells hz8
          go_simp
          first | done | with_reducible rfl
        try simp only [Act.put, List.setIfInBounds_toArray, List.set_cons_zero, List.set_cons_succ]
        refine take_at (i := 14) (d := 69) (v := ?_) rfl (by kernel_rfl) (by kernel_rfl) (by kernel_rfl) (by kernel_rfl) (fun _ _ _ h => h) (Or.inl ⟨by kernel_rfl, ?_⟩) (by assumption) ?_
        rotate_left
        · intro W hSw
          try dsimp only at hSw
          have hz8 := HKO.out.below hSw HKO.out.lt
          obtain ⟨x0, x1, x2, x3, x4, x5, x6, x7⟩ := box_cells hz8
          go_simp
          first | done | with_reducible rfl
        try simp only [Act.put, List.setIfInBounds_toArray, List.set_cons_zero, List.set_cons_succ]
        refine wpAnyH_ready (rs := [13]) (by kernel_rfl) (by simp) (AllReadyH.cons rfl (fun K hK => ?_) AllReadyH.nil)
        go_simp
        go_at_call 21
        refine (may_any _ o _ (HV.out.below (HALL.out _ HS.out))).mono ?_
        rw [HMO.out]
        rintro e wn ⟨rfl, hb⟩
        replace HS := Lib.hid (Below.after HS.out hb)
        clear hb
        try go_wp2_with fail
        refine hK.out _ _ ?_ (fun hHeld => ?_)
        · try dsimp only
          exact HS.out
        clear hK K
        try simp only [Act.put, List.setIfInBounds_toArray, List.set_cons_zero, List.set_cons_succ]
        refine wpAnyH_ready (rs := [15]) (by kernel_rfl) (by simp) (AllReadyH.cons rfl (fun K hK => ?_) AllReadyH.nil)
        go_simp
        go_at_call 16
        refine (plain_any _ o _ (HV.out.below (HALL.out _ HS.out)) HIO.out).mono ?_
        rintro e wn ⟨p2, rfl, hp, hb⟩
        have HP2 := Lib.hid hp
        clear hp
        replace HS := Lib.hid (Below.after HS.out hb)
        clear hb
        try go_wp2_with fail
        refine hK.out _ _ ?_ (fun hHeld => ?_)
        · try dsimp only
          exact HS.out
        clear hK K
        try simp only [Act.put, List.setIfInBounds_toArray, List.set_cons_zero, List.set_cons_succ]
        refine wpAnyH_ready (rs := [16]) (by kernel_rfl) (by simp) (AllReadyH.cons rfl (fun K hK => ?_) AllReadyH.nil)
        go_simp
        go_at_call 22
        refine (rmay_any p2 o _ HP2.out HTO.out).mono ?_
        rw [HMO.out]
        rintro e wn ⟨rfl, hb⟩
        replace HS := Lib.hid (Below.after HS.out hb)
        clear hb
        try go_wp2_with fail
        refine hK.out _ _ ?_ (fun hHeld => ?_)
        · try dsimp only
          exact HS.out
        clear hK K
        try simp only [Act.put, List.setIfInBounds_toArray, List.set_cons_zero, List.set_cons_succ]
        refine take_at (i := 17) (d := 72) (v := ?_) rfl (by kernel_rfl) (by kernel_rfl) (by kernel_rfl) (by kernel_rfl) (fun _ _ _ h => h) (Or.inl ⟨by kernel_rfl, ?_⟩) (by assumption) ?_
        rotate_left
        · intro W hSw
          try dsimp only at hSw
          go_simp
          first | done | with_reducible rfl
        try simp only [Act.put, List.setIfInBounds_toArray, List.set_cons_zero, List.set_cons_succ]
        refine take_at (i := 18) (d := 73) (v := ?_) rfl (by kernel_rfl) (by kernel_rfl) (by kernel_rfl) (by kernel_rfl) (fun _ _ _ h => h) (Or.inl ⟨by kernel_rfl, ?_⟩) (by assumption) ?_
        rotate_left
        · intro W hSw
          try dsimp only at hSw
          go_simp
          first | done | with_reducible rfl
        try simp only [Act.put, List.setIfInBounds_toArray, List.set_cons_zero, List.set_cons_succ]
        refine take_at (i := 19) (d := 74) (v := ?_) rfl (by kernel_rfl) (by kernel_rfl) (by kernel_rfl) (by kernel_rfl) (fun _ _ _ h => h) (Or.inl ⟨by kernel_rfl, ?_⟩) (by assumption) ?_
        rotate_left
        · intro W hSw
          try dsimp only at hSw
          go_simp
          first | done | with_reducible rfl
        try simp only [Act.put, List.setIfInBounds_toArray, List.set_cons_zero, List.set_cons_succ]
        refine take_at (i := 20) (d := 75) (v := ?_) rfl (by kernel_rfl) (by kernel_rfl) (by kernel_rfl) (by kernel_rfl) (fun _ _ _ h => h) (Or.inl ⟨by kernel_rfl, ?_⟩) (by assumption) ?_
        rotate_left
        · intro W hSw
          try dsimp only at hSw
          have hz8 := HKQ.out.below hSw HKQ.out.lt
          obtain ⟨x0, x1, x2, x3, x4, x5, x6, x7⟩ := box_cells hz8
          go_simp
          first | done | with_reducible rfl
        try simp only [Act.put, List.setIfInBounds_toArray, List.set_cons_zero, List.set_cons_succ]
        refine take_at (i := 22) (d := 77) (v := ?_) rfl (by kernel_rfl) (by kernel_rfl) (by kernel_rfl) (by kernel_rfl) (fun _ _ _ h => h) (Or.inl ⟨by kernel_rfl, ?_⟩) (by assumption) ?_
        rotate_left
        · intro W hSw
          try dsimp only at hSw
          have hz8 := HKR.out.below hSw HKR.out.lt
          obtain ⟨x0, x1, x2, x3, x4, x5, x6, x7⟩ := box_cells hz8
          go_simp
          first | done | with_reducible rfl
        try simp only [Act.put, List.setIfInBounds_toArray, List.set_cons_zero, List.set_cons_succ]
        refine wpAnyH_ready (rs := [21]) (by kernel_rfl) (by simp) (AllReadyH.cons rfl (fun K hK => ?_) AllReadyH.nil)
        go_simp
        go_at_call 16
        refine (plain_any _ oD _ (HQ.out.below HS.out) HID.out).mono ?_
        rintro e wn ⟨p3, rfl, hp, hb⟩
        have HP3 := Lib.hid hp
        clear hp
        replace HS := Lib.hid (Below.after HS.out hb)
        clear hb
        try go_wp2_with fail
        refine hK.out _ _ ?_ (fun hHeld => ?_)
        · try dsimp only
          exact HS.out
        clear hK K
        try simp only [Act.put, List.setIfInBounds_toArray, List.set_cons_zero, List.set_cons_succ]
        refine wpAnyH_ready (rs := [23]) (by kernel_rfl) (by simp) (AllReadyH.cons rfl (fun K hK => ?_) AllReadyH.nil)
        go_simp
        go_at_call 23
        refine (rsame_any p3 _ oD oD _ HP3.out (HR.out.below HS.out)).mono ?_
        rw [show sameB oD oD = true from sameB_iff.2 rfl]
        rintro e wn ⟨rfl, hb⟩
        replace HS := Lib.hid (Below.after HS.out hb)
        clear hb
        try go_wp2_with fail
        refine hK.out _ _ ?_ (fun hHeld => ?_)
        · try dsimp only
          exact HS.out
        clear hK K
        try simp only [Act.put, List.setIfInBounds_toArray, List.set_cons_zero, List.set_cons_succ]
        refine take_at (i := 24) (d := 79) (v := ?_) rfl (by kernel_rfl) (by kernel_rfl) (by kernel_rfl) (by kernel_rfl) (fun _ _ _ h => h) (Or.inl ⟨by kernel_rfl, ?_⟩) (by assumption) ?_
        rotate_left
        · intro W hSw
          try dsimp only at hSw
          go_simp
          first | done | with_reducible rfl
        try simp only [Act.put, List.setIfInBounds_toArray, List.set_cons_zero, List.set_cons_succ]
        refine take_at (i := 25) (d := 80) (v := ?_) rfl (by kernel_rfl) (by kernel_rfl) (by kernel_rfl) (by kernel_rfl) (fun _ _ _ h => h) (Or.inl ⟨by kernel_rfl, ?_⟩) (by assumption) ?_
        rotate_left
        · intro W hSw
          try dsimp only at hSw
          go_simp
          first | done | with_reducible rfl
        try simp only [Act.put, List.setIfInBounds_toArray, List.set_cons_zero, List.set_cons_succ]
        refine take_at (i := 26) (d := 81) (v := ?_) rfl (by kernel_rfl) (by kernel_rfl) (by kernel_rfl) (by kernel_rfl) (fun _ _ _ h => h) (Or.inl ⟨by kernel_rfl, ?_⟩) (by assumption) ?_
        rotate_left
        · intro W hSw
          try dsimp only at hSw
          go_simp
          first | done | with_reducible rfl
        try simp only [Act.put, List.setIfInBounds_toArray, List.set_cons_zero, List.set_cons_succ]
        refine take_at (i := 27) (d := 82) (v := ?_) rfl (by kernel_rfl) (by kernel_rfl) (by kernel_rfl) (by kernel_rfl) (fun _ _ _ h => h) (Or.inl ⟨by kernel_rfl, ?_⟩) (by assumption) ?_
        rotate_left
        · intro W hSw
          try dsimp only at hSw
          go_simp
          first | done | with_reducible rfl
        try simp only [Act.put, List.setIfInBounds_toArray, List.set_cons_zero, List.set_cons_succ]
        refine take_at (i := 28) (d := 83) (v := ?_) rfl (by kernel_rfl) (by kernel_rfl) (by kernel_rfl) (by kernel_rfl) (fun _ _ _ h => h) (Or.inl ⟨by kernel_rfl, ?_⟩) (by assumption) ?_
        rotate_left
        · intro W hSw
          try dsimp only at hSw
          go_simp
          first | done | with_reducible rfl
        try simp only [Act.put, List.setIfInBounds_toArray, List.set_cons_zero, List.set_cons_succ]
        refine take_at (i := 29) (d := 84) (v := ?_) rfl (by kernel_rfl) (by kernel_rfl) (by kernel_rfl) (by kernel_rfl) (fun _ _ _ h => h) (Or.inl ⟨by kernel_rfl, ?_⟩) (by assumption) ?_
        rotate_left
        · intro W hSw
          try dsimp only at hSw
          go_simp
          first | done | with_reducible rfl
        try simp only [Act.put, List.setIfInBounds_toArray, List.set_cons_zero, List.set_cons_succ]
        refine take_at (i := 30) (d := 85) (v := ?_) rfl (by kernel_rfl) (by kernel_rfl) (by kernel_rfl) (by kernel_rfl) (fun _ _ _ h => h) (Or.inl ⟨by kernel_rfl, ?_⟩) (by assumption) ?_
        rotate_left
        · intro W hSw
          try dsimp only at hSw
          go_simp
          first | done | with_reducible rfl
        try simp only [Act.put, List.setIfInBounds_toArray, List.set_cons_zero, List.set_cons_succ]
        refine take_at (i := 31) (d := 86) (v := ?_) rfl (by kernel_rfl) (by kernel_rfl) (by kernel_rfl) (by kernel_rfl) (fun _ _ _ h => h) (Or.inl ⟨by kernel_rfl, ?_⟩) (by assumption) ?_
        rotate_left
        · intro W hSw
          try dsimp only at hSw
          have hz8 := HKO.out.below hSw HKO.out.lt
          obtain ⟨x0, x1, x2, x3, x4, x5, x6, x7⟩ := box_cells hz8
          go_simp
          first | done | with_reducible rfl
        try simp only [Act.put, List.setIfInBounds_toArray, List.set_cons_zero, List.set_cons_succ]
        refine take_at (i := 32) (d := 87) (v := ?_) rfl (by kernel_rfl) (by kernel_rfl) (by kernel_rfl) (by kernel_rfl) (fun _ _ _ h => h) (Or.inl ⟨by kernel_rfl, ?_⟩) (by assumption) ?_
        rotate_left
        · intro W hSw
          try dsimp only at hSw
          have hz8 := HKP.out.below hSw HKP.out.lt
          obtain ⟨x0, x1, x2, x3, x4, x5, x6, x7⟩ := box_cells hz8
          go_simp
          first | done | with_reducible rfl
        try simp only [Act.put, List.setIfInBounds_toArray, List.set_cons_zero, List.set_cons_succ]
        refine take_at (i := 34) (d := 89) (v := ?_) rfl (by kernel_rfl) (by kernel_rfl) (by kernel_rfl) (by kernel_rfl) (fun _ _ _ h => h) (Or.inl ⟨by kernel_rfl, ?_⟩) (by assumption) ?_
        rotate_left
        · intro W hSw
          try dsimp only at hSw
          have hz8 := HKO.out.below hSw HKO.out.lt
          obtain ⟨x0, x1, x2, x3, x4, x5, x6, x7⟩ := box_cells hz8
          go_simp
          first | done | with_reducible rfl
        try simp only [Act.put, List.setIfInBounds_toArray, List.set_cons_zero, List.set_cons_succ]
        refine take_at (i := 36) (d := 91) (v := ?_) rfl (by kernel_rfl) (by kernel_rfl) (by kernel_rfl) (by kernel_rfl) (fun _ _ _ h => h) (Or.inl ⟨by kernel_rfl, ?_⟩) (by assumption) ?_
        rotate_left
        · intro W hSw
          try dsimp only at hSw
          have hz8 := HKP.out.below hSw HKP.out.lt
          obtain ⟨x0, x1, x2, x3, x4, x5, x6, x7⟩ := box_cells hz8
          go_simp
          first | done | with_reducible rfl
        try simp only [Act.put, List.setIfInBounds_toArray, List.set_cons_zero, List.set_cons_succ]
        refine wpAnyH_ready (rs := [33]) (by kernel_rfl) (by simp) (AllReadyH.cons rfl (fun K hK => ?_) AllReadyH.nil)
        go_simp
        go_at_call 24
        refine (same_any _ _ o p _ (HV.out.below (HALL.out _ HS.out)) (HV'.out.below (HALL.out _ HS.out))).mono ?_
        rw [HSM.out]
        rintro e wn ⟨rfl, hb⟩
        replace HS := Lib.hid (Below.after HS.out hb)
        clear hb
        try go_wp2_with fail
        refine hK.out _ _ ?_ (fun hHeld => ?_)
        · try dsimp only
          exact HS.out
        clear hK K
        try simp only [Act.put, List.setIfInBounds_toArray, List.set_cons_zero, List.set_cons_succ]
        refine wpAnyH_ready (rs := [35]) (by kernel_rfl) (by simp) (AllReadyH.cons rfl (fun K hK => ?_) AllReadyH.nil)
        go_simp
        go_at_call 16
        refine (plain_any _ o _ (HV.out.below (HALL.out _ HS.out)) HIO.out).mono ?_
        rintro e wn ⟨p4, rfl, hp, hb⟩
        have HP4 := Lib.hid hp
        clear hp
        replace HS := Lib.hid (Below.after HS.out hb)
        clear hb
        try go_wp2_with fail
        refine hK.out _ _ ?_ (fun hHeld => ?_)
        · try dsimp only
          exact HS.out
        clear hK K
        try simp only [Act.put, List.setIfInBounds_toArray, List.set_cons_zero, List.set_cons_succ]
        refine wpAnyH_ready (rs := [37]) (by kernel_rfl) (by simp) (AllReadyH.cons rfl (fun K hK => ?_) AllReadyH.nil)
        go_simp
        go_at_call 16
        refine (plain_any _ p _ (HV'.out.below (HALL.out _ HS.out)) HIP.out).mono ?_
        rintro e wn ⟨p5, rfl, hp, hb⟩
        have HP5 := Lib.hid hp
        replace HP4 := Lib.hid (HP4.out.below hb)
        clear hp
        replace HS := Lib.hid (Below.after HS.out hb)
        clear hb
        try go_wp2_with fail
        refine hK.out _ _ ?_ (fun hHeld => ?_)
        · try dsimp only
          exact HS.out
        clear hK K
        try simp only [Act.put, List.setIfInBounds_toArray, List.set_cons_zero, List.set_cons_succ]
        refine wpAnyH_ready (rs := [38]) (by kernel_rfl) (by simp) (AllReadyH.cons rfl (fun K hK => ?_) AllReadyH.nil)
        go_simp
        go_at_call 23
        refine (rsame_any p4 p5 o p _ HP4.out HP5.out).mono ?_
        rw [HSM.out]
        rintro e wn ⟨rfl, hb⟩
        replace HS := Lib.hid (Below.after HS.out hb)
        clear hb
        try go_wp2_with fail
        refine hK.out _ _ ?_ (fun hHeld => ?_)
        · try dsimp only
          exact HS.out
        clear hK K
        try simp only [Act.put, List.setIfInBounds_toArray, List.set_cons_zero, List.set_cons_succ]
        refine take_at (i := 39) (d := 94) (v := ?_) rfl (by kernel_rfl) (by kernel_rfl) (by kernel_rfl) (by kernel_rfl) (fun _ _ _ h => h) (Or.inl ⟨by kernel_rfl, ?_⟩) (by assumption) ?_
        rotate_left
        · intro W hSw
          try dsimp only at hSw
          go_simp
          first | done | with_reducible rfl
        try simp only [Act.put, List.setIfInBounds_toArray, List.set_cons_zero, List.set_cons_succ]
        refine take_at (i := 40) (d := 95) (v := ?_) rfl (by kernel_rfl) (by kernel_rfl) (by kernel_rfl) (by kernel_rfl) (fun _ _ _ h => h) (Or.inl ⟨by kernel_rfl, ?_⟩) (by assumption) ?_
        rotate_left
        · intro W hSw
          try dsimp only at hSw
          go_simp
          first | done | with_reducible rfl
        try simp only [Act.put, List.setIfInBounds_toArray, List.set_cons_zero, List.set_cons_succ]
        refine take_at (i := 41) (d := 96) (v := ?_) rfl (by kernel_rfl) (by kernel_rfl) (by kernel_rfl) (by kernel_rfl) (fun _ _ _ h => h) (Or.inl ⟨by kernel_rfl, ?_⟩) (by assumption) ?_
        rotate_left
        · intro W hSw
          try dsimp only at hSw
          go_simp
          first | done | with_reducible rfl
        try simp only [Act.put, List.setIfInBounds_toArray, List.set_cons_zero, List.set_cons_succ]
        refine take_at (i := 42) (d := 97) (v := ?_) rfl (by kernel_rfl) (by kernel_rfl) (by kernel_rfl) (by kernel_rfl) (fun _ _ _ h => h) (Or.inl ⟨by kernel_rfl, ?_⟩) (by assumption) ?_
        rotate_left
        · intro W hSw
          try dsimp only at hSw
          have hz8 := HKO.out.below hSw HKO.out.lt
          obtain ⟨x0, x1, x2, x3, x4, x5, x6, x7⟩ := box_cells hz8
          go_simp
          first | done | with_reducible rfl
        try simp only [Act.put, List.setIfInBounds_toArray, List.set_cons_zero, List.set_cons_succ]
        refine take_at (i := 44) (d := 99) (v := ?_) rfl (by kernel_rfl) (by kernel_rfl) (by kernel_rfl) (by kernel_rfl) (fun _ _ _ h => h) (Or.inl ⟨by kernel_rfl, ?_⟩) (by assumption) ?_
        rotate_left
        · intro W hSw
          try dsimp only at hSw
          have hz8 := HKO.out.below hSw HKO.out.lt
          obtain ⟨x0, x1, x2, x3, x4, x5, x6, x7⟩ := box_cells hz8
          go_simp
          first | done | with_reducible rfl
        try simp only [Act.put, List.setIfInBounds_toArray, List.set_cons_zero, List.set_cons_succ]
        refine wpAnyH_ready (rs := [43]) (by kernel_rfl) (by simp) (AllReadyH.cons rfl (fun K hK => ?_) AllReadyH.nil)
        go_simp
        go_at_call 25
        refine (refs_any _ o _ (HV.out.below (HALL.out _ HS.out)) HF1.out.items HF1.out.parents).mono ?_
        rintro e wn ⟨r1, rfl, hp, hb⟩
        have HR1 := Lib.hid hp.slv
        clear hp
        replace HS := Lib.hid (Below.after HS.out hb)
        clear hb
        try go_wp2_with fail
        refine hK.out _ _ ?_ (fun hHeld => ?_)
        · try dsimp only
          exact HS.out
        clear hK K
        try simp only [Act.put, List.setIfInBounds_toArray, List.set_cons_zero, List.set_cons_succ]
        refine wpAnyH_ready (rs := [45]) (by kernel_rfl) (by simp) (AllReadyH.cons rfl (fun K hK => ?_) AllReadyH.nil)
        go_simp
        go_at_call 16
        refine (plain_any _ o _ (HV.out.below (HALL.out _ HS.out)) HIO.out).mono ?_
        rintro e wn ⟨p6, rfl, hp, hb⟩
        have HP6 := Lib.hid hp
        replace HR1 := Lib.hid (Tx.SlV.below HR1.out hb)
        clear hp
        replace HS := Lib.hid (Below.after HS.out hb)
        clear hb
        try go_wp2_with fail
        refine hK.out _ _ ?_ (fun hHeld => ?_)
        · try dsimp only
          exact HS.out
        clear hK K
        try simp only [Act.put, List.setIfInBounds_toArray, List.set_cons_zero, List.set_cons_succ]
        refine wpAnyH_ready (rs := [46]) (by kernel_rfl) (by simp) (AllReadyH.cons rfl (fun K hK => ?_) AllReadyH.nil)
        go_simp
        go_at_call 26
        refine (rrefs_any p6 o _ HP6.out HF1.out.items HF1.out.parents).mono ?_
        rintro e wn ⟨r2, rfl, hp, hb⟩
        have HR2 := Lib.hid hp.slv
        replace HR1 := Lib.hid (Tx.SlV.below HR1.out hb)
        clear hp
        replace HS := Lib.hid (Below.after HS.out hb)
        clear hb
        try go_wp2_with fail
        refine hK.out _ _ ?_ (fun hHeld => ?_)
        · try dsimp only
          exact HS.out
        clear hK K
        try simp only [Act.put, List.setIfInBounds_toArray, List.set_cons_zero, List.set_cons_succ]
        refine wpAnyH_ready (rs := [47]) (by kernel_rfl) (by simp) (AllReadyH.cons rfl (fun K hK => ?_) AllReadyH.nil)
        go_simp
        go_at_call 10
        refine (rtexts_any r1 r2 (refsL o) (refsL o) _ HR1.out HR2.out).mono ?_
        rw [beq_self_eq_true]
        rintro e wn ⟨rfl, hb⟩
        replace HS := Lib.hid (Below.after HS.out hb)
        clear hb
        try go_wp2_with fail
        refine hK.out _ _ ?_ (fun hHeld => ?_)
        · try dsimp only
          exact HS.out
        clear hK K
        try simp only [Act.put, List.setIfInBounds_toArray, List.set_cons_zero, List.set_cons_succ]
        refine take_at (i := 48) (d := 103) (v := ?_) rfl (by kernel_rfl) (by kernel_rfl) (by kernel_rfl) (by kernel_rfl) (fun _ _ _ h => h) (Or.inl ⟨by kernel_rfl, ?_⟩) (by assumption) ?_
        rotate_left
        · intro W hSw
          try dsimp only at hSw
          go_simp
          first | done | with_reducible rfl
        try simp only [Act.put, List.setIfInBounds_toArray, List.set_cons_zero, List.set_cons_succ]
        refine take_at (i := 49) (d := 104) (v := ?_) rfl (by kernel_rfl) (by kernel_rfl) (by kernel_rfl) (by kernel_rfl) (fun _ _ _ h => h) (Or.inl ⟨by kernel_rfl, ?_⟩) (by assumption) ?_
        rotate_left
        · intro W hSw
          try dsimp only at hSw
          go_simp
          first | done | with_reducible rfl
        try simp only [Act.put, List.setIfInBounds_toArray, List.set_cons_zero, List.set_cons_succ]
        refine take_at (i := 50) (d := 105) (v := ?_) rfl (by kernel_rfl) (by kernel_rfl) (by kernel_rfl) (by kernel_rfl) (fun _ _ _ h => h) (Or.inl ⟨by kernel_rfl, ?_⟩) (by assumption) ?_
        rotate_left
        · intro W hSw
          try dsimp only at hSw
          go_simp
          first | done | with_reducible rfl
        try simp only [Act.put, List.setIfInBounds_toArray, List.set_cons_zero, List.set_cons_succ]
        refine take_at (i := 51) (d := 106) (v := ?_) rfl (by kernel_rfl) (by kernel_rfl) (by kernel_rfl) (by kernel_rfl) (fun _ _ _ h => h) (Or.inl ⟨by kernel_rfl, ?_⟩) (by assumption) ?_
        rotate_left
        · intro W hSw
          try dsimp only at hSw
          go_simp
          first | done | with_reducible rfl
        try simp only [Act.put, List.setIfInBounds_toArray, List.set_cons_zero, List.set_cons_succ]
        refine wpAnyH_ready (rs := [52]) (by kernel_rfl) (by simp) (AllReadyH.cons rfl (fun K hK => ?_) AllReadyH.nil)
        go_simp
        go_at_call 20
        refine (bytes_any _ _ bs bs _ (HIN.out.below HS.out) (HBS.out.below (HALL.out _ HS.out)) true (beq_self_eq_true _)).mono ?_
        rintro e wn ⟨rfl, rfl⟩
        try go_wp2_with fail
        refine hK.out _ _ ?_ (fun hHeld => ?_)
        · try dsimp only
          exact HS.out
        clear hK K
        try simp only [Act.put, List.setIfInBounds_toArray, List.set_cons_zero, List.set_cons_succ]
        refine take_at (i := 53) (d := 108) (v := ?_) rfl (by kernel_rfl) (by kernel_rfl) (by kernel_rfl) (by kernel_rfl) (fun _ _ _ h => h) (Or.inl ⟨by kernel_rfl, ?_⟩) (by assumption) ?_
        rotate_left
        · intro W hSw
          try dsimp only at hSw
          go_simp
          first | done | with_reducible rfl
        try simp only [Act.put, List.setIfInBounds_toArray, List.set_cons_zero, List.set_cons_succ]
        refine take_at (i := 54) (d := 6) (v := ?_) rfl (by kernel_rfl) (by kernel_rfl) (by kernel_rfl) (by kernel_rfl) (fun _ _ _ h => h) (Or.inl ⟨by kernel_rfl, ?_⟩) (by assumption) ?_
        rotate_left
        · intro W hSw
          try dsimp only at hSw
          go_simp
          first | done | with_reducible rfl
        try simp only [Act.put, List.setIfInBounds_toArray, List.set_cons_zero, List.set_cons_succ]
        refine wpAnyH_done (by kernel_rfl) ?_ _
        go_wp2_with fail
        go_ret
        exact ⟨rfl, HALL.out _ HS.out⟩
end Go.Proofs.Ytcmlofgkcalhnaa.Ob
