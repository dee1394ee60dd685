/- Texts put together: VRo8. -/
import Derived.Test.YtpfjlhpahmhkhaaGreatQv26
/- The document's Encode. -/
namespace Go.Proofs.YtpfjlhpahmhkhaaGreat.Ob
open Go.RowKit Go.Proofs.YtpfjlhpahmhkhaaGreat.Sh
open Go.Proofs.YtpfjlhpahmhkhaaGreat.Tx (OwnV SlV sv bl nameB reads_at texts_at toList_ne')
theorem Kp.drew_ {B : Nat} {w w' : World} (h : Kp B w w') : Kp B w w'.drew := ⟨h.below.trans ⟨rfl, rfl, rfl, Nat.le_refl _, fun _ _ => rfl⟩, fun k t cs hb ht => h.blk k t cs hb ht⟩
theorem Blk.drew_ {w : World} {k : Nat} {t : TypeId} {cs : Array Value} (h : Blk w k t cs) : Blk w.drew k t cs := h
theorem Own.drew_ {w : World} {B : Nat} {v : Value} {bs : List UInt8} (h : Own w B v bs) : Own w.drew B v bs := h
section
variable {ops : Array Oper} {o : Oper} {a : Act} {K : Act → World → Prop} {Q : Exit → Act → World → Prop} {E : Prop}
theorem sapp_bytes (d : Nat) (hd : o.dst = some d) (hgd : o.guard = none) (s x : Operand) (ho : o.op = .call { callee := .builtin .append, args := #[s, x], argTypes := #[32, 32] }) (w : World) (B : Nat) (v : Value) (bs : List UInt8) (hs : a.eval s = v) (hown : Own w B v bs)
  (B' : Nat) (A : Option Addr) (m c : Nat) (news : List UInt8) (hx : a.eval x = .slice A m c) (hr : Reads w B' 1 A m (news.map bv)) (hsmall : bs.length + m ≤ 140737488355328) (hB : B ≤ w.heap.size)
  (h : ∀ v' w', Own w' B v' (bs ++ news) → Kp B w w' → w.grownBy w' v.ownBlock → K (a.put (some d) v') w') : if Region.wanted o (yielded ops a.tmps) = true then Oper.wp Tryz.prog o a w K Q else E := by
 obtain ⟨i0, hi, hz0, hz1, hz2⟩ := info_parts info5
 have hm : news.length = m := by have := hr.1; simpa using this
 refine step_append_any w hgd s x 32 ho B 5 i0 (.int .u8 0) 1 1 Tryz.underlying32 hi hz0 hz1 hz2 rfl (by decide) v bs.length _ hs hown B' A m c _ hx hr (bv_one news) (by unfold maxLen; omega) (by omega) hB ?_
 intro v' w' h1 h2 _
 have h9 := h v' w' (by unfold Own; rw [List.length_append, hm, List.map_append]; exact h1) (Kp.grown hown h2 hB) h2
 rw [← hd] at h9
 exact h9
theorem byte_new {w : World} {B : Nat} {v : Value} {bs : List UInt8} (h : Own w B v bs) (u : UInt8) : Reads (w.alloc (.cells #[.int .u8 (bi u)] 5)) (w.alloc (.cells #[.int .u8 (bi u)] 5)).heap.size 1 (some ⟨w.heap.size, 0, none⟩) 1 ([u].map bv) ∧ some w.heap.size ≠ v.ownBlock :=
 ⟨(reads_new w [u] _ rfl 1 rfl).more (by simp), fun e => by have := (World.ownsRow.lt h _ e.symm).2; omega⟩
theorem byte_far {w w' : World} {B' g : Nat} {row : Option Nat} {u : UInt8} (h : Reads w B' 1 (some ⟨g, 0, none⟩) 1 ([u].map bv)) (hg : w.grownBy w' row) (hne : some g ≠ row) : Reads w' B' 1 (some ⟨g, 0, none⟩) 1 ([u].map bv) := by
 refine ⟨h.1, fun h0 => ?_⟩
 obtain ⟨ad, e, hb, hc⟩ := h.2 h0
 injection e with e
 subst e
 have hl := World.block_lt_of_cell? w _ (hc 0 _ rfl)
 rw [block_of_add] at hl
 refine ⟨_, rfl, hb, fun j x hx => (World.cell?_of_block ?_).trans (hc j x hx)⟩
 rw [block_of_add]
 exact hg.block g hl hne
theorem sapp_str (d : Nat) (hd : o.dst = some d) (hgd : o.guard = none) (s x : Operand) (ho : o.op = .call { callee := .builtin .append, args := #[s, x], argTypes := #[32, 9] }) (w : World) (B : Nat) (v : Value) (bs : List UInt8) (hs : a.eval s = v) (hown : Own w B v bs)
  (us : List UInt8) (hx : a.eval x = .string (str us)) (hsmall : bs.length + us.length ≤ 140737488355328) (hB : B ≤ w.heap.size)
  (h : ∀ v' w', Own w' B v' (bs ++ us) → Kp B w w' → K (a.put (some d) v') w') : if Region.wanted o (yielded ops a.tmps) = true then Oper.wp Tryz.prog o a w K Q else E := by
 have hw : Region.wanted o (yielded ops a.tmps) = true := by simp [Region.wanted, hgd]
 rw [if_pos hw]
 obtain ⟨i0, hi, hz0, hz1, hz2⟩ := info_parts info5
 have hsz := str_size us
 obtain ⟨v', w', hrun, h2, h3, h4⟩ := Lib.run_append_own_string (P := Tryz.prog) w B 32 9 o.type 5 i0 Tryz.underlying32 Tryz.underlying9 hi hz0 hz1 hz2 v bs.length _ hown (str us) (by unfold maxLen; omega) (by omega) hB
 unfold Oper.wp execOp
 simp only [ho, resolve, invoke, builtin, Sem.run_bind, Sem.run_pure, Result.andThen_ok, List.map_toArray, List.map_cons, List.map_nil, hs, hx, hrun]
 have h9 := h v' w' (by unfold Own; rw [List.length_append, List.map_append, ← str_cells us, ← hsz]; exact h2) (Kp.grown hown h3 hB)
 rw [← hd] at h9
 exact h9
end
set_option linter.unusedSimpArgs false in
set_option maxRecDepth 100000 in
set_option maxHeartbeats 12800000 in
theorem rencode_any (v : Value) (o : ObM) (w : World) (h : ObV w v o) (hs : TOk o) : Calls Tryz.prog 208 #[v] w (EncPost w o) := by
 obtain ⟨d, it, ps, rfl, hd, hi, hp⟩ := h
 obtain ⟨k0, D, I, T, P, st, au, ms⟩ := o
 replace hd : Sl w d D := hd
 replace hi : SlI w it I := hi
 replace hp : Tx.SlV w ps ((P.map str).map Tx.sv) := hp
 have HD := Lib.hid hd
 have HI := Lib.hid hi
 have HP := Lib.hid hp
 have HTO := Lib.hid hs
 obtain ⟨A, c, rfl, hlc, hcm, _⟩ := hd
 obtain ⟨A2, c2, rfl, hlc2, hcm2, _, hRI⟩ := hi
 obtain ⟨A3, c3, rfl, hlc3, hcm3, hRP⟩ := hp.len
 unfold maxLen at hcm hcm2 hcm3
 simp only [List.length_map] at hlc3 hRP HP ⊢
 obtain ⟨l, hl⟩ : ∃ l, D.length = l := ⟨_, rfl⟩
 obtain ⟨l2, hl2⟩ : ∃ l, I.length = l := ⟨_, rfl⟩
 obtain ⟨l3, hl3⟩ : ∃ l, P.length = l := ⟨_, rfl⟩
 rw [hl] at hlc HD ⊢
 rw [hl2] at hlc2 hRI HI ⊢
 rw [hl3] at hlc3 hRP HP ⊢
 have HL := Lib.hid hl
 have HL2 := Lib.hid hl2
 have HL3 := Lib.hid hl3
 have HRI := Lib.hid hRI
 have HRP := Lib.hid hRP
 clear hl hl2 hl3 hRI hRP hs hp
 have HB1 : Hid (Below w.heap.size w (w.alloc (.cells #[.int .i64 k0, .slice A l c, .slice A2 l2 c2, .string (str T), .slice A3 l3 c3, .int .i64 st, .int .i64 au, .string (str ms)] 199))) := (Below.refl _ _).alloc (Nat.le_refl _) _
 have HK1 : Hid (Blk (w.alloc (.cells #[.int .i64 k0, .slice A l c, .slice A2 l2 c2, .string (str T), .slice A3 l3 c3, .int .i64 st, .int .i64 au, .string (str ms)] 199)) w.heap.size 199 #[.int .i64 k0, .slice A l c, .slice A2 l2 c2, .string (str T), .slice A3 l3 c3, .int .i64 st, .int .i64 au, .string (str ms)]) := Blk.new _ _ _
 have HV : Hid (ObV w (.agg #[.int .i64 k0, .slice A l c, .slice A2 l2 c2, .string (str T), .slice A3 l3 c3, .int .i64 st, .int .i64 au, .string (str ms)]) ⟨k0, D, I, T, P, st, au, ms⟩) := ⟨_, _, _, rfl, HD.out, HI.out, HP.out⟩
 obtain ⟨t, ht⟩ : ∃ t, mayB ⟨k0, D, I, T, P, st, au, ms⟩ = t := ⟨_, rfl⟩
 have HT := Lib.hid ht
 clear ht
 go_enter Tryz.func208, Tryz.ntmps208
 go_wp2_with fail
 refine (rmay_any _ ⟨k0, D, I, T, P, st, au, ms⟩ _ (HV.out.below HB1.out) HTO.out).mono ?_
 rw [HT.out]
 rintro e w1 ⟨rfl, hb1⟩
 have HB2 := Lib.hid (Below.after HB1.out hb1)
 have HK2 := Lib.hid (HK1.out.below hb1 HK1.out.lt)
 have hwz : w.heap.size ≤ w1.heap.size := HB2.out.size
 have hwz1 : w.heap.size < w1.heap.size := HK2.out.lt
 clear hb1
 cases t with
 | false =>
  go_wp2_with fail
  go_ret2
  exact ⟨fun h => by rw [HT.out] at h; (cases h), fun _ => rfl, HB2.out⟩
 | true =>
  have hkd := mayB_kind HT.out
  obtain ⟨x0, x1, x2, x3, x4, x5, x6, x7⟩ := box_cells HK2.out
  rcases hkd with ⟨rfl, hkb⟩ | ⟨rfl, hkb⟩ | ⟨rfl, hkb⟩
  ·have hlen := (blobB_of hkb).1
   have hsm : [(1 : UInt8)].length + l ≤ 140737488355328 := by
    have : D.length ≤ 20000 := hlen
    rw [HL.out] at this
    rw [List.length_singleton]
    omega
   have HO2 : Hid (Own (w1.alloc (.cells #[.int .u8 1] 5)) w1.heap.size (.slice (some ⟨w1.heap.size, 0, none⟩) 1 1) [1]) := own_one w1 1 1 bi_1
   have HK3 : Hid (Blk (w1.alloc (.cells #[.int .u8 1] 5)) w.heap.size 199 #[.int .i64 1, .slice A l c, .slice A2 l2 c2, .string (str T), .slice A3 l3 c3, .int .i64 st, .int .i64 au, .string (str ms)]) := HK2.out.alloc _
   obtain ⟨y0, y1, y2, y3, y4, y5, y6, y7⟩ := box_cells HK3.out
   have HA2 : Hid (Below w.heap.size w (w1.alloc (.cells #[.int .u8 1] 5))) := HB2.out.alloc hwz _
   have HR : Hid (Reads (w1.alloc (.cells #[.int .u8 1] 5)) (w1.alloc (.cells #[.int .u8 1] 5)).heap.size 1 A l (D.map bv)) := by
    obtain ⟨A', c', hv, _, _, hI, _⟩ := HD.out.below HA2.out
    injection hv with e1 e2 e3
    subst e1
    have := hI.reads
    rw [HL.out] at this
    exact this
   have hz : w1.heap.size ≤ (w1.alloc (.cells #[.int .u8 1] 5)).heap.size := by simp
   clear hkb hlen
   go_wp2_with (at_builtin; refine app_bytes rfl (.tmp 19) (.tmp 21) rfl _ w1.heap.size _ [1] rfl HO2.out _ A l c D rfl HR.out hsm hz ?_; intro v3 w3 ho3 hb3; have HO3 := Lib.hid ho3; have HB3 := Lib.hid hb3; clear ho3 hb3)
   go_ret2
   refine ⟨fun _ => ⟨v3, rfl, ?_⟩, (fun h => by rw [HT.out] at h; cases h), HA2.out.trans (HB3.out.below.mono hwz)⟩
   exact Own.based HO3.out hwz
  ·have HKB := Lib.hid (itemsB_of (treeB_of hkb).1)
   have HO2 : Hid (Own (w1.alloc (.cells #[.int .u8 2] 5)) w1.heap.size (.slice (some ⟨w1.heap.size, 0, none⟩) 1 1) [2]) := own_one w1 2 2 bi_2
   have HK3 : Hid (Blk (w1.alloc (.cells #[.int .u8 2] 5)) w.heap.size 199 #[.int .i64 2, .slice A l c, .slice A2 l2 c2, .string (str T), .slice A3 l3 c3, .int .i64 st, .int .i64 au, .string (str ms)]) := HK2.out.alloc _
   obtain ⟨y0, y1, y2, y3, y4, y5, y6, y7⟩ := box_cells HK3.out
   have HA1 : Hid (Kp w1.heap.size w1 (w1.alloc (.cells #[.int .u8 2] 5))) := (Kp.refl _ _).alloc (Nat.le_refl _) _
   have hz : w1.heap.size ≤ (w1.alloc (.cells #[.int .u8 2] 5)).heap.size := by simp
   have hl256 : l2 ≤ 256 := by rw [← HL2.out]; exact HKB.out.1
   have hl9 := putL_len9 (show l2 ≤ 72057594037927936 from by omega)
   have HL9 := Lib.hid hl9
   clear hkb hl9
   go_wp2_with fail
   refine (num_any l2 _ (by omega)).mono ?_
   rintro e w3 ⟨u3, rfl, hu3, hb3⟩
   clear x0 x1 x2 x3 x4 x5 x6 x7 y0 y1 y2 y3 y4 y5 y6 y7
   obtain ⟨uA, uc, rfl, hu1, hu2, hu4, hu5⟩ := hu3.sl
   have HR3 := Lib.hid hu4.reads
   have HO3 := Lib.hid (HO2.out.below hb3)
   have HK33 := Lib.hid (HK3.out.below hb3 HK3.out.lt)
   have HA3 := Lib.hid (HA1.out.trans (Kp.of_below hb3 hz))
   have hz3 : w1.heap.size ≤ w3.heap.size := HA3.out.size
   obtain ⟨pl, hpl⟩ : ∃ n, (putL l2).length = n := ⟨_, rfl⟩
   rw [hpl] at HR3 HL9 ⊢
   have hsm3 : [(2 : UInt8)].length + pl ≤ 140737488355328 := by have := HL9.out; rw [List.length_singleton]; omega
   clear hu1 hu2 hu3 hu4 hu5 hb3
   go_wp2_with (at_builtin; refine app_bytes rfl (.tmp 25) (.tmp 29) rfl w3 w1.heap.size _ [2] rfl HO3.out _ uA pl uc (putL l2) rfl HR3.out hsm3 hz3 ?_; intro v5 w5 ho5 hb5; have HO5 := Lib.hid ho5; have HK5 := Lib.hid (hb5.blk _ _ _ HK33.out (by decide)); have HA5 := Lib.hid (HA3.out.trans hb5); clear ho5 hb5)
   go_loopw [4, 5] (fun b i wr => ∃ k : Nat, k ≤ l2 ∧ i = .int .i64 k ∧ Own wr w1.heap.size b ([2] ++ putL l2 ++ (I.take k).flatMap encI) ∧ Kp w1.heap.size w1 wr ∧ Blk wr w.heap.size 199 #[.int .i64 2, .slice A l c, .slice A2 l2 c2, .string (str T), .slice A3 l3 c3, .int .i64 st, .int .i64 au, .string (str ms)]) (fun _ i _ => l2 - (intOf i).toNat)
   case atStart => exact ⟨0, Nat.zero_le _, rfl, by simpa using HO5.out, HA5.out, HK5.out⟩
   case round =>
    obtain ⟨k, hk, rfl, hou, hku, hbu⟩ := hrel
    have HOU := Lib.hid hou
    have HKU := Lib.hid hku
    have HBU := Lib.hid hbu
    have k0' : (0 : Int) ≤ (k : Int) := by omega
    have hzu : w1.heap.size ≤ wr.heap.size := hku.size
    have y2 := hbu.cell 2
    clear hou hku hbu
    by_cases hlt : k < l2
    ·have k1 : (k : Int) < (l2 : Int) := by omega
     have hkl : k < I.length := by rw [HL2.out]; exact hlt
     obtain ⟨x, hx⟩ : ∃ x, I[k]? = some x := ⟨_, List.getElem?_eq_getElem hkl⟩
     have HWU : Hid (Below w.heap.size w wr) := HB2.out.trans (HKU.out.below.mono hwz)
     obtain ⟨ad, rfl, c0, c1, c2'⟩ := items_at (HRI.out.below HWU.out) HL2.out.symm k x hx
     obtain ⟨m1, m4, hnm, hid⟩ := itB_of (HKB.out.2 k x hx)
     have hnl := nameB_len hnm
     have HSN := Lib.hid (flat_snoc hx)
     have hlen : ((I.take k).flatMap encI).length ≤ k * 106 := by
      have := encIs_len (l := I.take k) (fun j y hy => HKB.out.2 j y (by
       rw [List.getElem?_take] at hy
       split at hy
       ·exact hy
       ·cases hy))
      rw [List.length_take] at this
      omega
     have hle : ([2] ++ putL l2 ++ (I.take k).flatMap encI).length ≤ 40000 := by
      have := HL9.out
      simp only [List.length_append, List.length_singleton, hpl]
      omega
     obtain ⟨pre, hpre⟩ : ∃ pre, [2] ++ putL l2 ++ (I.take k).flatMap encI = pre := ⟨_, rfl⟩
     have HPRE := Lib.hid hpre
     rw [hpre] at HOU hle
     obtain ⟨m, nm, id⟩ := x
     replace c0 : wr.cell? (ad.add (k * 3)) = some (.int .i64 m) := c0
     replace c1 : wr.cell? ⟨(ad.add (k * 3)).block, (ad.add (k * 3)).off + 1, none⟩ = some (.string (str nm)) := c1
     replace c2' : wr.cell? ⟨(ad.add (k * 3)).block, (ad.add (k * 3)).off + 2, none⟩ = some (.string (str id)) := c2'
     replace m1 : 1 ≤ m := m1
     replace m4 : m ≤ 4 := m4
     replace hid : validB id = true := hid
     have HMB := Lib.hid (mode_byte m1 m4)
     have HID := Lib.hid hid
     have HNL := Lib.hid hnl.2
     have HLE := Lib.hid hle
     have hnsz := str_size nm
     obtain ⟨nl, hnl9⟩ : ∃ n, nm.length = n := ⟨_, rfl⟩
     rw [hnl9] at hnsz
     have HN9 := Lib.hid hnl9
     have HNL2 : Hid (nl ≤ 64) := by unfold Hid; rw [← hnl9]; exact hnl.2
     have HPN9 := Lib.hid (putL_len9 (show nl ≤ 72057594037927936 from by have := HNL2.out; omega))
     have HOC : Hid (Own (wr.alloc (.cells #[.int .i64 m, .string (str nm), .string (str id)] 300)) w1.heap.size u4 pre) := HOU.out.alloc _
     have HKC : Hid (Kp w1.heap.size w1 (wr.alloc (.cells #[.int .i64 m, .string (str nm), .string (str id)] 300))) := HKU.out.alloc hzu _
     have HBX : Hid (Blk (wr.alloc (.cells #[.int .i64 m, .string (str nm), .string (str id)] 300)) w.heap.size 199 #[.int .i64 2, .slice A l c, .slice (some ad) l2 c2, .string (str T), .slice A3 l3 c3, .int .i64 st, .int .i64 au, .string (str ms)]) := HBU.out.alloc _
     have HIX : Hid (Blk (wr.alloc (.cells #[.int .i64 m, .string (str nm), .string (str id)] 300)) wr.heap.size 300 #[.int .i64 m, .string (str nm), .string (str id)]) := Blk.new _ _ _
     have hmb := HMB.out
     clear hx hkl hnm hid hnl hpre hlen hle m1 m4 hnl9 HOU HKU HBU
     obtain ⟨WA, hWA⟩ : ∃ W, W = (wr.alloc (.cells #[.int .i64 m, .string (str nm), .string (str id)] 300)) := ⟨_, rfl⟩
     go_upto_region 13 with (fail)
     rw [← hWA] at HOC HKC HBX HIX ⊢
     clear hWA c0 c1 c2' y2
     replace HOC : Hid (Own WA.drew w1.heap.size u4 pre) := HOC
     replace HKC : Hid (Kp w1.heap.size w1 WA.drew) := HKC.out.drew_
     replace HBX : Hid (Blk WA.drew w.heap.size 199 #[.int .i64 2, .slice A l c, .slice (some ad) l2 c2, .string (str T), .slice A3 l3 c3, .int .i64 st, .int .i64 au, .string (str ms)]) := HBX
     replace HIX : Hid (Blk WA.drew wr.heap.size 300 #[.int .i64 m, .string (str nm), .string (str id)]) := HIX
     refine wp_region_held_drew (S := (fun W : World => W.cell? ⟨wr.heap.size, 0, none⟩ = some (.int .i64 m) ∧ W.cell? ⟨wr.heap.size, 1, none⟩ = some (.string (str nm)))) (by kernel_rfl) ?_ (fun hHeld => ?_)
     ·(try dsimp only); exact ⟨HIX.out.cell 0, HIX.out.cell 1⟩
     refine take_at (i := 0) (d := 43) (v := ?_) rfl (by kernel_rfl) (hy := .inl ⟨by kernel_rfl, ?_⟩) (h := ?_)
     rotate_left
     ·intro W hSw; (try dsimp only at hSw); go_simp; first | done | with_reducible rfl
     try simp only [Act.put, List.setIfInBounds_toArray, List.set_cons_zero, List.set_cons_succ]
     refine take_at (i := 1) (d := 44) (v := ?_) rfl (by kernel_rfl) (hy := .inl ⟨by kernel_rfl, ?_⟩) (h := ?_)
     rotate_left
     ·intro W hSw; (try dsimp only at hSw); go_simp; first | done | with_reducible rfl
     try simp only [Act.put, List.setIfInBounds_toArray, List.set_cons_zero, List.set_cons_succ]
     refine take_at (i := 2) (d := 45) (v := ?_) rfl (by kernel_rfl) (hy := .inl ⟨by kernel_rfl, ?_⟩) (h := ?_)
     rotate_left
     ·intro W hSw; (try dsimp only at hSw); go_simp; first | done | with_reducible rfl
     try simp only [Act.put, List.setIfInBounds_toArray, List.set_cons_zero, List.set_cons_succ]
     refine take_at (i := 3) (d := 46) (v := ?_) rfl (by kernel_rfl) (hy := .inl ⟨by kernel_rfl, ?_⟩) (h := ?_)
     rotate_left
     ·intro W hSw; (try dsimp only at hSw); go_simp; first | done | with_reducible rfl
     try simp only [Act.put, List.setIfInBounds_toArray, List.set_cons_zero, List.set_cons_succ]
     refine take_at (i := 6) (d := 49) (v := ?_) rfl (by kernel_rfl) (hy := .inl ⟨by kernel_rfl, ?_⟩) (h := ?_)
     rotate_left
     ·intro W hSw; (try dsimp only at hSw); go_simp; first | done | with_reducible rfl
     try simp only [Act.put, List.setIfInBounds_toArray, List.set_cons_zero, List.set_cons_succ]
     refine take_at (i := 7) (d := 50) (v := ?_) rfl (by kernel_rfl) (hy := .inl ⟨by kernel_rfl, ?_⟩) (h := ?_)
     rotate_left
     ·intro W hSw; (try dsimp only at hSw); go_simp; first | done | with_reducible rfl
     try simp only [Act.put, List.setIfInBounds_toArray, List.set_cons_zero, List.set_cons_succ]
     refine take_at (i := 8) (d := 51) (v := ?_) rfl (by kernel_rfl) (hy := .inl ⟨by kernel_rfl, ?_⟩) (h := ?_)
     rotate_left
     ·intro W hSw; (try dsimp only at hSw); go_simp; first | done | with_reducible rfl
     try simp only [Act.put, List.setIfInBounds_toArray, List.set_cons_zero, List.set_cons_succ]
     refine take_at (i := 11) (d := 54) (v := ?_) rfl (by kernel_rfl) (hy := .inl ⟨by kernel_rfl, ?_⟩) (h := ?_)
     rotate_left
     ·intro W hSw; (try dsimp only at hSw); go_simp; first | done | with_reducible rfl
     try simp only [Act.put, List.setIfInBounds_toArray, List.set_cons_zero, List.set_cons_succ]
     refine take_at (i := 12) (d := 55) (v := ?_) rfl (by kernel_rfl) (hy := .inl ⟨by kernel_rfl, ?_⟩) (h := ?_)
     rotate_left
     ·intro W hSw; (try dsimp only at hSw); go_simp; first | done | with_reducible rfl
     try simp only [Act.put, List.setIfInBounds_toArray, List.set_cons_zero, List.set_cons_succ]
     refine wpAnyH_ready (rs := [4]) (by kernel_rfl) (by simp) (AllReadyH.cons rfl (fun K hK => ?_) AllReadyH.nil)
     go_simp
     have HU : Hid (Reads (WA.drew.alloc (.cells #[.int .u8 (bi (UInt8.ofNat m.toNat))] 5)) (WA.drew.heap.size + 1) 1 (some ⟨WA.drew.heap.size, 0, none⟩) 1 ([UInt8.ofNat m.toNat].map bv)) := reads_new WA.drew [UInt8.ofNat m.toNat] _ rfl 1 rfl
     replace HOC := Lib.hid (HOC.out.alloc (.cells #[.int .u8 (bi (UInt8.ofNat m.toNat))] 5))
     replace HKC := Lib.hid (HKC.out.alloc HKC.out.size (.cells #[.int .u8 (bi (UInt8.ofNat m.toNat))] 5))
     replace HBX := Lib.hid (HBX.out.alloc (.cells #[.int .u8 (bi (UInt8.ofNat m.toNat))] 5))
     try replace HIX := Lib.hid (HIX.out.alloc (.cells #[.int .u8 (bi (UInt8.ofNat m.toNat))] 5))
     try go_wp2_with fail
     refine hK.out _ _ ?_ (fun hHeld => ?_)
     ·(try dsimp only); exact ⟨HIX.out.cell 0, HIX.out.cell 1⟩
     clear hK K
     try simp only [Act.put, List.setIfInBounds_toArray, List.set_cons_zero, List.set_cons_succ]
     refine wpAnyH_ready (rs := [5]) (by kernel_rfl) (by simp) (AllReadyH.cons rfl (fun K hK => ?_) AllReadyH.nil)
     have hz5 := HKC.out.size
     refine sapp_bytes 48 rfl rfl (.tmp 43) (.tmp 47) rfl _ w1.heap.size _ _ rfl (by exact HOC.out) _ _ _ _ [UInt8.ofNat m.toNat] rfl (by exact HU.out) (by have := HLE.out; omega) (by exact hz5) ?_
     intro v5 w5 ho5 hk5 hg5
     replace HOC := Lib.hid ho5
     replace HKC := Lib.hid (HKC.out.trans hk5)
     replace HBX := Lib.hid (hk5.blk _ _ _ HBX.out (by decide))
     try replace HIX := Lib.hid (hk5.blk _ _ _ HIX.out (by decide))
     clear ho5 hk5 hz5 hg5
     try go_wp2_with fail
     refine hK.out _ _ ?_ (fun hHeld => ?_)
     ·(try dsimp only); exact ⟨HIX.out.cell 0, HIX.out.cell 1⟩
     clear hK K
     try simp only [Act.put, List.setIfInBounds_toArray, List.set_cons_zero, List.set_cons_succ]
     refine wpAnyH_ready (rs := [9]) (by kernel_rfl) (by simp) (AllReadyH.cons rfl (fun K hK => ?_) AllReadyH.nil)
     go_simp
     go_at_call 271
     refine (num_any nl _ (by have := HNL2.out; omega)).mono ?_
     rintro e w9 ⟨u9, rfl, hu9, hb9⟩
     obtain ⟨uA9, uc9, rfl, _, _, hi9, _⟩ := hu9.sl
     have HU := Lib.hid hi9.reads
     replace HOC := Lib.hid (HOC.out.below hb9)
     replace HKC := Lib.hid (HKC.out.trans (Kp.of_below hb9 HKC.out.size))
     replace HBX := Lib.hid (HBX.out.below hb9 HBX.out.lt)
     try replace HIX := Lib.hid (HIX.out.below hb9 HIX.out.lt)
     clear hi9 hu9 hb9
     try go_wp2_with fail
     refine hK.out _ _ ?_ (fun hHeld => ?_)
     ·(try dsimp only); exact ⟨HIX.out.cell 0, HIX.out.cell 1⟩
     clear hK K
     try simp only [Act.put, List.setIfInBounds_toArray, List.set_cons_zero, List.set_cons_succ]
     refine wpAnyH_ready (rs := [10]) (by kernel_rfl) (by simp) (AllReadyH.cons rfl (fun K hK => ?_) AllReadyH.nil)
     have hz10 := HKC.out.size
     refine sapp_bytes 53 rfl rfl (.tmp 48) (.tmp 52) rfl _ w1.heap.size _ _ rfl (by exact HOC.out) _ _ _ _ (putL nl) rfl (by exact HU.out) (by have h1 := HLE.out; have h2 := HPN9.out; simp only [List.length_append, List.length_singleton]; omega) (by exact hz10) ?_
     intro v10 w10 ho10 hk10 hg10
     replace HOC := Lib.hid ho10
     replace HKC := Lib.hid (HKC.out.trans hk10)
     replace HBX := Lib.hid (hk10.blk _ _ _ HBX.out (by decide))
     try replace HIX := Lib.hid (hk10.blk _ _ _ HIX.out (by decide))
     clear ho10 hk10 hz10 hg10
     try go_wp2_with fail
     refine hK.out _ _ ?_ (fun hHeld => ?_)
     ·(try dsimp only); exact ⟨HIX.out.cell 0, HIX.out.cell 1⟩
     clear hK K
     try simp only [Act.put, List.setIfInBounds_toArray, List.set_cons_zero, List.set_cons_succ]
     refine wpAnyH_ready (rs := [13]) (by kernel_rfl) (by simp) (AllReadyH.cons rfl (fun K hK => ?_) AllReadyH.nil)
     have hz13 := HKC.out.size
     refine sapp_str 56 rfl rfl (.tmp 53) (.tmp 55) rfl _ w1.heap.size _ _ rfl (by exact HOC.out) nm rfl (by have h1 := HLE.out; have h2 := HPN9.out; have h3 := HNL.out; simp only [List.length_append, List.length_singleton]; omega) (by exact hz13) ?_
     intro v13 w13 ho13 hk13
     replace HOC := Lib.hid ho13
     replace HKC := Lib.hid (HKC.out.trans hk13)
     replace HBX := Lib.hid (hk13.blk _ _ _ HBX.out (by decide))
     replace HIX := Lib.hid (hk13.blk _ _ _ HIX.out (by decide))
     clear ho13 hk13 hz13
     try go_wp2_with fail
     refine hK.out _ _ ?_ (fun hHeld => ?_)
     ·(try dsimp only); exact ⟨HIX.out.cell 0, HIX.out.cell 1⟩
     clear hK K
     try simp only [Act.put, List.setIfInBounds_toArray, List.set_cons_zero, List.set_cons_succ]
     refine take_at (i := 14) (d := 4) (v := ?_) rfl (by kernel_rfl) (hy := .inl ⟨by kernel_rfl, ?_⟩) (h := ?_)
     rotate_left
     ·intro W hSw; (try dsimp only at hSw); go_simp; first | done | with_reducible rfl
     try simp only [Act.put, List.setIfInBounds_toArray, List.set_cons_zero, List.set_cons_succ]
     refine wpAnyH_done (by kernel_rfl) ?_ _
     have z2 := HIX.out.cell 2
     go_wp2_with fail
     clear z2
     refine (raw_any id _ HID.out).mono ?_
     rintro e w20 ⟨u20, rfl, hu20, hb20⟩
     obtain ⟨uA20, uc20, rfl, _, _, hi20, _⟩ := hu20.sl
     have HU20 := Lib.hid hi20.reads
     replace HOC := Lib.hid (HOC.out.below hb20)
     replace HKC := Lib.hid (HKC.out.trans (Kp.of_below hb20 HKC.out.size))
     replace HBX := Lib.hid (HBX.out.below hb20 HBX.out.lt)
     clear hi20 hu20 hb20
     have hz20 := HKC.out.size
     have hs20 : (pre ++ [UInt8.ofNat m.toNat] ++ putL nl ++ nm).length + (unhexL id).length ≤ 140737488355328 := by
      have h1 := HLE.out
      have h2 := HPN9.out
      have h3 := HNL.out
      have h4 := unhexL_length id
      have h5 := (validB_len HID.out).1
      simp only [List.length_append, List.length_singleton]
      omega
     go_wp2_with (at_builtin; refine app_bytes rfl (.tmp 57) (.tmp 60) rfl _ w1.heap.size _ _ rfl HOC.out _ uA20 _ uc20 (unhexL id) rfl HU20.out hs20 hz20 ?_; intro v21 w21 ho21 hk21; replace HOC := Lib.hid ho21; replace HKC := Lib.hid (HKC.out.trans hk21); replace HBX := Lib.hid (hk21.blk _ _ _ HBX.out (by decide)); clear ho21 hk21)
     go_roundw
     case rel =>
      refine ⟨k + 1, by omega, by go_num, ?_, HKC.out, HBX.out⟩
      rw [HSN.out]
      have := HOC.out
      rw [← HPRE.out, ← HN9.out] at this
      rw [show encI (m, nm, id) = [UInt8.ofNat m.toNat] ++ (putL nm.length ++ nm) ++ unhexL id from rfl]
      simpa only [List.append_assoc] using this
     case measure => simp [intOf]; omega
    ·obtain rfl : k = l2 := by omega
     go_wp2_with fail
     go_ret2
     refine ⟨fun _ => ⟨u4, rfl, ?_⟩, (fun h => by rw [HT.out] at h; cases h), HB2.out.trans (HKU.out.below.mono hwz)⟩
     have h9 := Own.based HOU.out hwz
     rw [List.take_of_length_le (by rw [HL2.out]; exact Nat.le_refl _)] at h9
     rw [show encL ⟨2, D, I, T, P, st, au, ms⟩ = [2] ++ encIs I from rfl]
     unfold encIs
     rw [HL2.out, ← List.append_assoc]
     exact h9
  ·have hcm9 := (commB_of hkb).2.2
   replace hcm9 : CommOk T P st au ms := hcm9
   have HOK := Lib.hid hcm9
   obtain ⟨n, hn⟩ : ∃ n : Nat, st = (n : Int) := ⟨st.toNat, by have := hcm9.st0; omega⟩
   obtain ⟨a, ha⟩ : ∃ a : Nat, au = (a : Int) := ⟨au.toNat, by have := hcm9.au0; omega⟩
   subst hn ha
   have hpl := (parB_of hcm9.par).1
   rw [HL3.out] at hpl
   have hlb := len_byte l3 (by omega)
   have HLB := Lib.hid hlb
   have HT32 : Hid ((unhexL T).length = 32) := by
    unfold Hid
    rw [unhexL_length]
    have := validB_len HOK.out.tree
    omega
   have hn9 := putL_len9 (show n ≤ 72057594037927936 from by have := HOK.out.st1; omega)
   have ha9 := putL_len9 (show a ≤ 72057594037927936 from by have := HOK.out.au1; omega)
   have HN9 := Lib.hid hn9
   have HA9 := Lib.hid ha9
   have HMS := Lib.hid (msgB_len HOK.out.msg)
   have hmsz := str_size ms
   obtain ⟨ml, hml⟩ : ∃ n, ms.length = n := ⟨_, rfl⟩
   rw [hml] at hmsz HMS
   have HML := Lib.hid hml
   have HM9 := Lib.hid (putL_len9 (show ml ≤ 72057594037927936 from by have := HMS.out; omega))
   have HO2 : Hid (Own (w1.alloc (.cells #[.int .u8 3] 5)) w1.heap.size (.slice (some ⟨w1.heap.size, 0, none⟩) 1 1) [3]) := own_one w1 3 3 bi_3
   have HK3 : Hid (Blk (w1.alloc (.cells #[.int .u8 3] 5)) w.heap.size 199 #[.int .i64 3, .slice A l c, .slice A2 l2 c2, .string (str T), .slice A3 l3 c3, .int .i64 (n : Int), .int .i64 (a : Int), .string (str ms)]) := HK2.out.alloc _
   have HA1 : Hid (Kp w1.heap.size w1 (w1.alloc (.cells #[.int .u8 3] 5))) := (Kp.refl _ _).alloc (Nat.le_refl _) _
   clear hkb hcm9 hlb hn9 ha9 hml
   obtain ⟨WB, hWB⟩ : ∃ W, W = w1.alloc (.cells #[.int .u8 3] 5) := ⟨_, rfl⟩
   go_upto_region 16 with (fail)
   rw [← hWB] at HO2 HK3 HA1 ⊢
   clear hWB x0 x1 x2 x3 x4 x5 x6 x7
   go_cut [4] (fun b wx => Own wx w1.heap.size b ([3] ++ unhexL T ++ [UInt8.ofNat l3]) ∧ Kp w1.heap.size w1 wx ∧ Blk wx w.heap.size 199 #[.int .i64 3, .slice A l c, .slice A2 l2 c2, .string (str T), .slice A3 l3 c3, .int .i64 (n : Int), .int .i64 (a : Int), .string (str ms)])
   case first =>
    have hlb := HLB.out
    have HOC : Hid (Own WB.drew w1.heap.size (.slice (some ⟨w1.heap.size, 0, none⟩) 1 1) [3]) := HO2
    have HKC : Hid (Kp w1.heap.size w1 WB.drew) := HA1.out.drew_
    have HBX : Hid (Blk WB.drew w.heap.size 199 #[.int .i64 3, .slice A l c, .slice A2 l2 c2, .string (str T), .slice A3 l3 c3, .int .i64 (n : Int), .int .i64 (a : Int), .string (str ms)]) := HK3
    refine wp_region_held_drew (S := (fun W : World => W.cell? ⟨w.heap.size, 3, none⟩ = some (.string (str T)) ∧ W.cell? ⟨w.heap.size, 4, none⟩ = some (.slice A3 l3 c3))) (by kernel_rfl) ?_ (fun hHeld => ?_)
    ·(try dsimp only); exact ⟨HBX.out.cell 3, HBX.out.cell 4⟩
    refine take_at (i := 0) (d := 64) (v := ?_) rfl (by kernel_rfl) (hy := .inl ⟨by kernel_rfl, ?_⟩) (h := ?_)
    rotate_left
    ·intro W hSw; (try dsimp only at hSw); go_simp; first | done | with_reducible rfl
    try simp only [Act.put, List.setIfInBounds_toArray, List.set_cons_zero, List.set_cons_succ]
    refine take_at (i := 1) (d := 65) (v := ?_) rfl (by kernel_rfl) (hy := .inl ⟨by kernel_rfl, ?_⟩) (h := ?_)
    rotate_left
    ·intro W hSw; (try dsimp only at hSw); go_simp; first | done | with_reducible rfl
    try simp only [Act.put, List.setIfInBounds_toArray, List.set_cons_zero, List.set_cons_succ]
    refine take_at (i := 2) (d := 66) (v := ?_) rfl (by kernel_rfl) (hy := .inl ⟨by kernel_rfl, ?_⟩) (h := ?_)
    rotate_left
    ·intro W hSw; (try dsimp only at hSw); go_simp; first | done | with_reducible rfl
    try simp only [Act.put, List.setIfInBounds_toArray, List.set_cons_zero, List.set_cons_succ]
    refine take_at (i := 5) (d := 69) (v := ?_) rfl (by kernel_rfl) (hy := .inl ⟨by kernel_rfl, ?_⟩) (h := ?_)
    rotate_left
    ·intro W hSw; (try dsimp only at hSw); go_simp; first | done | with_reducible rfl
    try simp only [Act.put, List.setIfInBounds_toArray, List.set_cons_zero, List.set_cons_succ]
    refine take_at (i := 6) (d := 70) (v := ?_) rfl (by kernel_rfl) (hy := .inl ⟨by kernel_rfl, ?_⟩) (h := ?_)
    rotate_left
    ·intro W hSw; (try dsimp only at hSw); go_simp; first | done | with_reducible rfl
    try simp only [Act.put, List.setIfInBounds_toArray, List.set_cons_zero, List.set_cons_succ]
    refine take_at (i := 7) (d := 71) (v := ?_) rfl (by kernel_rfl) (hy := .inl ⟨by kernel_rfl, ?_⟩) (h := ?_)
    rotate_left
    ·intro W hSw; (try dsimp only at hSw); go_simp; first | done | with_reducible rfl
    try simp only [Act.put, List.setIfInBounds_toArray, List.set_cons_zero, List.set_cons_succ]
    refine take_at (i := 8) (d := 72) (v := ?_) rfl (by kernel_rfl) (hy := .inl ⟨by kernel_rfl, ?_⟩) (h := ?_)
    rotate_left
    ·intro W hSw; (try dsimp only at hSw); go_simp; first | done | with_reducible rfl
    try simp only [Act.put, List.setIfInBounds_toArray, List.set_cons_zero, List.set_cons_succ]
    refine wpAnyH_ready (rs := [3, 9]) (by kernel_rfl) (by simp) (AllReadyH.cons rfl (fun K hK => ?_) (AllReadyH.cons rfl (fun K hK => ?_) AllReadyH.nil))
    ·go_simp
     go_at_call 272
     refine (raw_any T _ HOK.out.tree).mono ?_
     rintro e w23 ⟨u23, rfl, hu23, hb23⟩
     obtain ⟨uA23, uc23, rfl, _, _, hi23, _⟩ := hu23.sl
     have HU := Lib.hid hi23.reads
     replace HOC := Lib.hid (HOC.out.below hb23)
     replace HKC := Lib.hid (HKC.out.trans (Kp.of_below hb23 HKC.out.size))
     replace HBX := Lib.hid (HBX.out.below hb23 HBX.out.lt)
     clear hi23 hu23 hb23
     try go_wp2_with fail
     refine hK.out _ _ ?_ (fun hHeld => ?_)
     ·(try dsimp only); exact ⟨HBX.out.cell 3, HBX.out.cell 4⟩
     clear hK K
     try simp only [Act.put, List.setIfInBounds_toArray, List.set_cons_zero, List.set_cons_succ]
     refine wpAnyH_ready (rs := [4, 9]) (by kernel_rfl) (by simp) (AllReadyH.cons rfl (fun K hK => ?_) (AllReadyH.cons rfl (fun K hK => ?_) AllReadyH.nil))
     ·have hz24 := HKC.out.size
      refine sapp_bytes 68 rfl rfl (.tmp 64) (.tmp 67) rfl _ w1.heap.size _ _ rfl (by exact HOC.out) _ _ _ _ (unhexL T) rfl (by exact HU.out) (by have := HT32.out; simp only [List.length_singleton]; omega) (by exact hz24) ?_
      intro v24 w24 ho24 hk24 hg24
      replace HOC := Lib.hid ho24
      replace HKC := Lib.hid (HKC.out.trans hk24)
      replace HBX := Lib.hid (hk24.blk _ _ _ HBX.out (by decide))
      try replace HIX := Lib.hid (hk24.blk _ _ _ HIX.out (by decide))
      clear ho24 hk24 hz24 hg24
      try go_wp2_with fail
      refine hK.out _ _ ?_ (fun hHeld => ?_)
      ·(try dsimp only); exact ⟨HBX.out.cell 3, HBX.out.cell 4⟩
      clear hK K
      try simp only [Act.put, List.setIfInBounds_toArray, List.set_cons_zero, List.set_cons_succ]
      refine wpAnyH_ready (rs := [9]) (by kernel_rfl) (by simp) (AllReadyH.cons rfl (fun K hK => ?_) AllReadyH.nil)
      go_simp
      have hbn := byte_new HOC.out (UInt8.ofNat l3)
      have HS9 := Lib.hid hbn.1
      have HNE := Lib.hid hbn.2
      clear hbn
      replace HOC := Lib.hid (HOC.out.alloc (.cells #[.int .u8 (bi (UInt8.ofNat l3))] 5))
      replace HKC := Lib.hid (HKC.out.alloc HKC.out.size (.cells #[.int .u8 (bi (UInt8.ofNat l3))] 5))
      replace HBX := Lib.hid (HBX.out.alloc (.cells #[.int .u8 (bi (UInt8.ofNat l3))] 5))
      try go_wp2_with fail
      refine hK.out _ _ ?_ (fun hHeld => ?_)
      ·(try dsimp only); exact ⟨HBX.out.cell 3, HBX.out.cell 4⟩
      clear hK K
      try simp only [Act.put, List.setIfInBounds_toArray, List.set_cons_zero, List.set_cons_succ]
      refine wpAnyH_ready (rs := [10]) (by kernel_rfl) (by simp) (AllReadyH.cons rfl (fun K hK => ?_) AllReadyH.nil)
      have hz25 := HKC.out.size
      refine sapp_bytes 74 rfl rfl (.tmp 68) (.tmp 73) rfl _ w1.heap.size _ _ rfl (by exact HOC.out) _ _ _ _ [UInt8.ofNat l3] rfl (by exact HS9.out) (by have := HT32.out; simp only [List.length_append, List.length_singleton]; omega) (by exact hz25) ?_
      intro v25 w25 ho25 hk25 hg25
      replace HOC := Lib.hid ho25
      replace HKC := Lib.hid (HKC.out.trans hk25)
      replace HBX := Lib.hid (hk25.blk _ _ _ HBX.out (by decide))
      try replace HIX := Lib.hid (hk25.blk _ _ _ HIX.out (by decide))
      clear ho25 hk25 hz25 hg25
      try go_wp2_with fail
      refine hK.out _ _ ?_ (fun hHeld => ?_)
      ·(try dsimp only); exact ⟨HBX.out.cell 3, HBX.out.cell 4⟩
      clear hK K
      try simp only [Act.put, List.setIfInBounds_toArray, List.set_cons_zero, List.set_cons_succ]
      refine take_at (i := 11) (d := 4) (v := ?_) rfl (by kernel_rfl) (hy := .inl ⟨by kernel_rfl, ?_⟩) (h := ?_)
      rotate_left
      ·intro W hSw; (try dsimp only at hSw); go_simp; first | done | with_reducible rfl
      try simp only [Act.put, List.setIfInBounds_toArray, List.set_cons_zero, List.set_cons_succ]
      refine wpAnyH_done (by kernel_rfl) ?_ _
      go_wp2_with fail
      go_meet
      exact ⟨HOC.out, HKC.out, HBX.out⟩
     ·go_simp
      have hbn := byte_new HOC.out (UInt8.ofNat l3)
      have HS9 := Lib.hid hbn.1
      have HNE := Lib.hid hbn.2
      clear hbn
      replace HOC := Lib.hid (HOC.out.alloc (.cells #[.int .u8 (bi (UInt8.ofNat l3))] 5))
      replace HKC := Lib.hid (HKC.out.alloc HKC.out.size (.cells #[.int .u8 (bi (UInt8.ofNat l3))] 5))
      replace HBX := Lib.hid (HBX.out.alloc (.cells #[.int .u8 (bi (UInt8.ofNat l3))] 5))
      replace HU := Lib.hid (HU.out.below ((Below.refl _ _).alloc (Nat.le_refl _) (.cells #[.int .u8 (bi (UInt8.ofNat l3))] 5)))
      try go_wp2_with fail
      refine hK.out _ _ ?_ (fun hHeld => ?_)
      ·(try dsimp only); exact ⟨HBX.out.cell 3, HBX.out.cell 4⟩
      clear hK K
      try simp only [Act.put, List.setIfInBounds_toArray, List.set_cons_zero, List.set_cons_succ]
      refine wpAnyH_ready (rs := [4]) (by kernel_rfl) (by simp) (AllReadyH.cons rfl (fun K hK => ?_) AllReadyH.nil)
      have hz24 := HKC.out.size
      refine sapp_bytes 68 rfl rfl (.tmp 64) (.tmp 67) rfl _ w1.heap.size _ _ rfl (by exact HOC.out) _ _ _ _ (unhexL T) rfl (by exact HU.out) (by have := HT32.out; simp only [List.length_singleton]; omega) (by exact hz24) ?_
      intro v24 w24 ho24 hk24 hg24
      replace HOC := Lib.hid ho24
      replace HS9 := Lib.hid (byte_far HS9.out hg24 HNE.out)
      replace HKC := Lib.hid (HKC.out.trans hk24)
      replace HBX := Lib.hid (hk24.blk _ _ _ HBX.out (by decide))
      try replace HIX := Lib.hid (hk24.blk _ _ _ HIX.out (by decide))
      clear ho24 hk24 hz24 hg24
      try go_wp2_with fail
      refine hK.out _ _ ?_ (fun hHeld => ?_)
      ·(try dsimp only); exact ⟨HBX.out.cell 3, HBX.out.cell 4⟩
      clear hK K
      try simp only [Act.put, List.setIfInBounds_toArray, List.set_cons_zero, List.set_cons_succ]
      refine wpAnyH_ready (rs := [10]) (by kernel_rfl) (by simp) (AllReadyH.cons rfl (fun K hK => ?_) AllReadyH.nil)
      have hz25 := HKC.out.size
      refine sapp_bytes 74 rfl rfl (.tmp 68) (.tmp 73) rfl _ w1.heap.size _ _ rfl (by exact HOC.out) _ _ _ _ [UInt8.ofNat l3] rfl (by exact HS9.out) (by have := HT32.out; simp only [List.length_append, List.length_singleton]; omega) (by exact hz25) ?_
      intro v25 w25 ho25 hk25 hg25
      replace HOC := Lib.hid ho25
      replace HKC := Lib.hid (HKC.out.trans hk25)
      replace HBX := Lib.hid (hk25.blk _ _ _ HBX.out (by decide))
      try replace HIX := Lib.hid (hk25.blk _ _ _ HIX.out (by decide))
      clear ho25 hk25 hz25 hg25
      try go_wp2_with fail
      refine hK.out _ _ ?_ (fun hHeld => ?_)
      ·(try dsimp only); exact ⟨HBX.out.cell 3, HBX.out.cell 4⟩
      clear hK K
      try simp only [Act.put, List.setIfInBounds_toArray, List.set_cons_zero, List.set_cons_succ]
      refine take_at (i := 11) (d := 4) (v := ?_) rfl (by kernel_rfl) (hy := .inl ⟨by kernel_rfl, ?_⟩) (h := ?_)
      rotate_left
      ·intro W hSw; (try dsimp only at hSw); go_simp; first | done | with_reducible rfl
      try simp only [Act.put, List.setIfInBounds_toArray, List.set_cons_zero, List.set_cons_succ]
      refine wpAnyH_done (by kernel_rfl) ?_ _
      go_wp2_with fail
      go_meet
      exact ⟨HOC.out, HKC.out, HBX.out⟩
    ·go_simp
     have hbn := byte_new HOC.out (UInt8.ofNat l3)
     have HS9 := Lib.hid hbn.1
     have HNE := Lib.hid hbn.2
     clear hbn
     replace HOC := Lib.hid (HOC.out.alloc (.cells #[.int .u8 (bi (UInt8.ofNat l3))] 5))
     replace HKC := Lib.hid (HKC.out.alloc HKC.out.size (.cells #[.int .u8 (bi (UInt8.ofNat l3))] 5))
     replace HBX := Lib.hid (HBX.out.alloc (.cells #[.int .u8 (bi (UInt8.ofNat l3))] 5))
     try go_wp2_with fail
     refine hK.out _ _ ?_ (fun hHeld => ?_)
     ·(try dsimp only); exact ⟨HBX.out.cell 3, HBX.out.cell 4⟩
     clear hK K
     try simp only [Act.put, List.setIfInBounds_toArray, List.set_cons_zero, List.set_cons_succ]
     refine wpAnyH_ready (rs := [3]) (by kernel_rfl) (by simp) (AllReadyH.cons rfl (fun K hK => ?_) AllReadyH.nil)
     go_simp
     go_at_call 272
     refine (raw_any T _ HOK.out.tree).mono ?_
     rintro e w23 ⟨u23, rfl, hu23, hb23⟩
     obtain ⟨uA23, uc23, rfl, _, _, hi23, _⟩ := hu23.sl
     have HU := Lib.hid hi23.reads
     replace HOC := Lib.hid (HOC.out.below hb23)
     replace HKC := Lib.hid (HKC.out.trans (Kp.of_below hb23 HKC.out.size))
     replace HBX := Lib.hid (HBX.out.below hb23 HBX.out.lt)
     replace HS9 := Lib.hid (HS9.out.below hb23)
     clear hi23 hu23 hb23
     try go_wp2_with fail
     refine hK.out _ _ ?_ (fun hHeld => ?_)
     ·(try dsimp only); exact ⟨HBX.out.cell 3, HBX.out.cell 4⟩
     clear hK K
     try simp only [Act.put, List.setIfInBounds_toArray, List.set_cons_zero, List.set_cons_succ]
     refine wpAnyH_ready (rs := [4]) (by kernel_rfl) (by simp) (AllReadyH.cons rfl (fun K hK => ?_) AllReadyH.nil)
     have hz24 := HKC.out.size
     refine sapp_bytes 68 rfl rfl (.tmp 64) (.tmp 67) rfl _ w1.heap.size _ _ rfl (by exact HOC.out) _ _ _ _ (unhexL T) rfl (by exact HU.out) (by have := HT32.out; simp only [List.length_singleton]; omega) (by exact hz24) ?_
     intro v24 w24 ho24 hk24 hg24
     replace HOC := Lib.hid ho24
     replace HS9 := Lib.hid (byte_far HS9.out hg24 HNE.out)
     replace HKC := Lib.hid (HKC.out.trans hk24)
     replace HBX := Lib.hid (hk24.blk _ _ _ HBX.out (by decide))
     try replace HIX := Lib.hid (hk24.blk _ _ _ HIX.out (by decide))
     clear ho24 hk24 hz24 hg24
     try go_wp2_with fail
     refine hK.out _ _ ?_ (fun hHeld => ?_)
     ·(try dsimp only); exact ⟨HBX.out.cell 3, HBX.out.cell 4⟩
     clear hK K
     try simp only [Act.put, List.setIfInBounds_toArray, List.set_cons_zero, List.set_cons_succ]
     refine wpAnyH_ready (rs := [10]) (by kernel_rfl) (by simp) (AllReadyH.cons rfl (fun K hK => ?_) AllReadyH.nil)
     have hz25 := HKC.out.size
     refine sapp_bytes 74 rfl rfl (.tmp 68) (.tmp 73) rfl _ w1.heap.size _ _ rfl (by exact HOC.out) _ _ _ _ [UInt8.ofNat l3] rfl (by exact HS9.out) (by have := HT32.out; simp only [List.length_append, List.length_singleton]; omega) (by exact hz25) ?_
     intro v25 w25 ho25 hk25 hg25
     replace HOC := Lib.hid ho25
     replace HKC := Lib.hid (HKC.out.trans hk25)
     replace HBX := Lib.hid (hk25.blk _ _ _ HBX.out (by decide))
     try replace HIX := Lib.hid (hk25.blk _ _ _ HIX.out (by decide))
     clear ho25 hk25 hz25 hg25
     try go_wp2_with fail
     refine hK.out _ _ ?_ (fun hHeld => ?_)
     ·(try dsimp only); exact ⟨HBX.out.cell 3, HBX.out.cell 4⟩
     clear hK K
     try simp only [Act.put, List.setIfInBounds_toArray, List.set_cons_zero, List.set_cons_succ]
     refine take_at (i := 11) (d := 4) (v := ?_) rfl (by kernel_rfl) (hy := .inl ⟨by kernel_rfl, ?_⟩) (h := ?_)
     rotate_left
     ·intro W hSw; (try dsimp only at hSw); go_simp; first | done | with_reducible rfl
     try simp only [Act.put, List.setIfInBounds_toArray, List.set_cons_zero, List.set_cons_succ]
     refine wpAnyH_done (by kernel_rfl) ?_ _
     go_wp2_with fail
     go_meet
     exact ⟨HOC.out, HKC.out, HBX.out⟩
   case rest =>
    obtain ⟨ho16, hk16, hb16⟩ := hcut
    have HO16 := Lib.hid ho16
    have HK16 := Lib.hid hk16
    have HB16 := Lib.hid hb16
    clear ho16 hk16 hb16
    go_wp2_with fail
    go_loopw [4, 7] (fun b i wr => ∃ j : Nat, j ≤ l3 ∧ i = .int .i64 j ∧ Own wr w1.heap.size b ([3] ++ unhexL T ++ [UInt8.ofNat l3] ++ (P.take j).flatMap unhexL) ∧ Kp w1.heap.size w1 wr ∧ Blk wr w.heap.size 199 #[.int .i64 3, .slice A l c, .slice A2 l2 c2, .string (str T), .slice A3 l3 c3, .int .i64 (n : Int), .int .i64 (a : Int), .string (str ms)]) (fun _ i _ => l3 - (intOf i).toNat)
    case atStart => exact ⟨0, Nat.zero_le _, rfl, by simpa using HO16.out, HK16.out, HB16.out⟩
    case round =>
     obtain ⟨j, hj, rfl, hou, hku, hbu⟩ := hrel
     have HOU := Lib.hid hou
     have HKU := Lib.hid hku
     have HBU := Lib.hid hbu
     have y4 := hbu.cell 4
     clear hou hku hbu
     have j0 : (0 : Int) ≤ (j : Int) := by omega
     have hzu : w1.heap.size ≤ wr.heap.size := HKU.out.size
     have hlen : ([3] ++ unhexL T ++ [UInt8.ofNat l3] ++ (P.take j).flatMap unhexL).length ≤ 2000 := by
      have h1 := HT32.out
      have h2 := flat_ids_len (ids := P.take j) (fun i y hy => (parB_of HOK.out.par).2 i y (by
       rw [List.getElem?_take] at hy
       split at hy
       ·exact hy
       ·cases hy))
      rw [List.length_take] at h2
      simp only [List.length_append, List.length_singleton]
      omega
     by_cases hlt : j < l3
     ·have j1 : (j : Int) < (l3 : Int) := by omega
      have hjl : j < P.length := by rw [HL3.out]; exact hlt
      obtain ⟨x, hx⟩ : ∃ x, P[j]? = some x := ⟨_, List.getElem?_eq_getElem hjl⟩
      have HSN := Lib.hid (flat_id_snoc hx)
      have hv := (parB_of HOK.out.par).2 j x hx
      obtain ⟨ad, rfl, hcell⟩ := par_at (HRP.out.below (HB2.out.trans (HKU.out.below.mono hwz))) j hjl
      have hxx : P.getD j [] = x := by rw [List.getD_eq_getElem?_getD, hx]; rfl
      rw [hxx] at hcell
      have HV9 := Lib.hid hv
      have HLN := Lib.hid hlen
      clear hx hv hxx hjl hlen
      go_wp2_with fail
      refine (raw_any x _ HV9.out).mono ?_
      rintro e w20 ⟨u20, rfl, hu20, hb20⟩
      obtain ⟨uA20, uc20, rfl, _, _, hi20, _⟩ := hu20.sl
      have HU20 := Lib.hid hi20.reads
      have HO20 := Lib.hid (HOU.out.below hb20)
      have HK20 := Lib.hid (HKU.out.trans (Kp.of_below hb20 hzu))
      have HB20 := Lib.hid (HBU.out.below hb20 HBU.out.lt)
      clear hi20 hu20 hb20 y4 hcell
      have hz20 := HK20.out.size
      have hs20 : ([3] ++ unhexL T ++ [UInt8.ofNat l3] ++ (P.take j).flatMap unhexL).length + (unhexL x).length ≤ 140737488355328 := by
       have h1 := HLN.out
       have h4 := unhexL_length x
       have h5 := (validB_len HV9.out).1
       omega
      go_wp2_with (at_builtin; refine app_bytes rfl (.tmp 82) (.tmp 88) rfl _ w1.heap.size _ _ rfl HO20.out _ uA20 _ uc20 (unhexL x) rfl HU20.out hs20 hz20 ?_; intro v21 w21 ho21 hk21; have HO21 := Lib.hid ho21; have HK21 := Lib.hid (HK20.out.trans hk21); have HB21 := Lib.hid (hk21.blk _ _ _ HB20.out (by decide)); clear ho21 hk21)
      go_roundw
      case rel =>
       refine ⟨j + 1, by omega, by go_num, ?_, HK21.out, HB21.out⟩
       rw [HSN.out, ← List.append_assoc]
       exact HO21.out
      case measure => simp [intOf]; omega
     ·obtain rfl : j = l3 := by omega
      have htk : P.take j = P := List.take_of_length_le (by rw [HL3.out]; exact Nat.le_refl _)
      rw [htk] at HOU hlen
      obtain ⟨pre, hpre⟩ : ∃ pre, [3] ++ unhexL T ++ [UInt8.ofNat j] ++ P.flatMap unhexL = pre := ⟨_, rfl⟩
      rw [hpre] at HOU hlen
      have HPRE := Lib.hid hpre
      have HLE := Lib.hid hlen
      clear hpre htk hlen
      have HOC : Hid (Own wr.drew w1.heap.size u4 pre) := HOU
      have HKC : Hid (Kp w1.heap.size w1 wr.drew) := HKU.out.drew_
      have HBX : Hid (Blk wr.drew w.heap.size 199 #[.int .i64 3, .slice A l c, .slice A2 l2 c2, .string (str T), .slice A3 j c3, .int .i64 (n : Int), .int .i64 (a : Int), .string (str ms)]) := HBU
      clear HOU HKU HBU
      go_upto_region 21 with (fail)
      clear y4
      refine wp_region_held_drew (S := (fun W : World => W.cell? ⟨w.heap.size, 5, none⟩ = some (.int .i64 (n : Int)) ∧ W.cell? ⟨w.heap.size, 6, none⟩ = some (.int .i64 (a : Int)) ∧ W.cell? ⟨w.heap.size, 7, none⟩ = some (.string (str ms)))) (by kernel_rfl) ?_ (fun hHeld => ?_)
      ·(try dsimp only); exact ⟨HBX.out.cell 5, HBX.out.cell 6, HBX.out.cell 7⟩
      refine take_at (i := 0) (d := 90) (v := ?_) rfl (by kernel_rfl) (hy := .inl ⟨by kernel_rfl, ?_⟩) (h := ?_)
      rotate_left
      ·intro W hSw; (try dsimp only at hSw); go_simp; first | done | with_reducible rfl
      try simp only [Act.put, List.setIfInBounds_toArray, List.set_cons_zero, List.set_cons_succ]
      refine take_at (i := 1) (d := 91) (v := ?_) rfl (by kernel_rfl) (hy := .inl ⟨by kernel_rfl, ?_⟩) (h := ?_)
      rotate_left
      ·intro W hSw; (try dsimp only at hSw); go_simp; first | done | with_reducible rfl
      try simp only [Act.put, List.setIfInBounds_toArray, List.set_cons_zero, List.set_cons_succ]
      refine take_at (i := 2) (d := 92) (v := ?_) rfl (by kernel_rfl) (hy := .inl ⟨by kernel_rfl, ?_⟩) (h := ?_)
      rotate_left
      ·intro W hSw; (try dsimp only at hSw); go_simp; first | done | with_reducible rfl
      try simp only [Act.put, List.setIfInBounds_toArray, List.set_cons_zero, List.set_cons_succ]
      refine take_at (i := 5) (d := 95) (v := ?_) rfl (by kernel_rfl) (hy := .inl ⟨by kernel_rfl, ?_⟩) (h := ?_)
      rotate_left
      ·intro W hSw; (try dsimp only at hSw); go_simp; first | done | with_reducible rfl
      try simp only [Act.put, List.setIfInBounds_toArray, List.set_cons_zero, List.set_cons_succ]
      refine take_at (i := 6) (d := 96) (v := ?_) rfl (by kernel_rfl) (hy := .inl ⟨by kernel_rfl, ?_⟩) (h := ?_)
      rotate_left
      ·intro W hSw; (try dsimp only at hSw); go_simp; first | done | with_reducible rfl
      try simp only [Act.put, List.setIfInBounds_toArray, List.set_cons_zero, List.set_cons_succ]
      refine take_at (i := 9) (d := 99) (v := ?_) rfl (by kernel_rfl) (hy := .inl ⟨by kernel_rfl, ?_⟩) (h := ?_)
      rotate_left
      ·intro W hSw; (try dsimp only at hSw); go_simp; first | done | with_reducible rfl
      try simp only [Act.put, List.setIfInBounds_toArray, List.set_cons_zero, List.set_cons_succ]
      refine take_at (i := 10) (d := 100) (v := ?_) rfl (by kernel_rfl) (hy := .inl ⟨by kernel_rfl, ?_⟩) (h := ?_)
      rotate_left
      ·intro W hSw; (try dsimp only at hSw); go_simp; first | done | with_reducible rfl
      try simp only [Act.put, List.setIfInBounds_toArray, List.set_cons_zero, List.set_cons_succ]
      refine take_at (i := 11) (d := 101) (v := ?_) rfl (by kernel_rfl) (hy := .inl ⟨by kernel_rfl, ?_⟩) (h := ?_)
      rotate_left
      ·intro W hSw; (try dsimp only at hSw); go_simp; first | done | with_reducible rfl
      try simp only [Act.put, List.setIfInBounds_toArray, List.set_cons_zero, List.set_cons_succ]
      refine wpAnyH_ready (rs := [3]) (by kernel_rfl) (by simp) (AllReadyH.cons rfl (fun K hK => ?_) AllReadyH.nil)
      go_simp
      go_at_call 271
      refine (num_any n _ (by have := HOK.out.st1; omega)).mono ?_
      rintro e w31 ⟨u31, rfl, hu31, hb31⟩
      obtain ⟨uA31, uc31, rfl, _, _, hi31, _⟩ := hu31.sl
      have HU := Lib.hid hi31.reads
      replace HOC := Lib.hid (HOC.out.below hb31)
      replace HKC := Lib.hid (HKC.out.trans (Kp.of_below hb31 HKC.out.size))
      replace HBX := Lib.hid (HBX.out.below hb31 HBX.out.lt)
      try replace HIX := Lib.hid (HIX.out.below hb31 HIX.out.lt)
      clear hi31 hu31 hb31
      try go_wp2_with fail
      refine hK.out _ _ ?_ (fun hHeld => ?_)
      ·(try dsimp only); exact ⟨HBX.out.cell 5, HBX.out.cell 6, HBX.out.cell 7⟩
      clear hK K
      try simp only [Act.put, List.setIfInBounds_toArray, List.set_cons_zero, List.set_cons_succ]
      refine wpAnyH_ready (rs := [4]) (by kernel_rfl) (by simp) (AllReadyH.cons rfl (fun K hK => ?_) AllReadyH.nil)
      have hz32 := HKC.out.size
      refine sapp_bytes 94 rfl rfl (.tmp 90) (.tmp 93) rfl _ w1.heap.size _ _ rfl (by exact HOC.out) _ _ _ _ (putL n) rfl (by exact HU.out) (by have h0 := HLE.out; have h1 := HN9.out; have h2 := HA9.out; have h3 := HM9.out; have h4 := HMS.out; (try simp only [List.length_append]); omega) (by exact hz32) ?_
      intro v32 w32 ho32 hk32 hg32
      replace HOC := Lib.hid ho32
      replace HKC := Lib.hid (HKC.out.trans hk32)
      replace HBX := Lib.hid (hk32.blk _ _ _ HBX.out (by decide))
      try replace HIX := Lib.hid (hk32.blk _ _ _ HIX.out (by decide))
      clear ho32 hk32 hz32 hg32
      try go_wp2_with fail
      refine hK.out _ _ ?_ (fun hHeld => ?_)
      ·(try dsimp only); exact ⟨HBX.out.cell 5, HBX.out.cell 6, HBX.out.cell 7⟩
      clear hK K
      try simp only [Act.put, List.setIfInBounds_toArray, List.set_cons_zero, List.set_cons_succ]
      refine wpAnyH_ready (rs := [7]) (by kernel_rfl) (by simp) (AllReadyH.cons rfl (fun K hK => ?_) AllReadyH.nil)
      go_simp
      go_at_call 271
      refine (num_any a _ (by have := HOK.out.au1; omega)).mono ?_
      rintro e w33 ⟨u33, rfl, hu33, hb33⟩
      obtain ⟨uA33, uc33, rfl, _, _, hi33, _⟩ := hu33.sl
      have HU := Lib.hid hi33.reads
      replace HOC := Lib.hid (HOC.out.below hb33)
      replace HKC := Lib.hid (HKC.out.trans (Kp.of_below hb33 HKC.out.size))
      replace HBX := Lib.hid (HBX.out.below hb33 HBX.out.lt)
      try replace HIX := Lib.hid (HIX.out.below hb33 HIX.out.lt)
      clear hi33 hu33 hb33
      try go_wp2_with fail
      refine hK.out _ _ ?_ (fun hHeld => ?_)
      ·(try dsimp only); exact ⟨HBX.out.cell 5, HBX.out.cell 6, HBX.out.cell 7⟩
      clear hK K
      try simp only [Act.put, List.setIfInBounds_toArray, List.set_cons_zero, List.set_cons_succ]
      refine wpAnyH_ready (rs := [8]) (by kernel_rfl) (by simp) (AllReadyH.cons rfl (fun K hK => ?_) AllReadyH.nil)
      have hz34 := HKC.out.size
      refine sapp_bytes 98 rfl rfl (.tmp 94) (.tmp 97) rfl _ w1.heap.size _ _ rfl (by exact HOC.out) _ _ _ _ (putL a) rfl (by exact HU.out) (by have h0 := HLE.out; have h1 := HN9.out; have h2 := HA9.out; have h3 := HM9.out; have h4 := HMS.out; (try simp only [List.length_append]); omega) (by exact hz34) ?_
      intro v34 w34 ho34 hk34 hg34
      replace HOC := Lib.hid ho34
      replace HKC := Lib.hid (HKC.out.trans hk34)
      replace HBX := Lib.hid (hk34.blk _ _ _ HBX.out (by decide))
      try replace HIX := Lib.hid (hk34.blk _ _ _ HIX.out (by decide))
      clear ho34 hk34 hz34 hg34
      try go_wp2_with fail
      refine hK.out _ _ ?_ (fun hHeld => ?_)
      ·(try dsimp only); exact ⟨HBX.out.cell 5, HBX.out.cell 6, HBX.out.cell 7⟩
      clear hK K
      try simp only [Act.put, List.setIfInBounds_toArray, List.set_cons_zero, List.set_cons_succ]
      refine wpAnyH_ready (rs := [12]) (by kernel_rfl) (by simp) (AllReadyH.cons rfl (fun K hK => ?_) AllReadyH.nil)
      go_simp
      go_at_call 271
      refine (num_any ml _ (by have := HMS.out; omega)).mono ?_
      rintro e w35 ⟨u35, rfl, hu35, hb35⟩
      obtain ⟨uA35, uc35, rfl, _, _, hi35, _⟩ := hu35.sl
      have HU := Lib.hid hi35.reads
      replace HOC := Lib.hid (HOC.out.below hb35)
      replace HKC := Lib.hid (HKC.out.trans (Kp.of_below hb35 HKC.out.size))
      replace HBX := Lib.hid (HBX.out.below hb35 HBX.out.lt)
      try replace HIX := Lib.hid (HIX.out.below hb35 HIX.out.lt)
      clear hi35 hu35 hb35
      try go_wp2_with fail
      refine hK.out _ _ ?_ (fun hHeld => ?_)
      ·(try dsimp only); exact ⟨HBX.out.cell 5, HBX.out.cell 6, HBX.out.cell 7⟩
      clear hK K
      try simp only [Act.put, List.setIfInBounds_toArray, List.set_cons_zero, List.set_cons_succ]
      refine wpAnyH_ready (rs := [13]) (by kernel_rfl) (by simp) (AllReadyH.cons rfl (fun K hK => ?_) AllReadyH.nil)
      have hz36 := HKC.out.size
      refine sapp_bytes 103 rfl rfl (.tmp 98) (.tmp 102) rfl _ w1.heap.size _ _ rfl (by exact HOC.out) _ _ _ _ (putL ml) rfl (by exact HU.out) (by have h0 := HLE.out; have h1 := HN9.out; have h2 := HA9.out; have h3 := HM9.out; have h4 := HMS.out; (try simp only [List.length_append]); omega) (by exact hz36) ?_
      intro v36 w36 ho36 hk36 hg36
      replace HOC := Lib.hid ho36
      replace HKC := Lib.hid (HKC.out.trans hk36)
      replace HBX := Lib.hid (hk36.blk _ _ _ HBX.out (by decide))
      try replace HIX := Lib.hid (hk36.blk _ _ _ HIX.out (by decide))
      clear ho36 hk36 hz36 hg36
      try go_wp2_with fail
      refine hK.out _ _ ?_ (fun hHeld => ?_)
      ·(try dsimp only); exact ⟨HBX.out.cell 5, HBX.out.cell 6, HBX.out.cell 7⟩
      clear hK K
      try simp only [Act.put, List.setIfInBounds_toArray, List.set_cons_zero, List.set_cons_succ]
      refine take_at (i := 14) (d := 4) (v := ?_) rfl (by kernel_rfl) (hy := .inl ⟨by kernel_rfl, ?_⟩) (h := ?_)
      rotate_left
      ·intro W hSw; (try dsimp only at hSw); go_simp; first | done | with_reducible rfl
      try simp only [Act.put, List.setIfInBounds_toArray, List.set_cons_zero, List.set_cons_succ]
      refine wpAnyH_done (by kernel_rfl) ?_ _
      have z7 := HBX.out.cell 7
      have hz9 := HKC.out.size
      have hs9 : (pre ++ putL n ++ putL a ++ putL ml).length + ms.length ≤ 140737488355328 := by
       have h0 := HLE.out
       have h1 := HN9.out
       have h2 := HA9.out
       have h3 := HM9.out
       have h4 := HMS.out
       have h5 := HML.out
       simp only [List.length_append]
       omega
      go_wp2_with (at_builtin; refine app_str rfl (.tmp 104) (.tmp 106) rfl _ w1.heap.size _ _ rfl HOC.out ms rfl hs9 hz9 ?_; intro v41 w41 ho41 hk41; have HO41 := Lib.hid ho41; have HK41 := Lib.hid (HKC.out.trans hk41); clear ho41 hk41)
      go_ret2
      refine ⟨fun _ => ⟨v41, rfl, ?_⟩, (fun h => by rw [HT.out] at h; cases h), HB2.out.trans (HK41.out.below.mono hwz)⟩
      have h9 := Own.based HO41.out hwz
      rw [← HPRE.out] at h9
      rw [show encL ⟨3, D, I, T, P, (n : Int), (a : Int), ms⟩ = [3] ++ (unhexL T ++ [UInt8.ofNat P.length] ++ P.flatMap unhexL ++ putL (n : Int).toNat ++ putL (a : Int).toNat ++ (putL ms.length ++ ms)) from rfl, HL3.out, HML.out, Int.toNat_natCast, Int.toNat_natCast]
      simpa only [List.append_assoc] using h9
end Go.Proofs.YtpfjlhpahmhkhaaGreat.Ob
