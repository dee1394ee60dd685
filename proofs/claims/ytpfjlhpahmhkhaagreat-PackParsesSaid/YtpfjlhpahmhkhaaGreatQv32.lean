/- Texts put together: VPk4. -/
import Derived.Test.YtpfjlhpahmhkhaaGreatQv30
import Derived.Test.YtpfjlhpahmhkhaaGreatQv31
/- Package pack: mayBe, putNumber, putBytes, nearest. -/
set_option linter.unusedVariables false
set_option linter.unusedSimpArgs false
namespace Go.Proofs.YtpfjlhpahmhkhaaGreat.Ob
open Go.RowKit Go.Proofs.YtpfjlhpahmhkhaaGreat.Sh
open Go.Proofs.YtpfjlhpahmhkhaaGreat.Tx (Shape InL TmpL OwnL Typed Only By Rd Datas list_appendL step_appendL)
set_option maxRecDepth 100000 in
set_option maxHeartbeats 800000 in
theorem mayBe_any (v : Value) (bs : List UInt8) (w : World) (h : Sl w v bs) (hlen : bs.length ≤ 1000000) : Calls Tryz.prog 240 #[v] w (BoolPost w (decB bs)) := by
 have H := Lib.hid h
 clear h
 go_enter Tryz.func240, Tryz.ntmps240
 go_wp2_with fail
 refine (decode_any v bs _ H.out hlen).mono ?_
 rintro e w1 ⟨u, k, rfl, hd, hb⟩
 have hk : (k == 0) = decB bs ∧ ∃ o, ObO w1 w.heap.size u o := by
  cases hB : decB bs with
  | true =>
   obtain ⟨h1, h2⟩ := hd.yes hB
   exact ⟨by rw [h1]; rfl, _, h2⟩
  | false =>
   refine ⟨?_, _, hd.no hB⟩
   by_cases h0 : bs = []
   ·rw [hd.short h0]; rfl
   ·rw [hd.form h0 hB]; rfl
 obtain ⟨hk, o, A, n, c, A2, n2, c2, A3, n3, c3, rfl, _⟩ := hk
 have HK := Lib.hid hk
 have HB := Lib.hid hb
 clear hk hb hd
 go_wp2_with fail
 go_ret
 exact ⟨by rw [← HK.out]; rfl, HB.out.alloc HB.out.size _⟩
def GrwPost (w : World) (B : Nat) (v : Value) (bs news : List UInt8) (e : Ending) (w' : World) : Prop :=
 ∃ v', e = .returned v' ∧ Own w' B v' (bs ++ news) ∧ Only (fun k => v.ownBlock = some k) w w' ∧ (v'.ownBlock = v.ownBlock ∨ ∃ k, v'.ownBlock = some k ∧ w.heap.size ≤ k)
theorem only_grown {w w' : World} {r : Option Nat} (h : w.grownBy w' r) : Only (fun k => r = some k) w w' := ⟨h.os, h.tape, h.output, h.size, fun k hk hn => h.block k hk (fun e => hn e.symm)⟩
theorem app_grw {ops : Array Oper} {rest : List Oper} {o : Oper} {a : Act} {Q : Exit → Act → World → Prop} (hgd : o.guard = none) (s x : Operand)
  (ho : o.op = .call { callee := .builtin .append, args := #[s, x], argTypes := #[32, 32] }) (w : World) (B : Nat) (v : Value) (bs : List UInt8) (hs : a.eval s = v) (hown : Own w B v bs)
  (B' : Nat) (A : Option Addr) (m c : Nat) (news : List UInt8) (hx : a.eval x = .slice A m c) (hr : Reads w B' 1 A m (news.map bv)) (hsmall : bs.length + m ≤ 140737488355328) (hB : B ≤ w.heap.size)
  (h : ∀ v' w', Own w' B v' (bs ++ news) → Only (fun k => v.ownBlock = some k) w w' → (v'.ownBlock = v.ownBlock ∨ ∃ k, v'.ownBlock = some k ∧ w.heap.size ≤ k) → wpList Tryz.prog ops Q rest (a.put o.dst v') w') : wpList Tryz.prog ops Q (o :: rest) a w := by
 obtain ⟨i0, hi, hz0, hz1, hz2⟩ := info_parts info5
 have hm : news.length = m := by have := hr.1; simpa using this
 refine wpList_append_any w hgd s x 32 ho B 5 i0 (.int .u8 0) 1 1 Tryz.underlying32 hi hz0 hz1 hz2 rfl (by decide) v bs.length _ hs hown B' A m c _ hx hr (bv_one news) (by unfold maxLen; omega) (by omega) hB ?_
 intro v' w' h1 h2 h3
 refine h v' w' ?_ (only_grown h2) ?_
 ·unfold Own
  rw [List.length_append, hm, List.map_append]
  exact h1
 ·rcases h3 with h3 | h3
  ·exact .inl h3
  ·exact .inr ⟨_, h3, Nat.le_refl _⟩
theorem app_grw1 {ops : Array Oper} {rest : List Oper} {o : Oper} {a : Act} {Q : Exit → Act → World → Prop} (hgd : o.guard = none) (s x : Operand)
  (ho : o.op = .call { callee := .builtin .append, args := #[s, x], argTypes := #[32, 32] }) (w : World) (B : Nat) (v : Value) (bs : List UInt8) (hs : a.eval s = v) (hown : Own w B v bs)
  (k : Int) (u : UInt8) (hu : bi u = k) (g : Nat) (hg : w.heap.size = g) (hx : a.eval x = .slice (some ⟨g, 0, none⟩) 1 1) (hsmall : bs.length + 1 ≤ 140737488355328) (hB : B ≤ w.heap.size)
  (h : ∀ v' w', Own w' B v' (bs ++ [u]) → Only (fun k => v.ownBlock = some k) w w' → (v'.ownBlock = v.ownBlock ∨ ∃ k, v'.ownBlock = some k ∧ w.heap.size ≤ k) → wpList Tryz.prog ops Q rest (a.put o.dst v') w') : wpList Tryz.prog ops Q (o :: rest) a (w.alloc (.cells #[.int .u8 k] 5)) := by
 subst hu hg
 refine app_grw hgd s x ho _ B v bs hs (hown.alloc _) _ _ 1 1 [u] hx (reads_new _ [u] _ rfl 1 rfl) hsmall (by simp; omega) ?_
 intro v' w' h1 h2 h3
 refine h v' w' h1 (((Only.refl _ w).alloc _).trans h2 (fun _ hm => .inl hm)) ?_
 rcases h3 with h3 | ⟨k, h3, h4⟩
 ·exact .inl h3
 ·exact .inr ⟨k, h3, by simp at h4; omega⟩
theorem grw_then {w w1 w2 : World} {v v1 v2 : Value} (h1 : Only (fun k => v.ownBlock = some k) w w1) (h2 : Only (fun k => v1.ownBlock = some k) w1 w2) (k1 : v1.ownBlock = v.ownBlock ∨ ∃ k, v1.ownBlock = some k ∧ w.heap.size ≤ k) (k2 : v2.ownBlock = v1.ownBlock ∨ ∃ k, v2.ownBlock = some k ∧ w1.heap.size ≤ k) :
  Only (fun k => v.ownBlock = some k) w w2 ∧ (v2.ownBlock = v.ownBlock ∨ ∃ k, v2.ownBlock = some k ∧ w.heap.size ≤ k) := by
 refine ⟨h1.trans h2 (fun k hk => ?_), ?_⟩
 ·rcases k1 with k1 | ⟨j, k1, hj⟩
  ·exact .inl (k1 ▸ hk)
  ·rw [k1] at hk
   injection hk with hk
   exact .inr (by omega)
 ·rcases k2 with k2 | ⟨j, k2, hj⟩
  ·rw [k2]; exact k1
  ·exact .inr ⟨j, k2, Nat.le_trans h1.size hj⟩
theorem grw_below {w w' : World} {B : Nat} {v : Value} {bs : List UInt8} (h : Own w B v bs) (ho : Only (fun k => v.ownBlock = some k) w w') (hB : B ≤ w.heap.size) : Below B w w' :=
 ⟨ho.os, ho.tape, ho.output, ho.size, fun k hk => ho.block k (by omega) (fun e => by have := (World.ownsRow.lt h k e).1; omega)⟩
set_option maxRecDepth 100000 in
set_option maxHeartbeats 800000 in
theorem pnum_any (v : Value) (bs : List UInt8) (n B : Nat) (w : World) (h : Own w B v bs) (hn : n ≤ 72057594037927936) (hl : bs.length ≤ 100000000) (hB : B ≤ w.heap.size) :
  Calls Tryz.prog 180 #[v, .int .i64 (n : Int)] w (GrwPost w B v bs (putL n)) := by
 have HO := Lib.hid h
 clear h
 go_enter Tryz.func180, Tryz.ntmps180
 go_wp2_with fail
 refine (put_any n w hn).mono ?_
 rintro e w1 ⟨u, rfl, hu, hb⟩
 obtain ⟨A, c, rfl, h1, h2, h3, h4⟩ := hu.sl
 have HI := Lib.hid h3.reads
 have HO1 := Lib.hid (HO.out.below hb)
 have HB1 := Lib.hid hb
 have hz : B ≤ w1.heap.size := Nat.le_trans hB hb.size
 have hs := putL_len9 hn
 have hsm : bs.length + (putL n).length ≤ 140737488355328 := by omega
 obtain ⟨l, hl'⟩ : ∃ l, (putL n).length = l := ⟨_, rfl⟩
 have HLL := Lib.hid hl'
 rw [hl'] at HI hsm ⊢
 clear hu hb h1 h2 h3 h4 hs hl'
 go_wp2_with (at_builtin; refine app_grw rfl (.tmp 12) (.tmp 13) rfl w1 B v bs rfl HO1.out _ A l c (putL n) rfl HI.out hsm hz ?_; intro v3 w3 ho3 hb3 hk3; have HO3 := Lib.hid ho3; have HB3 := Lib.hid hb3; have HK3 := Lib.hid hk3; clear ho3 hb3 hk3)
 go_ret
 have := grw_then (v := v) (v1 := v) (Only.of_below HB1.out) HB3.out (.inl rfl) HK3.out
 exact ⟨v3, rfl, HO3.out, this.1, this.2⟩
set_option maxRecDepth 100000 in
set_option maxHeartbeats 800000 in
theorem pbytes_any (v vp : Value) (bs ps : List UInt8) (F : Nat → Prop) (B : Nat) (w : World) (h : Own w B v bs) (hp : By F w vp ps) (hF : ∀ k, F k → v.ownBlock ≠ some k) (hF2 : ∀ k, F k → k < w.heap.size) (hn : ps.length ≤ 1000000) (hl : bs.length ≤ 90000000) (hB : B ≤ w.heap.size) :
  Calls Tryz.prog 244 #[v, vp] w (GrwPost w B v bs (putL ps.length ++ ps)) := by
 have HO := Lib.hid h
 have HP := Lib.hid hp
 have HF := Lib.hid hF
 have HF2 := Lib.hid hF2
 obtain ⟨A, c, rfl, hlc, hcm⟩ := Tx.By.slice hp
 obtain ⟨n, hN⟩ : ∃ n, ps.length = n := ⟨_, rfl⟩
 have HNN := Lib.hid hN
 unfold maxLen at hcm
 rw [hN] at hlc hn HP ⊢
 clear h hp hF hN hF2
 go_enter Tryz.func244, Tryz.ntmps244
 go_wp2_with fail
 refine (pnum_any v bs n B w HO.out (by omega) (by omega) hB).mono ?_
 rintro e w1 ⟨u, rfl, hu, hb, hk⟩
 have hs := putL_len9 (show n ≤ 72057594037927936 from by omega)
 have HO1 := Lib.hid hu
 have HB1 := Lib.hid hb
 have HK1 := Lib.hid hk
 have hz : B ≤ w1.heap.size := Nat.le_trans hB hb.size
 have hsm : (bs ++ putL n).length + n ≤ 140737488355328 := by rw [List.length_append]; omega
 have HP1 : Hid (Reads w1 w1.heap.size 1 A n (ps.map bv)) := by
  have h1 := by_sl (HP.out.only hb (fun k hk e => HF.out k hk e))
  obtain ⟨A', c', hv, _, _, hI, _⟩ := h1
  injection hv with e1 e2 e3
  subst e1
  have := hI.reads
  rwa [HNN.out] at this
 clear hu hb hs hk
 go_wp2_with (at_builtin; refine app_grw rfl (.tmp 8) (.tmp 9) rfl w1 B u _ rfl HO1.out _ A n c ps rfl HP1.out hsm hz ?_; intro v3 w3 ho3 hb3 hk3; have HO3 := Lib.hid ho3; have HB3 := Lib.hid hb3; have HK3 := Lib.hid hk3; clear ho3 hb3 hk3)
 go_ret
 have := grw_then HB1.out HB3.out HK1.out HK3.out
 exact ⟨v3, rfl, by rw [← List.append_assoc]; exact HO3.out, this.1, this.2⟩
def nearV : Option Nat → Int
 | none => -1
 | some k => (k : Int)
theorem near_take (l : List (List UInt8)) (ds : List Nat) (o : List UInt8) : ∀ i n, i ≤ n → nearP (l.take n) (ds.take n) o i = nearP l ds o i
 | 0, n, h => rfl
 | i + 1, n, h => by
  have h1 : (l.take n).getD i [] = l.getD i [] := by rw [List.getD_eq_getElem?_getD, List.getElem?_take, if_pos (by omega), ← List.getD_eq_getElem?_getD]
  have h2 : (ds.take n).getD i 0 = ds.getD i 0 := by rw [List.getD_eq_getElem?_getD, List.getElem?_take, if_pos (by omega), ← List.getD_eq_getElem?_getD]
  rw [nearP, nearP, h1, h2, near_take l ds o i n (by omega)]
def dsV (ds : List Nat) : List Value := ds.map fun (d : Nat) => Value.int .i64 (d : Int)
theorem at_head {w : World} {A : Option Addr} {n c : Nat} {o : List UInt8} (h : Sl w (.slice A n c) o) (hne : o ≠ []) : ∃ ad, A = some ad ∧ 0 < n ∧ w.cell? ad = some (.int .u8 (bi (o.getD 0 0))) := by
 obtain ⟨A', c', hv, _, _, hI, _⟩ := h
 injection hv with e1 e2 e3
 subst e1
 have h0 : 0 < o.length := by
  rcases Nat.eq_zero_or_pos o.length with h0 | h0
  ·exact absurd (List.eq_nil_of_length_eq_zero h0) hne
  ·exact h0
 obtain ⟨ad, e, _, hc⟩ := hI h0
 have h1 := hc 0 h0
 rw [show ad.add 0 = ad from by simp [Addr.add]] at h1
 exact ⟨ad, e, by omega, h1⟩
set_option maxRecDepth 100000 in
set_option maxHeartbeats 3200000 in
theorem nearest_any (vo vd : Value) (l : List (List UInt8)) (ds : List Nat) (i : Nat) (w : World) (hl : l.length = i + 1) (hds : ds.length = i) (ho : LsV w vo l) (hd : SlV w vd (dsV ds)) (hne : ∀ o ∈ l, o ≠ []) (hi : i ≤ 100000) :
  Calls Tryz.prog 242 #[vo, vd] w fun e w' => e = .returned (.int .i64 (nearV (nearP l ds (l.getD i []) i))) ∧ Below w.heap.size w w' := by
 obtain ⟨A, c, rfl, hlc, hcm⟩ := ho.slice
 obtain ⟨D, dc, rfl, hdl, hdm, hDR⟩ := hd.len
 unfold maxLen at hcm hdm
 rw [dsV, List.length_map, hds] at hdl hDR ⊢
 rw [hl] at hlc ho ⊢
 have hgi : l[i]? = some (l.getD i []) := by rw [List.getD_eq_getElem?_getD, List.getElem?_eq_getElem (by omega)]; rfl
 obtain ⟨ad, A2, c2, rfl, hcell, _, _, hsl2⟩ := ho.at_ i _ hgi
 have HO := Lib.hid ho
 have HDR := Lib.hid hDR
 have HNE := Lib.hid hne
 have HLL := Lib.hid hl
 have HDS := Lib.hid hds
 obtain ⟨m, hm⟩ : ∃ m, i + 1 = m := ⟨_, rfl⟩
 rw [hm] at hlc HO HLL ⊢
 have HMM := Lib.hid hm
 have hmi : (m : Int) - 1 = (i : Int) := by omega
 obtain ⟨o, hoo⟩ : ∃ o, l.getD i [] = o := ⟨_, rfl⟩
 have hno : o ≠ [] := hne o (by rw [← hoo]; exact List.mem_of_getElem? hgi)
 rw [hoo] at hcell hsl2 ⊢
 obtain ⟨ad2, rfl, hn0, hc0⟩ := at_head hsl2 hno
 obtain ⟨n2, hn2⟩ : ∃ n, o.length = n := ⟨_, rfl⟩
 rw [hn2] at hcell hn0
 have hc1 : Hid (w.cell? (ad.add i) = some (.slice (some ad2) n2 c2)) := hcell
 have hc2 : Hid (w.cell? ad2 = some (.int .u8 (bi (o.getD 0 0)))) := hc0
 clear ho hd hDR hne hgi hcell hsl2 hno hc0 hl hds hm
 go_enter Tryz.func242, Tryz.ntmps242
 go_wp2_with fail
 go_loopw [6] (fun x wr => ∃ k : Nat, k ≤ i ∧ x = .int .i64 ((k : Int) - 1) ∧ Below w.heap.size w wr ∧ nearP l ds o i = nearP l ds o k) (fun x _ => (intOf x + 1).toNat)
 case atStart => exact ⟨i, Nat.le_refl _, by go_num, Below.refl _ _, rfl⟩
 case round =>
  obtain ⟨k, hk, rfl, hb, hnr⟩ := hrel
  have HB := Lib.hid hb
  have HNR := Lib.hid hnr
  clear hb hnr
  cases k with
  | zero =>
   go_wp2_with fail
   go_ret
   exact ⟨by rw [HNR.out]; rfl, HB.out⟩
  | succ j =>
   have hj : ((j + 1 : Nat) : Int) - 1 = (j : Int) := by omega
   rw [hj]
   have z0 : (0 : Int) ≤ (j : Int) := by omega
   have z1 : (j : Int) < (m : Int) := by have := HMM.out; omega
   have z2 : (i : Int) < (m : Int) := by have := HMM.out; omega
   have z3 : (j : Int) < (i : Int) := by omega
   have z4 : (0 : Int) ≤ (i : Int) := by omega
   have hwr := HO.out.below HB.out
   have hgj : l[j]? = some (l.getD j []) := by rw [List.getD_eq_getElem?_getD, List.getElem?_eq_getElem (by have := HLL.out; omega)]; rfl
   obtain ⟨adx, A3, c3, hade, y1, _, _, hs3⟩ := hwr.at_ j _ hgj
   injection hade with hade
   subst hade
   obtain ⟨p, hp⟩ : ∃ p, l.getD j [] = p := ⟨_, rfl⟩
   have HP := Lib.hid hp
   rw [hp] at y1 hs3 hgj
   obtain ⟨ad3, rfl, hn3, y2⟩ := at_head hs3 (HNE.out p (List.mem_of_getElem? hgj))
   obtain ⟨n3, hn3e⟩ : ∃ n, p.length = n := ⟨_, rfl⟩
   rw [hn3e] at y1 hn3
   have y3 : wr.cell? (ad.add i) = some (.slice (some ad2) n2 c2) := (HB.out.cell (World.block_lt_of_cell? w _ hc1.out)).trans hc1.out
   have y4 : wr.cell? ad2 = some (.int .u8 (bi (o.getD 0 0))) := (HB.out.cell (World.block_lt_of_cell? w _ hc2.out)).trans hc2.out
   have z5 : (0 : Int) < (n3 : Int) := by omega
   have z6 : (0 : Int) < (n2 : Int) := by omega
   have hdj : (dsV ds)[j]? = some (.int .i64 ((ds.getD j 0 : Nat) : Int)) := by
    unfold dsV
    rw [List.getElem?_map, List.getElem?_eq_getElem (by have := HDS.out; omega), List.getD_eq_getElem?_getD, List.getElem?_eq_getElem (by have := HDS.out; omega)]
    rfl
   obtain ⟨add, rfl, hdc⟩ := reads_at HDR.out j _ hdj
   have y5 : wr.cell? (add.add j) = some (.int .i64 ((ds.getD j 0 : Nat) : Int)) := (HB.out.cell (World.block_lt_of_cell? w _ hdc)).trans hdc
   obtain ⟨dj, hdje⟩ : ∃ d, ds.getD j 0 = d := ⟨_, rfl⟩
   rw [hdje] at y5
   have HDJ := Lib.hid hdje
   obtain ⟨u, hu⟩ : ∃ u, bi (p.getD 0 0) = u := ⟨_, rfl⟩
   obtain ⟨t, ht⟩ : ∃ t, bi (o.getD 0 0) = t := ⟨_, rfl⟩
   rw [hu] at y2
   rw [ht] at y4
   have HU := Lib.hid hu
   have HT := Lib.hid ht
   clear hwr hgj hs3 hp hn3e hdj hdc hdje hu ht
   by_cases he : p.getD 0 0 = o.getD 0 0
   ·have g1 : (u == t) = true := by rw [← HU.out, ← HT.out, he]; exact beq_self_eq_true _
    have HE := Lib.hid he
    clear he
    by_cases hd8 : dj < 8
    ·have g2 : (dj : Int) < 8 := by omega
     have HD8 := Lib.hid hd8
     clear hd8
     go_upto_region 5 with (fail)
     go_quiet (fail)
     go_wp2_with fail
     go_ret
     exact ⟨by rw [HNR.out, near_hit (by rw [HP.out]; exact HE.out) (by rw [HDJ.out]; exact HD8.out)]; rfl, below_drewN HB.out _⟩
    ·have g2 : (8 : Int) ≤ (dj : Int) := by omega
     have HD8 := Lib.hid hd8
     clear hd8
     go_upto_region 5 with (fail)
     go_quiet (fail)
     go_wp2_with fail
     go_roundw
     case rel => exact ⟨j, by omega, by go_num, below_drewN HB.out _, by rw [HNR.out, near_miss (fun h => HD8.out (by rw [← HDJ.out]; exact h.2))]⟩
     case measure => simp [intOf]
   ·have g1 : (u == t) = false := by
     rw [← HU.out, ← HT.out, beq_eq_false_iff_ne]
     exact fun e => he (bi_inj e)
    have HE := Lib.hid he
    clear he
    go_upto_region 5 with (fail)
    go_quiet (fail)
    go_wp2_with fail
    go_roundw
    case rel => exact ⟨j, by omega, by go_num, below_drewN HB.out _, by rw [HNR.out, near_miss (fun h => HE.out (by rw [← HP.out]; exact h.1))]⟩
    case measure => simp [intOf]
end Go.Proofs.YtpfjlhpahmhkhaaGreat.Ob
