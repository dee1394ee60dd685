/- Texts put together: UGs11. -/
import Derived.Test.YtbenkmihkbjgeaaGreatQu14
/- Package fsim: it falls. -/
namespace Go.Proofs.YtbenkmihkbjgeaaGreat.Tx
open Go.RowKit Go.Maps Go.Proofs.YtbenkmihkbjgeaaGreat.Sh
theorem left_small {c : CSt} (hs : CSmall c) (keep torn : Int) : CSmall { c with pending := leftC c keep torn } := by
 have hlen : (leftC c keep torn).length ≤ c.pending.length := by
  unfold leftC
  rw [List.length_append, List.length_take]
  cases h : c.pending[keepC c keep]? with
  | none => simp; omega
  | some q =>
   have := (List.getElem?_eq_some_iff.1 h).1
   show _ + (if tearsB q torn = true then [partC q torn] else []).length ≤ _
   split
   ·simp; omega
   ·simp; omega
 refine ⟨hs.here, by have := hs.both; show c.durable.length + (leftC c keep torn).length ≤ _; omega, hs.users, hs.time, hs.hused, hs.hrow, hs.drow, fun r hr => ?_⟩
 have hr' : r ∈ leftC c keep torn := hr
 unfold leftC at hr'
 rcases List.mem_append.1 hr' with h | h
 ·exact hs.prow r (List.mem_of_mem_take h)
 ·cases hq : c.pending[keepC c keep]? with
  | none => rw [hq] at h; cases h
  | some q =>
   rw [hq] at h
   have h' : r ∈ (if tearsB q torn = true then [partC q torn] else []) := h
   split at h'
   ·rw [List.mem_singleton.1 h']
    have := hs.prow q (List.mem_of_getElem? hq)
    exact ⟨this.1, this.2.1, by show (q.f.data.take torn.toNat).length ≤ _; rw [List.length_take]; have := this.2.2; omega⟩
   ·cases h'
set_option maxRecDepth 100000 in
set_option maxHeartbeats 9600000 in
theorem crash_any (F M : Nat → Prop) (b : Nat) (c : CSt) (keep torn : Int) (w : World) (h : FcAt F w b c M) (hs : CSmall c) :
  Calls Tryz.prog 64 #[.pointer (some ⟨b, 0, none⟩), .int .i64 keep, .int .i64 torn] w fun e w' => e = .returned (.tuple #[]) ∧ FcPost F M w b (crC c keep torn) w' := by
 have H := Lib.hid h
 obtain ⟨x, hX, hM⟩ := h
 obtain ⟨dn, hdn⟩ : ∃ dn, c.down = dn := ⟨_, rfl⟩
 have c3 : w.cell? ⟨b, 3, none⟩ = some (.bool dn) := by rw [← hdn]; exact hX.blk.cell 3
 have HDN := Lib.hid hdn
 have HX := Lib.hid hX
 have HMM := Lib.hid hM
 have HS := Lib.hid hs
 have hblt := hX.blk.lt
 clear hX hM hdn hs
 cases dn with
 | true =>
  have HC : Hid (crC c keep torn = c) := by unfold Hid crC; rw [if_pos HDN.out]
  go_enter Tryz.func64, Tryz.ntmps64
  go_wp2
  refine bodyPost_ret (v := .tuple #[]) (by simp [results, Tryz.results64, go_sem]) rfl ⟨rfl, ?_⟩
  rw [HC.out]
  exact FcPost.refl H.out
 | false =>
  have HC : Hid (crC c keep torn = { settleC { c with pending := leftC c keep torn } with here := (settleC { c with pending := leftC c keep torn }).durable, down := true }) := by unfold Hid crC; rw [if_neg (by rw [HDN.out]; decide)]
  obtain ⟨PA, pc, hPA, hpc1, hpc2, hptmp⟩ := HX.out.chs
  have c8 : w.cell? ⟨b, 8, none⟩ = some (.slice PA c.pending.length pc) := by rw [← hPA]; exact HX.out.blk.cell 8
  have c8f : w.frozen? ⟨b, 8, none⟩ = false := HX.out.blk.frozen 8
  obtain ⟨pl, hpl⟩ : ∃ pl, c.pending.length = pl := ⟨_, rfl⟩
  rw [hpl] at c8 hpc1 hptmp
  unfold maxLen at hpc2
  obtain ⟨n, hn⟩ : ∃ n, keepC c keep = n := ⟨_, rfl⟩
  have hmm : min (max keep 0) (pl : Int) = (n : Int) := by rw [← hn, ← hpl]; unfold keepC; omega
  obtain ⟨mx, hmx⟩ : ∃ mx, (if keep < 0 then 0 else keep) = mx := ⟨_, rfl⟩
  have hmx2 : max keep 0 = mx := by rw [← hmx]; split <;> omega
  have hmm2 : (if (pl : Int) < mx then (pl : Int) else mx) = (n : Int) := by rw [hmx2] at hmm; split <;> omega
  rw [hmx2] at hmm
  have hnp : n ≤ pl := by omega
  have hpl9 : pl ≤ 900000 := by have := HS.out.both; omega
  have hfront := chs_front PA pl pc n (by omega)
  have hback := chs_back PA pl pc n (by omega)
  obtain ⟨LA, hLA⟩ : ∃ LA, (if pc = n then PA else PA.map (fun a => a.add (n * 5))) = LA := ⟨_, rfl⟩
  obtain ⟨m, hm⟩ : ∃ m, pl - n = m := ⟨_, rfl⟩
  obtain ⟨lc, hlc⟩ : ∃ lc, pc - n = lc := ⟨_, rfl⟩
  rw [hLA, hm, hlc] at hback
  have HLA := Lib.hid hLA
  have HM := Lib.hid hm
  have HLC := Lib.hid hlc
  have HN := Lib.hid hn
  have HPL := Lib.hid hpl
  have HPT := Lib.hid hptmp
  have hpend := HX.out.pending
  rw [hPA, hpl] at hpend
  have HPE := Lib.hid (hpend.take n hnp)
  have HOB : Hid ((Value.slice PA n pc).ownBlock = x.pending.ownBlock) := by
   unfold Hid
   rw [hPA]
   cases PA <;> rfl
  have n0 : (0 : Int) ≤ (n : Int) := by omega
  have n1 : (n : Int) ≤ (pl : Int) := by omega
  have hpo := HX.out.pend_ HMM.out (Below.refl _ w) (World.grownBy.refl w _) HPE.out (.inl HOB.out)
  have HPO := Lib.hid hpo
  have ho1 : Only (fun k => k = b) w (w.setCell ⟨b, 8, none⟩ (.slice PA n pc)) := Only.set_ (M := fun k => k = b) (g := b) (i := 8) (Only.refl _ w) (.inl rfl) _
  have HPT1 : Hid (ChsTmp F (w.setCell ⟨b, 8, none⟩ (.slice PA n pc)) (.slice PA pl pc) c.pending) := by
   have h1 := (HX.out.pending.only ho1 HX.out.Fb (fun k hk e => HX.out.pb (e ▸ hk))).tmp
   rw [hPA, hpl] at h1
   exact h1
  clear hn hpl hptmp hPA hpend hpo ho1 hLA hlc
  go_enter Tryz.func64, Tryz.ntmps64
  go_upto_region 4 with (fail)
  generalize w.setCell ⟨b, 8, none⟩ (.slice PA n pc) = w1 at *
  obtain ⟨M1, hat1, hon1, hsub1⟩ := HPO.out
  have HA1 := Lib.hid hat1
  have HO1 := Lib.hid hon1
  have HS1 := Lib.hid hsub1
  clear hat1 hon1 hsub1 c8 c8f c3 hmm hmm2 hfront hback
  obtain ⟨tt, htt⟩ : ∃ tt, (match c.pending[n]? with | none => false | some q => tearsB q torn) = tt := ⟨_, rfl⟩
  have HTT := Lib.hid htt
  clear htt
  go_cut [45] (fun v wx => v = .bool tt ∧ Below w1.heap.size w1 wx)
  case first =>
   cases hq : c.pending[n]? with
   | none =>
    have hle : c.pending.length ≤ n := by simpa using hq
    have HT : Hid (tt = false) := by unfold Hid; rw [← HTT.out, hq]
    have m0 : m = 0 := by have := HPL.out; have := HM.out; omega
    subst m0
    have z0 : ¬ (0 : Int) < ((0 : Nat) : Int) := by omega
    clear hq hle
    go_wp2_with fail
    go_meet
    exact ⟨by rw [HT.out], Below.refl _ _⟩
   | some q =>
    have hlt := (List.getElem?_eq_some_iff.1 hq).1
    have HT : Hid (tearsB q torn = tt) := by unfold Hid; rw [← HTT.out, hq]
    obtain ⟨ad, dA, dc, rfl, hby, _, _, x0, x1, x2, x3, x4⟩ := ch_cells HPT1.out n q hq
    have hla : LA = some (ad.add (n * 5)) := by
     rw [← HLA.out, if_neg (by have := HPL.out; omega)]
     rfl
    subst hla
    have m1 : (0 : Int) < (m : Int) := by have := HPL.out; have := HM.out; omega
    have HTE := Lib.hid (fun w => tears_any q dA q.f.data.length dc torn w rfl)
    clear hq hlt hby
    go_wp2_with fail
    refine (HTE.out _).mono ?_
    rintro e w2 ⟨rfl, hb2⟩
    rw [HT.out]
    have HB2 := Lib.hid hb2
    clear hb2
    go_wp2_with fail
    go_meet
    exact ⟨rfl, HB2.out⟩
  case rest =>
   obtain ⟨rfl, hb2⟩ := hcut
   have HB2 := Lib.hid hb2
   clear hb2
   obtain ⟨w2, hw2⟩ : ∃ w2, w2 = wc := ⟨_, rfl⟩
   subst hw2
   go_upto_if 45 with (fail)
   go_cut [] (fun wx => FcPost F M w b { c with pending := leftC c keep torn } wx)
   case first =>
    cases tt with
    | false =>
     have HL : Hid (leftC c keep torn = c.pending.take n) := by
      unfold Hid leftC
      rw [HN.out]
      cases hq : c.pending[n]? with
      | none => exact List.append_nil _
      | some q =>
       have := HTT.out
       rw [hq] at this
       show _ ++ (if tearsB q torn = true then _ else _) = _
       rw [if_neg (by rw [show tearsB q torn = false from this]; decide)]
       exact List.append_nil _
     go_wp2_with fail
     go_meet
     rw [HL.out]
     exact FcPost.then_below HPO.out HB2.out
    | true =>
     obtain ⟨q, hq⟩ : ∃ q, c.pending[n]? = some q := by
      cases hq : c.pending[n]? with
      | none => have h := HTT.out; rw [hq] at h; cases h
      | some q => exact ⟨q, rfl⟩
     have hte : tearsB q torn = true := by have h := HTT.out; rw [hq] at h; exact h
     have hlt := (List.getElem?_eq_some_iff.1 hq).1
     have htn : 0 ≤ torn ∧ torn < (q.f.data.length : Int) := by
      unfold tearsB at hte
      rw [Bool.and_eq_true, Bool.and_eq_true] at hte
      exact ⟨of_decide_eq_true hte.2.1, of_decide_eq_true hte.2.2⟩
     have HL : Hid (leftC c keep torn = c.pending.take n ++ [partC q torn]) := by
      unfold Hid leftC
      rw [HN.out, hq]
      show _ ++ (if tearsB q torn = true then _ else _) = _
      rw [if_pos hte]
     obtain ⟨tn, rfl⟩ : ∃ tn : Nat, torn = (tn : Int) := ⟨torn.toNat, by omega⟩
     obtain ⟨ad, dA, dc, rfl, hby, hdc1, _, x0, x1, x2, x3, x4⟩ := ch_cells (HPT1.out.below HB2.out) n q hq
     have hla : LA = some (ad.add (n * 5)) := by
      rw [← HLA.out, if_neg (by have := HPL.out; omega)]
      rfl
     subst hla
     have m1 : (0 : Int) < (m : Int) := by have := HPL.out; have := HM.out; omega
     obtain ⟨ql, hql⟩ : ∃ ql, q.f.data.length = ql := ⟨_, rfl⟩
     rw [hql] at htn hby hdc1 x3
     have hqs := (HS.out.prow q (List.mem_of_getElem? hq)).2.2
     have hbt : By F w2 (.slice dA tn dc) (q.f.data.take tn) := by
      rw [← hql] at hby
      exact hby.take tn (by omega)
     have hfr := bytes_front dA ql dc tn (by omega)
     obtain ⟨wb, hwb⟩ : ∃ wb, wb = w2.alloc (.cells #[.string (str q.gone), .string (str q.path), .int .i64 q.f.mode, .slice dA ql dc, .int .i64 q.f.time] 186) := ⟨_, rfl⟩
     have hBb : Below w2.heap.size w2 wb := by rw [hwb]; exact (Below.refl _ _).alloc (Nat.le_refl _) _
     have hbox : Blk wb w2.heap.size 186 #[.string (str q.gone), .string (str q.path), .int .i64 q.f.mode, .slice dA ql dc, .int .i64 q.f.time] := by rw [hwb]; exact Blk.new _ _ _
     have y3 : wb.cell? ⟨w2.heap.size, 3, none⟩ = some (.slice dA ql dc) := hbox.cell 3
     have y3f : wb.frozen? ⟨w2.heap.size, 3, none⟩ = false := hbox.frozen 3
     have HBOX : Hid (Blk (wb.setCell ⟨w2.heap.size, 3, none⟩ (.slice dA tn dc)) w2.heap.size 186 #[.string (str q.gone), .string (str q.path), .int .i64 q.f.mode, .slice dA tn dc, .int .i64 q.f.time]) := hbox.set_ 3 _
     have hB4 : Below w2.heap.size w2 (wb.setCell ⟨w2.heap.size, 3, none⟩ (.slice dA tn dc)) := hBb.setCell (p := ⟨w2.heap.size, 3, none⟩) (Nat.le_refl _) _
     have HB4 := Lib.hid (HB2.out.trans (hB4.mono HB2.out.size))
     have HBT := Lib.hid (hbt.only (Only.of_below (M := fun _ => False) hB4) (fun _ _ => id))
     have HTN : Hid (tn ≤ 20000) := by unfold Hid; omega
     clear hq hte hlt hby hbt hBb hbox hB4
     go_upto_region 6 with (fail)
     rw [← hwb]
     clear hwb x0 x1 x2 x3 x4
     go_upto_region 7 with (fail)
     generalize wb.setCell ⟨w2.heap.size, 3, none⟩ (.slice dA tn dc) = w4 at *
     obtain ⟨xx, hXX, hMX⟩ := HA1.out.below HB4.out
     have HXX := Lib.hid hXX
     have HMX := Lib.hid hMX
     have HBF : Hid (By (grow F w w1 M1) w4 (.slice dA tn dc) (q.f.data.take tn)) := HBT.out.mono (fun _ _ h => .inl h)
     have hbx := HBOX.out
     obtain ⟨r0, r1, r2, r3, r4⟩ : w4.cell? ⟨w2.heap.size, 0, none⟩ = some (.string (str q.gone)) ∧ w4.cell? ⟨w2.heap.size, 1, none⟩ = some (.string (str q.path)) ∧ w4.cell? ⟨w2.heap.size, 2, none⟩ = some (.int .i64 q.f.mode) ∧ w4.cell? ⟨w2.heap.size, 3, none⟩ = some (.slice dA tn dc) ∧ w4.cell? ⟨w2.heap.size, 4, none⟩ = some (.int .i64 q.f.time) := ⟨hbx.cell 0, hbx.cell 1, hbx.cell 2, hbx.cell 3, hbx.cell 4⟩
     have p8 : w4.cell? ⟨b, 8, none⟩ = some xx.pending := hXX.blk.cell 8
     clear hXX hMX hbx y3 y3f
     obtain ⟨q2, hq2⟩ : ∃ q2, partC q (tn : Int) = q2 := ⟨_, rfl⟩
     have HQ2 := Lib.hid hq2
     have HQC : Hid (chK.cells q2 (.slice dA tn dc) = [.string (str q.gone), .string (str q.path), .int .i64 q.f.mode, .slice dA tn dc, .int .i64 q.f.time] ∧ q2.f.data = q.f.data.take tn) := by rw [← hq2]; exact ⟨rfl, by show q.f.data.take (tn : Int).toNat = _; simp⟩
     have HBF2 : Hid (By (grow F w w1 M1) w4 (.slice dA tn dc) (chK.data q2)) := by unfold Hid; rw [show chK.data q2 = q.f.data.take tn from HQC.out.2]; exact HBF.out
     clear hq2
     have HPA := Lib.hid (HXX.out.pending.alloc (.cells #[.string (str q.gone), .string (str q.path), .int .i64 q.f.mode, .slice dA tn dc, .int .i64 q.f.time] 186))
     have HPD := Lib.hid (HXX.out.pending.drew.alloc (.cells #[.string (str q.gone), .string (str q.path), .int .i64 q.f.mode, .slice dA tn dc, .int .i64 q.f.time] 186))
     have HLA' := Lib.hid (TmpL.one (K := chK) (F := grow F w w1 M1) (a := q2) (d := .slice dA tn dc) (Blk.new w4 186 #[.string (str q.gone), .string (str q.path), .int .i64 q.f.mode, .slice dA tn dc, .int .i64 q.f.time]) HQC.out.1.symm (HBF2.out.only ((Only.refl (fun _ => False) w4).alloc _) (fun _ _ => id)))
     have HLD := Lib.hid (TmpL.one (K := chK) (F := grow F w w1 M1) (a := q2) (d := .slice dA tn dc) (Blk.new w4.drew 186 #[.string (str q.gone), .string (str q.path), .int .i64 q.f.mode, .slice dA tn dc, .int .i64 q.f.time]) HQC.out.1.symm (HBF2.out.only (((Only.refl (fun _ => False) w4).drew).alloc _) (fun _ _ => id)))
     have HFP : Hid (∀ k, grow F w w1 M1 k → k < (w4.alloc (.cells #[.string (str q.gone), .string (str q.path), .int .i64 q.f.mode, .slice dA tn dc, .int .i64 q.f.time] 186)).heap.size) := fun k hk => by have := HXX.out.low k hk; simp; omega
     have s1 : Hid ((c.pending.take n).length + [q2].length ≤ 2000000) := by unfold Hid; rw [List.length_take]; simp; omega
     have p8a : (w4.alloc (.cells #[.string (str q.gone), .string (str q.path), .int .i64 q.f.mode, .slice dA tn dc, .int .i64 q.f.time] 186)).cell? ⟨b, 8, none⟩ = some xx.pending := (HXX.out.blk.alloc _).cell 8
     go_region_law (refine step_appendL typed_ch (v := xx.pending) (l := c.pending.take n) (ex := .slice (some ⟨w4.heap.size, 0, none⟩) 1 1) (l2 := [q2]) rfl (.tmp 60) (.tmp 62) rfl (by first | exact HPA.out.drew | exact HPA.out | exact HPD.out) (by first | exact HLA'.out.drew | exact HLA'.out | exact HLD.out) (by rfl) (by rfl) s1.out (by exact Nat.zero_le _) (by exact HFP.out) ?_; intro v5 w5 ho5 hg5 hk5; obtain ⟨A5, c5, hv5, _, _⟩ := ho5.tmp.slice; subst hv5; have hb5 : Blk w5 b 92 (fcC { c with pending := c.pending.take n } xx) := (HXX.out.blk.alloc _).drew.grown hg5 (fun e => HXX.out.pb e.symm); have y3 : w5.cell? ⟨b, 8, none⟩ = some xx.pending := hb5.cell 8; have y3f : w5.frozen? ⟨b, 8, none⟩ = false := hb5.frozen 8; have HO5 := Lib.hid ho5; have HG5 := Lib.hid hg5; have HK5 := Lib.hid hk5; clear ho5 hg5 hk5 hb5)
     all_goals
      go_wp2_with fail
      go_meet
      have h1 := HXX.out.pend_ HMX.out (((Below.refl _ _).alloc (Nat.le_refl _) _).drew) HG5.out HO5.out (HK5.out.imp id .inl)
      have h2 := FcPost.trans HO1.out HS1.out (FcPost.of_below HB4.out h1)
      rw [HL.out, HQ2.out]
      first | exact h2 | (rw [List.length_append] at h2; exact h2)
   case rest =>
    obtain ⟨M2, hat2, hon2, hsub2⟩ := hcut
    have HA2 := Lib.hid hat2
    have HO2 := Lib.hid hon2
    have HS2 := Lib.hid hsub2
    have HSM := Lib.hid (left_small HS.out keep torn)
    clear hat2 hon2 hsub2
    go_wp2_with fail
    refine (settle_any _ M2 b _ _ HA2.out HSM.out).mono ?_
    rintro e w6 ⟨rfl, hp6⟩
    obtain ⟨M3, hat3, hon3, hsub3⟩ := FcPost.trans HO2.out HS2.out hp6
    have HA3 := Lib.hid hat3
    have HO3 := Lib.hid hon3
    have HS3 := Lib.hid hsub3
    obtain ⟨x3, hX3, hM3⟩ := hat3
    have HX3 := Lib.hid hX3
    have HM3 := Lib.hid hM3
    have d7 : w6.cell? ⟨b, 7, none⟩ = some (.pointer (some ⟨x3.dur, 0, none⟩)) := hX3.blk.cell 7
    clear hp6 hon3 hsub3 hX3 hM3
    go_wp2_with fail
    refine (tclone_any _ x3.dur x3.df x3.du _ w6 HX3.out.dur).mono ?_
    rintro e w7 ⟨t7, rfl, hn7⟩
    have HN7 := Lib.hid (HX3.out.newhere HM3.out hn7)
    have hx7 := HX3.out.below hn7.1
    have d6 : w7.cell? ⟨b, 6, none⟩ = some (.pointer (some ⟨x3.here, 0, none⟩)) := hx7.blk.cell 6
    have d6f : w7.frozen? ⟨b, 6, none⟩ = false := hx7.blk.frozen 6
    clear hn7 d7 hx7
    go_upto_region 10 with (fail)
    generalize w7.setCell ⟨b, 6, none⟩ (.pointer (some ⟨t7, 0, none⟩)) = w8 at *
    obtain ⟨M4, hat4, hon4, hsub4⟩ := HN7.out
    have HO4 := Lib.hid hon4
    have HS4 := Lib.hid hsub4
    obtain ⟨x4, hX4, hM4⟩ := hat4
    have e3 : w8.cell? ⟨b, 3, none⟩ = some (.bool false) := by rw [← HDN.out]; exact hX4.blk.cell 3
    have e3f : w8.frozen? ⟨b, 3, none⟩ = false := hX4.blk.frozen 3
    have HF := Lib.hid (fc_cell (c' := { settleC { c with pending := leftC c keep torn } with here := (settleC { c with pending := leftC c keep torn }).durable, down := true }) 3 (.bool true) hX4 hM4 rfl rfl rfl rfl rfl rfl)
    clear hon4 hsub4 hX4 hM4 d6 d6f
    go_wp2_with fail
    go_end0
    rw [HC.out]
    exact ⟨rfl, FcPost.trans HO3.out HS3.out (FcPost.trans HO4.out HS4.out HF.out)⟩
end Go.Proofs.YtbenkmihkbjgeaaGreat.Tx
