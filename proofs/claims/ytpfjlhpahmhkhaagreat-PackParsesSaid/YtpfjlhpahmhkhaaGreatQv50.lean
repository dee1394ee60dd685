/- Texts put together: VPa3. -/
import Derived.Test.YtpfjlhpahmhkhaaGreatQv49
import Derived.Test.YtpfjlhpahmhkhaaGreatQv40
import Derived.Deep.CutBlock
import Derived.Deep.DeepCutAuto
/- The document's parse, Parse, Index. -/
set_option linter.unusedVariables false
set_option linter.unusedSimpArgs false
namespace Go.Proofs.YtpfjlhpahmhkhaaGreat.Ob
open Go.RowKit Go.Proofs.YtpfjlhpahmhkhaaGreat.Sh
open Go.Proofs.YtpfjlhpahmhkhaaGreat.Tx (Only Rd Shape TmpL OwnL By Typed Datas list_appendL step_appendL)
set_option maxRecDepth 100000 in
set_option maxHeartbeats 12800000 in
theorem rparse_any {vb vI vO : Value} {bs : List UInt8} {ids objs : List (List UInt8)} (w : World) (hb : Sl w vb bs) (hbl : bs.length ≤ 1000000) (hI : Tx.SlV w vI ((ids.map str).map Tx.sv)) (hO : LsV w vO objs) (hlen : ids.length = objs.length) (hil : ids.length ≤ 1000000) (hos : ∀ x ∈ objs, x.length ≤ 1000000) :
  Calls Tryz.prog 116 #[vb, .agg #[vI, vO, .pointer none]] w (RParsePost (readP bs (srcK ids objs)) w) := by
 obtain ⟨A, c, rfl, hlc, hcm, _⟩ := hb.len
 obtain ⟨AO, cO, rfl, hlO, hmO⟩ := hO.slice
 obtain ⟨AI, mI, cI, rfl⟩ : ∃ A m c, vI = .slice A m c := by
  obtain ⟨A, c, e, _⟩ := hI
  exact ⟨A, _, c, e⟩
 unfold maxLen at hcm hmO
 have HONE : Hid (∀ (W : World) (b : List UInt8) (vB vD vR : Value) (read : List EntM) (k : Nat), Below w.heap.size w W → Sl W vB b → b.length ≤ 1000000 → LsV W vD (read.map fun e => e.data) → RwV W vR read → read.length ≤ 100000 → (∀ e ∈ read, e.data.length ≤ 1000000 ∧ e.depth ≤ 1000) → k ≤ 1000000 →
   Calls Tryz.prog 189 #[vB, .int .i64 (k : Int), vD, vR, .agg #[.slice AI mI cI, .slice AO objs.length cO, .pointer none]] W (OnePost (oneP b (srcK ids objs) read k) W)) :=
  fun W b vB vD vR read k hW h1 h2 h3 h4 h5 h6 h7 => rone_any k W h1 h2 h3 h4 h5 h6 h7 (hI.below hW) (hO.below hW) hlen hil hos
 obtain ⟨lo, hlo⟩ : ∃ lo, objs.length = lo := ⟨_, rfl⟩
 rw [hlo] at HONE hlO ⊢
 obtain ⟨base, hbase⟩ : ∃ x, srcK ids objs = x := ⟨_, rfl⟩
 rw [hbase] at HONE ⊢
 obtain ⟨R, hR⟩ : ∃ R, readP bs base = R := ⟨_, rfl⟩
 have HR0 := Lib.hid hR
 rw [hR]
 obtain ⟨wa, hwa⟩ : ∃ W, W = w.alloc (.cells #[.slice AI mI cI, .slice AO lo cO, .pointer none] 53) := ⟨_, rfl⟩
 have HBA : Hid (Below w.heap.size w wa) := by unfold Hid; rw [hwa]; exact (Below.refl _ _).alloc (Nat.le_refl _) _
 have HBK : Hid (Blk wa w.heap.size 53 #[.slice AI mI cI, .slice AO lo cO, .pointer none]) := by unfold Hid; rw [hwa]; exact Blk.new _ _ _
 clear hI hO hlen hil hos hlo hbase hR hlO hmO
 by_cases h36 : bs.length < 36
 ·have hre : R = (2, []) := by rw [← HR0.out]; exact read_short h36
  subst hre
  obtain ⟨l, hl⟩ : ∃ l, bs.length = l := ⟨_, rfl⟩
  rw [hl] at hlc h36 ⊢
  have z : (l : Int) < 36 := by omega
  clear hb hbl hl
  go_enter Tryz.func116, Tryz.ntmps116
  go_wp2_with fail
  rw [← hwa]
  go_returns
  exact RParsePost.none_ HBA.out (by show (2 : Int) ≠ 0; decide) rfl rfl
 ·obtain ⟨m, hm⟩ : ∃ m, bs.length - 32 = m := ⟨_, rfl⟩
  have HSF := Lib.hid (sl_front hb m (by omega))
  have HSB := Lib.hid (sl_back hb m (by omega))
  have HRS := Lib.hid (fun hs => read_sum (bs := bs) (base := base) (by omega) hs)
  have HRB := Lib.hid (fun hs => read_body (bs := bs) (base := base) (by omega) hs)
  have hlb : (bs.take m).length = m := by simp; omega
  have hm4 : 4 ≤ m := by omega
  rw [hm] at HRS HRB
  obtain ⟨l, hl⟩ : ∃ l, bs.length = l := ⟨_, rfl⟩
  rw [hl] at hlc h36 hm HSB hbl ⊢
  have kf := fun W => run_front A l c m (by omega) W
  have kk := fun W => run_back A l c m (by omega) W
  have zl : (l : Int) - 32 = (m : Int) := by omega
  have z36 : (36 : Int) ≤ (l : Int) := by omega
  obtain ⟨T, hT⟩ : ∃ T, (if c = 0 then A else A.map (·.add 0)) = T := ⟨_, rfl⟩
  obtain ⟨U, hU⟩ : ∃ U, (if c = m then A else A.map (·.add m)) = U := ⟨_, rfl⟩
  rw [hT] at kf HSF
  rw [hU] at kk HSB
  obtain ⟨d, hd⟩ : ∃ d, l - m = d := ⟨_, rfl⟩
  rw [hd] at kk HSB
  obtain ⟨B, hB⟩ : ∃ B, bs.take m = B := ⟨_, rfl⟩
  obtain ⟨S, hS⟩ : ∃ S, bs.drop m = S := ⟨_, rfl⟩
  rw [hB] at hlb HRS HRB HSF
  rw [hS] at HRS HRB HSB
  have HM4 := Lib.hid hm4
  have HLB := Lib.hid hlb
  have HSM : Hid (B.length ≤ 1000000) := by unfold Hid; omega
  rw [HR0.out] at HRS HRB
  have HSUM : Hid (∀ W, Below w.heap.size w W → Calls Tryz.prog 187 #[.slice T m c] W fun e w' => ∃ A1 c1, e = .returned (.slice A1 (sumOf B).length c1) ∧ Sl w' (.slice A1 (sumOf B).length c1) (sumOf B) ∧ Below w.heap.size w w' ∧ Below W.heap.size W w') := fun W hW => (rsum_any _ B W (HSF.out.below hW) (by have := HSM.out; omega)).mono (fun e w' ⟨v, he, ho, hb⟩ => by
   obtain ⟨A1, c1, rfl, _, _⟩ := ho.length
   exact ⟨A1, c1, he, ho.sl, hW.trans (hb.mono hW.size), hb⟩)
  have zm1 : (m : Int) ≤ 1000000 := by omega
  have zm3 : (3 : Int) ≤ (m : Int) := by omega
  have zm0 : (0 : Int) ≤ (m : Int) := by omega
  have zml : (m : Int) ≤ (l : Int) := by omega
  have zw : IntKind.i64.wrap (m : Int) = (m : Int) := by exact IntWalk.i64_in _ (by omega)
  clear hb hm hl hT hU hd hB hS hm4 hlb h36 hbl
  go_enter Tryz.func116, Tryz.ntmps116
  go_upto_region 4 with (fail)
  rw [← hwa]
  clear hwa
  -- STEPS
  have HW : Hid (Below w.heap.size w wa.drew) := HBA.out.drew
  refine wp_region_held_drew (S := (fun _ => True)) (by kernel_rfl) ?_ (fun hHeld => ?_)
  ·try dsimp only
   all_goals trivial
  refine take_at (i := 0) (d := 27) (v := ?_) rfl (by kernel_rfl) (hy := .inl ⟨by kernel_rfl, ?_⟩) (h := ?_)
  rotate_left
  ·intro W hSw; (try dsimp only at hSw); go_simp; first | done | with_reducible rfl
  try simp only [Act.put, List.setIfInBounds_toArray, List.set_cons_zero, List.set_cons_succ]
  refine take_at (i := 2) (d := 29) (v := ?_) rfl (by kernel_rfl) (hy := .inl ⟨by kernel_rfl, ?_⟩) (h := ?_)
  rotate_left
  ·intro W hSw; (try dsimp only at hSw); go_simp; first | done | with_reducible rfl
  try simp only [Act.put, List.setIfInBounds_toArray, List.set_cons_zero, List.set_cons_succ]
  refine take_at (i := 3) (d := 30) (v := ?_) rfl (by kernel_rfl) (hy := .inl ⟨by kernel_rfl, ?_⟩) (h := ?_)
  rotate_left
  ·intro W hSw; (try dsimp only at hSw); go_simp; first | done | with_reducible rfl
  try simp only [Act.put, List.setIfInBounds_toArray, List.set_cons_zero, List.set_cons_succ]
  refine take_at (i := 4) (d := 31) (v := ?_) rfl (by kernel_rfl) (hy := .inl ⟨by kernel_rfl, ?_⟩) (h := ?_)
  rotate_left
  ·intro W hSw; (try dsimp only at hSw); go_simp; first | done | with_reducible rfl
  try simp only [Act.put, List.setIfInBounds_toArray, List.set_cons_zero, List.set_cons_succ]
  refine take_at (i := 5) (d := 32) (v := ?_) rfl (by kernel_rfl) (hy := .inl ⟨by kernel_rfl, ?_⟩) (h := ?_)
  rotate_left
  ·intro W hSw; (try dsimp only at hSw); go_simp; first | done | with_reducible rfl
  try simp only [Act.put, List.setIfInBounds_toArray, List.set_cons_zero, List.set_cons_succ]
  refine take_at (i := 6) (d := 33) (v := ?_) rfl (by kernel_rfl) (hy := .inl ⟨by kernel_rfl, ?_⟩) (h := ?_)
  rotate_left
  ·intro W hSw; (try dsimp only at hSw); go_simp; first | done | with_reducible rfl
  try simp only [Act.put, List.setIfInBounds_toArray, List.set_cons_zero, List.set_cons_succ]
  refine wpAnyH_ready (rs := [1]) (by kernel_rfl) (by simp) (AllReadyH.cons rfl (fun K hK => ?_) AllReadyH.nil)
  go_simp
  refine (HSUM.out _ HW.out).mono ?_
  rintro y w1 ⟨A1, c1, rfl, hs1, hb1, hb1a⟩
  have HSV := Lib.hid hs1
  have HB1 := Lib.hid hb1
  have HBK1 := Lib.hid ((HBK.out.below (Below.refl _ _).drew HBK.out.lt).below hb1a (by have := HBK.out.lt; exact this))
  clear hs1 hb1 hb1a
  try go_wp2_with fail
  refine hK.out _ _ ?_ (fun hHeld => ?_)
  ·try dsimp only
   all_goals trivial
  clear hK K
  try simp only [Act.put, List.setIfInBounds_toArray, List.set_cons_zero, List.set_cons_succ]
  refine wpAnyH_ready (rs := [7]) (by kernel_rfl) (by simp) (AllReadyH.cons rfl (fun K hK => ?_) AllReadyH.nil)
  go_simp
  refine (rbytes_any _ _ (sumOf B) S _ (by exact HSV.out) (by exact HSB.out.below HB1.out)).mono ?_
  rintro y w2 ⟨rfl, rfl⟩
  try go_wp2_with fail
  refine hK.out _ _ ?_ (fun hHeld => ?_)
  ·try dsimp only
   all_goals trivial
  clear hK K
  try simp only [Act.put, List.setIfInBounds_toArray, List.set_cons_zero, List.set_cons_succ]
  refine take_at (i := 8) (d := 35) (v := ?_) rfl (by kernel_rfl) (hy := .inl ⟨by kernel_rfl, ?_⟩) (h := ?_)
  rotate_left
  ·intro W hSw; (try dsimp only at hSw); go_simp; first | done | with_reducible rfl
  try simp only [Act.put, List.setIfInBounds_toArray, List.set_cons_zero, List.set_cons_succ]
  refine wpAnyH_done (by kernel_rfl) ?_ _
  obtain ⟨t, ht⟩ : ∃ t, (sumOf B == S) = t := ⟨_, rfl⟩
  rw [ht]
  have HT := Lib.hid ht
  clear ht
  -- END STEPS
  cases t with
  | false =>
   have hre : R = (5, []) := by
    have := HT.out
    rw [beq_eq_false_iff_ne] at this
    exact HRS.out (fun e => this e.symm)
   subst hre
   go_wp2_with fail
   go_returns
   exact RParsePost.none_ HB1.out (by show (5 : Int) ≠ 0; decide) rfl rfl
  | true =>
   have hre : R = bodyP B base := by
    have := HT.out
    rw [beq_iff_eq] at this
    exact HRB.out this.symm
   have HR := Lib.hid hre
   have k3 := fun W => run_front T m c 3 (by omega) W
   have hlb := HLB.out
   have hsf := sl_front (show Sl w1 (.slice T B.length c) B by rw [hlb]; exact HSF.out.below HB1.out) 3 (by omega)
   obtain ⟨T3, hT3⟩ : ∃ T', (if c = 0 then T else T.map (·.add 0)) = T' := ⟨_, rfl⟩
   rw [hT3] at hsf k3
   rw [show ((3 : Nat) : Int) = 3 from rfl] at k3
   obtain ⟨X3, hX3⟩ : ∃ X, B.take 3 = X := ⟨_, rfl⟩
   have hx3 : X3.length = 3 := by rw [← hX3, List.length_take]; omega
   rw [hX3] at hsf
   have HX3 := Lib.hid hX3
   obtain ⟨A', c', e9, g1, g2, g3, g4⟩ := hsf
   rw [hx3] at e9
   injection e9 with e9 _ e8
   subst e9 e8
   have kc : (convert 32 9 (.slice T3 3 c)).run Tryz.prog w1 = .ok (.string (str X3)) w1 := by
    have h9 := conv_str w1 T3 X3 c g3 g4
    rw [hx3] at h9
    exact h9
   have HSB1 : Hid (∀ W, Below w.heap.size w W → Sl W (.slice T m c) B) := fun W hW => HSF.out.below hW
   have hq3 := getR_cases B 3 (by omega)
   clear hre hT3 hX3 hx3 g1 g2 g3 g4 hlb
   by_cases h3 : X3 = markL
   ·have hs1 : ((str X3).toList == [77, 80, 49]) = true := by rw [str_toList, h3]; rfl
    have hs2 : ((str X3).toList != [77, 80, 49]) = false := by rw [bne, hs1]; rfl
    have HM3 : Hid (B.take 3 = markL) := by unfold Hid; rw [HX3.out]; exact h3
    clear h3
    rcases hq3 with ⟨e, hg, he⟩ | ⟨n, hg, hl5, hn5, _⟩
    ·have hne : e ≠ 0 := by omega
     have z : (e != 0) = true := by rw [bne_iff_ne]; exact hne
     have HNE := Lib.hid hne
     have HG := Lib.hid hg
     have hre : R = (e, []) := HR.out.trans (body_err HM3.out HG.out HNE.out)
     subst hre
     clear hg hne he
     go_wp2_with fail
     refine (rget_any _ B _ 0 0 e w1 (HSB1.out _ HB1.out) HG.out).mono ?_
     rintro y w5 ⟨rfl, hb5⟩
     have HB5 := Lib.hid (HB1.out.trans (hb5.mono HB1.out.size))
     clear hb5
     go_wp2_with fail
     go_returns
     exact RParsePost.none_ HB5.out HNE.out rfl rfl
    ·obtain ⟨q, hq⟩ : ∃ q, 3 + (putL n).length = q := ⟨_, rfl⟩
     rw [hq] at hg hl5
     have HG := Lib.hid hg
     have HQL : Hid (q ≤ B.length) := hl5
     have zq0 : (0 : Int) ≤ (q : Int) := by omega
     have zn0 : (0 : Int) ≤ (n : Int) := by omega
     have zn1 : (n : Int) ≤ 72057594037927936 := by omega
     clear hg hl5 hq
     go_wp2_with fail
     refine (rget_any _ B _ (n : Int) (q : Int) 0 w1 (HSB1.out _ HB1.out) HG.out).mono ?_
     rintro y w5 ⟨rfl, hb5⟩
     have HB5 := Lib.hid (HB1.out.trans (hb5.mono HB1.out.size))
     have HBK5 := Lib.hid (HBK1.out.below hb5 HBK1.out.lt)
     clear hb5 k3 kc hs1 hs2 kf kk
     by_cases h512 : n ≤ 512
     ·have z512 : (n : Int) ≤ 512 := by omega
      have HRL : Hid (R = loopP B base n [] q) := HR.out.trans (body_loop HM3.out HG.out h512)
      have HN5 : Hid (n ≤ 512) := h512
      have HP0 : Hid (PQ w w5 #[.slice AI mI cI, .slice AO lo cO, .pointer none] (fun _ => False) (.slice none 0 0) (.slice none 0 0) [] []) :=
       ⟨HBK5.out, OwnL.nil_ lstK _ _ _ _, OwnL.nil_ rowK _ _ _ _, fun k hk => (by cases hk), fun k hk => hk.elim, HB5.out⟩
      clear h512
      go_wp2_with fail
      -- LOOP
      go_loopw [10, 12, 13, 14] (fun vk vD vR x wr => ∃ (i k : Nat) (F : Nat → Prop) (read : List EntM), i ≤ n ∧ x = .int .i64 (i : Int) ∧ vk = .int .i64 (k : Int) ∧ k ≤ B.length ∧ read.length = i ∧ (∀ e ∈ read, e.data.length ≤ 20000 ∧ e.depth ≤ 8) ∧ PQ w wr #[.slice AI mI cI, .slice AO lo cO, .pointer none] F vD vR (read.map fun e => e.data) read ∧ R = loopP B base (n - i) read k) (fun _ _ _ x _ => n - (intOf x).toNat)
      case atStart => exact ⟨0, q, _, [], Nat.zero_le _, rfl, rfl, HQL.out, rfl, fun e he => (by cases he), HP0.out, HRL.out⟩
      case round =>
       obtain ⟨i, k, F, read, hi, rfl, rfl, hk, hrl, hrs, hpq, hre⟩ := hrel
       have HQ := Lib.hid hpq
       have HRE := Lib.hid hre
       have HRS := Lib.hid hrs
       have HRN := Lib.hid hrl
       have HKL : Hid (k ≤ B.length) := hk
       have n0 := hpq.bk.cell 0
       have n1 := hpq.bk.cell 1
       have n2 := hpq.bk.cell 2
       obtain ⟨AD, cD, rfl, _, _⟩ := hpq.lst.slice
       obtain ⟨AR, cR, rfl, _, _⟩ := hpq.row.slice
       rw [List.length_map, hrl] at HQ ⊢
       clear hpq hre hrs
       have zk0 : (0 : Int) ≤ (k : Int) := by omega
       have zi0 : (0 : Int) ≤ (i : Int) := by omega
       by_cases hlt : i < n
       ·have z1 : (i : Int) < (n : Int) := by omega
        have hm1 : n - i = (n - (i + 1)) + 1 := by omega
        have HC := Lib.hid (HONE.out wr B (.slice T m c) (.slice AD i cD) (.slice AR i cR) read k HQ.out.below (HSB1.out _ HQ.out.below) HSM.out HQ.out.lst HQ.out.row (by have := HN5.out; omega) (fun e he => ⟨by have := (HRS.out e he).1; omega, by have := (HRS.out e he).2; omega⟩) (by have := HSM.out; omega))
        have hle := one_le B base read k
        have HRE2 : Hid (R = loopP B base ((n - (i + 1)) + 1) read k) := by unfold Hid; rw [← hm1]; exact HRE.out
        obtain ⟨P, hP⟩ : ∃ P, oneP B base read k = P := ⟨_, rfl⟩
        have HP := Lib.hid hP
        rw [hP] at HC hle
        obtain ⟨p1, D, d, k2⟩ := P
        have HLE := Lib.hid hle
        clear hP hle hm1 hrl hk
        go_wp2_with fail
        refine HC.out.mono ?_
        rintro y w2 ⟨A2, n2, c2, di, ki, rfl, hb2, hok⟩
        have HQ2 := Lib.hid (HQ.out.bel hb2)
        by_cases hp : p1 = 0
        ·subst hp
         obtain ⟨ho, hn2, rfl, rfl⟩ := hok rfl
         have HLD : Hid (D.length ≤ 20000 ∧ k2 ≤ B.length ∧ d ≤ 8) := HLE.out
         have hRN : R = loopP B base (n - (i + 1)) (read ++ [⟨D, k, d⟩]) k2 := by rw [HRE2.out, loop_on (by rw [HP.out]), HP.out]
         have HRN2 := Lib.hid hRN
         have ho' : Own w2 wr.heap.size (.slice A2 n2 c2) D := ho
         have HCP := Lib.hid (PQ.copied HQ.out ho' hb2)
         have HQA := Lib.hid (HQ2.out.alloc (.cells #[.slice A2 n2 c2] 32))
         have HCA := Lib.hid (HCP.out.alloc (.cells #[.slice A2 n2 c2] 32))
         have HTM : Hid (TmpL lstK (fun q => F q ∨ (Value.slice A2 n2 c2).ownBlock = some q) (w2.alloc (.cells #[.slice A2 n2 c2] 32)) (.slice (some ⟨w2.heap.size, 0, none⟩) 1 1) [D]) := TmpL.one (K := lstK) (a := D) (d := .slice A2 n2 c2) (Blk.new _ 32 #[.slice A2 n2 c2]) rfl (own_by HCA.out.own (fun q hq => .inr hq))
         have HBY : Hid (By (fun q => (Value.slice A2 n2 c2).ownBlock = some q) (w2.alloc (.cells #[.slice A2 n2 c2] 32)) (.slice A2 n2 c2) D) := own_by HCA.out.own (fun q hq => hq)
         have s1 : Hid ((read.map fun e => e.data).length + [D].length ≤ 2000000) := by unfold Hid; rw [List.length_map, HRN.out]; have := HN5.out; simp; omega
         have s2 : Hid (read.length + [(⟨D, k, d⟩ : EntM)].length ≤ 2000000) := by unfold Hid; rw [HRN.out]; have := HN5.out; simp; omega
         have zk2 : (0 : Int) ≤ (k2 : Int) := by omega
         clear hok hb2 ho ho' hn2 hRN
         go_wp2_with (at_builtin; refine list_appendL typed_lst (v := .slice AD i cD) (ex := .slice (some ⟨w2.heap.size, 0, none⟩) 1 1) (l2 := [D]) rfl (.tmp 71) (.tmp 73) rfl (by exact HCA.out.row HQA.out) (by exact HTM.out) (by rfl) (by rfl) s1.out (by exact HQA.out.size) (by exact HCA.out.lt HQA.out) ?_; intro v5 w5 ho5 hg5 hk5; have HQ5 := Lib.hid (PQ.appD HQA.out (HCA.out.news HQA.out) ho5 hg5 hk5); have HS5 : Hid (Sl w5 (.slice A2 n2 c2) D) := by_sl (HBY.out.only ((Only.refl (fun q => (Value.slice AD i cD).ownBlock = some q) _).grown hg5 (fun q hq => .inl hq)) (fun q hq e => (HCA.out.ap q hq).1 e)); clear ho5 hg5 hk5)
         refine (rid_any _ D w5 HS5.out (by have := HLD.out.1; omega)).mono ?_
         rintro y w6 ⟨rfl, hb6⟩
         have HQ6 := Lib.hid ((HQ5.out.bel hb6).alloc (.cells #[.string (str (hexL (sumOf D))), .int .i64 (k : Int), .int .i64 (d : Int)] 65))
         have HTR : Hid (TmpL rowK (fun _ => False) (w6.alloc (.cells #[.string (str (hexL (sumOf D))), .int .i64 (k : Int), .int .i64 (d : Int)] 65)) (.slice (some ⟨w6.heap.size, 0, none⟩) 1 1) [(⟨D, k, d⟩ : EntM)]) := TmpL.one (K := rowK) (a := (⟨D, k, d⟩ : EntM)) (d := .slice none 0 0) (Blk.new w6 65 #[.string (str (hexL (sumOf D))), .int .i64 (k : Int), .int .i64 (d : Int)]) rfl (Rd.nil_ _ _ 1)
         clear hb6
         go_wp2_with (at_builtin; refine list_appendL typed_rrow (v := .slice AR i cR) (ex := .slice (some ⟨w6.heap.size, 0, none⟩) 1 1) (l2 := [(⟨D, k, d⟩ : EntM)]) rfl (.tmp 75) (.tmp 81) rfl (by exact HQ6.out.ownR) (by exact HTR.out) (by rfl) (by rfl) s2.out (by exact HQ6.out.size) (by intro q hq; exact hq.elim) ?_; intro v8 w8 ho8 hg8 hk8; have HQ8 := Lib.hid (PQ.appR HQ6.out ho8 hg8 hk8); clear ho8 hg8 hk8)
         go_roundw
         case rel => exact ⟨i + 1, k2, _, read ++ [⟨D, k, d⟩], by omega, by go_num, rfl, HLD.out.2.1, by rw [List.length_append, HRN.out]; rfl, fun e he => by
          rcases List.mem_append.1 he with he | he
          ·exact HRS.out e he
          ·rw [List.mem_singleton] at he
           subst he
           exact ⟨HLD.out.1, HLD.out.2.2⟩, by rw [List.map_append]; exact HQ8.out, HRN2.out⟩
         case measure => simp [intOf]; omega
        ·have z : (p1 != 0) = true := by rw [bne_iff_ne]; exact hp
         have HNE := Lib.hid hp
         have hre : R = (p1, read) := by rw [HRE2.out, loop_err (by rw [HP.out]; exact hp), HP.out]
         subst hre
         clear hok hb2 hp
         go_wp2_with fail
         go_returns
         exact RParsePost.none_ HQ2.out.below HNE.out (by show (i : Int) = (read.length : Int); rw [HRN.out]) rfl
       ·obtain rfl : i = n := by omega
        have hr2 : R = if k < B.length then (3, read) else (0, read) := by
         have := HRE.out
         rw [Nat.sub_self] at this
         exact this
        by_cases hkb : k < B.length
        ·have zk : (k : Int) < (m : Int) := by have := HLB.out; omega
         rw [if_pos hkb] at hr2
         subst hr2
         clear hkb hlt hrl hk
         go_wp2_with fail
         go_returns
         exact RParsePost.none_ HQ.out.below (by show (3 : Int) ≠ 0; decide) (by show (i : Int) = (read.length : Int); rw [HRN.out]) rfl
        ·have zk : (m : Int) ≤ (k : Int) := by have := HLB.out; omega
         rw [if_neg hkb] at hr2
         subst hr2
         clear hkb hlt hrl hk
         go_wp2_with fail
         go_returns
         exact ⟨AD, AR, i, cD, i, cR, by rw [HRN.out], HQ.out.below, by rw [if_pos rfl]; exact HQ.out.lst, by rw [if_pos rfl]; exact HQ.out.row⟩
     ·have z512 : (512 : Int) < (n : Int) := by omega
      have hre : R = (14, []) := HR.out.trans (body_limit HM3.out HG.out (by omega))
      subst hre
      go_wp2_with fail
      go_returns
      exact RParsePost.none_ HB5.out (by show (14 : Int) ≠ 0; decide) rfl rfl
   ·have hne : ((str X3).toList == [77, 80, 49]) = false := by rw [str_toList, beq_eq_false_iff_ne]; exact h3
    have hne2 : ((str X3).toList != [77, 80, 49]) = true := by rw [bne, hne]; rfl
    have hre : R = (4, []) := HR.out.trans (body_form (by rw [HX3.out]; exact h3))
    subst hre
    clear h3 hq3
    go_wp2_with fail
    go_returns
    exact RParsePost.none_ HB1.out (by show (4 : Int) ≠ 0; decide) rfl rfl
end Go.Proofs.YtpfjlhpahmhkhaaGreat.Ob
