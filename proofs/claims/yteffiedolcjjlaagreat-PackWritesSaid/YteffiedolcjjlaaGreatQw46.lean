/- Texts put together: YPkY. -/
import Derived.Test.YteffiedolcjjlaaGreatQw45
/- The document's own Write, walked. -/
set_option linter.unusedVariables false
set_option linter.unusedSimpArgs false
namespace Go.Proofs.YteffiedolcjjlaaGreat.Ob
open Go.RowKit Go.Proofs.YteffiedolcjjlaaGreat.Sh
open Go.Proofs.YteffiedolcjjlaaGreat.Tx (Shape InL TmpL OwnL Typed Only By Rd Datas list_appendL step_appendL step_enter)

theorem RW.drew_ {w wr : World} {vo vd : Value} {out : List UInt8} {ds : List Nat} (h : RW w wr vo out vd ds) : RW w wr.drew vo out vd ds := h.then_ (Below.refl _ _).drew
theorem sapp_sep {ops : Array Oper} {o : Oper} {a : Act} {Kk : Act → World → Prop} {Q : Exit → Act → World → Prop} {E : Prop} (d : Nat) (hd : o.dst = some d) (hgd : o.guard = none) (s x : Operand)
    (ho : o.op = .call { callee := .builtin .append, args := #[s, x], argTypes := #[51, 51] }) {w0 w : World} {v : Value} {out : List UInt8} {vd : Value} {ds : List Nat} (h : RW w0 w v out vd ds) (hs : a.eval s = v)
    {A : Option Addr} {m c : Nat} {news : List UInt8} (hr : Sep v w (.slice A m c) news) (hx : a.eval x = .slice A m c) (hsmall : out.length + m ≤ 140737488355328)
    (hK : ∀ v' w', RW w0 w' v' (out ++ news) vd ds → (∀ vn bs, Sep v w vn bs → Sep v' w' vn bs) → Kk (a.put (some d) v') w') : if Region.wanted o (yielded ops a.tmps) = true then Oper.wp Tryz.prog o a w Kk Q else E :=
  step_sep hgd s x ho h hs hr hx hsmall (fun v' w' h1 h2 => by rw [hd]; exact hK v' w' h1 h2)
set_option maxRecDepth 100000 in
theorem app_mark {ops : Array Oper} {rest : List Oper} {o : Oper} {a : Act} {Q : Exit → Act → World → Prop} (hgd : o.guard = none) (s x : Operand)
    (ho : o.op = .call { callee := .builtin .append, args := #[s, x], argTypes := #[51, 51] }) (w : World) (g : Nat) (hs : a.eval s = .slice (some ⟨g, 0, none⟩) 3 3) (hm : Sl w (.slice (some ⟨g, 0, none⟩) 3 3) markL)
    (B' : Nat) (A : Option Addr) (m c : Nat) (news : List UInt8) (hx : a.eval x = .slice A m c) (hr : Reads w B' 1 A m (news.map bv)) (hp : 0 < m) (hsm : m ≤ 1000)
    (h : ∀ v' w', Own w' w.heap.size v' (markL ++ news) → Below w.heap.size w w' → wpList Tryz.prog ops Q rest (a.put o.dst v') w') : wpList Tryz.prog ops Q (o :: rest) a w := by
  obtain ⟨_, _, e0, _, _, hI0, _⟩ := hm
  injection e0 with e1 _ _
  subst e1
  have HM := hI0.reads
  have hl : news.length = m := by have := hr.1; simpa using this
  obtain ⟨ad, rfl, _, hca⟩ := hr.2 hp
  obtain ⟨ad0, e3, _, hcm⟩ := HM.2 (by decide)
  injection e3 with e3
  subst e3
  obtain ⟨i0, hi, hz0, hz1, hz2⟩ := info_parts info5
  refine wpList_append_grows w hgd s x 51 ho 5 i0 (.int .u8 0) 1 1 Tryz.underlying51 hi hz0 hz1 hz2 rfl (by decide) (some ⟨g, 0, none⟩) 3 3 (markL.map bv) hs (fun e => by cases e) rfl (fun b hb j u hu => by injection hb with hb; subst hb; exact hcm j u hu) ad m c (news.map bv) hx (by rw [List.length_map, hl, Nat.mul_one]) (fun j u hu => hca j u hu) (bv_one _) (by omega) (by unfold maxLen; omega) (by omega) ?_
  intro v' w' h1 h2
  refine h v' w' ?_ ((Below.refl w.heap.size w).grown h2 (Nat.le_refl _) (fun k hk => by cases hk))
  unfold Own
  rw [List.length_append, hl, List.map_append]
  exact h1
set_option maxRecDepth 100000 in
set_option maxHeartbeats 12800000 in
theorem rwrite_any (v : Value) (l : List (List UInt8)) (w : World) (h : LsV w v l) (hl : l.length ≤ 1000000) : Calls Tryz.prog 23 #[v] w (WritePost l w) := by
  have HL := Lib.hid h
  obtain ⟨A, c, rfl, hlc, hcm⟩ := h.slice
  unfold maxLen at hcm
  obtain ⟨n, hn⟩ : ∃ n, l.length = n := ⟨_, rfl⟩
  rw [hn] at HL hlc hl ⊢
  have HN := Lib.hid hn
  obtain ⟨P, hP⟩ : ∃ P, writeP l = P := ⟨_, rfl⟩
  have HP := Lib.hid hP
  have hpost : WritePost l w = fun e w' => ∃ A m c, e = .returned (.tuple #[.slice A m c, .int .i64 P.1]) ∧ Below w.heap.size w w' ∧ Own w' w.heap.size (.slice A m c) P.2 := by
    unfold WritePost
    rw [hP]
  rw [hpost]
  clear h hn hP hpost
  by_cases h5 : n ≤ 512
  · have z : (n : Int) ≤ 512 := by omega
    go_enter Tryz.func23, Tryz.ntmps23
    go_wp2_with fail
    go_loopw [4] (fun x wr => ∃ i : Nat, i ≤ n ∧ x = .int .i64 (i : Int) ∧ w = wr ∧ ∀ (j : Nat) (o : List UInt8), j < i → l[j]? = some o → o.length ≤ 20000) (fun x _ => n - (intOf x).toNat)
    case atStart => exact ⟨0, Nat.zero_le _, rfl, rfl, fun j o hj => by omega⟩
    case round =>
      obtain ⟨i, hi, rfl, rfl, hall⟩ := hrel
      have HALL := Lib.hid hall
      clear hall
      have z0 : (0 : Int) ≤ (i : Int) := by omega
      by_cases hlt : i < n
      · have z1 : (i : Int) < (n : Int) := by omega
        have hgi : l[i]? = some (l[i]'(by have := HN.out; omega)) := List.getElem?_eq_getElem _
        obtain ⟨o, ho⟩ : ∃ o, (l[i]'(by have := HN.out; omega)) = o := ⟨_, rfl⟩
        rw [ho] at hgi
        obtain ⟨ad, A2, c2, rfl, y0, _, _, hs⟩ := HL.out.at_ i o hgi
        have HGI := Lib.hid hgi
        obtain ⟨ol, hol⟩ : ∃ m, o.length = m := ⟨_, rfl⟩
        rw [hol] at y0
        have HOL := Lib.hid hol
        clear hgi ho hs hol
        by_cases h20 : ol ≤ 20000
        · have z2 : (ol : Int) ≤ 20000 := by omega
          go_wp2_with fail
          go_roundw
          case rel => exact ⟨i + 1, by omega, by go_num, by first | rfl | trivial, fun j o' hj ho' => by
            by_cases e : j = i
            · subst e
              have : o' = o := by have := HGI.out; rw [this] at ho'; injection ho' with ho'; exact ho'.symm
              rw [this, HOL.out]; exact h20
            · exact HALL.out j o' (by omega) ho'⟩
          case measure => simp [intOf]; omega
        · have z2 : (20000 : Int) < (ol : Int) := by omega
          have hre : P = (3, []) := by
            rw [← HP.out, write_long (by have := HN.out; omega) ⟨o, List.mem_of_getElem? HGI.out, by rw [HOL.out]; omega⟩]
          subst hre
          go_wp2_with fail
          go_ret2
          exact ⟨none, 0, 0, rfl, Below.refl _ _, Own.nil_ _ _⟩
      · obtain rfl : i = n := by omega
        have hle : ∀ o ∈ l, o.length ≤ 20000 := fun o ho => by
          obtain ⟨j, hj, e⟩ := List.getElem_of_mem ho
          exact HALL.out j o (by rw [← HN.out]; exact hj) (by rw [List.getElem?_eq_getElem hj, e])
        have HLE := Lib.hid hle
        clear hle hlt
        go_wp2_with fail
        go_loopw [5] (fun x wq => ∃ j : Nat, j ≤ i ∧ x = .int .i64 (j : Int) ∧ Below w.heap.size w wq ∧ ∀ (m : Nat) (o : List UInt8), m < j → l[m]? = some o → decB o = true) (fun x _ => i - (intOf x).toNat)
        case atStart => exact ⟨0, Nat.zero_le _, rfl, Below.refl _ _, fun j o hj => by omega⟩
        case round =>
          obtain ⟨j, hj, rfl, hb, hall⟩ := hrel
          have HBJ := Lib.hid hb
          have HAJ := Lib.hid hall
          clear hb hall
          have z0 : (0 : Int) ≤ (j : Int) := by omega
          by_cases hlt : j < i
          · have z1 : (j : Int) < (i : Int) := by omega
            have hgi : l[j]? = some (l[j]'(by have := HN.out; omega)) := List.getElem?_eq_getElem _
            obtain ⟨o, ho⟩ : ∃ o, (l[j]'(by have := HN.out; omega)) = o := ⟨_, rfl⟩
            rw [ho] at hgi
            obtain ⟨ad, A2, c2, rfl, y0, _, _, hs⟩ := (HL.out.below HBJ.out).at_ j o hgi
            have HGI := Lib.hid hgi
            have HS := Lib.hid hs
            have HOM : Hid (o ∈ l) := List.mem_of_getElem? hgi
            clear hgi ho hs
            go_wp2_with fail
            refine (rdec_is _ o _ HS.out (by have := HLE.out o HOM.out; omega)).mono ?_
            rintro y w3 ⟨k, a1, a2, a3, n1, d1, n2, d2, n3, d3, s1, s2, s3, t1, t2, rfl, hk, hb3⟩
            have HB3 := Lib.hid (HBJ.out.trans (hb3.mono HBJ.out.size))
            have HBK : Hid (∀ o, Below w.heap.size w (w3.alloc o)) := fun o => HB3.out.alloc HB3.out.size o
            clear hb3 y0
            by_cases hk0 : k = 0
            · subst hk0
              have HT : Hid (decB o = true) := hk.symm
              clear hk
              go_wp2_with fail
              go_roundw
              case rel => exact ⟨j + 1, by omega, by go_num, HBK.out _, fun m o' hm ho' => by
                by_cases e : m = j
                · subst e
                  have : o' = o := by have := HGI.out; rw [this] at ho'; injection ho' with ho'; exact ho'.symm
                  rw [this]; exact HT.out
                · exact HAJ.out m o' (by omega) ho'⟩
              case measure => simp [intOf]; omega
            · have hdf : decB o = false := by rw [← hk, beq_eq_false_iff_ne]; exact hk0
              have zk : (k != 0) = true := by rw [bne_iff_ne]; exact hk0
              have hre : P = (4, []) := by
                rw [← HP.out, write_form (by have := HN.out; omega) HLE.out ⟨o, HOM.out, hdf⟩]
              subst hre
              clear hk hk0 hdf
              go_wp2_with fail
              go_ret2
              exact ⟨none, 0, 0, rfl, HBK.out _, Own.nil_ _ _⟩
          · obtain rfl : j = i := by omega
            have hde : ∀ o ∈ l, decB o = true := fun o ho => by
              obtain ⟨m, hm, e⟩ := List.getElem_of_mem ho
              exact HAJ.out m o (by rw [← HN.out]; exact hm) (by rw [List.getElem?_eq_getElem hm, e])
            have hre : P = (0, (writesP l j).1 ++ sumOf (writesP l j).1) := by
              have := write_ok (by have := HN.out; omega) HLE.out hde
              rw [HN.out] at this
              rw [← HP.out, this]
            subst hre
            have HDE := Lib.hid hde
            have HBIG := Lib.hid (writes_big l HLE.out (by have := HN.out; omega))
            have kb : (convert 51 51 (.slice (some ⟨wr.heap.size, 0, none⟩) 3 3)).run Tryz.prog (wr.alloc (.cells #[.int .u8 77, .int .u8 80, .int .u8 49] 5)) = .ok (.slice (some ⟨wr.heap.size, 0, none⟩) 3 3) (mkW wr) := Lib.run_convert_bytes_const (P := Tryz.prog) wr 51 5 #[.int .u8 77, .int .u8 80, .int .u8 49] 3 3 Tryz.underlying51 Tryz.underlying5
            have HMK := Lib.hid (mk_sl wr)
            have HMB := Lib.hid (HBJ.out.trans ((mk_below wr).mono HBJ.out.size))
            clear hde hlt
            go_wp2_with fail
            refine (Sh.rnum_any j (mkW wr) (by omega)).mono ?_
            rintro y w2 ⟨v2, rfl, ho2, hb2⟩
            obtain ⟨A2, c2, rfl, _, _⟩ := ho2.length
            have HR2 : Hid (Reads w2 w2.heap.size 1 A2 (putL j).length ((putL j).map bv)) := by
              obtain ⟨A', c', e, _, _, hI, _⟩ := ho2.sl
              injection e with e1 _ _
              subst e1
              exact hI.reads
            have HM2 := Lib.hid (HMK.out.below hb2)
            have HB2 := Lib.hid (HMB.out.trans (hb2.mono HMB.out.size))
            have hpp := putL_pos j
            have hp9 := putL_len9 (show j ≤ 72057594037927936 from by omega)
            obtain ⟨pl, hpl⟩ : ∃ x, (putL j).length = x := ⟨_, rfl⟩
            rw [hpl] at HR2 hpp hp9 ⊢
            have hsm9 : pl ≤ 1000 := by omega
            clear ho2 hb2 kb hpl hp9
            go_wp2_with (at_builtin; refine app_mark rfl (.tmp 45) (.tmp 48) rfl w2 wr.heap.size rfl HM2.out _ A2 pl c2 (putL j) rfl HR2.out hpp hsm9 ?_; intro v3 w3 ho3 hb3; have HO3 := Lib.hid ho3; have HB3 := Lib.hid hb3; obtain ⟨A3, m3, c3, hv3⟩ := own_slice ho3; subst hv3; clear ho3 hb3)
            have HRW0 : Hid (RW w w3 (.slice A3 m3 c3) (writesP l 0).1 (.slice none 0 0) (writesP l 0).2) := by
              refine ⟨?_, Sh.OwnV.nil_ _ _, HB2.out.trans (HB3.out.mono HB2.out.size)⟩
              show Own w3 w.heap.size _ (markL ++ putL l.length)
              rw [HN.out]
              exact Own.based HO3.out HB2.out.size
            clear hpp hsm9
            go_wp2_with fail
            go_loopw [8, 9, 10] (fun vo vd x wq => ∃ i : Nat, i ≤ j ∧ x = .int .i64 (i : Int) ∧ RW w wq vo (writesP l i).1 vd (writesP l i).2) (fun _ _ x _ => j - (intOf x).toNat)
            case atStart => exact ⟨0, Nat.zero_le _, rfl, HRW0.out⟩
            case round =>
              obtain ⟨i, hi, rfl, hrw⟩ := hrel
              have HRW := Lib.hid hrw
              obtain ⟨Ao, mo, co, hvo⟩ := own_slice hrw.out_
              obtain ⟨Ad, cd, hvd, hdl1, hdl2⟩ := hrw.dep.length
              have hdn : (dsV (writesP l i).2).length = i := by unfold dsV; rw [List.length_map, writes_depths]
              rw [hdn] at hvd
              subst hvo hvd
              unfold maxLen at hdl2
              clear hrw hdl1
              have z0 : (0 : Int) ≤ (i : Int) := by omega
              by_cases hlt : i < j
              · have z1 : (i : Int) < (j : Int) := by omega
                have hlast := lst_last (show LsV w (.slice A j c) l from HL.out) i (by rw [HN.out]; exact hlt)
                obtain ⟨al, A7, c7, rfl, x0, hby⟩ := hlast
                have HCL : Hid (∀ W, Below w.heap.size w W → W.cell? (al.add i) = some (.slice A7 (l.getD i []).length c7)) := fun W hW => (hW.cell (World.block_lt_of_cell? w _ x0)).trans x0
                have HSO : Hid (∀ W, Below w.heap.size w W → Sl W (.slice A7 (l.getD i []).length c7) (l.getD i [])) := fun W hW => (by_sl hby).below hW
                have hom : l.getD i [] ∈ l := by rw [List.getD_eq_getElem?_getD, List.getElem?_eq_getElem (by rw [HN.out]; exact hlt)]; exact List.getElem_mem _
                have HOL : Hid ((l.getD i []).length ≤ 20000) := HLE.out _ hom
                have hne := decB_ne (HDE.out _ hom)
                have HPN := Lib.hid (fun (hn : nearP l (writesP l i).2 (l.getD i []) i = none) => put_none (l := l) (ds := (writesP l i).2) (i := i) hn)
                have HPA := Lib.hid (fun (k : Nat) (hn : nearP l (writesP l i).2 (l.getD i []) i = some k) => put_ahead (l := l) (ds := (writesP l i).2) (i := i) (k := k) hn)
                have HPW := Lib.hid (fun (k : Nat) (hn : nearP l (writesP l i).2 (l.getD i []) i = some k) => put_whole (l := l) (ds := (writesP l i).2) (i := i) (k := k) hn)
                have HNX : Hid ((writesP l (i + 1)).1 = (writesP l i).1 ++ (putP l (writesP l i).2 i).1 ∧ (writesP l (i + 1)).2 = (writesP l i).2 ++ [(putP l (writesP l i).2 i).2]) := ⟨rfl, rfl⟩
                have hbig := HBIG.out i (by rw [HN.out]; exact hi)
                have HBG : Hid ((writesP l i).1.length ≤ 100000000) := by unfold Hid; omega
                have hdsl := writes_depths l i
                obtain ⟨ds, hds⟩ : ∃ ds, (writesP l i).2 = ds := ⟨_, rfl⟩
                obtain ⟨o, ho⟩ : ∃ o, l.getD i [] = o := ⟨_, rfl⟩
                obtain ⟨out, hout⟩ : ∃ x, (writesP l i).1 = x := ⟨_, rfl⟩
                rw [hds] at HRW HPN HPA HPW HNX hdsl hdn
                rw [ho] at HCL HSO HOL hne HPN HPA HPW
                rw [hout] at HRW HNX HBG
                have HDL := Lib.hid hdsl
                have HON := Lib.hid hne
                have HOO := Lib.hid ho
                obtain ⟨ol, hol⟩ : ∃ x, o.length = x := ⟨_, rfl⟩
                rw [hol] at HCL HSO HOL
                have HOLN := Lib.hid hol
                have hhd := at_head (HSO.out w (Below.refl _ _)) hne
                obtain ⟨ad2, rfl, hol0, hch⟩ := hhd
                have HCH : Hid (∀ W, Below w.heap.size w W → W.cell? ad2 = some (.int .u8 (bi (o.getD 0 0)))) := fun W hW => (hW.cell (World.block_lt_of_cell? w _ hch)).trans hch
                have HDR := Lib.hid HRW.out.dep.slv
                have HLT := Lib.hid hlt
                clear x0 hby hom hne hbig hdsl hds ho hout hol hch hdn hlt
                have hol9 : ol ≤ 72057594037927936 := by have := HOL.out; omega
                have hpl9 := putL_len9 hol9
                obtain ⟨pl, hpl⟩ : ∃ x, (putL ol).length = x := ⟨_, rfl⟩
                rw [hpl] at hpl9
                have HOB := HBG.out
                have HS1 : Hid (out.length + 1 ≤ 140737488355328) := by unfold Hid; omega
                have HS2 : Hid ((out ++ [0]).length + (putL ol).length ≤ 140737488355328) := by unfold Hid; rw [List.length_append, List.length_singleton, hpl]; omega
                have HS3 : Hid (((out ++ [0]) ++ putL ol).length + ol ≤ 140737488355328) := by unfold Hid; rw [List.length_append, List.length_append, List.length_singleton, hpl]; have := HOL.out; omega
                have HPL := Lib.hid hpl
                have HOLL := Lib.hid hol9
                clear HOB hpl9 hpl hol9
                have HDL6 : Hid (ds.length ≤ 1000000) := by unfold Hid; have := HDL.out; omega
                obtain ⟨wo, hwo⟩ : ∃ W, W = wr := ⟨_, rfl⟩
                subst hwo
                go_wp2_with fail
                go_loopw [11] (fun x w5 => ∃ k : Nat, k ≤ i ∧ x = .int .i64 ((k : Int) - 1) ∧ Below wo.heap.size wo w5 ∧ nearP l ds o i = nearP l ds o k) (fun x _ => (intOf x + 1).toNat)
                case atStart => exact ⟨i, Nat.le_refl _, by go_num, Below.refl _ _, rfl⟩
                case round =>
                  obtain ⟨k, hk, rfl, hb5, hnr⟩ := hrel
                  have HRK := Lib.hid (HRW.out.then_ hb5)
                  have HB5 := Lib.hid hb5
                  have HNR := Lib.hid hnr
                  clear hb5 hnr
                  cases k with
                  | zero =>
                    have HNO := Lib.hid (HPN.out (by rw [HNR.out]; rfl))
                    have hm1 : ((0 : Nat) : Int) - 1 = -1 := rfl
                    rw [hm1]
                    go_upto_region 20 with (fail)
                    go_quiet (fail)
                    go_wp2_with fail
                    obtain ⟨W9, hW9⟩ : ∃ W, W = wr.drewN nq := ⟨_, rfl⟩
                    have HR9 : Hid (RW w W9 (.slice Ao mo co) out (.slice Ad i cd) ds) := by rw [hW9]; exact HRK.out.then_ (below_drewN (Below.refl _ _) _)
                    rw [← hW9]
                    clear hW9
                    have x9 : W9.cell? (al.add i) = some (.slice (some ad2) ol c7) := HCL.out _ HR9.out.below
                    have y9 : (0 : Int) ≤ (i : Int) := by omega
                    have y10 : (i : Int) < (j : Int) := by have := HLT.out; omega
                    have HE : Hid (putP l ds i = (wholeE o, 0)) := HNO.out
                    -- LAID none
                    have HR := Lib.hid HR9.out.drew_
                    refine wp_region_held_drew (S := (fun W => W.cell? (al.add i) = some (.slice (some ad2) ol c7))) (by kernel_rfl) ?_ (fun hHeld => ?_)
                    · try dsimp only
                      exact HCL.out _ HR.out.below
                    refine take_at (i := 0) (d := 125) (v := ?_) rfl (by kernel_rfl) (by kernel_rfl) (by kernel_rfl) (by kernel_rfl) (fun _ _ _ h => h) (Or.inl ⟨by kernel_rfl, ?_⟩) (by assumption) ?_
                    rotate_left
                    · intro W hSw
                      try dsimp only at hSw
                      go_simp
                      first | done | with_reducible rfl
                    try simp only [Act.put, List.setIfInBounds_toArray, List.set_cons_zero, List.set_cons_succ]
                    refine take_at (i := 3) (d := 128) (v := ?_) rfl (by kernel_rfl) (by kernel_rfl) (by kernel_rfl) (by kernel_rfl) (fun _ _ _ h => h) (Or.inl ⟨by kernel_rfl, ?_⟩) (by assumption) ?_
                    rotate_left
                    · intro W hSw
                      try dsimp only at hSw
                      go_simp
                      first | done | with_reducible rfl
                    try simp only [Act.put, List.setIfInBounds_toArray, List.set_cons_zero, List.set_cons_succ]
                    refine take_at (i := 4) (d := 129) (v := ?_) rfl (by kernel_rfl) (by kernel_rfl) (by kernel_rfl) (by kernel_rfl) (fun _ _ _ h => h) (Or.inl ⟨by kernel_rfl, ?_⟩) (by assumption) ?_
                    rotate_left
                    · intro W hSw
                      try dsimp only at hSw
                      go_simp
                      first | done | with_reducible rfl
                    try simp only [Act.put, List.setIfInBounds_toArray, List.set_cons_zero, List.set_cons_succ]
                    refine take_at (i := 5) (d := 130) (v := ?_) rfl (by kernel_rfl) (by kernel_rfl) (by kernel_rfl) (by kernel_rfl) (fun _ _ _ h => h) (Or.inl ⟨by kernel_rfl, ?_⟩) (by assumption) ?_
                    rotate_left
                    · intro W hSw
                      try dsimp only at hSw
                      go_simp
                      first | done | with_reducible rfl
                    try simp only [Act.put, List.setIfInBounds_toArray, List.set_cons_zero, List.set_cons_succ]
                    refine take_at (i := 6) (d := 131) (v := ?_) rfl (by kernel_rfl) (by kernel_rfl) (by kernel_rfl) (by kernel_rfl) (fun _ _ _ h => h) (Or.inl ⟨by kernel_rfl, ?_⟩) (by assumption) ?_
                    rotate_left
                    · intro W hSw
                      try dsimp only at hSw
                      go_simp
                      first | done | with_reducible rfl
                    try simp only [Act.put, List.setIfInBounds_toArray, List.set_cons_zero, List.set_cons_succ]
                    refine take_at (i := 7) (d := 132) (v := ?_) rfl (by kernel_rfl) (by kernel_rfl) (by kernel_rfl) (by kernel_rfl) (fun _ _ _ h => h) (Or.inl ⟨by kernel_rfl, ?_⟩) (by assumption) ?_
                    rotate_left
                    · intro W hSw
                      try dsimp only at hSw
                      go_simp
                      first | done | with_reducible rfl
                    try simp only [Act.put, List.setIfInBounds_toArray, List.set_cons_zero, List.set_cons_succ]
                    refine take_at (i := 10) (d := 135) (v := ?_) rfl (by kernel_rfl) (by kernel_rfl) (by kernel_rfl) (by kernel_rfl) (fun _ _ _ h => h) (Or.inl ⟨by kernel_rfl, ?_⟩) (by assumption) ?_
                    rotate_left
                    · intro W hSw
                      try dsimp only at hSw
                      go_simp
                      first | done | with_reducible rfl
                    try simp only [Act.put, List.setIfInBounds_toArray, List.set_cons_zero, List.set_cons_succ]
                    refine take_at (i := 11) (d := 136) (v := ?_) rfl (by kernel_rfl) (by kernel_rfl) (by kernel_rfl) (by kernel_rfl) (fun _ _ _ h => h) (Or.inl ⟨by kernel_rfl, ?_⟩) (by assumption) ?_
                    rotate_left
                    · intro W hSw
                      try dsimp only at hSw
                      go_simp
                      first | done | with_reducible rfl
                    try simp only [Act.put, List.setIfInBounds_toArray, List.set_cons_zero, List.set_cons_succ]
                    refine take_at (i := 12) (d := 137) (v := ?_) rfl (by kernel_rfl) (by kernel_rfl) (by kernel_rfl) (by kernel_rfl) (fun _ _ _ h => h) (Or.inl ⟨by kernel_rfl, ?_⟩) (by assumption) ?_
                    rotate_left
                    · intro W hSw
                      try dsimp only at hSw
                      go_simp
                      first | done | with_reducible rfl
                    try simp only [Act.put, List.setIfInBounds_toArray, List.set_cons_zero, List.set_cons_succ]
                    refine take_at (i := 13) (d := 138) (v := ?_) rfl (by kernel_rfl) (by kernel_rfl) (by kernel_rfl) (by kernel_rfl) (fun _ _ _ h => h) (Or.inl ⟨by kernel_rfl, ?_⟩) (by assumption) ?_
                    rotate_left
                    · intro W hSw
                      try dsimp only at hSw
                      go_simp
                      first | done | with_reducible rfl
                    try simp only [Act.put, List.setIfInBounds_toArray, List.set_cons_zero, List.set_cons_succ]
                    refine wpAnyH_ready (rs := [1]) (by kernel_rfl) (by simp) (AllReadyH.cons rfl (fun K hK => ?_) AllReadyH.nil)
                    go_simp
                    have HR1 : Hid (Sep (.slice Ao mo co) ((W9.alloc (.cells #[.int .u8 0] 5)).drew) (.slice (some ⟨W9.heap.size, 0, none⟩) 1 1) [0]) := (by have h9 := HR9.out.sep_one 0; rw [show bi (0 : UInt8) = 0 from by unfold bi; decide] at h9; exact h9.below (Below.refl _ _).drew)
                    replace HR := Lib.hid ((HR9.out.alloc (.cells #[.int .u8 0] 5)).drew_)
                    try go_wp2_with fail
                    refine hK.out _ _ ?_ (fun hHeld => ?_)
                    · try dsimp only
                      exact HCL.out _ HR.out.below
                    clear hK K
                    try simp only [Act.put, List.setIfInBounds_toArray, List.set_cons_zero, List.set_cons_succ]
                    refine wpAnyH_ready (rs := [2]) (by kernel_rfl) (by simp) (AllReadyH.cons rfl (fun K hK => ?_) AllReadyH.nil)
                    refine sapp_sep 127 rfl rfl (.tmp 125) (.tmp 126) rfl (h := HR.out) (by rfl) (hr := HR1.out) (by rfl) (by exact HS1.out) ?_
                    intro v4 w4 hr4 ht4
                    replace HR := Lib.hid hr4
                    obtain ⟨A4, m4, c4, hv4⟩ := own_slice hr4.out_
                    subst hv4
                    clear hr4 ht4
                    try go_wp2_with fail
                    refine hK.out _ _ ?_ (fun hHeld => ?_)
                    · try dsimp only
                      exact HCL.out _ HR.out.below
                    clear hK K
                    try simp only [Act.put, List.setIfInBounds_toArray, List.set_cons_zero, List.set_cons_succ]
                    refine wpAnyH_ready (rs := [8]) (by kernel_rfl) (by simp) (AllReadyH.cons rfl (fun K hK => ?_) AllReadyH.nil)
                    go_simp
                    refine (Sh.rnum_any ol _ HOLL.out).mono ?_
                    rintro e w5 ⟨v5, rfl, ho5, hb5⟩
                    obtain ⟨A5, c5, rfl, _, _⟩ := ho5.length
                    have HNUM := Lib.hid (HR.out.sep_new (B := 0) hb5 ho5)
                    replace HR := Lib.hid (HR.out.then_ hb5)
                    rw [HPL.out] at HNUM ⊢
                    clear ho5 hb5
                    try go_wp2_with fail
                    refine hK.out _ _ ?_ (fun hHeld => ?_)
                    · try dsimp only
                      exact HCL.out _ HR.out.below
                    clear hK K
                    try simp only [Act.put, List.setIfInBounds_toArray, List.set_cons_zero, List.set_cons_succ]
                    refine wpAnyH_ready (rs := [9]) (by kernel_rfl) (by simp) (AllReadyH.cons rfl (fun K hK => ?_) AllReadyH.nil)
                    refine sapp_sep 134 rfl rfl (.tmp 127) (.tmp 133) rfl (h := HR.out) (by rfl) (hr := HNUM.out) (by rfl) (by have h9 := HS2.out; rw [HPL.out] at h9; exact h9) ?_
                    intro v6 w6 hr6 ht6
                    replace HR := Lib.hid hr6
                    obtain ⟨A6, m6, c6, hv6⟩ := own_slice hr6.out_
                    subst hv6
                    clear hr6 ht6
                    try go_wp2_with fail
                    refine hK.out _ _ ?_ (fun hHeld => ?_)
                    · try dsimp only
                      exact HCL.out _ HR.out.below
                    clear hK K
                    try simp only [Act.put, List.setIfInBounds_toArray, List.set_cons_zero, List.set_cons_succ]
                    refine wpAnyH_ready (rs := [14]) (by kernel_rfl) (by simp) (AllReadyH.cons rfl (fun K hK => ?_) AllReadyH.nil)
                    refine sapp_sep 139 rfl rfl (.tmp 134) (.tmp 138) rfl (h := HR.out) (by rfl) (hr := HR.out.sep (HSO.out w (Below.refl _ _))) (by rfl) (by exact HS3.out) ?_
                    intro v7 w7 hr7 ht7
                    replace HR := Lib.hid hr7
                    obtain ⟨A7, m7, c7b, hv7⟩ := own_slice hr7.out_
                    subst hv7
                    clear hr7 ht7
                    try go_wp2_with fail
                    refine hK.out _ _ ?_ (fun hHeld => ?_)
                    · try dsimp only
                      exact HCL.out _ HR.out.below
                    clear hK K
                    try simp only [Act.put, List.setIfInBounds_toArray, List.set_cons_zero, List.set_cons_succ]
                    refine take_at (i := 15) (d := 8) (v := ?_) rfl (by kernel_rfl) (by kernel_rfl) (by kernel_rfl) (by kernel_rfl) (fun _ _ _ h => h) (Or.inl ⟨by kernel_rfl, ?_⟩) (by assumption) ?_
                    rotate_left
                    · intro W hSw
                      try dsimp only at hSw
                      go_simp
                      first | done | with_reducible rfl
                    try simp only [Act.put, List.setIfInBounds_toArray, List.set_cons_zero, List.set_cons_succ]
                    refine wpAnyH_done (by kernel_rfl) ?_ _
                    go_wp2_with (at_builtin; refine app_int rfl (.tmp 140) (.tmp 141) rfl w7 w.heap.size (.slice Ad i cd) ds rfl HR.out.dep 0 0 rfl rfl (by exact HDL6.out) (by exact HR.out.below.size) ?_; intro v8 w8 ho8 hg8; have HR8 := Lib.hid ((HR.out.alloc (.cells #[.int .i64 0] 3)).deep ho8 hg8); clear ho8 hg8)
                    go_roundw
                    case rel => exact ⟨i + 1, by have := HLT.out; omega, by go_num, by rw [HNX.out.1, HNX.out.2, HE.out]; simpa [wholeE, HOLN.out] using HR8.out⟩
                    case measure => simp [intOf]; have := HLT.out; omega
                    -- END LAID none
                  | succ m =>
                    have hj : ((m + 1 : Nat) : Int) - 1 = (m : Int) := by omega
                    rw [hj]
                    have y0 : (0 : Int) ≤ (m : Int) := by omega
                    have y1 : (m : Int) < (j : Int) := by have := HLT.out; omega
                    have y2 : (m : Int) < (i : Int) := by omega
                    have hgm := lst_last (show LsV w (.slice (some al) j c) l from HL.out) m (by rw [HN.out]; have := HLT.out; omega)
                    obtain ⟨alx, A8, c8, hax, x8, hby8⟩ := hgm
                    injection hax with hax
                    subst hax
                    obtain ⟨p, hp⟩ : ∃ p, l.getD m [] = p := ⟨_, rfl⟩
                    have hpm : p ∈ l := by rw [← hp, List.getD_eq_getElem?_getD, List.getElem?_eq_getElem (by rw [HN.out]; have := HLT.out; omega)]; exact List.getElem_mem _
                    have HPM := Lib.hid hpm
                    have HP8 := Lib.hid hp
                    rw [hp] at x8 hby8
                    have hhd := at_head (by_sl hby8) (decB_ne (HDE.out _ hpm))
                    obtain ⟨ad8, rfl, hn8, hc8⟩ := hhd
                    obtain ⟨pl8, hpl8⟩ : ∃ x, p.length = x := ⟨_, rfl⟩
                    rw [hpl8] at x8 hn8
                    have HPL8 := Lib.hid hpl8
                    have HCMM : Hid (∀ W, Below w.heap.size w W → W.cell? (al.add m) = some (.slice (some ad8) pl8 c8)) := fun W hW => (hW.cell (World.block_lt_of_cell? w _ x8)).trans x8
                    have x1 : wr.cell? (al.add m) = some (.slice (some ad8) pl8 c8) := (HRK.out.below.cell (World.block_lt_of_cell? w _ x8)).trans x8
                    have x2 : wr.cell? ad8 = some (.int .u8 (bi (p.getD 0 0))) := (HRK.out.below.cell (World.block_lt_of_cell? w _ hc8)).trans hc8
                    have x3 : wr.cell? (al.add i) = some (.slice (some ad2) ol c7) := HCL.out _ HRK.out.below
                    have x4 : wr.cell? ad2 = some (.int .u8 (bi (o.getD 0 0))) := HCH.out _ HRK.out.below
                    have y5 : (0 : Int) < (pl8 : Int) := by omega
                    have y6 : (0 : Int) < (ol : Int) := by omega
                    have y7 : (0 : Int) ≤ (i : Int) := by omega
                    have y8 : (i : Int) < (j : Int) := by have := HLT.out; omega
                    have HSP : Hid (∀ W, Below w.heap.size w W → Sl W (.slice (some ad8) pl8 c8) p) := fun W hW => by have h9 := (by_sl hby8).below hW; rw [hpl8] at h9; exact h9
                    have hdj : (dsV ds)[m]? = some (.int .i64 ((ds.getD m 0 : Nat) : Int)) := by
                      unfold dsV
                      rw [List.getElem?_map, List.getElem?_eq_getElem (by have := HDL.out; omega), List.getD_eq_getElem?_getD, List.getElem?_eq_getElem (by have := HDL.out; omega)]
                      rfl
                    obtain ⟨Ad', cd', hvd', _, _, hdr, _⟩ := HRK.out.dep.slv
                    have e1 : Ad = Ad' := by injection hvd'
                    subst e1
                    clear hvd'
                    obtain ⟨add, rfl, hdc⟩ := reads_at hdr m _ hdj
                    obtain ⟨dj, hdje⟩ : ∃ d, ds.getD m 0 = d := ⟨_, rfl⟩
                    rw [hdje] at hdc
                    have HDJ := Lib.hid hdje
                    rw [hdje] at hdj
                    have HCD : Hid (∀ (W : World) {vo : Value} {x : List UInt8}, RW w W vo x (.slice (some add) i cd) ds → W.cell? (add.add m) = some (.int .i64 (dj : Int))) := fun W vo x hW => by
                      obtain ⟨A', c', e', _, _, hrd, _⟩ := hW.dep.slv
                      injection e' with e' _ _
                      subst e'
                      obtain ⟨ad', e2, hc⟩ := reads_at hrd m _ hdj
                      injection e2 with e2
                      subst e2
                      exact hc
                    obtain ⟨u, hu⟩ : ∃ u, bi (p.getD 0 0) = u := ⟨_, rfl⟩
                    obtain ⟨s, hs⟩ : ∃ u, bi (o.getD 0 0) = u := ⟨_, rfl⟩
                    rw [hu] at x2
                    rw [hs] at x4
                    have HU := Lib.hid hu
                    have HT := Lib.hid hs
                    clear hpm hp x8 hby8 hc8 hpl8 hdj hdr hdje hu hs
                    by_cases he : p.getD 0 0 = o.getD 0 0
                    · have g1 : (u == s) = true := by rw [← HU.out, ← HT.out, he]; exact beq_self_eq_true _
                      have g1b : (u != s) = false := by rw [bne, g1]; rfl
                      have HE := Lib.hid he
                      clear he
                      by_cases hd8 : dj < 8
                      · have g2 : (dj : Int) < 8 := by omega
                        have HD8 := Lib.hid hd8
                        have HSM : Hid (nearP l ds o i = some m) := by
                          unfold Hid
                          rw [HNR.out, near_hit (by rw [HP8.out]; exact HE.out) (by rw [HDJ.out]; exact HD8.out)]
                        clear hd8
                        go_upto_region 20 with (fail)
                        go_quiet (fail)
                        go_wp2_with fail
                        obtain ⟨W8, hW8⟩ : ∃ W, W = wr.drewN nq := ⟨_, rfl⟩
                        have HR8 : Hid (RW w W8 (.slice Ao mo co) out (.slice (some add) i cd) ds) := by rw [hW8]; exact HRK.out.then_ (below_drewN (Below.refl _ _) _)
                        rw [← hW8]
                        have HCM : Hid (∀ W, Below w.heap.size w W → W.cell? (al.add m) = some (.slice (some ad8) pl8 c8)) := HCMM.out
                        have HP20 : Hid (p.length ≤ 20000) := HLE.out _ HPM.out
                        have HO20 : Hid (o.length ≤ 20000) := by unfold Hid; rw [HOLN.out]; exact HOL.out
                        clear hW8
                        -- LAID found
                        have HR := Lib.hid HR8.out.drew_
                        refine wp_region_held_drew (S := (fun W => W.cell? (al.add m) = some (.slice (some ad8) pl8 c8) ∧ W.cell? (al.add i) = some (.slice (some ad2) ol c7))) (by kernel_rfl) ?_ (fun hHeld => ?_)
                        · try dsimp only
                          exact ⟨HCM.out _ HR.out.below, HCL.out _ HR.out.below⟩
                        refine take_at (i := 0) (d := 86) (v := ?_) rfl (by kernel_rfl) (by kernel_rfl) (by kernel_rfl) (by kernel_rfl) (fun _ _ _ h => h) (Or.inl ⟨by kernel_rfl, ?_⟩) (by assumption) ?_
                        rotate_left
                        · intro W hSw
                          try dsimp only at hSw
                          go_simp
                          first | done | with_reducible rfl
                        try simp only [Act.put, List.setIfInBounds_toArray, List.set_cons_zero, List.set_cons_succ]
                        refine take_at (i := 1) (d := 87) (v := ?_) rfl (by kernel_rfl) (by kernel_rfl) (by kernel_rfl) (by kernel_rfl) (fun _ _ _ h => h) (Or.inl ⟨by kernel_rfl, ?_⟩) (by assumption) ?_
                        rotate_left
                        · intro W hSw
                          try dsimp only at hSw
                          go_simp
                          first | done | with_reducible rfl
                        try simp only [Act.put, List.setIfInBounds_toArray, List.set_cons_zero, List.set_cons_succ]
                        refine take_at (i := 2) (d := 88) (v := ?_) rfl (by kernel_rfl) (by kernel_rfl) (by kernel_rfl) (by kernel_rfl) (fun _ _ _ h => h) (Or.inl ⟨by kernel_rfl, ?_⟩) (by assumption) ?_
                        rotate_left
                        · intro W hSw
                          try dsimp only at hSw
                          go_simp
                          first | done | with_reducible rfl
                        try simp only [Act.put, List.setIfInBounds_toArray, List.set_cons_zero, List.set_cons_succ]
                        refine take_at (i := 3) (d := 89) (v := ?_) rfl (by kernel_rfl) (by kernel_rfl) (by kernel_rfl) (by kernel_rfl) (fun _ _ _ h => h) (Or.inl ⟨by kernel_rfl, ?_⟩) (by assumption) ?_
                        rotate_left
                        · intro W hSw
                          try dsimp only at hSw
                          obtain ⟨q1, q2⟩ := hSw
                          go_simp
                          first | done | with_reducible rfl
                        try simp only [Act.put, List.setIfInBounds_toArray, List.set_cons_zero, List.set_cons_succ]
                        refine take_at (i := 4) (d := 90) (v := ?_) rfl (by kernel_rfl) (by kernel_rfl) (by kernel_rfl) (by kernel_rfl) (fun _ _ _ h => h) (Or.inl ⟨by kernel_rfl, ?_⟩) (by assumption) ?_
                        rotate_left
                        · intro W hSw
                          try dsimp only at hSw
                          go_simp
                          first | done | with_reducible rfl
                        try simp only [Act.put, List.setIfInBounds_toArray, List.set_cons_zero, List.set_cons_succ]
                        refine take_at (i := 5) (d := 91) (v := ?_) rfl (by kernel_rfl) (by kernel_rfl) (by kernel_rfl) (by kernel_rfl) (fun _ _ _ h => h) (Or.inl ⟨by kernel_rfl, ?_⟩) (by assumption) ?_
                        rotate_left
                        · intro W hSw
                          try dsimp only at hSw
                          go_simp
                          first | done | with_reducible rfl
                        try simp only [Act.put, List.setIfInBounds_toArray, List.set_cons_zero, List.set_cons_succ]
                        refine take_at (i := 6) (d := 92) (v := ?_) rfl (by kernel_rfl) (by kernel_rfl) (by kernel_rfl) (by kernel_rfl) (fun _ _ _ h => h) (Or.inl ⟨by kernel_rfl, ?_⟩) (by assumption) ?_
                        rotate_left
                        · intro W hSw
                          try dsimp only at hSw
                          go_simp
                          first | done | with_reducible rfl
                        try simp only [Act.put, List.setIfInBounds_toArray, List.set_cons_zero, List.set_cons_succ]
                        refine take_at (i := 7) (d := 93) (v := ?_) rfl (by kernel_rfl) (by kernel_rfl) (by kernel_rfl) (by kernel_rfl) (fun _ _ _ h => h) (Or.inl ⟨by kernel_rfl, ?_⟩) (by assumption) ?_
                        rotate_left
                        · intro W hSw
                          try dsimp only at hSw
                          obtain ⟨q1, q2⟩ := hSw
                          go_simp
                          first | done | with_reducible rfl
                        try simp only [Act.put, List.setIfInBounds_toArray, List.set_cons_zero, List.set_cons_succ]
                        refine wpAnyH_ready (rs := [8]) (by kernel_rfl) (by simp) (AllReadyH.cons rfl (fun K hK => ?_) AllReadyH.nil)
                        go_simp
                        refine (rmake_any _ _ p o _ (HSP.out _ HR.out.below) (HSO.out _ HR.out.below) HP20.out HO20.out).mono ?_
                        rintro e w9 ⟨v9, rfl, ho9, hb9⟩
                        obtain ⟨A9, c9, rfl, _, _⟩ := ho9.length
                        have HND := Lib.hid (HR.out.sep_new (B := 0) hb9 ho9)
                        replace HR := Lib.hid (HR.out.then_ hb9)
                        clear ho9 hb9
                        try go_wp2_with fail
                        refine hK.out _ _ ?_ (fun hHeld => ?_)
                        · try dsimp only
                          exact ⟨HCM.out _ HR.out.below, HCL.out _ HR.out.below⟩
                        clear hK K
                        try simp only [Act.put, List.setIfInBounds_toArray, List.set_cons_zero, List.set_cons_succ]
                        refine take_at (i := 9) (d := 12) (v := ?_) rfl (by kernel_rfl) (by kernel_rfl) (by kernel_rfl) (by kernel_rfl) (fun _ _ _ h => h) (Or.inl ⟨by kernel_rfl, ?_⟩) (by assumption) ?_
                        rotate_left
                        · intro W hSw
                          try dsimp only at hSw
                          go_simp
                          first | done | with_reducible rfl
                        try simp only [Act.put, List.setIfInBounds_toArray, List.set_cons_zero, List.set_cons_succ]
                        refine wpAnyH_done (by kernel_rfl) ?_ _
                        have y3 := HCL.out _ HR.out.below
                        obtain ⟨D, hD⟩ : ∃ D, makeD p o = D := ⟨_, rfl⟩
                        have hdl7 : D.length ≤ 700000 := by rw [← hD]; exact Sh.make_len p o HP20.out HO20.out
                        have HDD := Lib.hid hD
                        rw [hD] at HND ⊢
                        obtain ⟨dl, hdl⟩ : ∃ x, D.length = x := ⟨_, rfl⟩
                        rw [hdl] at HND hdl7 ⊢
                        have HDLN := Lib.hid hdl
                        clear hD hdl
                        by_cases hsh : dl < ol
                        · have z9 : (dl : Int) < (ol : Int) := by omega
                          have HE : Hid (putP l ds i = (aheadE (i - m) D, dj + 1)) := by
                            have h1 := HPA.out m HSM.out
                            rw [HP8.out, HDD.out] at h1
                            rw [HDLN.out, HOLN.out, HDJ.out] at h1
                            exact h1 hsh
                          have HIM : Hid (i - m ≤ 72057594037927936) := by unfold Hid; have := HLT.out; omega
                          have y9 : (i : Int) - (m : Int) = ((i - m : Nat) : Int) := by omega
                          have y9b : (0 : Int) ≤ (i : Int) - (m : Int) := by omega
                          obtain ⟨bk, hbk⟩ : ∃ b, i - m = b := ⟨_, rfl⟩
                          rw [hbk] at HIM HE y9
                          have HDL7 : Hid (dl ≤ 72057594037927936) := by unfold Hid; omega
                          have hp1 := putL_len9 HIM.out
                          have hp2 := putL_len9 HDL7.out
                          have HOB := HBG.out
                          have HA1 : Hid (out.length + 1 ≤ 140737488355328) := by unfold Hid; omega
                          obtain ⟨pb, hpb⟩ : ∃ x, (putL bk).length = x := ⟨_, rfl⟩
                          obtain ⟨pd, hpd⟩ : ∃ x, (putL dl).length = x := ⟨_, rfl⟩
                          have HA2 : Hid ((out ++ [1]).length + pb ≤ 140737488355328) := by unfold Hid; rw [List.length_append, List.length_singleton]; omega
                          have HA3 : Hid (((out ++ [1]) ++ putL bk).length + pd ≤ 140737488355328) := by unfold Hid; rw [List.length_append, List.length_append, List.length_singleton]; omega
                          have HA4 : Hid ((((out ++ [1]) ++ putL bk) ++ putL dl).length + dl ≤ 140737488355328) := by unfold Hid; rw [List.length_append, List.length_append, List.length_append, List.length_singleton]; omega
                          have HPB := Lib.hid hpb
                          have HPD := Lib.hid hpd
                          have HDJ8 : Hid (dj < 8) := HD8.out
                          clear HOB hp1 hp2 hbk hpb hpd hsh
                          have HR1 : Hid (Sep (.slice Ao mo co) (w9.alloc (.cells #[.int .u8 1] 5)) (.slice (some ⟨w9.heap.size, 0, none⟩) 1 1) [1]) := (by have h9 := HR.out.sep_one 1; rw [show bi (1 : UInt8) = 1 from by unfold bi; decide] at h9; exact h9)
                          go_wp2_with (at_builtin; refine app_sep rfl (.tmp 103) (.tmp 104) rfl (h := HR.out.alloc _) (by rfl) (hr := HR1.out) (by rfl) (by exact HA1.out) ?_; intro v4 w4 hr4 ht4; have HN4 := Lib.hid (ht4 _ _ (HND.out.alloc _)); have HR4 := Lib.hid hr4; obtain ⟨A4, m4, c4, hv4⟩ := own_slice hr4.out_; subst hv4; clear hr4 ht4)
                          first
                            | rw [y9]
                            | skip
                          refine (Sh.rnum_any bk _ HIM.out).mono ?_
                          rintro e w5 ⟨v5, rfl, ho5, hb5⟩
                          obtain ⟨A5, c5, rfl, _, _⟩ := ho5.length
                          have HNUM := Lib.hid (HR4.out.sep_new (B := 0) hb5 ho5)
                          have HR5 := Lib.hid (HR4.out.then_ hb5)
                          have HN5 := Lib.hid (HN4.out.below hb5)
                          rw [HPB.out] at HNUM ⊢
                          clear ho5 hb5
                          go_wp2_with (at_builtin; refine app_sep rfl (.tmp 105) (.tmp 109) rfl (h := HR5.out) (by rfl) (hr := HNUM.out) (by rfl) (by exact HA2.out) ?_; intro v6 w6 hr6 ht6; have HN6 := Lib.hid (ht6 _ _ HN5.out); have HR6 := Lib.hid hr6; obtain ⟨A6, m6, c6, hv6⟩ := own_slice hr6.out_; subst hv6; clear hr6 ht6)
                          refine (Sh.rnum_any dl _ HDL7.out).mono ?_
                          rintro e w7 ⟨v7, rfl, ho7, hb7⟩
                          obtain ⟨A7, c7b, rfl, _, _⟩ := ho7.length
                          have HNUM2 := Lib.hid (HR6.out.sep_new (B := 0) hb7 ho7)
                          have HR7 := Lib.hid (HR6.out.then_ hb7)
                          have HN7 := Lib.hid (HN6.out.below hb7)
                          rw [HPD.out] at HNUM2 ⊢
                          clear ho7 hb7
                          have HZJ : Hid ((0 : Int) ≤ (dj : Int) ∧ (dj : Int) < 8) := by unfold Hid; have := HDJ8.out; omega
                          go_wp2_with (first
                            | (at_builtin; have _t := HB11; refine app_int rfl (.tmp 117) (.tmp 123) rfl w11 w.heap.size (.slice (some add) i cd) ds rfl HB11.out.dep (dj + 1) ((dj : Int) + 1) (by omega) rfl (by exact HDL6.out) (by exact HB11.out.below.size) ?_; intro v12 w12 ho12 hg12; have HR12 := Lib.hid ((HB11.out.alloc (.cells #[.int .i64 ((dj : Int) + 1)] 3)).deep ho12 hg12); clear ho12 hg12)
                            | (at_builtin; have _t := HR10; refine app_sep rfl (.tmp 114) (.tmp 115) rfl (h := HR10.out) (by rfl) (hr := HN10.out) (by rfl) (by exact HA4.out) ?_; intro v11 w11 hr11 ht11; have HR11 := Lib.hid hr11; obtain ⟨A11, m11, c11, hv11⟩ := own_slice hr11.out_; subst hv11; have x26 : w11.cell? (add.add m) = some (.int .i64 (dj : Int)) := (HCD.out _ hr11); have HB11 := Lib.hid hr11; obtain ⟨zj0, zj1⟩ := HZJ.out; clear hr11 ht11)
                            | (at_builtin; refine app_sep rfl (.tmp 110) (.tmp 113) rfl (h := HR7.out) (by rfl) (hr := HNUM2.out) (by rfl) (by exact HA3.out) ?_; intro v10 w10 hr10 ht10; have HN10 := Lib.hid (ht10 _ _ HN7.out); have HR10 := Lib.hid hr10; obtain ⟨A10, m10, c10, hv10⟩ := own_slice hr10.out_; subst hv10; clear hr10 ht10))
                          go_roundw
                          case rel => exact ⟨i + 1, by have := HLT.out; omega, by go_num, by rw [HNX.out.1, HNX.out.2, HE.out]; simpa [aheadE, HDLN.out] using HR12.out⟩
                          case measure => simp [intOf]; have := HLT.out; omega
                        · have z9 : (ol : Int) ≤ (dl : Int) := by omega
                          have HE : Hid (putP l ds i = (wholeE o, 0)) := by
                            have h1 := HPW.out m HSM.out
                            rw [HP8.out, HDD.out] at h1
                            rw [HDLN.out, HOLN.out] at h1
                            exact h1 hsh
                          clear hsh
                          go_wp2_with fail
                          obtain ⟨W9, hW9⟩ : ∃ W, W = w9 := ⟨_, rfl⟩
                          rw [← hW9] at HR y3 ⊢
                          have HR9 := Lib.hid HR.out
                          clear hW9 HR
                          -- LAID none
                          have HR := Lib.hid HR9.out.drew_
                          refine wp_region_held_drew (S := (fun W => W.cell? (al.add i) = some (.slice (some ad2) ol c7))) (by kernel_rfl) ?_ (fun hHeld => ?_)
                          · try dsimp only
                            exact HCL.out _ HR.out.below
                          refine take_at (i := 0) (d := 125) (v := ?_) rfl (by kernel_rfl) (by kernel_rfl) (by kernel_rfl) (by kernel_rfl) (fun _ _ _ h => h) (Or.inl ⟨by kernel_rfl, ?_⟩) (by assumption) ?_
                          rotate_left
                          · intro W hSw
                            try dsimp only at hSw
                            go_simp
                            first | done | with_reducible rfl
                          try simp only [Act.put, List.setIfInBounds_toArray, List.set_cons_zero, List.set_cons_succ]
                          refine take_at (i := 3) (d := 128) (v := ?_) rfl (by kernel_rfl) (by kernel_rfl) (by kernel_rfl) (by kernel_rfl) (fun _ _ _ h => h) (Or.inl ⟨by kernel_rfl, ?_⟩) (by assumption) ?_
                          rotate_left
                          · intro W hSw
                            try dsimp only at hSw
                            go_simp
                            first | done | with_reducible rfl
                          try simp only [Act.put, List.setIfInBounds_toArray, List.set_cons_zero, List.set_cons_succ]
                          refine take_at (i := 4) (d := 129) (v := ?_) rfl (by kernel_rfl) (by kernel_rfl) (by kernel_rfl) (by kernel_rfl) (fun _ _ _ h => h) (Or.inl ⟨by kernel_rfl, ?_⟩) (by assumption) ?_
                          rotate_left
                          · intro W hSw
                            try dsimp only at hSw
                            go_simp
                            first | done | with_reducible rfl
                          try simp only [Act.put, List.setIfInBounds_toArray, List.set_cons_zero, List.set_cons_succ]
                          refine take_at (i := 5) (d := 130) (v := ?_) rfl (by kernel_rfl) (by kernel_rfl) (by kernel_rfl) (by kernel_rfl) (fun _ _ _ h => h) (Or.inl ⟨by kernel_rfl, ?_⟩) (by assumption) ?_
                          rotate_left
                          · intro W hSw
                            try dsimp only at hSw
                            go_simp
                            first | done | with_reducible rfl
                          try simp only [Act.put, List.setIfInBounds_toArray, List.set_cons_zero, List.set_cons_succ]
                          refine take_at (i := 6) (d := 131) (v := ?_) rfl (by kernel_rfl) (by kernel_rfl) (by kernel_rfl) (by kernel_rfl) (fun _ _ _ h => h) (Or.inl ⟨by kernel_rfl, ?_⟩) (by assumption) ?_
                          rotate_left
                          · intro W hSw
                            try dsimp only at hSw
                            go_simp
                            first | done | with_reducible rfl
                          try simp only [Act.put, List.setIfInBounds_toArray, List.set_cons_zero, List.set_cons_succ]
                          refine take_at (i := 7) (d := 132) (v := ?_) rfl (by kernel_rfl) (by kernel_rfl) (by kernel_rfl) (by kernel_rfl) (fun _ _ _ h => h) (Or.inl ⟨by kernel_rfl, ?_⟩) (by assumption) ?_
                          rotate_left
                          · intro W hSw
                            try dsimp only at hSw
                            go_simp
                            first | done | with_reducible rfl
                          try simp only [Act.put, List.setIfInBounds_toArray, List.set_cons_zero, List.set_cons_succ]
                          refine take_at (i := 10) (d := 135) (v := ?_) rfl (by kernel_rfl) (by kernel_rfl) (by kernel_rfl) (by kernel_rfl) (fun _ _ _ h => h) (Or.inl ⟨by kernel_rfl, ?_⟩) (by assumption) ?_
                          rotate_left
                          · intro W hSw
                            try dsimp only at hSw
                            go_simp
                            first | done | with_reducible rfl
                          try simp only [Act.put, List.setIfInBounds_toArray, List.set_cons_zero, List.set_cons_succ]
                          refine take_at (i := 11) (d := 136) (v := ?_) rfl (by kernel_rfl) (by kernel_rfl) (by kernel_rfl) (by kernel_rfl) (fun _ _ _ h => h) (Or.inl ⟨by kernel_rfl, ?_⟩) (by assumption) ?_
                          rotate_left
                          · intro W hSw
                            try dsimp only at hSw
                            go_simp
                            first | done | with_reducible rfl
                          try simp only [Act.put, List.setIfInBounds_toArray, List.set_cons_zero, List.set_cons_succ]
                          refine take_at (i := 12) (d := 137) (v := ?_) rfl (by kernel_rfl) (by kernel_rfl) (by kernel_rfl) (by kernel_rfl) (fun _ _ _ h => h) (Or.inl ⟨by kernel_rfl, ?_⟩) (by assumption) ?_
                          rotate_left
                          · intro W hSw
                            try dsimp only at hSw
                            go_simp
                            first | done | with_reducible rfl
                          try simp only [Act.put, List.setIfInBounds_toArray, List.set_cons_zero, List.set_cons_succ]
                          refine take_at (i := 13) (d := 138) (v := ?_) rfl (by kernel_rfl) (by kernel_rfl) (by kernel_rfl) (by kernel_rfl) (fun _ _ _ h => h) (Or.inl ⟨by kernel_rfl, ?_⟩) (by assumption) ?_
                          rotate_left
                          · intro W hSw
                            try dsimp only at hSw
                            go_simp
                            first | done | with_reducible rfl
                          try simp only [Act.put, List.setIfInBounds_toArray, List.set_cons_zero, List.set_cons_succ]
                          refine wpAnyH_ready (rs := [1]) (by kernel_rfl) (by simp) (AllReadyH.cons rfl (fun K hK => ?_) AllReadyH.nil)
                          go_simp
                          have HR1 : Hid (Sep (.slice Ao mo co) ((W9.alloc (.cells #[.int .u8 0] 5)).drew) (.slice (some ⟨W9.heap.size, 0, none⟩) 1 1) [0]) := (by have h9 := HR9.out.sep_one 0; rw [show bi (0 : UInt8) = 0 from by unfold bi; decide] at h9; exact h9.below (Below.refl _ _).drew)
                          replace HR := Lib.hid ((HR9.out.alloc (.cells #[.int .u8 0] 5)).drew_)
                          try go_wp2_with fail
                          refine hK.out _ _ ?_ (fun hHeld => ?_)
                          · try dsimp only
                            exact HCL.out _ HR.out.below
                          clear hK K
                          try simp only [Act.put, List.setIfInBounds_toArray, List.set_cons_zero, List.set_cons_succ]
                          refine wpAnyH_ready (rs := [2]) (by kernel_rfl) (by simp) (AllReadyH.cons rfl (fun K hK => ?_) AllReadyH.nil)
                          refine sapp_sep 127 rfl rfl (.tmp 125) (.tmp 126) rfl (h := HR.out) (by rfl) (hr := HR1.out) (by rfl) (by exact HS1.out) ?_
                          intro v4 w4 hr4 ht4
                          replace HR := Lib.hid hr4
                          obtain ⟨A4, m4, c4, hv4⟩ := own_slice hr4.out_
                          subst hv4
                          clear hr4 ht4
                          try go_wp2_with fail
                          refine hK.out _ _ ?_ (fun hHeld => ?_)
                          · try dsimp only
                            exact HCL.out _ HR.out.below
                          clear hK K
                          try simp only [Act.put, List.setIfInBounds_toArray, List.set_cons_zero, List.set_cons_succ]
                          refine wpAnyH_ready (rs := [8]) (by kernel_rfl) (by simp) (AllReadyH.cons rfl (fun K hK => ?_) AllReadyH.nil)
                          go_simp
                          refine (Sh.rnum_any ol _ HOLL.out).mono ?_
                          rintro e w5 ⟨v5, rfl, ho5, hb5⟩
                          obtain ⟨A5, c5, rfl, _, _⟩ := ho5.length
                          have HNUM := Lib.hid (HR.out.sep_new (B := 0) hb5 ho5)
                          replace HR := Lib.hid (HR.out.then_ hb5)
                          rw [HPL.out] at HNUM ⊢
                          clear ho5 hb5
                          try go_wp2_with fail
                          refine hK.out _ _ ?_ (fun hHeld => ?_)
                          · try dsimp only
                            exact HCL.out _ HR.out.below
                          clear hK K
                          try simp only [Act.put, List.setIfInBounds_toArray, List.set_cons_zero, List.set_cons_succ]
                          refine wpAnyH_ready (rs := [9]) (by kernel_rfl) (by simp) (AllReadyH.cons rfl (fun K hK => ?_) AllReadyH.nil)
                          refine sapp_sep 134 rfl rfl (.tmp 127) (.tmp 133) rfl (h := HR.out) (by rfl) (hr := HNUM.out) (by rfl) (by have h9 := HS2.out; rw [HPL.out] at h9; exact h9) ?_
                          intro v6 w6 hr6 ht6
                          replace HR := Lib.hid hr6
                          obtain ⟨A6, m6, c6, hv6⟩ := own_slice hr6.out_
                          subst hv6
                          clear hr6 ht6
                          try go_wp2_with fail
                          refine hK.out _ _ ?_ (fun hHeld => ?_)
                          · try dsimp only
                            exact HCL.out _ HR.out.below
                          clear hK K
                          try simp only [Act.put, List.setIfInBounds_toArray, List.set_cons_zero, List.set_cons_succ]
                          refine wpAnyH_ready (rs := [14]) (by kernel_rfl) (by simp) (AllReadyH.cons rfl (fun K hK => ?_) AllReadyH.nil)
                          refine sapp_sep 139 rfl rfl (.tmp 134) (.tmp 138) rfl (h := HR.out) (by rfl) (hr := HR.out.sep (HSO.out w (Below.refl _ _))) (by rfl) (by exact HS3.out) ?_
                          intro v7 w7 hr7 ht7
                          replace HR := Lib.hid hr7
                          obtain ⟨A7, m7, c7b, hv7⟩ := own_slice hr7.out_
                          subst hv7
                          clear hr7 ht7
                          try go_wp2_with fail
                          refine hK.out _ _ ?_ (fun hHeld => ?_)
                          · try dsimp only
                            exact HCL.out _ HR.out.below
                          clear hK K
                          try simp only [Act.put, List.setIfInBounds_toArray, List.set_cons_zero, List.set_cons_succ]
                          refine take_at (i := 15) (d := 8) (v := ?_) rfl (by kernel_rfl) (by kernel_rfl) (by kernel_rfl) (by kernel_rfl) (fun _ _ _ h => h) (Or.inl ⟨by kernel_rfl, ?_⟩) (by assumption) ?_
                          rotate_left
                          · intro W hSw
                            try dsimp only at hSw
                            go_simp
                            first | done | with_reducible rfl
                          try simp only [Act.put, List.setIfInBounds_toArray, List.set_cons_zero, List.set_cons_succ]
                          refine wpAnyH_done (by kernel_rfl) ?_ _
                          go_wp2_with (at_builtin; refine app_int rfl (.tmp 140) (.tmp 141) rfl w7 w.heap.size (.slice (some add) i cd) ds rfl HR.out.dep 0 0 rfl rfl (by exact HDL6.out) (by exact HR.out.below.size) ?_; intro v8 w8 ho8 hg8; have HR8 := Lib.hid ((HR.out.alloc (.cells #[.int .i64 0] 3)).deep ho8 hg8); clear ho8 hg8)
                          go_roundw
                          case rel => exact ⟨i + 1, by have := HLT.out; omega, by go_num, by rw [HNX.out.1, HNX.out.2, HE.out]; simpa [wholeE, HOLN.out] using HR8.out⟩
                          case measure => simp [intOf]; have := HLT.out; omega
                          -- END LAID none
                        -- END LAID found
                      · have g2 : (8 : Int) ≤ (dj : Int) := by omega
                        have HD8 := Lib.hid hd8
                        clear hd8
                        go_upto_region 20 with (fail)
                        go_quiet (fail)
                        go_wp2_with fail
                        go_roundw
                        case rel => exact ⟨m, by omega, by go_num, below_drewN HB5.out _, by rw [HNR.out, near_miss (fun h => HD8.out (by rw [← HDJ.out]; exact h.2))]⟩
                        case measure => simp [intOf]
                    · have g1 : (u == s) = false := by
                        rw [← HU.out, ← HT.out, beq_eq_false_iff_ne]
                        exact fun e => he (bi_inj e)
                      have g1b : (u != s) = true := by rw [bne, g1]; rfl
                      have HE := Lib.hid he
                      clear he
                      go_upto_region 20 with (fail)
                      go_quiet (fail)
                      go_wp2_with fail
                      go_roundw
                      case rel => exact ⟨m, by omega, by go_num, below_drewN HB5.out _, by rw [HNR.out, near_miss (fun h => HE.out (by rw [← HP8.out]; exact h.1))]⟩
                      case measure => simp [intOf]
              · obtain rfl : i = j := by omega
                have hbig := HBIG.out i (by rw [HN.out]; exact Nat.le_refl _)
                have hbl : (writesP l i).1.length ≤ 100000000 := by omega
                have hsl := HRW.out.out_.sl
                obtain ⟨out, hout⟩ : ∃ x, (writesP l i).1 = x := ⟨_, rfl⟩
                rw [hout] at HRW hbl hsl
                have HOUT := Lib.hid hout
                have HSL := Lib.hid hsl
                have HBL : Hid (out.length + 32 ≤ 140737488355328) := by unfold Hid; omega
                have hbl2 : out.length ≤ 140737488351232 := by omega
                have HBL2 := Lib.hid hbl2
                obtain ⟨wo, hwo⟩ : ∃ W, W = wr := ⟨_, rfl⟩
                subst hwo
                clear hbig hbl hsl hout hlt hbl2
                go_wp2_with fail
                refine (rsum_any _ out _ HSL.out HBL2.out).mono ?_
                rintro e w5 ⟨v5, rfl, ho5, hb5⟩
                obtain ⟨A5, c5, rfl, _, _⟩ := ho5.length
                have HNS := Lib.hid (HRW.out.sep_new (B := 0) hb5 ho5)
                have HR5 := Lib.hid (HRW.out.then_ hb5)
                rw [sumOf_length] at HNS ⊢
                clear ho5 hb5
                go_wp2_with (at_builtin; refine app_sep rfl (.tmp 143) (.tmp 145) rfl (h := HR5.out) (by rfl) (hr := HNS.out) (by rfl) (by exact HBL.out) ?_; intro v6 w6 hr6 ht6; have HR6 := Lib.hid hr6; obtain ⟨A6, m6, c6, hv6⟩ := own_slice hr6.out_; subst hv6; clear hr6 ht6)
                go_ret2
                refine ⟨A6, m6, c6, rfl, HR6.out.below, ?_⟩
                first
                  | exact HR6.out.out_
                  | (rw [HOUT.out]; exact HR6.out.out_)
                  | (have h9 := HR6.out.out_; rw [← HOUT.out] at h9; exact h9)
  · have z : (512 : Int) < (n : Int) := by omega
    have hre : P = (14, []) := by rw [← HP.out, write_limit (by have := HN.out; omega)]
    subst hre
    go_enter Tryz.func23, Tryz.ntmps23
    go_wp2_with fail
    go_ret2
    exact ⟨none, 0, 0, rfl, Below.refl _ _, Own.nil_ _ _⟩
end Go.Proofs.YteffiedolcjjlaaGreat.Ob
