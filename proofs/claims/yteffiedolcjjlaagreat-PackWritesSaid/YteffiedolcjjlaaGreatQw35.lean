/- Texts put together: YPkI. -/
import Derived.Test.YteffiedolcjjlaaGreatQw34
/- Package pack: Write, whole. -/
set_option linter.unusedVariables false
set_option linter.unusedSimpArgs false
namespace Go.Proofs.YteffiedolcjjlaaGreat.Ob
open Go.RowKit Go.Proofs.YteffiedolcjjlaaGreat.Sh
open Go.Proofs.YteffiedolcjjlaaGreat.Tx (Shape InL TmpL OwnL Typed Only By Rd Datas list_appendL step_appendL)

/-- What Write leaves. -/
def WritePost (l : List (List UInt8)) (w : World) (e : Ending) (w' : World) : Prop :=
  ∃ A m c, e = .returned (.tuple #[.slice A m c, .int .i64 (writeP l).1]) ∧ Below w.heap.size w w' ∧ Own w' w.heap.size (.slice A m c) (writeP l).2
/-- The depths told so far, and zeros behind them. -/
def dsZ (n : Nat) (ds : List Nat) : List Int := (ds.map fun (d : Nat) => (d : Int)) ++ List.replicate (n - ds.length) 0
theorem dsZ_slv {w : World} {g n : Nat} {ds : List Nat} (h : BlkI w g (dsZ n ds)) (hn : ds.length ≤ n) (hm : n ≤ 2000000) : SlV w (.slice (some ⟨g, 0, none⟩) ds.length n) (dsV ds) := by
  refine ⟨some ⟨g, 0, none⟩, n, by rw [dsV, List.length_map], by rw [dsV, List.length_map]; exact hn, by unfold maxLen; omega, ⟨by rw [dsV, List.length_map, Nat.mul_one], fun _ => ⟨_, rfl, Blk.lt h, fun j u hu => ?_⟩⟩, fun e => by cases e⟩
  have hj : j < ds.length := by have := (List.getElem?_eq_some_iff.1 hu).1; rwa [dsV, List.length_map] at this
  have hl : (dsZ n ds).length = n := by unfold dsZ; rw [List.length_append, List.length_map, List.length_replicate]; omega
  rw [Addr.add_mid, Nat.zero_add, h.cell j (by rw [hl]; omega), ← hu]
  unfold dsZ dsV
  rw [List.getD_eq_getElem?_getD, List.getElem?_append_left (by rw [List.length_map]; exact hj), List.getElem?_map, List.getElem?_map, List.getElem?_eq_getElem hj]
  rfl
theorem dsZ_set (n : Nat) (ds : List Nat) (d : Nat) (h : ds.length < n) : (dsZ n ds).set ds.length (d : Int) = dsZ n (ds ++ [d]) := by
  unfold dsZ
  rw [List.set_append_right _ _ (by rw [List.length_map]; exact Nat.le_refl _), List.length_map, Nat.sub_self, List.map_append, List.append_assoc, List.length_append, List.length_singleton]
  obtain ⟨m, hm⟩ : ∃ m, n - ds.length = m + 1 := ⟨n - ds.length - 1, by omega⟩
  rw [hm, show n - (ds.length + 1) = m from by omega]
  rfl
theorem decB_ne {o : List UInt8} (h : decB o = true) : o ≠ [] := fun e => by rw [e, decB_nil] at h; cases h
set_option maxRecDepth 100000 in
set_option maxHeartbeats 6400000 in
theorem write_any (v : Value) (l : List (List UInt8)) (w : World) (h : LsV w v l) (hl : l.length ≤ 1000000) : Calls Tryz.prog 22 #[v] w (WritePost l w) := by
  have HMP := Lib.hid (mayPack_any v l w h hl)
  have HL := Lib.hid h
  obtain ⟨A, c, rfl, hlc, hcm⟩ := h.slice
  unfold maxLen at hcm
  obtain ⟨n, hn⟩ : ∃ n, l.length = n := ⟨_, rfl⟩
  rw [hn] at HMP HL hlc hl ⊢
  have HN := Lib.hid hn
  have hcs := write_cases l
  have HCS := Lib.hid hcs
  obtain ⟨r, hr⟩ : ∃ r, (writeP l).1 = r := ⟨_, rfl⟩
  rw [hr] at HMP
  have HR := Lib.hid hr
  clear h hn hcs hr
  by_cases h0 : r = 0
  · subst h0
    obtain ⟨h5, hlo, hdo, hw⟩ : l.length ≤ 512 ∧ (∀ o ∈ l, o.length ≤ 20000) ∧ (∀ o ∈ l, decB o = true) ∧ writeP l = (0, (writesP l l.length).1 ++ sumOf (writesP l l.length).1) := by
      rcases HCS.out with ⟨_, e⟩ | ⟨_, _, e⟩ | ⟨_, _, _, e⟩ | h
      · have := HR.out; rw [e] at this; exact absurd this (by decide)
      · have := HR.out; rw [e] at this; exact absurd this (by decide)
      · have := HR.out; rw [e] at this; exact absurd this (by decide)
      · exact h
    rw [HN.out] at h5 hw
    have HLO := Lib.hid hlo
    have HDO := Lib.hid hdo
    have HBIG := Lib.hid (writes_big l hlo (by rw [HN.out]; exact h5))
    have hP : WritePost l w = fun e w' => ∃ A m c, e = .returned (.tuple #[.slice A m c, .int .i64 0]) ∧ Below w.heap.size w w' ∧ Own w' w.heap.size (.slice A m c) ((writesP l n).1 ++ sumOf (writesP l n).1) := by
      unfold WritePost
      rw [hw]
    rw [hP]
    clear hlo hdo hw hP
    have hmk := fun W => d_make_ints n (by omega) W
    go_enter Tryz.func22, Tryz.ntmps22
    go_wp2_with fail
    refine HMP.out.mono ?_
    rintro y w1 ⟨rfl, hb1⟩
    have HB1 := Lib.hid hb1
    have kb : (convert 51 51 (.slice (some ⟨w1.heap.size, 0, none⟩) 3 3)).run Tryz.prog (w1.alloc (.cells #[.int .u8 77, .int .u8 80, .int .u8 49] 5)) = .ok (.slice (some ⟨w1.heap.size, 0, none⟩) 3 3) (mkW w1) := Lib.run_convert_bytes_const (P := Tryz.prog) w1 51 5 #[.int .u8 77, .int .u8 80, .int .u8 49] 3 3 Tryz.underlying51 Tryz.underlying5
    have HMK := Lib.hid (mk_sl w1)
    have HMB := Lib.hid (hb1.trans ((mk_below w1).mono hb1.size))
    clear hb1
    go_wp2_with fail
    refine (pnum_lit w1.heap.size n (mkW w1) HMK.out (by omega)).mono ?_
    rintro y w2 ⟨A2, m2, c2, rfl, ho2, hb2⟩
    have hz2 := HMB.out.size
    have HB2 := Lib.hid (HMB.out.trans (hb2.mono hz2))
    have HO2 : Hid (Own w2 w.heap.size (.slice A2 m2 c2) (writesP l 0).1) := by
      have h9 := Own.based ho2 hz2
      show Own w2 w.heap.size (.slice A2 m2 c2) (markL ++ putL l.length)
      rw [HN.out]; exact h9
    clear ho2 hb2 kb hz2
    have hbi : BlkI (w2.alloc (.cells (madeCells #[.int .i64 0] n) 3)) w2.heap.size (dsZ n []) := by
      have := BlkI.made w2 n
      exact this
    have HBI := Lib.hid hbi
    have HB3 : Hid (Below w.heap.size w (w2.alloc (.cells (madeCells #[.int .i64 0] n) 3))) := HB2.out.alloc HB2.out.size _
    have HO3 : Hid (Own (w2.alloc (.cells (madeCells #[.int .i64 0] n) 3)) w.heap.size (.slice A2 m2 c2) (writesP l 0).1) := HO2.out.alloc _
    clear hbi
    obtain ⟨gd, hgd⟩ : ∃ g, w2.heap.size = g := ⟨_, rfl⟩
    have HGD : Hid (w.heap.size ≤ gd) := by unfold Hid; rw [← hgd]; exact HB2.out.size
    rw [hgd] at HBI
    go_wp2_with fail
    try rw [hgd]
    clear hgd
    go_loopw [5, 23] (fun vb x wr => ∃ (i : Nat), i ≤ n ∧ x = .int .i64 (i : Int) ∧ Below w.heap.size w wr ∧ (∃ A3 m3 c3, vb = .slice A3 m3 c3 ∧ Own wr w.heap.size (.slice A3 m3 c3) (writesP l i).1) ∧ BlkI wr gd (dsZ n (writesP l i).2)) (fun _ x _ => n - (intOf x).toNat)
    case atStart => exact ⟨0, Nat.zero_le _, rfl, HB3.out, ⟨_, _, _, rfl, HO3.out⟩, HBI.out⟩
    case round =>
      obtain ⟨i, hi, rfl, hb, ⟨A3, m3, c3, rfl, ho⟩, hbi⟩ := hrel
      have HB := Lib.hid hb
      have HO := Lib.hid ho
      have HBD := Lib.hid hbi
      clear hb ho hbi
      have z0 : (0 : Int) ≤ (i : Int) := by omega
      by_cases hlt : i < n
      · have z1 : (i : Int) < (n : Int) := by omega
        have hdl := writes_depths l i
        have kl := fun W => front_l A n c (i + 1) ((i : Int) + 1) (by omega) (by omega) W
        have kd := fun W => front_i (some ⟨gd, 0, none⟩) n n i (i : Int) rfl (by omega) W
        have hx0 := HBD.out.cell i (by unfold dsZ; rw [List.length_append, List.length_map, List.length_replicate, hdl]; omega)
        have hx0f : wr.frozen? ⟨gd, i, none⟩ = false := Blk.frozen HBD.out i
        have hsd := dsZ_slv HBD.out (by rw [hdl]; omega) (by omega)
        rw [hdl] at hsd
        have hne9 : ∀ k, (Value.slice A3 m3 c3).ownBlock = some k → gd ≠ k := fun k hk => by
          rcases HO.out.2 with ⟨e, _⟩ | ⟨g, cap, cur, e, _, hg, _⟩
          · rw [e] at hk; cases hk
          · rw [e] at hk
            have e' : g = k := by simpa [Value.ownBlock] using hk
            subst e'
            exact Blk.ne_ HBD.out hg (by decide)
        have HNE9 := Lib.hid hne9
        have hmi : i + 1 ≤ l.length := by rw [HN.out]; omega
        have HPO := Lib.hid (putObject_any (.slice A3 m3 c3) (.slice A (i + 1) c) (.slice (some ⟨gd, 0, none⟩) i n) (writesP l i).1 (l.take (i + 1)) (writesP l i).2 i w.heap.size w)
        have hput := put_take l (writesP l i).2 i hdl
        have hlk : (l.take (i + 1)).length = i + 1 := by rw [List.length_take]; omega
        have HPC : Hid (∀ W, (W = wr ∨ W = wr.drew) → Calls Tryz.prog 49 #[.slice A3 m3 c3, .slice A (i + 1) c, .slice (some ⟨gd, 0, none⟩) i n] W fun e w' => ∃ A4 m4 c4, e = .returned (.tuple #[.slice A4 m4 c4, .int .i64 ((putP l (writesP l i).2 i).2 : Int)]) ∧ Below w.heap.size w w' ∧ Own w' w.heap.size (.slice A4 m4 c4) (writesP l (i + 1)).1 ∧ BlkI w' gd (dsZ n (writesP l i).2)) := by
          intro W hW
          have hWz : W.heap.size = wr.heap.size := by rcases hW with rfl | rfl; rfl; rfl
          have hO : Own W w.heap.size (.slice A3 m3 c3) (writesP l i).1 := by rcases hW with rfl | rfl; exact HO.out; exact HO.out.drew
          have hBW : Below w.heap.size w W := by rcases hW with rfl | rfl; exact HB.out; exact HB.out.drew
          have hBD : BlkI W gd (dsZ n (writesP l i).2) := by rcases hW with rfl | rfl; exact HBD.out; exact Blk.drew HBD.out
          have hsdW : SlV W (.slice (some ⟨gd, 0, none⟩) i n) (dsV (writesP l i).2) := by
            have h9 := dsZ_slv hBD (by rw [hdl]; omega) (by omega)
            rwa [hdl] at h9
          have hbig := HBIG.out i (by rw [HN.out]; omega)
          refine (HPO.out W hO (LsV.take HL.out (i + 1) hmi) hBW (Nat.le_refl _) hBW.size hsdW (fun ad m' c' k e hk => by injection e with e; injection e with e; rw [← e]; exact HNE9.out k hk) hlk hdl (by omega) (fun o ho => HLO.out o (List.mem_of_mem_take ho)) (fun o ho => decB_ne (HDO.out o (List.mem_of_mem_take ho))) (by omega)).mono ?_
          rintro e w' ⟨v', he, ho', hon', _⟩
          rw [hput] at he ho'
          obtain ⟨A4, m4, c4, hv4⟩ := own_slice ho'
          subst hv4
          exact ⟨A4, m4, c4, he, ⟨(hBW.trans (grw_below hO hon' hBW.size)).os, (hBW.trans (grw_below hO hon' hBW.size)).tape, (hBW.trans (grw_below hO hon' hBW.size)).output, (hBW.trans (grw_below hO hon' hBW.size)).size, (hBW.trans (grw_below hO hon' hBW.size)).block⟩, ho', hon'.blk hBD (fun e9 => HNE9.out gd e9 rfl)⟩
        obtain ⟨dv, hdv⟩ : ∃ d, (putP l (writesP l i).2 i).2 = d := ⟨_, rfl⟩
        have HDV := Lib.hid hdv
        rw [hdv] at HPC
        have HDL := Lib.hid hdl
        have HLT := Lib.hid hlt
        obtain ⟨z9, hz9⟩ : ∃ z, (dsZ n (writesP l i).2).getD i 0 = z := ⟨_, rfl⟩
        rw [hz9] at hx0
        obtain ⟨m1, hm1⟩ : ∃ m, i + 1 = m := ⟨_, rfl⟩
        rw [hm1] at kl HPC
        have HM1 := Lib.hid hm1
        have zm : (i : Int) + 1 ≤ (c : Int) := by omega
        have hwr : IntKind.i64.wrap ((i : Int) + 1) = (i : Int) + 1 := by rw [IntKind.wrap_i64]; omega
        clear HPO hput hlk hmi hsd hdl hne9 hdv hlt hz9 hm1
        go_upto_region 9 with (fail)
        go_region_held3 (fun _ => True) (exact trivial)
          (first | (go_at_call 49; refine (HPC.out _ (by first | exact Or.inl rfl | exact Or.inr rfl)).mono ?_; rintro y w4 ⟨A4, m4, c4, rfl, hb4, ho4, hbd4⟩; rw [← HM1.out] at ho4; have hln : i < (dsZ n (writesP l i).2).length := (by unfold dsZ; rw [List.length_append, List.length_map, List.length_replicate, HDL.out]; have := HLT.out; omega); have x5 : w4.cell? ⟨gd, i, none⟩ = some (.int .i64 ((dsZ n (writesP l i).2).getD i 0)) := hbd4.cell i hln; have x5f : w4.frozen? ⟨gd, i, none⟩ = false := Blk.frozen hbd4 i; have HB4 := Lib.hid hb4; have HO4 := Lib.hid ho4; have HBD4 := Lib.hid hbd4; clear hb4 ho4 hbd4 hln))
        go_wp2_with fail
        have HB5 : Hid (Below w.heap.size w (w4.setCell ⟨gd, i, none⟩ (.int .i64 (dv : Int)))) := (((Only.of_below (M := fun _ => False) HB4.out).set_ (g := gd) (i := i) (.inr HGD.out) _)).below
        have HBD5 : Hid (BlkI (w4.setCell ⟨gd, i, none⟩ (.int .i64 (dv : Int))) gd (dsZ n (writesP l (i + 1)).2)) := by
          have h9 := BlkI.set HBD4.out i (dv : Int)
          have h8 := dsZ_set n (writesP l i).2 dv (by rw [HDL.out]; exact HLT.out)
          rw [HDL.out] at h8
          rw [h8] at h9
          show BlkI _ gd (dsZ n ((writesP l i).2 ++ [(putP l (writesP l i).2 i).2]))
          rw [HDV.out]
          exact h9
        have HO5 : Hid (Own (w4.setCell ⟨gd, i, none⟩ (.int .i64 (dv : Int))) w.heap.size (.slice A4 m4 c4) (writesP l (i + 1)).1) := by
          rcases HO4.out.2 with ⟨e, e2⟩ | ⟨g, cap, cur, e, h1, h2, h3, h4, h5', h6⟩
          · exact ⟨HO4.out.1, .inl ⟨e, e2⟩⟩
          · exact ⟨HO4.out.1, .inr ⟨g, cap, cur, e, h1, Blk.far h2 (by intro e9; subst e9; exact Blk.ne_ HBD4.out h2 (by decide) rfl) _, h3, h4, h5', h6⟩⟩
        go_roundw
        case rel => exact ⟨i + 1, by have := HLT.out; omega, by go_num, HB5.out, ⟨_, _, _, rfl, HO5.out⟩, HBD5.out⟩
        case measure => have := HLT.out; simp [intOf]; omega
      · obtain rfl : i = n := by omega
        have hbig := HBIG.out i (by rw [HN.out]; exact Nat.le_refl _)
        have hlen9 : (writesP l i).1.length ≤ 100000000 := by omega
        obtain ⟨W9, hW9⟩ : ∃ W9, (writesP l i).1 = W9 := ⟨_, rfl⟩
        rw [hW9] at HO hlen9
        have HW9 := Lib.hid hW9
        have HS := Lib.hid HO.out.sl
        have HLN := Lib.hid hlen9
        clear hbig hlt hW9
        go_wp2_with fail
        refine (ssum_sl _ W9 _ HS.out (by have := HLN.out; omega)).mono ?_
        rintro y w5 ⟨v5, rfl, ho5, hb5⟩
        obtain ⟨A5, c5, rfl, _, _⟩ := ho5.length
        have HR5 := Lib.hid ho5
        have HO9 := Lib.hid (HO.out.below hb5)
        have HB9 := Lib.hid (HB.out.trans (hb5.mono HB.out.size))
        have hrr : Reads w5 w5.heap.size 1 A5 (sumOf W9).length ((sumOf W9).map bv) := by
          obtain ⟨A', c', e, _, _, hI, _⟩ := ho5.sl
          injection e with e1 _ _
          subst e1
          exact hI.reads
        obtain ⟨sl, hsl⟩ : ∃ n, (sumOf W9).length = n := ⟨_, rfl⟩
        rw [hsl] at hrr ⊢
        have HRR := Lib.hid hrr
        have hsm : W9.length + sl ≤ 140737488355328 := by have := HLN.out; rw [← hsl, sumOf_length]; omega
        have hz5 := HB9.out.size
        clear ho5 hb5 hrr hsl hlen9
        go_wp2_with (at_builtin; refine app_grw rfl (.tmp 42) (.tmp 44) rfl w5 w.heap.size (.slice A3 m3 c3) W9 rfl HO9.out _ A5 sl c5 (sumOf W9) rfl HRR.out hsm hz5 ?_; intro v7 w7 ho7 hon7 hk7; have HO7 := Lib.hid ho7; have HN7 := Lib.hid hon7; obtain ⟨A7, m7, c7, hv7⟩ := own_slice ho7; subst hv7; clear ho7 hon7 hk7)
        go_ret2
        exact ⟨A7, m7, c7, rfl, HB9.out.trans (grw_below HO9.out HN7.out hz5), by rw [HW9.out]; exact HO7.out⟩
  · have z : (r != 0) = true := by rw [bne_iff_ne]; exact h0
    have hw2 : (writeP l).2 = [] := by
      rcases HCS.out with ⟨_, e⟩ | ⟨_, _, e⟩ | ⟨_, _, _, e⟩ | ⟨_, _, _, e⟩
      · rw [e]
      · rw [e]
      · rw [e]
      · exact absurd (by have := HR.out; rw [e] at this; exact this.symm) h0
    have hP : WritePost l w = fun e w' => ∃ A m c, e = .returned (.tuple #[.slice A m c, .int .i64 r]) ∧ Below w.heap.size w w' ∧ Own w' w.heap.size (.slice A m c) [] := by
      unfold WritePost
      rw [HR.out, hw2]
    rw [hP]
    clear h0 hw2 hP
    go_enter Tryz.func22, Tryz.ntmps22
    go_wp2_with fail
    refine HMP.out.mono ?_
    rintro y w1 ⟨rfl, hb1⟩
    have HB1 := Lib.hid hb1
    clear hb1
    go_wp2_with fail
    go_ret2
    exact ⟨none, 0, 0, rfl, HB1.out, Own.nil_ _ _⟩
end Go.Proofs.YteffiedolcjjlaaGreat.Ob
