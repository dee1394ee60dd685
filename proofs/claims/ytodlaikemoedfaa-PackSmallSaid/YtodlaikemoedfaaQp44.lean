/- Texts put together: YPkG. -/
import Derived.Test.YtodlaikemoedfaaQp43
/- Package pack: putObject. -/
set_option linter.unusedVariables false
set_option linter.unusedSimpArgs false
namespace Go.Proofs.Ytodlaikemoedfaa.Ob
open Go.RowKit Go.Proofs.Ytodlaikemoedfaa.Sh
open Go.Proofs.Ytodlaikemoedfaa.Tx (Shape InL TmpL OwnL Typed Only By Rd Datas list_appendL step_appendL)

/-- What putObject leaves: but for b's block all is as it was. -/
def PutPost2 (w : World) (B : Nat) (v : Value) (bs news : List UInt8) (d : Nat) (e : Ending) (w' : World) : Prop :=
  ∃ v', e = .returned (.tuple #[v', .int .i64 (d : Int)]) ∧ Own w' B v' (bs ++ news) ∧ Only (fun k => v.ownBlock = some k) w w' ∧ (v'.ownBlock = v.ownBlock ∨ ∃ k, v'.ownBlock = some k ∧ w.heap.size ≤ k)
theorem own_slice {w : World} {B : Nat} {v : Value} {bs : List UInt8} (h : Own w B v bs) : ∃ A n c, v = .slice A n c := by
  obtain ⟨A, c, hv, _⟩ := h.length
  exact ⟨A, _, c, hv⟩
theorem lst_last {w : World} {A : Option Addr} {n c : Nat} {l : List (List UInt8)} (h : LsV w (.slice A n c) l) (k : Nat) (hk : k < l.length) : ∃ (ad : Addr) (A2 : Option Addr) (c2 : Nat), A = some ad ∧ w.cell? (ad.add k) = some (.slice A2 (l.getD k []).length c2) ∧ By (fun j => j < w.heap.size) w (.slice A2 (l.getD k []).length c2) (l.getD k []) := by
  have hg : l[k]? = some (l.getD k []) := by rw [List.getD_eq_getElem?_getD, List.getElem?_eq_getElem hk]; rfl
  obtain ⟨ad, A2, c2, hA, hc, _, _, hs⟩ := h.at_ k _ hg
  exact ⟨ad, A2, c2, hA, hc, sl_by hs⟩
set_option maxRecDepth 100000 in
set_option maxHeartbeats 6400000 in
theorem putObject_any (vb vo vd : Value) (bs : List UInt8) (l : List (List UInt8)) (ds : List Nat) (i B : Nat) (w0 w : World) (hb : Own w B vb bs) (ho : LsV w0 vo l) (h0 : Below w0.heap.size w0 w) (hB0 : w0.heap.size ≤ B) (hB : B ≤ w.heap.size)
    (hd : SlV w vd (dsV ds)) (hdb : ∀ ad n c k, vd = .slice (some ad) n c → vb.ownBlock = some k → ad.block ≠ k) (hl : l.length = i + 1) (hds : ds.length = i) (hi : i ≤ 1000) (hlo : ∀ o ∈ l, o.length ≤ 20000) (hne : ∀ o ∈ l, o ≠ []) (hbl : bs.length ≤ 80000000) :
    Calls Try.prog 9 #[vb, vo, vd] w (PutPost2 w B vb bs (putP l ds i).1 (putP l ds i).2) := by
  have HB := Lib.hid hb
  have H0 := Lib.hid h0
  have hLw := ho.below h0
  have HLW := Lib.hid hLw
  have HNR := Lib.hid (nearest_any vo vd l ds i w hl hds hLw hd hne (by omega))
  obtain ⟨A, c, rfl, hlc, hcm⟩ := ho.slice
  obtain ⟨Ab, nb, cb, rfl⟩ := own_slice hb
  obtain ⟨D, dc, rfl, hdl, hdm, hDR⟩ := hd.len
  rw [dsV, List.length_map, hds] at hdl hDR HNR hdb
  rw [dsV, List.length_map, hds]
  have HDR := Lib.hid hDR
  have HDB := Lib.hid hdb
  rw [hl] at hlc HLW HNR
  rw [hl]
  obtain ⟨m, hm⟩ : ∃ m, i + 1 = m := ⟨_, rfl⟩
  rw [hm] at hlc HLW HNR ⊢
  have HM := Lib.hid hm
  have hmi : (m : Int) - 1 = (i : Int) := by omega
  obtain ⟨ad, A2, c2, rfl, x0, hby⟩ := lst_last HLW.out i (by omega)
  obtain ⟨o, hoo⟩ : ∃ o, l.getD i [] = o := ⟨_, rfl⟩
  have HOO := Lib.hid hoo
  have hol : o.length ≤ 20000 := hlo o (by rw [← hoo, List.getD_eq_getElem?_getD, List.getElem?_eq_getElem (by omega)]; exact List.getElem_mem _)
  have HOL := Lib.hid hol
  rw [hoo] at x0 hby HNR
  -- the object lies below B
  have hbyB : By (fun j => j < w0.heap.size) w (.slice A2 o.length c2) o := by
    obtain ⟨ad', A3, c3, e, x1, hby0⟩ := lst_last (show LsV w0 (.slice (some ad) l.length c) l from ho) i (by omega)
    injection e with e
    subst e
    have x2 := (h0.cell (World.block_lt_of_cell? w0 _ x1)).trans x1
    rw [hoo] at x2 hby0
    rw [x0] at x2
    injection x2 with x2
    rw [x2]
    exact hby0.only (Only.of_below (M := fun _ => False) h0) (fun _ _ h9 => h9)
  have HBO := Lib.hid hbyB
  have HLO := Lib.hid hlo
  have HL := Lib.hid hl
  have HPN := Lib.hid (fun (hn : nearP l ds o i = none) => by have := put_none (l := l) (ds := ds) (i := i) (by rw [hoo]; exact hn); rw [hoo] at this; exact this)
  have HPA := Lib.hid (fun (k : Nat) (hn : nearP l ds o i = some k) (hlt : (makeD (l.getD k []) o).length < o.length) => by have := put_ahead (l := l) (ds := ds) (i := i) (k := k) (by rw [hoo]; exact hn) (by rw [hoo]; exact hlt); rw [hoo] at this; exact this)
  have HPW := Lib.hid (fun (k : Nat) (hn : nearP l ds o i = some k) (hlt : ¬ (makeD (l.getD k []) o).length < o.length) => by have := put_whole (l := l) (ds := ds) (i := i) (k := k) (by rw [hoo]; exact hn) (by rw [hoo]; exact hlt); rw [hoo] at this; exact this)
  obtain ⟨P, hP⟩ : ∃ P, putP l ds i = P := ⟨_, rfl⟩
  rw [hP] at HPN HPA HPW ⊢
  obtain ⟨near, hnear⟩ : ∃ near, nearP l ds o i = near := ⟨_, rfl⟩
  rw [hnear] at HNR HPN HPA HPW
  have HNE := Lib.hid hnear
  obtain ⟨ol, hol2⟩ : ∃ n, o.length = n := ⟨_, rfl⟩
  rw [hol2] at x0 HBO
  have HOLN := Lib.hid hol2
  have z0 : (0 : Int) ≤ (i : Int) := by omega
  have z1 : (i : Int) < (m : Int) := by omega
  have hnbl : nb = bs.length := by
    obtain ⟨_, _, e, _⟩ := hb.length
    injection e
  have HZB : Hid (w0.heap.size ≤ B ∧ B ≤ w.heap.size) := ⟨hB0, hB⟩
  have HBL := Lib.hid hbl
  have HDSL := Lib.hid hds
  have HOF : Hid (∀ k, k < w0.heap.size → (Value.slice Ab nb cb).ownBlock ≠ some k) := fun k hk e => by
    have := (World.ownsRow.lt hb k e).1
    omega
  clear ho hb h0 hLw hd hDR hdb hby hbyB hlo hl hP hnear hol2 hoo hm hol hdl hdm hcm hlc hds hne hbl hnbl hB0 hB
  go_enter Try.func9, Try.ntmps9
  go_wp2_with fail
  refine HNR.out.mono ?_
  rintro y w1 ⟨rfl, hb1⟩
  have HB1 := Lib.hid hb1
  have HOB1 := Lib.hid (HB.out.below hb1)
  have HBO1 := Lib.hid (HBO.out.only (Only.of_below (M := fun _ => False) hb1) (fun _ _ h9 => h9))
  have y0 := (hb1.cell (World.block_lt_of_cell? w _ x0)).trans x0
  clear hb1
  have hb0 : bi 0 = 0 := by unfold bi; rfl
  have hb11 : bi 1 = 1 := by unfold bi; rfl
  have hs1 : bs.length + 1 ≤ 140737488355328 := by have := HBL.out; omega
  have hz1 : B ≤ w1.heap.size := by have := HZB.out.2; have := HB1.out.size; omega
  cases near with
  | none =>
    have hp := HPN.out rfl
    subst hp
    have hnv : nearV none = -1 := rfl
    rw [hnv]
    go_wp2_with (at_builtin; refine app_grw1 rfl (.tmp 50) (.tmp 51) rfl w1 B (.slice Ab nb cb) bs rfl HOB1.out 0 0 hb0 _ rfl rfl hs1 hz1 ?_; intro v2 w2 ho2 hon2 hk2; have HO2 := Lib.hid ho2; have HN2 := Lib.hid hon2; have HK2 := Lib.hid hk2; obtain ⟨A2', n2', c2', hv2⟩ := own_slice ho2; subst hv2; clear ho2 hon2 hk2)
    refine (pbytes_any (.slice A2' n2' c2') (.slice A2 ol c2) (bs ++ [0]) o (fun j => j < w0.heap.size) B w2 HO2.out (by have h9 := HBO1.out.only HN2.out (fun j hj e => HOF.out j hj e); have h8 := HOLN.out; rw [← h8] at h9 ⊢; exact h9) (fun j hj e => by have := (World.ownsRow.lt HO2.out j e).1; have := HZB.out.1; omega) (fun j hj => by have := HN2.out.size; have := HB1.out.size; have := HZB.out; omega) (by have := HOL.out; omega) (by have := HBL.out; simp; omega) (by have := HN2.out.size; have := HB1.out.size; have := HZB.out; omega)).mono ?_
    rintro y w3 ⟨v3, rfl, ho3, hon3, hk3⟩
    have HO3 := Lib.hid ho3
    have HG := Lib.hid (grw_then HN2.out hon3 HK2.out hk3)
    clear ho3 hon3 hk3
    go_wp2_with fail
    go_ret2
    refine ⟨v3, rfl, ?_, ?_, ?_⟩
    · have h9 := HO3.out
      rw [HOLN.out, List.append_assoc] at h9
      unfold wholeE
      rw [HOLN.out]
      exact h9
    · exact (Only.of_below HB1.out).trans HG.out.1 (fun _ h9 => .inl h9)
    · exact HG.out.2.imp id (fun ⟨j, h9, h8⟩ => ⟨j, h9, Nat.le_trans HB1.out.size h8⟩)
  | some k =>
    have hnv : nearV (some k) = (k : Int) := rfl
    obtain ⟨hki, _, hd8⟩ := near_some HNE.out
    have hkm : k < m := by omega
    obtain ⟨ad', A3, c3, e, x1, hbyk⟩ := lst_last HLW.out k (by rw [HL.out, HM.out]; exact hkm)
    injection e with e
    subst e
    have hxl := HLO.out (l.getD k []) (by rw [List.getD_eq_getElem?_getD, List.getElem?_eq_getElem (by rw [HL.out, HM.out]; exact hkm)]; exact List.getElem_mem _)
    obtain ⟨x, hx⟩ : ∃ x, l.getD k [] = x := ⟨_, rfl⟩
    have HPAk := Lib.hid (HPA.out k rfl)
    have HPWk := Lib.hid (HPW.out k rfl)
    clear HPA HPW
    rw [hx] at x1 hbyk hxl HPAk HPWk
    have y1 := (HB1.out.cell (World.block_lt_of_cell? w _ x1)).trans x1
    have HSX := Lib.hid ((by_sl hbyk).below HB1.out)
    have HSO := Lib.hid (by_sl HBO1.out)
    have HMK := Lib.hid (make_any _ _ x o w1 HSX.out HSO.out hxl HOL.out)
    obtain ⟨xl, hxn⟩ : ∃ n, x.length = n := ⟨_, rfl⟩
    rw [hxn] at y1 HMK
    obtain ⟨Dl, hDl⟩ : ∃ Dl, makeD x o = Dl := ⟨_, rfl⟩
    rw [hDl] at HMK HPAk HPWk
    have z2 : (0 : Int) ≤ (k : Int) := by omega
    have z3 : (k : Int) < (m : Int) := by omega
    have z4 : (k : Int) < (i : Int) := by omega
    rw [hnv]
    have HKI := Lib.hid hki
    clear x1 hbyk hxl hx hxn hDl hnv hki hkm x0
    go_wp2_with fail
    refine HMK.out.mono ?_
    rintro y w2m ⟨vm, rfl, hom, hbm⟩
    obtain ⟨Am, cm, rfl, _, _⟩ := hom.length
    have HOM := Lib.hid hom
    have HBM := Lib.hid hbm
    have HB2 := Lib.hid (HB1.out.trans (hbm.mono HB1.out.size))
    have HOB2 := Lib.hid (HOB1.out.below hbm)
    have HBO2 := Lib.hid (HBO1.out.only (Only.of_below (M := fun _ => False) hbm) (fun _ _ h9 => h9))
    obtain ⟨dl, hdl⟩ : ∃ n, Dl.length = n := ⟨_, rfl⟩
    rw [hdl] at HOM HPAk HPWk ⊢
    have HDL := Lib.hid hdl
    clear hom hbm hdl y0 y1
    have hz2 : B ≤ w2m.heap.size := by have := HZB.out.2; have := HB2.out.size; omega
    by_cases hlt : dl < ol
    · have z5 : (dl : Int) < (ol : Int) := by omega
      obtain ⟨q, hq⟩ : ∃ q, i - k = q := ⟨_, rfl⟩
      obtain ⟨dk, hdkk⟩ : ∃ d, ds.getD k 0 = d := ⟨_, rfl⟩
      rw [hq, hdkk] at HPAk
      rw [hdkk] at hd8
      have hwr : IntKind.i64.wrap ((dk : Int) + 1) = (dk : Int) + 1 := by rw [IntKind.wrap_i64]; omega
      clear hd8
      have hp := HPAk.out (by rw [HOLN.out]; exact hlt)
      subst hp
      have zq : (i : Int) - (k : Int) = (q : Int) := by have := HKI.out; omega
      have hdk : (ds.map fun (d : Nat) => Value.int .i64 (d : Int))[k]? = some (.int .i64 ((ds.getD k 0 : Nat) : Int)) := by
        have := HDSL.out
        rw [List.getElem?_map, List.getElem?_eq_getElem (by omega), List.getD_eq_getElem?_getD, List.getElem?_eq_getElem (by omega)]
        rfl
      obtain ⟨add, rfl, hdc⟩ := reads_at HDR.out k _ hdk
      have HDK : Hid (∀ W, Only (fun j => (Value.slice Ab nb cb).ownBlock = some j) w W → W.cell? (add.add k) = some (.int .i64 ((ds.getD k 0 : Nat) : Int))) := fun W hW => by
        have hlt9 := World.block_lt_of_cell? w _ hdc
        exact (hW.cell hlt9 (fun e9 => by rw [block_of_add] at e9; exact HDB.out add _ _ _ rfl e9 rfl)).trans hdc
      rw [hdkk] at HDK
      have HQ := Lib.hid hq
      clear hdk hdc hlt hq hdkk
      go_wp2_with (at_builtin; refine app_grw1 rfl (.tmp 35) (.tmp 36) rfl w2m B (.slice Ab nb cb) bs rfl HOB2.out 1 1 hb11 _ rfl rfl hs1 hz2 ?_; intro v2 w2 ho2 hon2 hk2; have HO2 := Lib.hid ho2; have HN2 := Lib.hid hon2; have HK2 := Lib.hid hk2; obtain ⟨A2', n2', c2', hv2⟩ := own_slice ho2; subst hv2; clear ho2 hon2 hk2)
      refine (pnum_any (.slice A2' n2' c2') (bs ++ [1]) q B w2 HO2.out (by have := HKI.out; have := HQ.out; omega) (by have := HBL.out; simp; omega) (by have := HN2.out.size; have := HB2.out.size; have := HZB.out; omega)).mono ?_
      rintro y w3 ⟨v3, rfl, ho3, hon3, hk3⟩
      obtain ⟨A3', n3', c3', hv3⟩ := own_slice ho3
      subst hv3
      have HO3 := Lib.hid ho3
      have hg3 := grw_then HN2.out hon3 HK2.out hk3
      have HG3 := Lib.hid hg3
      have HW3 : Hid (Only (fun j => (Value.slice Ab nb cb).ownBlock = some j) w w3) := (Only.of_below HB2.out).trans hg3.1 (fun _ h9 => .inl h9)
      have HD3 : Hid (By (fun j => w1.heap.size ≤ j ∧ j < w2m.heap.size) w3 (.slice Am dl cm) Dl) := (own_by (F := fun j => w1.heap.size ≤ j ∧ j < w2m.heap.size) (by have h9 := HOM.out; rw [← HDL.out] at h9; rw [← HDL.out]; exact h9) (fun j hj => by
        have h9 := HOM.out
        rw [← HDL.out] at h9
        rw [← HDL.out] at hj
        exact World.ownsRow.lt h9 j hj)).only hg3.1 (fun j hj e9 => by
        have := (World.ownsRow.lt HB.out j e9).2
        have := HB1.out.size
        omega)
      have c4 := HDK.out w3 HW3.out
      clear ho3 hon3 hk3 hg3
      have hHF : ∀ j, (w1.heap.size ≤ j ∧ j < w2m.heap.size) → (Value.slice A3' n3' c3').ownBlock ≠ some j := fun j hj e9 => by
        rcases HG3.out.2 with h9 | ⟨j9, h9, h8⟩
        · rw [h9] at e9
          have := (World.ownsRow.lt HB.out j e9).2
          have := HB1.out.size
          omega
        · rw [h9] at e9
          injection e9 with e9
          omega
      have hz3 : B ≤ w3.heap.size := by have h9 := HW3.out.size; have := HZB.out; omega
      have hl3 : ((bs ++ [1]) ++ putL q).length ≤ 90000000 := by have := HBL.out; have := putL_len9 (show q ≤ 72057594037927936 from by have := HKI.out; have := HQ.out; omega); simp; omega
      have hdl6 : Dl.length ≤ 1000000 := by rw [HDL.out]; have := HOL.out; have := HOLN.out; omega
      have HPB : Hid (∀ W, (W = w3 ∨ W = w3.drew) → Calls Try.prog 15 #[.slice A3' n3' c3', .slice Am dl cm] W fun e w4 => ∃ A4 n4 c4, e = .returned (.slice A4 n4 c4) ∧ Own w4 B (.slice A4 n4 c4) (((bs ++ [1]) ++ putL q) ++ (putL Dl.length ++ Dl)) ∧ Only (fun j => (Value.slice Ab nb cb).ownBlock = some j) w w4 ∧ ((Value.slice A4 n4 c4).ownBlock = (Value.slice Ab nb cb).ownBlock ∨ ∃ j, (Value.slice A4 n4 c4).ownBlock = some j ∧ w.heap.size ≤ j) ∧ w4.cell? (add.add k) = some (.int .i64 (dk : Int))) := by
        intro W hW
        have hO : Own W B (.slice A3' n3' c3') ((bs ++ [1]) ++ putL q) := by rcases hW with rfl | rfl; exact HO3.out; exact HO3.out.drew
        have hD : By (fun j => w1.heap.size ≤ j ∧ j < w2m.heap.size) W (.slice Am dl cm) Dl := by
          rcases hW with rfl | rfl
          · exact HD3.out
          · exact HD3.out.only (M := fun _ => False) ((Only.refl _ w3).drew) (fun _ _ h9 => h9)
        have hWz : W.heap.size = w3.heap.size := by rcases hW with rfl | rfl; rfl; rfl
        refine (pbytes_any (.slice A3' n3' c3') (.slice Am dl cm) ((bs ++ [1]) ++ putL q) Dl (fun j => w1.heap.size ≤ j ∧ j < w2m.heap.size) B W hO hD hHF (fun j hj => by have := HG3.out.1.size; omega) hdl6 hl3 (by rw [hWz]; exact hz3)).mono ?_
        rintro e w4 ⟨v4, he, ho4, hon4, hk4⟩
        have hon4' : Only (fun j => (Value.slice A3' n3' c3').ownBlock = some j) w3 w4 := by
          rcases hW with rfl | rfl
          · exact hon4
          · exact ⟨hon4.os, hon4.tape, hon4.output, hon4.size, hon4.block⟩
        rw [hWz] at hk4
        have hg4 := grw_then HG3.out.1 hon4' HG3.out.2 hk4
        have hw4 := (Only.of_below (M := fun j => (Value.slice Ab nb cb).ownBlock = some j) HB2.out).trans hg4.1 (fun _ h9 => .inl h9)
        obtain ⟨A4, n4, c4, hv4⟩ := own_slice ho4
        subst hv4
        exact ⟨A4, n4, c4, he, ho4, hw4, hg4.2.imp id (fun ⟨j, h9, h8⟩ => ⟨j, h9, Nat.le_trans HB2.out.size h8⟩), HDK.out w4 hw4⟩
      clear hHF hz3 hl3 hdl6
      go_upto_region 8 with (fail)
      go_region_held3 (fun W => W.cell? (add.add k) = some (.int .i64 (dk : Int))) (first | exact c5 | exact c4)
        (first | (go_at_call 15; refine (HPB.out _ (by first | exact Or.inl rfl | exact Or.inr rfl)).mono ?_; rintro y w4 ⟨A4, n4, c4', rfl, ho4, hw4, hk4, c5⟩; have HO4 := Lib.hid ho4; have HW4 := Lib.hid hw4; have HK4 := Lib.hid hk4; clear ho4 hw4 hk4))
      go_wp2_with fail
      go_ret2
      refine ⟨_, rfl, ?_, HW4.out, HK4.out⟩
      have h9 := HO4.out
      unfold aheadE
      simpa [List.append_assoc] using h9
    · have z5 : (ol : Int) ≤ (dl : Int) := by omega
      have hp := HPWk.out (by rw [HOLN.out]; exact hlt)
      subst hp
      clear hlt hd8
      go_wp2_with (at_builtin; refine app_grw1 rfl (.tmp 50) (.tmp 51) rfl w2m B (.slice Ab nb cb) bs rfl HOB2.out 0 0 hb0 _ rfl rfl hs1 hz2 ?_; intro v2 w2 ho2 hon2 hk2; have HO2 := Lib.hid ho2; have HN2 := Lib.hid hon2; have HK2 := Lib.hid hk2; obtain ⟨A2', n2', c2', hv2⟩ := own_slice ho2; subst hv2; clear ho2 hon2 hk2)
      refine (pbytes_any (.slice A2' n2' c2') (.slice A2 ol c2) (bs ++ [0]) o (fun j => j < w0.heap.size) B w2 HO2.out (by have h9 := HBO2.out.only HN2.out (fun j hj e => HOF.out j hj e); have h8 := HOLN.out; rw [← h8] at h9 ⊢; exact h9) (fun j hj e => by have := (World.ownsRow.lt HO2.out j e).1; have := HZB.out.1; omega) (fun j hj => by have := HN2.out.size; have := HB2.out.size; have := HZB.out; omega) (by have := HOL.out; omega) (by have := HBL.out; simp; omega) (by have := HN2.out.size; have := HB2.out.size; have := HZB.out; omega)).mono ?_
      rintro y w3 ⟨v3, rfl, ho3, hon3, hk3⟩
      have HO3 := Lib.hid ho3
      have HG := Lib.hid (grw_then HN2.out hon3 HK2.out hk3)
      clear ho3 hon3 hk3
      go_wp2_with fail
      go_ret2
      refine ⟨v3, rfl, ?_, ?_, ?_⟩
      · have h9 := HO3.out
        rw [HOLN.out, List.append_assoc] at h9
        unfold wholeE
        rw [HOLN.out]
        exact h9
      · exact (Only.of_below HB2.out).trans HG.out.1 (fun _ h9 => .inl h9)
      · exact HG.out.2.imp id (fun ⟨j, h9, h8⟩ => ⟨j, h9, Nat.le_trans HB2.out.size h8⟩)
end Go.Proofs.Ytodlaikemoedfaa.Ob
