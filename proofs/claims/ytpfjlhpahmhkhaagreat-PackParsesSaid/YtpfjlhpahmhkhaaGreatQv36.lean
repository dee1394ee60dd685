/- Texts put together: VPkG, VPk5, VShDl2. -/
import Derived.Test.YtpfjlhpahmhkhaaGreatQv35
import Derived.Test.YtpfjlhpahmhkhaaGreatQv32
import Derived.Test.YtpfjlhpahmhkhaaGreatQv33
import Derived.BigQuiet
/- Package pack: putObject. -/
set_option linter.unusedVariables false
set_option linter.unusedSimpArgs false
namespace Go.Proofs.YtpfjlhpahmhkhaaGreat.Ob
open Go.RowKit Go.Proofs.YtpfjlhpahmhkhaaGreat.Sh
open Go.Proofs.YtpfjlhpahmhkhaaGreat.Tx (Shape InL TmpL OwnL Typed Only By Rd Datas list_appendL step_appendL)
def PutPost2 (w : World) (B : Nat) (v : Value) (bs news : List UInt8) (d : Nat) (e : Ending) (w' : World) : Prop :=
 ∃ v', e = .returned (.tuple #[v', .int .i64 (d : Int)]) ∧ Own w' B v' (bs ++ news) ∧ Only (fun k => v.ownBlock = some k) w w' ∧ (v'.ownBlock = v.ownBlock ∨ ∃ k, v'.ownBlock = some k ∧ w.heap.size ≤ k)
theorem own_slice {w : World} {B : Nat} {v : Value} {bs : List UInt8} (h : Own w B v bs) : ∃ A n c, v = .slice A n c := by
 obtain ⟨A, c, hv, _⟩ := h.length
 exact ⟨A, _, c, hv⟩
theorem lst_last {w : World} {A : Option Addr} {n c : Nat} {l : List (List UInt8)} (h : LsV w (.slice A n c) l) (k : Nat) (hk : k < l.length) : ∃ (ad : Addr) (A2 : Option Addr) (c2 : Nat), A = some ad ∧ w.cell? (ad.add k) = some (.slice A2 (l.getD k []).length c2) ∧ By (fun j => j < w.heap.size) w (.slice A2 (l.getD k []).length c2) (l.getD k []) := by
 have hg : l[k]? = some (l.getD k []) := by rw [List.getD_eq_getElem?_getD, List.getElem?_eq_getElem hk]; rfl
 obtain ⟨ad, A2, c2, hA, hc, _, _, hs⟩ := h.at_ k _ hg
 exact ⟨ad, A2, c2, hA, hc, sl_by hs⟩
set_option maxRecDepth 100000 in
set_option maxHeartbeats 6400000 in
theorem putObject_any (vb vo vd : Value) (bs : List UInt8) (l : List (List UInt8)) (ds : List Nat) (i B : Nat) (w0 w : World) (hb : Own w B vb bs) (ho : LsV w0 vo l) (h0 : Below w0.heap.size w0 w) (hB0 : w0.heap.size ≤ B) (hB : B ≤ w.heap.size)
  (hd : SlV w vd (dsV ds)) (hdb : ∀ ad n c k, vd = .slice (some ad) n c → vb.ownBlock = some k → ad.block ≠ k) (hl : l.length = i + 1) (hds : ds.length = i) (hi : i ≤ 1000) (hlo : ∀ o ∈ l, o.length ≤ 20000) (hne : ∀ o ∈ l, o ≠ []) (hbl : bs.length ≤ 80000000) :
  Calls Tryz.prog 181 #[vb, vo, vd] w (PutPost2 w B vb bs (putP l ds i).1 (putP l ds i).2) := by
 have HB := Lib.hid hb
 have H0 := Lib.hid h0
 have hLw := ho.below h0
 have HLW := Lib.hid hLw
 have HNR := Lib.hid (nearest_any vo vd l ds i w hl hds hLw hd hne (by omega))
 obtain ⟨A, c, rfl, hlc, hcm⟩ := ho.slice
 obtain ⟨Ab, nb, cb, rfl⟩ := own_slice hb
 obtain ⟨D, dc, rfl, hdl, hdm, hDR⟩ := hd.len
 rw [dsV, List.length_map, hds] at hdl hDR HNR hdb
 rw [dsV, List.length_map, hds]
 have HDR := Lib.hid hDR
 have HDB := Lib.hid hdb
 rw [hl] at hlc HLW HNR
 rw [hl]
 obtain ⟨m, hm⟩ : ∃ m, i + 1 = m := ⟨_, rfl⟩
 rw [hm] at hlc HLW HNR ⊢
 have HM := Lib.hid hm
 have hmi : (m : Int) - 1 = (i : Int) := by omega
 obtain ⟨ad, A2, c2, rfl, x0, hby⟩ := lst_last HLW.out i (by omega)
 obtain ⟨o, hoo⟩ : ∃ o, l.getD i [] = o := ⟨_, rfl⟩
 have HOO := Lib.hid hoo
 have hol : o.length ≤ 20000 := hlo o (by rw [← hoo, List.getD_eq_getElem?_getD, List.getElem?_eq_getElem (by omega)]; exact List.getElem_mem _)
 have HOL := Lib.hid hol
 rw [hoo] at x0 hby HNR
 -- the object lies below B
 have hbyB : By (fun j => j < w0.heap.size) w (.slice A2 o.length c2) o := by
  obtain ⟨ad', A3, c3, e, x1, hby0⟩ := lst_last (show LsV w0 (.slice (some ad) l.length c) l from ho) i (by omega)
  injection e with e
  subst e
  have x2 := (h0.cell (World.block_lt_of_cell? w0 _ x1)).trans x1
  rw [hoo] at x2 hby0
  rw [x0] at x2
  injection x2 with x2
  rw [x2]
  exact hby0.only (Only.of_below (M := fun _ => False) h0) (fun _ _ h9 => h9)
 have HBO := Lib.hid hbyB
 have HLO := Lib.hid hlo
 have HL := Lib.hid hl
 have HPN := Lib.hid (fun (hn : nearP l ds o i = none) => by have := put_none (l := l) (ds := ds) (i := i) (by rw [hoo]; exact hn); rw [hoo] at this; exact this)
 have HPA := Lib.hid (fun (k : Nat) (hn : nearP l ds o i = some k) (hlt : (makeD (l.getD k []) o).length < o.length) => by have := put_ahead (l := l) (ds := ds) (i := i) (k := k) (by rw [hoo]; exact hn) (by rw [hoo]; exact hlt); rw [hoo] at this; exact this)
 have HPW := Lib.hid (fun (k : Nat) (hn : nearP l ds o i = some k) (hlt : ¬ (makeD (l.getD k []) o).length < o.length) => by have := put_whole (l := l) (ds := ds) (i := i) (k := k) (by rw [hoo]; exact hn) (by rw [hoo]; exact hlt); rw [hoo] at this; exact this)
 obtain ⟨P, hP⟩ : ∃ P, putP l ds i = P := ⟨_, rfl⟩
 rw [hP] at HPN HPA HPW ⊢
 obtain ⟨near, hnear⟩ : ∃ near, nearP l ds o i = near := ⟨_, rfl⟩
 rw [hnear] at HNR HPN HPA HPW
 have HNE := Lib.hid hnear
 obtain ⟨ol, hol2⟩ : ∃ n, o.length = n := ⟨_, rfl⟩
 rw [hol2] at x0 HBO
 have HOLN := Lib.hid hol2
 have z0 : (0 : Int) ≤ (i : Int) := by omega
 have z1 : (i : Int) < (m : Int) := by omega
 have hnbl : nb = bs.length := by
  obtain ⟨_, _, e, _⟩ := hb.length
  injection e
 have HZB : Hid (w0.heap.size ≤ B ∧ B ≤ w.heap.size) := ⟨hB0, hB⟩
 have HBL := Lib.hid hbl
 have HDSL := Lib.hid hds
 have HOF : Hid (∀ k, k < w0.heap.size → (Value.slice Ab nb cb).ownBlock ≠ some k) := fun k hk e => by
  have := (World.ownsRow.lt hb k e).1
  omega
 clear ho hb h0 hLw hd hDR hdb hby hbyB hlo hl hP hnear hol2 hoo hm hol hdl hdm hcm hlc hds hne hbl hnbl hB0 hB
 go_enter Tryz.func181, Tryz.ntmps181
 go_wp2_with fail
 refine HNR.out.mono ?_
 rintro y w1 ⟨rfl, hb1⟩
 have HB1 := Lib.hid hb1
 have HOB1 := Lib.hid (HB.out.below hb1)
 have HBO1 := Lib.hid (HBO.out.only (Only.of_below (M := fun _ => False) hb1) (fun _ _ h9 => h9))
 have y0 := (hb1.cell (World.block_lt_of_cell? w _ x0)).trans x0
 clear hb1
 have hb0 : bi 0 = 0 := by unfold bi; rfl
 have hb11 : bi 1 = 1 := by unfold bi; rfl
 have hs1 : bs.length + 1 ≤ 140737488355328 := by have := HBL.out; omega
 have hz1 : B ≤ w1.heap.size := by have := HZB.out.2; have := HB1.out.size; omega
 cases near with
 | none =>
  have hp := HPN.out rfl
  subst hp
  have hnv : nearV none = -1 := rfl
  rw [hnv]
  go_wp2_with (at_builtin; refine app_grw1 rfl (.tmp 50) (.tmp 51) rfl w1 B (.slice Ab nb cb) bs rfl HOB1.out 0 0 hb0 _ rfl rfl hs1 hz1 ?_; intro v2 w2 ho2 hon2 hk2; have HO2 := Lib.hid ho2; have HN2 := Lib.hid hon2; have HK2 := Lib.hid hk2; obtain ⟨A2', n2', c2', hv2⟩ := own_slice ho2; subst hv2; clear ho2 hon2 hk2)
  refine (pbytes_any (.slice A2' n2' c2') (.slice A2 ol c2) (bs ++ [0]) o (fun j => j < w0.heap.size) B w2 HO2.out (by have h9 := HBO1.out.only HN2.out (fun j hj e => HOF.out j hj e); have h8 := HOLN.out; rw [← h8] at h9 ⊢; exact h9) (fun j hj e => by have := (World.ownsRow.lt HO2.out j e).1; have := HZB.out.1; omega) (fun j hj => by have := HN2.out.size; have := HB1.out.size; have := HZB.out; omega) (by have := HOL.out; omega) (by have := HBL.out; simp; omega) (by have := HN2.out.size; have := HB1.out.size; have := HZB.out; omega)).mono ?_
  rintro y w3 ⟨v3, rfl, ho3, hon3, hk3⟩
  have HO3 := Lib.hid ho3
  have HG := Lib.hid (grw_then HN2.out hon3 HK2.out hk3)
  clear ho3 hon3 hk3
  go_wp2_with fail
  go_ret2
  refine ⟨v3, rfl, ?_, ?_, ?_⟩
  ·have h9 := HO3.out
   rw [HOLN.out, List.append_assoc] at h9
   unfold wholeE
   rw [HOLN.out]
   exact h9
  ·exact (Only.of_below HB1.out).trans HG.out.1 (fun _ h9 => .inl h9)
  ·exact HG.out.2.imp id (fun ⟨j, h9, h8⟩ => ⟨j, h9, Nat.le_trans HB1.out.size h8⟩)
 | some k =>
  have hnv : nearV (some k) = (k : Int) := rfl
  obtain ⟨hki, _, hd8⟩ := near_some HNE.out
  have hkm : k < m := by omega
  obtain ⟨ad', A3, c3, e, x1, hbyk⟩ := lst_last HLW.out k (by rw [HL.out, HM.out]; exact hkm)
  injection e with e
  subst e
  have hxl := HLO.out (l.getD k []) (by rw [List.getD_eq_getElem?_getD, List.getElem?_eq_getElem (by rw [HL.out, HM.out]; exact hkm)]; exact List.getElem_mem _)
  obtain ⟨x, hx⟩ : ∃ x, l.getD k [] = x := ⟨_, rfl⟩
  have HPAk := Lib.hid (HPA.out k rfl)
  have HPWk := Lib.hid (HPW.out k rfl)
  clear HPA HPW
  rw [hx] at x1 hbyk hxl HPAk HPWk
  have y1 := (HB1.out.cell (World.block_lt_of_cell? w _ x1)).trans x1
  have HSX := Lib.hid ((by_sl hbyk).below HB1.out)
  have HSO := Lib.hid (by_sl HBO1.out)
  have HMK := Lib.hid (make_any _ _ x o w1 HSX.out HSO.out hxl HOL.out)
  obtain ⟨xl, hxn⟩ : ∃ n, x.length = n := ⟨_, rfl⟩
  rw [hxn] at y1 HMK
  obtain ⟨Dl, hDl⟩ : ∃ Dl, makeD x o = Dl := ⟨_, rfl⟩
  rw [hDl] at HMK HPAk HPWk
  have z2 : (0 : Int) ≤ (k : Int) := by omega
  have z3 : (k : Int) < (m : Int) := by omega
  have z4 : (k : Int) < (i : Int) := by omega
  rw [hnv]
  have HKI := Lib.hid hki
  clear x1 hbyk hxl hx hxn hDl hnv hki hkm x0
  go_wp2_with fail
  refine HMK.out.mono ?_
  rintro y w2m ⟨vm, rfl, hom, hbm⟩
  obtain ⟨Am, cm, rfl, _, _⟩ := hom.length
  have HOM := Lib.hid hom
  have HBM := Lib.hid hbm
  have HB2 := Lib.hid (HB1.out.trans (hbm.mono HB1.out.size))
  have HOB2 := Lib.hid (HOB1.out.below hbm)
  have HBO2 := Lib.hid (HBO1.out.only (Only.of_below (M := fun _ => False) hbm) (fun _ _ h9 => h9))
  obtain ⟨dl, hdl⟩ : ∃ n, Dl.length = n := ⟨_, rfl⟩
  rw [hdl] at HOM HPAk HPWk ⊢
  have HDL := Lib.hid hdl
  clear hom hbm hdl y0 y1
  have hz2 : B ≤ w2m.heap.size := by have := HZB.out.2; have := HB2.out.size; omega
  by_cases hlt : dl < ol
  ·have z5 : (dl : Int) < (ol : Int) := by omega
   obtain ⟨q, hq⟩ : ∃ q, i - k = q := ⟨_, rfl⟩
   obtain ⟨dk, hdkk⟩ : ∃ d, ds.getD k 0 = d := ⟨_, rfl⟩
   rw [hq, hdkk] at HPAk
   rw [hdkk] at hd8
   have hwr : IntKind.i64.wrap ((dk : Int) + 1) = (dk : Int) + 1 := by rw [IntKind.wrap_i64]; omega
   clear hd8
   have hp := HPAk.out (by rw [HOLN.out]; exact hlt)
   subst hp
   have zq : (i : Int) - (k : Int) = (q : Int) := by have := HKI.out; omega
   have hdk : (ds.map fun (d : Nat) => Value.int .i64 (d : Int))[k]? = some (.int .i64 ((ds.getD k 0 : Nat) : Int)) := by
    have := HDSL.out
    rw [List.getElem?_map, List.getElem?_eq_getElem (by omega), List.getD_eq_getElem?_getD, List.getElem?_eq_getElem (by omega)]
    rfl
   obtain ⟨add, rfl, hdc⟩ := reads_at HDR.out k _ hdk
   have HDK : Hid (∀ W, Only (fun j => (Value.slice Ab nb cb).ownBlock = some j) w W → W.cell? (add.add k) = some (.int .i64 ((ds.getD k 0 : Nat) : Int))) := fun W hW => by
    have hlt9 := World.block_lt_of_cell? w _ hdc
    exact (hW.cell hlt9 (fun e9 => by rw [block_of_add] at e9; exact HDB.out add _ _ _ rfl e9 rfl)).trans hdc
   rw [hdkk] at HDK
   have HQ := Lib.hid hq
   clear hdk hdc hlt hq hdkk
   go_wp2_with (at_builtin; refine app_grw1 rfl (.tmp 35) (.tmp 36) rfl w2m B (.slice Ab nb cb) bs rfl HOB2.out 1 1 hb11 _ rfl rfl hs1 hz2 ?_; intro v2 w2 ho2 hon2 hk2; have HO2 := Lib.hid ho2; have HN2 := Lib.hid hon2; have HK2 := Lib.hid hk2; obtain ⟨A2', n2', c2', hv2⟩ := own_slice ho2; subst hv2; clear ho2 hon2 hk2)
   refine (pnum_any (.slice A2' n2' c2') (bs ++ [1]) q B w2 HO2.out (by have := HKI.out; have := HQ.out; omega) (by have := HBL.out; simp; omega) (by have := HN2.out.size; have := HB2.out.size; have := HZB.out; omega)).mono ?_
   rintro y w3 ⟨v3, rfl, ho3, hon3, hk3⟩
   obtain ⟨A3', n3', c3', hv3⟩ := own_slice ho3
   subst hv3
   have HO3 := Lib.hid ho3
   have hg3 := grw_then HN2.out hon3 HK2.out hk3
   have HG3 := Lib.hid hg3
   have HW3 : Hid (Only (fun j => (Value.slice Ab nb cb).ownBlock = some j) w w3) := (Only.of_below HB2.out).trans hg3.1 (fun _ h9 => .inl h9)
   have HD3 : Hid (By (fun j => w1.heap.size ≤ j ∧ j < w2m.heap.size) w3 (.slice Am dl cm) Dl) := (own_by (F := fun j => w1.heap.size ≤ j ∧ j < w2m.heap.size) (by have h9 := HOM.out; rw [← HDL.out] at h9; rw [← HDL.out]; exact h9) (fun j hj => by
    have h9 := HOM.out
    rw [← HDL.out] at h9
    rw [← HDL.out] at hj
    exact World.ownsRow.lt h9 j hj)).only hg3.1 (fun j hj e9 => by
    have := (World.ownsRow.lt HB.out j e9).2
    have := HB1.out.size
    omega)
   have c4 := HDK.out w3 HW3.out
   clear ho3 hon3 hk3 hg3
   have hHF : ∀ j, (w1.heap.size ≤ j ∧ j < w2m.heap.size) → (Value.slice A3' n3' c3').ownBlock ≠ some j := fun j hj e9 => by
    rcases HG3.out.2 with h9 | ⟨j9, h9, h8⟩
    ·rw [h9] at e9
     have := (World.ownsRow.lt HB.out j e9).2
     have := HB1.out.size
     omega
    ·rw [h9] at e9
     injection e9 with e9
     omega
   have hz3 : B ≤ w3.heap.size := by have h9 := HW3.out.size; have := HZB.out; omega
   have hl3 : ((bs ++ [1]) ++ putL q).length ≤ 90000000 := by have := HBL.out; have := putL_len9 (show q ≤ 72057594037927936 from by have := HKI.out; have := HQ.out; omega); simp; omega
   have hdl6 : Dl.length ≤ 1000000 := by rw [HDL.out]; have := HOL.out; have := HOLN.out; omega
   have HPB : Hid (∀ W, (W = w3 ∨ W = w3.drew) → Calls Tryz.prog 244 #[.slice A3' n3' c3', .slice Am dl cm] W fun e w4 => ∃ A4 n4 c4, e = .returned (.slice A4 n4 c4) ∧ Own w4 B (.slice A4 n4 c4) (((bs ++ [1]) ++ putL q) ++ (putL Dl.length ++ Dl)) ∧ Only (fun j => (Value.slice Ab nb cb).ownBlock = some j) w w4 ∧ ((Value.slice A4 n4 c4).ownBlock = (Value.slice Ab nb cb).ownBlock ∨ ∃ j, (Value.slice A4 n4 c4).ownBlock = some j ∧ w.heap.size ≤ j) ∧ w4.cell? (add.add k) = some (.int .i64 (dk : Int))) := by
    intro W hW
    have hO : Own W B (.slice A3' n3' c3') ((bs ++ [1]) ++ putL q) := by rcases hW with rfl | rfl; exact HO3.out; exact HO3.out.drew
    have hD : By (fun j => w1.heap.size ≤ j ∧ j < w2m.heap.size) W (.slice Am dl cm) Dl := by
     rcases hW with rfl | rfl
     ·exact HD3.out
     ·exact HD3.out.only (M := fun _ => False) ((Only.refl _ w3).drew) (fun _ _ h9 => h9)
    have hWz : W.heap.size = w3.heap.size := by rcases hW with rfl | rfl; rfl; rfl
    refine (pbytes_any (.slice A3' n3' c3') (.slice Am dl cm) ((bs ++ [1]) ++ putL q) Dl (fun j => w1.heap.size ≤ j ∧ j < w2m.heap.size) B W hO hD hHF (fun j hj => by have := HG3.out.1.size; omega) hdl6 hl3 (by rw [hWz]; exact hz3)).mono ?_
    rintro e w4 ⟨v4, he, ho4, hon4, hk4⟩
    have hon4' : Only (fun j => (Value.slice A3' n3' c3').ownBlock = some j) w3 w4 := by
     rcases hW with rfl | rfl
     ·exact hon4
     ·exact ⟨hon4.os, hon4.tape, hon4.output, hon4.size, hon4.block⟩
    rw [hWz] at hk4
    have hg4 := grw_then HG3.out.1 hon4' HG3.out.2 hk4
    have hw4 := (Only.of_below (M := fun j => (Value.slice Ab nb cb).ownBlock = some j) HB2.out).trans hg4.1 (fun _ h9 => .inl h9)
    obtain ⟨A4, n4, c4, hv4⟩ := own_slice ho4
    subst hv4
    exact ⟨A4, n4, c4, he, ho4, hw4, hg4.2.imp id (fun ⟨j, h9, h8⟩ => ⟨j, h9, Nat.le_trans HB2.out.size h8⟩), HDK.out w4 hw4⟩
   clear hHF hz3 hl3 hdl6
   go_upto_region 8 with (fail)
   go_region_held3 (fun W => W.cell? (add.add k) = some (.int .i64 (dk : Int))) (first | exact c5 | exact c4)
    (first | (go_at_call 244; refine (HPB.out _ (by first | exact Or.inl rfl | exact Or.inr rfl)).mono ?_; rintro y w4 ⟨A4, n4, c4', rfl, ho4, hw4, hk4, c5⟩; have HO4 := Lib.hid ho4; have HW4 := Lib.hid hw4; have HK4 := Lib.hid hk4; clear ho4 hw4 hk4))
   go_wp2_with fail
   go_ret2
   refine ⟨_, rfl, ?_, HW4.out, HK4.out⟩
   have h9 := HO4.out
   unfold aheadE
   simpa [List.append_assoc] using h9
  ·have z5 : (ol : Int) ≤ (dl : Int) := by omega
   have hp := HPWk.out (by rw [HOLN.out]; exact hlt)
   subst hp
   clear hlt hd8
   go_wp2_with (at_builtin; refine app_grw1 rfl (.tmp 50) (.tmp 51) rfl w2m B (.slice Ab nb cb) bs rfl HOB2.out 0 0 hb0 _ rfl rfl hs1 hz2 ?_; intro v2 w2 ho2 hon2 hk2; have HO2 := Lib.hid ho2; have HN2 := Lib.hid hon2; have HK2 := Lib.hid hk2; obtain ⟨A2', n2', c2', hv2⟩ := own_slice ho2; subst hv2; clear ho2 hon2 hk2)
   refine (pbytes_any (.slice A2' n2' c2') (.slice A2 ol c2) (bs ++ [0]) o (fun j => j < w0.heap.size) B w2 HO2.out (by have h9 := HBO2.out.only HN2.out (fun j hj e => HOF.out j hj e); have h8 := HOLN.out; rw [← h8] at h9 ⊢; exact h9) (fun j hj e => by have := (World.ownsRow.lt HO2.out j e).1; have := HZB.out.1; omega) (fun j hj => by have := HN2.out.size; have := HB2.out.size; have := HZB.out; omega) (by have := HOL.out; omega) (by have := HBL.out; simp; omega) (by have := HN2.out.size; have := HB2.out.size; have := HZB.out; omega)).mono ?_
   rintro y w3 ⟨v3, rfl, ho3, hon3, hk3⟩
   have HO3 := Lib.hid ho3
   have HG := Lib.hid (grw_then HN2.out hon3 HK2.out hk3)
   clear ho3 hon3 hk3
   go_wp2_with fail
   go_ret2
   refine ⟨v3, rfl, ?_, ?_, ?_⟩
   ·have h9 := HO3.out
    rw [HOLN.out, List.append_assoc] at h9
    unfold wholeE
    rw [HOLN.out]
    exact h9
   ·exact (Only.of_below HB2.out).trans HG.out.1 (fun _ h9 => .inl h9)
   ·exact HG.out.2.imp id (fun ⟨j, h9, h8⟩ => ⟨j, h9, Nat.le_trans HB2.out.size h8⟩)
end Go.Proofs.YtpfjlhpahmhkhaaGreat.Ob
/- Package pack's reader: getNumber, getPiece, getBy, getWhole, getAhead, getBytes. -/
set_option linter.unusedVariables false
set_option linter.unusedSimpArgs false
namespace Go.Proofs.YtpfjlhpahmhkhaaGreat.Ob
open Go.RowKit Go.Proofs.YtpfjlhpahmhkhaaGreat.Sh
open Go.Proofs.YtpfjlhpahmhkhaaGreat.Tx (Shape InL TmpL OwnL Typed Only By Rd Datas list_appendL step_appendL)
set_option maxRecDepth 100000 in
set_option maxHeartbeats 400000 in
theorem bclone_any (v : Value) (bs : List UInt8) (w : World) (h : Sl w v bs) (hn : bs.length ≤ 140737488355328) : Calls Tryz.prog 73 #[v] w (OwnPost w bs) := by
 obtain ⟨A, c, rfl, hlc, hcm, hI, hA⟩ := h
 rcases A with _ | ad
 ·obtain rfl := hA rfl
  have hnil := fun (w : World) => Lib.run_eql_slice_nil (P := Tryz.prog) w 32 5 none 0 c 0 0 Tryz.underlying32
  simp only [Option.isNone] at hnil
  clear hI hA hlc
  show Calls _ _ #[.slice none 0 c] _ _
  go_enter Tryz.func73, Tryz.ntmps73
  go_wp2_with fail
  go_ret
  exact ⟨_, rfl, Own.nil_ _ _, Below.refl _ _⟩
 ·have hI1 : In (w.alloc (.cells #[] 5)) (some ad) bs := hI.below ((Below.refl _ _).alloc (Nat.le_refl _) _)
  have hr := hI1.reads
  have hown : Own (w.alloc (.cells #[] 5)) w.heap.size (.slice (some ⟨w.heap.size, 0, none⟩) 0 0) [] :=
   World.ownsRow_made w #[] 0 (Nat.le_refl _) (by unfold maxLen; omega) rfl
  obtain ⟨l, hl⟩ : ∃ l, bs.length = l := ⟨_, rfl⟩
  rw [hl] at hr hn ⊢
  have hnil := fun (w : World) => Lib.run_eql_slice_nil (P := Tryz.prog) w 32 5 (some ad) l c 0 0 Tryz.underlying32
  simp only [Option.isNone] at hnil
  have hsm : ([] : List UInt8).length + l ≤ 140737488355328 := by simpa using hn
  have hz : w.heap.size ≤ (w.alloc (.cells #[] 5)).heap.size := by simp
  have HR := Lib.hid hr
  have HOWN := Lib.hid hown
  have HZ := Lib.hid hz
  clear hl hr hown hz hI hI1 hA hlc hcm
  go_enter Tryz.func73, Tryz.ntmps73
  go_wp2_with (at_builtin; refine append_bytes rfl (.tmp 5) (.tmp 6) rfl _ w.heap.size (.slice (some ⟨w.heap.size, 0, none⟩) 0 0) [] rfl HOWN.out _ (some ad) l c bs rfl HR.out hsm HZ.out ?_; intro v3 w3 ho3 hb3; have HO := Lib.hid ho3; have HB := Lib.hid hb3; clear ho3 hb3)
  go_ret
  refine ⟨v3, rfl, ?_, ((Below.refl _ _).alloc (Nat.le_refl _) _).trans HB.out⟩
  simpa using HO.out
set_option maxRecDepth 100000 in
set_option maxHeartbeats 400000 in
theorem beq_any (v1 v2 : Value) (d1 d2 : List UInt8) (w : World) (h1 : Sl w v1 d1) (h2 : Sl w v2 d2) : Calls Tryz.prog 183 #[v1, v2] w fun e w' => e = .returned (.bool (d1 == d2)) ∧ w = w' := by
 obtain ⟨A1, c1, rfl, _, _, i1, n1⟩ := h1
 obtain ⟨A2, c2, rfl, _, _, i2, n2⟩ := h2
 have k1 := conv_str w A1 d1 c1 i1 n1
 have k2 := conv_str w A2 d2 c2 i2 n2
 obtain ⟨l1, e1⟩ : ∃ l, d1.length = l := ⟨_, rfl⟩
 obtain ⟨l2, e2⟩ : ∃ l, d2.length = l := ⟨_, rfl⟩
 rw [e1] at k1 ⊢
 rw [e2] at k2 ⊢
 clear e1 e2 i1 n1 i2 n2
 go_enter Tryz.func183, Tryz.ntmps183
 go_wp2_with fail
 go_ret
 refine ⟨?_, rfl⟩
 show Ending.returned (.bool ((str d1).toList == (str d2).toList)) = _
 rw [str_toList, str_toList]
set_option maxRecDepth 100000 in
set_option maxHeartbeats 400000 in
theorem bpre_any (v1 v2 : Value) (d1 d2 : List UInt8) (w : World) (h1 : Sl w v1 d1) (h2 : Sl w v2 d2) (hl : d2.length ≤ d1.length) : Calls Tryz.prog 248 #[v1, v2] w fun e w' => e = .returned (.bool (d1.take d2.length == d2)) ∧ w = w' := by
 have H1 := Lib.hid h1
 have H2 := Lib.hid h2
 obtain ⟨A1, c1, rfl, hc1, _⟩ := h1
 obtain ⟨A2, c2, rfl, _⟩ := h2
 obtain ⟨l1, e1⟩ : ∃ l, d1.length = l := ⟨_, rfl⟩
 obtain ⟨l2, e2⟩ : ∃ l, d2.length = l := ⟨_, rfl⟩
 have HSF := Lib.hid (sl_front H1.out d2.length hl)
 have hs := fun W => run_front A1 l1 c1 l2 (by omega) W
 rw [e1] at hl hc1 H1 ⊢
 rw [e2] at hl H2 HSF ⊢
 have z1 : (l2 : Int) ≤ (l1 : Int) := by omega
 obtain ⟨T, hT⟩ : ∃ T, (if c1 = 0 then A1 else A1.map (·.add 0)) = T := ⟨_, rfl⟩
 rw [hT] at hs HSF
 clear e1 e2 hT
 go_enter Tryz.func248, Tryz.ntmps248
 go_wp2_with fail
 refine (beq_any _ _ (d1.take l2) d2 _ HSF.out H2.out).mono ?_
 rintro e w' ⟨rfl, rfl⟩
 go_wp2_with fail
 go_ret
 exact ⟨rfl, rfl⟩
section
variable {w0 w : World} {F : Nat → Prop} {p : Nat} {vb fv vr : Value} {k : Nat} {read : List EntM} {b : List UInt8}
theorem PrAt.b_ (h : PrAt w0 w F p vb fv k vr read) : w.cell? ⟨p, 0, none⟩ = some vb := h.blk.cell 0
theorem PrAt.at_ (h : PrAt w0 w F p vb fv k vr read) : w.cell? ⟨p, 1, none⟩ = some (.int .i64 (k : Int)) := h.blk.cell 1
theorem PrAt.f_ (h : PrAt w0 w F p vb fv k vr read) : w.cell? ⟨p, 2, none⟩ = some fv := h.blk.cell 2
theorem PrAt.r_ (h : PrAt w0 w F p vb fv k vr read) : w.cell? ⟨p, 3, none⟩ = some vr := h.blk.cell 3
theorem PrAt.drewN (h : PrAt w0 w F p vb fv k vr read) (n : Nat) : PrAt w0 (w.drewN n) F p vb fv k vr read := h.below (below_drewN (Below.refl _ _) _)
def Moved (w0 w : World) (F : Nat → Prop) (p : Nat) (vb fv : Value) (k : Nat) (vr : Value) (read : List EntM) (w' : World) : Prop := PrAt w0 w' F p vb fv k vr read ∧ Only (fun j => j = p) w w'
theorem Moved.stay (h : PrAt w0 w F p vb fv k vr read) (n : Nat) : Moved w0 w F p vb fv k vr read (w.drewN n) := ⟨h.drewN n, Only.of_below (below_drewN (Below.refl _ _) _)⟩
theorem Moved.then_ {w1 w2 : World} {k1 k2 : Nat} (h : Moved w0 w F p vb fv k1 vr read w1) (h2 : Moved w0 w1 F p vb fv k2 vr read w2) : Moved w0 w F p vb fv k2 vr read w2 := ⟨h2.1, h.2.trans h2.2 (fun _ h => .inl h)⟩
theorem Moved.below {w1 w2 : World} (h : Moved w0 w F p vb fv k vr read w1) (hb : Below w1.heap.size w1 w2) : Moved w0 w F p vb fv k vr read w2 := ⟨h.1.below hb, h.2.then_below hb⟩
set_option maxRecDepth 100000 in
set_option maxHeartbeats 800000 in
theorem gnum_any (h : PrAt w0 w F p vb fv k vr read) (hs : Sl w0 vb b) {n q e : Int} (hr : getR b (k : Int) = (n, q, e)) (q' : Nat) (hq : e = 0 → q = (q' : Int)) (hn : e ≠ 0 → n = 0) :
  Calls Tryz.prog 249 #[.pointer (some ⟨p, 0, none⟩)] w fun x w' => x = .returned (.tuple #[.int .i64 n, .int .i64 e]) ∧ Moved w0 w F p vb fv (if e = 0 then q' else k) vr read w' := by
 have H := Lib.hid h
 have HG := Lib.hid (fun W (hW : Sl W vb b) => get_any vb b (k : Int) n q e W hW hr)
 have HS := Lib.hid (hs.below h.old)
 have y0 := h.b_
 have y1 := h.at_
 clear h hs hr
 go_enter Tryz.func249, Tryz.ntmps249
 go_upto_region 1 with (fail)
 go_quiet ((go_at_call 299; exact Calls.quiet_of_same ((HG.out _ (by exact HS.out)).mono fun _ _ h => ⟨h.1, h.2.symm⟩)))
 have HM := Lib.hid (Moved.stay H.out nq)
 generalize w.drewN nq = w1 at *
 clear y0 y1
 have y1 := HM.out.1.at_
 have y1f : w1.frozen? ⟨p, 1, none⟩ = false := HM.out.1.blk.frozen 1
 by_cases he : e = 0
 ·subst he
  obtain rfl := hq rfl
  clear hq hn
  go_wp2_with fail
  go_ret2
  exact ⟨rfl, HM.out.1.setAt q', HM.out.2.set_ (.inl rfl) _⟩
 ·obtain rfl := hn he
  have z : (e != 0) = true := by rw [bne_iff_ne]; exact he
  have HE := Lib.hid he
  clear he hq hn
  go_wp2_with fail
  go_ret2
  exact ⟨rfl, HM.out⟩
set_option maxRecDepth 100000 in
set_option maxHeartbeats 800000 in
theorem gpiece_no (h : PrAt w0 w F p vb fv k vr read) (hs : Sl w0 vb b) (n : Int) (hn : (b.length : Int) - (k : Int) < n) (hb : b.length ≤ 1000000) (hk : k ≤ b.length) :
  Calls Tryz.prog 300 #[.pointer (some ⟨p, 0, none⟩), .int .i64 n] w fun x w' => x = .returned (.tuple #[.slice none 0 0, .int .i64 2]) ∧ Moved w0 w F p vb fv k vr read w' := by
 have H := Lib.hid h
 obtain ⟨A, c, rfl, _, _⟩ := hs.len
 obtain ⟨l, hl⟩ : ∃ l, b.length = l := ⟨_, rfl⟩
 rw [hl] at hn hb hk h H hs ⊢
 have y0 := h.b_
 have y1 := h.at_
 clear h hs hl
 go_enter Tryz.func300, Tryz.ntmps300
 go_upto_region 1 with (fail)
 go_quiet (fail)
 go_wp2_with fail
 go_ret2
 exact ⟨rfl, Moved.stay H.out _⟩
set_option maxRecDepth 100000 in
set_option maxHeartbeats 1600000 in
theorem gpiece_any (h : PrAt w0 w F p vb fv k vr read) (hs : Sl w0 vb b) (n : Nat) (hn : k + n ≤ b.length) (hb : b.length ≤ 1000000) :
  Calls Tryz.prog 300 #[.pointer (some ⟨p, 0, none⟩), .int .i64 (n : Int)] w fun x w' => ∃ A c, x = .returned (.tuple #[.slice A n c, .int .i64 0]) ∧ Moved w0 w F p vb fv (k + n) vr read w' ∧ Sl w0 (.slice A n c) ((b.drop k).take n) := by
 have H := Lib.hid h
 obtain ⟨A, c, rfl, hlc, hcm, _⟩ := hs.len
 have HS := Lib.hid (Sl.mid hs k (k + n) (by omega) hn)
 unfold maxLen at hcm
 obtain ⟨l, hl⟩ : ∃ l, b.length = l := ⟨_, rfl⟩
 rw [hl] at hn hb h H hs hlc ⊢
 have y0 := h.b_
 have y1 := h.at_
 have y1f : ∀ m, (w.drewN m).frozen? ⟨p, 1, none⟩ = false := fun m => h.blk.frozen 1
 have e1 : k + n - k = n := by omega
 rw [e1] at HS
 have ks := fun W => d_mid A l c k (k + n) (k : Int) ((k : Int) + (n : Int)) rfl (by omega) (by omega) (by omega) W
 rw [e1] at ks
 obtain ⟨T, hT⟩ : ∃ T, (if c = k then A else A.map (·.add k)) = T := ⟨_, rfl⟩
 rw [hT] at ks HS
 have z1 : (n : Int) ≤ (l : Int) - (k : Int) := by omega
 have z2 : (k : Int) + (n : Int) - (n : Int) = (k : Int) := by omega
 clear h hs hl hT e1
 go_enter Tryz.func300, Tryz.ntmps300
 go_upto_region 1 with (fail)
 go_quiet (fail)
 have HM := Lib.hid (Moved.stay H.out nq)
 generalize w.drewN nq = w1 at *
 clear y0 y1 y1f
 have y1 := HM.out.1.at_
 have y1f : w1.frozen? ⟨p, 1, none⟩ = false := HM.out.1.blk.frozen 1
 go_upto_region 4 with (fail)
 have HM2 : Hid (Moved w0 w F p (.slice A l c) fv (k + n) vr read (w1.setCell ⟨p, 1, none⟩ (.int .i64 ((k : Int) + (n : Int))))) := by
  have h1 := HM.out.1.setAt (k + n)
  have h2 := HM.out.2.set_ (g := p) (i := 1) (.inl rfl) (.int .i64 ((k + n : Nat) : Int))
  have e : ((k + n : Nat) : Int) = (k : Int) + (n : Int) := by omega
  rw [e] at h1 h2
  exact ⟨h1, h2⟩
 generalize w1.setCell ⟨p, 1, none⟩ (.int .i64 ((k : Int) + (n : Int))) = w2 at *
 clear y1 y1f
 have y0 := HM2.out.1.b_
 have y1 : w2.cell? ⟨p, 1, none⟩ = some (.int .i64 ((k : Int) + (n : Int))) := HM2.out.1.at_.trans (by rw [show ((k + n : Nat) : Int) = (k : Int) + (n : Int) from by omega])
 go_quiet (fail)
 have HM3 := Lib.hid (HM2.out.then_ (Moved.stay HM2.out.1 nq))
 go_wp2_with fail
 go_ret2
 exact ⟨T, c - k, rfl, HM3.out, HS.out⟩
end
end Go.Proofs.YtpfjlhpahmhkhaaGreat.Ob
/- Apply of a delta; the document's own Sizes, step, Apply. -/
set_option linter.unusedVariables false
set_option linter.unusedSimpArgs false
namespace Go.Proofs.YtpfjlhpahmhkhaaGreat.Sh
open Go.RowKit
def ApplyPost (w : World) (r : List UInt8 × Int) (e : Ending) (w' : World) : Prop := ∃ v, e = .returned (.tuple #[v, .int .i64 r.2]) ∧ Own w' w.heap.size v r.1 ∧ Below w.heap.size w w'
set_option maxRecDepth 100000 in
set_option maxHeartbeats 1600000 in
theorem apply_any (vb vd : Value) (base d : List UInt8) (w : World) (hb : Sl w vb base) (hd : Sl w vd d) :
  Calls Tryz.prog 378 #[vb, vd] w (ApplyPost w (applyD base d)) := by
 obtain ⟨A, c, hvb, hl, hcm, hI⟩ := hb.len
 unfold maxLen at hcm
 rcases two_cases d 0 (Nat.zero_le _) with ⟨e, h, he⟩ | ⟨a, b, h, hq, ha, hb'⟩
 ·have h : two d 0 = (0, 0, 0, e) := h
  rw [apply_err h (by omega)]
  have HG := Lib.hid (gettwo_any vd d _ _ _ _ _ w hd h)
  have hne : (e != 0) = true := by rcases he with rfl | rfl <;> rfl
  subst hvb
  clear h hd hb hI he
  go_enter Tryz.func378, Tryz.ntmps378
  go_wp2_with fail
  refine HG.out.mono ?_
  rintro x w' ⟨rfl, rfl⟩
  go_wp2
  go_ret2
  exact ⟨_, rfl, Own.nil_ _ _, Below.refl _ _⟩
 ·rw [Nat.zero_add] at h hq
  have h : two d 0 = ((a : Int), (b : Int), (((putL a).length + (putL b).length : Nat) : Int), 0) := h
  have HG := Lib.hid (gettwo_any vd d _ _ _ _ _ w hd h)
  obtain ⟨q, hQ⟩ : ∃ q, (putL a).length + (putL b).length = q := ⟨_, rfl⟩
  rw [hQ] at h hq HG
  have HB := Lib.hid hb
  subst hvb
  obtain ⟨l, hL⟩ : ∃ l, base.length = l := ⟨_, rfl⟩
  rw [hL] at hl HB ⊢
  by_cases hal : a = l
  ·subst hal
   by_cases hbl : 20000 < b
   ·rw [apply_long h (by rw [hL]) (by omega)]
    have hbl2 : (20000 : Int) < (b : Int) := by omega
    clear h hd hb hI hbl hQ hq HB hL hcm hl
    go_enter Tryz.func378, Tryz.ntmps378
    go_wp2_with fail
    refine HG.out.mono ?_
    rintro x w' ⟨rfl, rfl⟩
    go_wp2
    go_ret2
    exact ⟨_, rfl, Own.nil_ _ _, Below.refl _ _⟩
   ·have hrun := apply_run (base := base) (by rw [hL]; exact h) (by omega)
    obtain ⟨R, hR⟩ : ∃ R, applyD base d = R := ⟨_, rfl⟩
    rw [hR] at hrun ⊢
    have HRUN := Lib.hid hrun
    have HD := Lib.hid hd
    have hbl2 : (b : Int) ≤ (20000 : Int) := by omega
    have hb0 : (0 : Int) ≤ (b : Int) := by omega
    have hown := own_made w b (by unfold maxLen; omega)
    have hmk : ∀ w : World, (Instr.makeSlice 32 (.int .i64 0) (.int .i64 (b : Int))).run Tryz.prog w = .ok (.slice (some ⟨w.heap.size, 0, none⟩) 0 b) (w.alloc (.cells (madeCells #[.int .u8 0] b) 5)) := fun w => make_bytes b (by omega) w
    obtain ⟨n, hN⟩ : ∃ n, d.length = n := ⟨_, rfl⟩
    obtain ⟨D, cd, hvd, hld, hcmd, hId⟩ := hd.len
    unfold maxLen at hcmd
    subst hvd
    rw [hN] at hq hld HRUN HG HD ⊢
    have HN := Lib.hid hN
    clear h hd hb hI hrun hbl hQ hId hN hR hL
    go_enter Tryz.func378, Tryz.ntmps378
    go_wp2_with fail
    refine HG.out.mono ?_
    rintro x w' ⟨rfl, rfl⟩
    go_wp2_with fail
    have hO0 : Own (w.alloc (.cells (madeCells #[.int .u8 0] b) 5)) w.heap.size (.slice (some ⟨w.heap.size, 0, none⟩) 0 b) [] := by simpa [Own] using hown
    have HO0 := Lib.hid hO0
    have HBW0 := Lib.hid ((Below.refl w.heap.size w).alloc (Nat.le_refl _) (.cells (madeCells #[.int .u8 0] b) 5))
    clear hmk hown hO0
    generalize w.alloc (.cells (madeCells #[.int .u8 0] b) 5) = W0 at *
    go_loopw [8, 10] (fun x v wr => ∃ (k : Nat) (out : List UInt8) (f : Nat), x = .int .i64 k ∧ k ≤ n ∧ out.length ≤ b ∧ n - k < f ∧ Own wr w.heap.size v out ∧ Below w.heap.size w wr ∧ runD base d b f k out = R) (fun x _ _ => n - (intOf x).toNat)
    case atStart => exact ⟨q, [], n + 1, rfl, hq, by simp, by omega, HO0.out, HBW0.out, HRUN.out.symm⟩
    case round =>
     obtain ⟨k, out, f, rfl, hk, hol, hf, ho, hbw, hrd⟩ := hrel
     obtain ⟨f, rfl⟩ : ∃ g, f = g + 1 := ⟨f - 1, by omega⟩
     obtain ⟨A1, c1, rfl, hl1, hm1⟩ := ho.length
     unfold maxLen at hm1
     have HO := Lib.hid ho
     have HBW := Lib.hid hbw
     have HRD := Lib.hid hrd
     have hwz := hbw.size
     have HDr := Lib.hid (HD.out.below hbw)
     have HBr := Lib.hid (HB.out.below hbw)
     clear ho hbw hrd hq
     obtain ⟨m, hM⟩ : ∃ m, out.length = m := ⟨_, rfl⟩
     rw [hM] at hol hl1 HO ⊢
     have HM := Lib.hid hM
     clear hM
     have hm3 : (m : Int) ≤ (b : Int) := by omega
     have hm4 : (0 : Int) ≤ (m : Int) := by omega
     by_cases hkn : k < n
     ·have hkn2 : (k : Int) < (n : Int) := by omega
      have hkd : k < d.length := by rw [HN.out]; exact hkn
      have HS := Lib.hid (step_any _ _ base d k wr HBr.out HDr.out hkd)
      rcases step_cases base d k hkd with ⟨e, hs, h1, h2⟩ | ⟨p, q', hs, h1, h2, h3⟩
      ·rw [hs] at HS
       have hres := HRD.out
       rw [run_err hkd hs (by omega)] at hres
       have hne : (e != 0) = true := by simp; omega
       clear hkd hs h1 h2 hkn
       go_wp2_with fail
       refine HS.out.mono ?_
       rintro x w' ⟨v, rfl, hv, rfl⟩
       clear hv
       go_wp2
       go_ret2
       exact ⟨_, by rw [← hres]; rfl, by rw [← hres]; exact Own.nil_ _ _, HBW.out⟩
      ·rw [hs] at HS
       by_cases hlong : b < m + p.length
       ·have hres := HRD.out
        rw [run_long hkd hs (by rw [HM.out]; exact hlong)] at hres
        have HRES := Lib.hid hres
        have hlg : (b : Int) - (m : Int) < (p.length : Int) := by omega
        obtain ⟨pl, hpl⟩ : ∃ pl, p.length = pl := ⟨_, rfl⟩
        clear hkd hs hkn hres h1 h2 h3 hlong
        go_wp2_with fail
        refine HS.out.mono ?_
        rintro x w' ⟨v, rfl, hv, rfl⟩
        obtain ⟨P, cp, rfl, hp1, hp2, hp3⟩ := hv.len
        unfold maxLen at hp2
        rw [hpl] at hlg hp1 ⊢
        clear hv hp3 hpl
        go_wp2
        go_ret2
        exact ⟨_, by rw [← HRES.out]; rfl, by rw [← HRES.out]; exact Own.nil_ _ _, HBW.out⟩
       ·have hres := HRD.out
        rw [run_on hkd hs (by rw [HM.out]; omega)] at hres
        have HRES := Lib.hid hres
        have hlg : (p.length : Int) ≤ (b : Int) - (m : Int) := by omega
        obtain ⟨pl, hpl⟩ : ∃ pl, p.length = pl := ⟨_, rfl⟩
        have hsm : out.length + pl ≤ 140737488355328 := by have := HM.out; omega
        have hmp : m + pl ≤ b := by omega
        have hq2 : q' ≤ n := by have := HN.out; omega
        have hkq : n - q' < f := by omega
        have HKQ := Lib.hid h1
        clear hkd hs hkn hres h2 h3 hlong h1
        go_wp2_with fail
        refine HS.out.mono ?_
        rintro x w' ⟨v, rfl, hv, rfl⟩
        obtain ⟨P, cp, rfl, hp1, hp2, hp3⟩ := hv.len
        have HP3 := Lib.hid hp3.reads
        have HPL := Lib.hid hpl
        unfold maxLen at hp2
        rw [hpl] at hlg hp1 HP3 ⊢
        clear hv hp3 hpl
        go_wp2_with (at_builtin; refine append_bytes rfl (.tmp 57) (.tmp 58) rfl wr w.heap.size _ out rfl HO.out _ P pl cp p rfl HP3.out hsm hwz ?_; intro v3 w3 ho3 hb3; have HO3 := Lib.hid ho3; have HB3 := Lib.hid hb3; clear ho3 hb3)
        refine ⟨⟨q', out ++ p, f, rfl, hq2, ?_, hkq, HO3.out, HBW.out.trans HB3.out, HRES.out⟩, ?_⟩
        ·rw [List.length_append, HM.out, HPL.out]; exact hmp
        ·have := HKQ.out; simp [intOf]; omega
     ·have hkn2 : (n : Int) ≤ (k : Int) := by omega
      have hres := HRD.out
      rw [run_end (by rw [HN.out]; omega), HM.out] at hres
      have HRES := Lib.hid hres
      clear hres hkn
      by_cases hsh : m < b
      ·have hsh2 : (m : Int) < (b : Int) := by omega
       have hres := HRES.out
       rw [if_pos hsh] at hres
       have HRES2 := Lib.hid hres
       clear hres hsh
       go_wp2
       go_ret2
       exact ⟨_, by rw [← HRES2.out]; rfl, by rw [← HRES2.out]; exact Own.nil_ _ _, HBW.out⟩
      ·have hsh2 : (b : Int) ≤ (m : Int) := by omega
       have hres := HRES.out
       rw [if_neg hsh] at hres
       have HRES2 := Lib.hid hres
       clear hres hsh
       go_wp2
       go_ret2
       exact ⟨_, by rw [← HRES2.out]; rfl, by rw [← HRES2.out]; exact HO.out, HBW.out⟩
  ·rw [apply_sum (base := base) h (by rw [hL]; omega)]
   have hne : ((a : Int) != (l : Int)) = true := by simp; omega
   clear h hd hb hI hq hQ HB hal hL
   go_enter Tryz.func378, Tryz.ntmps378
   go_wp2_with fail
   refine HG.out.mono ?_
   rintro x w' ⟨rfl, rfl⟩
   go_wp2
   go_ret2
   exact ⟨_, rfl, Own.nil_ _ _, Below.refl _ _⟩
end Go.Proofs.YtpfjlhpahmhkhaaGreat.Sh
