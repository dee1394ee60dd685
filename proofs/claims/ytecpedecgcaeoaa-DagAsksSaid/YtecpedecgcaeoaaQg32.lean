/- Texts put together: Dg9. -/
import Derived.Test.YtecpedecgcaeoaaQg27
import Derived.Test.YtecpedecgcaeoaaQg31
/- Package dag: Bases. -/
set_option linter.unusedVariables false
set_option linter.unusedSimpArgs false
namespace Go.Proofs.Ytecpedecgcaeoaa.Tx
open Go.RowKit Go.Maps Go.Proofs.Ytecpedecgcaeoaa.Sh Go.Shelf Go.Lib
open Classical

/-! The library's worlds: a row turned, blocks laid behind. -/
theorem sw_only {α : Type} [Inhabited α] (enc : α → Value) (w : World) (blk off m : Nat) (dk : Array α) (os : Array Obj) : Only (fun k => k = blk) w (sortWorld enc w blk off m dk os) := by
  refine ⟨rfl, rfl, rfl, ?_, fun k hk hn => ?_⟩
  · show w.heap.size ≤ ((w.heap.modify blk _) ++ os).size
    simp
  · show ((w.heap.modify blk _) ++ os)[k]? = _
    rw [Array.getElem?_append_left (by simpa using hk), Array.getElem?_modify, if_neg (fun e => hn e.symm)]
theorem sw_own {α : Type} [Inhabited α] {enc : α → Value} {w : World} {B blk n c m : Nat} {vs : List Value} {d : Array α} {os : Array Obj} (h : OwnV 3 w B (.slice (some ⟨blk, 0, none⟩) n c) vs) (hd : d.size = n) (hv : vs.length = n) :
    OwnV 3 (sortWorld enc w blk 0 m d os) B (.slice (some ⟨blk, 0, none⟩) n c) (d.toList.map enc) := by
  rcases h.blk with ⟨he, _⟩ | ⟨g', c', cur, he, hb, hlt, hg, hc, hm, hs, ht⟩
  · cases he
  injection he with e1 e2 e3
  injection e1 with e1
  injection e1 with e1 _ _
  subst e1 e3
  have hb2 : Blk (sortWorld enc w blk 0 m d os) blk 3 (Go.Sort.putCells enc 0 d cur) := by
    show ((w.heap.modify blk _) ++ os)[blk]? = _
    rw [Array.getElem?_append_left (by simpa using hlt), Array.getElem?_modify, if_pos rfl]
    rw [show w.heap[blk]? = _ from hg]
    rfl
  have hl : (d.toList.map enc).length = n := by simp [hd]
  have hsz : (Go.Sort.putCells enc 0 d cur).size = c := by unfold Go.Sort.putCells; simp [hs]
  rw [← hl]
  refine OwnV.mk hb hb2 (by rw [hl, ← hv]; exact hc) hm hsz ?_
  apply List.ext_getElem?
  intro i
  rw [List.getElem?_take]
  by_cases hi : i < n
  · rw [if_pos (by omega), Array.getElem?_toList, List.getElem?_map]
    unfold Go.Sort.putCells
    have hic : i < cur.size := by rw [hs]; omega
    rw [Array.getElem?_mapIdx, Array.getElem?_eq_getElem hic, Option.map_some, if_pos ⟨Nat.zero_le _, by omega⟩, Nat.sub_zero, Array.getElem?_toList, Array.getElem?_eq_getElem (by omega), getElem!_pos d i (by omega)]
    rfl
  · rw [if_neg (by omega), List.getElem?_eq_none (by omega)]
/-- Places below n, as they are told to the library. -/
def finA (n : Nat) (ks : List Nat) (h : ∀ k ∈ ks, k < n) : Array (Fin n) := (ks.pmap (fun k hk => (⟨k, hk⟩ : Fin n)) h).toArray
def fv {n : Nat} (i : Fin n) : Value := nv i.val
theorem fin_vals {n : Nat} {ks : List Nat} (h : ∀ k ∈ ks, k < n) : (finA n ks h).toList.map (fun i => i.val) = ks := by
  unfold finA
  rw [List.toList_toArray, List.map_pmap]
  simp
theorem fin_fv {n : Nat} {ks : List Nat} (h : ∀ k ∈ ks, k < n) : (finA n ks h).toList.map fv = ks.map nv := by
  conv => rhs; rw [← fin_vals h]
  rw [List.map_map]
  rfl
theorem fin_size {n : Nat} {ks : List Nat} (h : ∀ k ∈ ks, k < n) : (finA n ks h).size = ks.length := by unfold finA; simp
theorem fin_holds {n : Nat} [Inhabited (Fin n)] {w : World} {B blk l c : Nat} {ks : List Nat} (h : ∀ k ∈ ks, k < n) (ho : OwnV 3 w B (.slice (some ⟨blk, 0, none⟩) l c) (ks.map nv)) : Go.Sort.Holds fv w blk 0 (finA n ks h) := by
  intro j hj
  rw [fin_size] at hj
  have hk : (ks.map nv)[j]? = some (nv ks[j]) := by rw [List.getElem?_map, List.getElem?_eq_getElem hj]; rfl
  have := ho.cellAt j _ hk
  rw [Nat.zero_add]
  refine ⟨?_, this.2⟩
  rw [this.1, getElem!_pos _ j (by rw [fin_size]; exact hj)]
  unfold finA fv
  simp
theorem filter_vals {n : Nat} (q : Nat → Bool) : ∀ l : List (Fin n), (l.filter fun i => q i.val).map (fun i => i.val) = (l.map fun i => i.val).filter q
  | [] => rfl
  | i :: r => by
    rw [List.filter_cons, List.map_cons, List.filter_cons]
    cases q i.val
    · simpa using filter_vals q r
    · simpa using filter_vals q r

set_option maxRecDepth 100000 in
theorem bclos_any (n gm bx p : Nat) (b : Bool) (w : World) (h0 : w.cell? ⟨bx, 0, none⟩ = some (.slice (some ⟨gm, 0, none⟩) n n)) (h1 : w.cell? ⟨gm, p, none⟩ = some (.bool b)) (hp : p < n) (hn : n ≤ 2000) :
    Calls Try.prog 39 #[.int .i64 (p : Int), .pointer (some ⟨bx, 0, none⟩)] w fun e w' => e = .returned (.bool (!b)) ∧ w = w' := by
  have p0 : (0 : Int) ≤ (p : Int) := by omega
  have p1 : (p : Int) < (n : Int) := by omega
  go_enter Try.func39, Try.ntmps39
  go_wp2
  go_ret
  exact ⟨rfl, rfl⟩

/-- What DeleteFunc leaves: those at which the marks stand. -/
theorem gdel_any (n gm bx B : Nat) (ms : List Bool) (ks : List Nat) (v : Value) (w : World) (hn : n ≤ 2000) (hm : BlkB w gm ms) (hml : ms.length = n) (hbx : Blk w bx 61 #[.slice (some ⟨gm, 0, none⟩) n n]) (ho : OwnV 3 w B v (ks.map nv)) (hk : ∀ k ∈ ks, k < n) (hk0 : ks ≠ []) (hkl : ks.length ≤ 1000000) (hb1 : gm < B) (hb2 : bx < B) :
    Calls Try.prog 38 #[v, .func (.func 39) #[] #[.pointer (some ⟨bx, 0, none⟩)]] w fun e w' => ∃ v', e = .returned v' ∧ OwnV 3 w' B v' ((ks.filter fun k => ms.getD k false).map nv) ∧ Below B w w' := by
  have hn0 : 0 < n := by
    cases ks with
    | nil => exact absurd rfl hk0
    | cons a r => have := hk a List.mem_cons_self; omega
  haveI : Inhabited (Fin n) := ⟨⟨0, hn0⟩⟩
  rcases ho.blk with ⟨rfl, h0⟩ | ⟨blk, c, cur, rfl, hB, hlt, hg, hc, hcm, hs, ht⟩
  · exact absurd (List.map_eq_nil_iff.1 h0) hk0
  have hlen : (ks.map nv).length = ks.length := List.length_map _
  have hsz : (finA n ks hk).size = (ks.map nv).length := by rw [fin_size, hlen]
  have hcall : ∀ (W : World) (x : Fin n), W.cell? ⟨bx, 0, none⟩ = some (.slice (some ⟨gm, 0, none⟩) n n) → W.cell? ⟨gm, x.val, none⟩ = some (.bool (ms.getD x.val false)) → FnGives Try.prog 39 #[.pointer (some ⟨bx, 0, none⟩)] #[fv x] (.bool (!ms.getD x.val false)) W := fun W x h0 h1 =>
    (bclos_any n gm bx x.val _ W h0 h1 x.isLt hn).mono fun e w' ⟨he, hw⟩ => ⟨he, 0, hw.symm⟩
  have hcells : ∀ (M : Nat → Prop) (W : World), Only M w W → ¬ M bx → ¬ M gm → ∀ x : Fin n, W.cell? ⟨bx, 0, none⟩ = some (.slice (some ⟨gm, 0, none⟩) n n) ∧ W.cell? ⟨gm, x.val, none⟩ = some (.bool (ms.getD x.val false)) := fun M W hW h1 h2 x =>
    ⟨(hW.blk hbx h1).cell 0, BlkB.cell (hW.blk hm h2) x.val _ (by rw [List.getD_eq_getElem?_getD, List.getElem?_eq_getElem (by rw [hml]; exact x.isLt)]; rfl)⟩
  have hpa : PredAt Try.prog 39 #[.pointer (some ⟨bx, 0, none⟩)] fv (fun x : Fin n => !ms.getD x.val false) w := fun W x hW => by
    have := hcells (fun _ => False) W (Only.of_below hW) id id x
    exact hcall W x this.1 this.2
  have hpo : PredOver Try.prog 39 #[.pointer (some ⟨bx, 0, none⟩)] fv (fun x : Fin n => !ms.getD x.val false) blk 0 (finA n ks hk).size w := fun m os dk x _ => by
    have := hcells _ _ (sw_only fv w blk 0 m dk os) (by omega) (by omega) x
    exact hcall _ x this.1 this.2
  have eg : ∀ args w, (callFunc 39 args).run Try.prog w = .ok (.enter 39 args) w := enters_of Try.func39 (by kernel_rfl) rfl
  have hcon := AnyE.slices_DeleteFunc Try.delF fv (fun x => rfl) (fun x : Fin n => !ms.getD x.val false) 39 #[.pointer (some ⟨bx, 0, none⟩)] eg (⟨0, hn0⟩ : Fin n) (fun w => zeroI w) blk 0 c (finA n ks hk) w hpa hpo (fin_holds hk ho) (by rw [fin_size]; omega) (by rw [hsz]; exact hc)
  rw [hsz] at hcon
  refine hcon.mono ?_
  rintro e w' ⟨rfl, q, rfl⟩
  have hfl : ((finA n ks hk).toList.filter fun x => !!ms.getD x.val false).map fv = (ks.filter fun k => ms.getD k false).map nv := by
    have h1 : ((finA n ks hk).toList.filter fun x => !!ms.getD x.val false) = (finA n ks hk).toList.filter fun x => ms.getD x.val false := by congr 1; funext x; simp
    have h2 : ((finA n ks hk).toList.filter fun x => ms.getD x.val false).map (fun i => i.val) = ks.filter fun k => ms.getD k false := by rw [filter_vals (fun k => ms.getD k false), fin_vals hk]
    rw [h1, ← h2, List.map_map]
    rfl
  obtain ⟨fl, hfle⟩ : ∃ fl, ((finA n ks hk).toList.filter fun x => !!ms.getD x.val false) = fl := ⟨_, rfl⟩
  rw [hfle] at hfl ⊢
  have hfll : fl.length ≤ (ks.map nv).length := by
    rw [← hfle, ← hsz]
    exact List.length_filter_le _ _
  have hown := sw_own (enc := fv) (m := q) (d := (fl ++ List.replicate ((ks.map nv).length - fl.length) (⟨0, hn0⟩ : Fin n)).toArray) (os := #[]) ho (by simp; rw [List.length_map] at hfll; omega) rfl
  rw [sortWorld, Go.Sort.grow_empty] at hown
  have hf := hown.front fl.length (by simp) (by simp)
  rw [List.toList_toArray, List.map_append, List.take_left' (by rw [List.length_map]), hfl] at hf
  refine ⟨_, rfl, hf, ?_⟩
  have := sw_only fv w blk 0 q (fl ++ List.replicate ((ks.map nv).length - fl.length) (⟨0, hn0⟩ : Fin n)).toArray #[]
  rw [sortWorld, Go.Sort.grow_empty] at this
  exact ⟨this.os, this.tape, this.output, this.size, fun k hk' => this.block k (by omega) (by omega)⟩

theorem com_eq {G : GR} {xs : List ByteArray} {b : ByteArray} : ((ancL (parAt G) G.length [pl G b]).filter fun k => (markL (parAt G) G.length (plsL G xs)).getD k false) = comL G xs b := by
  unfold comL
  refine List.filter_congr fun k hk => ?_
  rw [List.getD_eq_getElem?_getD, mark_dec (mem_anc.1 hk).1]
  rfl
set_option maxRecDepth 100000 in
set_option maxHeartbeats 3200000 in
theorem gbases_any (Z : Nat → Prop) (g : Nat) (G : GR) (v : Value) (xs : List ByteArray) (b : ByteArray) (w : World) (h : GAt Z w g G) (hw : GW G) (hs : GS G) (hv : SlV w v (xs.map sv)) (hsz : ∀ s ∈ xs, s.size ≤ 1000000) (hn : xs.length ≤ 2000) (hbz : b.size ≤ 1000000) :
    Calls Try.prog 21 #[.pointer (some ⟨g, 0, none⟩), v, .string b] w (AskPost w (allG G xs && inG G b) (basT G xs b)) := by
  have hlen := hs.len
  have hpl := gplaces_any Z g G v xs w h hv hsz (by omega)
  have hpb := fun (W : World) (hW : Below w.heap.size w W) => gplaces_any Z g G _ [b] (W.alloc (.cells #[.string b] 9)) (h.below (hW.alloc hW.size _)) (one_text W b) (fun s hs' => by rw [List.mem_singleton.1 hs']; exact hbz) (by simp)
  have hre := fun (W : World) (u : Value) (hW : Below w.heap.size w W) (hu : SlV W u ((plsL G xs).map nv)) (hall : allG G xs = true) => (greached_any Z g G u (plsL G xs) W (h.below hW) hw hs hu (pls_lt hall) (by rw [pls_len]; omega)).mono (fun _ _ hp => hp.n mark_len)
  have hanc := fun (W : World) (u : Value) (hW : Below w.heap.size w W) (hu : SlV W u (([pl G b] : List Nat).map nv)) (hin : inG G b = true) => ganc_any Z g G u [pl G b] W (h.below hW) hw hs hu (fun k hk => by rw [List.mem_singleton.1 hk]; exact pl_lt hin) (by simp)
  have hcl : ∀ k ∈ comL G xs b, k < G.length := fun k hk => (mem_anc.1 (List.mem_filter.1 hk).1).1
  have hcn : (comL G xs b).length ≤ 2000 := Nat.le_trans (List.length_filter_le _ _) (Nat.le_trans anc_len hlen)
  have htn : (topL (parAt G) (comL G xs b)).length ≤ 2000 := Nat.le_trans top_sub.length_le hcn
  have htop := fun (W : World) (u : Value) (hW : Below w.heap.size w W) (hu : SlV W u ((comL G xs b).map nv)) => gtops_any Z g G u (comL G xs b) W (h.below hW) hw hs hu hcl (by omega)
  have hids := fun (W : World) (u : Value) (hW : Below w.heap.size w W) (hu : SlV W u ((topL (parAt G) (comL G xs b)).map nv)) => gids_any Z g G u _ W (h.below hW) hu (fun k hk => hcl k (mem_top.1 hk).1) (by omega)
  have hsort := fun (W : World) (u : Value) (hu : SlV W u (((topL (parAt G) (comL G xs b)).map (idAt G)).map sv)) => sort_any u _ W hu (by rw [List.length_map]; omega)
  have hdel := fun (gm bx B : Nat) (u : Value) (W : World) (h1 : BlkB W gm (markL (parAt G) G.length (plsL G xs))) (h2 : Blk W bx 61 #[.slice (some ⟨gm, 0, none⟩) G.length G.length]) (h3 : OwnV 3 W B u ((ancL (parAt G) G.length [pl G b]).map nv)) (hb1 : gm < B) (hb2 : bx < B) (hin : inG G b = true) =>
    gdel_any G.length gm bx B _ _ u W hlen h1 mark_len h2 h3 anc_all (fun e => by
      have : pl G b ∈ ancL (parAt G) G.length [pl G b] := mem_anc.2 ⟨pl_lt hin, .self _⟩
      rw [e] at this
      cases this) (Nat.le_trans anc_len (by omega)) hb1 hb2
  rw [com_eq] at hdel
  obtain ⟨n, hn'⟩ : ∃ n, List.length G = n := ⟨_, rfl⟩
  rw [hn'] at hre hdel hlen hanc
  have HPL := Lib.hid hpl
  have HPB := Lib.hid hpb
  have HRE := Lib.hid hre
  have HANC := Lib.hid hanc
  have HTOP := Lib.hid htop
  have HIDS := Lib.hid hids
  have HSORT := Lib.hid hsort
  have HDEL := Lib.hid hdel
  have hone : allG G [b] = inG G b := by unfold allG; simp
  have HONE := Lib.hid hone
  have hp1 : plsL G [b] = [pl G b] := rfl
  have HP1 := Lib.hid hp1
  clear h hw hs hv hsz hn hbz hpl hpb hre hanc hcl hcn htn htop hids hsort hdel hn' hone hp1 hlen
  go_enter Try.func21, Try.ntmps21
  go_wp2_with fail
  refine (HPL.out).mono ?_
  rintro e w1 ⟨hb1, ⟨hall, vp, rfl, ho1⟩ | ⟨hall, rfl⟩⟩
  case inr =>
    have HB1 := Lib.hid hb1
    have HALL := Lib.hid hall
    clear hb1 hall
    go_wp2_with fail
    go_ret2
    exact ⟨HB1.out, .inr ⟨by rw [HALL.out]; rfl, rfl⟩⟩
  have HB1 := Lib.hid hb1
  have HALL := Lib.hid hall
  have HO1 := Lib.hid ho1
  have HCB := Lib.hid (HPB.out w1 hb1)
  clear hb1 hall ho1
  go_wp2_with fail
  refine (HCB.out).mono ?_
  rintro e w2 ⟨hb2, ⟨hin, vb, rfl, ho2⟩ | ⟨hin, rfl⟩⟩
  case inr =>
    have HB2 := Lib.hid ((HB1.out.alloc HB1.out.size _).trans (hb2.mono (Nat.le_trans HB1.out.size (by simp))))
    rw [HONE.out] at hin
    have HIN := Lib.hid hin
    clear hb2 hin
    go_wp2_with fail
    go_ret2
    exact ⟨HB2.out, .inr ⟨by rw [HIN.out, Bool.and_false], rfl⟩⟩
  have hw12 : Below w1.heap.size w1 w2 := ((Below.refl w1.heap.size w1).alloc (Nat.le_refl _) _).trans (hb2.mono (by simp))
  have hb02 := HB1.out.trans (hw12.mono HB1.out.size)
  have HB2 := Lib.hid hb02
  rw [HONE.out] at hin
  rw [HP1.out] at ho2
  have HIN := Lib.hid hin
  have HO2 := Lib.hid ho2
  have HC3 := Lib.hid (HRE.out w2 vp hb02 (HO1.out.slv.below hw12) HALL.out)
  clear hb2 hin ho2 hw12 hb02
  go_wp2_with fail
  refine (HC3.out).mono ?_
  rintro e w3 ⟨gm, rfl, hgm, hm, hb3⟩
  have hgmz := Blk.lt hm
  have hw3 := HB2.out.trans (hb3.mono HB2.out.size)
  have HB3 := Lib.hid hw3
  have HM := Lib.hid hm
  have HGM := Lib.hid hgmz
  have HSB := Lib.hid (HO2.out.slv.below hb3)
  clear hgm hm hb3 hgmz hw3
  obtain ⟨wx, hwx⟩ : ∃ wx, wx = w3.alloc (.cells #[.slice (some ⟨gm, 0, none⟩) n n] 61) := ⟨_, rfl⟩
  have hbx3 : Below w3.heap.size w3 wx := by rw [hwx]; exact (Below.refl _ _).alloc (Nat.le_refl _) _
  have hbx : Below w.heap.size w wx := HB3.out.trans (hbx3.mono HB3.out.size)
  have hzx : wx.heap.size = w3.heap.size + 1 := by rw [hwx]; simp
  have hblk : Blk wx w3.heap.size 61 #[.slice (some ⟨gm, 0, none⟩) n n] := by rw [hwx]; exact Blk.new _ _ _
  have hmx : BlkB wx gm (markL (parAt G) n (plsL G xs)) := HM.out.below hbx3 HGM.out
  have HCA := Lib.hid (HANC.out wx vb hbx (HSB.out.below hbx3) HIN.out)
  have HWX := Lib.hid hwx
  have HBX := Lib.hid hbx
  have HZX := Lib.hid hzx
  have HBLK := Lib.hid hblk
  have HMX := Lib.hid hmx
  clear hwx hbx3 hbx hzx hblk hmx
  go_wp2_with fail
  rw [← HWX.out]
  refine (HCA.out).mono ?_
  rintro e w4 ⟨v4, rfl, ho4, hb4⟩
  have hz := HZX.out
  have hg := HGM.out
  have HCD := Lib.hid (HDEL.out gm w3.heap.size wx.heap.size v4 w4 (HMX.out.below hb4 (by omega)) (HBLK.out.below hb4 (by omega)) ho4 (by omega) (by omega) HIN.out)
  have HB4 := Lib.hid (HBX.out.trans (hb4.mono HBX.out.size))
  have HB4' := Lib.hid hb4
  clear ho4 hb4 hz hg
  go_wp2_with fail
  refine (HCD.out).mono ?_
  rintro e w5 ⟨v5, rfl, ho5, hb5⟩
  have hb05 : Below w.heap.size w w5 := HB4.out.trans (hb5.mono HBX.out.size)
  have HB5 := Lib.hid hb05
  have HCT := Lib.hid (HTOP.out w5 v5 hb05 ho5.slv)
  clear ho5 hb5 hb05
  go_wp2_with fail
  refine (HCT.out).mono ?_
  rintro e w6 ⟨v6, rfl, ho6, hb6⟩
  have hb06 : Below w.heap.size w w6 := HB5.out.trans (hb6.mono HB5.out.size)
  have HB6 := Lib.hid hb06
  have HCI := Lib.hid (HIDS.out w6 v6 hb06 ho6.slv)
  clear ho6 hb6 hb06
  go_wp2_with fail
  refine (HCI.out).mono ?_
  rintro e w7 ⟨v7, rfl, ho7, hb7⟩
  have HB7 := Lib.hid (HB6.out.trans (hb7.mono HB6.out.size))
  have HCS := Lib.hid (HSORT.out w7 v7 ho7.slv)
  clear ho7 hb7
  go_wp2_with fail
  refine (HCS.out).mono ?_
  rintro e w8 ⟨v8, rfl, ho8, hb8⟩
  have HB8 := Lib.hid (HB7.out.trans (hb8.mono HB7.out.size))
  have HO8 := Lib.hid (ho8.base HB7.out.size)
  clear ho8 hb8
  go_wp2_with fail
  go_ret2
  exact ⟨HB8.out, .inl ⟨by rw [HALL.out, HIN.out]; rfl, v8, rfl, HO8.out⟩⟩
end Go.Proofs.Ytecpedecgcaeoaa.Tx
