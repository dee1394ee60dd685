/- Texts put together: VSc30. -/
import Derived.Test.YtbenkmihkbjgeaaGreatQv50
import Derived.Test.YtbenkmihkbjgeaaGreatQv51
/- marlaw13: patterns; what an index's hashes are like; ScanTrue's walk. -/
set_option linter.unusedVariables false
set_option linter.unusedSimpArgs false
namespace Go.Proofs.YtbenkmihkbjgeaaGreat.Tx
open Go.RowKit Go.Maps Go.Proofs.YtbenkmihkbjgeaaGreat.Sh
theorem wcat (p : List UInt8) : (⟨#[119, 47]⟩ : ByteArray) ++ Tx.str p = Tx.str (wP p) := Tx.str_append [119, 47] p
def IdsOK (X : IxM) : Prop := ∀ k ∈ X.files, k.id.length ≤ 64
section
variable {X : IxM} {c : CSt} {s : ScM}
theorem hashV_len (h : IdsOK X) (p : List UInt8) (f : FileM) : (hashV X c p f).length ≤ 64 := by
 unfold hashV
 cases hq : hshQ X c p f with
 | some id =>
  obtain ⟨h1, _, _⟩ := hshQ_some hq
  unfold ixL at h1
  cases hk : knF X.files p with
  | none => rw [hk] at h1; cases h1
  | some k =>
   rw [hk] at h1
   dsimp only at h1
   split at h1
   ·injection h1 with h1
    rw [← h1]
    exact h k (List.mem_of_find?_eq_some hk)
   ·cases h1
 | none =>
  dsimp only
  split
  ·simp
  ·unfold sptV
   split
   ·rw [idL_len]; exact Nat.le_refl _
   ·simp
theorem tak_ids (h : IdsOK X) (hs : ∀ k ∈ s.files, k.id.length ≤ 64) (p : List UInt8) : ∀ k ∈ (takS X s p).files, k.id.length ≤ 64 := by
 unfold takS
 split
 ·exact hs
 ·split
  ·exact hs
  ·split
   ·exact hs
   ·intro k hk
    rcases List.mem_append.1 hk with hk | hk
    ·exact hs k (List.mem_filter.1 hk).1
    ·rw [List.mem_singleton.1 hk]; exact hashV_len h _ _
theorem all_ids (h : IdsOK X) : ∀ (l : List (List UInt8)) {s : ScM}, (∀ k ∈ s.files, k.id.length ≤ 64) → ∀ k ∈ (allS X s l).files, k.id.length ≤ 64
 | [], s, hs => hs
 | p :: l, s, hs => by
  show ∀ k ∈ (if takE X s p = 0 then allS X (takS X s p) l else takS X s p).files, k.id.length ≤ 64
  split
  ·exact all_ids h l (tak_ids h hs p)
  ·exact tak_ids h hs p
theorem scn_ids (h : IdsOK X) (ig : List (List UInt8)) : IdsOK (scnX X c ig) := by
 unfold scnX
 split
 ·show ∀ k ∈ (scnS X c ig).files, k.id.length ≤ 64
  unfold scnS
  split
  ·exact all_ids h _ (fun k hk => by cases hk)
  ·exact fun k hk => by cases hk
 ·exact h
end
def PatP (ps : List (List UInt8)) (w : World) (e : Ending) (w' : World) : Prop := ∃ t, e = .returned (.bool t) ∧ (t = true → ps.length ≤ 20 ∧ ∀ p ∈ ps, p.length ≤ 400) ∧ Below w.heap.size w w'
set_option maxRecDepth 100000 in
set_option maxHeartbeats 1600000 in
theorem pat_any (v : Value) (ps : List (List UInt8)) (w : World) (h : SlV w v ((ps.map Tx.str).map sv)) : Calls Tryz.prog 9 #[v] w (PatP ps w) := by
 have H := Lib.hid h
 obtain ⟨A, c, rfl, hlc, hcm, _⟩ := h.len
 rw [List.length_map, List.length_map] at hlc H ⊢
 obtain ⟨n, hn⟩ : ∃ n, ps.length = n := ⟨_, rfl⟩
 have HN := Lib.hid hn
 rw [hn] at hlc H ⊢
 unfold maxLen at hcm
 clear hn h
 go_enter Tryz.func9, Tryz.ntmps9
 go_wp2_with fail
 go_loopw [3] (fun x wr => ∃ i : Nat, i ≤ n ∧ i ≤ 20 ∧ x = .int .i64 (i : Int) ∧ Below w.heap.size w wr ∧ ∀ (j : Nat) (r : List UInt8), j < i → ps[j]? = some r → r.length ≤ 400) (fun x _ => 21 - (intOf x).toNat)
 case atStart => exact ⟨0, Nat.zero_le _, Nat.zero_le _, rfl, Below.refl _ _, fun j s hj => absurd hj (Nat.not_lt_zero _)⟩
 case round =>
  obtain ⟨i, hi, hi2, rfl, hb, hall⟩ := hrel
  have HALL := Lib.hid hall
  have HB := Lib.hid hb
  clear hall hb
  have z0 : (0 : Int) ≤ (i : Int) := by omega
  by_cases hlt : i < n
  ·have z1 : (i : Int) < (n : Int) := by omega
   by_cases h20 : i < 20
   ·have z2 : (i : Int) < 20 := by omega
    have hil : i < ps.length := by have := HN.out; omega
    obtain ⟨r, hr⟩ : ∃ r, ps[i] = r := ⟨_, rfl⟩
    have HGR : Hid (ps[i]? = some r) := by unfold Hid; rw [List.getElem?_eq_getElem hil, hr]
    obtain ⟨A', c', he, _, _, hrd⟩ := (H.out.below HB.out).len
    injection he with he1 he2 he3
    subst he1
    clear he2 he3
    simp only [List.length_map] at hrd
    have h9 := texts_at (xs := ps.map Tx.str) (by simpa using hrd) i (by rw [List.length_map]; exact hil)
    obtain ⟨ad, rfl, hcell⟩ := h9
    have x0 : wr.cell? (ad.add i) = some (.string (Tx.str r)) := by rw [hcell]; simp [hr]
    obtain ⟨pl, hpl⟩ : ∃ m, r.length = m := ⟨_, rfl⟩
    have s0 : (Tx.str r).size = pl := by rw [Tx.str_size]; exact hpl
    have HPL := Lib.hid hpl
    clear hil hr hrd hpl hcell
    by_cases h1 : pl ≤ 400
    ·have z3 : ¬ (400 : Int) < (pl : Int) := by omega
     go_wp2_with fail
     go_roundw
     case rel => exact ⟨i + 1, by omega, by omega, by go_num, HB.out, fun j s' hj hs' => by
      rcases Nat.lt_or_ge j i with h3 | h3
      ·exact HALL.out j s' h3 hs'
      ·have : j = i := by omega
       subst this
       rw [HGR.out] at hs'
       injection hs' with hs'
       rw [← hs', HPL.out]; exact h1⟩
     case measure => simp [intOf]; omega
    ·have z3 : (400 : Int) < (pl : Int) := by omega
     go_wp2_with fail
     go_ret
     exact ⟨false, rfl, (fun e => by cases e), HB.out⟩
   ·obtain rfl : i = 20 := by omega
    have HF : Hid (ps.length ≤ 20 → ∀ s ∈ ps, s.length ≤ 400) := fun h3 s hs => by
     obtain ⟨j, hj, e⟩ := List.getElem_of_mem hs
     exact HALL.out j s (by omega) (by rw [List.getElem?_eq_getElem hj, e])
    go_wp2_with fail
    go_ret
    refine ⟨_, rfl, (fun e => ?_), HB.out⟩
    have h3 : ps.length ≤ 20 := by
     have := of_decide_eq_true e
     rw [HN.out]; omega
    exact ⟨h3, HF.out h3⟩
  ·obtain rfl : i = n := by omega
   have hfin : ps.length ≤ 20 ∧ ∀ s ∈ ps, s.length ≤ 400 := ⟨by rw [HN.out]; exact hi2, fun s hs => by
    obtain ⟨j, hj, e⟩ := List.getElem_of_mem hs
    exact HALL.out j s (by rw [← HN.out]; exact hj) (by rw [List.getElem?_eq_getElem hj, e])⟩
   have HF := Lib.hid hfin
   clear hfin
   go_wp2_with fail
   go_ret
   exact ⟨_, rfl, fun _ => HF.out, HB.out⟩
theorem scn_tells2 {X : IxM} {c : CSt} (ig : List (List UInt8)) (hx : IxOK X c) (h : Calm c) (hi : InvC c) (he : scnE X c ig = 0) :
  scnR X c ig = (namesS ig (listC (scnC X c ig).here wD)).map (rowS (scnC X c ig).here) ∧ ∀ p ∈ namesS ig (listC (scnC X c ig).here wD), HasOK (scnC X c ig) (idL (blobL (peekF (scnC X c ig).here (wP p)).data)) ∧ (peekF (scnC X c ig).here (wP p)).data.length ≤ 4096 := by
 obtain ⟨h1, h2, _⟩ := scn_tells ig hx h hi he
 have q := scn_quo X ig h hi
 have e1 : listC (scnC X c ig).here wD = listC c.here wD := by rw [WF_list, WF_list, q.w]
 have e2 : ∀ p, peekF (scnC X c ig).here (wP p) = peekF c.here (wP p) := fun p => (WF_peek hi.rows.ord q.inv.rows.ord q.w p).2
 rw [e1]
 refine ⟨?_, fun p hp => ?_⟩
 ·rw [h1]
  refine List.map_congr_left fun p _ => ?_
  unfold rowS
  rw [e2]
 ·rw [e2]
  exact h2 p hp
theorem Bench.below {w w1 w2 : World} {b s x : Nat} {c : CSt} {X : IxM} (h : Bench w w1 b s x c X) (hb : Below w1.heap.size w1 w2) : Bench w w2 b s x c X := by
 obtain ⟨Z, m, h1, h2, h3, h4⟩ := h
 exact ⟨Z, m, h1.below hb, h2.below hb, h3, h4⟩
structure TrS (wn wr : World) (b s x : Nat) (c : CSt) (X : IxM) (i : Nat) : Prop where
 at_ : Bench wn wr b s x c X
 go : GoS c (400 * i)
 calm : Calm c
 inv : InvC c
 ix : IxOK X c
 ids : IdsOK X
 wf : (WF c.here).length ≤ i
theorem TrS.below {wn wr w2 : World} {b s x : Nat} {c : CSt} {X : IxM} {i : Nat} (h : TrS wn wr b s x c X i) (hb : Below wr.heap.size wr w2) : TrS wn w2 b s x c X i :=
 ⟨h.at_.below hb, h.go, h.calm, h.inv, h.ix, h.ids, h.wf⟩
theorem TrS.uw {wn wr w2 : World} {b s x : Nat} {c : CSt} {X : IxM} {i : Nat} (h : TrS wn wr b s x c X i) (p : List UInt8) (mode : Int) (d : List UInt8) (hb : Bench wn w2 b s x (uwC c p mode d) X) : TrS wn w2 b s x (uwC c p mode d) X (i + 1) :=
 ⟨hb, (h.go.uw p mode d).upto (by omega), h.calm.uw p mode d, h.inv.uw p mode d, h.ix.uw h.calm p mode d, h.ids, by have := uw_wf h.calm p mode d; have := h.wf; omega⟩
theorem TrS.ur {wn wr w2 : World} {b s x : Nat} {c : CSt} {X : IxM} {i : Nat} (h : TrS wn wr b s x c X i) (p : List UInt8) (hb : Bench wn w2 b s x (urC c p) X) : TrS wn w2 b s x (urC c p) X (i + 1) :=
 ⟨hb, (h.go.ur p).upto (by omega), h.calm.ur p, h.inv.ur p, h.ix.ur h.calm p, h.ids, by have := ur_wf h.calm p; have := h.wf; omega⟩
theorem TrS.new {wn wr w2 : World} {b s x x' : Nat} {c : CSt} {X : IxM} {i : Nat} (h : TrS wn wr b s x c X i) (hb : Bench wn w2 b s x' c ⟨[], 0⟩) : TrS wn w2 b s x' c ⟨[], 0⟩ (i + 1) :=
 ⟨hb, h.go.upto (by omega), h.calm, h.inv, IxOK.nil_ _, (fun k hk => by cases hk), by have := h.wf; omega⟩
theorem TrS.lis {wn wr : World} {b s x : Nat} {c : CSt} {X : IxM} {i : Nat} (h : TrS wn wr b s x c X i) : (lisO c wD).length ≤ i := by
 obtain ⟨_, e⟩ := h.calm.lis (dir := wD) (by decide)
 rw [e, WF_list, List.length_map]
 exact h.wf
theorem TrS.scn {wn wr w2 : World} {b s x : Nat} {c c' : CSt} {X : IxM} {i n : Nat} (h : TrS wn wr b s x c X i) (ig : List (List UInt8)) (hb : Bench wn w2 b s x c' (scnX X c ig)) (hq : Quo (scnC X c ig) c') (hg : GoS c' (400 * i + 1 + 5 * (lisO c wD).length + n)) (hn : n ≤ 60) (hi : i ≤ 60) : TrS wn w2 b s x c' (scnX X c ig) (i + 1) := by
 have q := (scn_quo X ig h.calm h.inv).trans hq
 have := h.lis
 refine ⟨hb, hg.upto (by omega), q.calm, q.inv, (scnX_ok ig h.ix h.calm h.inv).quo hq, scn_ids h.ids ig, ?_⟩
 rw [q.w]
 have := h.wf
 omega
theorem TrS.told {wn wr : World} {b s x : Nat} {c : CSt} {X : IxM} {i : Nat} (h : TrS wn wr b s x c X i) (ig : List (List UInt8)) : (namesS ig (listC (scnC X c ig).here wD)).length ≤ i := by
 have q := scn_quo X ig h.calm h.inv
 refine Nat.le_trans names_len ?_
 rw [WF_list, q.w, List.length_map]
 exact h.wf
set_option maxRecDepth 100000 in
set_option maxHeartbeats 12800000 in
theorem scanTrue_walk (G : Nat → Prop) (v vI : Value) (l : List SOp) (ig : List (List UInt8)) (w : World) (h : OpsS G w v l) (hG : ∀ k, G k → k < w.heap.size) (hI : SlV w vI ((ig.map Tx.str).map sv)) : Calls Tryz.prog 4 #[v, vI] w (Yes w) := by
 have HO := Lib.hid h
 have HG := Lib.hid hG
 have HIG := Lib.hid hI
 clear h hG hI
 go_enter Tryz.func4, Tryz.ntmps4
 go_wp2_with fail
 refine (xfirst_any w).mono ?_
 rintro e w1 ⟨rfl, hb1⟩
 have HB1 := Lib.hid hb1
 clear hb1
 go_wp2_with fail
 refine (xfew_any G v l _ (HO.out.below HB1.out) (fun k hk => Nat.lt_of_lt_of_le (HG.out k hk) HB1.out.size)).mono ?_
 rintro e w2 ⟨t, rfl, ht, hb⟩
 have HT := Lib.hid ht
 have HB2 := Lib.hid (HB1.out.trans (hb.mono HB1.out.size))
 clear ht hb HB1
 cases t with
 | false =>
  go_wp2_with fail
  refine (xfirst_any w2).mono ?_
  rintro e w9 ⟨rfl, hb9⟩
  have HB9 := Lib.hid (HB2.out.trans (hb9.mono HB2.out.size))
  clear hb9
  go_wp2_with fail
  go_ret
  exact ⟨rfl, HB9.out⟩
 | true =>
 go_wp2_with fail
 refine (pat_any vI ig _ (HIG.out.below HB2.out)).mono ?_
 rintro e w3 ⟨t2, rfl, ht2, hb⟩
 have HT2 := Lib.hid ht2
 have HB3 := Lib.hid (HB2.out.trans (hb.mono HB2.out.size))
 clear ht2 hb HB2
 cases t2 with
 | false =>
  go_wp2_with fail
  refine (xfirst_any w3).mono ?_
  rintro e w9 ⟨rfl, hb9⟩
  have HB9 := Lib.hid (HB3.out.trans (hb9.mono HB3.out.size))
  clear hb9
  go_wp2_with fail
  go_ret
  exact ⟨rfl, HB9.out⟩
 | true =>
 have HFW := Lib.hid (HT.out (by trivial))
 have HPT := Lib.hid (HT2.out (by trivial))
 clear HT HT2
 go_wp2_with fail
 refine (new_any (fun _ => False) 1073741824 w3 (fun _ h => h.elim)).mono ?_
 rintro e w4 ⟨hb4, ⟨h1, _⟩ | ⟨_, b, M, _, hM, rfl, hat⟩⟩
 ·exact absurd h1 (by decide)
 have hmi : Mine w3 w4 b (newC 1073741824) := ⟨_, M, hat, hM, hb4⟩
 have H4 := Lib.hid (MineP.start hmi)
 clear hb4 hM hat hmi
 go_wp2_with fail
 refine (open_any H4.out).mono ?_
 rintro e w5 ⟨s, rfl, hs5, _⟩
 have HS5 := Lib.hid hs5
 clear hs5
 go_wp2_with fail
 refine (newix_any w5).mono ?_
 rintro e w6 ⟨rfl, hw6⟩
 have HBN : Hid (Bench w3 w6 b s w5.heap.size (newC 1073741824) ⟨[], 0⟩) := by
  refine ⟨fun k => False ∨ k = w5.heap.size, none, by rw [← hw6]; exact HS5.out.add _, by rw [← hw6]; exact IxAt.new w5, ⟨.inr rfl, fun k hk => by cases hk⟩, HS5.out.bel.size⟩
 have HTR : Hid (TrS w3 w6 b s w5.heap.size (newC 1073741824) ⟨[], 0⟩ 0) := ⟨HBN.out, GoS.new_ _, ⟨rfl, rfl⟩, InvC.new_ _, IxOK.nil_ _, (fun k hk => by cases hk), Nat.le_refl _⟩
 obtain ⟨A, cc, hv, hlc, hcm, _⟩ := HO.out
 subst hv
 obtain ⟨n, hn⟩ : ∃ n, l.length = n := ⟨_, rfl⟩
 have HN := Lib.hid hn
 rw [hn] at hlc HO ⊢
 have hn60 : n ≤ 60 := by have := HFW.out.1; omega
 unfold maxLen at hcm
 obtain ⟨x0, hx0⟩ : ∃ k, k = w5.heap.size := ⟨_, rfl⟩
 rw [← hx0] at HTR ⊢
 clear hw6 hn hx0 HBN
 go_wp2_with fail
 go_loopw [8, 9] (fun u y wr => ∃ (i x : Nat) (c : CSt) (X : IxM), i ≤ n ∧ u = .pointer (some ⟨x, 0, none⟩) ∧ y = .int .i64 (i : Int) ∧ TrS w3 wr b s x c X i) (fun _ y _ => n - (intOf y).toNat)
 case atStart => exact ⟨0, x0, _, _, Nat.zero_le _, rfl, rfl, HTR.out⟩
 case round =>
  obtain ⟨i, x, c, X, hi, rfl, rfl, htr⟩ := hrel
  have HTI := Lib.hid htr
  clear htr
  have z0 : (0 : Int) ≤ (i : Int) := by omega
  have HBW := Lib.hid (HB3.out.trans (HTI.out.at_.bel.mono HB3.out.size))
  by_cases hlt : i < n
  ·have z1 : (i : Int) < (n : Int) := by omega
   have hil : i < l.length := by have := HN.out; omega
   obtain ⟨A', c', he, _, _, hat⟩ := HO.out.below HBW.out
   injection he with he1 he2 he3
   subst he1
   clear he2 he3
   obtain ⟨ad, dv, pv, rfl, hGa, hal, hoc⟩ := hat i l[i] (List.getElem?_eq_getElem hil)
   clear hat
   have HOF := Lib.hid (HFW.out.2 l[i] (List.getElem_mem hil))
   generalize l[i] = o at *
   obtain ⟨rk, fo⟩ := o
   obtain ⟨kd, mo, ke, tn', pa, de, da, pl⟩ := fo
   obtain ⟨hdv, hplan, y0, y1, y2, y3, y4, y5, y6, y7, y8⟩ := hoc
   dsimp only at y0 y1 y2 y3 y4 y5 y6 y7 y8 hdv hplan
   obtain ⟨dA, dc, rfl, _, _⟩ := hdv.slice
   obtain ⟨pA, pc, rfl, _, _⟩ := evs_slice hplan.tmp
   have HDV := Lib.hid hdv
   have HPA : Hid (pa.length ≤ 400) := HOF.out.1
   have hcat : ¬ 9223372036854775807 < 2 + (Tx.str pa).size := by rw [Tx.str_size]; have := HPA.out; omega
   have hadl : ad.block < wr.heap.size := hal
   clear hil hGa hal hdv hplan
   go_upto_region 16 with (fail)
   obtain ⟨wa, hwa⟩ : ∃ W, W = wr.alloc (.cells #[.int .i64 kd, .int .i64 mo, .int .i64 ke, .int .i64 tn', .string (Tx.str pa), .string (Tx.str de), .slice dA da.length dc, .slice pA pl.length pc] 48) := ⟨_, rfl⟩
   obtain ⟨g, hg⟩ : ∃ k, k = wr.heap.size := ⟨_, rfl⟩
   rw [← hwa]
   try rw [← hg]
   have hba : Below wr.heap.size wr wa := by rw [hwa]; exact (Below.refl _ _).alloc (Nat.le_refl _) _
   have HK : Hid (Blk wa g 48 #[.int .i64 kd, .int .i64 mo, .int .i64 ke, .int .i64 tn', .string (Tx.str pa), .string (Tx.str de), .slice dA da.length dc, .slice pA pl.length pc]) := by unfold Hid; rw [hwa, hg]; exact heap_alloc_new wr _
   have q0 : wa.cell? (ad.add (i * 9)) = some (.int .i64 rk) := (hba.cell (by rw [addr_block]; exact hadl)).trans y0
   have HTA := Lib.hid (HTI.out.below hba)
   have HDA := Lib.hid (HDV.out.only (Only.of_below (M := fun _ => False) hba) (fun _ _ => id))
   have k0 := HK.out.cell 0
   have k1 := HK.out.cell 1
   have k4 := HK.out.cell 4
   have k6 := HK.out.cell 6
   have HG3 : Hid (∀ k, G k → k < w3.heap.size) := fun k hk => Nat.lt_of_lt_of_le (HG.out k hk) HB3.out.size
   have HI6 : Hid (i ≤ 60) := by unfold Hid; omega
   have HGO : Hid (GoS c (400 * i)) := HTA.out.go
   clear hwa hg hba y0 y1 y2 y3 y4 y5 y6 y7 y8 hadl HTI HDV
   by_cases r0 : rk = 0
   ·subst r0
    obtain ⟨Z, m, h1, h2, h3, h4⟩ := HTA.out.at_
    have HSC := Lib.hid (scan_any (vI := vI) ig h1 h2 h3 h4 HTA.out.go (by have := HTA.out.lis; have := HI6.out; omega) (by have := HTA.out.lis; have := HI6.out; omega) (HIG.out.below HB3.out) (by have := HPT.out.1; omega) (fun p hp => by have := HPT.out.2 p hp; omega) (fun k hk => by have := HTA.out.ids k hk; omega))
    have HH3 := Lib.hid h3
    have HH4 := Lib.hid h4
    clear h1 h2 h3 h4
    go_wp2_with fail
    refine HSC.out.mono ?_
    rintro e w7 ⟨rv, m', Z', rfl, hrow, hst, hix, hmz, hzz, _, hon, hrz⟩
    obtain ⟨rA, rc, hrv, _, _, _, _⟩ := hrow.slR
    subst hrv
    have HROW := Lib.hid hrow
    have HST := Lib.hid hst
    have HIX := Lib.hid hix
    have HMZ := Lib.hid hmz
    have HRZ := Lib.hid hrz
    have HZX := Lib.hid (hzz x HH3.out.1)
    have HQ := Lib.hid (scn_quo X ig HTA.out.calm HTA.out.inv)
    have HGS : Hid (GoS (scnC X c ig) (400 * i + 1 + 5 * (lisO c wD).length)) := HGO.out.scn X ig
    have HTL := Lib.hid (HTA.out.told ig)
    obtain ⟨k, hk⟩ : ∃ k, scnE X c ig = k := ⟨_, rfl⟩
    have HE := Lib.hid hk
    obtain ⟨nn, hnn⟩ : ∃ m, ((scnN X c ig : Nat) : Int) = m := ⟨_, rfl⟩
    obtain ⟨rl, hrl⟩ : ∃ m, (scnR X c ig).length = m := ⟨_, rfl⟩
    rw [hk, hnn]
    rw [hrl] at HROW HRZ ⊢
    clear hk hnn hrl hrow hst hix hmz hzz hon hrz HSC
    by_cases e0 : k = 0
    ·subst e0
     have HT2 := Lib.hid (scn_tells2 ig HTA.out.ix HTA.out.calm HTA.out.inv HE.out)
     have hr := HROW.out
     rw [HT2.out.1] at hr
     have HTC := Lib.hid (tells_any ig HST.out HGS.out (by have := HTA.out.lis; have := HI6.out; have := HTL.out; omega) HQ.out.calm HQ.out.inv hr HRZ.out HT2.out.2 (HIG.out.below HB3.out) (by have := HPT.out.1; omega) (fun p hp => by have := HPT.out.2 p hp; omega))
     clear hr
     go_wp2_with fail
     refine HTC.out.mono ?_
     rintro e w8 ⟨rfl, c', hs8, hq8, _, hg8, hk8⟩
     have HB8 : Hid (Bench w3 w8 b s x c' (scnX X c ig)) := ⟨Z', m', hs8, keepIx HIX.out ⟨HZX.out, HMZ.out⟩ hk8, ⟨HZX.out, HMZ.out⟩, HH4.out⟩
     have HQ8 := Lib.hid hq8
     have HG8 := Lib.hid hg8
     clear hs8 hq8 hg8 hk8 HTC
     go_wp2_with fail
     go_roundw
     case rel => exact ⟨i + 1, x, c', scnX X c ig, by omega, rfl, by go_num, HTA.out.scn ig HB8.out HQ8.out HG8.out (by have := HI6.out; have := HTL.out; omega) HI6.out⟩
     case measure => simp [intOf]; omega
    ·have e1 : (k == 0) = false := by simpa using e0
     have HB8 : Hid (Bench w3 w7 b s x (scnC X c ig) (scnX X c ig)) := ⟨Z', m', HST.out, HIX.out, ⟨HZX.out, HMZ.out⟩, HH4.out⟩
     go_wp2_with fail
     go_roundw
     case rel => exact ⟨i + 1, x, scnC X c ig, scnX X c ig, by omega, rfl, by go_num, HTA.out.scn ig (n := 0) HB8.out (Quo.refl HQ.out.calm HQ.out.inv) HGS.out (by omega) HI6.out⟩
     case measure => simp [intOf]; omega
   ·have r0' : (rk == 0) = false := by simpa using r0
    by_cases r1 : rk = 1
    ·subst r1
     obtain ⟨Z, m, h1, h2, h3, h4⟩ := HTA.out.at_
     have HS1 := Lib.hid h1
     clear h1 h2 h3 h4
     go_wp2_with fail
     refine (newix_any wa).mono ?_
     rintro e w7 ⟨rfl, hw7⟩
     have HB7 : Hid (Bench w3 w7 b s wa.heap.size c ⟨[], 0⟩) := ⟨fun k => Z k ∨ k = wa.heap.size, none, by rw [← hw7]; exact HS1.out.add _, by rw [← hw7]; exact IxAt.new wa, ⟨.inr rfl, fun k hk => by cases hk⟩, HS1.out.bel.size⟩
     obtain ⟨x1, hx1⟩ : ∃ k, k = wa.heap.size := ⟨_, rfl⟩
     rw [← hx1] at HB7 ⊢
     clear hw7 hx1
     go_wp2_with fail
     go_roundw
     case rel => exact ⟨i + 1, x1, c, ⟨[], 0⟩, by omega, rfl, by go_num, HTA.out.new HB7.out⟩
     case measure => simp [intOf]; omega
    ·have r1' : (rk == 1) = false := by simpa using r1
     obtain ⟨Z, m, h1, h2, h3, h4⟩ := HTA.out.at_
     have HH1 := Lib.hid h1
     have HH2 := Lib.hid h2
     have HH3 := Lib.hid h3
     have HH4 := Lib.hid h4
     clear h1 h2 h3 h4
     by_cases r9 : kd = 9
     ·subst r9
      go_wp2_with fail
      rw [wcat]
      refine (urs_any (wP pa) HH1.out HGO.out (by have := HI6.out; omega) (by unfold wP; have := HPA.out; simp; omega)).mono ?_
      rintro e w7 ⟨rfl, hs7, hk7⟩
      have HB7 : Hid (Bench w3 w7 b s x (urC c (wP pa)) X) := ⟨Z, m, hs7, keepIx HH2.out HH3.out (hk7.fewer (fun k h => .inl h)), HH3.out, HH4.out⟩
      clear hs7 hk7
      go_wp2_with fail
      go_roundw
      case rel => exact ⟨i + 1, x, _, X, by omega, rfl, by go_num, HTA.out.ur (wP pa) HB7.out⟩
      case measure => simp [intOf]; omega
     ·have r9' : (kd == 9) = false := by simpa using r9
      go_wp2_with fail
      rw [wcat]
      refine (uws_any (G := G) (wP pa) mo HH1.out HGO.out (by have := HI6.out; omega) (by unfold wP; have := HPA.out; simp; omega) HDA.out (fun k hk => .inl (HG3.out k hk))).mono ?_
      rintro e w7 ⟨rfl, hs7, hk7⟩
      have HB7 : Hid (Bench w3 w7 b s x (uwC c (wP pa) mo da) X) := ⟨Z, m, hs7, keepIx HH2.out HH3.out (hk7.fewer (fun k h => .inl h)), HH3.out, HH4.out⟩
      clear hs7 hk7
      go_wp2_with fail
      go_roundw
      case rel => exact ⟨i + 1, x, _, X, by omega, rfl, by go_num, HTA.out.uw (wP pa) mo da HB7.out⟩
      case measure => simp [intOf]; omega
  ·obtain rfl : i = n := by omega
   go_wp2_with fail
   refine (xfirst_any wr).mono ?_
   rintro e w8 ⟨rfl, hb8⟩
   have HB9 := Lib.hid (HBW.out.trans (hb8.mono HBW.out.size))
   clear hb8
   go_wp2_with fail
   go_ret
   exact ⟨rfl, HB9.out⟩
end Go.Proofs.YtbenkmihkbjgeaaGreat.Tx
