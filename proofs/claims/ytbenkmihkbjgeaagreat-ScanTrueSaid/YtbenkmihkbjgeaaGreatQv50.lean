/- Texts put together: VSc29. -/
import Derived.Test.YtbenkmihkbjgeaaGreatQv49
import Derived.Test.YtbenkmihkbjgeaaGreatQv43
import Derived.Test.YtbenkmihkbjgeaaGreatQv05
import Derived.Test.YtbenkmihkbjgeaaGreatQv04
/- marlaw13.tells: what a scan tells is what stands there. (mk_sc29.py wrote it.) -/
set_option linter.unusedVariables false
set_option linter.unusedSimpArgs false
namespace Go.Proofs.YtbenkmihkbjgeaaGreat.Tx
open Go.RowKit Go.Maps Go.Proofs.YtbenkmihkbjgeaaGreat.Sh S7
theorem OwnV.only_ {E : TypeId} {M : Nat → Prop} {w w' : World} {B : Nat} {v : Value} {l : List Value} (h : OwnV E w B v l) (ho : Only M w w') (hn : ∀ k, v.ownBlock = some k → ¬ M k) : OwnV E w' B v l := by
 rcases h with ⟨h0, h1 | ⟨g, cap, cur, hv, hb, hg, hc, hm, hcs, htk⟩⟩
 ·exact ⟨h0, .inl h1⟩
 ·subst hv
  have hl : g < w.heap.size := (Array.getElem?_eq_some_iff.1 hg).1
  exact ⟨h0, .inr ⟨g, cap, cur, rfl, hb, (ho.block g hl (hn g rfl)).trans hg, hc, hm, hcs, htk⟩⟩
theorem Keeps.texts {w w1 w2 : World} {Z : Nat → Prop} {B : Nat} {v : Value} {l : List Value} (hk : Keeps w Z w1 w2) (h : OwnV 9 w1 B v l) (hz : ∀ k, v.ownBlock = some k → Z k) : OwnV 9 w2 B v l :=
 h.only_ hk (fun k hb hn => hn.1 (hz k hb))
def toldN (ig : List (List UInt8)) (L : List (List UInt8)) : List (List UInt8) := namesS ig (L.filter (hitC wD))
theorem told_next {ig L : List (List UInt8)} {i : Nat} {q : List UInt8} (h : L[i]? = some q) : toldN ig (L.take (i + 1)) = toldN ig (L.take i) ++ (if hitC wD q = true then (if ignoredB ig (lastN wD q) = true then [] else [lastN wD q]) else []) := by
 unfold toldN
 rw [filter_next h]
 unfold namesS
 rw [List.map_append, List.filter_append]
 congr 1
 by_cases h1 : hitC wD q = true
 ·rw [if_pos h1, if_pos h1]
  show List.filter (fun p => !ignoredB ig p) [lastN wD q] = _
  rw [List.filter_cons]
  cases ignoredB ig (lastN wD q) <;> rfl
 ·rw [if_neg h1, if_neg h1]
  rfl
theorem told_all {ig L : List (List UInt8)} (i : Nat) : toldN ig L = toldN ig (L.take i) ++ toldN ig (L.drop i) := by
 conv => lhs; rw [← List.take_append_drop i L]
 unfold toldN namesS
 rw [List.filter_append, List.map_append, List.filter_append]
theorem told_row {ig L : List (List UInt8)} {i : Nat} {q : List UInt8} (h : L[i]? = some q) (h1 : hitC wD q = true) (h2 : ignoredB ig (lastN wD q) = false) : (toldN ig L)[(toldN ig (L.take i)).length]? = some (lastN wD q) := by
 rw [told_all (i + 1), told_next h, if_pos h1, if_neg (by rw [h2]; decide), List.append_assoc, List.getElem?_append_right (Nat.le_refl _), Nat.sub_self]
 rfl
def TelP (w w1 : World) (b s i : Nat) (c : CSt) (Z : Nat → Prop) (n : Nat) (e : Ending) (w' : World) : Prop := e = .returned (.bool true) ∧ ∃ c', StAt w w' b c' s Z ∧ Quo c c' ∧ c'.here = c.here ∧ GoS c' (i + n) ∧ Keeps w Z w1 w'
set_option maxRecDepth 100000 in
set_option maxHeartbeats 12800000 in
theorem tells_any {w w1 : World} {b s i0 : Nat} {c : CSt} {Z : Nat → Prop} {rv vI : Value} (ig : List (List UInt8)) (h : StAt w w1 b c s Z) (hg : GoS c i0) (hi0 : i0 + (namesS ig (listC c.here wD)).length ≤ 380000) (hc : Calm c) (hi : InvC c)
  (hr : OwnR 120 w1 w.heap.size rv ((namesS ig (listC c.here wD)).map (rowS c.here))) (hrz : ∀ k, rv.ownBlock = some k → Z k)
  (hhas : ∀ p ∈ namesS ig (listC c.here wD), HasOK c (idL (blobL (peekF c.here (wP p)).data)) ∧ (peekF c.here (wP p)).data.length ≤ 4096)
  (hI : SlV w vI ((ig.map Tx.str).map sv)) (hIn : ig.length ≤ 1000) (hIz : ∀ p ∈ ig, p.length ≤ 1000) :
  Calls Tryz.prog 21 #[.pointer (some ⟨b, 0, none⟩), .pointer (some ⟨s, 0, none⟩), rv, vI] w1 (TelP w w1 b s i0 c Z (namesS ig (listC c.here wD)).length) := by
 have H := Lib.hid h
 have HG := Lib.hid hg
 have HI0 := Lib.hid hi0
 have HIV := Lib.hid hi
 have HCM := Lib.hid hc
 have HRZ := Lib.hid hrz
 have HHAS := Lib.hid hhas
 have HIG := Lib.hid hI
 have HIN := Lib.hid hIn
 have HIZ := Lib.hid hIz
 obtain ⟨L, hL⟩ : ∃ L, pathsM c.here = L := ⟨_, rfl⟩
 have hLL : L.length = c.here.length := by rw [← hL]; unfold pathsM; rw [List.length_map]
 have HTN : Hid (namesS ig (listC c.here wD) = toldN ig L) := by unfold Hid toldN listC; rw [hL]
 rw [HTN.out] at hr HHAS HI0 ⊢
 obtain ⟨rA, rc, rfl, hr1, hr2, hr3, _⟩ := hr.slR
 have HROW := Lib.hid hr
 rw [List.length_map] at hr1 HROW HRZ ⊢
 obtain ⟨M, hM⟩ : ∃ M, (toldN ig L).length = M := ⟨_, rfl⟩
 have HM := Lib.hid hM
 rw [hM] at hr1 HROW HRZ HI0 ⊢
 unfold maxLen at hr2
 obtain ⟨n, hn⟩ : ∃ n, c.here.length = n := ⟨_, rfl⟩
 rw [hn] at hLL
 have HNS : Hid (n ≤ 900000) := by unfold Hid; rw [← hn]; exact (HG.out.small (by have := HI0.out; omega)).here
 have HLL := Lib.hid hLL
 have HL := Lib.hid hL
 have HPT : Hid (∀ q ∈ L, pathB q = true) := fun q hq => by
  rw [← HL.out] at hq
  unfold pathsM at hq
  obtain ⟨r, hr, rfl⟩ := List.mem_map.1 hq
  exact (HIV.out.rows.row r hr).1
 have HST : Hid (∀ q ∈ L, peekB c.here q = true) := fun q hq => by
  rw [← HL.out] at hq
  unfold pathsM at hq
  obtain ⟨r, hr, rfl⟩ := List.mem_map.1 hq
  exact peek_yes hr
 clear h hg hi0 hc hi hr hrz hhas hI hIn hIz hM hn hLL hL hr3
 go_enter Tryz.func21, Tryz.ntmps21
 go_wp2_with fail
 refine (paths_mine H.out.1.mine (HG.out.small (by have := HI0.out; omega))).mono ?_
 rintro e w2 ⟨⟨vp, rfl, hop, hb⟩, _⟩
 rw [HL.out] at hop
 have hs2 := H.out.fresh hb
 obtain ⟨Z2, hZ2⟩ : ∃ Z2 : Nat → Prop, Z2 = (fun k => Z k ∨ (w1.heap.size ≤ k ∧ k < w2.heap.size)) := ⟨_, rfl⟩
 rw [← hZ2] at hs2
 have HZZ : Hid (∀ k, Z k → Z2 k) := fun k hk => by rw [hZ2]; exact .inl hk
 have HZP : Hid (∀ k, vp.ownBlock = some k → Z2 k) := fun k hk => by rw [hZ2]; exact .inr (World.ownsRow.lt hop k hk)
 have HS2 := Lib.hid hs2
 have HB2 := Lib.hid hb
 have HOP := Lib.hid hop
 have HR2 := Lib.hid (HROW.out.below hb)
 obtain ⟨pA, pc, rfl, hp1, hp2⟩ := hop.length
 simp only [List.length_map] at hp1 HOP HZP ⊢
 rw [HLL.out] at hp1 HOP HZP ⊢
 unfold maxLen at hp2
 have hn9 : n ≤ 900000 := HNS.out
 clear hs2 hb hop hZ2
 go_wp2_with fail
 go_loopw [10, 11] (fun x y wr => ∃ (i k : Nat) (c' : CSt), i ≤ n ∧ x = .int .i64 (k : Int) ∧ y = .int .i64 (i : Int) ∧ k = (toldN ig (L.take i)).length ∧ StAt w wr b c' s Z2 ∧ Quo c c' ∧ c'.here = c.here ∧ GoS c' (i0 + k) ∧ Keeps w Z2 w2 wr) (fun _ y _ => n - (intOf y).toNat)
 case atStart => exact ⟨0, 0, c, Nat.zero_le _, rfl, rfl, rfl, HS2.out, Quo.refl HCM.out HIV.out, rfl, HG.out, Keeps.refl _ _ _⟩
 case round =>
  obtain ⟨i, k, c', hi, rfl, rfl, hk, hst, hqu, hhe, hgo, hkp⟩ := hrel
  have HK := Lib.hid hk
  have HS := Lib.hid hst
  have HQ := Lib.hid hqu
  have HH := Lib.hid hhe
  have HGC := Lib.hid hgo
  have HKP := Lib.hid hkp
  clear hk hst hqu hhe hgo hkp
  have z0 : (0 : Int) ≤ (i : Int) := by omega
  have k0 : (0 : Int) ≤ (k : Int) := by omega
  have HIC : Hid (∀ W, Below wr.heap.size wr W → SlV W vI ((ig.map Tx.str).map sv)) := fun W hW => HIG.out.below (HS.out.bel.trans (hW.mono HS.out.bel.size))
  have kM : k ≤ M := by
   have h1 := told_all (ig := ig) (L := L) i
   have h2 := congrArg List.length h1
   rw [List.length_append, HM.out, ← HK.out] at h2
   omega
  by_cases hlt : i < n
  ·have z1 : (i : Int) < (n : Int) := by omega
   have hil : i < L.length := by have := HLL.out; omega
   obtain ⟨q, hq⟩ : ∃ q, L[i] = q := ⟨_, rfl⟩
   have HGQ : Hid (L[i]? = some q) := by unfold Hid; rw [List.getElem?_eq_getElem hil, hq]
   have HQP := Lib.hid (HPT.out q (List.mem_of_getElem? HGQ.out))
   have HQS := Lib.hid (HST.out q (List.mem_of_getElem? HGQ.out))
   have hq1 : q.length ≤ 1000 := path_short HQP.out
   have HNX := Lib.hid (told_next (ig := ig) HGQ.out)
   have hat : ∀ W, Keeps w Z2 w2 W → ∃ ad, pA = some ad ∧ W.cell? (ad.add i) = some (.string (Tx.str q)) := fun W hW => by
    have ho := hW.texts HOP.out HZP.out
    obtain ⟨A', c9, he, _, _, hrd⟩ := ho.slv.len
    injection he with he1 he2 he3
    subst he1
    simp only [List.length_map] at hrd
    have h9 := texts_at (xs := L.map Tx.str) (by simpa using hrd) i (by rw [List.length_map]; exact hil)
    obtain ⟨ad, e, hcell⟩ := h9
    exact ⟨ad, e, by rw [hcell]; simp [hq]⟩
   obtain ⟨ap, rfl, _⟩ := hat wr HKP.out
   have HPC : Hid (∀ W, Keeps w Z2 wr W → W.cell? (ap.add i) = some (.string (Tx.str q))) := fun W hW => by
    obtain ⟨ad, e, hc⟩ := hat W (HKP.out.trans hW)
    injection e with e
    rw [e]
    exact hc
   have hsz := str_size q
   obtain ⟨l, hl⟩ : ∃ l, q.length = l := ⟨_, rfl⟩
   rw [hl] at hsz hq1
   have HLQ := Lib.hid hl
   clear hil hq hat hl
   have x0 := HPC.out wr (Keeps.refl _ _ _)
   obtain ⟨t, ht⟩ : ∃ t, hitC wD q = t := ⟨_, rfl⟩
   have HUN := Lib.hid (runder_any wD q wr (by decide) (by have := HLQ.out; omega))
   rw [under_w HQP.out, ht] at HUN
   have HT := Lib.hid ht
   clear ht
   go_wp2_with fail
   refine HUN.out.mono ?_
   rintro e w3 ⟨rfl, hb3⟩
   have HB3 := Lib.hid hb3
   have HKW : Hid (Keeps w Z2 wr w3) := Keeps.of_below hb3
   have HS3 := Lib.hid (HS.out.below hb3)
   clear hb3 HUN x0
   have x0 := HPC.out w3 HKW.out
   cases t with
   | false =>
    go_wp2_with fail
    go_roundw
    case rel => exact ⟨i + 1, k, c', by omega, rfl, by go_num, by rw [HNX.out, HT.out, if_neg (by decide), List.append_nil]; exact HK.out, HS3.out, HQ.out, HH.out, HGC.out, HKP.out.trans HKW.out⟩
    case measure => simp [intOf]; omega
   | true =>
    have HE := Lib.hid (hitw_of HT.out)
    obtain ⟨q2, hq2⟩ : ∃ q2, q.drop 2 = q2 := ⟨_, rfl⟩
    have HD := Lib.hid hq2
    have hl2 : 2 ≤ l := by
     have h9 := congrArg List.length HE.out
     unfold wP at h9
     simp only [List.length_cons] at h9
     have := HLQ.out
     omega
    have HLN : Hid (lastN wD q = q2) := by unfold Hid; rw [HE.out, HD.out]; exact last_wP _
    have hsl := slice_str q 2 l
    rw [List.take_of_length_le (Nat.le_of_eq HLQ.out), hq2] at hsl
    have l2 : (2 : Int) ≤ (l : Int) := by omega
    have HQ2 : Hid (q2.length ≤ 1000) := by unfold Hid; rw [← HD.out, List.length_drop]; have := HLQ.out; omega
    rw [HLN.out, HT.out, if_pos rfl] at HNX
    clear hq2
    obtain ⟨t2, ht2⟩ : ∃ t, ignoredB ig q2 = t := ⟨_, rfl⟩
    have HT2 := Lib.hid ht2
    have HIGN := Lib.hid (rignored_any vI ig q2 w3 (HIC.out w3 HB3.out) (by have := HIN.out; omega) (fun p hp => by have := HIZ.out p hp; omega) (by have := HQ2.out; omega))
    rw [ht2] at HIGN
    clear ht2
    go_wp2_with fail
    refine HIGN.out.mono ?_
    rintro e w4 ⟨rfl, hb4⟩
    have HB4 := Lib.hid (HB3.out.trans (hb4.mono HB3.out.size))
    have HKW4 : Hid (Keeps w Z2 wr w4) := HKW.out.below hb4
    have HS4 := Lib.hid (HS3.out.below hb4)
    clear hb4 HIGN x0
    cases t2 with
    | true =>
     go_wp2_with fail
     go_roundw
     case rel => exact ⟨i + 1, k, c', by omega, rfl, by go_num, by rw [HNX.out, HT2.out, if_pos rfl, List.append_nil]; exact HK.out, HS4.out, HQ.out, HH.out, HGC.out, HKP.out.trans HKW4.out⟩
     case measure => simp [intOf]; omega
    | false =>
     have hrow := told_row (ig := ig) HGQ.out HT.out (by rw [HLN.out]; exact HT2.out)
     rw [HLN.out, ← HK.out] at hrow
     have HQI : Hid (q2 ∈ toldN ig L) := List.mem_of_getElem? hrow
     have hkM : k < M := by have h9 := (List.getElem?_eq_some_iff.1 hrow).1; have := HM.out; omega
     have y1 : (k : Int) < (M : Int) := by omega
     have y2 : decide ((M : Int) ≤ (k : Int)) = false := by simp; omega
     have y3 : decide (M ≤ k) = false := by simp; omega
     have HRW : Hid (((toldN ig L).map (rowS c.here))[k]? = some (rowS c.here q2)) := by unfold Hid; rw [List.getElem?_map, hrow]; rfl
     have HWP : Hid (wP q2 = q) := by unfold Hid; rw [← HD.out]; exact HE.out.symm
     have HHA := Lib.hid (HHAS.out q2 HQI.out)
     rw [HWP.out] at HHA
     obtain ⟨⟨md, d, tm⟩, hF⟩ : ∃ F, peekF c.here q = F := ⟨_, rfl⟩
     have HF := Lib.hid hF
     rw [hF] at HHA
     have HRS : Hid (rowS c.here q2 = ⟨q2, md, idL (blobL d)⟩) := by unfold Hid rowS; rw [HWP.out, HF.out]
     obtain ⟨id, hid⟩ : ∃ id, idL (blobL d) = id := ⟨_, rfl⟩
     rw [hid] at HRS
     have HID := Lib.hid hid
     have HHB : Hid (hasE c' id = true) := by
      have h9 := HHA.out.1
      dsimp only at h9
      rw [HID.out] at h9
      exact (HQ.out.calm.has_iff id).2 (HQ.out.has id h9)
     have hat : ∀ W, Keeps w Z2 w2 W → ∃ ad, rA = some ad ∧ W.cell? (ad.add (k * 3)) = some (.string (Tx.str q2)) ∧ W.cell? ⟨(ad.add (k * 3)).block, (ad.add (k * 3)).off + 1, none⟩ = some (.int .i64 md) ∧ W.cell? ⟨(ad.add (k * 3)).block, (ad.add (k * 3)).off + 2, none⟩ = some (.string (Tx.str id)) := fun W hW => by
      have h9 := (HR2.out.only hW (fun k hk hn => hn.1 (HZZ.out k (HRZ.out k hk)))).slR
      obtain ⟨A', c9, he, _, _, _, hrd⟩ := h9
      injection he with he1 he2 he3
      subst he1
      have h8 := rows_at hrd rfl k _ HRW.out
      rw [HRS.out] at h8
      exact h8
     obtain ⟨ar, rfl, _⟩ := hat wr HKP.out
     have HRC : Hid (∀ W, Keeps w Z2 wr W → W.cell? (ar.add (k * 3)) = some (.string (Tx.str q2)) ∧ W.cell? ⟨(ar.add (k * 3)).block, (ar.add (k * 3)).off + 1, none⟩ = some (.int .i64 md) ∧ W.cell? ⟨(ar.add (k * 3)).block, (ar.add (k * 3)).off + 2, none⟩ = some (.string (Tx.str id))) := fun W hW => by
      obtain ⟨ad, e, hc⟩ := hat W (HKP.out.trans hW)
      injection e with e
      rw [e]
      exact hc
     clear hat hrow hF hid kM
     have x0 := HPC.out w4 HKW4.out
     have HPK := Lib.hid (peek_mine q HS4.out.1.mine (HGC.out.small (by have := HI0.out; omega)) (by have := HLQ.out; omega))
     rw [HH.out, HF.out, HQS.out] at HPK
     go_wp2_with fail
     refine HPK.out.mono ?_
     rintro e w5 ⟨dA, dc, rfl, hdv, _, hb5⟩
     have HDV := Lib.hid hdv
     have HB5 := Lib.hid hb5
     have HKW5 : Hid (Keeps w Z2 wr w5) := HKW4.out.below hb5
     have HS5 := Lib.hid (HS4.out.below hb5)
     obtain ⟨dl, hdl⟩ : ∃ dl, d.length = dl := ⟨_, rfl⟩
     have HDL := Lib.hid hdl
     rw [hdl] at HDV ⊢
     clear hdv hb5 hdl HPK x0
     go_upto_region 8 with (fail)
     obtain ⟨w6, hw6⟩ : ∃ W, W = w5.alloc (.cells #[.int .i64 md, .slice dA dl dc, .int .i64 tm] 129) := ⟨_, rfl⟩
     obtain ⟨g, hg⟩ : ∃ k, k = w5.heap.size := ⟨_, rfl⟩
     rw [← hw6]
     try rw [← hg]
     have HKG : Hid (Blk w6 g 129 #[.int .i64 md, .slice dA dl dc, .int .i64 tm]) := by unfold Hid; rw [hw6, hg]; exact heap_alloc_new w5 _
     have HB6 : Hid (Below w5.heap.size w5 w6) := by unfold Hid; rw [hw6]; exact (Below.refl _ _).alloc (Nat.le_refl _) _
     have HS6 := Lib.hid ((HS5.out.fresh HB6.out))
     have HG6 : Hid (w5.heap.size ≤ g ∧ g < w6.heap.size) := by unfold Hid; rw [hg, hw6]; exact ⟨Nat.le_refl _, by simp⟩
     have HKW6 : Hid (Keeps w Z2 wr w6) := HKW5.out.below HB6.out
     clear hw6 hg
     have g1 := HKG.out.cell 1
     have HOI := Lib.hid (Ob.objID_any (.agg #[.int .i64 1, .slice dA dl dc, .slice none 0 0, .string ⟨#[]⟩, .slice none 0 0, .int .i64 0, .int .i64 0, .string ⟨#[]⟩]) ⟨1, d, [], [], [], 0, 0, []⟩ w6 ⟨_, _, _, rfl, sl_of (HDV.out.below HB6.out), Ob.SlI.nil_ _, SlV.nil_ _⟩)
     go_wp2_with fail
     refine HOI.out.mono ?_
     rintro e w7 ⟨hy, _, hb7⟩
     obtain rfl := hy (may_blob d (by have h9 := HHA.out.2; omega))
     rw [enc_blob, show hexL (sumOf (blobL d)) = id from HID.out, show (Sh.str id : ByteArray) = Tx.str id from rfl]
     have HKW7 : Hid (Keeps w Z2 wr w7) := HKW6.out.below hb7
     have HS7 := Lib.hid (HS6.out.fresh hb7)
     have HKG7 := Lib.hid (HKG.out.below hb7 HKG.out.lt)
     have HBX : Hid (Keeps w (fun k => (Z2 k ∨ (w5.heap.size ≤ k ∧ k < w6.heap.size)) ∨ (w6.heap.size ≤ k ∧ k < w7.heap.size)) w7 w7.drew) := Keeps.of_below (Below.refl _ _).drew
     clear hy hb7 g1
     go_upto_region 9 with (fail)
     refine wp_region_held_drew (S := (fun W : World => Keeps w (fun k => (Z2 k ∨ (w5.heap.size ≤ k ∧ k < w6.heap.size)) ∨ (w6.heap.size ≤ k ∧ k < w7.heap.size)) w7 W)) (by kernel_rfl) ?_ (fun hHeld => ?_)
     ·(try dsimp only); exact HBX.out
     refine take_at (i := 0) (d := 55) (oi := { dst := some 55, op := Op.move (Operand.tmp 15), type := 28, pos := "law.go:147", after := #[], guard := none }) (v := ?_) (by kernel_rfl) (by kernel_rfl) (hy := .inl ⟨by kernel_rfl, ?_⟩) (h := ?_)
     rotate_left
     ·intro W hSw; (try dsimp only at hSw); go_simp; first | done | with_reducible rfl
     try simp only [Act.put, List.setIfInBounds_toArray, List.set_cons_zero, List.set_cons_succ]
     refine take_at (i := 1) (d := 56) (oi := { dst := some 56, op := Op.binOp BinOp.neq 28 (Operand.tmp 55) (Operand.const (Value.int IntKind.i64 0)) 28, type := 4, pos := "law.go:147", after := #[{ on := 0, ground := Ground.data }], guard := none }) (v := ?_) (by kernel_rfl) (by kernel_rfl) (hy := .inl ⟨by kernel_rfl, ?_⟩) (h := ?_)
     rotate_left
     ·intro W hSw; (try dsimp only at hSw); go_simp; first | done | with_reducible rfl
     try simp only [Act.put, List.setIfInBounds_toArray, List.set_cons_zero, List.set_cons_succ]
     refine take_at (i := 2) (d := 57) (oi := { dst := some 57, op := Op.move (Operand.tmp 56), type := 4, pos := "law.go:147", after := #[{ on := 1, ground := Ground.data }], guard := none }) (v := ?_) (by kernel_rfl) (by kernel_rfl) (hy := .inl ⟨by kernel_rfl, ?_⟩) (h := ?_)
     rotate_left
     ·intro W hSw; (try dsimp only at hSw); go_simp; first | done | with_reducible rfl
     try simp only [Act.put, List.setIfInBounds_toArray, List.set_cons_zero, List.set_cons_succ]
     refine take_at (i := 3) (d := 58) (oi := { dst := some 58, op := Op.move (Operand.tmp 10), type := 3, pos := "law.go:147", after := #[{ on := 2, ground := Ground.guard }], guard := some (2, false) }) (v := ?_) (by kernel_rfl) (by kernel_rfl) (hy := .inl ⟨by kernel_rfl, ?_⟩) (h := ?_)
     rotate_left
     ·intro W hSw; (try dsimp only at hSw); go_simp; first | done | with_reducible rfl
     try simp only [Act.put, List.setIfInBounds_toArray, List.set_cons_zero, List.set_cons_succ]
     refine take_at (i := 4) (d := 59) (oi := { dst := some 59, op := Op.move (Operand.tmp 2), type := 51, pos := "law.go:147", after := #[{ on := 2, ground := Ground.guard }], guard := some (2, false) }) (v := ?_) (by kernel_rfl) (by kernel_rfl) (hy := .inl ⟨by kernel_rfl, ?_⟩) (h := ?_)
     rotate_left
     ·intro W hSw; (try dsimp only at hSw); go_simp; first | done | with_reducible rfl
     try simp only [Act.put, List.setIfInBounds_toArray, List.set_cons_zero, List.set_cons_succ]
     refine take_at (i := 5) (d := 60) (oi := { dst := some 60, op := Op.call { callee := Callee.builtin Builtin.len, args := #[Operand.tmp 59], argTypes := #[51] }, type := 3, pos := "law.go:147", after := #[{ on := 4, ground := Ground.data }, { on := 2, ground := Ground.guard }], guard := some (2, false) }) (v := ?_) (by kernel_rfl) (by kernel_rfl) (hy := .inl ⟨by kernel_rfl, ?_⟩) (h := ?_)
     rotate_left
     ·intro W hSw; (try dsimp only at hSw); go_simp; first | done | with_reducible rfl
     try simp only [Act.put, List.setIfInBounds_toArray, List.set_cons_zero, List.set_cons_succ]
     refine take_at (i := 6) (d := 61) (oi := { dst := some 61, op := Op.binOp BinOp.geq 3 (Operand.tmp 58) (Operand.tmp 60) 3, type := 4, pos := "law.go:147", after := #[{ on := 3, ground := Ground.data }, { on := 5, ground := Ground.data }, { on := 2, ground := Ground.guard }], guard := some (2, false) }) (v := ?_) (by kernel_rfl) (by kernel_rfl) (hy := .inl ⟨by kernel_rfl, ?_⟩) (h := ?_)
     rotate_left
     ·intro W hSw; (try dsimp only at hSw); go_simp; first | done | with_reducible rfl
     try simp only [Act.put, List.setIfInBounds_toArray, List.set_cons_zero, List.set_cons_succ]
     refine take_at (i := 7) (d := 62) (oi := { dst := some 62, op := Op.pick (Operand.tmp 57) (Operand.const (Value.bool true)) (Operand.tmp 61), type := 4, pos := "law.go:147", after := #[{ on := 2, ground := Ground.data }, { on := 6, ground := Ground.data }], guard := none }) (v := ?_) (by kernel_rfl) (by kernel_rfl) (hy := .inl ⟨by kernel_rfl, ?_⟩) (h := ?_)
     rotate_left
     ·intro W hSw; (try dsimp only at hSw); go_simp; first | done | with_reducible rfl
     try simp only [Act.put, List.setIfInBounds_toArray, List.set_cons_zero, List.set_cons_succ]
     refine take_at (i := 8) (d := 63) (oi := { dst := some 63, op := Op.move (Operand.tmp 62), type := 4, pos := "law.go:147", after := #[{ on := 7, ground := Ground.data }, { on := 2, ground := Ground.chain }], guard := none }) (v := ?_) (by kernel_rfl) (by kernel_rfl) (hy := .inl ⟨by kernel_rfl, ?_⟩) (h := ?_)
     rotate_left
     ·intro W hSw; (try dsimp only at hSw); go_simp; first | done | with_reducible rfl
     try simp only [Act.put, List.setIfInBounds_toArray, List.set_cons_zero, List.set_cons_succ]
     refine take_at (i := 9) (d := 64) (oi := { dst := some 64, op := Op.move (Operand.tmp 2), type := 51, pos := "law.go:147", after := #[{ on := 8, ground := Ground.guard }], guard := some (8, false) }) (v := ?_) (by kernel_rfl) (by kernel_rfl) (hy := .inl ⟨by kernel_rfl, ?_⟩) (h := ?_)
     rotate_left
     ·intro W hSw; (try dsimp only at hSw); go_simp; first | done | with_reducible rfl
     try simp only [Act.put, List.setIfInBounds_toArray, List.set_cons_zero, List.set_cons_succ]
     refine take_at (i := 10) (d := 65) (oi := { dst := some 65, op := Op.move (Operand.tmp 10), type := 3, pos := "law.go:147", after := #[{ on := 8, ground := Ground.guard }], guard := some (8, false) }) (v := ?_) (by kernel_rfl) (by kernel_rfl) (hy := .inl ⟨by kernel_rfl, ?_⟩) (h := ?_)
     rotate_left
     ·intro W hSw; (try dsimp only at hSw); go_simp; first | done | with_reducible rfl
     try simp only [Act.put, List.setIfInBounds_toArray, List.set_cons_zero, List.set_cons_succ]
     refine take_at (i := 11) (d := 66) (oi := { dst := some 66, op := Op.indexAddr 51 (Operand.tmp 64) (Operand.tmp 65), type := 0, pos := "law.go:147", after := #[{ on := 9, ground := Ground.data }, { on := 10, ground := Ground.data }, { on := 8, ground := Ground.guard }], guard := some (8, false) }) (v := ?_) (by kernel_rfl) (by kernel_rfl) (hy := .inl ⟨by kernel_rfl, ?_⟩) (h := ?_)
     rotate_left
     ·intro W hSw; (try dsimp only at hSw); go_simp; first | done | with_reducible rfl
     try simp only [Act.put, List.setIfInBounds_toArray, List.set_cons_zero, List.set_cons_succ]
     refine take_at (i := 12) (d := 67) (oi := { dst := some 67, op := Op.fieldAddr 120 (Operand.tmp 66) 0, type := 0, pos := "law.go:147", after := #[{ on := 11, ground := Ground.data }, { on := 8, ground := Ground.guard }], guard := some (8, false) }) (v := ?_) (by kernel_rfl) (by kernel_rfl) (hy := .inl ⟨by kernel_rfl, ?_⟩) (h := ?_)
     rotate_left
     ·intro W hSw; (try dsimp only at hSw); go_simp; first | done | with_reducible rfl
     try simp only [Act.put, List.setIfInBounds_toArray, List.set_cons_zero, List.set_cons_succ]
     refine take_at (i := 13) (d := 68) (oi := { dst := some 68, op := Op.load 9 (Operand.tmp 67), type := 9, pos := "law.go:147", after := #[{ on := 12, ground := Ground.data }, { on := 8, ground := Ground.guard }], guard := some (8, false) }) (v := ?_) (by kernel_rfl) (by kernel_rfl) (hy := .inl ⟨by kernel_rfl, ?_⟩) (h := ?_)
     rotate_left
     ·intro W hSw
      try dsimp only at hSw
      obtain ⟨r0, r1, r2⟩ := HRC.out _ (HKW7.out.trans (hSw.fewer (fun k h => .inl (.inl h))))
      go_simp
      first | done | with_reducible rfl
     try simp only [Act.put, List.setIfInBounds_toArray, List.set_cons_zero, List.set_cons_succ]
     refine take_at (i := 14) (d := 69) (oi := { dst := some 69, op := Op.move (Operand.tmp 9), type := 23, pos := "law.go:147", after := #[{ on := 8, ground := Ground.guard }], guard := some (8, false) }) (v := ?_) (by kernel_rfl) (by kernel_rfl) (hy := .inl ⟨by kernel_rfl, ?_⟩) (h := ?_)
     rotate_left
     ·intro W hSw; (try dsimp only at hSw); go_simp; first | done | with_reducible rfl
     try simp only [Act.put, List.setIfInBounds_toArray, List.set_cons_zero, List.set_cons_succ]
     refine take_at (i := 15) (d := 70) (oi := { dst := some 70, op := Op.move (Operand.tmp 11), type := 3, pos := "law.go:147", after := #[{ on := 8, ground := Ground.guard }], guard := some (8, false) }) (v := ?_) (by kernel_rfl) (by kernel_rfl) (hy := .inl ⟨by kernel_rfl, ?_⟩) (h := ?_)
     rotate_left
     ·intro W hSw; (try dsimp only at hSw); go_simp; first | done | with_reducible rfl
     try simp only [Act.put, List.setIfInBounds_toArray, List.set_cons_zero, List.set_cons_succ]
     refine take_at (i := 16) (d := 71) (oi := { dst := some 71, op := Op.indexAddr 23 (Operand.tmp 69) (Operand.tmp 70), type := 0, pos := "law.go:147", after := #[{ on := 14, ground := Ground.data }, { on := 15, ground := Ground.data }, { on := 8, ground := Ground.guard }], guard := some (8, false) }) (v := ?_) (by kernel_rfl) (by kernel_rfl) (hy := .inl ⟨by kernel_rfl, ?_⟩) (h := ?_)
     rotate_left
     ·intro W hSw; (try dsimp only at hSw); go_simp; first | done | with_reducible rfl
     try simp only [Act.put, List.setIfInBounds_toArray, List.set_cons_zero, List.set_cons_succ]
     refine take_at (i := 17) (d := 72) (oi := { dst := some 72, op := Op.load 9 (Operand.tmp 71), type := 9, pos := "law.go:147", after := #[{ on := 16, ground := Ground.data }, { on := 8, ground := Ground.guard }], guard := some (8, false) }) (v := ?_) (by kernel_rfl) (by kernel_rfl) (hy := .inl ⟨by kernel_rfl, ?_⟩) (h := ?_)
     rotate_left
     ·intro W hSw
      try dsimp only at hSw
      have x0 := HPC.out _ (HKW7.out.trans (hSw.fewer (fun k h => .inl (.inl h))))
      go_simp
      first | done | with_reducible rfl
     try simp only [Act.put, List.setIfInBounds_toArray, List.set_cons_zero, List.set_cons_succ]
     refine take_at (i := 18) (d := 73) (oi := { dst := some 73, op := Op.slice 9 (Operand.tmp 72) (some (Operand.const (Value.int IntKind.i64 2))) none none, type := 9, pos := "law.go:147", after := #[{ on := 17, ground := Ground.data }, { on := 8, ground := Ground.guard }], guard := some (8, false) }) (v := ?_) (by kernel_rfl) (by kernel_rfl) (hy := .inl ⟨by kernel_rfl, ?_⟩) (h := ?_)
     rotate_left
     ·intro W hSw; (try dsimp only at hSw); go_simp; first | done | with_reducible rfl
     try simp only [Act.put, List.setIfInBounds_toArray, List.set_cons_zero, List.set_cons_succ]
     refine take_at (i := 19) (d := 74) (oi := { dst := some 74, op := Op.binOp BinOp.neq 9 (Operand.tmp 68) (Operand.tmp 73) 9, type := 4, pos := "law.go:147", after := #[{ on := 13, ground := Ground.data }, { on := 18, ground := Ground.data }, { on := 8, ground := Ground.guard }], guard := some (8, false) }) (v := ?_) (by kernel_rfl) (by kernel_rfl) (hy := .inl ⟨by kernel_rfl, ?_⟩) (h := ?_)
     rotate_left
     ·intro W hSw; (try dsimp only at hSw); go_simp; first | done | with_reducible rfl
     try simp only [Act.put, List.setIfInBounds_toArray, List.set_cons_zero, List.set_cons_succ]
     refine take_at (i := 20) (d := 75) (oi := { dst := some 75, op := Op.pick (Operand.tmp 63) (Operand.const (Value.bool true)) (Operand.tmp 74), type := 4, pos := "law.go:147", after := #[{ on := 8, ground := Ground.data }, { on := 19, ground := Ground.data }], guard := none }) (v := ?_) (by kernel_rfl) (by kernel_rfl) (hy := .inl ⟨by kernel_rfl, ?_⟩) (h := ?_)
     rotate_left
     ·intro W hSw; (try dsimp only at hSw); go_simp; first | done | with_reducible rfl
     try simp only [Act.put, List.setIfInBounds_toArray, List.set_cons_zero, List.set_cons_succ]
     refine take_at (i := 21) (d := 76) (oi := { dst := some 76, op := Op.move (Operand.tmp 75), type := 4, pos := "law.go:147", after := #[{ on := 20, ground := Ground.data }, { on := 8, ground := Ground.chain }], guard := none }) (v := ?_) (by kernel_rfl) (by kernel_rfl) (hy := .inl ⟨by kernel_rfl, ?_⟩) (h := ?_)
     rotate_left
     ·intro W hSw; (try dsimp only at hSw); go_simp; first | done | with_reducible rfl
     try simp only [Act.put, List.setIfInBounds_toArray, List.set_cons_zero, List.set_cons_succ]
     refine take_at (i := 22) (d := 77) (oi := { dst := some 77, op := Op.move (Operand.tmp 2), type := 51, pos := "law.go:147", after := #[{ on := 21, ground := Ground.guard }], guard := some (21, false) }) (v := ?_) (by kernel_rfl) (by kernel_rfl) (hy := .inl ⟨by kernel_rfl, ?_⟩) (h := ?_)
     rotate_left
     ·intro W hSw; (try dsimp only at hSw); go_simp; first | done | with_reducible rfl
     try simp only [Act.put, List.setIfInBounds_toArray, List.set_cons_zero, List.set_cons_succ]
     refine take_at (i := 23) (d := 78) (oi := { dst := some 78, op := Op.move (Operand.tmp 10), type := 3, pos := "law.go:147", after := #[{ on := 21, ground := Ground.guard }], guard := some (21, false) }) (v := ?_) (by kernel_rfl) (by kernel_rfl) (hy := .inl ⟨by kernel_rfl, ?_⟩) (h := ?_)
     rotate_left
     ·intro W hSw; (try dsimp only at hSw); go_simp; first | done | with_reducible rfl
     try simp only [Act.put, List.setIfInBounds_toArray, List.set_cons_zero, List.set_cons_succ]
     refine take_at (i := 24) (d := 79) (oi := { dst := some 79, op := Op.indexAddr 51 (Operand.tmp 77) (Operand.tmp 78), type := 0, pos := "law.go:147", after := #[{ on := 22, ground := Ground.data }, { on := 23, ground := Ground.data }, { on := 21, ground := Ground.guard }], guard := some (21, false) }) (v := ?_) (by kernel_rfl) (by kernel_rfl) (hy := .inl ⟨by kernel_rfl, ?_⟩) (h := ?_)
     rotate_left
     ·intro W hSw; (try dsimp only at hSw); go_simp; first | done | with_reducible rfl
     try simp only [Act.put, List.setIfInBounds_toArray, List.set_cons_zero, List.set_cons_succ]
     refine take_at (i := 25) (d := 80) (oi := { dst := some 80, op := Op.fieldAddr 120 (Operand.tmp 79) 1, type := 0, pos := "law.go:147", after := #[{ on := 24, ground := Ground.data }, { on := 21, ground := Ground.guard }], guard := some (21, false) }) (v := ?_) (by kernel_rfl) (by kernel_rfl) (hy := .inl ⟨by kernel_rfl, ?_⟩) (h := ?_)
     rotate_left
     ·intro W hSw; (try dsimp only at hSw); go_simp; first | done | with_reducible rfl
     try simp only [Act.put, List.setIfInBounds_toArray, List.set_cons_zero, List.set_cons_succ]
     refine take_at (i := 26) (d := 81) (oi := { dst := some 81, op := Op.fieldAddr 70 (Operand.tmp 80) 0, type := 0, pos := "law.go:147", after := #[{ on := 25, ground := Ground.data }, { on := 21, ground := Ground.guard }], guard := some (21, false) }) (v := ?_) (by kernel_rfl) (by kernel_rfl) (hy := .inl ⟨by kernel_rfl, ?_⟩) (h := ?_)
     rotate_left
     ·intro W hSw; (try dsimp only at hSw); go_simp; first | done | with_reducible rfl
     try simp only [Act.put, List.setIfInBounds_toArray, List.set_cons_zero, List.set_cons_succ]
     refine take_at (i := 27) (d := 82) (oi := { dst := some 82, op := Op.load 3 (Operand.tmp 81), type := 3, pos := "law.go:147", after := #[{ on := 26, ground := Ground.data }, { on := 21, ground := Ground.guard }], guard := some (21, false) }) (v := ?_) (by kernel_rfl) (by kernel_rfl) (hy := .inl ⟨by kernel_rfl, ?_⟩) (h := ?_)
     rotate_left
     ·intro W hSw
      try dsimp only at hSw
      obtain ⟨r0, r1, r2⟩ := HRC.out _ (HKW7.out.trans (hSw.fewer (fun k h => .inl (.inl h))))
      go_simp
      first | done | with_reducible rfl
     try simp only [Act.put, List.setIfInBounds_toArray, List.set_cons_zero, List.set_cons_succ]
     refine take_at (i := 28) (d := 83) (oi := { dst := some 83, op := Op.fieldAddr 129 (Operand.tmp 12) 0, type := 0, pos := "law.go:147", after := #[{ on := 21, ground := Ground.guard }], guard := some (21, false) }) (v := ?_) (by kernel_rfl) (by kernel_rfl) (hy := .inl ⟨by kernel_rfl, ?_⟩) (h := ?_)
     rotate_left
     ·intro W hSw; (try dsimp only at hSw); go_simp; first | done | with_reducible rfl
     try simp only [Act.put, List.setIfInBounds_toArray, List.set_cons_zero, List.set_cons_succ]
     refine take_at (i := 29) (d := 84) (oi := { dst := some 84, op := Op.load 3 (Operand.tmp 83), type := 3, pos := "law.go:147", after := #[{ on := 28, ground := Ground.data }, { on := 21, ground := Ground.guard }], guard := some (21, false) }) (v := ?_) (by kernel_rfl) (by kernel_rfl) (hy := .inl ⟨by kernel_rfl, ?_⟩) (h := ?_)
     rotate_left
     ·intro W hSw
      try dsimp only at hSw
      have hg9 := Only.blk hSw HKG7.out (fun hn => hn.1 (.inl (.inr HG6.out)))
      have g0 := hg9.cell 0
      go_simp
      first | done | with_reducible rfl
     try simp only [Act.put, List.setIfInBounds_toArray, List.set_cons_zero, List.set_cons_succ]
     refine take_at (i := 30) (d := 85) (oi := { dst := some 85, op := Op.binOp BinOp.neq 3 (Operand.tmp 82) (Operand.tmp 84) 3, type := 4, pos := "law.go:147", after := #[{ on := 27, ground := Ground.data }, { on := 29, ground := Ground.data }, { on := 21, ground := Ground.guard }], guard := some (21, false) }) (v := ?_) (by kernel_rfl) (by kernel_rfl) (hy := .inl ⟨by kernel_rfl, ?_⟩) (h := ?_)
     rotate_left
     ·intro W hSw; (try dsimp only at hSw); go_simp; first | done | with_reducible rfl
     try simp only [Act.put, List.setIfInBounds_toArray, List.set_cons_zero, List.set_cons_succ]
     refine take_at (i := 31) (d := 86) (oi := { dst := some 86, op := Op.pick (Operand.tmp 76) (Operand.const (Value.bool true)) (Operand.tmp 85), type := 4, pos := "law.go:147", after := #[{ on := 21, ground := Ground.data }, { on := 30, ground := Ground.data }], guard := none }) (v := ?_) (by kernel_rfl) (by kernel_rfl) (hy := .inl ⟨by kernel_rfl, ?_⟩) (h := ?_)
     rotate_left
     ·intro W hSw; (try dsimp only at hSw); go_simp; first | done | with_reducible rfl
     try simp only [Act.put, List.setIfInBounds_toArray, List.set_cons_zero, List.set_cons_succ]
     refine take_at (i := 32) (d := 87) (oi := { dst := some 87, op := Op.move (Operand.tmp 86), type := 4, pos := "law.go:147", after := #[{ on := 31, ground := Ground.data }, { on := 21, ground := Ground.chain }], guard := none }) (v := ?_) (by kernel_rfl) (by kernel_rfl) (hy := .inl ⟨by kernel_rfl, ?_⟩) (h := ?_)
     rotate_left
     ·intro W hSw; (try dsimp only at hSw); go_simp; first | done | with_reducible rfl
     try simp only [Act.put, List.setIfInBounds_toArray, List.set_cons_zero, List.set_cons_succ]
     refine take_at (i := 33) (d := 88) (oi := { dst := some 88, op := Op.move (Operand.tmp 2), type := 51, pos := "law.go:147", after := #[{ on := 32, ground := Ground.guard }], guard := some (32, false) }) (v := ?_) (by kernel_rfl) (by kernel_rfl) (hy := .inl ⟨by kernel_rfl, ?_⟩) (h := ?_)
     rotate_left
     ·intro W hSw; (try dsimp only at hSw); go_simp; first | done | with_reducible rfl
     try simp only [Act.put, List.setIfInBounds_toArray, List.set_cons_zero, List.set_cons_succ]
     refine take_at (i := 34) (d := 89) (oi := { dst := some 89, op := Op.move (Operand.tmp 10), type := 3, pos := "law.go:147", after := #[{ on := 32, ground := Ground.guard }], guard := some (32, false) }) (v := ?_) (by kernel_rfl) (by kernel_rfl) (hy := .inl ⟨by kernel_rfl, ?_⟩) (h := ?_)
     rotate_left
     ·intro W hSw; (try dsimp only at hSw); go_simp; first | done | with_reducible rfl
     try simp only [Act.put, List.setIfInBounds_toArray, List.set_cons_zero, List.set_cons_succ]
     refine take_at (i := 35) (d := 90) (oi := { dst := some 90, op := Op.indexAddr 51 (Operand.tmp 88) (Operand.tmp 89), type := 0, pos := "law.go:147", after := #[{ on := 33, ground := Ground.data }, { on := 34, ground := Ground.data }, { on := 32, ground := Ground.guard }], guard := some (32, false) }) (v := ?_) (by kernel_rfl) (by kernel_rfl) (hy := .inl ⟨by kernel_rfl, ?_⟩) (h := ?_)
     rotate_left
     ·intro W hSw; (try dsimp only at hSw); go_simp; first | done | with_reducible rfl
     try simp only [Act.put, List.setIfInBounds_toArray, List.set_cons_zero, List.set_cons_succ]
     refine take_at (i := 36) (d := 91) (oi := { dst := some 91, op := Op.fieldAddr 120 (Operand.tmp 90) 1, type := 0, pos := "law.go:147", after := #[{ on := 35, ground := Ground.data }, { on := 32, ground := Ground.guard }], guard := some (32, false) }) (v := ?_) (by kernel_rfl) (by kernel_rfl) (hy := .inl ⟨by kernel_rfl, ?_⟩) (h := ?_)
     rotate_left
     ·intro W hSw; (try dsimp only at hSw); go_simp; first | done | with_reducible rfl
     try simp only [Act.put, List.setIfInBounds_toArray, List.set_cons_zero, List.set_cons_succ]
     refine take_at (i := 37) (d := 92) (oi := { dst := some 92, op := Op.fieldAddr 70 (Operand.tmp 91) 1, type := 0, pos := "law.go:147", after := #[{ on := 36, ground := Ground.data }, { on := 32, ground := Ground.guard }], guard := some (32, false) }) (v := ?_) (by kernel_rfl) (by kernel_rfl) (hy := .inl ⟨by kernel_rfl, ?_⟩) (h := ?_)
     rotate_left
     ·intro W hSw; (try dsimp only at hSw); go_simp; first | done | with_reducible rfl
     try simp only [Act.put, List.setIfInBounds_toArray, List.set_cons_zero, List.set_cons_succ]
     refine take_at (i := 38) (d := 93) (oi := { dst := some 93, op := Op.load 9 (Operand.tmp 92), type := 9, pos := "law.go:147", after := #[{ on := 37, ground := Ground.data }, { on := 32, ground := Ground.guard }], guard := some (32, false) }) (v := ?_) (by kernel_rfl) (by kernel_rfl) (hy := .inl ⟨by kernel_rfl, ?_⟩) (h := ?_)
     rotate_left
     ·intro W hSw
      try dsimp only at hSw
      obtain ⟨r0, r1, r2⟩ := HRC.out _ (HKW7.out.trans (hSw.fewer (fun k h => .inl (.inl h))))
      go_simp
      first | done | with_reducible rfl
     try simp only [Act.put, List.setIfInBounds_toArray, List.set_cons_zero, List.set_cons_succ]
     refine take_at (i := 39) (d := 94) (oi := { dst := some 94, op := Op.move (Operand.tmp 14), type := 9, pos := "law.go:147", after := #[{ on := 32, ground := Ground.guard }], guard := some (32, false) }) (v := ?_) (by kernel_rfl) (by kernel_rfl) (hy := .inl ⟨by kernel_rfl, ?_⟩) (h := ?_)
     rotate_left
     ·intro W hSw; (try dsimp only at hSw); go_simp; first | done | with_reducible rfl
     try simp only [Act.put, List.setIfInBounds_toArray, List.set_cons_zero, List.set_cons_succ]
     refine take_at (i := 40) (d := 95) (oi := { dst := some 95, op := Op.binOp BinOp.neq 9 (Operand.tmp 93) (Operand.tmp 94) 9, type := 4, pos := "law.go:147", after := #[{ on := 38, ground := Ground.data }, { on := 39, ground := Ground.data }, { on := 32, ground := Ground.guard }], guard := some (32, false) }) (v := ?_) (by kernel_rfl) (by kernel_rfl) (hy := .inl ⟨by kernel_rfl, ?_⟩) (h := ?_)
     rotate_left
     ·intro W hSw; (try dsimp only at hSw); go_simp; first | done | with_reducible rfl
     try simp only [Act.put, List.setIfInBounds_toArray, List.set_cons_zero, List.set_cons_succ]
     refine take_at (i := 41) (d := 96) (oi := { dst := some 96, op := Op.pick (Operand.tmp 87) (Operand.const (Value.bool true)) (Operand.tmp 95), type := 4, pos := "law.go:147", after := #[{ on := 32, ground := Ground.data }, { on := 40, ground := Ground.data }], guard := none }) (v := ?_) (by kernel_rfl) (by kernel_rfl) (hy := .inl ⟨by kernel_rfl, ?_⟩) (h := ?_)
     rotate_left
     ·intro W hSw; (try dsimp only at hSw); go_simp; first | done | with_reducible rfl
     try simp only [Act.put, List.setIfInBounds_toArray, List.set_cons_zero, List.set_cons_succ]
     refine take_at (i := 42) (d := 97) (oi := { dst := some 97, op := Op.move (Operand.tmp 96), type := 4, pos := "law.go:147", after := #[{ on := 41, ground := Ground.data }, { on := 32, ground := Ground.chain }], guard := none }) (v := ?_) (by kernel_rfl) (by kernel_rfl) (hy := .inl ⟨by kernel_rfl, ?_⟩) (h := ?_)
     rotate_left
     ·intro W hSw; (try dsimp only at hSw); go_simp; first | done | with_reducible rfl
     try simp only [Act.put, List.setIfInBounds_toArray, List.set_cons_zero, List.set_cons_succ]
     refine take_at (i := 43) (d := 98) (oi := { dst := some 98, op := Op.move (Operand.tmp 1), type := 34, pos := "law.go:147", after := #[{ on := 42, ground := Ground.guard }], guard := some (42, false) }) (v := ?_) (by kernel_rfl) (by kernel_rfl) (hy := .inl ⟨by kernel_rfl, ?_⟩) (h := ?_)
     rotate_left
     ·intro W hSw; (try dsimp only at hSw); go_simp; first | done | with_reducible rfl
     try simp only [Act.put, List.setIfInBounds_toArray, List.set_cons_zero, List.set_cons_succ]
     refine take_at (i := 44) (d := 99) (oi := { dst := some 99, op := Op.move (Operand.tmp 14), type := 9, pos := "law.go:147", after := #[{ on := 42, ground := Ground.guard }], guard := some (42, false) }) (v := ?_) (by kernel_rfl) (by kernel_rfl) (hy := .inl ⟨by kernel_rfl, ?_⟩) (h := ?_)
     rotate_left
     ·intro W hSw; (try dsimp only at hSw); go_simp; first | done | with_reducible rfl
     try simp only [Act.put, List.setIfInBounds_toArray, List.set_cons_zero, List.set_cons_succ]
     refine wpAnyH_ready (rs := [45]) (by kernel_rfl) (by simp) (AllReadyH.cons (o := { dst := some 100, op := Op.call { callee := Callee.value (Operand.func 88), args := #[Operand.tmp 98, Operand.tmp 99], argTypes := #[34, 9] }, type := 4, pos := "law.go:147", after := #[{ on := 43, ground := Ground.data }, { on := 44, ground := Ground.data }, { on := 42, ground := Ground.chain }, { on := 42, ground := Ground.guard }], guard := some (42, false) }) (by kernel_rfl) (fun K hK => ?_) AllReadyH.nil)
     go_simp
     refine (shasq_any id (HS7.out.below (Below.refl _ _).drew) HGC.out (by have := HI0.out; omega) (by rw [← HID.out, idL_len]; omega)).mono ?_
     rw [HHB.out]
     rintro e w8 ⟨rfl, hs8, hk8⟩
     have HS8 := Lib.hid hs8
     replace HBX := Lib.hid (HBX.out.trans hk8)
     clear hs8 hk8
     try go_wp2_with fail
     refine hK.out _ _ ?_ (fun hHeld => ?_)
     ·(try dsimp only); exact HBX.out
     clear hK K
     try simp only [Act.put, List.setIfInBounds_toArray, List.set_cons_zero, List.set_cons_succ]
     refine take_at (i := 46) (d := 101) (oi := { dst := some 101, op := Op.unOp UnOp.not 4 (Operand.tmp 100), type := 4, pos := "law.go:147", after := #[{ on := 45, ground := Ground.data }, { on := 42, ground := Ground.guard }], guard := some (42, false) }) (v := ?_) (by kernel_rfl) (by kernel_rfl) (hy := .inl ⟨by kernel_rfl, ?_⟩) (h := ?_)
     rotate_left
     ·intro W hSw; (try dsimp only at hSw); go_simp; first | done | with_reducible rfl
     try simp only [Act.put, List.setIfInBounds_toArray, List.set_cons_zero, List.set_cons_succ]
     refine take_at (i := 47) (d := 102) (oi := { dst := some 102, op := Op.pick (Operand.tmp 97) (Operand.const (Value.bool true)) (Operand.tmp 101), type := 4, pos := "law.go:147", after := #[{ on := 42, ground := Ground.data }, { on := 46, ground := Ground.data }], guard := none }) (v := ?_) (by kernel_rfl) (by kernel_rfl) (hy := .inl ⟨by kernel_rfl, ?_⟩) (h := ?_)
     rotate_left
     ·intro W hSw; (try dsimp only at hSw); go_simp; first | done | with_reducible rfl
     try simp only [Act.put, List.setIfInBounds_toArray, List.set_cons_zero, List.set_cons_succ]
     refine wpAnyH_done (by kernel_rfl) ?_ _
     have hHE : (hasC c' id).here = c'.here := by
      unfold hasC
      split
      ·rfl
      ·rw [HQ.out.calm.bg.1]; rfl
     have HHE := Lib.hid (hHE.trans HH.out)
     clear hHE
     go_wp2_with fail
     go_roundw
     case rel => exact ⟨i + 1, k + 1, hasC c' id, by omega, by go_num, by go_num, by rw [HNX.out, HT2.out, if_neg (by decide), List.length_append, ← HK.out]; rfl, HS8.out.fewer (fun k h => .inl (.inl h)), HQ.out.trans (Quo.hasc HQ.out.calm HQ.out.inv id), HHE.out, HGC.out.has id, HKP.out.trans (HKW7.out.trans (HBX.out.fewer (fun k h => .inl (.inl h))))⟩
     case measure => simp [intOf]; omega
  ·obtain rfl : i = n := by omega
   have hT : L.take i = L := List.take_of_length_le (Nat.le_of_eq HLL.out)
   have hk := HK.out
   rw [hT, HM.out] at hk
   subst hk
   clear hT
   go_wp2_with fail
   go_ret
   exact ⟨rfl, c', HS.out.fewer HZZ.out, HQ.out, HH.out, HGC.out, (Keeps.of_below HB2.out).trans (HKP.out.fewer HZZ.out)⟩
end Go.Proofs.YtbenkmihkbjgeaaGreat.Tx
