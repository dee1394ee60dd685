/- The reference's Ignored. -/
import Derived.Test.YtpbmdeohccdiaaaTn8
namespace Go.Proofs.Ytpbmdeohccdiaaa.Tx
open Go.RowKit Go.Proofs.Ytpbmdeohccdiaaa.Sh

/-- A path's names; none, if it is no path. -/
def namesL (s : List UInt8) : List (List UInt8) := if pathB s = true then splitL 47 s else []
/-- Does a pattern take one of the names ahead of place k? -/
def hitTo (f : List UInt8) (st : Bool) (b : List UInt8) (d : Bool) (l : List (List UInt8)) (k : Nat) : Bool := (List.range k).any fun j => (!d || decide (j + 1 < l.length)) && takesB f st b (l.getD j [])
def hitP (l : List (List UInt8)) (p : List UInt8) : Bool := match patL p with
  | none => false
  | some (f, st, b, d) => hitTo f st b d l l.length
def ignoredB (ps : List (List UInt8)) (s : List UInt8) : Bool := ps.any (hitP (namesL s))
theorem hitTo_succ (f : List UInt8) (st : Bool) (b : List UInt8) (d : Bool) (l : List (List UInt8)) (k : Nat) : hitTo f st b d l (k + 1) = (hitTo f st b d l k || ((!d || decide (k + 1 < l.length)) && takesB f st b (l.getD k []))) := by
  unfold hitTo
  rw [List.range_succ, List.any_append]
  simp
theorem hitTo_more {f : List UInt8} {st : Bool} {b : List UInt8} {d : Bool} {l : List (List UInt8)} {k n : Nat} (hk : k ≤ n) (h : hitTo f st b d l k = true) : hitTo f st b d l n = true := by
  induction n with
  | zero => rw [show k = 0 by omega] at h; exact h
  | succ n ih =>
    by_cases e : k = n + 1
    · rw [← e]; exact h
    · rw [hitTo_succ, ih (by omega), Bool.true_or]
theorem patCore_len (p : List UInt8) : (patCore p).length ≤ p.length := by
  unfold patCore
  split
  · rw [List.length_take]; omega
  · exact Nat.le_refl _
theorem patL_len {p f b : List UInt8} {st d : Bool} (h : patL p = some (f, st, b, d)) : f.length ≤ p.length ∧ b.length ≤ p.length := by
  have hc := patCore_len p
  unfold patL at h
  split at h
  · split at h
    · injection h with h
      injection h with h1 h
      injection h with _ h
      injection h with h2 _
      subst h1 h2
      exact ⟨hc, by simp⟩
    · rename_i a c hs
      split at h
      · cases h
      · injection h with h
        injection h with h1 h
        injection h with _ h
        injection h with h2 _
        subst h1 h2
        have g1 := piece_len (g := 42) (s := patCore p) (p := a) (by rw [hs]; simp)
        have g2 := piece_len (g := 42) (s := patCore p) (p := c) (by rw [hs]; simp)
        omega
    · cases h
  · cases h
theorem namesL_len {s p : List UInt8} (h : p ∈ namesL s) : p.length ≤ s.length := by
  unfold namesL at h
  split at h
  · exact piece_len h
  · cases h
theorem namesL_few (s : List UInt8) : (namesL s).length ≤ s.length + 1 := by
  unfold namesL
  split
  · exact splitL_length_le 47 s
  · simp
theorem rnames_post {w : World} {s : List UInt8} {e : Ending} {w' : World} (h : TextsPost w (if pathB s = true then (splitL 47 s).map str else []) e w') : TextsPost w ((namesL s).map str) e w' := by
  have : (namesL s).map str = if pathB s = true then (splitL 47 s).map str else [] := by
    unfold namesL
    split <;> rfl
  rw [this]
  exact h

set_option maxRecDepth 100000 in
set_option maxHeartbeats 6400000 in
theorem rignored_any (v : Value) (ps : List (List UInt8)) (cs : List UInt8) (w : World) (h : SlV w v ((ps.map str).map sv)) (hn : ps.length ≤ 1000000) (hsz : ∀ p ∈ ps, p.length ≤ 1000000) (hc : cs.length ≤ 1000000) :
    Calls Try.prog 28 #[v, .string (str cs)] w (BoolPost w (ignoredB ps cs)) := by
  have H := Lib.hid h
  obtain ⟨A, c, rfl, hlc, hcm, _⟩ := h.len
  rw [List.length_map, List.length_map] at hlc H ⊢
  unfold maxLen at hcm
  obtain ⟨n, hN⟩ : ∃ n, ps.length = n := ⟨_, rfl⟩
  rw [hN] at hlc hn H ⊢
  have HN := Lib.hid hN
  have HSZ := Lib.hid hsz
  clear h hN hsz
  go_enter Try.func28, Try.ntmps28
  go_wp2_with fail
  refine (rnames_any cs _ hc).mono ?_
  intro e w1 hp
  obtain ⟨vl, rfl, ho, hb⟩ := rnames_post hp
  obtain ⟨ls, hls⟩ : ∃ ls, namesL cs = ls := ⟨_, rfl⟩
  have hll := namesL_few cs
  have hpl : ∀ p ∈ ls, p.length ≤ 1000000 := fun p hp => by rw [← hls] at hp; have := namesL_len hp; omega
  rw [hls] at ho hll
  obtain ⟨Al, cl, rfl, hlc2, hlm2⟩ := ho.length
  rw [List.length_map, List.length_map] at ho hlc2 ⊢
  obtain ⟨m, hM⟩ : ∃ m, ls.length = m := ⟨_, rfl⟩
  rw [hM] at ho hlc2 hll ⊢
  unfold maxLen at hlm2
  have HLS := Lib.hid hls
  have HM := Lib.hid hM
  have HO := Lib.hid ho
  have HB := Lib.hid hb
  have HPL := Lib.hid hpl
  have m1 : (m : Int) ≤ 1000001 := by omega
  have m0 : (0 : Int) ≤ (m : Int) := by omega
  clear hp hls hM ho hb hpl
  go_wp2_with fail
  go_loopw [6] (fun i wr => ∃ k : Nat, k ≤ n ∧ i = .int .i64 k ∧ (∀ (j : Nat) (hj : j < ps.length), j < k → hitP ls ps[j] = false) ∧ Below w.heap.size w wr ∧ OwnV 9 wr w.heap.size (.slice Al m cl) ((ls.map str).map sv)) (fun i _ => n - (intOf i).toNat)
  case atStart => exact ⟨0, by omega, rfl, fun j _ hj => by omega, HB.out, HO.out⟩
  case round =>
    clear HB HO
    obtain ⟨k, hk, rfl, hno, hb, ho⟩ := hrel
    have HNO := Lib.hid hno
    have HB := Lib.hid hb
    have HO := Lib.hid ho
    have hwz := hb.size
    clear hno hb ho
    have k0 : (0 : Int) ≤ (k : Int) := by omega
    by_cases hlt : k < n
    · have k1 : (k : Int) < (n : Int) := by omega
      have hkp : k < ps.length := by rw [HN.out]; exact hlt
      obtain ⟨_, _, hve, _, _, hR⟩ := (H.out.below HB.out).len
      injection hve with g1 g2 g3
      subst g1
      obtain ⟨ad, hA, hcell⟩ := reads_at hR k (sv (str ps[k])) (by rw [List.map_map, List.getElem?_map, List.getElem?_eq_getElem hkp]; rfl)
      have hcell' : wr.cell? (ad.add k) = some (.string (str ps[k])) := hcell
      subst hA
      have hpk := HSZ.out ps[k] (List.getElem_mem hkp)
      obtain ⟨p, hp⟩ : ∃ p, ps[k] = p := ⟨_, rfl⟩
      rw [hp] at hcell' hpk
      have HP := Lib.hid hp
      obtain ⟨r, hr⟩ : ∃ r, patL p = r := ⟨_, rfl⟩
      have HR := Lib.hid hr
      clear hp hr hcell hR g2 g3
      go_wp2_with fail
      refine (pattern_any p _ hpk).mono ?_
      rintro e w2 ⟨rfl, hb2⟩
      rw [HR.out]
      have HB2 := Lib.hid (HB.out.trans (hb2.mono hwz))
      have HO2 := Lib.hid (HO.out.below hb2)
      clear hb2 HB HO
      cases r with
      | none =>
        have hh : hitP ls p = false := by unfold hitP; rw [HR.out]
        have HH := Lib.hid hh
        clear hh
        unfold patV
        go_wp2_with fail
        refine wp_loop_rounds 1 ?_
        rw [rounds_succ]
        go_wp2
        go_roundw
        case rel =>
          refine ⟨k + 1, by omega, by go_num, fun j hj hjk => ?_, HB2.out, HO2.out⟩
          by_cases e : j = k
          · subst e; rw [HP.out]; exact HH.out
          · exact HNO.out j hj (by omega)
        case measure => simp [intOf]; omega
      | some x =>
        obtain ⟨f, st, b, d⟩ := x
        have hfb := patL_len HR.out
        have hh : hitP ls p = hitTo f st b d ls m := by unfold hitP; rw [HR.out, HM.out]
        have HH := Lib.hid hh
        clear hh
        unfold patV
        go_wp2_with fail
        obtain ⟨wo, hwo⟩ : ∃ wo, wo = wr := ⟨_, rfl⟩
        subst hwo
        go_loop [12] (fun q => ∃ j : Nat, j ≤ m ∧ q = .int .i64 j ∧ hitTo f st b d ls j = false) (fun q => m - (intOf q).toNat)
        case atStart => exact ⟨0, Nat.zero_le _, rfl, rfl⟩
        case round =>
          obtain ⟨j, hj, rfl, hno⟩ := hrel
          have HNH := Lib.hid hno
          clear hno
          have j0 : (0 : Int) ≤ (j : Int) := by omega
          by_cases hjm : j < m
          · have j1 : (j : Int) < (m : Int) := by omega
            have hjl : j < ls.length := by rw [HM.out]; exact hjm
            obtain ⟨al, rfl, hcl⟩ := piece_at HO2.out j hjl
            have hyl := HPL.out ls[j] (List.getElem_mem hjl)
            have hgd : ls.getD j [] = ls[j] := by rw [List.getD_eq_getElem?_getD, List.getElem?_eq_getElem hjl]; rfl
            have hsu := hitTo_succ f st b d ls j
            rw [HNH.out, Bool.false_or, hgd, HM.out] at hsu
            obtain ⟨y, hy⟩ : ∃ y, ls[j] = y := ⟨_, rfl⟩
            rw [hy] at hcl hyl hsu
            obtain ⟨t, ht⟩ : ∃ t, takesB f st b y = t := ⟨_, rfl⟩
            rw [ht] at hsu
            have HT := Lib.hid ht
            have HSU := Lib.hid hsu
            clear hy hgd ht hsu
            have hcase : (d = false ∨ (d = true ∧ j + 1 < m)) ∨ (d = true ∧ ¬ j + 1 < m) := by
              by_cases e : j + 1 < m
              · cases d
                · exact .inl (.inl rfl)
                · exact .inl (.inr ⟨rfl, e⟩)
              · cases d
                · exact .inl (.inl rfl)
                · exact .inr ⟨rfl, e⟩
            rcases hcase with hcase | ⟨rfl, e⟩
            · have HSU2 : Hid (hitTo f st b d ls (j + 1) = t) := by
                unfold Hid
                rw [HSU.out]
                rcases hcase with rfl | ⟨rfl, e⟩
                · simp
                · simp [e]
              rcases hcase with rfl | ⟨rfl, e⟩
              · cases t with
                | true =>
                  have hyes : ignoredB ps cs = true := by
                    unfold ignoredB
                    rw [HLS.out, List.any_eq_true]
                    exact ⟨p, by rw [← HP.out]; exact List.getElem_mem hkp, by rw [HH.out]; exact hitTo_more (by omega) HSU2.out⟩
                  have HY := Lib.hid hyes
                  clear hyes
                  go_wp2_with fail
                  refine (rtakes_any f b y st _ (by omega) (by omega) hyl).mono ?_
                  rintro e3 w3 ⟨rfl, rfl⟩
                  rw [HT.out]
                  go_wp2
                  go_ret
                  exact ⟨by rw [HY.out]; rfl, HB2.out⟩
                | false =>
                  go_wp2_with fail
                  refine (rtakes_any f b y st _ (by omega) (by omega) hyl).mono ?_
                  rintro e3 w3 ⟨rfl, rfl⟩
                  rw [HT.out]
                  go_wp2
                  go_round
                  case rel => exact ⟨j + 1, by omega, by go_num, HSU2.out⟩
                  case measure => simp [intOf]; omega
              · have e1 : (j : Int) < (m : Int) - 1 := by omega
                cases t with
                | true =>
                  have hyes : ignoredB ps cs = true := by
                    unfold ignoredB
                    rw [HLS.out, List.any_eq_true]
                    exact ⟨p, by rw [← HP.out]; exact List.getElem_mem hkp, by rw [HH.out]; exact hitTo_more (by omega) HSU2.out⟩
                  have HY := Lib.hid hyes
                  clear hyes
                  go_wp2_with fail
                  refine (rtakes_any f b y st _ (by omega) (by omega) hyl).mono ?_
                  rintro e3 w3 ⟨rfl, rfl⟩
                  rw [HT.out]
                  go_wp2
                  go_ret
                  exact ⟨by rw [HY.out]; rfl, HB2.out⟩
                | false =>
                  go_wp2_with fail
                  refine (rtakes_any f b y st _ (by omega) (by omega) hyl).mono ?_
                  rintro e3 w3 ⟨rfl, rfl⟩
                  rw [HT.out]
                  go_wp2
                  go_round
                  case rel => exact ⟨j + 1, by omega, by go_num, HSU2.out⟩
                  case measure => simp [intOf]; omega
            · have HSU2 : Hid (hitTo f st b true ls (j + 1) = false) := by unfold Hid; rw [HSU.out]; simp [e]
              have e1 : (m : Int) - 1 ≤ (j : Int) := by omega
              go_wp2
              go_round
              case rel => exact ⟨j + 1, by omega, by go_num, HSU2.out⟩
              case measure => simp [intOf]; omega
          · obtain rfl : j = m := by omega
            go_wp2
            go_roundw
            case rel =>
              refine ⟨k + 1, by omega, by go_num, fun i hi hik => ?_, HB2.out, HO2.out⟩
              by_cases e : i = k
              · subst e; rw [HP.out, HH.out]; exact HNH.out
              · exact HNO.out i hi (by omega)
            case measure => simp [intOf]; omega
    · have hall : ignoredB ps cs = false := by
        unfold ignoredB
        rw [HLS.out, List.any_eq_false]
        intro x hx
        obtain ⟨i, hi, rfl⟩ := List.getElem_of_mem hx
        rw [HNO.out i hi (by rw [HN.out] at hi; omega)]
        decide
      have HALL := Lib.hid hall
      clear hall
      obtain rfl : k = n := by omega
      go_wp2
      go_ret
      exact ⟨by rw [HALL.out]; rfl, HB.out⟩
end Go.Proofs.Ytpbmdeohccdiaaa.Tx
