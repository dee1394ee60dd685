/- Chapter 15: Chunks, the program's. -/
import Derived.Test.YtbejgljljjjjcaaDf6
set_option linter.unusedVariables false
set_option linter.unusedSimpArgs false
namespace Go.Proofs.Ytbejgljljjjjcaa.Ln
open Go.RowKit Go.Proofs.Ytbejgljljjjjcaa.Sh Go.Proofs.Ytbejgljljjjjcaa.Tx

theorem cErr_ok' {o a b : List ByteArray} (h : o.length ≤ 200 ∧ a.length ≤ 200 ∧ b.length ≤ 200) : cErr o a b = 0 ∧ cLst o a b = chunksL o a b := ⟨if_pos h, if_pos h⟩
theorem cErr_no' {o a b : List ByteArray} (h : ¬ (o.length ≤ 200 ∧ a.length ≤ 200 ∧ b.length ≤ 200)) : cErr o a b = 14 ∧ cLst o a b = [] := ⟨if_neg h, if_neg h⟩
theorem pl_back (A : Option Addr) (l c k : Nat) (n : Int) (hn : n = (k : Int)) (hkl : k ≤ l) (w : World) : (Instr.slice 50 (.slice A l c) (some (.int .i64 n)) none none).run Try.prog w = .ok (.slice (if c = k then A else A.map (·.add (k * 3))) (l - k) (c - k)) w := by
  subst hn
  rw [run_slice_l w 50 A l c Try.underlying50 .i64 k (by omega) (by omega), show (sizeOf (Try.prog.elem 50)).run Try.prog w = .ok 3 w by kernel_rfl]
  rfl
theorem kep_small {o a b : List ByteArray} (ho : o.length ≤ 200) (ha : a.length ≤ 200) (hb : b.length ≤ 200) : (kepL o a b).length ≤ 400 := by
  have h1 := (prs_small ho ha).1
  have h2 := (prs_small ho hb).1
  have := kept_len _ (P := prsL 0 0 o a) (Q := prsL 0 0 o b) (Nat.le_refl _)
  unfold kepL
  omega
/-- A place in a block of one's own. -/
def PlA (w : World) (g : Nat) (t : Tri) : Prop := Blk w g 53 #[.int .i64 (t.1 : Int), .int .i64 (t.2.1 : Int), .int .i64 (t.2.2 : Int)]
def mtT (w : World) (g : Nat) : Nat := (intOf ((w.cell? ⟨g, 0, none⟩).getD (.int .i64 0))).toNat + (intOf ((w.cell? ⟨g, 1, none⟩).getD (.int .i64 0))).toNat + (intOf ((w.cell? ⟨g, 2, none⟩).getD (.int .i64 0))).toNat
theorem PlA.mt {w : World} {g : Nat} {t : Tri} (h : PlA w g t) : mtT w g = sumT t := by
  have k0 := h.cell 0
  have k1 := h.cell 1
  have k2 := h.cell 2
  unfold mtT sumT
  rw [k0, k1, k2]
  simp [intOf]
theorem OwnCk.farSet {T : TypeId} {w : World} {B : Nat} {v : Value} {l : List CkM} (h : OwnCk T w B v l) {p : Addr} (hp : p.block < B) (u : Value) : OwnCk T (w.setCell p u) B v l := by
  obtain ⟨L, h1, h2, h3⟩ := h
  exact ⟨L, h1, ownsRow_setCell_below h2 hp u, fun x hx => ⟨ownsRow_setCell_below (h3 x hx).1 hp u, ownsRow_setCell_below (h3 x hx).2.1 hp u, ownsRow_setCell_below (h3 x hx).2.2 hp u⟩⟩
set_option maxRecDepth 100000 in
set_option maxHeartbeats 6400000 in
theorem chunks_any (v1 v2 v3 : Value) (o a b : List ByteArray) (w : World) (h1 : SlV w v1 (o.map sv)) (h2 : SlV w v2 (a.map sv)) (h3 : SlV w v3 (b.map sv)) :
    Calls Try.prog 12 #[v1, v2, v3] w (ChkP 42 w o a b) := by
  have HM1 := Lib.hid (match_any v1 v2 o a w h1 h2)
  have HM2 := Lib.hid (fun W (hW : Below w.heap.size w W) => match_any v1 v3 o b W (h1.below hW) (h3.below hW))
  obtain ⟨A1, c1, rfl, hl1, hm1, _⟩ := h1.len
  obtain ⟨A2, c2, rfl, hl2, hm2, _⟩ := h2.len
  obtain ⟨A3, c3, rfl, hl3, hm3, _⟩ := h3.len
  rw [List.length_map] at h1 h2 h3 hl1 hl2 hl3 HM1 HM2 ⊢
  rw [List.length_map] at HM1 HM2 ⊢
  rw [List.length_map]
  have H1 := Lib.hid h1
  have H2 := Lib.hid h2
  have H3 := Lib.hid h3
  unfold maxLen at hm1 hm2 hm3
  unfold ChkP
  unfold MatP at HM1 HM2
  obtain ⟨no, hno⟩ : ∃ n, o.length = n := ⟨_, rfl⟩
  obtain ⟨na, hna⟩ : ∃ n, a.length = n := ⟨_, rfl⟩
  obtain ⟨nb, hnb⟩ : ∃ n, b.length = n := ⟨_, rfl⟩
  have HNO := Lib.hid hno
  have HNA := Lib.hid hna
  have HNB := Lib.hid hnb
  rcases mErr3 o a with ⟨eE, eP, ho, ha⟩ | ⟨eE, eP, hno'⟩
  · rw [eE, eP] at HM1
    clear eE eP
    rcases mErr3 o b with ⟨eE, eP, _, hb⟩ | ⟨eE, eP, hno'⟩
    · rw [eE, eP] at HM2
      clear eE eP
      obtain ⟨hE, hL⟩ := cErr_ok' ⟨ho, ha, hb⟩
      rw [hE, hL]
      have hp1 := prs_small ho ha
      have hp2 := prs_small ho hb
      have HKE : Hid (∀ (W : World) (v v' : Value), SlK 2 W v ((prsL 0 0 o a).map prC) → SlK 2 W v' ((prsL 0 0 o b).map prC) → Calls Try.prog 22 #[v, v'] W (KepP W (kepL o a b))) := fun W v v' hv hv' => kept_any v v' _ _ W hv hv' hp1.1 hp2.1 (fun p hp => by have := hp1.2 p hp; omega) (fun p hp => by have := hp2.2 p hp; omega)
      have hks := kep_small ho ha hb
      obtain ⟨R, hR⟩ : ∃ R, chunksL o a b = R := ⟨_, rfl⟩
      have HR := Lib.hid hR
      obtain ⟨KK, hKK⟩ : ∃ K, kepL o a b = K := ⟨_, rfl⟩
      have HKR : Hid (chkL o a b (endT o a b) KK (0, 0, 0) (0, 0, 0) = R) := by unfold Hid; rw [← hR, ← hKK]; rfl
      have HKO : Hid (KOk o a b (0, 0, 0) KK) := by unfold Hid; rw [← hKK]; exact kep_ok o a b
      rw [hKK] at HKE hks
      have HKS := Lib.hid hks
      unfold KepP at HKE
      rw [hR]
      rw [hno] at H1 hl1 HM1 HM2 ho ⊢
      rw [hna] at H2 hl2 HM1 ha ⊢
      rw [hnb] at H3 hl3 HM2 hb ⊢
      have HSZ : Hid (no ≤ 200 ∧ na ≤ 200 ∧ nb ≤ 200) := ⟨ho, ha, hb⟩
      clear hp1 hp2 hR hKK hks h1 h2 h3 hno hna hnb hE hL ho ha hb
      go_enter Try.func12, Try.ntmps12
      go_wp2_with fail
      refine HM1.out.mono ?_
      rintro e w1 ⟨p1, rfl, hp1, hb1⟩
      have HP1 := Lib.hid hp1.sl
      have HB1 := Lib.hid hb1
      clear hp1 hb1
      go_wp2_with fail
      refine (HM2.out w1 HB1.out).mono ?_
      rintro e w2 ⟨p2, rfl, hp2, hb2⟩
      have HP1a := Lib.hid (HP1.out.below hb2)
      have HP2 := Lib.hid hp2.sl
      have HB2 := Lib.hid (HB1.out.trans (hb2.mono HB1.out.size))
      clear hp2 hb2
      go_wp2_with fail
      refine (HKE.out w2 _ _ HP1a.out HP2.out).mono ?_
      rintro e w3 ⟨kv, rfl, hkv, hb3⟩
      have HKV := Lib.hid (fun W (hW : Below w3.heap.size w3 W) => hkv.sl.below hW)
      have HB3 := Lib.hid (HB2.out.trans (hb3.mono HB2.out.size))
      clear hkv hb3
      go_wp2_with fail
      obtain ⟨w4, hw4⟩ : ∃ W, W = (w3.alloc (.cells #[.int .i64 0, .int .i64 0, .int .i64 0] 53)).alloc (.cells #[.int .i64 (no : Int), .int .i64 (na : Int), .int .i64 (nb : Int)] 53) := ⟨_, rfl⟩
      obtain ⟨g, hg⟩ : ∃ k, k = w3.heap.size := ⟨_, rfl⟩
      obtain ⟨h, hh⟩ : ∃ k, k = w3.heap.size + 1 := ⟨_, rfl⟩
      rw [← hw4]
      try rw [← hh]
      try rw [← hg]
      have HW4 : Hid (Below w3.heap.size w3 w4) := by unfold Hid; rw [hw4]; exact ((Below.refl _ _).alloc (Nat.le_refl _) _).alloc (by simp) _
      have HPG : Hid (PlA w4 g (0, 0, 0)) := by unfold Hid PlA; rw [hw4, hg]; exact (Blk.new w3 _ _).alloc _
      have HPH : Hid (PlA w4 h (no, na, nb)) := by
        unfold Hid PlA
        rw [hw4, hh]
        have := Blk.new (w3.alloc (.cells #[.int .i64 0, .int .i64 0, .int .i64 0] 53)) 53 #[.int .i64 (no : Int), .int .i64 (na : Int), .int .i64 (nb : Int)]
        rwa [show (w3.alloc (.cells #[.int .i64 0, .int .i64 0, .int .i64 0] 53)).heap.size = w3.heap.size + 1 by simp] at this
      have HGH : Hid (w3.heap.size ≤ g ∧ g < w4.heap.size ∧ w3.heap.size ≤ h ∧ h < w4.heap.size ∧ g ≠ h) := by
        unfold Hid
        have h1 := HPG.out.lt
        have h2 := HPH.out.lt
        omega
      have HB4 : Hid (Below w.heap.size w w4) := HB3.out.trans (HW4.out.mono HB3.out.size)
      have HKL : Hid (lenOf kv = KK.length) := by
        obtain ⟨A, c, e, _⟩ := HKV.out w3 (Below.refl _ _)
        unfold Hid
        rw [e]
        show (KK.map triC).length = _
        rw [List.length_map]
      clear hw4 hg hh
      go_loopw [11, 12] (fun v x wr => ∃ (t : Tri) (C : List CkM) (K : List Tri), PlA wr g t ∧ PlA wr h (no, na, nb) ∧ (∀ W, Below w3.heap.size w3 W → SlK 3 W x (K.map triC)) ∧ lenOf x = K.length ∧ K.length ≤ 400 ∧ R = C ++ chkL o a b (endT o a b) K t t ∧ KOk o a b t K ∧ C.length ≤ sumT t ∧ OwnCk 42 wr w4.heap.size v C ∧ Below w3.heap.size w3 wr ∧ w4.heap.size ≤ wr.heap.size) (fun _ _ wr => no + na + nb - mtT wr g)
      case atStart => exact ⟨(0, 0, 0), [], KK, HPG.out, HPH.out, HKV.out, HKL.out, HKS.out, HKR.out.symm, HKO.out, Nat.zero_le _, OwnCk.nil_ _ _ _, HW4.out, Nat.le_refl _⟩
      case round =>
        obtain ⟨t, C, K, hpg, hph, hsl, hlx, hkl, hRC, hko, hcl, hown, hbl, hw4z⟩ := hrel
        obtain ⟨i, j, k⟩ := t
        obtain ⟨A4, c4, rfl, hl4, hm4, _⟩ := hsl wr hbl
        unfold maxLen at hm4
        rw [List.length_map] at hl4 hlx hsl ⊢
        have HSL := Lib.hid hsl
        have HRC := Lib.hid hRC
        have HKO2 := Lib.hid hko
        have HOW := Lib.hid hown
        have HB := Lib.hid hbl
        have HG := Lib.hid hpg
        have HH := Lib.hid hph
        have HMT := Lib.hid hpg.mt
        have hle := hko.le
        have HSZ2 := HSZ.out
        have hi : i ≤ no := by have := hle.1; unfold endT at this; rw [HNO.out] at this; exact this
        have hj : j ≤ na := by have := hle.2.1; unfold endT at this; rw [HNA.out] at this; exact this
        have hk : k ≤ nb := by have := hle.2.2; unfold endT at this; rw [HNB.out] at this; exact this
        have hsm : C.length ≤ i + j + k := hcl
        have g0 := hpg.cell 0
        have g1 := hpg.cell 1
        have g2 := hpg.cell 2
        have h0 := hph.cell 0
        have h1 := hph.cell 1
        have h2 := hph.cell 2
        clear hRC hko hown hbl hle hpg hph hlx hsl hcl
        have x0 : (0 : Int) ≤ (i : Int) := by omega
        have x1 : (0 : Int) ≤ (j : Int) := by omega
        have x2 : (0 : Int) ≤ (k : Int) := by omega
        by_cases hend : i = no ∧ j = na ∧ k = nb
        · obtain ⟨rfl, rfl, rfl⟩ := hend
          have HE : Hid (R = C) := by
            have hT : endT o a b = (i, j, k) := by unfold endT; rw [HNO.out, HNA.out, HNB.out]
            unfold Hid
            rw [HRC.out, ← hT, chk_end o a b _ (by rw [hT]; exact HKO2.out), List.append_nil]
          go_wp2_with fail
          go_ret2
          exact ⟨_, rfl, by rw [HE.out]; exact HOW.out.base HB4.out.size, HB3.out.trans (HB.out.mono HB3.out.size)⟩
        · have HTG : Hid (∀ W, Below wr.heap.size wr W → Calls Try.prog 23 #[.slice A4 K.length c4, .agg #[.int .i64 (i : Int), .int .i64 (j : Int), .int .i64 (k : Int)]] W (TogP K (i, j, k) W)) := fun W hW => together_any _ K i j k W (HSL.out W (HB.out.trans (hW.mono HB.out.size))) hkl ⟨by simp only; omega, by simp only; omega, by simp only; omega⟩
          obtain ⟨m, hm⟩ : ∃ m, K.length = m := ⟨_, rfl⟩
          have HM := Lib.hid hm
          unfold TogP at HTG
          obtain ⟨n, hn⟩ : ∃ n, togL K (i, j, k) = n := ⟨_, rfl⟩
          have HN := Lib.hid hn
          have hnm : n ≤ m := by rw [← hn, ← hm]; exact tog_le K _
          rw [hn] at HTG
          rw [hm] at hl4 hkl HTG HSL ⊢
          clear hm hn
          go_upto_region 10 with (fail)
          go_cut [49] from 47 to 104 (fun cv wx => cv = .bool true ∧ wr = wx)
          case first =>
            by_cases y0 : i = no
            · by_cases y1 : j = na
              · have y2 : ¬ (k : Int) = (nb : Int) := by omega
                subst y0 y1
                go_wp2_with fail
                go_meet
                exact ⟨rfl, rfl⟩
              · have y2 : ¬ (j : Int) = (na : Int) := by omega
                subst y0
                go_wp2_with fail
                go_meet
                exact ⟨rfl, rfl⟩
            · have y2 : ¬ (i : Int) = (no : Int) := by omega
              go_wp2_with fail
              go_meet
              exact ⟨rfl, rfl⟩
          case rest =>
            obtain ⟨rfl, rfl⟩ := hcut
            go_wp2_with fail
            refine (HTG.out wr (Below.refl _ _)).mono ?_
            rintro e w5 ⟨rfl, hb5⟩
            have HB5 := Lib.hid hb5
            have h0' := (HH.out.below hb5 HH.out.lt).cell 0
            have h1' := (HH.out.below hb5 HH.out.lt).cell 1
            have h2' := (HH.out.below hb5 HH.out.lt).cell 2
            have g0' := (HG.out.below hb5 HG.out.lt).cell 0
            have g1' := (HG.out.below hb5 HG.out.lt).cell 1
            have g2' := (HG.out.below hb5 HG.out.lt).cell 2
            clear hb5
            go_upto_if 55 with (fail)
            obtain ⟨w6, hw6⟩ : ∃ W, W = w5.alloc (.cells #[.int .i64 (no : Int), .int .i64 (na : Int), .int .i64 (nb : Int)] 53) := ⟨_, rfl⟩
            obtain ⟨q, hq⟩ : ∃ k, k = w5.heap.size := ⟨_, rfl⟩
            rw [← hw6]
            try rw [← hq]
            have HB6 : Hid (Below wr.heap.size wr w6) := by unfold Hid; rw [hw6]; exact HB5.out.alloc HB5.out.size _
            have HQ6 : Hid (PlA w6 q (no, na, nb)) := by unfold Hid PlA; rw [hw6, hq]; exact Blk.new w5 _ _
            have HQ : Hid (wr.heap.size ≤ q) := by unfold Hid; rw [hq]; exact HB5.out.size
            have HG6 : Hid (PlA w6 g (i, j, k)) := HG.out.below HB6.out HG.out.lt
            have HH6 : Hid (PlA w6 h (no, na, nb)) := HH.out.below HB6.out HH.out.lt
            clear hw6 hq g0 g1 g2 h0 h1 h2 g0' g1' g2' h0' h1' h2'
            have hee : endT o a b = (no, na, nb) := by unfold endT; rw [HNO.out, HNA.out, HNB.out]
            have HEE := Lib.hid hee
            have HTN : Hid ((i, j, k) ≠ endT o a b) := by
              intro e
              rw [hee] at e
              injection e with e1 e2
              injection e2 with e2 e3
              exact hend ⟨e1, e2, e3⟩
            clear hee
            go_cut [12] from 47 to 104 (fun x wx => ∃ (N : Tri) (K2 : List Tri) (D : Option Addr) (d2 : Nat), x = .slice D K2.length d2 ∧ PlA wx q N ∧ PlA wx g (i, j, k) ∧ PlA wx h (no, na, nb) ∧ Below wr.heap.size wr wx ∧ (∀ W, Below w3.heap.size w3 W → SlK 3 W (.slice D K2.length d2) (K2.map triC)) ∧ K2.length ≤ 400 ∧ leT (i, j, k) N ∧ (i, j, k) ≠ N ∧ leT N (endT o a b) ∧ KOk o a b N K2 ∧
                chkL o a b (endT o a b) K (i, j, k) (i, j, k) = pieceL (if n = 0 then kindL (cutL o i N.1) (cutL a j N.2.1) (cutL b k N.2.2) else 1) o a b (i, j, k) N :: chkL o a b (endT o a b) K2 N N)
            case first =>
              by_cases hn0 : n = 0
              · subst hn0
                have hnx := next_ok HKO2.out
                have hnn := next_ne HN.out HTN.out
                have hgp := chk_gap o a b K (i, j, k) HN.out hnn
                cases K with
                | nil =>
                  have hm0 : m = 0 := HM.out.symm
                  subst hm0
                  have HX := Lib.hid (And.intro hnx (And.intro hnn hgp))
                  clear hnx hnn hgp
                  go_wp2_with fail
                  go_meet
                  exact ⟨(no, na, nb), [], A4, c4, rfl, HQ6.out, HG6.out, HH6.out, HB6.out, HSL.out, Nat.zero_le _, by rw [← HEE.out]; exact HX.out.1.1, by rw [← HEE.out]; exact HX.out.2.1, by rw [← HEE.out]; exact leT.refl _, by rw [← HEE.out]; exact HX.out.1.2.2, by rw [if_pos trivial, ← HEE.out]; exact HX.out.2.2⟩
                | cons z K' =>
                  obtain ⟨za, zb, zc⟩ := z
                  have hm1 : m = K'.length + 1 := HM.out.symm
                  have y0 : (0 : Int) < (m : Int) := by omega
                  obtain ⟨ad, rfl, z0, z1, z2⟩ := tri_at (HSL.out w6 (HB.out.trans (HB6.out.mono HB.out.size))) 0 za zb zc rfl
                  rw [Nat.zero_mul, show ad.add 0 = ad from rfl] at z0 z1 z2
                  have q0 := HQ6.out.cell 0
                  have q1 := HQ6.out.cell 1
                  have q2 := HQ6.out.cell 2
                  have qf0 := HQ6.out.frozen 0
                  have qf1 := HQ6.out.frozen 1
                  have qf2 := HQ6.out.frozen 2
                  have HX := Lib.hid (And.intro hnx (And.intro hnn hgp))
                  have HM1 := Lib.hid hm1
                  have HGQ : Hid (g ≠ q ∧ h ≠ q) := by have h1 := HG.out.lt; have h2 := HH.out.lt; have h3 := HQ.out; exact ⟨by omega, by omega⟩
                  clear hnx hnn hgp hm1
                  go_wp2_with fail
                  go_meet
                  refine ⟨(za, zb, zc), (za, zb, zc) :: K', some ad, c4, by rw [show ((za, zb, zc) :: K').length = m from HM.out], ?_, ((HG6.out.far HGQ.out.1 _).far HGQ.out.1 _).far HGQ.out.1 _, ((HH6.out.far HGQ.out.2 _).far HGQ.out.2 _).far HGQ.out.2 _, ((HB6.out.setCell HQ.out _).setCell HQ.out _).setCell HQ.out _, by rw [show ((za, zb, zc) :: K').length = m from HM.out]; exact HSL.out, by rw [show ((za, zb, zc) :: K').length = m from HM.out]; exact hkl, HX.out.1.1, HX.out.2.1, HX.out.1.2.1, HX.out.1.2.2, by rw [if_pos trivial]; exact HX.out.2.2⟩
                  have hs := ((HQ6.out.set_ 0 (.int .i64 (za : Int))).set_ 1 (.int .i64 (zb : Int))).set_ 2 (.int .i64 (zc : Int))
                  simp at hs
                  exact hs
              · have y0 : (0 : Int) < (n : Int) := by omega
                have g0 := HG6.out.cell 0
                have g1 := HG6.out.cell 1
                have g2 := HG6.out.cell 2
                have HON : Hid (Calls Try.prog 24 #[.agg #[.int .i64 (i : Int), .int .i64 (j : Int), .int .i64 (k : Int)], .int .i64 (n : Int)] w6 (OnP (i, j, k) n w6)) := on_any i j k n w6 (by omega)
                unfold OnP onT triV at HON
                simp only at HON
                have hst := chk_stab o a b (endT o a b) K (i, j, k) (by rw [HN.out]; omega)
                have hko2 := tog_ok HKO2.out
                rw [HN.out] at hst hko2
                have HX := Lib.hid (And.intro hst hko2)
                have hbk : ∀ W, (Instr.slice 50 (.slice A4 m c4) (some (.int .i64 (n : Int))) none none).run Try.prog W = .ok (.slice (if c4 = n then A4 else A4.map (·.add (n * 3))) (m - n) (c4 - n)) W := fun W => pl_back A4 m c4 n _ rfl hnm W
                have HBK : Hid (∀ W, Below w3.heap.size w3 W → SlK 3 W (.slice (if c4 = n then A4 else A4.map (·.add (n * 3))) (m - n) (c4 - n)) ((K.drop n).map triC)) := fun W hW => by
                  have h := (HSL.out W hW).back (triC_len K) n (by rw [List.length_map, HM.out]; exact hnm)
                  rwa [← List.map_drop] at h
                have HDL : Hid ((K.drop n).length = m - n) := by unfold Hid; rw [List.length_drop, HM.out]
                obtain ⟨D2, hD2⟩ : ∃ x, (if c4 = n then A4 else A4.map (·.add (n * 3))) = x := ⟨_, rfl⟩
                obtain ⟨m2, hm2⟩ : ∃ x, m - n = x := ⟨_, rfl⟩
                obtain ⟨d2, hd2⟩ : ∃ x, c4 - n = x := ⟨_, rfl⟩
                simp only [hD2, hm2, hd2] at hbk HBK HDL
                have HM2 := Lib.hid hm2
                clear hst hko2 hD2 hd2 hm2
                go_wp2_with fail
                refine HON.out.mono ?_
                rintro e w7 ⟨rfl, hb7⟩
                have HQ7 : Hid (PlA w7 q (no, na, nb)) := HQ6.out.below hb7 HQ6.out.lt
                have HG7 : Hid (PlA w7 g (i, j, k)) := HG6.out.below hb7 HG6.out.lt
                have HH7 : Hid (PlA w7 h (no, na, nb)) := HH6.out.below hb7 HH6.out.lt
                have HB7 : Hid (Below wr.heap.size wr w7) := HB6.out.trans (hb7.mono HB6.out.size)
                have HGQ : Hid (g ≠ q ∧ h ≠ q) := by have h1 := HG.out.lt; have h2 := HH.out.lt; have h3 := HQ.out; exact ⟨by omega, by omega⟩
                have q0 := HQ7.out.cell 0
                have q1 := HQ7.out.cell 1
                have q2 := HQ7.out.cell 2
                have qf0 := HQ7.out.frozen 0
                have qf1 := HQ7.out.frozen 1
                have qf2 := HQ7.out.frozen 2
                clear hb7 g0 g1 g2
                go_wp2_with fail
                go_meet
                refine ⟨(i + n, j + n, k + n), K.drop n, D2, d2, by rw [HDL.out], ?_, ((HG7.out.far HGQ.out.1 _).far HGQ.out.1 _).far HGQ.out.1 _, ((HH7.out.far HGQ.out.2 _).far HGQ.out.2 _).far HGQ.out.2 _, ((HB7.out.setCell HQ.out _).setCell HQ.out _).setCell HQ.out _, by rw [HDL.out]; exact HBK.out, by rw [HDL.out]; have := HM2.out; omega, leT.on (i, j, k) n, fun e => ?_, (HX.out.2).le, HX.out.2, ?_⟩
                · have hs := ((HQ7.out.set_ 0 (.int .i64 ((i + n : Nat) : Int))).set_ 1 (.int .i64 ((j + n : Nat) : Int))).set_ 2 (.int .i64 ((k + n : Nat) : Int))
                  simp at hs
                  exact hs
                · have := congrArg Prod.fst e
                  simp only at this
                  omega
                · rw [if_neg hn0]; exact HX.out.1
            case rest =>
              obtain ⟨N, K2, D, d2, rfl, hqn, hgn, hhn, hbc, hs2, hk2, hle, hne, hlt, hko2, hch⟩ := hcut
              obtain ⟨wk, rfl⟩ : ∃ W, W = wc := ⟨_, rfl⟩
              obtain ⟨n1, n2, n3⟩ := N
              have hi1 : i ≤ n1 ∧ n1 ≤ no := ⟨hle.1, by have := hlt.1; unfold endT at this; rw [HNO.out] at this; exact this⟩
              have hj1 : j ≤ n2 ∧ n2 ≤ na := ⟨hle.2.1, by have := hlt.2.1; unfold endT at this; rw [HNA.out] at this; exact this⟩
              have hk1 : k ≤ n3 ∧ n3 ≤ nb := ⟨hle.2.2, by have := hlt.2.2; unfold endT at this; rw [HNB.out] at this; exact this⟩
              have HMV : Hid (i + j + k < n1 + n2 + n3) := hle.lt hne
              have HBC := Lib.hid hbc
              have HSS : Hid (∀ W, Below wk.heap.size wk W → W.cell? ⟨g, 0, none⟩ = some (.int .i64 (i : Int)) ∧ W.cell? ⟨g, 1, none⟩ = some (.int .i64 (j : Int)) ∧ W.cell? ⟨g, 2, none⟩ = some (.int .i64 (k : Int)) ∧ W.cell? ⟨q, 0, none⟩ = some (.int .i64 (n1 : Int)) ∧ W.cell? ⟨q, 1, none⟩ = some (.int .i64 (n2 : Int)) ∧ W.cell? ⟨q, 2, none⟩ = some (.int .i64 (n3 : Int))) := by
                intro W hW
                have hg' := hgn.below hW hgn.lt
                have hq' := hqn.below hW hqn.lt
                exact ⟨hg'.cell 0, hg'.cell 1, hg'.cell 2, hq'.cell 0, hq'.cell 1, hq'.cell 2⟩
              have HQN := Lib.hid hqn
              have HGN := Lib.hid hgn
              have HHN := Lib.hid hhn
              have HS2 := Lib.hid hs2
              have HKO3 := Lib.hid hko2
              obtain ⟨kd, hkd⟩ : ∃ kd, kindL (cutL o i n1) (cutL a j n2) (cutL b k n3) = kd := ⟨_, rfl⟩
              obtain ⟨Lo, hLo⟩ : ∃ L, cutL o i n1 = L := ⟨_, rfl⟩
              obtain ⟨La, hLa⟩ : ∃ L, cutL a j n2 = L := ⟨_, rfl⟩
              obtain ⟨Lb, hLb⟩ : ∃ L, cutL b k n3 = L := ⟨_, rfl⟩
              have HRN : Hid (R = (C ++ [⟨if n = 0 then kd else 1, Lo, La, Lb⟩]) ++ chkL o a b (endT o a b) K2 (n1, n2, n3) (n1, n2, n3)) := by
                unfold Hid
                rw [HRC.out, hch, List.append_assoc]
                unfold pieceL
                simp only
                rw [hkd, hLo, hLa, hLb]
                rfl
              rw [hLo, hLa, hLb] at hkd
              have HLL : Hid (Lo.length ≤ 200 ∧ La.length ≤ 200 ∧ Lb.length ≤ 200) := by
                unfold Hid
                rw [← hLo, ← hLa, ← hLb, cut_len o i n1 (by rw [HNO.out]; exact hi1.2), cut_len a j n2 (by rw [HNA.out]; exact hj1.2), cut_len b k n3 (by rw [HNB.out]; exact hk1.2)]
                omega
              have HBW : Hid (Below w.heap.size w wk) := HB3.out.trans ((HB.out.trans (HBC.out.mono HB.out.size)).mono HB3.out.size)
              have s1' : ∀ W, (Instr.slice 22 (.slice A1 no c1) (some (.int .i64 (i : Int))) (some (.int .i64 (n1 : Int))) none).run Try.prog W = .ok (.slice (if c1 = i then A1 else A1.map (·.add i)) (n1 - i) (c1 - i)) W := fun W => t_mid A1 no c1 i n1 _ _ rfl rfl hi1.1 (by omega) W
              have s2' : ∀ W, (Instr.slice 22 (.slice A2 na c2) (some (.int .i64 (j : Int))) (some (.int .i64 (n2 : Int))) none).run Try.prog W = .ok (.slice (if c2 = j then A2 else A2.map (·.add j)) (n2 - j) (c2 - j)) W := fun W => t_mid A2 na c2 j n2 _ _ rfl rfl hj1.1 (by omega) W
              have s3' : ∀ W, (Instr.slice 22 (.slice A3 nb c3) (some (.int .i64 (k : Int))) (some (.int .i64 (n3 : Int))) none).run Try.prog W = .ok (.slice (if c3 = k then A3 else A3.map (·.add k)) (n3 - k) (c3 - k)) W := fun W => t_mid A3 nb c3 k n3 _ _ rfl rfl hk1.1 (by omega) W
              have s1 := slv_mid H1.out i n1 hi1.1 (by rw [List.length_map, HNO.out]; exact hi1.2)
              have s2 := slv_mid H2.out j n2 hj1.1 (by rw [List.length_map, HNA.out]; exact hj1.2)
              have s3 := slv_mid H3.out k n3 hk1.1 (by rw [List.length_map, HNB.out]; exact hk1.2)
              rw [← List.map_drop, ← List.map_take, show (o.drop i).take (n1 - i) = Lo from hLo] at s1
              rw [← List.map_drop, ← List.map_take, show (a.drop j).take (n2 - j) = La from hLa] at s2
              rw [← List.map_drop, ← List.map_take, show (b.drop k).take (n3 - k) = Lb from hLb] at s3
              obtain ⟨V1, hV1⟩ : ∃ x, Value.slice (if c1 = i then A1 else A1.map (·.add i)) (n1 - i) (c1 - i) = x := ⟨_, rfl⟩
              obtain ⟨V2, hV2⟩ : ∃ x, Value.slice (if c2 = j then A2 else A2.map (·.add j)) (n2 - j) (c2 - j) = x := ⟨_, rfl⟩
              obtain ⟨V3, hV3⟩ : ∃ x, Value.slice (if c3 = k then A3 else A3.map (·.add k)) (n3 - k) (c3 - k) = x := ⟨_, rfl⟩
              simp only [hV1] at s1' s1
              simp only [hV2] at s2' s2
              simp only [hV3] at s3' s3
              have HC1 : Hid (∀ W, Below wk.heap.size wk W → Calls Try.prog 25 #[V1] W (TextsPost W Lo)) := fun W hW => fresh_any _ Lo W ((s1.below HBW.out).below hW) (by have := HLL.out; omega)
              have HC2 : Hid (∀ W, Below wk.heap.size wk W → Calls Try.prog 25 #[V2] W (TextsPost W La)) := fun W hW => fresh_any _ La W ((s2.below HBW.out).below hW) (by have := HLL.out; omega)
              have HC3 : Hid (∀ W, Below wk.heap.size wk W → Calls Try.prog 25 #[V3] W (TextsPost W Lb)) := fun W hW => fresh_any _ Lb W ((s3.below HBW.out).below hW) (by have := HLL.out; omega)
              have HOWK := Lib.hid (HOW.out.below HBC.out)
              have HBK := Lib.hid (HB.out.trans (HBC.out.mono HB.out.size))
              have hwz : w4.heap.size ≤ wk.heap.size := Nat.le_trans hw4z HBC.out.size
              have HKDe := Lib.hid hkd
              have HQW : Hid (w4.heap.size ≤ q) := Nat.le_trans hw4z HQ.out
              unfold TextsPost at HC1 HC2 HC3
              clear hkd hLo hLa hLb hne s1 s2 s3 hV1 hV2 hV3 hqn hgn hhn hs2 hko2 hch hbc hle hlt HTG HKE HM1 HM2 HTN HG HH HG6 HH6 HQ6 HB6 HB5
              go_upto_region 18 with (fail)
              go_cut [17] from 47 to 104 (fun x wx => ∃ gc E1 f1 E2 f2 E3 f3, x = .pointer (some ⟨gc, 0, none⟩) ∧ Blk wx gc 42 #[.int .i64 1, .slice E1 Lo.length f1, .slice E2 La.length f2, .slice E3 Lb.length f3] ∧ OwnV 9 wx wk.heap.size (.slice E1 Lo.length f1) (Lo.map sv) ∧ OwnV 9 wx wk.heap.size (.slice E2 La.length f2) (La.map sv) ∧ OwnV 9 wx wk.heap.size (.slice E3 Lb.length f3) (Lb.map sv) ∧ Below wk.heap.size wk wx ∧ wk.heap.size ≤ gc)
              case first => as_aux_lemma =>
                refine wp_region_held_drew (S := (fun W => W.cell? ⟨g, 0, none⟩ = some (.int .i64 (i : Int)) ∧ W.cell? ⟨g, 1, none⟩ = some (.int .i64 (j : Int)) ∧ W.cell? ⟨g, 2, none⟩ = some (.int .i64 (k : Int)) ∧ W.cell? ⟨q, 0, none⟩ = some (.int .i64 (n1 : Int)) ∧ W.cell? ⟨q, 1, none⟩ = some (.int .i64 (n2 : Int)) ∧ W.cell? ⟨q, 2, none⟩ = some (.int .i64 (n3 : Int)))) (by kernel_rfl) ?_ (fun hHeld => ?_)
                · try dsimp only
                  exact HSS.out _ (Below.refl _ _).drew
                refine take_at (i := 0) (d := 68) (oi := { dst := some 68, op := Op.move (Operand.tmp 0), type := 22, pos := "chunks.go:57", after := #[], guard := none }) (v := ?_) (by kernel_rfl) (by kernel_rfl) (by kernel_rfl) (by kernel_rfl) (by kernel_rfl) (fun _ _ _ h => h) (Or.inl ⟨by kernel_rfl, ?_⟩) (by assumption) ?_
                rotate_left
                · intro W hSw
                  try dsimp only at hSw
                  go_simp
                  first | done | with_reducible rfl
                try simp only [Act.put, List.setIfInBounds_toArray, List.set_cons_zero, List.set_cons_succ]
                refine take_at (i := 1) (d := 69) (oi := { dst := some 69, op := Op.fieldAddr 53 (Operand.tmp 13) 0, type := 0, pos := "chunks.go:57", after := #[], guard := none }) (v := ?_) (by kernel_rfl) (by kernel_rfl) (by kernel_rfl) (by kernel_rfl) (by kernel_rfl) (fun _ _ _ h => h) (Or.inl ⟨by kernel_rfl, ?_⟩) (by assumption) ?_
                rotate_left
                · intro W hSw
                  try dsimp only at hSw
                  go_simp
                  first | done | with_reducible rfl
                try simp only [Act.put, List.setIfInBounds_toArray, List.set_cons_zero, List.set_cons_succ]
                refine take_at (i := 2) (d := 70) (oi := { dst := some 70, op := Op.load 3 (Operand.tmp 69), type := 3, pos := "chunks.go:57", after := #[{ on := 1, ground := Ground.data }], guard := none }) (v := ?_) (by kernel_rfl) (by kernel_rfl) (by kernel_rfl) (by kernel_rfl) (by kernel_rfl) (fun _ _ _ h => h) (Or.inl ⟨by kernel_rfl, ?_⟩) (by assumption) ?_
                rotate_left
                · intro W hSw
                  try dsimp only at hSw
                  obtain ⟨t1, t2, t3, t4, t5, t6⟩ := hSw
                  go_simp
                  first | done | with_reducible rfl
                try simp only [Act.put, List.setIfInBounds_toArray, List.set_cons_zero, List.set_cons_succ]
                refine take_at (i := 3) (d := 71) (oi := { dst := some 71, op := Op.fieldAddr 53 (Operand.tmp 16) 0, type := 0, pos := "chunks.go:57", after := #[], guard := none }) (v := ?_) (by kernel_rfl) (by kernel_rfl) (by kernel_rfl) (by kernel_rfl) (by kernel_rfl) (fun _ _ _ h => h) (Or.inl ⟨by kernel_rfl, ?_⟩) (by assumption) ?_
                rotate_left
                · intro W hSw
                  try dsimp only at hSw
                  go_simp
                  first | done | with_reducible rfl
                try simp only [Act.put, List.setIfInBounds_toArray, List.set_cons_zero, List.set_cons_succ]
                refine take_at (i := 4) (d := 72) (oi := { dst := some 72, op := Op.load 3 (Operand.tmp 71), type := 3, pos := "chunks.go:57", after := #[{ on := 3, ground := Ground.data }], guard := none }) (v := ?_) (by kernel_rfl) (by kernel_rfl) (by kernel_rfl) (by kernel_rfl) (by kernel_rfl) (fun _ _ _ h => h) (Or.inl ⟨by kernel_rfl, ?_⟩) (by assumption) ?_
                rotate_left
                · intro W hSw
                  try dsimp only at hSw
                  obtain ⟨t1, t2, t3, t4, t5, t6⟩ := hSw
                  go_simp
                  first | done | with_reducible rfl
                try simp only [Act.put, List.setIfInBounds_toArray, List.set_cons_zero, List.set_cons_succ]
                refine take_at (i := 5) (d := 73) (oi := { dst := some 73, op := Op.slice 22 (Operand.tmp 68) (some (Operand.tmp 70)) (some (Operand.tmp 72)) none, type := 22, pos := "chunks.go:57", after := #[{ on := 0, ground := Ground.data }, { on := 2, ground := Ground.data }, { on := 4, ground := Ground.data }], guard := none }) (v := ?_) (by kernel_rfl) (by kernel_rfl) (by kernel_rfl) (by kernel_rfl) (by kernel_rfl) (fun _ _ _ h => h) (Or.inl ⟨by kernel_rfl, ?_⟩) (by assumption) ?_
                rotate_left
                · intro W hSw
                  try dsimp only at hSw
                  go_simp
                  first | done | with_reducible rfl
                try simp only [Act.put, List.setIfInBounds_toArray, List.set_cons_zero, List.set_cons_succ]
                refine take_at (i := 7) (d := 75) (oi := { dst := some 75, op := Op.move (Operand.tmp 1), type := 22, pos := "chunks.go:57", after := #[], guard := none }) (v := ?_) (by kernel_rfl) (by kernel_rfl) (by kernel_rfl) (by kernel_rfl) (by kernel_rfl) (fun _ _ _ h => h) (Or.inl ⟨by kernel_rfl, ?_⟩) (by assumption) ?_
                rotate_left
                · intro W hSw
                  try dsimp only at hSw
                  go_simp
                  first | done | with_reducible rfl
                try simp only [Act.put, List.setIfInBounds_toArray, List.set_cons_zero, List.set_cons_succ]
                refine take_at (i := 8) (d := 76) (oi := { dst := some 76, op := Op.fieldAddr 53 (Operand.tmp 13) 1, type := 0, pos := "chunks.go:57", after := #[], guard := none }) (v := ?_) (by kernel_rfl) (by kernel_rfl) (by kernel_rfl) (by kernel_rfl) (by kernel_rfl) (fun _ _ _ h => h) (Or.inl ⟨by kernel_rfl, ?_⟩) (by assumption) ?_
                rotate_left
                · intro W hSw
                  try dsimp only at hSw
                  go_simp
                  first | done | with_reducible rfl
                try simp only [Act.put, List.setIfInBounds_toArray, List.set_cons_zero, List.set_cons_succ]
                refine take_at (i := 9) (d := 77) (oi := { dst := some 77, op := Op.load 3 (Operand.tmp 76), type := 3, pos := "chunks.go:57", after := #[{ on := 8, ground := Ground.data }], guard := none }) (v := ?_) (by kernel_rfl) (by kernel_rfl) (by kernel_rfl) (by kernel_rfl) (by kernel_rfl) (fun _ _ _ h => h) (Or.inl ⟨by kernel_rfl, ?_⟩) (by assumption) ?_
                rotate_left
                · intro W hSw
                  try dsimp only at hSw
                  obtain ⟨t1, t2, t3, t4, t5, t6⟩ := hSw
                  go_simp
                  first | done | with_reducible rfl
                try simp only [Act.put, List.setIfInBounds_toArray, List.set_cons_zero, List.set_cons_succ]
                refine take_at (i := 10) (d := 78) (oi := { dst := some 78, op := Op.fieldAddr 53 (Operand.tmp 16) 1, type := 0, pos := "chunks.go:57", after := #[], guard := none }) (v := ?_) (by kernel_rfl) (by kernel_rfl) (by kernel_rfl) (by kernel_rfl) (by kernel_rfl) (fun _ _ _ h => h) (Or.inl ⟨by kernel_rfl, ?_⟩) (by assumption) ?_
                rotate_left
                · intro W hSw
                  try dsimp only at hSw
                  go_simp
                  first | done | with_reducible rfl
                try simp only [Act.put, List.setIfInBounds_toArray, List.set_cons_zero, List.set_cons_succ]
                refine take_at (i := 11) (d := 79) (oi := { dst := some 79, op := Op.load 3 (Operand.tmp 78), type := 3, pos := "chunks.go:57", after := #[{ on := 10, ground := Ground.data }], guard := none }) (v := ?_) (by kernel_rfl) (by kernel_rfl) (by kernel_rfl) (by kernel_rfl) (by kernel_rfl) (fun _ _ _ h => h) (Or.inl ⟨by kernel_rfl, ?_⟩) (by assumption) ?_
                rotate_left
                · intro W hSw
                  try dsimp only at hSw
                  obtain ⟨t1, t2, t3, t4, t5, t6⟩ := hSw
                  go_simp
                  first | done | with_reducible rfl
                try simp only [Act.put, List.setIfInBounds_toArray, List.set_cons_zero, List.set_cons_succ]
                refine take_at (i := 12) (d := 80) (oi := { dst := some 80, op := Op.slice 22 (Operand.tmp 75) (some (Operand.tmp 77)) (some (Operand.tmp 79)) none, type := 22, pos := "chunks.go:57", after := #[{ on := 7, ground := Ground.data }, { on := 9, ground := Ground.data }, { on := 11, ground := Ground.data }], guard := none }) (v := ?_) (by kernel_rfl) (by kernel_rfl) (by kernel_rfl) (by kernel_rfl) (by kernel_rfl) (fun _ _ _ h => h) (Or.inl ⟨by kernel_rfl, ?_⟩) (by assumption) ?_
                rotate_left
                · intro W hSw
                  try dsimp only at hSw
                  go_simp
                  first | done | with_reducible rfl
                try simp only [Act.put, List.setIfInBounds_toArray, List.set_cons_zero, List.set_cons_succ]
                refine take_at (i := 14) (d := 82) (oi := { dst := some 82, op := Op.move (Operand.tmp 2), type := 22, pos := "chunks.go:57", after := #[], guard := none }) (v := ?_) (by kernel_rfl) (by kernel_rfl) (by kernel_rfl) (by kernel_rfl) (by kernel_rfl) (fun _ _ _ h => h) (Or.inl ⟨by kernel_rfl, ?_⟩) (by assumption) ?_
                rotate_left
                · intro W hSw
                  try dsimp only at hSw
                  go_simp
                  first | done | with_reducible rfl
                try simp only [Act.put, List.setIfInBounds_toArray, List.set_cons_zero, List.set_cons_succ]
                refine take_at (i := 15) (d := 83) (oi := { dst := some 83, op := Op.fieldAddr 53 (Operand.tmp 13) 2, type := 0, pos := "chunks.go:57", after := #[], guard := none }) (v := ?_) (by kernel_rfl) (by kernel_rfl) (by kernel_rfl) (by kernel_rfl) (by kernel_rfl) (fun _ _ _ h => h) (Or.inl ⟨by kernel_rfl, ?_⟩) (by assumption) ?_
                rotate_left
                · intro W hSw
                  try dsimp only at hSw
                  go_simp
                  first | done | with_reducible rfl
                try simp only [Act.put, List.setIfInBounds_toArray, List.set_cons_zero, List.set_cons_succ]
                refine take_at (i := 16) (d := 84) (oi := { dst := some 84, op := Op.load 3 (Operand.tmp 83), type := 3, pos := "chunks.go:57", after := #[{ on := 15, ground := Ground.data }], guard := none }) (v := ?_) (by kernel_rfl) (by kernel_rfl) (by kernel_rfl) (by kernel_rfl) (by kernel_rfl) (fun _ _ _ h => h) (Or.inl ⟨by kernel_rfl, ?_⟩) (by assumption) ?_
                rotate_left
                · intro W hSw
                  try dsimp only at hSw
                  obtain ⟨t1, t2, t3, t4, t5, t6⟩ := hSw
                  go_simp
                  first | done | with_reducible rfl
                try simp only [Act.put, List.setIfInBounds_toArray, List.set_cons_zero, List.set_cons_succ]
                refine take_at (i := 17) (d := 85) (oi := { dst := some 85, op := Op.fieldAddr 53 (Operand.tmp 16) 2, type := 0, pos := "chunks.go:57", after := #[], guard := none }) (v := ?_) (by kernel_rfl) (by kernel_rfl) (by kernel_rfl) (by kernel_rfl) (by kernel_rfl) (fun _ _ _ h => h) (Or.inl ⟨by kernel_rfl, ?_⟩) (by assumption) ?_
                rotate_left
                · intro W hSw
                  try dsimp only at hSw
                  go_simp
                  first | done | with_reducible rfl
                try simp only [Act.put, List.setIfInBounds_toArray, List.set_cons_zero, List.set_cons_succ]
                refine take_at (i := 18) (d := 86) (oi := { dst := some 86, op := Op.load 3 (Operand.tmp 85), type := 3, pos := "chunks.go:57", after := #[{ on := 17, ground := Ground.data }], guard := none }) (v := ?_) (by kernel_rfl) (by kernel_rfl) (by kernel_rfl) (by kernel_rfl) (by kernel_rfl) (fun _ _ _ h => h) (Or.inl ⟨by kernel_rfl, ?_⟩) (by assumption) ?_
                rotate_left
                · intro W hSw
                  try dsimp only at hSw
                  obtain ⟨t1, t2, t3, t4, t5, t6⟩ := hSw
                  go_simp
                  first | done | with_reducible rfl
                try simp only [Act.put, List.setIfInBounds_toArray, List.set_cons_zero, List.set_cons_succ]
                refine take_at (i := 19) (d := 87) (oi := { dst := some 87, op := Op.slice 22 (Operand.tmp 82) (some (Operand.tmp 84)) (some (Operand.tmp 86)) none, type := 22, pos := "chunks.go:57", after := #[{ on := 14, ground := Ground.data }, { on := 16, ground := Ground.data }, { on := 18, ground := Ground.data }], guard := none }) (v := ?_) (by kernel_rfl) (by kernel_rfl) (by kernel_rfl) (by kernel_rfl) (by kernel_rfl) (fun _ _ _ h => h) (Or.inl ⟨by kernel_rfl, ?_⟩) (by assumption) ?_
                rotate_left
                · intro W hSw
                  try dsimp only at hSw
                  go_simp
                  first | done | with_reducible rfl
                try simp only [Act.put, List.setIfInBounds_toArray, List.set_cons_zero, List.set_cons_succ]
                refine wpAnyH_ready (rs := [6, 22]) (by kernel_rfl) (by simp) (AllReadyH.cons (o := { dst := some 74, op := Op.call { callee := Callee.value (Operand.func 25), args := #[Operand.tmp 73], argTypes := #[22] }, type := 22, pos := "chunks.go:57", after := #[{ on := 5, ground := Ground.data }], guard := none }) (by kernel_rfl) (fun K hK => ?_) (AllReadyH.cons (o := { dst := some 17, op := Op.alloc 42, type := 0, pos := "chunks.go:57", after := #[], guard := none }) (by kernel_rfl) (fun K hK => ?_) AllReadyH.nil))
                · as_aux_lemma =>
                    go_simp
                    refine (HC1.out _ (Below.refl wk.heap.size wk).drew).mono ?_
                    rintro e ws1 ⟨d1, rfl, ho, hb⟩
                    obtain ⟨E1, f1, hv, _, _⟩ := ho.length
                    rw [List.length_map] at hv
                    subst hv
                    have HS1 : Hid (Below wk.heap.size wk ws1) := ((Below.refl wk.heap.size wk).drew).trans (hb.mono ((Below.refl wk.heap.size wk).drew).size)
                    have HO1_1 := Lib.hid (ho.base ((Below.refl wk.heap.size wk).drew).size)
                    clear ho hb
                    try go_wp2_with fail
                    refine hK.out _ _ ?_ (fun hHeld => ?_)
                    · try dsimp only
                      exact HSS.out _ HS1.out
                    clear hK K
                    try simp only [Act.put, List.setIfInBounds_toArray, List.set_cons_zero, List.set_cons_succ]
                    refine wpAnyH_ready (rs := [13, 22]) (by kernel_rfl) (by simp) (AllReadyH.cons (o := { dst := some 81, op := Op.call { callee := Callee.value (Operand.func 25), args := #[Operand.tmp 80], argTypes := #[22] }, type := 22, pos := "chunks.go:57", after := #[{ on := 12, ground := Ground.data }, { on := 6, ground := Ground.chain }], guard := none }) (by kernel_rfl) (fun K hK => ?_) (AllReadyH.cons (o := { dst := some 17, op := Op.alloc 42, type := 0, pos := "chunks.go:57", after := #[], guard := none }) (by kernel_rfl) (fun K hK => ?_) AllReadyH.nil))
                    · as_aux_lemma =>
                        go_simp
                        refine (HC2.out _ HS1.out).mono ?_
                        rintro e ws2 ⟨d2, rfl, ho, hb⟩
                        obtain ⟨E2, f2, hv, _, _⟩ := ho.length
                        rw [List.length_map] at hv
                        subst hv
                        have HS2 : Hid (Below wk.heap.size wk ws2) := (HS1.out).trans (hb.mono (HS1.out).size)
                        have HO2_2 := Lib.hid (ho.base (HS1.out).size)
                        have HO1_2 := Lib.hid (HO1_1.out.below hb)
                        clear ho hb
                        try go_wp2_with fail
                        refine hK.out _ _ ?_ (fun hHeld => ?_)
                        · try dsimp only
                          exact HSS.out _ HS2.out
                        clear hK K
                        try simp only [Act.put, List.setIfInBounds_toArray, List.set_cons_zero, List.set_cons_succ]
                        refine wpAnyH_ready (rs := [20, 22]) (by kernel_rfl) (by simp) (AllReadyH.cons (o := { dst := some 88, op := Op.call { callee := Callee.value (Operand.func 25), args := #[Operand.tmp 87], argTypes := #[22] }, type := 22, pos := "chunks.go:57", after := #[{ on := 19, ground := Ground.data }, { on := 13, ground := Ground.chain }], guard := none }) (by kernel_rfl) (fun K hK => ?_) (AllReadyH.cons (o := { dst := some 17, op := Op.alloc 42, type := 0, pos := "chunks.go:57", after := #[], guard := none }) (by kernel_rfl) (fun K hK => ?_) AllReadyH.nil))
                        · as_aux_lemma =>
                            go_simp
                            refine (HC3.out _ HS2.out).mono ?_
                            rintro e ws3 ⟨d3, rfl, ho, hb⟩
                            obtain ⟨E3, f3, hv, _, _⟩ := ho.length
                            rw [List.length_map] at hv
                            subst hv
                            have HS3 : Hid (Below wk.heap.size wk ws3) := (HS2.out).trans (hb.mono (HS2.out).size)
                            have HO3_3 := Lib.hid (ho.base (HS2.out).size)
                            have HO1_3 := Lib.hid (HO1_2.out.below hb)
                            have HO2_3 := Lib.hid (HO2_2.out.below hb)
                            clear ho hb
                            try go_wp2_with fail
                            refine hK.out _ _ ?_ (fun hHeld => ?_)
                            · try dsimp only
                              exact HSS.out _ HS3.out
                            clear hK K
                            try simp only [Act.put, List.setIfInBounds_toArray, List.set_cons_zero, List.set_cons_succ]
                            refine take_at (i := 21) (d := 89) (oi := { dst := some 89, op := Op.build 42 #[(0, Operand.const (Value.int IntKind.i64 1)), (1, Operand.tmp 74), (2, Operand.tmp 81), (3, Operand.tmp 88)], type := 42, pos := "chunks.go:57", after := #[{ on := 6, ground := Ground.data }, { on := 13, ground := Ground.data }, { on := 20, ground := Ground.data }], guard := none }) (v := ?_) (by kernel_rfl) (by kernel_rfl) (by kernel_rfl) (by kernel_rfl) (by kernel_rfl) (fun _ _ _ h => h) (Or.inl ⟨by kernel_rfl, ?_⟩) (by assumption) ?_
                            rotate_left
                            · intro W hSw
                              try dsimp only at hSw
                              go_simp
                              first | done | with_reducible rfl
                            try simp only [Act.put, List.setIfInBounds_toArray, List.set_cons_zero, List.set_cons_succ]
                            refine wpAnyH_ready (rs := [22]) (by kernel_rfl) (by simp) (AllReadyH.cons (o := { dst := some 17, op := Op.alloc 42, type := 0, pos := "chunks.go:57", after := #[], guard := none }) (by kernel_rfl) (fun K hK => ?_) AllReadyH.nil)
                            go_simp
                            obtain ⟨ws4, hn⟩ : ∃ W, W = ws3.alloc (.cells #[.int .i64 0, .slice none 0 0, .slice none 0 0, .slice none 0 0] 42) := ⟨_, rfl⟩
                            obtain ⟨gc, hk⟩ : ∃ k, k = ws3.heap.size := ⟨_, rfl⟩
                            try rw [← hn]
                            try rw [← hk]
                            have HS4 : Hid (Below wk.heap.size wk ws4) := by unfold Hid; rw [hn]; exact HS3.out.alloc HS3.out.size _
                            have HK_4 : Hid (Blk ws4 gc 42 #[.int .i64 0, .slice none 0 0, .slice none 0 0, .slice none 0 0]) := by unfold Hid; rw [hn, hk]; exact Blk.new ws3 _ _
                            have HGC : Hid (wk.heap.size ≤ gc) := by unfold Hid; rw [hk]; exact HS3.out.size
                            have hb : Below ws3.heap.size ws3 ws4 := by rw [hn]; exact (Below.refl _ _).alloc (Nat.le_refl _) _
                            have HO1_4 := Lib.hid (HO1_3.out.below hb)
                            have HO2_4 := Lib.hid (HO2_3.out.below hb)
                            have HO3_4 := Lib.hid (HO3_3.out.below hb)
                            clear hb
                            clear hn hk
                            try go_wp2_with fail
                            refine hK.out _ _ ?_ (fun hHeld => ?_)
                            · try dsimp only
                              exact HSS.out _ HS4.out
                            clear hK K
                            try simp only [Act.put, List.setIfInBounds_toArray, List.set_cons_zero, List.set_cons_succ]
                            refine wpAnyH_ready (rs := [23]) (by kernel_rfl) (by simp) (AllReadyH.cons (o := { dst := none, op := Op.store 42 (Operand.tmp 17) (Operand.tmp 89), type := 0, pos := "chunks.go:57", after := #[{ on := 22, ground := Ground.data }, { on := 21, ground := Ground.data }, { on := 20, ground := Ground.chain }, { on := 0, ground := Ground.phase }, { on := 1, ground := Ground.phase }, { on := 2, ground := Ground.phase }, { on := 3, ground := Ground.phase }, { on := 4, ground := Ground.phase }, { on := 5, ground := Ground.phase }, { on := 6, ground := Ground.phase }, { on := 7, ground := Ground.phase }, { on := 8, ground := Ground.phase }, { on := 9, ground := Ground.phase }, { on := 10, ground := Ground.phase }, { on := 11, ground := Ground.phase }, { on := 12, ground := Ground.phase }, { on := 13, ground := Ground.phase }, { on := 14, ground := Ground.phase }, { on := 15, ground := Ground.phase }, { on := 16, ground := Ground.phase }, { on := 17, ground := Ground.phase }, { on := 18, ground := Ground.phase }, { on := 19, ground := Ground.phase }, { on := 20, ground := Ground.phase }, { on := 21, ground := Ground.phase }, { on := 22, ground := Ground.phase }], guard := none }) (by kernel_rfl) (fun K hK => ?_) AllReadyH.nil)
                            have HA1 : (Value.slice E1 (List.length Lo) f1).ownBlock ≠ some gc := own_apart HO1_4.out HK_4.out (by decide)
                            have HA2 : (Value.slice E2 (List.length La) f2).ownBlock ≠ some gc := own_apart HO2_4.out HK_4.out (by decide)
                            have HA3 : (Value.slice E3 (List.length Lb) f3).ownBlock ≠ some gc := own_apart HO3_4.out HK_4.out (by decide)
                            have k0 := HK_4.out.cell 0
                            have k1 := HK_4.out.cell 1
                            have k2 := HK_4.out.cell 2
                            have k3 := HK_4.out.cell 3
                            have kf0 : ws4.frozen? ⟨gc, 0, none⟩ = false := HK_4.out.frozen 0
                            have kf1 : ws4.frozen? ⟨gc, 1, none⟩ = false := HK_4.out.frozen 1
                            have kf2 : ws4.frozen? ⟨gc, 2, none⟩ = false := HK_4.out.frozen 2
                            have kf3 : ws4.frozen? ⟨gc, 3, none⟩ = false := HK_4.out.frozen 3
                            go_simp
                            obtain ⟨ws5, hn⟩ : ∃ W, W = ((((ws4.setCell ⟨gc, 0, none⟩ (.int .i64 1)).setCell ⟨gc, 1, none⟩ (.slice E1 (List.length Lo) f1)).setCell ⟨gc, 2, none⟩ (.slice E2 (List.length La) f2)).setCell ⟨gc, 3, none⟩ (.slice E3 (List.length Lb) f3)) := ⟨_, rfl⟩
                            try rw [← hn]
                            have HS5 : Hid (Below wk.heap.size wk ws5) := by unfold Hid; rw [hn]; exact ((((HS4.out.setCell (by exact HGC.out) _).setCell (by exact HGC.out) _).setCell (by exact HGC.out) _).setCell (by exact HGC.out) _)
                            have HK_5 : Hid (Blk ws5 gc 42 #[.int .i64 1, .slice E1 (List.length Lo) f1, .slice E2 (List.length La) f2, .slice E3 (List.length Lb) f3]) := by unfold Hid; rw [hn]; have hq := ((((HK_4.out.set_ 0 (.int .i64 1)).set_ 1 (.slice E1 (List.length Lo) f1)).set_ 2 (.slice E2 (List.length La) f2)).set_ 3 (.slice E3 (List.length Lb) f3)); simp at hq; exact hq
                            have HO1_5 : Hid (OwnV 9 ws5 wk.heap.size (.slice E1 (List.length Lo) f1) (Lo.map sv)) := by unfold Hid; rw [hn]; exact (((HO1_4.out.apart HA1 _).apart HA1 _).apart HA1 _).apart HA1 _
                            have HO2_5 : Hid (OwnV 9 ws5 wk.heap.size (.slice E2 (List.length La) f2) (La.map sv)) := by unfold Hid; rw [hn]; exact (((HO2_4.out.apart HA2 _).apart HA2 _).apart HA2 _).apart HA2 _
                            have HO3_5 : Hid (OwnV 9 ws5 wk.heap.size (.slice E3 (List.length Lb) f3) (Lb.map sv)) := by unfold Hid; rw [hn]; exact (((HO3_4.out.apart HA3 _).apart HA3 _).apart HA3 _).apart HA3 _
                            clear hn k0 k1 k2 k3 kf0 kf1 kf2 kf3 HA1 HA2 HA3
                            try go_wp2_with fail
                            refine hK.out _ _ ?_ (fun hHeld => ?_)
                            · try dsimp only
                              exact HSS.out _ HS5.out
                            clear hK K
                            refine wpAnyH_done (by kernel_rfl) ?_ _
                            go_wp2_with fail
                            go_meet
                            exact ⟨gc, _, _, _, _, _, _, rfl, HK_5.out, HO1_5.out, HO2_5.out, HO3_5.out, HS5.out, HGC.out⟩
                        · as_aux_lemma =>
                            go_simp
                            obtain ⟨ws3, hn⟩ : ∃ W, W = ws2.alloc (.cells #[.int .i64 0, .slice none 0 0, .slice none 0 0, .slice none 0 0] 42) := ⟨_, rfl⟩
                            obtain ⟨gc, hk⟩ : ∃ k, k = ws2.heap.size := ⟨_, rfl⟩
                            try rw [← hn]
                            try rw [← hk]
                            have HS3 : Hid (Below wk.heap.size wk ws3) := by unfold Hid; rw [hn]; exact HS2.out.alloc HS2.out.size _
                            have HK_3 : Hid (Blk ws3 gc 42 #[.int .i64 0, .slice none 0 0, .slice none 0 0, .slice none 0 0]) := by unfold Hid; rw [hn, hk]; exact Blk.new ws2 _ _
                            have HGC : Hid (wk.heap.size ≤ gc) := by unfold Hid; rw [hk]; exact HS2.out.size
                            have hb : Below ws2.heap.size ws2 ws3 := by rw [hn]; exact (Below.refl _ _).alloc (Nat.le_refl _) _
                            have HO1_3 := Lib.hid (HO1_2.out.below hb)
                            have HO2_3 := Lib.hid (HO2_2.out.below hb)
                            clear hb
                            clear hn hk
                            try go_wp2_with fail
                            refine hK.out _ _ ?_ (fun hHeld => ?_)
                            · try dsimp only
                              exact HSS.out _ HS3.out
                            clear hK K
                            try simp only [Act.put, List.setIfInBounds_toArray, List.set_cons_zero, List.set_cons_succ]
                            refine wpAnyH_ready (rs := [20]) (by kernel_rfl) (by simp) (AllReadyH.cons (o := { dst := some 88, op := Op.call { callee := Callee.value (Operand.func 25), args := #[Operand.tmp 87], argTypes := #[22] }, type := 22, pos := "chunks.go:57", after := #[{ on := 19, ground := Ground.data }, { on := 13, ground := Ground.chain }], guard := none }) (by kernel_rfl) (fun K hK => ?_) AllReadyH.nil)
                            go_simp
                            refine (HC3.out _ HS3.out).mono ?_
                            rintro e ws4 ⟨d3, rfl, ho, hb⟩
                            obtain ⟨E3, f3, hv, _, _⟩ := ho.length
                            rw [List.length_map] at hv
                            subst hv
                            have HS4 : Hid (Below wk.heap.size wk ws4) := (HS3.out).trans (hb.mono (HS3.out).size)
                            have HO3_4 := Lib.hid (ho.base (HS3.out).size)
                            have HO1_4 := Lib.hid (HO1_3.out.below hb)
                            have HO2_4 := Lib.hid (HO2_3.out.below hb)
                            have HK_4 := Lib.hid (HK_3.out.below hb HK_3.out.lt)
                            clear ho hb
                            try go_wp2_with fail
                            refine hK.out _ _ ?_ (fun hHeld => ?_)
                            · try dsimp only
                              exact HSS.out _ HS4.out
                            clear hK K
                            try simp only [Act.put, List.setIfInBounds_toArray, List.set_cons_zero, List.set_cons_succ]
                            refine take_at (i := 21) (d := 89) (oi := { dst := some 89, op := Op.build 42 #[(0, Operand.const (Value.int IntKind.i64 1)), (1, Operand.tmp 74), (2, Operand.tmp 81), (3, Operand.tmp 88)], type := 42, pos := "chunks.go:57", after := #[{ on := 6, ground := Ground.data }, { on := 13, ground := Ground.data }, { on := 20, ground := Ground.data }], guard := none }) (v := ?_) (by kernel_rfl) (by kernel_rfl) (by kernel_rfl) (by kernel_rfl) (by kernel_rfl) (fun _ _ _ h => h) (Or.inl ⟨by kernel_rfl, ?_⟩) (by assumption) ?_
                            rotate_left
                            · intro W hSw
                              try dsimp only at hSw
                              go_simp
                              first | done | with_reducible rfl
                            try simp only [Act.put, List.setIfInBounds_toArray, List.set_cons_zero, List.set_cons_succ]
                            refine wpAnyH_ready (rs := [23]) (by kernel_rfl) (by simp) (AllReadyH.cons (o := { dst := none, op := Op.store 42 (Operand.tmp 17) (Operand.tmp 89), type := 0, pos := "chunks.go:57", after := #[{ on := 22, ground := Ground.data }, { on := 21, ground := Ground.data }, { on := 20, ground := Ground.chain }, { on := 0, ground := Ground.phase }, { on := 1, ground := Ground.phase }, { on := 2, ground := Ground.phase }, { on := 3, ground := Ground.phase }, { on := 4, ground := Ground.phase }, { on := 5, ground := Ground.phase }, { on := 6, ground := Ground.phase }, { on := 7, ground := Ground.phase }, { on := 8, ground := Ground.phase }, { on := 9, ground := Ground.phase }, { on := 10, ground := Ground.phase }, { on := 11, ground := Ground.phase }, { on := 12, ground := Ground.phase }, { on := 13, ground := Ground.phase }, { on := 14, ground := Ground.phase }, { on := 15, ground := Ground.phase }, { on := 16, ground := Ground.phase }, { on := 17, ground := Ground.phase }, { on := 18, ground := Ground.phase }, { on := 19, ground := Ground.phase }, { on := 20, ground := Ground.phase }, { on := 21, ground := Ground.phase }, { on := 22, ground := Ground.phase }], guard := none }) (by kernel_rfl) (fun K hK => ?_) AllReadyH.nil)
                            have HA1 : (Value.slice E1 (List.length Lo) f1).ownBlock ≠ some gc := own_apart HO1_4.out HK_4.out (by decide)
                            have HA2 : (Value.slice E2 (List.length La) f2).ownBlock ≠ some gc := own_apart HO2_4.out HK_4.out (by decide)
                            have HA3 : (Value.slice E3 (List.length Lb) f3).ownBlock ≠ some gc := own_apart HO3_4.out HK_4.out (by decide)
                            have k0 := HK_4.out.cell 0
                            have k1 := HK_4.out.cell 1
                            have k2 := HK_4.out.cell 2
                            have k3 := HK_4.out.cell 3
                            have kf0 : ws4.frozen? ⟨gc, 0, none⟩ = false := HK_4.out.frozen 0
                            have kf1 : ws4.frozen? ⟨gc, 1, none⟩ = false := HK_4.out.frozen 1
                            have kf2 : ws4.frozen? ⟨gc, 2, none⟩ = false := HK_4.out.frozen 2
                            have kf3 : ws4.frozen? ⟨gc, 3, none⟩ = false := HK_4.out.frozen 3
                            go_simp
                            obtain ⟨ws5, hn⟩ : ∃ W, W = ((((ws4.setCell ⟨gc, 0, none⟩ (.int .i64 1)).setCell ⟨gc, 1, none⟩ (.slice E1 (List.length Lo) f1)).setCell ⟨gc, 2, none⟩ (.slice E2 (List.length La) f2)).setCell ⟨gc, 3, none⟩ (.slice E3 (List.length Lb) f3)) := ⟨_, rfl⟩
                            try rw [← hn]
                            have HS5 : Hid (Below wk.heap.size wk ws5) := by unfold Hid; rw [hn]; exact ((((HS4.out.setCell (by exact HGC.out) _).setCell (by exact HGC.out) _).setCell (by exact HGC.out) _).setCell (by exact HGC.out) _)
                            have HK_5 : Hid (Blk ws5 gc 42 #[.int .i64 1, .slice E1 (List.length Lo) f1, .slice E2 (List.length La) f2, .slice E3 (List.length Lb) f3]) := by unfold Hid; rw [hn]; have hq := ((((HK_4.out.set_ 0 (.int .i64 1)).set_ 1 (.slice E1 (List.length Lo) f1)).set_ 2 (.slice E2 (List.length La) f2)).set_ 3 (.slice E3 (List.length Lb) f3)); simp at hq; exact hq
                            have HO1_5 : Hid (OwnV 9 ws5 wk.heap.size (.slice E1 (List.length Lo) f1) (Lo.map sv)) := by unfold Hid; rw [hn]; exact (((HO1_4.out.apart HA1 _).apart HA1 _).apart HA1 _).apart HA1 _
                            have HO2_5 : Hid (OwnV 9 ws5 wk.heap.size (.slice E2 (List.length La) f2) (La.map sv)) := by unfold Hid; rw [hn]; exact (((HO2_4.out.apart HA2 _).apart HA2 _).apart HA2 _).apart HA2 _
                            have HO3_5 : Hid (OwnV 9 ws5 wk.heap.size (.slice E3 (List.length Lb) f3) (Lb.map sv)) := by unfold Hid; rw [hn]; exact (((HO3_4.out.apart HA3 _).apart HA3 _).apart HA3 _).apart HA3 _
                            clear hn k0 k1 k2 k3 kf0 kf1 kf2 kf3 HA1 HA2 HA3
                            try go_wp2_with fail
                            refine hK.out _ _ ?_ (fun hHeld => ?_)
                            · try dsimp only
                              exact HSS.out _ HS5.out
                            clear hK K
                            refine wpAnyH_done (by kernel_rfl) ?_ _
                            go_wp2_with fail
                            go_meet
                            exact ⟨gc, _, _, _, _, _, _, rfl, HK_5.out, HO1_5.out, HO2_5.out, HO3_5.out, HS5.out, HGC.out⟩
                    · as_aux_lemma =>
                        go_simp
                        obtain ⟨ws2, hn⟩ : ∃ W, W = ws1.alloc (.cells #[.int .i64 0, .slice none 0 0, .slice none 0 0, .slice none 0 0] 42) := ⟨_, rfl⟩
                        obtain ⟨gc, hk⟩ : ∃ k, k = ws1.heap.size := ⟨_, rfl⟩
                        try rw [← hn]
                        try rw [← hk]
                        have HS2 : Hid (Below wk.heap.size wk ws2) := by unfold Hid; rw [hn]; exact HS1.out.alloc HS1.out.size _
                        have HK_2 : Hid (Blk ws2 gc 42 #[.int .i64 0, .slice none 0 0, .slice none 0 0, .slice none 0 0]) := by unfold Hid; rw [hn, hk]; exact Blk.new ws1 _ _
                        have HGC : Hid (wk.heap.size ≤ gc) := by unfold Hid; rw [hk]; exact HS1.out.size
                        have hb : Below ws1.heap.size ws1 ws2 := by rw [hn]; exact (Below.refl _ _).alloc (Nat.le_refl _) _
                        have HO1_2 := Lib.hid (HO1_1.out.below hb)
                        clear hb
                        clear hn hk
                        try go_wp2_with fail
                        refine hK.out _ _ ?_ (fun hHeld => ?_)
                        · try dsimp only
                          exact HSS.out _ HS2.out
                        clear hK K
                        try simp only [Act.put, List.setIfInBounds_toArray, List.set_cons_zero, List.set_cons_succ]
                        refine wpAnyH_ready (rs := [13]) (by kernel_rfl) (by simp) (AllReadyH.cons (o := { dst := some 81, op := Op.call { callee := Callee.value (Operand.func 25), args := #[Operand.tmp 80], argTypes := #[22] }, type := 22, pos := "chunks.go:57", after := #[{ on := 12, ground := Ground.data }, { on := 6, ground := Ground.chain }], guard := none }) (by kernel_rfl) (fun K hK => ?_) AllReadyH.nil)
                        go_simp
                        refine (HC2.out _ HS2.out).mono ?_
                        rintro e ws3 ⟨d2, rfl, ho, hb⟩
                        obtain ⟨E2, f2, hv, _, _⟩ := ho.length
                        rw [List.length_map] at hv
                        subst hv
                        have HS3 : Hid (Below wk.heap.size wk ws3) := (HS2.out).trans (hb.mono (HS2.out).size)
                        have HO2_3 := Lib.hid (ho.base (HS2.out).size)
                        have HO1_3 := Lib.hid (HO1_2.out.below hb)
                        have HK_3 := Lib.hid (HK_2.out.below hb HK_2.out.lt)
                        clear ho hb
                        try go_wp2_with fail
                        refine hK.out _ _ ?_ (fun hHeld => ?_)
                        · try dsimp only
                          exact HSS.out _ HS3.out
                        clear hK K
                        try simp only [Act.put, List.setIfInBounds_toArray, List.set_cons_zero, List.set_cons_succ]
                        refine wpAnyH_ready (rs := [20]) (by kernel_rfl) (by simp) (AllReadyH.cons (o := { dst := some 88, op := Op.call { callee := Callee.value (Operand.func 25), args := #[Operand.tmp 87], argTypes := #[22] }, type := 22, pos := "chunks.go:57", after := #[{ on := 19, ground := Ground.data }, { on := 13, ground := Ground.chain }], guard := none }) (by kernel_rfl) (fun K hK => ?_) AllReadyH.nil)
                        go_simp
                        refine (HC3.out _ HS3.out).mono ?_
                        rintro e ws4 ⟨d3, rfl, ho, hb⟩
                        obtain ⟨E3, f3, hv, _, _⟩ := ho.length
                        rw [List.length_map] at hv
                        subst hv
                        have HS4 : Hid (Below wk.heap.size wk ws4) := (HS3.out).trans (hb.mono (HS3.out).size)
                        have HO3_4 := Lib.hid (ho.base (HS3.out).size)
                        have HO1_4 := Lib.hid (HO1_3.out.below hb)
                        have HK_4 := Lib.hid (HK_3.out.below hb HK_3.out.lt)
                        have HO2_4 := Lib.hid (HO2_3.out.below hb)
                        clear ho hb
                        try go_wp2_with fail
                        refine hK.out _ _ ?_ (fun hHeld => ?_)
                        · try dsimp only
                          exact HSS.out _ HS4.out
                        clear hK K
                        try simp only [Act.put, List.setIfInBounds_toArray, List.set_cons_zero, List.set_cons_succ]
                        refine take_at (i := 21) (d := 89) (oi := { dst := some 89, op := Op.build 42 #[(0, Operand.const (Value.int IntKind.i64 1)), (1, Operand.tmp 74), (2, Operand.tmp 81), (3, Operand.tmp 88)], type := 42, pos := "chunks.go:57", after := #[{ on := 6, ground := Ground.data }, { on := 13, ground := Ground.data }, { on := 20, ground := Ground.data }], guard := none }) (v := ?_) (by kernel_rfl) (by kernel_rfl) (by kernel_rfl) (by kernel_rfl) (by kernel_rfl) (fun _ _ _ h => h) (Or.inl ⟨by kernel_rfl, ?_⟩) (by assumption) ?_
                        rotate_left
                        · intro W hSw
                          try dsimp only at hSw
                          go_simp
                          first | done | with_reducible rfl
                        try simp only [Act.put, List.setIfInBounds_toArray, List.set_cons_zero, List.set_cons_succ]
                        refine wpAnyH_ready (rs := [23]) (by kernel_rfl) (by simp) (AllReadyH.cons (o := { dst := none, op := Op.store 42 (Operand.tmp 17) (Operand.tmp 89), type := 0, pos := "chunks.go:57", after := #[{ on := 22, ground := Ground.data }, { on := 21, ground := Ground.data }, { on := 20, ground := Ground.chain }, { on := 0, ground := Ground.phase }, { on := 1, ground := Ground.phase }, { on := 2, ground := Ground.phase }, { on := 3, ground := Ground.phase }, { on := 4, ground := Ground.phase }, { on := 5, ground := Ground.phase }, { on := 6, ground := Ground.phase }, { on := 7, ground := Ground.phase }, { on := 8, ground := Ground.phase }, { on := 9, ground := Ground.phase }, { on := 10, ground := Ground.phase }, { on := 11, ground := Ground.phase }, { on := 12, ground := Ground.phase }, { on := 13, ground := Ground.phase }, { on := 14, ground := Ground.phase }, { on := 15, ground := Ground.phase }, { on := 16, ground := Ground.phase }, { on := 17, ground := Ground.phase }, { on := 18, ground := Ground.phase }, { on := 19, ground := Ground.phase }, { on := 20, ground := Ground.phase }, { on := 21, ground := Ground.phase }, { on := 22, ground := Ground.phase }], guard := none }) (by kernel_rfl) (fun K hK => ?_) AllReadyH.nil)
                        have HA1 : (Value.slice E1 (List.length Lo) f1).ownBlock ≠ some gc := own_apart HO1_4.out HK_4.out (by decide)
                        have HA2 : (Value.slice E2 (List.length La) f2).ownBlock ≠ some gc := own_apart HO2_4.out HK_4.out (by decide)
                        have HA3 : (Value.slice E3 (List.length Lb) f3).ownBlock ≠ some gc := own_apart HO3_4.out HK_4.out (by decide)
                        have k0 := HK_4.out.cell 0
                        have k1 := HK_4.out.cell 1
                        have k2 := HK_4.out.cell 2
                        have k3 := HK_4.out.cell 3
                        have kf0 : ws4.frozen? ⟨gc, 0, none⟩ = false := HK_4.out.frozen 0
                        have kf1 : ws4.frozen? ⟨gc, 1, none⟩ = false := HK_4.out.frozen 1
                        have kf2 : ws4.frozen? ⟨gc, 2, none⟩ = false := HK_4.out.frozen 2
                        have kf3 : ws4.frozen? ⟨gc, 3, none⟩ = false := HK_4.out.frozen 3
                        go_simp
                        obtain ⟨ws5, hn⟩ : ∃ W, W = ((((ws4.setCell ⟨gc, 0, none⟩ (.int .i64 1)).setCell ⟨gc, 1, none⟩ (.slice E1 (List.length Lo) f1)).setCell ⟨gc, 2, none⟩ (.slice E2 (List.length La) f2)).setCell ⟨gc, 3, none⟩ (.slice E3 (List.length Lb) f3)) := ⟨_, rfl⟩
                        try rw [← hn]
                        have HS5 : Hid (Below wk.heap.size wk ws5) := by unfold Hid; rw [hn]; exact ((((HS4.out.setCell (by exact HGC.out) _).setCell (by exact HGC.out) _).setCell (by exact HGC.out) _).setCell (by exact HGC.out) _)
                        have HK_5 : Hid (Blk ws5 gc 42 #[.int .i64 1, .slice E1 (List.length Lo) f1, .slice E2 (List.length La) f2, .slice E3 (List.length Lb) f3]) := by unfold Hid; rw [hn]; have hq := ((((HK_4.out.set_ 0 (.int .i64 1)).set_ 1 (.slice E1 (List.length Lo) f1)).set_ 2 (.slice E2 (List.length La) f2)).set_ 3 (.slice E3 (List.length Lb) f3)); simp at hq; exact hq
                        have HO1_5 : Hid (OwnV 9 ws5 wk.heap.size (.slice E1 (List.length Lo) f1) (Lo.map sv)) := by unfold Hid; rw [hn]; exact (((HO1_4.out.apart HA1 _).apart HA1 _).apart HA1 _).apart HA1 _
                        have HO2_5 : Hid (OwnV 9 ws5 wk.heap.size (.slice E2 (List.length La) f2) (La.map sv)) := by unfold Hid; rw [hn]; exact (((HO2_4.out.apart HA2 _).apart HA2 _).apart HA2 _).apart HA2 _
                        have HO3_5 : Hid (OwnV 9 ws5 wk.heap.size (.slice E3 (List.length Lb) f3) (Lb.map sv)) := by unfold Hid; rw [hn]; exact (((HO3_4.out.apart HA3 _).apart HA3 _).apart HA3 _).apart HA3 _
                        clear hn k0 k1 k2 k3 kf0 kf1 kf2 kf3 HA1 HA2 HA3
                        try go_wp2_with fail
                        refine hK.out _ _ ?_ (fun hHeld => ?_)
                        · try dsimp only
                          exact HSS.out _ HS5.out
                        clear hK K
                        refine wpAnyH_done (by kernel_rfl) ?_ _
                        go_wp2_with fail
                        go_meet
                        exact ⟨gc, _, _, _, _, _, _, rfl, HK_5.out, HO1_5.out, HO2_5.out, HO3_5.out, HS5.out, HGC.out⟩
                · as_aux_lemma =>
                    go_simp
                    obtain ⟨ws1, hn⟩ : ∃ W, W = (wk.alloc (.cells #[.int .i64 0, .slice none 0 0, .slice none 0 0, .slice none 0 0] 42)).drew := ⟨_, rfl⟩
                    obtain ⟨gc, hk⟩ : ∃ k, k = wk.heap.size := ⟨_, rfl⟩
                    try rw [← hn]
                    try rw [← hk]
                    have HS1 : Hid (Below wk.heap.size wk ws1) := by unfold Hid; rw [hn]; exact ((Below.refl _ _).alloc (Nat.le_refl _) _).drew
                    have HK_1 : Hid (Blk ws1 gc 42 #[.int .i64 0, .slice none 0 0, .slice none 0 0, .slice none 0 0]) := by unfold Hid; rw [hn, hk]; exact Blk.new wk _ _
                    have HGC : Hid (wk.heap.size ≤ gc) := by unfold Hid; rw [hk]; exact Nat.le_refl _
                    clear hn hk
                    try go_wp2_with fail
                    refine hK.out _ _ ?_ (fun hHeld => ?_)
                    · try dsimp only
                      exact HSS.out _ HS1.out
                    clear hK K
                    try simp only [Act.put, List.setIfInBounds_toArray, List.set_cons_zero, List.set_cons_succ]
                    refine wpAnyH_ready (rs := [6]) (by kernel_rfl) (by simp) (AllReadyH.cons (o := { dst := some 74, op := Op.call { callee := Callee.value (Operand.func 25), args := #[Operand.tmp 73], argTypes := #[22] }, type := 22, pos := "chunks.go:57", after := #[{ on := 5, ground := Ground.data }], guard := none }) (by kernel_rfl) (fun K hK => ?_) AllReadyH.nil)
                    go_simp
                    refine (HC1.out _ HS1.out).mono ?_
                    rintro e ws2 ⟨d1, rfl, ho, hb⟩
                    obtain ⟨E1, f1, hv, _, _⟩ := ho.length
                    rw [List.length_map] at hv
                    subst hv
                    have HS2 : Hid (Below wk.heap.size wk ws2) := (HS1.out).trans (hb.mono (HS1.out).size)
                    have HO1_2 := Lib.hid (ho.base (HS1.out).size)
                    have HK_2 := Lib.hid (HK_1.out.below hb HK_1.out.lt)
                    clear ho hb
                    try go_wp2_with fail
                    refine hK.out _ _ ?_ (fun hHeld => ?_)
                    · try dsimp only
                      exact HSS.out _ HS2.out
                    clear hK K
                    try simp only [Act.put, List.setIfInBounds_toArray, List.set_cons_zero, List.set_cons_succ]
                    refine wpAnyH_ready (rs := [13]) (by kernel_rfl) (by simp) (AllReadyH.cons (o := { dst := some 81, op := Op.call { callee := Callee.value (Operand.func 25), args := #[Operand.tmp 80], argTypes := #[22] }, type := 22, pos := "chunks.go:57", after := #[{ on := 12, ground := Ground.data }, { on := 6, ground := Ground.chain }], guard := none }) (by kernel_rfl) (fun K hK => ?_) AllReadyH.nil)
                    go_simp
                    refine (HC2.out _ HS2.out).mono ?_
                    rintro e ws3 ⟨d2, rfl, ho, hb⟩
                    obtain ⟨E2, f2, hv, _, _⟩ := ho.length
                    rw [List.length_map] at hv
                    subst hv
                    have HS3 : Hid (Below wk.heap.size wk ws3) := (HS2.out).trans (hb.mono (HS2.out).size)
                    have HO2_3 := Lib.hid (ho.base (HS2.out).size)
                    have HK_3 := Lib.hid (HK_2.out.below hb HK_2.out.lt)
                    have HO1_3 := Lib.hid (HO1_2.out.below hb)
                    clear ho hb
                    try go_wp2_with fail
                    refine hK.out _ _ ?_ (fun hHeld => ?_)
                    · try dsimp only
                      exact HSS.out _ HS3.out
                    clear hK K
                    try simp only [Act.put, List.setIfInBounds_toArray, List.set_cons_zero, List.set_cons_succ]
                    refine wpAnyH_ready (rs := [20]) (by kernel_rfl) (by simp) (AllReadyH.cons (o := { dst := some 88, op := Op.call { callee := Callee.value (Operand.func 25), args := #[Operand.tmp 87], argTypes := #[22] }, type := 22, pos := "chunks.go:57", after := #[{ on := 19, ground := Ground.data }, { on := 13, ground := Ground.chain }], guard := none }) (by kernel_rfl) (fun K hK => ?_) AllReadyH.nil)
                    go_simp
                    refine (HC3.out _ HS3.out).mono ?_
                    rintro e ws4 ⟨d3, rfl, ho, hb⟩
                    obtain ⟨E3, f3, hv, _, _⟩ := ho.length
                    rw [List.length_map] at hv
                    subst hv
                    have HS4 : Hid (Below wk.heap.size wk ws4) := (HS3.out).trans (hb.mono (HS3.out).size)
                    have HO3_4 := Lib.hid (ho.base (HS3.out).size)
                    have HK_4 := Lib.hid (HK_3.out.below hb HK_3.out.lt)
                    have HO1_4 := Lib.hid (HO1_3.out.below hb)
                    have HO2_4 := Lib.hid (HO2_3.out.below hb)
                    clear ho hb
                    try go_wp2_with fail
                    refine hK.out _ _ ?_ (fun hHeld => ?_)
                    · try dsimp only
                      exact HSS.out _ HS4.out
                    clear hK K
                    try simp only [Act.put, List.setIfInBounds_toArray, List.set_cons_zero, List.set_cons_succ]
                    refine take_at (i := 21) (d := 89) (oi := { dst := some 89, op := Op.build 42 #[(0, Operand.const (Value.int IntKind.i64 1)), (1, Operand.tmp 74), (2, Operand.tmp 81), (3, Operand.tmp 88)], type := 42, pos := "chunks.go:57", after := #[{ on := 6, ground := Ground.data }, { on := 13, ground := Ground.data }, { on := 20, ground := Ground.data }], guard := none }) (v := ?_) (by kernel_rfl) (by kernel_rfl) (by kernel_rfl) (by kernel_rfl) (by kernel_rfl) (fun _ _ _ h => h) (Or.inl ⟨by kernel_rfl, ?_⟩) (by assumption) ?_
                    rotate_left
                    · intro W hSw
                      try dsimp only at hSw
                      go_simp
                      first | done | with_reducible rfl
                    try simp only [Act.put, List.setIfInBounds_toArray, List.set_cons_zero, List.set_cons_succ]
                    refine wpAnyH_ready (rs := [23]) (by kernel_rfl) (by simp) (AllReadyH.cons (o := { dst := none, op := Op.store 42 (Operand.tmp 17) (Operand.tmp 89), type := 0, pos := "chunks.go:57", after := #[{ on := 22, ground := Ground.data }, { on := 21, ground := Ground.data }, { on := 20, ground := Ground.chain }, { on := 0, ground := Ground.phase }, { on := 1, ground := Ground.phase }, { on := 2, ground := Ground.phase }, { on := 3, ground := Ground.phase }, { on := 4, ground := Ground.phase }, { on := 5, ground := Ground.phase }, { on := 6, ground := Ground.phase }, { on := 7, ground := Ground.phase }, { on := 8, ground := Ground.phase }, { on := 9, ground := Ground.phase }, { on := 10, ground := Ground.phase }, { on := 11, ground := Ground.phase }, { on := 12, ground := Ground.phase }, { on := 13, ground := Ground.phase }, { on := 14, ground := Ground.phase }, { on := 15, ground := Ground.phase }, { on := 16, ground := Ground.phase }, { on := 17, ground := Ground.phase }, { on := 18, ground := Ground.phase }, { on := 19, ground := Ground.phase }, { on := 20, ground := Ground.phase }, { on := 21, ground := Ground.phase }, { on := 22, ground := Ground.phase }], guard := none }) (by kernel_rfl) (fun K hK => ?_) AllReadyH.nil)
                    have HA1 : (Value.slice E1 (List.length Lo) f1).ownBlock ≠ some gc := own_apart HO1_4.out HK_4.out (by decide)
                    have HA2 : (Value.slice E2 (List.length La) f2).ownBlock ≠ some gc := own_apart HO2_4.out HK_4.out (by decide)
                    have HA3 : (Value.slice E3 (List.length Lb) f3).ownBlock ≠ some gc := own_apart HO3_4.out HK_4.out (by decide)
                    have k0 := HK_4.out.cell 0
                    have k1 := HK_4.out.cell 1
                    have k2 := HK_4.out.cell 2
                    have k3 := HK_4.out.cell 3
                    have kf0 : ws4.frozen? ⟨gc, 0, none⟩ = false := HK_4.out.frozen 0
                    have kf1 : ws4.frozen? ⟨gc, 1, none⟩ = false := HK_4.out.frozen 1
                    have kf2 : ws4.frozen? ⟨gc, 2, none⟩ = false := HK_4.out.frozen 2
                    have kf3 : ws4.frozen? ⟨gc, 3, none⟩ = false := HK_4.out.frozen 3
                    go_simp
                    obtain ⟨ws5, hn⟩ : ∃ W, W = ((((ws4.setCell ⟨gc, 0, none⟩ (.int .i64 1)).setCell ⟨gc, 1, none⟩ (.slice E1 (List.length Lo) f1)).setCell ⟨gc, 2, none⟩ (.slice E2 (List.length La) f2)).setCell ⟨gc, 3, none⟩ (.slice E3 (List.length Lb) f3)) := ⟨_, rfl⟩
                    try rw [← hn]
                    have HS5 : Hid (Below wk.heap.size wk ws5) := by unfold Hid; rw [hn]; exact ((((HS4.out.setCell (by exact HGC.out) _).setCell (by exact HGC.out) _).setCell (by exact HGC.out) _).setCell (by exact HGC.out) _)
                    have HK_5 : Hid (Blk ws5 gc 42 #[.int .i64 1, .slice E1 (List.length Lo) f1, .slice E2 (List.length La) f2, .slice E3 (List.length Lb) f3]) := by unfold Hid; rw [hn]; have hq := ((((HK_4.out.set_ 0 (.int .i64 1)).set_ 1 (.slice E1 (List.length Lo) f1)).set_ 2 (.slice E2 (List.length La) f2)).set_ 3 (.slice E3 (List.length Lb) f3)); simp at hq; exact hq
                    have HO1_5 : Hid (OwnV 9 ws5 wk.heap.size (.slice E1 (List.length Lo) f1) (Lo.map sv)) := by unfold Hid; rw [hn]; exact (((HO1_4.out.apart HA1 _).apart HA1 _).apart HA1 _).apart HA1 _
                    have HO2_5 : Hid (OwnV 9 ws5 wk.heap.size (.slice E2 (List.length La) f2) (La.map sv)) := by unfold Hid; rw [hn]; exact (((HO2_4.out.apart HA2 _).apart HA2 _).apart HA2 _).apart HA2 _
                    have HO3_5 : Hid (OwnV 9 ws5 wk.heap.size (.slice E3 (List.length Lb) f3) (Lb.map sv)) := by unfold Hid; rw [hn]; exact (((HO3_4.out.apart HA3 _).apart HA3 _).apart HA3 _).apart HA3 _
                    clear hn k0 k1 k2 k3 kf0 kf1 kf2 kf3 HA1 HA2 HA3
                    try go_wp2_with fail
                    refine hK.out _ _ ?_ (fun hHeld => ?_)
                    · try dsimp only
                      exact HSS.out _ HS5.out
                    clear hK K
                    refine wpAnyH_done (by kernel_rfl) ?_ _
                    go_wp2_with fail
                    go_meet
                    exact ⟨gc, _, _, _, _, _, _, rfl, HK_5.out, HO1_5.out, HO2_5.out, HO3_5.out, HS5.out, HGC.out⟩
              case rest =>
                obtain ⟨gc, E1, f1, E2, f2, E3, f3, rfl, hgc, ho1, ho2, ho3, hbd, hgk⟩ := hcut
                obtain ⟨wd, rfl⟩ : ∃ W, W = wc := ⟨_, rfl⟩
                have HGC := Lib.hid hgc
                have HO1 := Lib.hid ho1
                have HO2 := Lib.hid ho2
                have HO3 := Lib.hid ho3
                have HBD := Lib.hid hbd
                have HGK := Lib.hid hgk
                clear hgc ho1 ho2 ho3 hbd hgk
                obtain ⟨kk, hkk⟩ : ∃ kk, (if n = 0 then kd else 1) = kk := ⟨_, rfl⟩
                have HKK := Lib.hid hkk
                rw [hkk] at HRN
                clear hkk
                go_upto_if 91 with (fail)
                go_cut [] from 47 to 104 (fun wx => Blk wx gc 42 #[.int .i64 (kk : Int), .slice E1 Lo.length f1, .slice E2 La.length f2, .slice E3 Lb.length f3] ∧ OwnV 9 wx wk.heap.size (.slice E1 Lo.length f1) (Lo.map sv) ∧ OwnV 9 wx wk.heap.size (.slice E2 La.length f2) (La.map sv) ∧ OwnV 9 wx wk.heap.size (.slice E3 Lb.length f3) (Lb.map sv) ∧ Below wk.heap.size wk wx)
                case first =>
                  by_cases hn0 : n = 0
                  · subst hn0
                    obtain rfl : kd = kk := HKK.out
                    have c0 := HGC.out.cell 0
                    have c1' := HGC.out.cell 1
                    have c2' := HGC.out.cell 2
                    have c3' := HGC.out.cell 3
                    have HCH : Hid (Calls Try.prog 26 #[.slice E1 Lo.length f1, .slice E2 La.length f2, .slice E3 Lb.length f3] wd (KindP Lo La Lb wd)) := changed_any _ _ _ Lo La Lb wd HO1.out.slv HO2.out.slv HO3.out.slv
                    unfold KindP at HCH
                    rw [HKDe.out] at HCH
                    go_wp2_with fail
                    refine HCH.out.mono ?_
                    rintro e w7 ⟨rfl, hb7⟩
                    have HGC7 := Lib.hid (HGC.out.below hb7 HGC.out.lt)
                    have HO17 := Lib.hid (HO1.out.below hb7)
                    have HO27 := Lib.hid (HO2.out.below hb7)
                    have HO37 := Lib.hid (HO3.out.below hb7)
                    have HB7 := Lib.hid (HBD.out.trans (hb7.mono HBD.out.size))
                    have d0 := HGC7.out.cell 0
                    have df0 := HGC7.out.frozen 0
                    clear hb7 c0 c1' c2' c3'
                    go_wp2_with fail
                    go_meet
                    refine ⟨?_, HO17.out.apart (own_apart HO17.out HGC7.out (by decide)) _, HO27.out.apart (own_apart HO27.out HGC7.out (by decide)) _, HO37.out.apart (own_apart HO37.out HGC7.out (by decide)) _, HB7.out.setCell HGK.out _⟩
                    have hs := HGC7.out.set_ 0 (.int .i64 (kd : Int))
                    simp at hs
                    exact hs
                  · obtain rfl : 1 = kk := by rw [← HKK.out, if_neg hn0]
                    have y0 : ((n : Int) == 0) = false := beq_eq_false_iff_ne.2 (by omega)
                    have y1 : ¬ (n : Int) = 0 := by omega
                    go_wp2_with fail
                    go_meet
                    exact ⟨HGC.out, HO1.out, HO2.out, HO3.out, HBD.out⟩
                case rest =>
                  obtain ⟨hgc2, ho1, ho2, ho3, hbe⟩ := hcut
                  obtain ⟨we, rfl⟩ : ∃ W, W = wc := ⟨_, rfl⟩
                  have k0 := hgc2.cell 0
                  have k1 := hgc2.cell 1
                  have k2 := hgc2.cell 2
                  have k3 := hgc2.cell 3
                  have HP1' := Lib.hid ho1
                  have HP2' := Lib.hid ho2
                  have HP3' := Lib.hid ho3
                  have HBE := Lib.hid hbe
                  have HOWE := Lib.hid (HOWK.out.below hbe)
                  have HQE : Hid (PlA we q (n1, n2, n3)) := HQN.out.below hbe HQN.out.lt
                  have HGE : Hid (PlA we g (i, j, k)) := HGN.out.below hbe HGN.out.lt
                  have HHE : Hid (PlA we h (no, na, nb)) := HHN.out.below hbe HHN.out.lt
                  have hwe : w4.heap.size ≤ we.heap.size := Nat.le_trans hwz hbe.size
                  have hcl2 : C.length + 1 ≤ 2000000 := by omega
                  clear hgc2 ho1 ho2 ho3 hbe
                  go_wp2_with (at_builtin; refine append_ck Try.underlying26 info_ck (by decide) rfl (.tmp 100) (.tmp 102) rfl we w4.heap.size u11 C rfl HOWE.out kk _ _ _ Lo La Lb (HP1'.out.base hwz) (HP2'.out.base hwz) (HP3'.out.base hwz) rfl hcl2 hwe ?_; intro v8 w8 ho8 hb8 hk8; have HO8 := Lib.hid ho8; have HB8 := Lib.hid hb8; have HQ8 : Hid (PlA w8 q (n1, n2, n3)) := hk8 _ _ _ (by decide) HQE.out; have HG8 : Hid (PlA w8 g (i, j, k)) := hk8 _ _ _ (by decide) HGE.out; have HH8 : Hid (PlA w8 h (no, na, nb)) := hk8 _ _ _ (by decide) HHE.out; have l0 := HQ8.out.cell 0; have l1 := HQ8.out.cell 1; have l2 := HQ8.out.cell 2; have j0 := HG8.out.cell 0; have j1 := HG8.out.cell 1; have j2 := HG8.out.cell 2; have jf0 := HG8.out.frozen 0; have jf1 := HG8.out.frozen 1; have jf2 := HG8.out.frozen 2; clear ho8 hb8 hk8)
                  have HGL : Hid (g < w4.heap.size ∧ w3.heap.size ≤ g ∧ h ≠ g) := ⟨HGH.out.2.1, HGH.out.1, fun e => HGH.out.2.2.2.2 e.symm⟩
                  have HGX : Hid (PlA (((w8.setCell ⟨g, 0, none⟩ (.int .i64 (n1 : Int))).setCell ⟨g, 1, none⟩ (.int .i64 (n2 : Int))).setCell ⟨g, 2, none⟩ (.int .i64 (n3 : Int))) g (n1, n2, n3)) := by
                    have hs := ((HG8.out.set_ 0 (.int .i64 (n1 : Int))).set_ 1 (.int .i64 (n2 : Int))).set_ 2 (.int .i64 (n3 : Int))
                    simp at hs
                    exact hs
                  have HB9 : Hid (Below w3.heap.size w3 w8) := (HBK.out.trans (HBE.out.mono HBK.out.size)).trans (HB8.out.mono HW4.out.size)
                  go_roundw
                  case rel => exact ⟨(n1, n2, n3), _, K2, HGX.out, ((HH8.out.far HGL.out.2.2 _).far HGL.out.2.2 _).far HGL.out.2.2 _, HS2.out, rfl, hk2, HRN.out, HKO3.out, by rw [List.length_append]; show C.length + 1 ≤ n1 + n2 + n3; have := HMV.out; omega, ((HO8.out.farSet HGL.out.1 _).farSet HGL.out.1 _).farSet HGL.out.1 _, ((HB9.out.setCell HGL.out.2.1 _).setCell HGL.out.2.1 _).setCell HGL.out.2.1 _, by simpa [World.setCell] using Nat.le_trans hwe HB8.out.size⟩
                  case measure =>
                    have e1 := HGX.out.mt
                    have e2 := HMT.out
                    have e3 := HMV.out
                    unfold sumT at e1 e2
                    simp only at e1 e2
                    omega
    · rw [eE, eP] at HM2
      clear eE eP
      obtain ⟨hE, hL⟩ := cErr_no' (o := o) (a := a) (b := b) (fun h => hno' ⟨h.1, h.2.2⟩)
      rw [hE, hL]
      rw [hno] at H1 hl1 HM1 HM2 ⊢
      rw [hna] at H2 hl2 HM1 ⊢
      rw [hnb] at H3 hl3 HM2 ⊢
      clear h1 h2 h3 hno hna hnb hE hL ho ha hno'
      go_enter Try.func12, Try.ntmps12
      go_wp2_with fail
      refine HM1.out.mono ?_
      rintro e w1 ⟨p1, rfl, hp1, hb1⟩
      have HB1 := Lib.hid hb1
      clear hp1 hb1
      go_wp2_with fail
      refine (HM2.out w1 HB1.out).mono ?_
      rintro e w2 ⟨p2, rfl, hp2, hb2⟩
      have HB2 := Lib.hid (HB1.out.trans (hb2.mono HB1.out.size))
      clear hp2 hb2
      go_wp2_with fail
      go_ret2
      exact ⟨_, rfl, OwnCk.nil_ _ _ _, HB2.out⟩
  · rw [eE, eP] at HM1
    clear eE eP
    obtain ⟨hE, hL⟩ := cErr_no' (o := o) (a := a) (b := b) (fun h => hno' ⟨h.1, h.2.1⟩)
    rw [hE, hL]
    rw [hno] at H1 hl1 HM1 ⊢
    rw [hna] at H2 hl2 HM1 ⊢
    rw [hnb] at H3 hl3 ⊢
    clear h1 h2 h3 hno hna hnb hE hL hno' HM2
    go_enter Try.func12, Try.ntmps12
    go_wp2_with fail
    refine HM1.out.mono ?_
    rintro e w1 ⟨p1, rfl, hp1, hb1⟩
    have HB1 := Lib.hid hb1
    clear hp1 hb1
    go_wp2_with fail
    go_ret2
    exact ⟨_, rfl, OwnCk.nil_ _ _ _, HB1.out⟩
end Go.Proofs.Ytbejgljljjjjcaa.Ln
