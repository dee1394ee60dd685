/- What both matches keep; how many kept lines stand beside one another. -/
import Derived.Test.YtbejgljljjjjcaaDf2
import Derived.Deep.DeepCutAuto
set_option linter.unusedVariables false
set_option linter.unusedSimpArgs false
namespace Go.Proofs.Ytbejgljljjjjcaa.Ln
open Go.RowKit Go.Proofs.Ytbejgljljjjjcaa.Sh Go.Proofs.Ytbejgljljjjjcaa.Tx

def KepP (w : World) (K : List Tri) (e : Ending) (w' : World) : Prop := ∃ v, e = .returned v ∧ OwnK 3 53 w' w.heap.size v (K.map triC) ∧ Below w.heap.size w w'
theorem kept_len : ∀ (n : Nat) {P Q : List (Nat × Nat)}, P.length + Q.length ≤ n → (keptL P Q).length ≤ n
  | n, [], Q, h => by rw [keptL_nil]; exact Nat.zero_le _
  | n, p :: P, [], h => by rw [keptL_nil']; exact Nat.zero_le _
  | 0, p :: P, q :: Q, h => by simp at h
  | n + 1, p :: P, q :: Q, h => by
    simp only [List.length_cons] at h
    rw [keptL_cons]
    split
    · rw [List.length_cons]
      have := kept_len n (P := P) (Q := Q) (by omega)
      omega
    · split
      · have := kept_len n (P := P) (Q := q :: Q) (by simp only [List.length_cons]; omega)
        omega
      · have := kept_len n (P := p :: P) (Q := Q) (by simp only [List.length_cons]; omega)
        omega
theorem pr_back (A : Option Addr) (l c : Nat) (hl : 1 ≤ l) (w : World) : (Instr.slice 47 (.slice A l c) (some (.int .i64 1)) none none).run Try.prog w = .ok (.slice (if c = 1 then A else A.map (·.add (1 * 2))) (l - 1) (c - 1)) w := by
  rw [run_slice_l w 47 A l c Try.underlying47 .i64 1 (by omega) (by omega), show (sizeOf (Try.prog.elem 47)).run Try.prog w = .ok 2 w by kernel_rfl]
  rfl
set_option maxRecDepth 100000 in
set_option maxHeartbeats 3200000 in
theorem kept_any (v1 v2 : Value) (P Q : List (Nat × Nat)) (w : World) (h1 : SlK 2 w v1 (P.map prC)) (h2 : SlK 2 w v2 (Q.map prC)) (hP : P.length ≤ 200) (hQ : Q.length ≤ 200)
    (hb1 : ∀ p ∈ P, p.1 ≤ 200 ∧ p.2 ≤ 200) (hb2 : ∀ p ∈ Q, p.1 ≤ 200 ∧ p.2 ≤ 200) :
    Calls Try.prog 22 #[v1, v2] w (KepP w (keptL P Q)) := by
  have H1 := Lib.hid (fun W (hW : Below w.heap.size w W) => h1.below hW)
  have H2 := Lib.hid (fun W (hW : Below w.heap.size w W) => h2.below hW)
  have HKL := Lib.hid (kept_len _ (P := P) (Q := Q) (Nat.le_refl _))
  obtain ⟨R, hR⟩ : ∃ R, keptL P Q = R := ⟨_, rfl⟩
  have HR := Lib.hid hR
  have HPQ : Hid (P.length ≤ 200 ∧ Q.length ≤ 200) := ⟨hP, hQ⟩
  have HB1 := Lib.hid hb1
  have HB2 := Lib.hid hb2
  rw [hR] at HKL ⊢
  unfold KepP
  clear h1 h2 hR hP hQ hb1 hb2
  go_enter Try.func22, Try.ntmps22
  go_wp2_with fail
  go_loopw [0, 1, 5] (fun x y v wr => ∃ (p q : List (Nat × Nat)) (C : List Tri), (∀ W, Below w.heap.size w W → SlK 2 W x (p.map prC)) ∧ (∀ W, Below w.heap.size w W → SlK 2 W y (q.map prC)) ∧ p.length ≤ 200 ∧ q.length ≤ 200 ∧ (∀ z ∈ p, z.1 ≤ 200 ∧ z.2 ≤ 200) ∧ (∀ z ∈ q, z.1 ≤ 200 ∧ z.2 ≤ 200) ∧ lenOf x = p.length ∧ lenOf y = q.length ∧ R = C ++ keptL p q ∧ OwnK 3 53 wr w.heap.size v (C.map triC) ∧ Below w.heap.size w wr) (fun x y _ _ => lenOf x + lenOf y)
  case atStart =>
    refine ⟨P, Q, [], H1.out, H2.out, HPQ.out.1, HPQ.out.2, HB1.out, HB2.out, ?_, ?_, HR.out.symm, OwnK.nil_ _ _ _ _, Below.refl _ _⟩
    · obtain ⟨A, c, rfl, _⟩ := H1.out w (Below.refl _ _)
      exact List.length_map ..
    · obtain ⟨A, c, rfl, _⟩ := H2.out w (Below.refl _ _)
      exact List.length_map ..
  case round =>
    obtain ⟨p, q, C, hx, hy, hpl, hql, hpb, hqb, hlx, hly, hRC, ho, hb⟩ := hrel
    obtain ⟨A1, c1, rfl, hl1, hm1, _⟩ := hx wr hb
    obtain ⟨A2, c2, rfl, hl2, hm2, _⟩ := hy wr hb
    have HX := Lib.hid hx
    have HY := Lib.hid hy
    have HRC := Lib.hid hRC
    have HO := Lib.hid ho
    have HB := Lib.hid hb
    have hwz := hb.size
    have HPB := Lib.hid hpb
    have HQB := Lib.hid hqb
    unfold maxLen at hm1 hm2
    rw [List.length_map] at HX HY hl1 hl2 hlx hly ⊢
    rw [List.length_map]
    have hcl : C.length ≤ 400 := by
      have h := congrArg List.length hRC
      rw [List.length_append] at h
      have h3 := HKL.out
      have h4 := HPQ.out
      omega
    clear hx hy hRC ho hb hpb hqb hlx hly
    cases p with
    | nil =>
      have HE : Hid (R = C) := by unfold Hid; rw [HRC.out, keptL_nil, List.append_nil]
      simp only [List.length_nil]
      go_wp2_with fail
      go_ret
      exact ⟨_, rfl, by rw [HE.out]; exact HO.out, HB.out⟩
    | cons p0 p =>
      cases q with
      | nil =>
        have HE : Hid (R = C) := by unfold Hid; rw [HRC.out, keptL_nil', List.append_nil]
        have z1 : (0 : Int) < ((p.length + 1 : Nat) : Int) := by omega
        simp only [List.length_nil, List.length_cons]
        go_wp2_with fail
        go_ret
        exact ⟨_, rfl, by rw [HE.out]; exact HO.out, HB.out⟩
      | cons q0 q =>
        obtain ⟨p1, p2⟩ := p0
        obtain ⟨q1, q2⟩ := q0
        obtain ⟨a1, rfl, x1, x2⟩ := pr_at (HX.out wr HB.out) 0 p1 p2 rfl
        obtain ⟨a2, rfl, y1, y2⟩ := pr_at (HY.out wr HB.out) 0 q1 q2 rfl
        clear x1 x2 y1 y2
        have HSS : Hid (∀ W, Below wr.heap.size wr W → W.cell? a1 = some (.int .i64 (p1 : Int)) ∧ W.cell? ⟨a1.block, a1.off + 1, none⟩ = some (.int .i64 (p2 : Int)) ∧ W.cell? a2 = some (.int .i64 (q1 : Int)) ∧ W.cell? ⟨a2.block, a2.off + 1, none⟩ = some (.int .i64 (q2 : Int))) := by
          intro W hW
          obtain ⟨b1, eb1, x1, x2⟩ := pr_at (HX.out W (HB.out.trans (hW.mono HB.out.size))) 0 p1 p2 rfl
          obtain ⟨b2, eb2, y1, y2⟩ := pr_at (HY.out W (HB.out.trans (hW.mono HB.out.size))) 0 q1 q2 rfl
          injection eb1 with eb1
          injection eb2 with eb2
          subst eb1 eb2
          rw [Nat.zero_mul, show a1.add 0 = a1 from rfl] at x1 x2
          rw [Nat.zero_mul, show a2.add 0 = a2 from rfl] at y1 y2
          exact ⟨x1, x2, y1, y2⟩
        have z1 : (0 : Int) < ((p.length + 1 : Nat) : Int) := by omega
        have z2 : (0 : Int) < ((q.length + 1 : Nat) : Int) := by omega
        simp only [List.length_cons]
        go_upto_region 3 with (fail)
        go_cut [6, 7] from 8 to 50 (fun x y wx => ∃ g h, x = .pointer (some ⟨g, 0, none⟩) ∧ y = .pointer (some ⟨h, 0, none⟩) ∧ Blk wx g 69 #[.int .i64 (p1 : Int), .int .i64 (p2 : Int)] ∧ Blk wx h 69 #[.int .i64 (q1 : Int), .int .i64 (q2 : Int)] ∧ Below wr.heap.size wr wx)
        case first =>
          refine wp_region_held_drew (S := (fun W => W.cell? a1 = some (.int .i64 (p1 : Int)) ∧ W.cell? ⟨a1.block, a1.off + 1, none⟩ = some (.int .i64 (p2 : Int)) ∧ W.cell? a2 = some (.int .i64 (q1 : Int)) ∧ W.cell? ⟨a2.block, a2.off + 1, none⟩ = some (.int .i64 (q2 : Int)))) (by kernel_rfl) ?_ (fun hHeld => ?_)
          · try dsimp only
            exact HSS.out _ (Below.refl _ _).drew
          refine take_at (i := 0) (d := 16) (v := ?_) rfl (by kernel_rfl) (by kernel_rfl) (by kernel_rfl) (by kernel_rfl) (fun _ _ _ h => h) (Or.inl ⟨by kernel_rfl, ?_⟩) (by assumption) ?_
          rotate_left
          · intro W hSw
            try dsimp only at hSw
            go_simp
            first | done | with_reducible rfl
          try simp only [Act.put, List.setIfInBounds_toArray, List.set_cons_zero, List.set_cons_succ]
          refine take_at (i := 1) (d := 17) (v := ?_) rfl (by kernel_rfl) (by kernel_rfl) (by kernel_rfl) (by kernel_rfl) (fun _ _ _ h => h) (Or.inl ⟨by kernel_rfl, ?_⟩) (by assumption) ?_
          rotate_left
          · intro W hSw
            try dsimp only at hSw
            go_simp
            first | done | with_reducible rfl
          try simp only [Act.put, List.setIfInBounds_toArray, List.set_cons_zero, List.set_cons_succ]
          refine take_at (i := 2) (d := 18) (v := ?_) rfl (by kernel_rfl) (by kernel_rfl) (by kernel_rfl) (by kernel_rfl) (fun _ _ _ h => h) (Or.inl ⟨by kernel_rfl, ?_⟩) (by assumption) ?_
          rotate_left
          · intro W hSw
            try dsimp only at hSw
            obtain ⟨s1, s2, s3, s4⟩ := hSw
            go_simp
            first | done | with_reducible rfl
          try simp only [Act.put, List.setIfInBounds_toArray, List.set_cons_zero, List.set_cons_succ]
          refine take_at (i := 3) (d := 19) (v := ?_) rfl (by kernel_rfl) (by kernel_rfl) (by kernel_rfl) (by kernel_rfl) (fun _ _ _ h => h) (Or.inl ⟨by kernel_rfl, ?_⟩) (by assumption) ?_
          rotate_left
          · intro W hSw
            try dsimp only at hSw
            go_simp
            first | done | with_reducible rfl
          try simp only [Act.put, List.setIfInBounds_toArray, List.set_cons_zero, List.set_cons_succ]
          refine take_at (i := 4) (d := 20) (v := ?_) rfl (by kernel_rfl) (by kernel_rfl) (by kernel_rfl) (by kernel_rfl) (fun _ _ _ h => h) (Or.inl ⟨by kernel_rfl, ?_⟩) (by assumption) ?_
          rotate_left
          · intro W hSw
            try dsimp only at hSw
            go_simp
            first | done | with_reducible rfl
          try simp only [Act.put, List.setIfInBounds_toArray, List.set_cons_zero, List.set_cons_succ]
          refine take_at (i := 5) (d := 21) (v := ?_) rfl (by kernel_rfl) (by kernel_rfl) (by kernel_rfl) (by kernel_rfl) (fun _ _ _ h => h) (Or.inl ⟨by kernel_rfl, ?_⟩) (by assumption) ?_
          rotate_left
          · intro W hSw
            try dsimp only at hSw
            obtain ⟨s1, s2, s3, s4⟩ := hSw
            go_simp
            first | done | with_reducible rfl
          try simp only [Act.put, List.setIfInBounds_toArray, List.set_cons_zero, List.set_cons_succ]
          refine wpAnyH_ready (rs := [6, 7]) (by kernel_rfl) (by simp) (AllReadyH.cons rfl (fun K hK => ?_) (AllReadyH.cons rfl (fun K hK => ?_) AllReadyH.nil))
          · go_simp
            obtain ⟨wA, hn⟩ : ∃ W, W = (wr.alloc (.cells #[.int .i64 0, .int .i64 0] 69)).drew := ⟨_, rfl⟩
            obtain ⟨g, hk⟩ : ∃ k, k = wr.heap.size := ⟨_, rfl⟩
            try rw [← hn]
            try rw [← hk]
            have HBA : Hid (Below wr.heap.size wr wA) := by unfold Hid; rw [hn]; exact ((Below.refl _ _).alloc (Nat.le_refl _) _).drew
            have HKA : Hid (Blk wA g 69 #[.int .i64 0, .int .i64 0] ∧ wr.heap.size ≤ g) := by unfold Hid; rw [hn, hk]; exact ⟨Blk.new wr _ _, Nat.le_refl _⟩
            clear hn hk
            try go_wp2_with fail
            refine hK.out _ _ ?_ (fun hHeld => ?_)
            · try dsimp only
              exact HSS.out _ HBA.out
            clear hK K
            try simp only [Act.put, List.setIfInBounds_toArray, List.set_cons_zero, List.set_cons_succ]
            refine wpAnyH_ready (rs := [7]) (by kernel_rfl) (by simp) (AllReadyH.cons rfl (fun K hK => ?_) AllReadyH.nil)
            go_simp
            obtain ⟨wB, hn⟩ : ∃ W, W = (wA.alloc (.cells #[.int .i64 0, .int .i64 0] 69)) := ⟨_, rfl⟩
            obtain ⟨h, hk⟩ : ∃ k, k = wA.heap.size := ⟨_, rfl⟩
            try rw [← hn]
            try rw [← hk]
            have HBB : Hid (Below wr.heap.size wr wB) := by unfold Hid; rw [hn]; exact HBA.out.alloc HBA.out.size _
            have HKB : Hid (Blk wB h 69 #[.int .i64 0, .int .i64 0] ∧ wr.heap.size ≤ h ∧ Blk wB g 69 #[.int .i64 0, .int .i64 0] ∧ wr.heap.size ≤ g ∧ h ≠ g) := by unfold Hid; rw [hn, hk]; exact ⟨Blk.new wA _ _, HBA.out.size, HKA.out.1.alloc _, HKA.out.2, fun e => by have := HKA.out.1.lt; omega⟩
            clear hn hk
            try go_wp2_with fail
            refine hK.out _ _ ?_ (fun hHeld => ?_)
            · try dsimp only
              exact HSS.out _ HBB.out
            clear hK K
            try simp only [Act.put, List.setIfInBounds_toArray, List.set_cons_zero, List.set_cons_succ]
            refine wpAnyH_ready (rs := [8]) (by kernel_rfl) (by simp) (AllReadyH.cons rfl (fun K hK => ?_) AllReadyH.nil)
            have k0 := (HKB.out.2.2.1).cell 0
            have k1 := (HKB.out.2.2.1).cell 1
            have kf0 : wB.frozen? ⟨g, 0, none⟩ = false := (HKB.out.2.2.1).frozen 0
            have kf1 : wB.frozen? ⟨g, 1, none⟩ = false := (HKB.out.2.2.1).frozen 1
            go_simp
            obtain ⟨wC, hn⟩ : ∃ W, W = (wB.setCell ⟨g, 0, none⟩ (.int .i64 (p1 : Int))).setCell ⟨g, 1, none⟩ (.int .i64 (p2 : Int)) := ⟨_, rfl⟩
            try rw [← hn]
            have HKG : Hid (Blk wC g 69 #[.int .i64 (p1 : Int), .int .i64 (p2 : Int)]) := by unfold Hid; rw [hn]; have hq := ((HKB.out.2.2.1).set_ 0 (.int .i64 (p1 : Int))).set_ 1 (.int .i64 (p2 : Int)); simp at hq; exact hq
            have HKH : Hid (Blk wC h 69 #[.int .i64 0, .int .i64 0]) := by unfold Hid; rw [hn]; exact ((HKB.out.1).far (fun e => HKB.out.2.2.2.2 e) _).far (fun e => HKB.out.2.2.2.2 e) _
            have HBC : Hid (Below wr.heap.size wr wC) := by unfold Hid; rw [hn]; exact (HBB.out.setCell (HKB.out.2.2.2.1) _).setCell (HKB.out.2.2.2.1) _
            clear hn k0 k1 kf0 kf1
            try go_wp2_with fail
            refine hK.out _ _ ?_ (fun hHeld => ?_)
            · try dsimp only
              exact HSS.out _ HBC.out
            clear hK K
            refine wpAnyH_ready (rs := [9]) (by kernel_rfl) (by simp) (AllReadyH.cons rfl (fun K hK => ?_) AllReadyH.nil)
            have k0 := HKH.out.cell 0
            have k1 := HKH.out.cell 1
            have kf0 : wC.frozen? ⟨h, 0, none⟩ = false := HKH.out.frozen 0
            have kf1 : wC.frozen? ⟨h, 1, none⟩ = false := HKH.out.frozen 1
            go_simp
            obtain ⟨wD, hn⟩ : ∃ W, W = (wC.setCell ⟨h, 0, none⟩ (.int .i64 (q1 : Int))).setCell ⟨h, 1, none⟩ (.int .i64 (q2 : Int)) := ⟨_, rfl⟩
            try rw [← hn]
            have HDH : Hid (Blk wD h 69 #[.int .i64 (q1 : Int), .int .i64 (q2 : Int)]) := by unfold Hid; rw [hn]; have hq := (HKH.out.set_ 0 (.int .i64 (q1 : Int))).set_ 1 (.int .i64 (q2 : Int)); simp at hq; exact hq
            have HDG : Hid (Blk wD g 69 #[.int .i64 (p1 : Int), .int .i64 (p2 : Int)]) := by unfold Hid; rw [hn]; exact (HKG.out.far (fun e => HKB.out.2.2.2.2 e.symm) _).far (fun e => HKB.out.2.2.2.2 e.symm) _
            have HBD : Hid (Below wr.heap.size wr wD) := by unfold Hid; rw [hn]; exact (HBC.out.setCell (HKB.out.2.1) _).setCell (HKB.out.2.1) _
            clear hn k0 k1 kf0 kf1
            try go_wp2_with fail
            refine hK.out _ _ ?_ (fun hHeld => ?_)
            · try dsimp only
              exact HSS.out _ HBD.out
            clear hK K
            refine wpAnyH_done (by kernel_rfl) ?_ _
            go_wp2_with fail
            go_meet
            exact ⟨_, _, rfl, rfl, HDG.out, HDH.out, HBD.out⟩
          · go_simp
            obtain ⟨wA, hn⟩ : ∃ W, W = (wr.alloc (.cells #[.int .i64 0, .int .i64 0] 69)).drew := ⟨_, rfl⟩
            obtain ⟨h, hk⟩ : ∃ k, k = wr.heap.size := ⟨_, rfl⟩
            try rw [← hn]
            try rw [← hk]
            have HBA : Hid (Below wr.heap.size wr wA) := by unfold Hid; rw [hn]; exact ((Below.refl _ _).alloc (Nat.le_refl _) _).drew
            have HKA : Hid (Blk wA h 69 #[.int .i64 0, .int .i64 0] ∧ wr.heap.size ≤ h) := by unfold Hid; rw [hn, hk]; exact ⟨Blk.new wr _ _, Nat.le_refl _⟩
            clear hn hk
            try go_wp2_with fail
            refine hK.out _ _ ?_ (fun hHeld => ?_)
            · try dsimp only
              exact HSS.out _ HBA.out
            clear hK K
            try simp only [Act.put, List.setIfInBounds_toArray, List.set_cons_zero, List.set_cons_succ]
            refine wpAnyH_ready (rs := [6]) (by kernel_rfl) (by simp) (AllReadyH.cons rfl (fun K hK => ?_) AllReadyH.nil)
            go_simp
            obtain ⟨wB, hn⟩ : ∃ W, W = (wA.alloc (.cells #[.int .i64 0, .int .i64 0] 69)) := ⟨_, rfl⟩
            obtain ⟨g, hk⟩ : ∃ k, k = wA.heap.size := ⟨_, rfl⟩
            try rw [← hn]
            try rw [← hk]
            have HBB : Hid (Below wr.heap.size wr wB) := by unfold Hid; rw [hn]; exact HBA.out.alloc HBA.out.size _
            have HKB : Hid (Blk wB g 69 #[.int .i64 0, .int .i64 0] ∧ wr.heap.size ≤ g ∧ Blk wB h 69 #[.int .i64 0, .int .i64 0] ∧ wr.heap.size ≤ h ∧ g ≠ h) := by unfold Hid; rw [hn, hk]; exact ⟨Blk.new wA _ _, HBA.out.size, HKA.out.1.alloc _, HKA.out.2, fun e => by have := HKA.out.1.lt; omega⟩
            clear hn hk
            try go_wp2_with fail
            refine hK.out _ _ ?_ (fun hHeld => ?_)
            · try dsimp only
              exact HSS.out _ HBB.out
            clear hK K
            try simp only [Act.put, List.setIfInBounds_toArray, List.set_cons_zero, List.set_cons_succ]
            refine wpAnyH_ready (rs := [8]) (by kernel_rfl) (by simp) (AllReadyH.cons rfl (fun K hK => ?_) AllReadyH.nil)
            have k0 := (HKB.out.1).cell 0
            have k1 := (HKB.out.1).cell 1
            have kf0 : wB.frozen? ⟨g, 0, none⟩ = false := (HKB.out.1).frozen 0
            have kf1 : wB.frozen? ⟨g, 1, none⟩ = false := (HKB.out.1).frozen 1
            go_simp
            obtain ⟨wC, hn⟩ : ∃ W, W = (wB.setCell ⟨g, 0, none⟩ (.int .i64 (p1 : Int))).setCell ⟨g, 1, none⟩ (.int .i64 (p2 : Int)) := ⟨_, rfl⟩
            try rw [← hn]
            have HKG : Hid (Blk wC g 69 #[.int .i64 (p1 : Int), .int .i64 (p2 : Int)]) := by unfold Hid; rw [hn]; have hq := ((HKB.out.1).set_ 0 (.int .i64 (p1 : Int))).set_ 1 (.int .i64 (p2 : Int)); simp at hq; exact hq
            have HKH : Hid (Blk wC h 69 #[.int .i64 0, .int .i64 0]) := by unfold Hid; rw [hn]; exact ((HKB.out.2.2.1).far (fun e => HKB.out.2.2.2.2 e.symm) _).far (fun e => HKB.out.2.2.2.2 e.symm) _
            have HBC : Hid (Below wr.heap.size wr wC) := by unfold Hid; rw [hn]; exact (HBB.out.setCell (HKB.out.2.1) _).setCell (HKB.out.2.1) _
            clear hn k0 k1 kf0 kf1
            try go_wp2_with fail
            refine hK.out _ _ ?_ (fun hHeld => ?_)
            · try dsimp only
              exact HSS.out _ HBC.out
            clear hK K
            refine wpAnyH_ready (rs := [9]) (by kernel_rfl) (by simp) (AllReadyH.cons rfl (fun K hK => ?_) AllReadyH.nil)
            have k0 := HKH.out.cell 0
            have k1 := HKH.out.cell 1
            have kf0 : wC.frozen? ⟨h, 0, none⟩ = false := HKH.out.frozen 0
            have kf1 : wC.frozen? ⟨h, 1, none⟩ = false := HKH.out.frozen 1
            go_simp
            obtain ⟨wD, hn⟩ : ∃ W, W = (wC.setCell ⟨h, 0, none⟩ (.int .i64 (q1 : Int))).setCell ⟨h, 1, none⟩ (.int .i64 (q2 : Int)) := ⟨_, rfl⟩
            try rw [← hn]
            have HDH : Hid (Blk wD h 69 #[.int .i64 (q1 : Int), .int .i64 (q2 : Int)]) := by unfold Hid; rw [hn]; have hq := (HKH.out.set_ 0 (.int .i64 (q1 : Int))).set_ 1 (.int .i64 (q2 : Int)); simp at hq; exact hq
            have HDG : Hid (Blk wD g 69 #[.int .i64 (p1 : Int), .int .i64 (p2 : Int)]) := by unfold Hid; rw [hn]; exact (HKG.out.far (fun e => HKB.out.2.2.2.2 e) _).far (fun e => HKB.out.2.2.2.2 e) _
            have HBD : Hid (Below wr.heap.size wr wD) := by unfold Hid; rw [hn]; exact (HBC.out.setCell (HKB.out.2.2.2.1) _).setCell (HKB.out.2.2.2.1) _
            clear hn k0 k1 kf0 kf1
            try go_wp2_with fail
            refine hK.out _ _ ?_ (fun hHeld => ?_)
            · try dsimp only
              exact HSS.out _ HBD.out
            clear hK K
            refine wpAnyH_done (by kernel_rfl) ?_ _
            go_wp2_with fail
            go_meet
            exact ⟨_, _, rfl, rfl, HDG.out, HDH.out, HBD.out⟩
        case rest =>
          obtain ⟨g, h, rfl, rfl, hg, hh, hbc⟩ := hcut
          have HGH : Hid (Blk wc g 69 #[.int .i64 (p1 : Int), .int .i64 (p2 : Int)] ∧ Blk wc h 69 #[.int .i64 (q1 : Int), .int .i64 (q2 : Int)]) := ⟨hg, hh⟩
          have k0 := hg.cell 0
          have k1 := hg.cell 1
          have l0 := hh.cell 0
          have l1 := hh.cell 1
          have HBC := Lib.hid (HB.out.trans (hbc.mono HB.out.size))
          have HO2 := Lib.hid (HO.out.below hbc)
          have hwz2 := HBC.out.size
          have HX2 : Hid (∀ W, Below w.heap.size w W → SlK 2 W (.slice (if c1 = 1 then (some a1) else (some a1).map (·.add (1 * 2))) (p.length + 1 - 1) (c1 - 1)) (p.map prC)) := fun W hW => (HX.out W hW).back (prC_len _) 1 (by simp)
          have HY2 : Hid (∀ W, Below w.heap.size w W → SlK 2 W (.slice (if c2 = 1 then (some a2) else (some a2).map (·.add (1 * 2))) (q.length + 1 - 1) (c2 - 1)) (q.map prC)) := fun W hW => (HY.out W hW).back (prC_len _) 1 (by simp)
          have m1 : ∀ W, (Instr.slice 47 (.slice (some a1) (p.length + 1) c1) (some (.int .i64 1)) none none).run Try.prog W = .ok (.slice (if c1 = 1 then (some a1) else (some a1).map (·.add (1 * 2))) (p.length + 1 - 1) (c1 - 1)) W := fun W => pr_back _ _ _ (by omega) W
          have m2 : ∀ W, (Instr.slice 47 (.slice (some a2) (q.length + 1) c2) (some (.int .i64 1)) none none).run Try.prog W = .ok (.slice (if c2 = 1 then (some a2) else (some a2).map (·.add (1 * 2))) (q.length + 1 - 1) (c2 - 1)) W := fun W => pr_back _ _ _ (by omega) W
          obtain ⟨D1, hD1⟩ : ∃ x, (if c1 = 1 then (some a1) else (some a1).map (·.add (1 * 2))) = x := ⟨_, rfl⟩
          obtain ⟨D2, hD2⟩ : ∃ x, (if c2 = 1 then (some a2) else (some a2).map (·.add (1 * 2))) = x := ⟨_, rfl⟩
          obtain ⟨n1, hn1⟩ : ∃ x, p.length + 1 - 1 = x := ⟨_, rfl⟩
          obtain ⟨n2, hn2⟩ : ∃ x, q.length + 1 - 1 = x := ⟨_, rfl⟩
          obtain ⟨d1, hd1⟩ : ∃ x, c1 - 1 = x := ⟨_, rfl⟩
          obtain ⟨d2, hd2⟩ : ∃ x, c2 - 1 = x := ⟨_, rfl⟩
          simp only [hD1, hn1, hd1] at HX2 m1
          simp only [hD2, hn2, hd2] at HY2 m2
          have hq1 : n1 = p.length := by omega
          have hq2 : n2 = q.length := by omega
          clear hg hh hbc hD1 hD2 hn1 hn2 hd1 hd2
          subst hq1
          subst hq2
          rcases Nat.lt_trichotomy p1 q1 with hlt | heq | hgt
          · have HE : Hid (R = C ++ keptL p ((q1, q2) :: q)) := by unfold Hid; rw [HRC.out, keptL_cons, if_neg (by simp only; omega), if_pos (by simp only; omega)]
            have b1 : ((p1 : Int) == (q1 : Int)) = false := beq_eq_false_iff_ne.2 (by omega)
            have b2 : (p1 : Int) ≤ (q1 : Int) := by omega
            have b3 : ¬ (q1 : Int) ≤ (p1 : Int) := by omega
            clear hlt
            go_wp2_with fail
            go_roundw
            case rel => exact ⟨p, ((q1, q2) :: q), C, HX2.out, HY.out, by simp only [List.length_cons] at hpl ⊢; omega, by simp only [List.length_cons] at hql ⊢; omega, fun z hz => HPB.out z (List.mem_cons_of_mem _ hz), HQB.out, by first | rfl | (simp only [lenOf, List.length_cons]; omega), by first | rfl | (simp only [lenOf, List.length_cons]; omega), HE.out, HO2.out, HBC.out⟩
            case measure => simp only [lenOf]; omega
          · subst heq
            have HE : Hid (R = (C ++ [(p1, p2, q2)]) ++ keptL p q) := by unfold Hid; rw [HRC.out, keptL_cons, if_pos rfl, List.append_assoc]; rfl
            have b2 : (p1 : Int) ≤ (p1 : Int) := by omega
            have hcl2 : C.length + 1 ≤ 2000000 := by omega
            go_wp2_with (at_builtin; refine append_tri Try.underlying50 info_pl rfl (.tmp 27) (.tmp 35) rfl wc w.heap.size u5 C rfl HO2.out p1 p2 q2 rfl hcl2 hwz2 ?_; intro v4 w4 ho4 hb4 hk4; have HO4 := Lib.hid ho4; have HB4 := Lib.hid (HBC.out.trans hb4); have k4 := (hk4 _ _ _ (by decide) HGH.out.1).cell 0; have l4 := (hk4 _ _ _ (by decide) HGH.out.2).cell 0; clear ho4 hb4 hk4)
            go_roundw
            case rel => exact ⟨p, q, C ++ [(p1, p2, q2)], HX2.out, HY2.out, by simp only [List.length_cons] at hpl ⊢; omega, by simp only [List.length_cons] at hql ⊢; omega, fun z hz => HPB.out z (List.mem_cons_of_mem _ hz), fun z hz => HQB.out z (List.mem_cons_of_mem _ hz), rfl, rfl, HE.out, HO4.out, HB4.out⟩
            case measure => simp only [lenOf]; omega
          · have HE : Hid (R = C ++ keptL ((p1, p2) :: p) q) := by unfold Hid; rw [HRC.out, keptL_cons, if_neg (by simp only; omega), if_neg (by simp only; omega)]
            have b1 : ((p1 : Int) == (q1 : Int)) = false := beq_eq_false_iff_ne.2 (by omega)
            have b2 : ¬ (p1 : Int) ≤ (q1 : Int) := by omega
            have b3 : (q1 : Int) ≤ (p1 : Int) := by omega
            clear hgt
            go_wp2_with fail
            go_roundw
            case rel => exact ⟨((p1, p2) :: p), q, C, HX.out, HY2.out, by simp only [List.length_cons] at hpl ⊢; omega, by simp only [List.length_cons] at hql ⊢; omega, HPB.out, fun z hz => HQB.out z (List.mem_cons_of_mem _ hz), by first | rfl | (simp only [lenOf, List.length_cons]; omega), by first | rfl | (simp only [lenOf, List.length_cons]; omega), HE.out, HO2.out, HBC.out⟩
            case measure => simp only [lenOf]; omega
end Go.Proofs.Ytbejgljljjjjcaa.Ln
