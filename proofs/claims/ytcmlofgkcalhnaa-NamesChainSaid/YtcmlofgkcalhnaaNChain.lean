/- The walk of NamesChain. -/
import Derived.Test.YtcmlofgkcalhnaaNm3
import Derived.Test.YtcmlofgkcalhnaaTq1
import Derived.Deep.RegionHeld3
namespace Go.Proofs.Ytcmlofgkcalhnaa.Tx
open Go.RowKit Go.Proofs.Ytcmlofgkcalhnaa.Sh

set_option maxRecDepth 100000 in
theorem size_str (w : World) : (sizeOf (Try.prog.elem 23)).run Try.prog w = .ok 1 w := by kernel_rfl
set_option maxRecDepth 100000 in
theorem texts_front (A : Option Addr) (l c k : Nat) (hkc : k ≤ c) (w : World) : (Instr.slice 23 (.slice A l c) none (some (.int .i64 (k : Int))) none).run Try.prog w = .ok (.slice A k c) w := by
  rw [run_slice_h w 23 A l c Try.underlying23 .i64 k (by omega) (by omega), size_str]
  simp only [Result.andThen_ok, sliced, Int.toNat_natCast]
  by_cases h : c = 0
  · subst h; simp
  · have e : A.map (fun a => a.add 0) = A := by cases A <;> simp [Addr.add]
    simp [h, e]

theorem slv_front {w : World} {B : Nat} {A : Option Addr} {n c : Nat} {vs : List Value} (h : OwnV 9 w B (.slice A n c) vs) (k : Nat) (hk : k ≤ vs.length) : SlV w (.slice A k c) (vs.take k) := by
  obtain ⟨A', c', hv, h1, h2, h3, h4⟩ := h.slv
  injection hv with e1 e2 e3
  subst e1 e3
  have hl : (vs.take k).length = k := by rw [List.length_take]; omega
  refine ⟨A, c, by rw [hl], by rw [hl]; omega, h2, ⟨by simp, fun h0 => ?_⟩, fun hA => by rw [h4 hA]; simp⟩
  obtain ⟨ad, g1, g2, g3⟩ := h3.2 (by rw [hl] at h0; omega)
  refine ⟨ad, g1, g2, fun j u hu => g3 j u ?_⟩
  rw [List.getElem?_take] at hu
  split at hu
  · exact hu
  · cases hu
theorem npath_yes (p : List UInt8) (hp : pathB p = true) (w : World) : Calls Try.prog 9 #[.string (str p)] w (BoolPost w true) := by
  have := npath_any p w (by have := pathB_len hp; omega)
  rwa [hp] at this
theorem nunder_yes (d s : List UInt8) (hu : underB d s = true) (hs : s.length ≤ 1000000) (w : World) : Calls Try.prog 7 #[.string (str d), .string (str s)] w (BoolPost w true) := by
  have hd : d.length ≤ 1000000 := by
    have := pathB_len (parents_path ((under_iff d s).1 hu))
    omega
  have := nunder_any d s w hd hs
  rwa [hu] at this

/-- 'wpAnyH_take' with the op's target told as a number, so that the frame behind it is a plain one. -/
theorem take_at {P : Program} {md : Region.Mode} {ops : Array Oper} {Q : Exit → Act → World → Prop} {S : World → Prop} {i d : Nat} {oi : Oper} {v : Value} {fuel : Nat} {listed : Array Bool} {a : Act} {w : World} (hi : ops[i]? = some oi) (hd : oi.dst = some d)
    (hs : Region.noSelect ops = true) (hf : Region.free md ops listed i = true) (hr : (Region.ready md ops listed).contains i = true)
    (hQ : ∀ c a w, Q (.panic c) (a.put (some d) v) w → Q (.panic c) a w) (hy : YieldsIf P ops S oi v a) (hS : S w)
    (h : wpAnyH P md ops Q S fuel (listed.setIfInBounds i true) (a.put (some d) v) w) : wpAnyH P md ops Q S (fuel + 1) listed a w :=
  wpAnyH_take hi hs hf hr (by rw [hd]; exact hQ) hy hS (by rw [hd]; exact h)

set_option maxRecDepth 100000 in
set_option maxHeartbeats 12800000 in
theorem chain_in (xs ys : List UInt8) (w : World) : Calls Try.prog 3 #[.string (str xs), .string (str ys)] w (Yes w) := by
  have z1 := str_size xs
  have z2 := str_size ys
  obtain ⟨l1, hl1⟩ : ∃ l, xs.length = l := ⟨_, rfl⟩
  obtain ⟨l2, hl2⟩ : ∃ l, ys.length = l := ⟨_, rfl⟩
  rw [hl1] at z1
  rw [hl2] at z2
  have HL1 := Lib.hid hl1
  have HL2 := Lib.hid hl2
  clear hl1 hl2
  have hcase : (1000 : Int) < (l1 : Int) ∨ ((l1 : Int) ≤ 1000 ∧ (1000 : Int) < (l2 : Int)) ∨ ((l1 : Int) ≤ 1000 ∧ (l2 : Int) ≤ 1000) := by omega
  rcases hcase with g1 | ⟨g1, g2⟩ | ⟨g1, g2⟩
  · go_enter Try.func3, Try.ntmps3
    go_wp2_with fail
    refine (first_then (Below.refl _ _)).mono ?_
    rintro e w1 ⟨rfl, hb1⟩
    have HB1 := Lib.hid hb1
    clear hb1
    go_wp2_with fail
    refine (first_then HB1.out).mono ?_
    rintro e w2 ⟨rfl, hb2⟩
    have HB2 := Lib.hid hb2
    clear hb2
    go_wp2_with fail
    go_ret
    exact ⟨rfl, HB2.out⟩
  · go_enter Try.func3, Try.ntmps3
    go_wp2_with fail
    refine (first_then (Below.refl _ _)).mono ?_
    rintro e w1 ⟨rfl, hb1⟩
    have HB1 := Lib.hid hb1
    clear hb1
    go_wp2_with fail
    refine (first_then HB1.out).mono ?_
    rintro e w2 ⟨rfl, hb2⟩
    have HB2 := Lib.hid hb2
    clear hb2
    go_wp2_with fail
    go_ret
    exact ⟨rfl, HB2.out⟩
  · have HX1 : Hid (xs.length ≤ 1000000) := by unfold Hid; rw [HL1.out]; omega
    have HX2 : Hid (ys.length ≤ 1000000) := by unfold Hid; rw [HL2.out]; omega
    go_enter Try.func3, Try.ntmps3
    go_wp2_with fail
    refine (first_then (Below.refl _ _)).mono ?_
    rintro e w1 ⟨rfl, hb1⟩
    have HB1 := Lib.hid hb1
    clear hb1
    go_wp2_with fail
    refine (nparents_any xs _ HX1.out).mono ?_
    rintro e w3 ⟨v3, rfl, ho3, hb3⟩
    obtain ⟨Ap, cp, rfl, hpc, hpm⟩ := ho3.length
    obtain ⟨m, hM⟩ : ∃ m, (parentsL xs).length = m := ⟨_, rfl⟩
    rw [List.length_map, List.length_map, hM] at ho3 hpc ⊢
    have hm2 : m ≤ 1000 := by
      rw [← hM]
      unfold parentsL
      split
      · have h1 := parP_len xs xs.length
        have h2 := HL1.out
        omega
      · simp
    unfold maxLen at hpm
    have HM := Lib.hid hM
    have HO3 := Lib.hid (ho3.base HB1.out.size)
    have HB3 := Lib.hid (HB1.out.trans (hb3.mono HB1.out.size))
    clear ho3 hb3 HB1 hM
    go_wp2_with fail
    refine (nunder_any ys xs _ HX2.out HX1.out).mono ?_
    rintro e w4 ⟨rfl, hb4⟩
    have HO4 := Lib.hid (HO3.out.below hb4)
    have HB4 := Lib.hid (HB3.out.trans (hb4.mono HB3.out.size))
    clear hb4 HB3 HO3
    go_wp2_with fail
    refine (rhas_any (.slice Ap m cp) ((parentsL xs).map str) (str ys) _ HO4.out.slv).mono ?_
    rintro e w5 ⟨rfl, rfl⟩
    have hu : hasT ((parentsL xs).map str) (str ys) = underB ys xs := by
      rw [Bool.eq_iff_iff, hasT_iff, under_iff, List.mem_map]
      constructor
      · rintro ⟨p, h1, h2⟩; rw [← str_inj h2]; exact h1
      · intro h1; exact ⟨ys, h1, rfl⟩
    rw [hu]
    clear hu
    obtain ⟨tu, htu⟩ : ∃ t, underB ys xs = t := ⟨_, rfl⟩
    rw [htu]
    clear htu
    have ebb : (tu != tu) = false := by simp
    go_wp2_with fail
    refine (nunder_any xs xs _ HX1.out HX1.out).mono ?_
    rintro e w6 ⟨rfl, hb6⟩
    rw [under_self]
    have HO6 := Lib.hid (HO4.out.below hb6)
    have HB6 := Lib.hid (HB4.out.trans (hb6.mono HB4.out.size))
    clear hb6 HB4 HO4
    go_wp2_with fail
    clear ebb
    go_loopw [6] (fun i wr => ∃ k : Nat, k ≤ m ∧ i = .int .i64 k ∧ OwnV 9 wr w.heap.size (.slice Ap m cp) (((parentsL xs).map str).map sv) ∧ Below w.heap.size w wr) (fun i _ => m - (intOf i).toNat)
    case atStart => exact ⟨0, Nat.zero_le _, rfl, HO6.out, HB6.out⟩
    case round =>
      clear HO6 HB6
      obtain ⟨k, hk, rfl, ho, hb⟩ := hrel
      have HO := Lib.hid ho
      have HB := Lib.hid hb
      have hwz := hb.size
      clear ho hb
      have k0 : (0 : Int) ≤ (k : Int) := by omega
      by_cases hlt : k < m
      · have k1 : (k : Int) < (m : Int) := by omega
        have hkp : k < (parentsL xs).length := by rw [HM.out]; exact hlt
        obtain ⟨ad, rfl, hcell⟩ := piece_at HO.out k hkp
        have hpp := parents_path (List.getElem_mem hkp)
        have hpu := (under_iff _ xs).2 (List.getElem_mem hkp)
        have hof := parents_of hkp
        have hch : ∀ h0 : 0 < k, underB ((parentsL xs)[k - 1]'(by omega)) (parentsL xs)[k] = true := fun h0 => parents_chain h0 hkp
        have hfs := fun w => texts_front (some ad) m cp k (by omega) w
        have hfr := slv_front HO.out k (by rw [List.length_map, List.length_map]; omega)
        rw [← List.map_take, ← List.map_take, ← hof] at hfr
        have hadl : (ad.add k).block < wr.heap.size := World.block_lt_of_cell? wr _ hcell
        have hpz := pathB_len hpp
        rcases Nat.eq_zero_or_pos k with hk0 | hk0
        · subst hk0
          rw [show ad.add 0 = ad by unfold Addr.add; simp] at hcell hadl
          obtain ⟨p, hp⟩ : ∃ p, (parentsL xs)[0] = p := ⟨_, rfl⟩
          rw [hp] at hcell hpp hpu hpz hfr
          have HPP := Lib.hid hpp
          have HPU := Lib.hid hpu
          have HFR := Lib.hid hfr
          have hp6 : p.length ≤ 1000000 := by omega
          clear hp hpp hpu hof hch hfr
          go_wp2_with fail
          refine wp_region_held_drew (S := fun w' => w'.cell? ad = some (.string (str p))) (by kernel_rfl) ?_ (fun hHeld => ?_)
          · try dsimp only
            exact hcell
          refine take_at (i := 0) (d := 38) (v := ?_) rfl (by kernel_rfl) (by kernel_rfl) (by kernel_rfl) (by kernel_rfl) (fun _ _ _ h => h) (Or.inl ⟨by kernel_rfl, ?_⟩) (by assumption) ?_
          rotate_left
          · intro W hSw
            try dsimp only at hSw
            go_simp
            first | done | with_reducible rfl
          try simp only [Act.put, List.setIfInBounds_toArray, List.set_cons_zero, List.set_cons_succ]
          refine take_at (i := 1) (d := 39) (v := ?_) rfl (by kernel_rfl) (by kernel_rfl) (by kernel_rfl) (by kernel_rfl) (fun _ _ _ h => h) (Or.inl ⟨by kernel_rfl, ?_⟩) (by assumption) ?_
          rotate_left
          · intro W hSw
            try dsimp only at hSw
            go_simp
            first | done | with_reducible rfl
          try simp only [Act.put, List.setIfInBounds_toArray, List.set_cons_zero, List.set_cons_succ]
          refine take_at (i := 2) (d := 40) (v := ?_) rfl (by kernel_rfl) (by kernel_rfl) (by kernel_rfl) (by kernel_rfl) (fun _ _ _ h => h) (Or.inl ⟨by kernel_rfl, ?_⟩) (by assumption) ?_
          rotate_left
          · intro W hSw
            try dsimp only at hSw
            go_simp
            first | done | with_reducible rfl
          try simp only [Act.put, List.setIfInBounds_toArray, List.set_cons_zero, List.set_cons_succ]
          refine take_at (i := 3) (d := 41) (v := ?_) rfl (by kernel_rfl) (by kernel_rfl) (by kernel_rfl) (by kernel_rfl) (fun _ _ _ h => h) (Or.inl ⟨by kernel_rfl, ?_⟩) (by assumption) ?_
          rotate_left
          · intro W hSw
            try dsimp only at hSw
            go_simp
            first | done | with_reducible rfl
          try simp only [Act.put, List.setIfInBounds_toArray, List.set_cons_zero, List.set_cons_succ]
          refine wpAnyH_ready (rs := [4]) (by kernel_rfl) (by simp) (AllReadyH.cons rfl (fun K hK => ?_) AllReadyH.nil)
          go_simp
          go_at_call 9
          refine (npath_yes p HPP.out _).mono ?_
          rintro e wa ⟨rfl, hba⟩
          have NA : True := trivial
          have hba2 : Below wr.heap.size wr wa := ⟨hba.os, hba.tape, hba.output, hba.size, hba.block⟩
          have hca := (hba2.cell hadl).trans hcell
          have HBA := Lib.hid (HB.out.trans (hba2.mono hwz))
          have HOA := Lib.hid (HO.out.below hba2)
          have HFA := Lib.hid (HFR.out.below hba2)
          have hla := Nat.lt_of_lt_of_le hadl hba2.size
          clear hba hba2
          try go_wp2_with fail
          refine hK.out _ _ ?_ (fun hHeld => ?_)
          · try dsimp only
            exact hca
          clear hK K
          try simp only [Act.put, List.setIfInBounds_toArray, List.set_cons_zero, List.set_cons_succ]
          refine take_at (i := 5) (d := 43) (v := ?_) rfl (by kernel_rfl) (by kernel_rfl) (by kernel_rfl) (by kernel_rfl) (fun _ _ _ h => h) (Or.inl ⟨by kernel_rfl, ?_⟩) (by assumption) ?_
          rotate_left
          · intro W hSw
            try dsimp only at hSw
            go_simp
            first | done | with_reducible rfl
          try simp only [Act.put, List.setIfInBounds_toArray, List.set_cons_zero, List.set_cons_succ]
          refine take_at (i := 6) (d := 44) (v := ?_) rfl (by kernel_rfl) (by kernel_rfl) (by kernel_rfl) (by kernel_rfl) (fun _ _ _ h => h) (Or.inl ⟨by kernel_rfl, ?_⟩) (by assumption) ?_
          rotate_left
          · intro W hSw
            try dsimp only at hSw
            go_simp
            first | done | with_reducible rfl
          try simp only [Act.put, List.setIfInBounds_toArray, List.set_cons_zero, List.set_cons_succ]
          refine take_at (i := 7) (d := 45) (v := ?_) rfl (by kernel_rfl) (by kernel_rfl) (by kernel_rfl) (by kernel_rfl) (fun _ _ _ h => h) (Or.inl ⟨by kernel_rfl, ?_⟩) (by assumption) ?_
          rotate_left
          · intro W hSw
            try dsimp only at hSw
            go_simp
            first | done | with_reducible rfl
          try simp only [Act.put, List.setIfInBounds_toArray, List.set_cons_zero, List.set_cons_succ]
          refine take_at (i := 8) (d := 46) (v := ?_) rfl (by kernel_rfl) (by kernel_rfl) (by kernel_rfl) (by kernel_rfl) (fun _ _ _ h => h) (Or.inl ⟨by kernel_rfl, ?_⟩) (by assumption) ?_
          rotate_left
          · intro W hSw
            try dsimp only at hSw
            go_simp
            first | done | with_reducible rfl
          try simp only [Act.put, List.setIfInBounds_toArray, List.set_cons_zero, List.set_cons_succ]
          refine take_at (i := 9) (d := 47) (v := ?_) rfl (by kernel_rfl) (by kernel_rfl) (by kernel_rfl) (by kernel_rfl) (fun _ _ _ h => h) (Or.inl ⟨by kernel_rfl, ?_⟩) (by assumption) ?_
          rotate_left
          · intro W hSw
            try dsimp only at hSw
            go_simp
            first | done | with_reducible rfl
          try simp only [Act.put, List.setIfInBounds_toArray, List.set_cons_zero, List.set_cons_succ]
          refine take_at (i := 10) (d := 48) (v := ?_) rfl (by kernel_rfl) (by kernel_rfl) (by kernel_rfl) (by kernel_rfl) (fun _ _ _ h => h) (Or.inl ⟨by kernel_rfl, ?_⟩) (by assumption) ?_
          rotate_left
          · intro W hSw
            try dsimp only at hSw
            go_simp
            first | done | with_reducible rfl
          try simp only [Act.put, List.setIfInBounds_toArray, List.set_cons_zero, List.set_cons_succ]
          refine take_at (i := 11) (d := 49) (v := ?_) rfl (by kernel_rfl) (by kernel_rfl) (by kernel_rfl) (by kernel_rfl) (fun _ _ _ h => h) (Or.inl ⟨by kernel_rfl, ?_⟩) (by assumption) ?_
          rotate_left
          · intro W hSw
            try dsimp only at hSw
            go_simp
            first | done | with_reducible rfl
          try simp only [Act.put, List.setIfInBounds_toArray, List.set_cons_zero, List.set_cons_succ]
          refine wpAnyH_ready (rs := [12]) (by kernel_rfl) (by simp) (AllReadyH.cons rfl (fun K hK => ?_) AllReadyH.nil)
          go_simp
          go_at_call 7
          refine (nunder_yes p xs HPU.out HX1.out _).mono ?_
          rintro e wb ⟨rfl, hbb⟩
          have NB : True := trivial
          have hcb := (hbb.cell hla).trans hca
          have HBB := Lib.hid (HBA.out.trans (hbb.mono HBA.out.size))
          have HOB := Lib.hid (HOA.out.below hbb)
          have HFB := Lib.hid (HFA.out.below hbb)
          have hlb := Nat.lt_of_lt_of_le hla hbb.size
          clear hbb
          try go_wp2_with fail
          refine hK.out _ _ ?_ (fun hHeld => ?_)
          · try dsimp only
            exact hcb
          clear hK K
          try simp only [Act.put, List.setIfInBounds_toArray, List.set_cons_zero, List.set_cons_succ]
          refine take_at (i := 13) (d := 51) (v := ?_) rfl (by kernel_rfl) (by kernel_rfl) (by kernel_rfl) (by kernel_rfl) (fun _ _ _ h => h) (Or.inl ⟨by kernel_rfl, ?_⟩) (by assumption) ?_
          rotate_left
          · intro W hSw
            try dsimp only at hSw
            go_simp
            first | done | with_reducible rfl
          try simp only [Act.put, List.setIfInBounds_toArray, List.set_cons_zero, List.set_cons_succ]
          refine take_at (i := 14) (d := 52) (v := ?_) rfl (by kernel_rfl) (by kernel_rfl) (by kernel_rfl) (by kernel_rfl) (fun _ _ _ h => h) (Or.inl ⟨by kernel_rfl, ?_⟩) (by assumption) ?_
          rotate_left
          · intro W hSw
            try dsimp only at hSw
            go_simp
            first | done | with_reducible rfl
          try simp only [Act.put, List.setIfInBounds_toArray, List.set_cons_zero, List.set_cons_succ]
          refine take_at (i := 15) (d := 53) (v := ?_) rfl (by kernel_rfl) (by kernel_rfl) (by kernel_rfl) (by kernel_rfl) (fun _ _ _ h => h) (Or.inl ⟨by kernel_rfl, ?_⟩) (by assumption) ?_
          rotate_left
          · intro W hSw
            try dsimp only at hSw
            go_simp
            first | done | with_reducible rfl
          try simp only [Act.put, List.setIfInBounds_toArray, List.set_cons_zero, List.set_cons_succ]
          refine take_at (i := 16) (d := 54) (v := ?_) rfl (by kernel_rfl) (by kernel_rfl) (by kernel_rfl) (by kernel_rfl) (fun _ _ _ h => h) (Or.inl ⟨by kernel_rfl, ?_⟩) (by assumption) ?_
          rotate_left
          · intro W hSw
            try dsimp only at hSw
            go_simp
            first | done | with_reducible rfl
          try simp only [Act.put, List.setIfInBounds_toArray, List.set_cons_zero, List.set_cons_succ]
          refine take_at (i := 17) (d := 55) (v := ?_) rfl (by kernel_rfl) (by kernel_rfl) (by kernel_rfl) (by kernel_rfl) (fun _ _ _ h => h) (Or.inl ⟨by kernel_rfl, ?_⟩) (by assumption) ?_
          rotate_left
          · intro W hSw
            try dsimp only at hSw
            go_simp
            first | done | with_reducible rfl
          try simp only [Act.put, List.setIfInBounds_toArray, List.set_cons_zero, List.set_cons_succ]
          refine take_at (i := 18) (d := 56) (v := ?_) rfl (by kernel_rfl) (by kernel_rfl) (by kernel_rfl) (by kernel_rfl) (fun _ _ _ h => h) (Or.inl ⟨by kernel_rfl, ?_⟩) (by assumption) ?_
          rotate_left
          · intro W hSw
            try dsimp only at hSw
            go_simp
            first | done | with_reducible rfl
          try simp only [Act.put, List.setIfInBounds_toArray, List.set_cons_zero, List.set_cons_succ]
          refine take_at (i := 19) (d := 57) (v := undef) rfl (by kernel_rfl) (by kernel_rfl) (by kernel_rfl) (by kernel_rfl) (fun _ _ _ h => h) (Or.inr ⟨by kernel_rfl, rfl⟩) (by assumption) ?_
          try simp only [Act.put, List.setIfInBounds_toArray, List.set_cons_zero, List.set_cons_succ]
          refine take_at (i := 20) (d := 58) (v := undef) rfl (by kernel_rfl) (by kernel_rfl) (by kernel_rfl) (by kernel_rfl) (fun _ _ _ h => h) (Or.inr ⟨by kernel_rfl, rfl⟩) (by assumption) ?_
          try simp only [Act.put, List.setIfInBounds_toArray, List.set_cons_zero, List.set_cons_succ]
          refine take_at (i := 21) (d := 59) (v := undef) rfl (by kernel_rfl) (by kernel_rfl) (by kernel_rfl) (by kernel_rfl) (fun _ _ _ h => h) (Or.inr ⟨by kernel_rfl, rfl⟩) (by assumption) ?_
          try simp only [Act.put, List.setIfInBounds_toArray, List.set_cons_zero, List.set_cons_succ]
          refine take_at (i := 22) (d := 60) (v := undef) rfl (by kernel_rfl) (by kernel_rfl) (by kernel_rfl) (by kernel_rfl) (fun _ _ _ h => h) (Or.inr ⟨by kernel_rfl, rfl⟩) (by assumption) ?_
          try simp only [Act.put, List.setIfInBounds_toArray, List.set_cons_zero, List.set_cons_succ]
          refine take_at (i := 23) (d := 61) (v := undef) rfl (by kernel_rfl) (by kernel_rfl) (by kernel_rfl) (by kernel_rfl) (fun _ _ _ h => h) (Or.inr ⟨by kernel_rfl, rfl⟩) (by assumption) ?_
          try simp only [Act.put, List.setIfInBounds_toArray, List.set_cons_zero, List.set_cons_succ]
          refine take_at (i := 24) (d := 62) (v := undef) rfl (by kernel_rfl) (by kernel_rfl) (by kernel_rfl) (by kernel_rfl) (fun _ _ _ h => h) (Or.inr ⟨by kernel_rfl, rfl⟩) (by assumption) ?_
          try simp only [Act.put, List.setIfInBounds_toArray, List.set_cons_zero, List.set_cons_succ]
          refine take_at (i := 25) (d := 63) (v := undef) rfl (by kernel_rfl) (by kernel_rfl) (by kernel_rfl) (by kernel_rfl) (fun _ _ _ h => h) (Or.inr ⟨by kernel_rfl, rfl⟩) (by assumption) ?_
          try simp only [Act.put, List.setIfInBounds_toArray, List.set_cons_zero, List.set_cons_succ]
          refine take_at (i := 26) (d := 64) (v := undef) rfl (by kernel_rfl) (by kernel_rfl) (by kernel_rfl) (by kernel_rfl) (fun _ _ _ h => h) (Or.inr ⟨by kernel_rfl, rfl⟩) (by assumption) ?_
          try simp only [Act.put, List.setIfInBounds_toArray, List.set_cons_zero, List.set_cons_succ]
          refine take_at (i := 27) (d := 65) (v := undef) rfl (by kernel_rfl) (by kernel_rfl) (by kernel_rfl) (by kernel_rfl) (fun _ _ _ h => h) (Or.inr ⟨by kernel_rfl, rfl⟩) (by assumption) ?_
          try simp only [Act.put, List.setIfInBounds_toArray, List.set_cons_zero, List.set_cons_succ]
          refine take_at (i := 28) (d := 66) (v := undef) rfl (by kernel_rfl) (by kernel_rfl) (by kernel_rfl) (by kernel_rfl) (fun _ _ _ h => h) (Or.inr ⟨by kernel_rfl, rfl⟩) (by assumption) ?_
          try simp only [Act.put, List.setIfInBounds_toArray, List.set_cons_zero, List.set_cons_succ]
          refine take_at (i := 29) (d := 67) (v := undef) rfl (by kernel_rfl) (by kernel_rfl) (by kernel_rfl) (by kernel_rfl) (fun _ _ _ h => h) (Or.inr ⟨by kernel_rfl, rfl⟩) (by assumption) ?_
          try simp only [Act.put, List.setIfInBounds_toArray, List.set_cons_zero, List.set_cons_succ]
          refine take_at (i := 30) (d := 68) (v := ?_) rfl (by kernel_rfl) (by kernel_rfl) (by kernel_rfl) (by kernel_rfl) (fun _ _ _ h => h) (Or.inl ⟨by kernel_rfl, ?_⟩) (by assumption) ?_
          rotate_left
          · intro W hSw
            try dsimp only at hSw
            go_simp
            first | done | with_reducible rfl
          try simp only [Act.put, List.setIfInBounds_toArray, List.set_cons_zero, List.set_cons_succ]
          refine take_at (i := 31) (d := 69) (v := ?_) rfl (by kernel_rfl) (by kernel_rfl) (by kernel_rfl) (by kernel_rfl) (fun _ _ _ h => h) (Or.inl ⟨by kernel_rfl, ?_⟩) (by assumption) ?_
          rotate_left
          · intro W hSw
            try dsimp only at hSw
            go_simp
            first | done | with_reducible rfl
          try simp only [Act.put, List.setIfInBounds_toArray, List.set_cons_zero, List.set_cons_succ]
          refine take_at (i := 32) (d := 70) (v := ?_) rfl (by kernel_rfl) (by kernel_rfl) (by kernel_rfl) (by kernel_rfl) (fun _ _ _ h => h) (Or.inl ⟨by kernel_rfl, ?_⟩) (by assumption) ?_
          rotate_left
          · intro W hSw
            try dsimp only at hSw
            go_simp
            first | done | with_reducible rfl
          try simp only [Act.put, List.setIfInBounds_toArray, List.set_cons_zero, List.set_cons_succ]
          refine take_at (i := 33) (d := 71) (v := ?_) rfl (by kernel_rfl) (by kernel_rfl) (by kernel_rfl) (by kernel_rfl) (fun _ _ _ h => h) (Or.inl ⟨by kernel_rfl, ?_⟩) (by assumption) ?_
          rotate_left
          · intro W hSw
            try dsimp only at hSw
            go_simp
            first | done | with_reducible rfl
          try simp only [Act.put, List.setIfInBounds_toArray, List.set_cons_zero, List.set_cons_succ]
          refine take_at (i := 34) (d := 72) (v := ?_) rfl (by kernel_rfl) (by kernel_rfl) (by kernel_rfl) (by kernel_rfl) (fun _ _ _ h => h) (Or.inl ⟨by kernel_rfl, ?_⟩) (by assumption) ?_
          rotate_left
          · intro W hSw
            try dsimp only at hSw
            go_simp
            first | done | with_reducible rfl
          try simp only [Act.put, List.setIfInBounds_toArray, List.set_cons_zero, List.set_cons_succ]
          refine take_at (i := 35) (d := 73) (v := ?_) rfl (by kernel_rfl) (by kernel_rfl) (by kernel_rfl) (by kernel_rfl) (fun _ _ _ h => h) (Or.inl ⟨by kernel_rfl, ?_⟩) (by assumption) ?_
          rotate_left
          · intro W hSw
            try dsimp only at hSw
            go_simp
            first | done | with_reducible rfl
          try simp only [Act.put, List.setIfInBounds_toArray, List.set_cons_zero, List.set_cons_succ]
          refine take_at (i := 36) (d := 74) (v := ?_) rfl (by kernel_rfl) (by kernel_rfl) (by kernel_rfl) (by kernel_rfl) (fun _ _ _ h => h) (Or.inl ⟨by kernel_rfl, ?_⟩) (by assumption) ?_
          rotate_left
          · intro W hSw
            try dsimp only at hSw
            go_simp
            first | done | with_reducible rfl
          try simp only [Act.put, List.setIfInBounds_toArray, List.set_cons_zero, List.set_cons_succ]
          refine take_at (i := 38) (d := 76) (v := ?_) rfl (by kernel_rfl) (by kernel_rfl) (by kernel_rfl) (by kernel_rfl) (fun _ _ _ h => h) (Or.inl ⟨by kernel_rfl, ?_⟩) (by assumption) ?_
          rotate_left
          · intro W hSw
            try dsimp only at hSw
            go_simp
            first | done | with_reducible rfl
          try simp only [Act.put, List.setIfInBounds_toArray, List.set_cons_zero, List.set_cons_succ]
          refine take_at (i := 39) (d := 77) (v := ?_) rfl (by kernel_rfl) (by kernel_rfl) (by kernel_rfl) (by kernel_rfl) (fun _ _ _ h => h) (Or.inl ⟨by kernel_rfl, ?_⟩) (by assumption) ?_
          rotate_left
          · intro W hSw
            try dsimp only at hSw
            go_simp
            first | done | with_reducible rfl
          try simp only [Act.put, List.setIfInBounds_toArray, List.set_cons_zero, List.set_cons_succ]
          refine take_at (i := 40) (d := 78) (v := ?_) rfl (by kernel_rfl) (by kernel_rfl) (by kernel_rfl) (by kernel_rfl) (fun _ _ _ h => h) (Or.inl ⟨by kernel_rfl, ?_⟩) (by assumption) ?_
          rotate_left
          · intro W hSw
            try dsimp only at hSw
            go_simp
            first | done | with_reducible rfl
          try simp only [Act.put, List.setIfInBounds_toArray, List.set_cons_zero, List.set_cons_succ]
          refine wpAnyH_ready (rs := [37]) (by kernel_rfl) (by simp) (AllReadyH.cons rfl (fun K hK => ?_) AllReadyH.nil)
          go_simp
          go_at_call 6
          refine (nparents_any p _ hp6).mono ?_
          rintro e wc ⟨vc, rfl, hvc, hbc⟩
          have NC : True := trivial
          have hcc := (hbc.cell hlb).trans hcb
          have HBC := Lib.hid (HBB.out.trans (hbc.mono HBB.out.size))
          have HOC := Lib.hid (HOB.out.below hbc)
          have HV := Lib.hid hvc
          have HFD := Lib.hid (HFB.out.below hbc)
          have hlc := Nat.lt_of_lt_of_le hlb hbc.size
          clear hbc hvc
          try go_wp2_with fail
          refine hK.out _ _ ?_ (fun hHeld => ?_)
          · try dsimp only
            exact hcc
          clear hK K
          try simp only [Act.put, List.setIfInBounds_toArray, List.set_cons_zero, List.set_cons_succ]
          refine wpAnyH_ready (rs := [41]) (by kernel_rfl) (by simp) (AllReadyH.cons rfl (fun K hK => ?_) AllReadyH.nil)
          go_simp
          go_at_call 10
          refine (texts_same _ _ _ _ HV.out.slv HFD.out).mono ?_
          rintro e wd ⟨rfl, hbd⟩
          have hcd := (hbd.cell hlc).trans hcc
          have HBD := Lib.hid (HBC.out.trans (hbd.mono HBC.out.size))
          have HOD := Lib.hid (HOC.out.below hbd)
          clear hbd
          try go_wp2_with fail
          refine hK.out _ _ ?_ (fun hHeld => ?_)
          · try dsimp only
            exact hcd
          clear hK K
          try simp only [Act.put, List.setIfInBounds_toArray, List.set_cons_zero, List.set_cons_succ]
          refine take_at (i := 42) (d := 80) (v := ?_) rfl (by kernel_rfl) (by kernel_rfl) (by kernel_rfl) (by kernel_rfl) (fun _ _ _ h => h) (Or.inl ⟨by kernel_rfl, ?_⟩) (by assumption) ?_
          rotate_left
          · intro W hSw
            try dsimp only at hSw
            go_simp
            first | done | with_reducible rfl
          try simp only [Act.put, List.setIfInBounds_toArray, List.set_cons_zero, List.set_cons_succ]
          refine take_at (i := 43) (d := 81) (v := ?_) rfl (by kernel_rfl) (by kernel_rfl) (by kernel_rfl) (by kernel_rfl) (fun _ _ _ h => h) (Or.inl ⟨by kernel_rfl, ?_⟩) (by assumption) ?_
          rotate_left
          · intro W hSw
            try dsimp only at hSw
            go_simp
            first | done | with_reducible rfl
          try simp only [Act.put, List.setIfInBounds_toArray, List.set_cons_zero, List.set_cons_succ]
          refine wpAnyH_done (by kernel_rfl) ?_ _
          go_wp2_with fail
          go_roundw
          case rel => exact ⟨0 + 1, by omega, by go_num, HOD.out, HBD.out⟩
          case measure => simp [intOf]; omega
        · have hjp : k - 1 < (parentsL xs).length := by omega
          obtain ⟨ad2, e2, hcellq⟩ := piece_at HO.out (k - 1) hjp
          obtain rfl : ad = ad2 := by injection e2
          have hch1 := hch hk0
          have hqz := pathB_len (parents_path (List.getElem_mem hjp))
          obtain ⟨p, hp⟩ : ∃ p, (parentsL xs)[k] = p := ⟨_, rfl⟩
          obtain ⟨q, hq⟩ : ∃ q, (parentsL xs)[k - 1] = q := ⟨_, rfl⟩
          rw [hp] at hcell hpp hpu hpz hfr hch1
          rw [hq] at hcellq hch1 hqz
          obtain ⟨j, hj⟩ : ∃ j, k - 1 = j := ⟨_, rfl⟩
          rw [hj] at hcellq
          have hjk : (k : Int) - 1 = (j : Int) := by omega
          have j0 : (0 : Int) ≤ (j : Int) := by omega
          have j1 : (j : Int) < (m : Int) := by omega
          have jw : IntKind.i64.wrap ((k : Int) - 1) = (j : Int) := by rw [hjk]; exact IntWalk.i64_in _ (by omega)
          have hki : (0 : Int) < (k : Int) := by omega
          have hadq : (ad.add j).block < wr.heap.size := World.block_lt_of_cell? wr _ hcellq
          have HPP := Lib.hid hpp
          have HPU := Lib.hid hpu
          have HFR := Lib.hid hfr
          have HCH := Lib.hid hch1
          have hp6 : p.length ≤ 1000000 := by omega
          have hcc2 : wr.cell? (ad.add j) = some (.string (str q)) ∧ wr.cell? (ad.add k) = some (.string (str p)) := ⟨hcellq, hcell⟩
          have HJ := Lib.hid hj
          have HJK := Lib.hid hjk
          clear hp hq hpp hpu hof hch hfr hch1 e2 hjp hj hjk hqz
          go_wp2_with fail
          go_region_held3 (fun w' => w'.cell? (ad.add j) = some (.string (str q)) ∧ w'.cell? (ad.add k) = some (.string (str p)))
            (first | exact hcd | exact hcc | exact hcu | exact hcb | exact hca | exact hcc2)
            (first
              | (have _ := NC; go_at_call 10; refine (texts_same _ _ _ _ HV.out.slv HFD.out).mono ?_; rintro e wd ⟨rfl, hbd⟩; have hcd := And.intro ((hbd.cell hlc1).trans hcc.1) ((hbd.cell hlc2).trans hcc.2); have HBD := Lib.hid (HBC.out.trans (hbd.mono HBC.out.size)); have HOD := Lib.hid (HOC.out.below hbd); clear hbd)
              | (have _ := NU; go_at_call 6; refine (nparents_any p _ hp6).mono ?_; rintro e wc ⟨vc, rfl, hvc, hbc⟩; have NC : True := trivial; have hcc := And.intro ((hbc.cell hlu1).trans hcu.1) ((hbc.cell hlu2).trans hcu.2); have HBC := Lib.hid (HBU.out.trans (hbc.mono HBU.out.size)); have HOC := Lib.hid (HOU.out.below hbc); have HV := Lib.hid hvc; have HFD := Lib.hid (HFU.out.below hbc); have hlc1 := Nat.lt_of_lt_of_le hlu1 hbc.size; have hlc2 := Nat.lt_of_lt_of_le hlu2 hbc.size; clear hbc hvc)
              | (have _ := NB; go_at_call 7; refine (nunder_yes q p HCH.out hp6 _).mono ?_; rintro e wu ⟨rfl, hbu⟩; have NU : True := trivial; have hcu := And.intro ((hbu.cell hlb1).trans hcb.1) ((hbu.cell hlb2).trans hcb.2); have HBU := Lib.hid (HBB.out.trans (hbu.mono HBB.out.size)); have HOU := Lib.hid (HOB.out.below hbu); have HFU := Lib.hid (HFB.out.below hbu); have hlu1 := Nat.lt_of_lt_of_le hlb1 hbu.size; have hlu2 := Nat.lt_of_lt_of_le hlb2 hbu.size; clear hbu)
              | (have _ := NA; go_at_call 7; refine (nunder_yes p xs HPU.out HX1.out _).mono ?_; rintro e wb ⟨rfl, hbb⟩; have NB : True := trivial; have hcb := And.intro ((hbb.cell hla1).trans hca.1) ((hbb.cell hla2).trans hca.2); have HBB := Lib.hid (HBA.out.trans (hbb.mono HBA.out.size)); have HOB := Lib.hid (HOA.out.below hbb); have HFB := Lib.hid (HFA.out.below hbb); have hlb1 := Nat.lt_of_lt_of_le hla1 hbb.size; have hlb2 := Nat.lt_of_lt_of_le hla2 hbb.size; clear hbb)
              | (go_at_call 9; refine (npath_yes p HPP.out _).mono ?_; rintro e wa ⟨rfl, hba⟩; have NA : True := trivial; have hba2 : Below wr.heap.size wr wa := ⟨hba.os, hba.tape, hba.output, hba.size, hba.block⟩; have hca := And.intro ((hba2.cell hadq).trans hcc2.1) ((hba2.cell hadl).trans hcc2.2); have HBA := Lib.hid (HB.out.trans (hba2.mono hwz)); have HOA := Lib.hid (HO.out.below hba2); have HFA := Lib.hid (HFR.out.below hba2); have hla1 := Nat.lt_of_lt_of_le hadq hba2.size; have hla2 := Nat.lt_of_lt_of_le hadl hba2.size; clear hba hba2))
          go_wp2_with fail
          go_roundw
          case rel => exact ⟨k + 1, by omega, by go_num, HOD.out, HBD.out⟩
          case measure => simp [intOf]; omega
      · obtain rfl : k = m := by omega
        go_wp2_with fail
        refine (first_any _).mono ?_
        rintro e7 w7 ⟨rfl, hb7⟩
        have HB7 := Lib.hid (HB.out.trans (hb7.mono HB.out.size))
        clear hb7
        go_wp2_with fail
        refine (npath_any xs _ HX1.out).mono ?_
        rintro e8 w8 ⟨rfl, hb8⟩
        have HB8 := Lib.hid (HB7.out.trans (hb8.mono HB7.out.size))
        obtain ⟨tp, htp⟩ : ∃ tp, pathB xs = tp := ⟨_, rfl⟩
        rw [htp]
        have HTP := Lib.hid htp
        clear hb8 htp HB7
        cases tp with
        | false =>
          go_wp2_with fail
          go_ret
          exact ⟨rfl, HB8.out⟩
        | true =>
          have hln := parents_len HTP.out
          rw [HM.out] at hln
          have HLN := Lib.hid hln
          clear hln
          go_wp2_with fail
          refine (nsplit_any xs _ HX1.out).mono ?_
          rintro e9 w9 ⟨v9, rfl, ho9, hb9⟩
          obtain ⟨A9, c9, rfl, _, _⟩ := ho9.length
          rw [List.length_map, List.length_map, ← HLN.out]
          have HB9 := Lib.hid (HB8.out.trans (hb9.mono HB8.out.size))
          have e1 : ((k : Int) == ((k + 1 : Nat) : Int) - 1) = true := by simp
          clear ho9 hb9 HB8
          go_wp2_with fail
          go_ret
          exact ⟨rfl, HB9.out⟩
theorem namesChain_walk (s t : ByteArray) (w : World) (_ : s.size ≤ maxLen) (_ : t.size ≤ maxLen) : Calls Try.prog 3 #[.string s, .string t] w (Yes w) := by
  obtain ⟨xs, rfl, _⟩ := str_of s
  obtain ⟨ys, rfl, _⟩ := str_of t
  exact chain_in xs ys w
end Go.Proofs.Ytcmlofgkcalhnaa.Tx
