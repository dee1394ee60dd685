/- Texts put together: Rf6, Rx0, Oo0, Re0. -/
import Derived.Test.YtalnfiegkkkkgaaGreatQr36
import Derived.Test.YtalnfiegkkkkgaaGreatQr37
import Derived.Test.YtalnfiegkkkkgaaGreatQr38
/- marlaw8.first. -/
set_option linter.unusedVariables false
set_option linter.unusedSimpArgs false
namespace Go.Proofs.YtalnfiegkkkkgaaGreat.Tx
open Go.RowKit Go.Maps Go.Proofs.YtalnfiegkkkkgaaGreat.Sh

theorem id_valid (bs : List UInt8) : validB (hexL (sumOf bs)) = true := by
  unfold validB
  rw [hexOk_hexL, hexL_length, sumOf_length]
  rfl
theorem sl_of {w : World} {v : Value} {bs : List UInt8} (h : SlV w v (bs.map bv)) : Sl w v bs := by
  obtain ⟨A, c, hv, h1, h2, h3⟩ := h.len
  rw [List.length_map] at hv h1 h3
  refine ⟨A, c, hv, h1, h2, fun h0 => ?_, fun hA => ?_⟩
  · obtain ⟨ad, hA, hc⟩ := reads_at h3 0 (bv (bs.getD 0 0)) (by rw [List.getElem?_map, List.getElem?_eq_getElem h0, List.getD_eq_getElem?_getD, List.getElem?_eq_getElem h0]; rfl)
    refine ⟨ad, hA, ?_, fun j hj => ?_⟩
    · have := World.block_lt_of_cell? w _ hc
      rw [addr_block] at this
      exact this
    · obtain ⟨ad', hA', hc'⟩ := reads_at h3 j (bv (bs.getD j 0)) (by rw [List.getElem?_map, List.getElem?_eq_getElem hj, List.getD_eq_getElem?_getD, List.getElem?_eq_getElem hj]; rfl)
      rw [hA] at hA'
      injection hA' with hA'
      subst hA'
      rw [hc']
      unfold bv
      rw [Tx.bi_nat]
      unfold Sh.bi
      rfl
  · subst hA
    by_cases h0 : 0 < bs.length
    · obtain ⟨ad, hA, _⟩ := reads_at h3 0 (bv (bs.getD 0 0)) (by rw [List.getElem?_map, List.getElem?_eq_getElem h0, List.getD_eq_getElem?_getD, List.getElem?_eq_getElem h0]; rfl)
      cases hA
    · exact List.eq_nil_of_length_eq_zero (by omega)
section
variable {w w1 : World} {b : Nat} {c : CSt} {i : Nat}
theorem set_mine (n old new : List UInt8) (h : Mine w w1 b c) (hg : GoC c i) (hi : i ≤ 3800) (hn : n.length ≤ 900000) (hol : old.length ≤ 900000) (hnl : new.length ≤ 900000) :
    Calls Tryz.prog 43 #[.pointer (some ⟨b, 0, none⟩), .string (Tx.str n), .string (Tx.str old), .string (Tx.str new)] w1 fun e w' => e = .returned (.int .i64 (setE c n old new)) ∧ Mine w w' b (setC c n old new) := by
  obtain ⟨F, M, h1, h2, h3⟩ := h
  exact (set_any F M b c i n old new w1 h1 hg hi hn hol hnl).mono fun e w' h => ⟨h.1, Mine.of h2 h3 h.2⟩
theorem del_mine (n old : List UInt8) (h : Mine w w1 b c) (hg : GoC c i) (hi : i ≤ 3800) (hn : n.length ≤ 900000) (hol : old.length ≤ 900000) :
    Calls Tryz.prog 45 #[.pointer (some ⟨b, 0, none⟩), .string (Tx.str n), .string (Tx.str old)] w1 fun e w' => e = .returned (.int .i64 (delE c n old)) ∧ Mine w w' b (delC c n old) := by
  obtain ⟨F, M, h1, h2, h3⟩ := h
  exact (del_any F M b c i n old w1 h1 hg (by omega) hn hol).mono fun e w' h => ⟨h.1, Mine.of h2 h3 h.2⟩
theorem get_mine (n : List UInt8) (h : Mine w w1 b c) (hg : GoC c i) (hi : i ≤ 3800) (hn : n.length ≤ 900000) :
    Calls Tryz.prog 41 #[.pointer (some ⟨b, 0, none⟩), .string (Tx.str n)] w1 fun e w' => e = .returned (.tuple #[.string (Tx.str (getV c n)), .int .i64 (getE c n)]) ∧ Mine w w' b (getC c n) := by
  obtain ⟨F, M, h1, h2, h3⟩ := h
  exact (get_any F M b c _ n w1 h1 (hg.ready (by omega)) hn).mono fun e w' h => ⟨h.1, Mine.of h2 h3 h.2⟩
theorem list_mine (h : Mine w w1 b c) (hg : GoC c i) (hi : i ≤ 3800) :
    Calls Tryz.prog 47 #[.pointer (some ⟨b, 0, none⟩)] w1 fun e w' => ∃ A cap, e = .returned (.tuple #[.slice A (rlsV c refD).length cap, .int .i64 (lisE c refD)]) ∧ Mine w w' b (bgC c).c := by
  obtain ⟨F, M, h1, h2, h3⟩ := h
  refine (rlist_any' F M b c i w1 h1 hg (by omega)).mono ?_
  rintro e w' ⟨v, w2, rfl, hp, hb, ho⟩
  obtain ⟨A, cap, rfl, _, _⟩ := ho.length
  rw [List.length_map, List.length_map]
  exact ⟨A, cap, rfl, (Mine.of h2 h3 hp).below hb⟩
theorem unlock_mine (h : Mine w w1 b c) (hg : GoC c i) (hi : i + (rlsV c lockD).length ≤ 3800) (hlen : ∀ n ∈ rlsV c lockD, n.length ≤ 900000) :
    Calls Tryz.prog 50 #[.pointer (some ⟨b, 0, none⟩)] w1 fun e w' => e = .returned (.tuple #[.int .i64 (ulkN c), .int .i64 (ulkE c)]) ∧ Mine w w' b (ulkC c) := by
  obtain ⟨F, M, h1, h2, h3⟩ := h
  exact (unlock_any F M b c i w1 h1 hg hi hlen).mono fun e w' h => ⟨h.1, Mine.of h2 h3 h.2⟩
theorem idc_any (v : Value) (bs : List UInt8) (w : World) (h : SlV w v (bs.map bv)) (hn : bs.length ≤ 1000000) : Calls Tryz.prog 32 #[v] w fun e w' => e = .returned (.string (Tx.str (hexL (sumOf bs)))) ∧ Below w.heap.size w w' :=
  id_any v bs w (sl_of h) (by omega)
end
/-- A file system of one's own, and a block beside it that it leaves alone. -/
def MineK (w w1 : World) (b : Nat) (c : CSt) (g : Nat) (T : TypeId) (cs : Array Value) : Prop := ∃ F M, FcAt F w1 b c M ∧ (∀ k, M k → w.heap.size ≤ k) ∧ Below w.heap.size w w1 ∧ ¬ M g ∧ Blk w1 g T cs
section
variable {w w1 w2 : World} {b g : Nat} {c c' : CSt} {T : TypeId} {cs : Array Value} {i : Nat}
theorem MineK.mine (h : MineK w w1 b c g T cs) : Mine w w1 b c := by
  obtain ⟨F, M, h1, h2, h3, _⟩ := h
  exact ⟨F, M, h1, h2, h3⟩
theorem MineK.blk (h : MineK w w1 b c g T cs) : Blk w1 g T cs := by
  obtain ⟨F, M, _, _, _, _, h5⟩ := h
  exact h5
theorem MineK.start (h : Mine w w1 b c) (T : TypeId) (cs : Array Value) : MineK w (w1.alloc (.cells cs T)) b c w1.heap.size T cs := by
  obtain ⟨F, M, h1, h2, h3⟩ := h
  refine ⟨F, M, h1.below ((Below.refl _ w1).alloc (Nat.le_refl _) _), h2, h3.alloc h3.size _, fun hm => ?_, Blk.new _ _ _⟩
  have := h1.lt _ hm
  omega
theorem MineK.of {F M : Nat → Prop} (hM : ∀ k, M k → w.heap.size ≤ k) (hb : Below w.heap.size w w1) (hg : ¬ M g) (hk : Blk w1 g T cs) (h : FcPost F M w1 b c' w2) : MineK w w2 b c' g T cs := by
  obtain ⟨M', h1, h2, h3⟩ := h
  have hz := hb.size
  have hlt := hk.lt
  refine ⟨_, M', h1, fun k hk => ?_, ((Only.of_below (M := fun _ => False) hb).trans h2 (fun k hk => .inr (hM k hk))).below, fun hm => ?_, h2.blk hk hg⟩
  · rcases h3 k hk with h4 | h4
    · exact hM k h4
    · omega
  · rcases h3 g hm with h4 | h4
    · exact hg h4
    · omega
theorem set_k (n old new : List UInt8) (h : MineK w w1 b c g T cs) (hg : GoC c i) (hi : i ≤ 3800) (hn : n.length ≤ 900000) (hol : old.length ≤ 900000) (hnl : new.length ≤ 900000) :
    Calls Tryz.prog 43 #[.pointer (some ⟨b, 0, none⟩), .string (Tx.str n), .string (Tx.str old), .string (Tx.str new)] w1 fun e w' => e = .returned (.int .i64 (setE c n old new)) ∧ MineK w w' b (setC c n old new) g T cs := by
  obtain ⟨F, M, h1, h2, h3, h4, h5⟩ := h
  exact (set_any F M b c i n old new w1 h1 hg hi hn hol hnl).mono fun e w' h => ⟨h.1, MineK.of h2 h3 h4 h5 h.2⟩
end
/-- What the examples fix, as plain data. -/
theorem first_plain (a b : List UInt8) (ha : validB a = true) (hb : validB b = true) :
    setE (newC 1000) hdN [] a = 0 ∧ setE (setC (newC 1000) hdN [] a) hdN [] b = 13 ∧ getE (setC (setC (newC 1000) hdN [] a) hdN [] b) hdN = 0 ∧ getV (setC (setC (newC 1000) hdN [] a) hdN [] b) hdN = a := by
  have c0 : Calm (newC 1000) := ⟨rfl, rfl⟩
  have o0 : Ord (newC 1000).here := List.Pairwise.nil
  obtain ⟨h1, h2, _⟩ := c0.set_ok o0 (n := hdN) (old := []) (new := a) (by decide) ha rfl rfl (by show ((0 : Nat) : Int) + 65 ≤ 1000; omega) rfl (.inl ⟨rfl, rfl⟩)
  obtain ⟨c1, hc1⟩ : ∃ x, setC (newC 1000) hdN [] a = x := ⟨_, rfl⟩
  obtain ⟨f, hf⟩ : ∃ f : FileM, (⟨1, a ++ [10], (newC 1000).time + 1⟩ : FileM) = f := ⟨_, rfl⟩
  have hfd : f.data = a ++ [10] := by rw [← hf]
  rw [hc1, hf] at h2
  rw [hc1]
  have hw : c1.here = [⟨refP hdN, f⟩] := by rw [h2.here]; rfl
  have o1 : Ord c1.here := by rw [hw]; exact List.pairwise_singleton _ _
  have p1 : peekB c1.here (refP hdN) = true := by rw [h2.here, peek_with]; simp
  have p2 : peekF c1.here (refP hdN) = f := by rw [h2.here, peekf_with o0]
  have hl : peekB c1.here (lockP hdN) = false := by rw [h2.here, peek_with]; decide
  have hm : mayM c1.here (lockP hdN) = true := by rw [hw]; show (!(underB (lockP hdN) (refP hdN) || underB (refP hdN) (lockP hdN)) && true) = true; decide
  have hr : (usedM c1.here : Int) + 65 ≤ c1.room := by
    rw [h2.room, hw]
    show (([f.data.length].sum : Nat) : Int) + 65 ≤ 1000
    rw [hfd]
    have := valid_len ha
    simp
    omega
  obtain ⟨g1, g2⟩ := h2.calm.set_wrong o1 (n := hdN) (old := []) (new := b) (by decide) hb hl hm hr (.inl ⟨rfl, p1⟩)
  obtain ⟨c2, hc2⟩ : ∃ x, setC c1 hdN [] b = x := ⟨_, rfl⟩
  rw [hc2] at g2
  rw [hc2]
  obtain ⟨k1, k2, _⟩ := g2.calm.get_ok (n := hdN) (id := a) (by decide) ha (by rw [g2.here]; exact p1) (by rw [g2.here, p2]; exact hfd)
  exact ⟨h1, g1, k1, k2⟩
set_option maxRecDepth 100000 in
set_option maxHeartbeats 6400000 in
theorem rfirst_any (w : World) : Calls Tryz.prog 39 #[] w (Yes w) := by
  have kc := fun (w : World) (C : Array Value) (n c : Nat) => Lib.run_convert_bytes_const (P := Tryz.prog) w 32 5 C n c Tryz.underlying32 Tryz.underlying5
  go_enter Tryz.func39, Tryz.ntmps39
  go_wp2_with fail
  refine (new_any (fun _ => False) 1000 w (fun _ h => h.elim)).mono ?_
  rintro e w1 ⟨hb1, ⟨h1, _⟩ | ⟨_, b, M, _, hM, rfl, hat⟩⟩
  · exact absurd h1 (by decide)
  have H1 : Hid (Mine w w1 b (newC 1000)) := ⟨_, M, hat, hM, hb1⟩
  clear hb1 hM hat
  obtain ⟨ia, hia⟩ : ∃ x, hexL (sumOf [97]) = x := ⟨_, rfl⟩
  obtain ⟨ib, hib⟩ : ∃ x, hexL (sumOf [98]) = x := ⟨_, rfl⟩
  have HIA := Lib.hid hia
  have HIB := Lib.hid hib
  have hva : validB ia = true := by rw [← hia]; exact id_valid _
  have hvb : validB ib = true := by rw [← hib]; exact id_valid _
  have HPL := Lib.hid (first_plain ia ib hva hvb)
  have HLA : Hid (ia.length ≤ 900000) := by unfold Hid; rw [valid_len hva]; omega
  have HLB : Hid (ib.length ≤ 900000) := by unfold Hid; rw [valid_len hvb]; omega
  have htl : (str ia).toList = ia := str_toList _
  clear hia hib hva hvb
  go_wp2_with fail
  have hb2 : Below w1.heap.size w1 (w1.alloc (.cells #[.int .u8 97] 5 (1, 2))) := (Below.refl _ _).alloc (Nat.le_refl _) _
  refine (idc_any _ [97] _ (by_new w1 [97] #[.int .u8 97] _ _ (by simp [bv, bi]) 1 rfl (by omega)).slv (by simp)).mono ?_
  rintro e w2 ⟨rfl, hb3⟩
  rw [HIA.out]
  have H2 := Lib.hid ((H1.out.below hb2).below hb3)
  clear hb2 hb3
  go_wp2_with fail
  have hb2 : Below w2.heap.size w2 (w2.alloc (.cells #[.int .u8 98] 5 (1, 2))) := (Below.refl _ _).alloc (Nat.le_refl _) _
  refine (idc_any _ [98] _ (by_new w2 [98] #[.int .u8 98] _ _ (by simp [bv, bi]) 1 rfl (by omega)).slv (by simp)).mono ?_
  rintro e w3 ⟨rfl, hb3⟩
  rw [HIB.out]
  have H3 := Lib.hid ((H2.out.below hb2).below hb3)
  clear hb2 hb3
  go_wp2_with fail
  refine (set_mine hdN [] ia H3.out (GoC.new_ 1000) (by omega) (by decide) (by decide) HLA.out).mono ?_
  rintro e w4 ⟨rfl, h4⟩
  have H4 := Lib.hid h4
  rw [HPL.out.1]
  clear h4
  go_wp2_with fail
  refine (set_mine hdN [] ib H4.out ((GoC.new_ 1000).set_ hdN [] ia) (by omega) (by decide) (by decide) HLB.out).mono ?_
  rintro e w5 ⟨rfl, h5⟩
  have H5 := Lib.hid h5
  rw [HPL.out.2.1]
  clear h5
  go_wp2_with fail
  refine (get_mine hdN H5.out (((GoC.new_ 1000).set_ hdN [] ia).set_ hdN [] ib) (by omega) (by decide)).mono ?_
  rintro e w6 ⟨rfl, h6⟩
  have H6 := Lib.hid h6
  rw [HPL.out.2.2.1, HPL.out.2.2.2]
  clear h6
  go_wp2_with fail
  go_ret
  obtain ⟨_, _, _, _, hb⟩ := H6.out
  exact ⟨rfl, hb⟩
end Go.Proofs.YtalnfiegkkkkgaaGreat.Tx
/- marlaw8.RefsExpect, as plain data. (No Go in it.) -/
set_option linter.unusedVariables false
set_option linter.unusedSimpArgs false
namespace Go.Proofs.YtalnfiegkkkkgaaGreat.Tx
open Go.RowKit Go.Proofs.YtalnfiegkkkkgaaGreat.Sh

/-- What stands where the ref is just this. -/
structure ExpS (now : List UInt8) (c : CSt) : Prop where
  calm : Calm c
  room : c.room = 1048576
  rows : (now = [] ∧ c.here = []) ∨ (validB now = true ∧ ∃ f : FileM, f.data = now ++ [10] ∧ c.here = [⟨refP hdN, f⟩])
theorem valid_ne {now : List UInt8} (h : validB now = true) : now ≠ [] := fun e => by rw [e] at h; exact absurd (valid_len h) (by decide)
section
variable {now : List UInt8} {c : CSt}
theorem ExpS.ord (h : ExpS now c) : Ord c.here := by
  rcases h.rows with ⟨_, e⟩ | ⟨_, f, _, e⟩ <;> rw [e]
  · exact List.Pairwise.nil
  · exact List.pairwise_singleton _ _
theorem ExpS.lock (h : ExpS now c) : peekB c.here (lockP hdN) = false := by
  rcases h.rows with ⟨_, e⟩ | ⟨_, f, _, e⟩ <;> rw [e]
  · rfl
  · cases hs : peekB [(⟨refP hdN, f⟩ : RowM)] (lockP hdN) with
    | false => rfl
    | true =>
      have := peek_at hs
      rw [List.mem_singleton] at this
      exact absurd (congrArg RowM.path this) (show ¬ (lockP hdN = refP hdN) from by decide)
theorem ExpS.may (h : ExpS now c) : mayM c.here (lockP hdN) = true ∧ mayM c.here (refP hdN) = true := by
  rcases h.rows with ⟨_, e⟩ | ⟨_, f, _, e⟩ <;> rw [e]
  · exact ⟨rfl, rfl⟩
  · refine ⟨?_, ?_⟩
    · show (!(underB (lockP hdN) (refP hdN) || underB (refP hdN) (lockP hdN)) && true) = true; decide
    · show (!(underB (refP hdN) (refP hdN) || underB (refP hdN) (refP hdN)) && true) = true; decide
theorem ExpS.fits (h : ExpS now c) : (usedM c.here : Int) + 65 ≤ c.room := by
  rw [h.room]
  rcases h.rows with ⟨_, e⟩ | ⟨hv, f, hf, e⟩ <;> rw [e]
  · show ((0 : Nat) : Int) + 65 ≤ 1048576; omega
  · show (([f.data.length].sum : Nat) : Int) + 65 ≤ 1048576
    rw [hf]
    have := valid_len hv
    simp
    omega
theorem ExpS.none (h : ExpS now c) (hn : now = []) : peekB c.here (refP hdN) = false := by
  rcases h.rows with ⟨_, e⟩ | ⟨hv, f, _, e⟩
  · rw [e]; rfl
  · exact absurd hn (valid_ne hv)
theorem ExpS.some (h : ExpS now c) (hn : now ≠ []) : validB now = true ∧ peekB c.here (refP hdN) = true ∧ (peekF c.here (refP hdN)).data = now ++ [10] := by
  rcases h.rows with ⟨e, _⟩ | ⟨hv, f, hf, e⟩
  · exact absurd e hn
  · have ho := h.ord
    have hm : (⟨refP hdN, f⟩ : RowM) ∈ c.here := by rw [e]; exact List.mem_singleton.2 rfl
    have h1 := peek_yes hm
    have h2 := peek_is ho hm
    refine ⟨hv, h1, ?_⟩
    rw [show peekF c.here (refP hdN) = f from h2]
    exact hf
theorem ExpS.to (h : ExpS now c) {c' : CSt} (hc : CalmTo c c' c.here) : ExpS now c' := ⟨hc.calm, hc.room.trans h.room, by rw [hc.here]; exact h.rows⟩
def setG (now old new : List UInt8) : Bool := validB new && decide (old = now)
theorem ExpS.set_ (h : ExpS now c) (old new : List UInt8) : (setE c hdN old new = 0 ↔ setG now old new = true) ∧ ExpS (if setG now old new = true then new else now) (setC c hdN old new) := by
  have hn : nameB hdN = true := by decide
  unfold setG
  cases hv : validB new with
  | false =>
    obtain ⟨e1, e2⟩ := set_range (c := c) (old := old) hn (.inl hv)
    rw [e1, e2]
    refine ⟨⟨fun x => absurd x (by decide), fun x => by simp at x⟩, ?_⟩
    rw [if_neg (by simp)]
    exact h
  | true =>
    by_cases hr : old ≠ [] ∧ validB old = false
    · obtain ⟨e1, e2⟩ := set_range (c := c) (new := new) hn (.inr hr)
      have hne : ¬ old = now := fun e => by
        have := h.some (by rw [← e]; exact hr.1)
        rw [← e, hr.2] at this
        exact absurd this.1 (by decide)
      rw [e1, e2]
      refine ⟨⟨fun x => absurd x (by decide), fun x => absurd (by simpa using x) hne⟩, ?_⟩
      rw [if_neg (by simpa using hne)]
      exact h
    · have ho : old = [] ∨ validB old = true := by
        by_cases h0 : old = []
        · exact .inl h0
        · right
          cases hx : validB old with
          | true => rfl
          | false => exact absurd ⟨h0, hx⟩ hr
      by_cases he : old = now
      · subst he
        obtain ⟨e1, e2, _⟩ := h.calm.set_ok h.ord hn hv h.lock h.may.1 h.fits h.may.2 (by
          by_cases h0 : old = []
          · exact .inl ⟨h0, h.none h0⟩
          · exact .inr (h.some h0))
        rw [if_pos (by simp)]
        refine ⟨⟨fun _ => by simp, fun _ => e1⟩, ⟨e2.calm, e2.room.trans h.room, .inr ⟨hv, ⟨1, new ++ [10], c.time + 1⟩, rfl, ?_⟩⟩⟩
        rw [e2.here]
        rcases h.rows with ⟨_, e⟩ | ⟨_, f, _, e⟩ <;> rw [e]
        · rfl
        · unfold withM withoutM
          simp [headM]
      · obtain ⟨e1, e2⟩ := h.calm.set_wrong h.ord hn hv h.lock h.may.1 h.fits (old := old) (by
          rcases ho with ho | ho
          · exact .inl ⟨ho, (h.some (fun e => he (ho.trans e.symm))).2.1⟩
          · refine .inr ⟨ho, fun hs => ?_⟩
            have hnow : now ≠ [] := fun e => by rw [h.none e] at hs; cases hs
            rw [(h.some hnow).2.2]
            intro e
            exact he (List.append_cancel_right e).symm)
        rw [if_neg (by simpa using he)]
        exact ⟨⟨fun x => absurd (e1.symm.trans x) (by decide), fun x => absurd (by simpa using x) he⟩, h.to e2⟩
def delG (now old : List UInt8) : Bool := !decide (now = []) && decide (old = now)
theorem ExpS.del_ (h : ExpS now c) (old : List UInt8) : (delE c hdN old = 0 ↔ delG now old = true) ∧ ExpS (if delG now old = true then [] else now) (delC c hdN old) := by
  have hn : nameB hdN = true := by decide
  unfold delG
  by_cases hb : now ≠ [] ∧ old = now
  · obtain ⟨h1, h2⟩ := hb
    subst h2
    obtain ⟨s1, s2, s3⟩ := h.some h1
    obtain ⟨e1, e2⟩ := h.calm.del_ok hn s1 s2 s3
    rw [if_pos (by simpa using h1)]
    refine ⟨⟨fun _ => by simpa using h1, fun _ => e1⟩, ⟨e2.calm, e2.room.trans h.room, .inl ⟨rfl, ?_⟩⟩⟩
    rw [e2.here]
    rcases h.rows with ⟨e, _⟩ | ⟨_, f, _, e⟩
    · exact absurd e h1
    · rw [e]
      unfold withoutM
      simp
  · obtain ⟨e1, e2⟩ := h.calm.del_wrong hn (old := old) (by
      by_cases h0 : now = []
      · exact .inr (.inl (h.none h0))
      · right; right
        rw [(h.some h0).2.2]
        intro e
        exact hb ⟨h0, (List.append_cancel_right e).symm⟩)
    have hb' : ¬ ((!decide (now = []) && decide (old = now)) = true) := by
      intro x
      simp at x
      exact hb x
    rw [if_neg hb']
    exact ⟨⟨fun x => absurd x e1, fun x => absurd x hb'⟩, h.to e2⟩
theorem ExpS.get_ (h : ExpS now c) : getV c hdN = now ∧ (getE c hdN = 0 ↔ now ≠ []) ∧ ExpS now (getC c hdN) := by
  have hn : nameB hdN = true := by decide
  by_cases h0 : now = []
  · obtain ⟨e1, e2, e3⟩ := h.calm.get_none hn (h.none h0)
    exact ⟨e2.trans h0.symm, ⟨fun x => absurd (e1.symm.trans x) (by decide), fun x => absurd h0 x⟩, h.to e3⟩
  · obtain ⟨s1, s2, s3⟩ := h.some h0
    obtain ⟨e1, e2, e3⟩ := h.calm.get_ok hn s1 s2 s3
    exact ⟨e2, ⟨fun _ => h0, fun _ => e1⟩, h.to e3⟩
theorem ExpS.list_ (h : ExpS now c) : lisE c refD = 0 ∧ (rlsV c refD).length = (if now = [] then 0 else 1) ∧ ExpS now (bgC c).c := by
  obtain ⟨e1, e2⟩ := h.calm.lis (dir := refD) (by decide)
  refine ⟨e1, ?_, h.to (by rw [h.calm.bg.1]; exact h.calm.same.tick)⟩
  unfold rlsV
  rw [if_pos e1, e2]
  rcases h.rows with ⟨e0, e⟩ | ⟨hv, f, _, e⟩ <;> rw [e]
  · rw [if_pos e0]; rfl
  · rw [if_neg (valid_ne hv)]
    have : listC [(⟨refP hdN, f⟩ : RowM)] refD = [refP hdN] := by
      unfold listC pathsM
      rw [List.map_cons, List.map_nil, List.filter_cons, if_pos (show hitC refD (refP hdN) = true from by decide)]
      rfl
    rw [this]
    decide
end
end Go.Proofs.YtalnfiegkkkkgaaGreat.Tx
/- Operations in a row of one's own. -/
set_option linter.unusedVariables false
set_option linter.unusedSimpArgs false
namespace Go.Proofs.YtalnfiegkkkkgaaGreat.Tx
open Go.RowKit Go.Maps Go.Proofs.YtalnfiegkkkkgaaGreat.Sh

theorem info_op : (Tryz.prog.info? 35).map (fun i => (i.zero, i.size, i.bytes)) = some (some (.agg #[.int .i64 0, .int .i64 0, .int .i64 0, .int .i64 0, .string ⟨#[]⟩, .string ⟨#[]⟩, .slice none 0 0, .slice none 0 0]), 8, 112) := by kernel_rfl
/-- An operation with its slices, as they lie in memory. -/
structure OpS where
  o : LOp
  d : Value
  p : Value
def opC (t : OpS) : List Value := [.int .i64 t.o.kind, .int .i64 t.o.mode, .int .i64 t.o.keep, .int .i64 t.o.torn, .string (str t.o.path), .string (str t.o.dest), t.d, t.p]
def flatO (l : List OpS) : List Value := (l.map opC).flatten
theorem flatO_app (l m : List OpS) : flatO (l ++ m) = flatO l ++ flatO m := by unfold flatO; rw [List.map_append, List.flatten_append]
theorem flatO_at {l : List OpS} {k : Nat} {t : OpS} (h : l[k]? = some t) (j : Nat) (u : Value) (hu : (opC t)[j]? = some u) : (flatO l)[k * 8 + j]? = some u := by
  refine flat_at (m := 8) (fun x hx => ?_) k _ (by rw [List.getElem?_map, h]; rfl) j u hu
  obtain ⟨t, _, rfl⟩ := List.mem_map.1 hx
  rfl
def calmB (o : LOp) : Bool := decide (o.kind ≤ 7) && decide (0 ≤ o.kind)
/-- Operations in a row of one's own, whose slices lie in G. -/
structure OwnO (G : Nat → Prop) (w : World) (B : Nat) (v : Value) (els : List OpS) : Prop where
  row : w.ownsRow B 35 8 v els.length (flatO els)
  data : ∀ t ∈ els, By G w t.d t.o.data
  plan : ∀ t ∈ els, InL evK G w t.p t.o.plan
theorem OwnO.nil_ (G : Nat → Prop) (w : World) (B : Nat) : OwnO G w B (.slice none 0 0) [] := ⟨World.ownsRow_nil w B _ _, fun _ h => (List.not_mem_nil h).elim, fun _ h => (List.not_mem_nil h).elim⟩
theorem OwnO.slice {G : Nat → Prop} {w : World} {B : Nat} {v : Value} {els : List OpS} (h : OwnO G w B v els) : ∃ A c, v = .slice A els.length c ∧ els.length ≤ c ∧ c ≤ maxLen := by
  rcases h.row.2 with ⟨rfl, h0⟩ | ⟨g, cap, cur, rfl, _, _, hc, hm, _⟩
  · exact ⟨none, 0, by rw [h0], by rw [h0]; exact Nat.zero_le _, by unfold maxLen; omega⟩
  · exact ⟨_, cap, rfl, hc, hm⟩
theorem OwnO.below {G : Nat → Prop} {w w' : World} {B : Nat} {v : Value} {els : List OpS} (h : OwnO G w B v els) (hb : Below w.heap.size w w') : OwnO G w' B v els := by
  refine ⟨?_, fun t ht => (h.data t ht).only (Only.of_below (M := fun _ => False) hb) (fun _ _ => id), fun t ht => (h.plan t ht).below hb⟩
  refine ⟨h.row.1, h.row.2.imp id fun ⟨g, cap, cur, a1, a2, a3, a4⟩ => ⟨g, cap, cur, a1, a2, ?_, a4⟩⟩
  exact (hb.block g (Array.getElem?_eq_some_iff.1 a3).1).trans a3
/-- Such operations, as they are read. -/
theorem OwnO.ops {G G' : Nat → Prop} {w : World} {B : Nat} {v : Value} {els : List OpS} (h : OwnO G w B v els) (hG : ∀ k, G k → G' k) (hn : ∀ k, B ≤ k → k < w.heap.size → G' k) : OpsF G' w v (els.map OpS.o) := by
  obtain ⟨A, c, hv, hc, hm⟩ := h.slice
  have hlen : (els.map OpS.o).length = els.length := List.length_map _
  refine ⟨A, c, by rw [hlen]; exact hv, by rw [hlen]; exact hc, hm, fun k o hk => ?_⟩
  rw [List.getElem?_map] at hk
  cases he : els[k]? with
  | none => rw [he] at hk; cases hk
  | some t =>
    rw [he] at hk
    injection hk with hk
    subst hk
    have hmem := List.mem_of_getElem? he
    have hlt := (List.getElem?_eq_some_iff.1 he).1
    rcases h.row.2 with ⟨_, h0⟩ | ⟨g, cap, cur, hv2, hB, hg, _⟩
    · omega
    · have e1 := hv.symm.trans hv2
      injection e1 with e1 _ _
      have hgl := (Array.getElem?_eq_some_iff.1 hg).1
      have hcell : ∀ j u, (opC t)[j]? = some u → w.cell? ((⟨g, 0, none⟩ : Addr).add (k * 8 + j)) = some u := fun j u hu => h.row.cells (g := g) (by rw [hv2]; rfl) _ _ (flatO_at he j u hu)
      have hf : ∀ j u, 0 < j → (opC t)[j]? = some u → w.cell? ⟨((⟨g, 0, none⟩ : Addr).add (k * 8)).block, ((⟨g, 0, none⟩ : Addr).add (k * 8)).off + j, none⟩ = some u := fun j u hj hu => by
        rw [← add_field _ _ j hj]; exact hcell j u hu
      refine ⟨⟨g, 0, none⟩, t.d, t.p, e1, hn g hB hgl, hgl, (h.data t hmem).mono (fun k _ hk => hG k hk), (h.plan t hmem).mono (fun k _ hk => hG k hk), hcell 0 _ rfl, hf 1 _ (by decide) rfl, hf 2 _ (by decide) rfl, hf 3 _ (by decide) rfl, hf 4 _ (by decide) rfl, hf 5 _ (by decide) rfl, hf 6 _ (by decide) rfl, hf 7 _ (by decide) rfl⟩
theorem own_app {ops : Array Oper} {rest : List Oper} {o : Oper} {a : Act} {Q : Exit → Act → World → Prop} (hgd : o.guard = none) (s x : Operand)
    (ho : o.op = .call { callee := .builtin .append, args := #[s, x], argTypes := #[22, 22] }) {G : Nat → Prop} {w : World} {B : Nat} {v : Value} {els : List OpS} {t : OpS} {g : Nat} (hown : OwnO G w B v els) (hg : Blk w g 35 (opC t).toArray) (hd : By G w t.d t.o.data) (hp : InL evK G w t.p t.o.plan)
    (hs : a.eval s = v) (hx : a.eval x = .slice (some ⟨g, 0, none⟩) 1 1) (hsmall : els.length ≤ 1000000) (hB : B ≤ w.heap.size) (hG : ∀ k, G k → k < B)
    (h : ∀ v' w', OwnO G w' B v' (els ++ [t]) → w.grownBy w' v.ownBlock → wpList Tryz.prog ops Q rest (a.put o.dst v') w') : wpList Tryz.prog ops Q (o :: rest) a w := by
  obtain ⟨i0, hi, hz0, hz1, hz2⟩ := info_parts info_op
  have hd1 : t.d.oneCell' = true := by obtain ⟨A, c, e, _⟩ := hd.slice; rw [e]; rfl
  have hp1 : t.p.oneCell' = true := by obtain ⟨A, c, e, _⟩ := evs_slice hp.tmp; rw [e]; rfl
  have hone : ∀ u ∈ opC t, u.oneCell' = true := by
    intro u hu
    unfold opC at hu
    simp only [List.mem_cons, List.not_mem_nil, or_false] at hu
    rcases hu with rfl | rfl | rfl | rfl | rfl | rfl | rfl | rfl <;> first | rfl | exact hd1 | exact hp1
  have hr : Reads w w.heap.size 8 (some ⟨g, 0, none⟩) 1 (opC t) := ⟨rfl, fun _ => ⟨⟨g, 0, none⟩, rfl, hg.lt, fun j u hu => by
    rw [Addr.add_mid, Nat.zero_add, hg.cell, ← hu]
    simp⟩⟩
  refine wpList_append_any w hgd s x 22 ho B 35 i0 _ 8 112 Tryz.underlying22 hi hz0 hz1 hz2 rfl (by decide) v els.length _ hs hown.row w.heap.size _ 1 1 _ hx hr hone (by unfold maxLen; omega) (Nat.le_trans (Nat.mul_le_mul_right 112 (show els.length + 1 ≤ 1000001 by omega)) (by decide)) hB ?_
  intro v' w' g1 g2 g3
  have hon : Only (fun k => v.ownBlock = some k) w w' := ⟨g2.os, g2.tape, g2.output, g2.size, fun k hk hn => g2.block k hk (fun e => hn e.symm)⟩
  have hap : ∀ k, G k → ¬ (v.ownBlock = some k) := fun k hk e => by
    have := (hown.row.lt k e).1
    have := hG k hk
    omega
  refine h v' w' ⟨?_, fun q hq => ?_, fun q hq => ?_⟩ g2
  · rw [List.length_append, flatO_app]
    have e : flatO [t] = opC t := by unfold flatO; simp
    rw [e]
    exact g1
  · rcases List.mem_append.1 hq with hq | hq
    · exact (hown.data q hq).only hon hap
    · rw [List.mem_singleton.1 hq]; exact hd.only hon hap
  · rcases List.mem_append.1 hq with hq | hq
    · exact (hown.plan q hq).only hon hap
    · rw [List.mem_singleton.1 hq]; exact hp.only hon hap
end Go.Proofs.YtalnfiegkkkkgaaGreat.Tx
/- marlaw8's operations in memory. -/
set_option linter.unusedVariables false
set_option linter.unusedSimpArgs false
namespace Go.Proofs.YtalnfiegkkkkgaaGreat.Tx
open Go.RowKit Go.Maps Go.Proofs.YtalnfiegkkkkgaaGreat.Sh

structure ROp where
  kind : Int
  name : List UInt8
  old : List UInt8
  new : List UInt8
  f : LOp
/-- An operation's cells, from a on. -/
structure ROpCells (G : Nat → Prop) (w : World) (a : Addr) (o : ROp) (dv pv : Value) : Prop where
  data : By G w dv o.f.data
  plan : InL evK G w pv o.f.plan
  kind : w.cell? a = some (.int .i64 o.kind)
  name : w.cell? ⟨a.block, a.off + 1, none⟩ = some (.string (str o.name))
  old : w.cell? ⟨a.block, a.off + 2, none⟩ = some (.string (str o.old))
  new : w.cell? ⟨a.block, a.off + 3, none⟩ = some (.string (str o.new))
  fkind : w.cell? ⟨a.block, a.off + 4, none⟩ = some (.int .i64 o.f.kind)
  mode : w.cell? ⟨a.block, a.off + 5, none⟩ = some (.int .i64 o.f.mode)
  keep : w.cell? ⟨a.block, a.off + 6, none⟩ = some (.int .i64 o.f.keep)
  torn : w.cell? ⟨a.block, a.off + 7, none⟩ = some (.int .i64 o.f.torn)
  path : w.cell? ⟨a.block, a.off + 8, none⟩ = some (.string (str o.f.path))
  dest : w.cell? ⟨a.block, a.off + 9, none⟩ = some (.string (str o.f.dest))
  dcell : w.cell? ⟨a.block, a.off + 10, none⟩ = some dv
  pcell : w.cell? ⟨a.block, a.off + 11, none⟩ = some pv
def OpsR (G : Nat → Prop) (w : World) (v : Value) (l : List ROp) : Prop := ∃ A c, v = .slice A l.length c ∧ l.length ≤ c ∧ c ≤ maxLen ∧ ∀ k o, l[k]? = some o → ∃ ad dv pv, A = some ad ∧ G ad.block ∧ ad.block < w.heap.size ∧ ROpCells G w (ad.add (k * 12)) o dv pv
theorem ROpCells.only {G M : Nat → Prop} {w w' : World} {a : Addr} {o : ROp} {dv pv : Value} (h : ROpCells G w a o dv pv) (ho : Only M w w') (hG : ∀ k, G k → ¬ M k) (ha : G a.block) (hl : a.block < w.heap.size) : ROpCells G w' a o dv pv := by
  have hn := hG _ ha
  exact ⟨h.data.only ho hG, h.plan.only ho hG, (ho.cell hl hn).trans h.kind, (ho.cell (p := ⟨a.block, a.off + 1, none⟩) hl hn).trans h.name, (ho.cell (p := ⟨a.block, a.off + 2, none⟩) hl hn).trans h.old, (ho.cell (p := ⟨a.block, a.off + 3, none⟩) hl hn).trans h.new, (ho.cell (p := ⟨a.block, a.off + 4, none⟩) hl hn).trans h.fkind, (ho.cell (p := ⟨a.block, a.off + 5, none⟩) hl hn).trans h.mode, (ho.cell (p := ⟨a.block, a.off + 6, none⟩) hl hn).trans h.keep, (ho.cell (p := ⟨a.block, a.off + 7, none⟩) hl hn).trans h.torn, (ho.cell (p := ⟨a.block, a.off + 8, none⟩) hl hn).trans h.path, (ho.cell (p := ⟨a.block, a.off + 9, none⟩) hl hn).trans h.dest, (ho.cell (p := ⟨a.block, a.off + 10, none⟩) hl hn).trans h.dcell, (ho.cell (p := ⟨a.block, a.off + 11, none⟩) hl hn).trans h.pcell⟩
theorem OpsR.only {G M : Nat → Prop} {w w' : World} {v : Value} {l : List ROp} (h : OpsR G w v l) (ho : Only M w w') (hG : ∀ k, G k → ¬ M k) : OpsR G w' v l := by
  obtain ⟨A, c, h1, h2, h3, h4⟩ := h
  refine ⟨A, c, h1, h2, h3, fun k o hk => ?_⟩
  obtain ⟨ad, dv, pv, e, g1, g2, g3⟩ := h4 k o hk
  exact ⟨ad, dv, pv, e, g1, Nat.lt_of_lt_of_le g2 ho.size, g3.only ho hG (by rw [addr_block]; exact g1) (by rw [addr_block]; exact g2)⟩
theorem OpsR.below {G : Nat → Prop} {w w' : World} {v : Value} {l : List ROp} (h : OpsR G w v l) (hb : Below w.heap.size w w') : OpsR G w' v l := h.only (Only.of_below (M := fun _ => False) hb) (fun _ _ => id)
/-- What few says of an operation. -/
structure RFew (o : ROp) : Prop where
  name : o.name.length ≤ 400
  old : o.old.length ≤ 400
  new : o.new.length ≤ 400

def RFewPost (l : List ROp) (w : World) (e : Ending) (w' : World) : Prop := ∃ t, e = .returned (.bool t) ∧ (t = true → l.length ≤ 60 ∧ (∀ o ∈ l, RFew o) ∧ ∀ o ∈ l, OpFew o.f) ∧ Below w.heap.size w w'
set_option maxRecDepth 100000 in
set_option maxHeartbeats 6400000 in
theorem rfew_any (G : Nat → Prop) (v : Value) (l : List ROp) (w : World) (h : OpsR G w v l) (hG : ∀ k, G k → k < w.heap.size) :
    Calls Tryz.prog 40 #[v] w (RFewPost l w) := by
  have HL := Lib.hid h
  have HG := Lib.hid hG
  obtain ⟨A, c, rfl, hlc, hcm, _⟩ := h
  obtain ⟨n, hnn⟩ : ∃ n, l.length = n := ⟨_, rfl⟩
  have HN := Lib.hid hnn
  rw [hnn] at hlc HL ⊢
  unfold maxLen at hcm
  clear hnn hG
  go_enter Tryz.func40, Tryz.ntmps40
  go_wp2
  go_loopw [3, 4] (fun u i wr => ∃ (k : Nat) (els : List OpS), k ≤ n ∧ k ≤ 60 ∧ i = .int .i64 k ∧ OwnO G wr w.heap.size u els ∧ els.map OpS.o = (l.take k).map ROp.f ∧ els.length = k ∧ (∀ o ∈ l.take k, RFew o) ∧ Below w.heap.size w wr) (fun _ i _ => n - (intOf i).toNat)
  case atStart => exact ⟨0, [], Nat.zero_le _, Nat.zero_le _, rfl, OwnO.nil_ _ _ _, rfl, rfl, fun o ho => (by simp at ho), Below.refl _ _⟩
  case round =>
    obtain ⟨k, els, hk, hk6, rfl, ho, hm, hel, hfw, hb⟩ := hrel
    obtain ⟨A1, c1, hu3, _, _⟩ := ho.slice
    subst hu3
    rw [hel] at ho ⊢
    have HO := Lib.hid ho
    have HB := Lib.hid hb
    have HM := Lib.hid hm
    have HEL := Lib.hid hel
    have HFW := Lib.hid hfw
    clear ho hb hm hel hfw
    have k0 : (0 : Int) ≤ (k : Int) := by omega
    by_cases hlt : k < n
    · have k1 : (k : Int) < (n : Int) := by omega
      by_cases h60 : k < 60
      · have k6 : (k : Int) < 60 := by omega
        have hkl : k < l.length := by rw [HN.out]; exact hlt
        obtain ⟨A', c', hv, _, _, hat⟩ := HL.out.below HB.out
        injection hv with e1 e2 e3
        subst e1
        clear e2 e3
        obtain ⟨ad, dv, pv, rfl, hGa, hal, hoc⟩ := hat k l[k] (List.getElem?_eq_getElem hkl)
        clear hat
        have HX := Lib.hid (show l.take (k + 1) = l.take k ++ [l[k]] from List.take_succ_eq_append_getElem hkl)
        generalize l[k] = o at *
        clear hkl hGa hal
        obtain ⟨rk, nm, ol, nw, fo⟩ := o
        obtain ⟨kd, mo, ke, tn', pa, de, da, pl⟩ := fo
        obtain ⟨hdv, hplan, x0, x1, x2, x3, x4, x5, x6, x7, x8, x9, x10, x11⟩ := hoc
        dsimp only at x0 x1 x2 x3 x4 x5 x6 x7 x8 x9 x10 x11 hdv hplan
        obtain ⟨dA, dc, rfl, _, _⟩ := hdv.slice
        obtain ⟨pA, pc, rfl, _, _⟩ := evs_slice hplan.tmp
        have s1 := str_size nm
        have s2 := str_size ol
        have s3 := str_size nw
        obtain ⟨l1, hl1⟩ : ∃ x, nm.length = x := ⟨_, rfl⟩
        obtain ⟨l2, hl2⟩ : ∃ x, ol.length = x := ⟨_, rfl⟩
        obtain ⟨l3, hl3⟩ : ∃ x, nw.length = x := ⟨_, rfl⟩
        rw [hl1] at s1
        rw [hl2] at s2
        rw [hl3] at s3
        have HL1 := Lib.hid hl1
        have HL2 := Lib.hid hl2
        have HL3 := Lib.hid hl3
        clear hl1 hl2 hl3
        by_cases hc1 : l1 ≤ 400
        · by_cases hc2 : l2 ≤ 400
          · by_cases hc3 : l3 ≤ 400
            · have d1 : ¬ (400 : Int) < (l1 : Int) := by omega
              have d2 : ¬ (400 : Int) < (l2 : Int) := by omega
              have d3 : ¬ (400 : Int) < (l3 : Int) := by omega
              have HRF : Hid (RFew ⟨rk, nm, ol, nw, ⟨kd, mo, ke, tn', pa, de, da, pl⟩⟩) := ⟨by show nm.length ≤ 400; rw [HL1.out]; exact hc1, by show ol.length ≤ 400; rw [HL2.out]; exact hc2, by show nw.length ≤ 400; rw [HL3.out]; exact hc3⟩
              have hwa : Below wr.heap.size wr (wr.alloc (.cells #[.int .i64 kd, .int .i64 mo, .int .i64 ke, .int .i64 tn', .string (str pa), .string (str de), .slice dA da.length dc, .slice pA pl.length pc] 35)) := (Below.refl _ _).alloc (Nat.le_refl _) _
              have HWA := Lib.hid hwa
              have HOA := Lib.hid (HO.out.below hwa)
              have HBK : Hid (Blk (wr.alloc (.cells #[.int .i64 kd, .int .i64 mo, .int .i64 ke, .int .i64 tn', .string (str pa), .string (str de), .slice dA da.length dc, .slice pA pl.length pc] 35)) wr.heap.size 35 (opC ⟨⟨kd, mo, ke, tn', pa, de, da, pl⟩, .slice dA da.length dc, .slice pA pl.length pc⟩).toArray) := Blk.new _ _ _
              have HDA := Lib.hid (hdv.only (Only.of_below (M := fun _ => False) hwa) (fun _ _ => id))
              have HPA := Lib.hid (hplan.below hwa)
              have HZ : Hid (w.heap.size ≤ (wr.alloc (.cells #[.int .i64 kd, .int .i64 mo, .int .i64 ke, .int .i64 tn', .string (str pa), .string (str de), .slice dA da.length dc, .slice pA pl.length pc] 35)).heap.size) := Nat.le_trans HB.out.size hwa.size
              have HLT : Hid (∀ q, (Value.slice A1 k c1).ownBlock = some q → w.heap.size ≤ q) := fun q hq => (HO.out.row.lt q hq).1
              have HSM : Hid (els.length ≤ 1000000) := by unfold Hid; rw [HEL.out]; omega
              clear hwa hdv hplan hc1 hc2 hc3
              go_wp2_with (at_builtin; refine own_app (t := ⟨⟨kd, mo, ke, tn', pa, de, da, pl⟩, .slice dA da.length dc, .slice pA pl.length pc⟩) (g := wr.heap.size) (v := .slice A1 k c1) rfl (.tmp 40) (.tmp 46) rfl (by exact HOA.out) (by exact HBK.out) (by exact HDA.out) (by exact HPA.out) (by rfl) (by rfl) HSM.out (by exact HZ.out) (by exact HG.out) ?_; intro v5 w5 ho5 hg5; have HO5 := Lib.hid ho5; have HG5 := Lib.hid hg5; clear ho5 hg5)
              go_roundw
              case rel =>
                refine ⟨k + 1, _, by omega, by omega, by go_num, HO5.out, ?_, by rw [List.length_append, List.length_singleton, HEL.out], ?_, ?_⟩
                · rw [HX.out, List.map_append, List.map_append, HM.out]
                  rfl
                · intro o ho
                  rw [HX.out] at ho
                  rcases List.mem_append.1 ho with ho | ho
                  · exact HFW.out o ho
                  · rw [List.mem_singleton.1 ho]; exact HRF.out
                · exact (HB.out.trans (HWA.out.mono HB.out.size)).grown HG5.out HZ.out (fun j hj => HLT.out j hj)
              case measure => simp [intOf]; omega
            · have d1 : ¬ (400 : Int) < (l1 : Int) := by omega
              have d2 : ¬ (400 : Int) < (l2 : Int) := by omega
              have d3 : (400 : Int) < (l3 : Int) := by omega
              clear hdv hplan hc1 hc2 hc3
              go_wp2_with fail
              go_ret
              exact ⟨false, rfl, fun h => (by cases h), HB.out⟩
          · have d1 : ¬ (400 : Int) < (l1 : Int) := by omega
            have d2 : (400 : Int) < (l2 : Int) := by omega
            clear hdv hplan hc1 hc2
            go_wp2_with fail
            go_ret
            exact ⟨false, rfl, fun h => (by cases h), HB.out⟩
        · have d1 : (400 : Int) < (l1 : Int) := by omega
          clear hdv hplan hc1
          go_wp2_with fail
          go_ret
          exact ⟨false, rfl, fun h => (by cases h), HB.out⟩
      · obtain rfl : k = 60 := by omega
        have k6 : ¬ ((60 : Nat) : Int) < 60 := by omega
        have kn : ¬ ((n : Int) ≤ 60) := by omega
        go_wp2_with fail
        go_ret
        exact ⟨false, rfl, fun h => (by cases h), HB.out⟩
    · obtain rfl : k = n := by omega
      have kn : ((k : Int) ≤ 60) := by omega
      have HF : Hid (els.map OpS.o = l.map ROp.f ∧ (∀ o ∈ l, RFew o)) := by
        have h1 := HM.out
        have h2 := HFW.out
        rw [List.take_of_length_le (Nat.le_of_eq HN.out)] at h1 h2
        exact ⟨h1, h2⟩
      have HOP := Lib.hid (HO.out.ops (G' := fun _ => True) (fun _ _ => trivial) (fun _ _ _ => trivial))
      go_wp2_with fail
      refine (few_any (fun _ => True) _ (els.map OpS.o) wr (by have h := HOP.out; exact h)).mono ?_
      rintro e w4 ⟨t, rfl, ht, hb4⟩
      have HB4 := Lib.hid (HB.out.trans (hb4.mono HB.out.size))
      have HT := Lib.hid ht
      clear hb4 ht
      go_wp2_with fail
      go_ret
      refine ⟨t, rfl, fun h => ?_, HB4.out⟩
      have h1 := (HT.out h).2
      rw [HF.out.1] at h1
      exact ⟨by rw [HN.out]; exact hk6, HF.out.2, fun o ho => h1 _ (List.mem_map.2 ⟨o, ho, rfl⟩)⟩
end Go.Proofs.YtalnfiegkkkkgaaGreat.Tx
