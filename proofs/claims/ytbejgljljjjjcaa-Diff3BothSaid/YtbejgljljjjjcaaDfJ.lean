/- marlaw15: Diff3Both. -/
import Derived.Test.YtbejgljljjjjcaaDfI
import Derived.Test.YtbejgljljjjjcaaDfD
set_option linter.unusedVariables false
set_option linter.unusedSimpArgs false
namespace Go.Proofs.Ytbejgljljjjjcaa.Ln
open Go.RowKit Go.Proofs.Ytbejgljljjjjcaa.Sh Go.Proofs.Ytbejgljljjjjcaa.Tx

/-- The lines of the law: line k, with a byte. -/
def lnB (k : Nat) (c : UInt8) : List UInt8 := [UInt8.ofNat (65 + k), c, 10]
/-- The first i lines, the one at 'at_' with another byte. -/
def rowsB (at_ : Nat) (c : UInt8) (i : Nat) : List (List UInt8) := (List.range i).map fun k => lnB k (if k = at_ then c else 46)
def bytesB (at_ : Nat) (c : UInt8) (i : Nat) : List UInt8 := (rowsB at_ c i).flatten
theorem bytesB_succ (at_ : Nat) (c : UInt8) (i : Nat) : bytesB at_ c (i + 1) = bytesB at_ c i ++ lnB i (if i = at_ then c else 46) := by
  unfold bytesB rowsB
  rw [List.range_succ, List.map_append, List.flatten_append, List.map_singleton, List.flatten_singleton]
theorem bytesB_len (at_ : Nat) (c : UInt8) : ∀ i, (bytesB at_ c i).length = 3 * i
  | 0 => rfl
  | i + 1 => by
    rw [bytesB_succ, List.length_append, bytesB_len at_ c i]
    show _ + 3 = _
    omega
theorem lnB_end {k : Nat} (hk : k < 20) {c : UInt8} (hc : c ≠ 10) : ∃ p, lnB k c = p ++ [10] ∧ ∀ u ∈ p, u ≠ (10 : UInt8) := by
  refine ⟨[UInt8.ofNat (65 + k), c], rfl, fun u hu => ?_⟩
  have t : (10 : UInt8).toNat = 10 := rfl
  simp only [List.mem_cons, List.not_mem_nil, or_false] at hu
  rcases hu with rfl | rfl
  · exact of_ne _ (by omega) _ (by rw [t]; omega)
  · exact hc
theorem rows_spl {at_ : Nat} {c : UInt8} {n : Nat} (hn : n ≤ 20) (hc : c ≠ 10) (h0 : c ≠ 0) : splT (bytesB at_ c n) = (rowsB at_ c n).map Tx.str ∧ textB (bytesB at_ c n) = true := by
  have hm : ∀ l ∈ rowsB at_ c n, ∃ k, k < n ∧ ∃ d, (d = c ∨ d = 46) ∧ l = lnB k d := by
    intro l hl
    obtain ⟨k, hk, rfl⟩ := List.mem_map.1 hl
    refine ⟨k, List.mem_range.1 hk, _, ?_, rfl⟩
    by_cases h : k = at_
    · rw [if_pos h]; exact .inl rfl
    · rw [if_neg h]; exact .inr rfl
  constructor
  · unfold splT bytesB
    rw [spl_lines]
    intro l hl
    obtain ⟨k, hk, d, hd, rfl⟩ := hm l hl
    exact lnB_end (by omega) (by rcases hd with rfl | rfl; exact hc; decide)
  · unfold textB
    rw [decide_eq_true_eq]
    intro hz
    unfold bytesB at hz
    obtain ⟨l, hl, hy⟩ := List.mem_flatten.1 hz
    clear hz
    obtain ⟨k, hk, d, hd, rfl⟩ := hm l hl
    have t : (0 : UInt8).toNat = 0 := rfl
    have hd0 : (0 : UInt8) ≠ d := by rcases hd with e | e; rw [e]; exact h0.symm; rw [e]; decide
    unfold lnB at hy
    simp only [List.mem_cons, List.not_mem_nil, or_false] at hy
    rcases hy with hy | hy | hy
    · exact of_ne (65 + k) (by omega) 0 (by rw [t]; omega) hy.symm
    · exact hd0 hy
    · exact absurd hy (by decide)
theorem rows_cut {at_ n : Nat} (c : UInt8) (h : at_ < n) : rowsB at_ c n = rowsB at_ 46 at_ ++ lnB at_ c :: ((List.range (n - at_ - 1)).map fun k => lnB (at_ + 1 + k) 46) := by
  unfold rowsB
  obtain ⟨r, rfl⟩ : ∃ r, n = at_ + (1 + r) := ⟨n - at_ - 1, by omega⟩
  rw [List.range_add, List.map_append, show at_ + (1 + r) - at_ - 1 = r by omega]
  congr 1
  · refine List.map_congr_left fun k hk => ?_
    have := List.mem_range.1 hk
    rw [if_neg (by omega), if_neg (by omega)]
  · rw [Nat.add_comm 1 r, List.range_succ_eq_map, List.map_cons, List.map_cons, Nat.add_zero, if_pos rfl]
    congr 1
    rw [List.map_map, List.map_map]
    refine List.map_congr_left fun k hk => ?_
    show lnB (at_ + (k + 1)) (if at_ + (k + 1) = at_ then c else 46) = _
    rw [if_neg (by omega), show at_ + (k + 1) = at_ + 1 + k by omega]
theorem lnB_ne {k j : Nat} (hk : k < 20) (hj : j < 20) (h : k ≠ j) (c d : UInt8) : lnB k c ≠ lnB j d := by
  intro e
  injection e with e _
  have := congrArg UInt8.toNat e
  rw [UInt8.toNat_ofNat', UInt8.toNat_ofNat'] at this
  omega
theorem lnB_byte {k : Nat} {c d : UInt8} : lnB k c = lnB k d ↔ c = d := by
  constructor
  · intro e
    injection e with _ e
    injection e
  · intro e; rw [e]
theorem both_all {n at_ : Nat} {c d : UInt8} (hn : n ≤ 20) (ha : at_ + 2 ≤ n) (hc : c ≠ 10 ∧ c ≠ 0 ∧ c ≠ 46) (hd : d ≠ 10 ∧ d ≠ 0 ∧ d ≠ 46) :
    mOkM (bytesB at_ 46 n) (bytesB at_ c n) (bytesB at_ d n) = decide (c = d) ∧ mErrM (bytesB at_ 46 n) (bytesB at_ c n) (bytesB at_ d n) = 0 ∧ (c = d → mBsM (bytesB at_ 46 n) (bytesB at_ c n) (bytesB at_ d n) = bytesB at_ c n) := by
  obtain ⟨s1, t1⟩ := rows_spl (at_ := at_) (c := 46) hn (by decide) (by decide)
  obtain ⟨s2, t2⟩ := rows_spl (at_ := at_) hn hc.1 hc.2.1
  obtain ⟨s3, t3⟩ := rows_spl (at_ := at_) hn hd.1 hd.2.1
  have hl : (splT (bytesB at_ 46 n)).length ≤ 200 ∧ (splT (bytesB at_ c n)).length ≤ 200 ∧ (splT (bytesB at_ d n)).length ≤ 200 := by
    rw [s1, s2, s3]
    unfold rowsB
    simp only [List.length_map, List.length_range]
    omega
  obtain ⟨c1, c2⟩ := cErr_ok hl
  have inj : ∀ {x y : List UInt8}, Tx.str x = Tx.str y ↔ x = y := fun {x y} => ⟨str_inj3, fun h => by rw [h]⟩
  have hpost : ∀ u : UInt8, Tx.str (lnB at_ u) ∉ ((List.range (n - at_ - 1)).map fun k => lnB (at_ + 1 + k) 46).map Tx.str := by
    intro u hm
    obtain ⟨l, hl, e⟩ := List.mem_map.1 hm
    obtain ⟨k, hk, rfl⟩ := List.mem_map.1 hl
    have := List.mem_range.1 hk
    exact lnB_ne (by omega) (by omega) (by omega) _ _ (str_inj3 e)
  have hne : ((List.range (n - at_ - 1)).map fun k => lnB (at_ + 1 + k) 46).map Tx.str ≠ [] := by
    intro e
    have := congrArg List.length e
    simp only [List.length_map, List.length_range, List.length_nil] at this
    omega
  have hm := both_m ((rowsB at_ 46 at_).map Tx.str) (((List.range (n - at_ - 1)).map fun k => lnB (at_ + 1 + k) 46).map Tx.str) (Tx.str (lnB at_ 46)) (Tx.str (lnB at_ c)) (Tx.str (lnB at_ d))
    (fun e => hc.2.2 (lnB_byte.1 (str_inj3 e))) (fun e => hd.2.2 (lnB_byte.1 (str_inj3 e))) (hpost 46) (hpost c) (hpost d) hne
  have sp : ∀ u : UInt8, (rowsB at_ u n).map Tx.str = (rowsB at_ 46 at_).map Tx.str ++ Tx.str (lnB at_ u) :: ((List.range (n - at_ - 1)).map fun k => lnB (at_ + 1 + k) 46).map Tx.str := fun u => by
    rw [rows_cut u (by omega), List.map_append, List.map_cons]
  have hL : hasC (cLst (splT (bytesB at_ 46 n)) (splT (bytesB at_ c n)) (splT (bytesB at_ d n))) = !decide (c = d) ∧ (c = d → linesM (cLst (splT (bytesB at_ 46 n)) (splT (bytesB at_ c n)) (splT (bytesB at_ d n))) = splT (bytesB at_ c n)) := by
    rw [c2]
    unfold chunksL kepL
    rw [s1, s2, s3, sp, sp, sp]
    refine ⟨hm.1.trans ?_, fun h => hm.2 (by rw [h])⟩
    congr 1
    exact decide_eq_decide.2 (inj.trans lnB_byte)
  have hA : allT (bytesB at_ 46 n) (bytesB at_ c n) (bytesB at_ d n) = true := by unfold allT; rw [t1, t2, t3]; rfl
  have hO : mOkM (bytesB at_ 46 n) (bytesB at_ c n) (bytesB at_ d n) = decide (c = d) := by
    unfold mOkM
    rw [hA, c1, hL.1]
    cases decide (c = d) <;> rfl
  refine ⟨hO, by unfold mErrM; rw [if_pos hA, c1], fun h => ?_⟩
  unfold mBsM
  rw [hO, decide_eq_true h, if_pos rfl, hL.2 h, join_spl3]
/-- Three lists of bytes of one's own, side by side. -/
def Tri3b (w : World) (B : Nat) (x : Value) (xs : List UInt8) (y : Value) (ys : List UInt8) (z : Value) (zs : List UInt8) : Prop :=
  OwnV 5 w B x (xs.map bv) ∧ OwnV 5 w B y (ys.map bv) ∧ OwnV 5 w B z (zs.map bv) ∧ (x.ownBlock = none ∨ x.ownBlock ≠ y.ownBlock) ∧ (x.ownBlock = none ∨ x.ownBlock ≠ z.ownBlock) ∧ (y.ownBlock = none ∨ y.ownBlock ≠ z.ownBlock)
def Off3 (g : Nat) (x y z : Value) : Prop := x.ownBlock ≠ some g ∧ y.ownBlock ≠ some g ∧ z.ownBlock ≠ some g
theorem ap_symm {u v : Value} (h : u.ownBlock = none ∨ u.ownBlock ≠ v.ownBlock) : v.ownBlock = none ∨ v.ownBlock ≠ u.ownBlock := by
  rcases h with h | h
  · cases hv : v.ownBlock with
    | none => exact .inl rfl
    | some k => right; rw [h]; simp
  · exact .inr (fun e => h e.symm)
section
variable {w w' : World} {B : Nat} {x y z : Value} {xs ys zs : List UInt8}
theorem Tri3b.rot (h : Tri3b w B x xs y ys z zs) : Tri3b w B y ys z zs x xs := ⟨h.2.1, h.2.2.1, h.1, h.2.2.2.2.2, ap_symm h.2.2.2.1, ap_symm h.2.2.2.2.1⟩
theorem Tri3b.below (h : Tri3b w B x xs y ys z zs) (hb : Below w.heap.size w w') : Tri3b w' B x xs y ys z zs := ⟨h.1.below hb, h.2.1.below hb, h.2.2.1.below hb, h.2.2.2⟩
theorem Tri3b.nil_ (w : World) (B : Nat) : Tri3b w B (.slice none 0 0) [] (.slice none 0 0) [] (.slice none 0 0) [] := ⟨OwnV.nil_ _ _, OwnV.nil_ _ _, OwnV.nil_ _ _, .inl rfl, .inl rfl, .inl rfl⟩
theorem Tri3b.set_ {g : Nat} (h : Tri3b w B x xs y ys z zs) (ho : Off3 g x y z) (k : Nat) (u : Value) : Tri3b (w.setCell ⟨g, k, none⟩ u) B x xs y ys z zs := ⟨h.1.apart ho.1 _, h.2.1.apart ho.2.1 _, h.2.2.1.apart ho.2.2 _, h.2.2.2⟩
theorem Tri3b.off (h : Tri3b w B x xs y ys z zs) : Off3 w.heap.size x y z := by
  refine ⟨fun e => ?_, fun e => ?_, fun e => ?_⟩
  · have := (World.ownsRow.lt h.1 _ e).2; omega
  · have := (World.ownsRow.lt h.2.1 _ e).2; omega
  · have := (World.ownsRow.lt h.2.2.1 _ e).2; omega
end
theorem append_tri3b {ops : Array Oper} {rest : List Oper} {o : Oper} {a : Act} {Q : Exit → Act → World → Prop} (hgd : o.guard = none) (s x : Operand)
    (ho : o.op = .call { callee := .builtin .append, args := #[s, x], argTypes := #[36, 36] }) (w : World) (B : Nat) (v y z : Value) (ts ys zs : List UInt8) (hs : a.eval s = v) (hown : Tri3b w B v ts y ys z zs)
    (g : Nat) (cs : Array Value) (hg : Blk w g 5 cs) (hoff : Off3 g v y z) (us : List UInt8) (m : Nat) (hm : us.length = m) (hcs : cs = (us.map bv).toArray) (hx : a.eval x = .slice (some ⟨g, 0, none⟩) m m) (hsmall : ts.length + m ≤ 1000000) (hB : B ≤ w.heap.size)
    (h : ∀ v' w', Tri3b w' B v' (ts ++ us) y ys z zs → Blk w' g 5 cs → Off3 g v' y z → Below B w w' → wpList Try.prog ops Q rest (a.put o.dst v') w') : wpList Try.prog ops Q (o :: rest) a w := by
  obtain ⟨i0, hi, hz0, hz1, hz2⟩ := info_parts info_u8
  obtain ⟨hv, hy, hz, a1, a2, a3⟩ := hown
  have hown' : w.ownsRow B 5 1 v ts.length (ts.map bv) := by have := hv; unfold OwnV at this; rwa [List.length_map] at this
  have hr : Reads w w.heap.size 1 (some ⟨g, 0, none⟩) m (us.map bv) := by
    refine ⟨by rw [List.length_map]; omega, fun _ => ⟨_, rfl, hg.lt, fun j u hu => ?_⟩⟩
    rw [Addr.add_mid, Nat.zero_add, hg.cell j, hcs, ← hu]
    simp
  refine wpList_append_any w hgd s x 36 ho B 5 i0 (.int .u8 0) 1 1 Try.underlying36 hi hz0 hz1 hz2 rfl (by decide) v ts.length _ hs hown' w.heap.size (some ⟨g, 0, none⟩) m m _ hx hr (bv_one us) (by unfold maxLen; omega) (by omega) hB ?_
  intro v' w' h1 h2 h3
  have apt : ∀ (u : Value) (us : List UInt8), OwnV 5 w B u (us.map bv) → (v.ownBlock = none ∨ v.ownBlock ≠ u.ownBlock) → (v'.ownBlock = none ∨ v'.ownBlock ≠ u.ownBlock) := by
    intro u us hu hap
    rcases h3 with h3 | h3
    · rw [h3]; exact hap
    · right
      rw [h3]
      intro e
      have := (World.ownsRow.lt hu w.heap.size e.symm).2
      omega
  refine h v' w' ⟨?_, hy.kept h2 (ap_symm a1), hz.kept h2 (ap_symm a2), apt y ys hy a1, apt z zs hz a2, a3⟩ (hg.grown h2 (fun e => hoff.1 e.symm)) ⟨?_, hoff.2⟩ ((Below.refl _ _).grown h2 hB (fun k hk => (hown'.lt k hk).1))
  · unfold OwnV
    rw [List.length_map, List.length_append, hm, List.map_append]
    exact h1
  · rcases h3 with h3 | h3
    · rw [h3]; exact hoff.1
    · rw [h3]
      intro e
      injection e with e
      have := hg.lt
      omega
theorem lnB_cells (k : Nat) (hk : k < 20) (u : UInt8) (ui : Int) (h : ui = bi u) : ((lnB k u).map bv).toArray = #[.int .u8 (65 + (k : Int)), .int .u8 ui, .int .u8 10] := by
  unfold lnB bv
  simp only [List.map_cons, List.map_nil]
  rw [bi_of _ (by omega), bi10, h]
  rfl
theorem bi46 : bi 46 = 46 := by rw [bi_nat]; rfl
def badB (n at_ c d : Int) : Prop := n < 3 ∨ 20 < n ∨ at_ < 1 ∨ n - 2 < at_ ∨ c = 10 ∨ d = 10 ∨ c = 0 ∨ d = 0 ∨ c = 46 ∨ d = 46
theorem byte_of {c : Int} (h : (Lit.int .u8 c).wf = true) : ∃ u : UInt8, c = bi u := by
  have h1 : 0 ≤ c ∧ c ≤ 255 := by simpa [Lit.wf, IntKind.min, IntKind.max, IntKind.signed, IntKind.bits] using h
  refine ⟨UInt8.ofNat c.toNat, ?_⟩
  rw [bi_of _ (by omega)]
  omega
set_option maxRecDepth 100000 in
set_option maxHeartbeats 6400000 in
theorem diff3Both_walk (a0 a1 a2 a3 : Int) (w : World) (w0 : (Lit.int .i64 a0).wf = true) (w1 : (Lit.int .i64 a1).wf = true) (w2 : (Lit.int .u8 a2).wf = true) (w3 : (Lit.int .u8 a3).wf = true) : Calls Try.prog 8 #[.int .i64 a0, .int .i64 a1, .int .u8 a2, .int .u8 a3] w (Yes w) := by
  have HF := Lib.hid (fun W => dfirst_any W)
  unfold Yes at HF
  have b0 : -9223372036854775808 ≤ a0 ∧ a0 ≤ 9223372036854775807 := by simpa [Lit.wf, IntKind.min, IntKind.max, IntKind.signed, IntKind.bits] using w0
  have b1 : -9223372036854775808 ≤ a1 ∧ a1 ≤ 9223372036854775807 := by simpa [Lit.wf, IntKind.min, IntKind.max, IntKind.signed, IntKind.bits] using w1
  obtain ⟨C, hC⟩ := byte_of w2
  obtain ⟨D, hD⟩ := byte_of w3
  clear w0 w1 w2 w3
  obtain ⟨b01, b02⟩ := b0
  obtain ⟨b11, b12⟩ := b1
  have HCC := Lib.hid hC
  have HDD := Lib.hid hD
  clear hC hD
  go_enter Try.func8, Try.ntmps8
  go_wp2_with fail
  refine (HF.out w).mono ?_
  rintro e v1 ⟨rfl, hb1⟩
  have HB1 := Lib.hid hb1
  clear hb1
  obtain ⟨bad, hbad⟩ : ∃ b : Bool, b = true ↔ badB a0 a1 a2 a3 := by
    by_cases h : badB a0 a1 a2 a3
    · exact ⟨true, ⟨fun _ => h, fun _ => rfl⟩⟩
    · exact ⟨false, ⟨fun e => (by cases e), fun e => absurd e h⟩⟩
  have HBAD := Lib.hid hbad
  clear hbad
  go_upto_region 3 with (fail)
  go_cut [58] from 19 to 58 (fun cv wx => cv = .bool bad ∧ v1 = wx)
  case first =>
    have yes : badB a0 a1 a2 a3 → bad = true := HBAD.out.2
    have no : ¬ badB a0 a1 a2 a3 → bad = false := fun h => by cases hb : bad with | false => rfl | true => exact absurd (HBAD.out.1 hb) h
    unfold badB at yes no
    by_cases y1 : a0 < 3
    · have ht : bad = true := yes (Or.inl y1)
      subst ht
      clear yes no
      go_wp2_with fail
      go_meet
      exact ⟨rfl, rfl⟩
    · skip
      by_cases y2 : 20 < a0
      · have ht : bad = true := yes (Or.inr (Or.inl y2))
        subst ht
        clear yes no
        go_wp2_with fail
        go_meet
        exact ⟨rfl, rfl⟩
      · skip
        by_cases y3 : a1 < 1
        · have ht : bad = true := yes (Or.inr (Or.inr (Or.inl y3)))
          subst ht
          clear yes no
          go_wp2_with fail
          go_meet
          exact ⟨rfl, rfl⟩
        · skip
          by_cases y4 : a0 - 2 < a1
          · have ht : bad = true := yes (Or.inr (Or.inr (Or.inr (Or.inl y4))))
            subst ht
            clear yes no
            have hw : IntKind.i64.wrap (a0 - 2) = a0 - 2 := by rw [IntKind.wrap_i64]; omega
            go_wp2_with fail
            go_meet
            exact ⟨rfl, rfl⟩
          · skip
            have hw : IntKind.i64.wrap (a0 - 2) = a0 - 2 := by rw [IntKind.wrap_i64]; omega
            by_cases y5 : a2 = 10
            · have ht : bad = true := yes (Or.inr (Or.inr (Or.inr (Or.inr (Or.inl y5)))))
              subst ht
              clear yes no
              have zt : (a2 == 10) = true := beq_iff_eq.2 y5
              clear y5
              have hw : IntKind.i64.wrap (a0 - 2) = a0 - 2 := by rw [IntKind.wrap_i64]; omega
              go_wp2_with fail
              go_meet
              exact ⟨rfl, rfl⟩
            · have zy5 : (a2 == 10) = false := beq_eq_false_iff_ne.2 y5
              by_cases y6 : a3 = 10
              · have ht : bad = true := yes (Or.inr (Or.inr (Or.inr (Or.inr (Or.inr (Or.inl y6))))))
                subst ht
                clear yes no
                have zt : (a3 == 10) = true := beq_iff_eq.2 y6
                clear y6
                have hw : IntKind.i64.wrap (a0 - 2) = a0 - 2 := by rw [IntKind.wrap_i64]; omega
                go_wp2_with fail
                go_meet
                exact ⟨rfl, rfl⟩
              · have zy6 : (a3 == 10) = false := beq_eq_false_iff_ne.2 y6
                by_cases y7 : a2 = 0
                · have ht : bad = true := yes (Or.inr (Or.inr (Or.inr (Or.inr (Or.inr (Or.inr (Or.inl y7)))))))
                  subst ht
                  clear yes no
                  have zt : (a2 == 0) = true := beq_iff_eq.2 y7
                  clear y7
                  have hw : IntKind.i64.wrap (a0 - 2) = a0 - 2 := by rw [IntKind.wrap_i64]; omega
                  go_wp2_with fail
                  go_meet
                  exact ⟨rfl, rfl⟩
                · have zy7 : (a2 == 0) = false := beq_eq_false_iff_ne.2 y7
                  by_cases y8 : a3 = 0
                  · have ht : bad = true := yes (Or.inr (Or.inr (Or.inr (Or.inr (Or.inr (Or.inr (Or.inr (Or.inl y8))))))))
                    subst ht
                    clear yes no
                    have zt : (a3 == 0) = true := beq_iff_eq.2 y8
                    clear y8
                    have hw : IntKind.i64.wrap (a0 - 2) = a0 - 2 := by rw [IntKind.wrap_i64]; omega
                    go_wp2_with fail
                    go_meet
                    exact ⟨rfl, rfl⟩
                  · have zy8 : (a3 == 0) = false := beq_eq_false_iff_ne.2 y8
                    by_cases y9 : a2 = 46
                    · have ht : bad = true := yes (Or.inr (Or.inr (Or.inr (Or.inr (Or.inr (Or.inr (Or.inr (Or.inr (Or.inl y9)))))))))
                      subst ht
                      clear yes no
                      have zt : (a2 == 46) = true := beq_iff_eq.2 y9
                      clear y9
                      have hw : IntKind.i64.wrap (a0 - 2) = a0 - 2 := by rw [IntKind.wrap_i64]; omega
                      go_wp2_with fail
                      go_meet
                      exact ⟨rfl, rfl⟩
                    · have zy9 : (a2 == 46) = false := beq_eq_false_iff_ne.2 y9
                      by_cases y10 : a3 = 46
                      · have ht : bad = true := yes (Or.inr (Or.inr (Or.inr (Or.inr (Or.inr (Or.inr (Or.inr (Or.inr (Or.inr (y10))))))))))
                        subst ht
                        clear yes no
                        have zt : (a3 == 46) = true := beq_iff_eq.2 y10
                        clear y10
                        have hw : IntKind.i64.wrap (a0 - 2) = a0 - 2 := by rw [IntKind.wrap_i64]; omega
                        go_wp2_with fail
                        go_meet
                        exact ⟨rfl, rfl⟩
                      · have zy10 : (a3 == 46) = false := beq_eq_false_iff_ne.2 y10
                        have ht : bad = false := no (by rintro (h | h | h | h | h | h | h | h | h | h) <;> contradiction)
                        subst ht
                        clear yes no
                        go_wp2_with fail
                        go_meet
                        exact ⟨rfl, rfl⟩
  case rest =>
    obtain ⟨rfl, rfl⟩ := hcut
    cases bad with
    | true =>
      go_wp2_with fail
      refine (HF.out v1).mono ?_
      rintro e v2 ⟨rfl, hb2⟩
      have HB2 := Lib.hid (HB1.out.trans (hb2.mono HB1.out.size))
      go_wp2_with fail
      go_ret
      exact ⟨rfl, HB2.out⟩
    | false =>
      have hnb : ¬ badB a0 a1 a2 a3 := fun h => by have := HBAD.out.2 h; cases this
      unfold badB at hnb
      obtain ⟨N, hN⟩ : ∃ N : Nat, a0 = (N : Int) := ⟨a0.toNat, by omega⟩
      obtain ⟨T, hT⟩ : ∃ T : Nat, a1 = (T : Int) := ⟨a1.toNat, by omega⟩
      subst hN hT
      have h3 : 3 ≤ N ∧ N ≤ 20 ∧ 1 ≤ T ∧ T + 2 ≤ N := by omega
      have hne : ∀ (k : Nat) (u : UInt8), k < 256 → bi u ≠ (k : Int) → u ≠ UInt8.ofNat k := fun k u hk h e => h (by rw [e, bi_of k hk])
      have HALL := Lib.hid (both_all (n := N) (at_ := T) (c := C) (d := D) h3.2.1 h3.2.2.2 ⟨hne 10 C (by omega) (by have := HCC.out; omega), hne 0 C (by omega) (by have := HCC.out; omega), hne 46 C (by omega) (by have := HCC.out; omega)⟩ ⟨hne 10 D (by omega) (by have := HDD.out; omega), hne 0 D (by omega) (by have := HDD.out; omega), hne 46 D (by omega) (by have := HDD.out; omega)⟩)
      clear hnb hne HBAD
      obtain ⟨h31, h32, h33, h34⟩ := h3
      go_wp2_with fail
      go_loopw [9, 10, 11, 12] (fun x y z q wr => ∃ i : Nat, i ≤ N ∧ q = .int .i64 (i : Int) ∧ Tri3b wr v1.heap.size x (bytesB T 46 i) y (bytesB T C i) z (bytesB T D i) ∧ Below v1.heap.size v1 wr) (fun _ _ _ q _ => N - (intOf q).toNat)
      case atStart => exact ⟨0, Nat.zero_le _, rfl, Tri3b.nil_ _ _, Below.refl _ _⟩
      case round =>
        obtain ⟨i, hi, rfl, htri, hb⟩ := hrel
        have HTR := Lib.hid htri
        have HB := Lib.hid hb
        have hwz := hb.size
        have L1 := bytesB_len T 46 i
        have L2 := bytesB_len T C i
        have L3 := bytesB_len T D i
        clear htri hb
        have z0 : (0 : Int) ≤ (i : Int) := by omega
        by_cases hlt : i < N
        · have z1 : (i : Int) < (N : Int) := by omega
          go_upto_region 10 with (fail)
          obtain ⟨wl, hwl⟩ : ∃ W, W = wr.alloc (.cells #[.int .u8 (65 + (i : Int)), .int .u8 46, .int .u8 10] 5) := ⟨_, rfl⟩
          obtain ⟨g, hg⟩ : ∃ k, k = wr.heap.size := ⟨_, rfl⟩
          rw [← hwl]
          try rw [← hg]
          have HBL : Hid (Below v1.heap.size v1 wl) := by unfold Hid; rw [hwl]; exact HB.out.alloc hwz _
          have HGL : Hid (Blk wl g 5 #[.int .u8 (65 + (i : Int)), .int .u8 46, .int .u8 10]) := by unfold Hid; rw [hwl, hg]; exact Blk.new wr _ _
          have HTL : Hid (Tri3b wl v1.heap.size u9 (bytesB T 46 i) u10 (bytesB T C i) u11 (bytesB T D i)) := by unfold Hid; rw [hwl]; exact HTR.out.below ((Below.refl _ _).alloc (Nat.le_refl _) _)
          have HOF : Hid (Off3 g u9 u10 u11) := by unfold Hid; rw [hg]; exact HTR.out.off
          have HGS : Hid (v1.heap.size ≤ g) := by unfold Hid; rw [hg]; exact hwz
          have hwl2 := HBL.out.size
          have C46 := lnB_cells i (by omega) 46 46 bi46.symm
          have CC := lnB_cells i (by omega) C a2 HCC.out
          have CD := lnB_cells i (by omega) D a3 HDD.out
          have H46 := Lib.hid C46.symm
          have HC2 := Lib.hid CC.symm
          have HD2 := Lib.hid CD.symm
          clear hwl hg C46 CC CD
          by_cases hat : i = T
          · have e1 : ((i : Int) == (T : Int)) = true := beq_iff_eq.2 (by omega)
            have S1 := Lib.hid (bytesB_succ T 46 i)
            have S2 := Lib.hid (bytesB_succ T C i)
            have S3 := Lib.hid (bytesB_succ T D i)
            rw [if_pos hat] at S1 S2 S3
            as_aux_lemma =>
            go_upto_region 11 with (at_builtin; refine append_tri3b rfl (.tmp 69) (.tmp 70) rfl wl v1.heap.size u9 u10 u11 _ _ _ rfl HTL.out g _ HGL.out HOF.out (lnB i 46) 3 rfl H46.out rfl (by omega) HBL.out.size ?_; intro x1 wa1 ht hg ho hb; have HT1 := Lib.hid ht.rot; have HG1 := Lib.hid hg; have HO1 := Lib.hid ho; have HBa1 := Lib.hid (HBL.out.trans hb); have hw1 := HBa1.out.size; clear ht hg ho hb)
            have HO1r : Hid (Off3 g u10 u11 x1) := ⟨HO1.out.2.1, HO1.out.2.2, HO1.out.1⟩
            have k1 := HG1.out.cell 1
            have kf1 := HG1.out.frozen 1
            go_upto_region 13 with (fail)
            obtain ⟨wb, hwb⟩ : ∃ W, W = wa1.setCell ⟨g, 1, none⟩ (.int .u8 a2) := ⟨_, rfl⟩
            try rw [← hwb]
            have HTb : Hid (Tri3b wb v1.heap.size u10 (bytesB T C i) u11 (bytesB T D i) x1 (bytesB T 46 i ++ lnB i 46)) := by unfold Hid; rw [hwb]; exact HT1.out.set_ HO1r.out 1 _
            have HGb : Hid (Blk wb g 5 #[.int .u8 (65 + (i : Int)), .int .u8 a2, .int .u8 10]) := by unfold Hid; rw [hwb]; have hq := HG1.out.set_ 1 (.int .u8 a2); simp at hq; exact hq
            have HBb : Hid (Below v1.heap.size v1 wb) := by unfold Hid; rw [hwb]; exact HBa1.out.setCell HGS.out _
            clear hwb k1 kf1
            go_upto_region 14 with (at_builtin; refine append_tri3b rfl (.tmp 78) (.tmp 79) rfl wb v1.heap.size u10 u11 x1 _ _ _ rfl HTb.out g _ HGb.out HO1r.out (lnB i C) 3 rfl HC2.out rfl (by omega) HBb.out.size ?_; intro x2 wa2 ht hg ho hb; have HT2 := Lib.hid ht.rot; have HG2 := Lib.hid hg; have HO2 := Lib.hid ho; have HBa2 := Lib.hid (HBb.out.trans hb); have hw2 := HBa2.out.size; clear ht hg ho hb)
            have HO2r : Hid (Off3 g u11 x1 x2) := ⟨HO2.out.2.1, HO2.out.2.2, HO2.out.1⟩
            have k1 := HG2.out.cell 1
            have kf1 := HG2.out.frozen 1
            go_upto_region 16 with (fail)
            obtain ⟨wd, hwd⟩ : ∃ W, W = wa2.setCell ⟨g, 1, none⟩ (.int .u8 a3) := ⟨_, rfl⟩
            try rw [← hwd]
            have HTd : Hid (Tri3b wd v1.heap.size u11 (bytesB T D i) x1 (bytesB T 46 i ++ lnB i 46) x2 (bytesB T C i ++ lnB i C)) := by unfold Hid; rw [hwd]; exact HT2.out.set_ HO2r.out 1 _
            have HGd : Hid (Blk wd g 5 #[.int .u8 (65 + (i : Int)), .int .u8 a3, .int .u8 10]) := by unfold Hid; rw [hwd]; have hq := HG2.out.set_ 1 (.int .u8 a3); simp at hq; exact hq
            have HBd : Hid (Below v1.heap.size v1 wd) := by unfold Hid; rw [hwd]; exact HBa2.out.setCell HGS.out _
            clear hwd k1 kf1
            go_wp2_with (at_builtin; refine append_tri3b rfl (.tmp 87) (.tmp 88) rfl wd v1.heap.size u11 x1 x2 _ _ _ rfl HTd.out g _ HGd.out HO2r.out (lnB i D) 3 rfl HD2.out rfl (by omega) HBd.out.size ?_; intro x3 wa3 ht hg ho hb; have HT3 := Lib.hid ht.rot; have HG3 := Lib.hid hg; have HO3 := Lib.hid ho; have HBa3 := Lib.hid (HBd.out.trans hb); have hw3 := HBa3.out.size; clear ht hg ho hb)
            go_roundw
            case rel => exact ⟨i + 1, by omega, by go_num, by rw [S1.out, S2.out, S3.out]; exact HT3.out, HBa3.out⟩
            case measure => simp [intOf]; omega
          · have e1 : ((i : Int) == (T : Int)) = false := beq_eq_false_iff_ne.2 (by omega)
            have e2 : ¬ (i : Int) = (T : Int) := by omega
            have S1 := Lib.hid (bytesB_succ T 46 i)
            have S2 := Lib.hid (bytesB_succ T C i)
            have S3 := Lib.hid (bytesB_succ T D i)
            rw [if_neg hat] at S1 S2 S3
            as_aux_lemma =>
            go_upto_region 11 with (at_builtin; refine append_tri3b rfl (.tmp 69) (.tmp 70) rfl wl v1.heap.size u9 u10 u11 _ _ _ rfl HTL.out g _ HGL.out HOF.out (lnB i 46) 3 rfl H46.out rfl (by omega) HBL.out.size ?_; intro x1 wa1 ht hg ho hb; have HT1 := Lib.hid ht.rot; have HG1 := Lib.hid hg; have HO1 := Lib.hid ho; have HBa1 := Lib.hid (HBL.out.trans hb); have hw1 := HBa1.out.size; clear ht hg ho hb)
            have HO1r : Hid (Off3 g u10 u11 x1) := ⟨HO1.out.2.1, HO1.out.2.2, HO1.out.1⟩
            go_upto_region 13 with (fail)
            go_upto_region 14 with (at_builtin; refine append_tri3b rfl (.tmp 78) (.tmp 79) rfl wa1 v1.heap.size u10 u11 x1 _ _ _ rfl HT1.out g _ HG1.out HO1r.out (lnB i 46) 3 rfl H46.out rfl (by omega) HBa1.out.size ?_; intro x2 wa2 ht hg ho hb; have HT2 := Lib.hid ht.rot; have HG2 := Lib.hid hg; have HO2 := Lib.hid ho; have HBa2 := Lib.hid (HBa1.out.trans hb); have hw2 := HBa2.out.size; clear ht hg ho hb)
            have HO2r : Hid (Off3 g u11 x1 x2) := ⟨HO2.out.2.1, HO2.out.2.2, HO2.out.1⟩
            go_upto_region 16 with (fail)
            go_wp2_with (at_builtin; refine append_tri3b rfl (.tmp 87) (.tmp 88) rfl wa2 v1.heap.size u11 x1 x2 _ _ _ rfl HT2.out g _ HG2.out HO2r.out (lnB i 46) 3 rfl H46.out rfl (by omega) HBa2.out.size ?_; intro x3 wa3 ht hg ho hb; have HT3 := Lib.hid ht.rot; have HG3 := Lib.hid hg; have HO3 := Lib.hid ho; have HBa3 := Lib.hid (HBa2.out.trans hb); have hw3 := HBa3.out.size; clear ht hg ho hb)
            go_roundw
            case rel => exact ⟨i + 1, by omega, by go_num, by rw [S1.out, S2.out, S3.out]; exact HT3.out, HBa3.out⟩
            case measure => simp [intOf]; omega
        · obtain rfl : i = N := by omega
          have z1 : ¬ (i : Int) < (i : Int) := by omega
          have HM := Lib.hid (merge_any _ _ _ _ _ _ wr HTR.out.1.slv HTR.out.2.1.slv HTR.out.2.2.1.slv (by omega))
          unfold MrgP at HM
          rw [HALL.out.1, HALL.out.2.1] at HM
          have HBW : Hid (Below w.heap.size w wr) := HB1.out.trans (HB.out.mono HB1.out.size)
          have HTA := Lib.hid HTR.out.2.1.slv
          by_cases hcd : C = D
          · have e1 : (a2 == a3) = true := by rw [HCC.out, HDD.out, hcd]; exact beq_self_eq_true _
            have e2 : a2 = a3 := by rw [HCC.out, HDD.out, hcd]
            rw [HALL.out.2.2 hcd, decide_eq_true hcd] at HM
            clear L1 L2 L3 hcd
            as_aux_lemma =>
            go_wp2_with fail
            refine HM.out.mono ?_
            rintro e w4 ⟨v4, rfl, ho, hb⟩
            have HO4 := Lib.hid ho.slv
            have HTA4 := Lib.hid (HTA.out.below hb)
            have HB4 := Lib.hid (HBW.out.trans (hb.mono HBW.out.size))
            clear ho hb
            go_wp2_with fail
            refine (HF.out w4).mono ?_
            rintro e w5 ⟨rfl, hb⟩
            have HB5 := Lib.hid (HB4.out.trans (hb.mono HB4.out.size))
            have HY : Hid (Calls Try.prog 18 #[v4, u10] w5 fun e w' => e = .returned (.bool (bytesB T C i == bytesB T C i)) ∧ w5 = w') := bytes_any _ _ _ _ w5 (HO4.out.below hb) (HTA4.out.below hb)
            rw [beq_self_eq_true] at HY
            clear hb
            go_wp2_with fail
            refine HY.out.mono ?_
            rintro e w' ⟨rfl, rfl⟩
            go_wp2_with fail
            go_ret
            exact ⟨rfl, HB5.out⟩
          · have hne : a2 ≠ a3 := by rw [HCC.out, HDD.out]; exact fun e => hcd (bi_inj e)
            have e1 : (a2 == a3) = false := beq_eq_false_iff_ne.2 hne
            have hok := HALL.out.1
            rw [decide_eq_false hcd] at hok HM
            rw [mBs_none hok] at HM
            clear L1 L2 L3 hcd hok
            as_aux_lemma =>
            go_wp2_with fail
            refine HM.out.mono ?_
            rintro e w4 ⟨v4, rfl, ho, hb⟩
            obtain ⟨A4, c4, rfl, _, _, _⟩ := ho.slv.len
            have HB4 := Lib.hid (HBW.out.trans (hb.mono HBW.out.size))
            clear ho hb
            simp only [List.map_nil, List.length_nil]
            go_wp2_with fail
            refine (HF.out w4).mono ?_
            rintro e w5 ⟨rfl, hb⟩
            have HB5 := Lib.hid (HB4.out.trans (hb.mono HB4.out.size))
            clear hb
            go_wp2_with fail
            go_ret
            exact ⟨rfl, HB5.out⟩
end Go.Proofs.Ytbejgljljjjjcaa.Ln
