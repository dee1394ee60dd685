/- The walk of DeltaSteps. -/
import Derived.Test.YthphplmcojdpeaaDv0
import Derived.Test.YthphplmcojdpeaaDv1
set_option linter.unusedVariables false
set_option linter.unusedSimpArgs false
namespace Go.Proofs.Ythphplmcojdpeaa
open Go.RowKit

theorem own_lit {w : World} {B : Nat} (bs : List UInt8) (cs : Array Value) (hcs : cs.toList = bs.map bv) (n : Nat) (hn : bs.length = n) (h1 : n ≤ 1000) (hB : B ≤ w.heap.size) : Own (w.alloc (.cells cs 5)) B (.slice (some ⟨w.heap.size, 0, none⟩) n n) bs := by
  subst hn
  have e : (bs.map bv).length = bs.length := List.length_map ..
  have h := OwnV.mk (E := 5) (vs := bs.map bv) (c := bs.length) (B := B) hB (heap_alloc_new w (.cells cs 5)) (by rw [e]; exact Nat.le_refl _) (by unfold maxLen; omega) (by rw [← Array.length_toList, hcs, e]) (by rw [hcs, List.take_of_length_le (Nat.le_refl _)])
  rw [e] at h
  exact h.own
theorem append_bytes_w {ops : Array Oper} {rest : List Oper} {o : Oper} {a : Act} {Q : Exit → Act → World → Prop} (hgd : Region.wanted o (yielded ops a.tmps) = true) (s x : Operand)
    (ho : o.op = .call { callee := .builtin .append, args := #[s, x], argTypes := #[22, 22] }) (w : World) (B : Nat) (v : Value) (bs : List UInt8) (hs : a.eval s = v) (hown : Own w B v bs)
    (B' : Nat) (A : Option Addr) (m c : Nat) (news : List UInt8) (hx : a.eval x = .slice A m c) (hr : Reads w B' 1 A m (news.map bv)) (hsmall : bs.length + m ≤ 140737488355328) (hB : B ≤ w.heap.size)
    (h : ∀ v' w', Own w' B v' (bs ++ news) → Below B w w' → wpList Try.prog ops Q rest (a.put o.dst v') w') : wpList Try.prog ops Q (o :: rest) a w := by
  obtain ⟨i0, hi, hz0, hz1, hz2⟩ := info_parts info5
  have hm : news.length = m := by have := hr.1; simpa using this
  unfold wpList
  rw [if_pos hgd]
  left
  refine wp_append_any w s x 22 ho B 5 i0 (.int .u8 0) 1 1 Try.underlying22 hi hz0 hz1 hz2 rfl (by decide) v bs.length _ hs hown B' A m c _ hx hr (bv_one news) (by unfold maxLen; omega) (by omega) hB ?_
  intro v' w' h1 h2 _
  refine h v' w' ?_ ((Below.refl _ _).grown h2 hB (fun k hk => (hown.lt k hk).1))
  unfold Own
  rw [List.length_append, hm, List.map_append]
  exact h1
theorem conv8 (n : Nat) : IntKind.u8.wrap (n : Int) = bi (UInt8.ofNat n) := byte_of n
theorem and127_ (n : Nat) (h : n ≤ 72057594037927936) : bits .and .i64 (n : Int) 127 = (n : Int) % 128 := and127 n h
theorem or128_ (n : Nat) : bits .or .i64 ((n : Int) % 128) 128 = (n : Int) % 128 + 128 := or128i n

set_option maxRecDepth 100000 in
set_option maxHeartbeats 800000 in
theorem lnum_any (n : Nat) (w : World) (h : n < 16384) : Calls Try.prog 19 #[.int .i64 (n : Int)] w (OwnPost w (putL n)) := by
  have h0 : (0 : Int) ≤ (n : Int) := by omega
  by_cases h1 : n < 128
  · have h1i : (n : Int) < 128 := by omega
    have hc := conv8 n
    obtain ⟨x, hx⟩ : ∃ x, bi (UInt8.ofNat n) = x := ⟨_, rfl⟩
    rw [hx] at hc
    have HO : Hid (Own (w.alloc (.cells #[.int .u8 x] 5)) w.heap.size (.slice (some ⟨w.heap.size, 0, none⟩) 1 1) (putL n)) := by
      unfold Hid
      rw [putL_lt h1]
      exact own_lit _ _ (by rw [← hx]; rfl) 1 rfl (by omega) (Nat.le_refl _)
    clear hx h1 h
    go_enter Try.func19, Try.ntmps19
    go_wp2
    go_ret
    exact ⟨_, rfl, HO.out, (Below.refl _ _).alloc (Nat.le_refl _) _⟩
  · have h1i : (128 : Int) ≤ (n : Int) := by omega
    have ha := and127 n (by omega)
    have ho := or128i n
    have hc1 : IntKind.u8.wrap ((n : Int) % 128 + 128) = bi (UInt8.ofNat (n % 128 + 128)) := by
      rw [show (n : Int) % 128 + 128 = ((n % 128 + 128 : Nat) : Int) from by omega]
      exact conv8 _
    have hc2 : IntKind.u8.wrap ((n : Int) / 128) = bi (UInt8.ofNat (n / 128)) := by
      rw [show (n : Int) / 128 = ((n / 128 : Nat) : Int) from by omega]
      exact conv8 _
    obtain ⟨x, hx⟩ : ∃ x, bi (UInt8.ofNat (n % 128 + 128)) = x := ⟨_, rfl⟩
    obtain ⟨y, hy⟩ : ∃ x, bi (UInt8.ofNat (n / 128)) = x := ⟨_, rfl⟩
    rw [hx] at hc1
    rw [hy] at hc2
    have HO : Hid (Own (w.alloc (.cells #[.int .u8 x, .int .u8 y] 5)) w.heap.size (.slice (some ⟨w.heap.size, 0, none⟩) 2 2) (putL n)) := by
      unfold Hid
      rw [putL_ge (show 128 ≤ n by omega), putL_lt (show n / 128 < 128 by omega)]
      exact own_lit _ _ (by rw [← hx, ← hy]; rfl) 2 rfl (by omega) (Nat.le_refl _)
    have hsh : (n : Int) / 2 ^ 7 = (n : Int) / 128 := by rfl
    clear hx hy h1 h
    go_enter Try.func19, Try.ntmps19
    go_wp2
    go_ret
    exact ⟨_, rfl, HO.out, (Below.refl _ _).alloc (Nat.le_refl _) _⟩

/-- The two deltas of the law. -/
theorem steps_one (a b : List UInt8) (ha : a.length ≤ 1000) (h0 : 0 < b.length) (hb : b.length ≤ 1000) : applyD a (putL a.length ++ putL b.length ++ [2] ++ putL b.length ++ b) = (b, 0) := by
  have h := apply_enc a [.ins b] b.length (by omega) (fun s hs => by simp at hs; subst hs; exact ⟨h0, by omega⟩) (by simp [tolds, toldS]) (by omega)
  have e : putL a.length ++ putL b.length ++ [2] ++ putL b.length ++ b = headD a.length b.length ++ encs [.ins b] := by simp [headD, encs, encS]
  rw [e, h]
  simp [tolds, toldS]
theorem steps_all (a b : List UInt8) (ha0 : 0 < a.length) (ha : a.length ≤ 1000) (h0 : 0 < b.length) (hb : b.length ≤ 1000) :
    applyD a (putL a.length ++ putL (a.length + b.length) ++ [2] ++ putL b.length ++ b ++ [1, 0] ++ putL a.length) = (b ++ a, 0) := by
  have h := apply_enc a [.ins b, .cop 0 a.length] (a.length + b.length) (by omega) (fun s hs => by
    simp at hs
    rcases hs with rfl | rfl
    · exact ⟨h0, by omega⟩
    · exact ⟨ha0, by omega⟩) (by simp [tolds, toldS]; omega) (by omega)
  have e : putL a.length ++ putL (a.length + b.length) ++ [2] ++ putL b.length ++ b ++ [1, 0] ++ putL a.length = headD a.length (a.length + b.length) ++ encs [.ins b, .cop 0 a.length] := by
    simp [headD, encs, encS, putL_lt (show (0 : Nat) < 128 by omega)]
  rw [e, h]
  simp [tolds, toldS]

set_option maxRecDepth 100000 in
set_option maxHeartbeats 6400000 in
theorem steps_any (va vb : Value) (a b : List UInt8) (w : World) (ha : Sl w va a) (hb : Sl w vb b) : Calls Try.prog 6 #[va, vb] w (Yes w) := by
  obtain ⟨A, ca, rfl, hla, hca, hIa⟩ := ha.len
  obtain ⟨B, cb, rfl, hlb, hcb, hIb⟩ := hb.len
  unfold maxLen at hca hcb
  have HSA := Lib.hid ha
  have HSB := Lib.hid hb
  have HP1 : Hid (a.length ≤ 1000 → 0 < b.length → b.length ≤ 1000 → applyD a (putL a.length ++ putL b.length ++ [2] ++ putL b.length ++ b) = (b, 0)) := steps_one a b
  have HP2 : Hid (0 < a.length → a.length ≤ 1000 → 0 < b.length → b.length ≤ 1000 → applyD a (putL a.length ++ putL (a.length + b.length) ++ [2] ++ putL b.length ++ b ++ [1, 0] ++ putL a.length) = (b ++ a, 0)) := steps_all a b
  have HRA : Hid (∀ W, Below w.heap.size w W → Reads W W.heap.size 1 A a.length (a.map bv)) := fun W hW => (hIa.below hW).reads
  have HRB : Hid (∀ W, Below w.heap.size w W → Reads W W.heap.size 1 B b.length (b.map bv)) := fun W hW => (hIb.below hW).reads
  obtain ⟨la, hLA⟩ : ∃ l, a.length = l := ⟨_, rfl⟩
  obtain ⟨lb, hLB⟩ : ∃ l, b.length = l := ⟨_, rfl⟩
  rw [hLA] at hla HSA HP1 HP2 HRA ⊢
  rw [hLB] at hlb HSB HP1 HP2 HRB ⊢
  have HLA := Lib.hid hLA
  have HLB := Lib.hid hLB
  clear ha hb hIa hIb hLA hLB
  by_cases hg : (1 ≤ la ∧ la ≤ 1000) ∧ 1 ≤ lb ∧ lb ≤ 1000
  · obtain ⟨⟨g1, g2⟩, g3, g4⟩ := hg
    have g1i : (1 : Int) ≤ (la : Int) := by omega
    have g2i : (la : Int) ≤ 1000 := by omega
    have g3i : (1 : Int) ≤ (lb : Int) := by omega
    have g4i : (lb : Int) ≤ 1000 := by omega
    have HP1' := Lib.hid (HP1.out g2 (by omega) g4)
    have HP2' := Lib.hid (HP2.out (by omega) g2 (by omega) g4)
    have HNA := Lib.hid (fun W => lnum_any la W (by omega))
    have HNB := Lib.hid (fun W => lnum_any lb W (by omega))
    have HNC : Hid (∀ W, Calls Try.prog 19 #[.int .i64 ((la : Int) + (lb : Int))] W (OwnPost W (putL (la + lb)))) := fun W => lnum_any (la + lb) W (by omega)
    have h9a := putL_len9 (show la ≤ 72057594037927936 by omega)
    have h9b := putL_len9 (show lb ≤ 72057594037927936 by omega)
    have h9c := putL_len9 (show la + lb ≤ 72057594037927936 by omega)
    have hgl : la ≤ 1000 := g2
    have hgb : lb ≤ 1000 := g4
    clear HP1 HP2 g1 g2 g3 g4
    go_enter Try.func6, Try.ntmps6
    go_wp2_with fail
    refine (first_any w).mono ?_
    rintro e w1 ⟨rfl, hb1⟩
    have HB1 := Lib.hid hb1
    clear hb1
    go_wp2_with fail
    refine (HNA.out w1).mono ?_
    rintro e w2 ⟨v2, rfl, ho2, hb2⟩
    have HB2 := Lib.hid (HB1.out.trans (hb2.mono HB1.out.size))
    have HS2 := Lib.hid ho2.sl
    obtain ⟨An, cn, rfl, hln, hcn, _⟩ := ho2.sl.len
    obtain ⟨ln, hLN⟩ : ∃ l, (putL la).length = l := ⟨_, rfl⟩
    rw [hLN] at h9a hln HS2 ⊢
    have HLN := Lib.hid hLN
    clear ho2 hb2 hLN
    go_wp2_with fail
    refine (HNB.out w2).mono ?_
    rintro e w3 ⟨v3, rfl, ho3, hb3⟩
    have HB3 := Lib.hid (HB2.out.trans (hb3.mono HB2.out.size))
    have HS3 := Lib.hid (HS2.out.below hb3)
    have HM3 := Lib.hid ho3.sl
    obtain ⟨Am, cm, rfl, hlm, hcm, _⟩ := ho3.sl.len
    obtain ⟨lm, hLM⟩ : ∃ l, (putL lb).length = l := ⟨_, rfl⟩
    rw [hLM] at h9b hlm HM3 ⊢
    have HLM := Lib.hid hLM
    clear ho3 hb3 hLM
    go_wp2_with fail
    refine (HNC.out w3).mono ?_
    rintro e w4 ⟨v4, rfl, ho4, hb4⟩
    have HB4 := Lib.hid (HB3.out.trans (hb4.mono HB3.out.size))
    have hsn := HS3.out.below hb4
    have hsm := HM3.out.below hb4
    have hsl := ho4.sl
    obtain ⟨Al, cl, rfl, hll, hcl, _⟩ := hsl.len
    obtain ⟨ll, hLL⟩ : ∃ l, (putL (la + lb)).length = l := ⟨_, rfl⟩
    rw [hLL] at h9c hll hsl ⊢
    have HLL := Lib.hid hLL
    unfold maxLen at hcn hcm hcl
    have hrd : ∀ (v : Value) (A : Option Addr) (l c : Nat) (bs : List UInt8), Sl w4 (.slice A l c) bs → bs.length = l → ∀ W, Below w4.heap.size w4 W → Reads W W.heap.size 1 A l (bs.map bv) := fun _ A l c bs h hl W hW => by
      obtain ⟨A', c', he, _, _, hI, _⟩ := h.below hW
      injection he with e1 e2 e3
      subst e1
      have := hI.reads
      rwa [hl] at this
    have HRN := Lib.hid (hrd (.bool true) _ _ _ _ hsn HLN.out)
    have HRM := Lib.hid (hrd (.bool true) _ _ _ _ hsm HLM.out)
    have HRL := Lib.hid (hrd (.bool true) _ _ _ _ hsl HLL.out)
    have hle4 := HB4.out.size
    have HE0 := Lib.hid (own_lit (w := w4) (B := w4.heap.size) [] #[] rfl 0 rfl (by omega) (Nat.le_refl _))
    have HBE := Lib.hid ((Below.refl w4.heap.size w4).alloc (Nat.le_refl _) (.cells #[] 5))
    have HUP : Hid (∀ W B', w.heap.size ≤ B' → Below B' w4 W → Below w.heap.size w W) := fun W B' hB' hW => HB4.out.trans (hW.mono hB')
    clear hb4 ho4 hsn hsm hsl hrd hLL
    go_wp2_with (first
      | (at_builtin; refine append_bytes rfl (.tmp 72) (.tmp 73) rfl w15 w9.heap.size v15 _ rfl HO15.out _ An ln cn (putL la) rfl (HRN.out w15 (HU9.out _ HB15.out)) (by have := HLN.out; have := HLM.out; have := HLL.out; have := HLB.out; simp only [List.length_append, List.length_nil, List.length_cons]; omega) HB15.out.size ?_; intro v16 w16 ho16 hb16; have HO16 := Lib.hid ho16; have HB16 := Lib.hid (HB15.out.trans hb16); clear ho16 hb16)
      | (at_builtin; refine append_bytes rfl (.tmp 70) (.tmp 71) rfl (w14.alloc (.cells #[.int .u8 1, .int .u8 0] 5)) w9.heap.size v14 _ rfl (HO14.out.alloc _) _ _ 2 2 [1, 0] rfl (reads_new w14 [1, 0] _ (by unfold bv bi; rfl) 2 rfl) (by have := HLN.out; have := HLM.out; have := HLL.out; have := HLB.out; simp only [List.length_append, List.length_nil, List.length_cons]; omega) (HB14.out.alloc HB14.out.size _).size ?_; intro v15 w15 ho15 hb15; have HO15 := Lib.hid ho15; have HB15 := Lib.hid ((HB14.out.alloc HB14.out.size _).trans hb15); clear ho15 hb15)
      | (at_builtin; refine append_bytes rfl (.tmp 68) (.tmp 69) rfl w13 w9.heap.size v13 _ rfl HO13.out _ B lb cb b rfl (HRB.out w13 (HUP.out w13 _ hle4 (HU9.out _ HB13.out))) (by have := HLN.out; have := HLM.out; have := HLL.out; have := HLB.out; simp only [List.length_append, List.length_nil, List.length_cons]; omega) HB13.out.size ?_; intro v14 w14 ho14 hb14; have HO14 := Lib.hid ho14; have HB14 := Lib.hid (HB13.out.trans hb14); clear ho14 hb14)
      | (at_builtin; refine append_bytes rfl (.tmp 65) (.tmp 66) rfl w12 w9.heap.size v12 _ rfl HO12.out _ Am lm cm (putL lb) rfl (HRM.out w12 (HU9.out _ HB12.out)) (by have := HLN.out; have := HLM.out; have := HLL.out; have := HLB.out; simp only [List.length_append, List.length_nil, List.length_cons]; omega) HB12.out.size ?_; intro v13 w13 ho13 hb13; have HO13 := Lib.hid ho13; have HB13 := Lib.hid (HB12.out.trans hb13); clear ho13 hb13)
      | (at_builtin; refine append_byte rfl (.tmp 63) (.tmp 64) rfl w11 w9.heap.size v11 _ rfl HO11.out _ 2 bi2 rfl (by have := HLN.out; have := HLM.out; have := HLL.out; have := HLB.out; simp only [List.length_append, List.length_nil, List.length_cons]; omega) HB11.out.size ?_; intro v12 w12 ho12 hb12; have HO12 := Lib.hid ho12; have HB12 := Lib.hid (HB11.out.trans hb12); clear ho12 hb12)
      | (at_builtin; refine append_bytes rfl (.tmp 61) (.tmp 62) rfl w10 w9.heap.size v10 _ rfl HO10.out _ Al ll cl (putL (la + lb)) rfl (HRL.out w10 (HU9.out _ HB10.out)) (by have := HLN.out; have := HLM.out; have := HLL.out; have := HLB.out; simp only [List.length_append, List.length_nil, List.length_cons]; omega) HB10.out.size ?_; intro v11 w11 ho11 hb11; have HO11 := Lib.hid ho11; have HB11 := Lib.hid (HB10.out.trans hb11); clear ho11 hb11)
      | (at_builtin; refine append_bytes rfl (.tmp 59) (.tmp 60) rfl _ w9.heap.size (.slice (some ⟨w9.heap.size, 0, none⟩) 0 0) [] rfl HE9.out _ An ln cn (putL la) rfl (HRN.out _ (HU9.out _ HBE9.out)) (by have := HLN.out; have := HLM.out; have := HLL.out; have := HLB.out; simp only [List.length_append, List.length_nil, List.length_cons]; omega) HBE9.out.size ?_; intro v10 w10 ho10 hb10; have HO10 := Lib.hid ho10; have HB10 := Lib.hid (HBE9.out.trans hb10); clear ho10 hb10)
      | (at_builtin; refine append_bytes rfl (.tmp 56) (.tmp 57) rfl w8 w4.heap.size v8 _ rfl HO8.out _ B lb cb b rfl (HRB.out w8 (HUP.out w8 _ hle4 HB8.out)) (by have := HLN.out; have := HLM.out; have := HLL.out; have := HLB.out; simp only [List.length_append, List.length_nil, List.length_cons]; omega) HB8.out.size ?_; intro v9 w9 ho9 hb9; have HO9 := Lib.hid ho9; have HB9 := Lib.hid (HB8.out.trans hb9); have HE9 := Lib.hid (own_lit (w := w9) (B := w9.heap.size) [] #[] rfl 0 rfl (by omega) (Nat.le_refl _)); have HBE9 := Lib.hid ((Below.refl w9.heap.size w9).alloc (Nat.le_refl _) (.cells #[] 5)); have HU9 : Hid (∀ W, Below w9.heap.size w9 W → Below w4.heap.size w4 W) := (fun W hW => HB9.out.trans (hW.mono HB9.out.size)); clear ho9 hb9)
      | (at_builtin; refine append_bytes rfl (.tmp 53) (.tmp 54) rfl w7 w4.heap.size v7 _ rfl HO7.out _ Am lm cm (putL lb) rfl (HRM.out w7 HB7.out) (by have := HLN.out; have := HLM.out; have := HLL.out; have := HLB.out; simp only [List.length_append, List.length_nil, List.length_cons]; omega) HB7.out.size ?_; intro v8 w8 ho8 hb8; have HO8 := Lib.hid ho8; have HB8 := Lib.hid (HB7.out.trans hb8); clear ho8 hb8)
      | (at_builtin; refine append_byte rfl (.tmp 51) (.tmp 52) rfl w6 w4.heap.size v6 _ rfl HO6.out _ 2 bi2 rfl (by have := HLN.out; have := HLM.out; have := HLL.out; have := HLB.out; simp only [List.length_append, List.length_nil, List.length_cons]; omega) HB6.out.size ?_; intro v7 w7 ho7 hb7; have HO7 := Lib.hid ho7; have HB7 := Lib.hid (HB6.out.trans hb7); clear ho7 hb7)
      | (at_builtin; refine append_bytes rfl (.tmp 49) (.tmp 50) rfl w5 w4.heap.size v5 _ rfl HO5.out _ Am lm cm (putL lb) rfl (HRM.out w5 HB5.out) (by have := HLN.out; have := HLM.out; have := HLL.out; have := HLB.out; simp only [List.length_append, List.length_nil, List.length_cons]; omega) HB5.out.size ?_; intro v6 w6 ho6 hb6; have HO6 := Lib.hid ho6; have HB6 := Lib.hid (HB5.out.trans hb6); clear ho6 hb6)
      | (at_builtin; refine append_bytes rfl (.tmp 47) (.tmp 48) rfl _ w4.heap.size (.slice (some ⟨w4.heap.size, 0, none⟩) 0 0) [] rfl HE0.out _ An ln cn (putL la) rfl (HRN.out _ HBE.out) (by have := HLN.out; have := HLM.out; have := HLL.out; have := HLB.out; simp only [List.length_append, List.length_nil, List.length_cons]; omega) HBE.out.size ?_; intro v5 w5 ho5 hb5; have HO5 := Lib.hid ho5; have HB5 := Lib.hid (HBE.out.trans hb5); clear ho5 hb5))
    have HBD := Lib.hid (HUP.out w16 _ hle4 (HU9.out _ HB16.out))
    have HD := Lib.hid (HO9.out.sl.below HB16.out)
    have HC := Lib.hid HO16.out.sl
    refine (apply_any _ _ a _ w16 (HSA.out.below HBD.out) HD.out).mono ?_
    rw [List.nil_append, HP1'.out]
    rintro e w17 ⟨v17, rfl, ho17, hb17⟩
    have HB17 := Lib.hid (HBD.out.trans (hb17.mono HBD.out.size))
    have HC17 := Lib.hid (HC.out.below hb17)
    have HX17 := Lib.hid ho17.sl
    clear ho17 hb17
    go_wp2_with fail
    refine (apply_any _ _ a _ w17 (HSA.out.below HB17.out) HC17.out).mono ?_
    rw [List.nil_append, HP2'.out]
    rintro e w18 ⟨v18, rfl, ho18, hb18⟩
    have HB18 := Lib.hid (HB17.out.trans (hb18.mono HB17.out.size))
    have HX18 := Lib.hid (HX17.out.below hb18)
    have HY18 := Lib.hid ho18.sl
    clear ho18 hb18
    go_wp2_with fail
    refine (first_then HB18.out HB18.out.size).mono ?_
    rintro e w19 ⟨rfl, hb19, hc19⟩
    have HB19 := Lib.hid hb19
    have HX19 := Lib.hid (HX18.out.below hc19)
    have HY19 := Lib.hid (HY18.out.below hc19)
    clear hb19 hc19
    go_wp2_with fail
    refine (bytes_any v17 _ b b w19 HX19.out (HSB.out.below HB19.out) true (beq_self_eq_true _)).mono ?_
    rintro e w' ⟨rfl, rfl⟩
    go_wp2_with fail
    refine (copyb_any _ b w19 (HSB.out.below HB19.out) (by rw [HLB.out]; omega)).mono ?_
    rintro e w20 ⟨v20, rfl, ho20, hb20⟩
    have HO20 := Lib.hid ho20
    have HB20 := Lib.hid (HB19.out.trans (hb20.mono HB19.out.size))
    have HY20 := Lib.hid (HY19.out.below hb20)
    have hz20 := hb20.size
    have hs20 : b.length + la ≤ 140737488355328 := by rw [HLB.out]; omega
    have HUP2 : Hid (∀ W, Below w19.heap.size w20 W → Sl W v18 (b ++ a)) := fun W hW => HY19.out.below (hb20.trans hW)
    have HUP3 : Hid (∀ W, Below w19.heap.size w20 W → Below w.heap.size w W) := fun W hW => HB19.out.trans ((hb20.trans hW).mono HB19.out.size)
    clear ho20 hb20
    go_wp2_with (at_builtin; refine append_bytes_w rfl (.tmp 104) (.tmp 105) rfl w20 w19.heap.size v20 _ rfl HO20.out _ A la ca a rfl (HRA.out w20 HB20.out) hs20 hz20 ?_; intro v21 w21 ho21 hb21; have HO21 := Lib.hid ho21.sl; have HY21 := Lib.hid (HUP2.out w21 hb21); have HB21 := Lib.hid (HUP3.out w21 hb21); clear ho21 hb21)
    refine (bytes_any v18 v21 _ _ w21 HY21.out HO21.out true (beq_self_eq_true _)).mono ?_
    rintro e w' ⟨rfl, rfl⟩
    go_wp2_with fail
    go_ret
    exact ⟨rfl, HB21.out⟩
  · have hor : (la : Int) < 1 ∨ (1 : Int) ≤ (la : Int) ∧ (1000 : Int) < (la : Int) ∨ (1 : Int) ≤ (la : Int) ∧ (la : Int) ≤ 1000 ∧ (lb : Int) < 1 ∨ (1 : Int) ≤ (la : Int) ∧ (la : Int) ≤ 1000 ∧ (1 : Int) ≤ (lb : Int) ∧ (1000 : Int) < (lb : Int) := by omega
    clear hg
    rcases hor with h1 | ⟨h1, h2⟩ | ⟨h1, h2, h3⟩ | ⟨h1, h2, h3, h4⟩
    all_goals
      go_enter Try.func6, Try.ntmps6
      go_wp2_with fail
      refine (first_any w).mono ?_
      rintro e w1 ⟨rfl, hb1⟩
      have HB1 := Lib.hid hb1
      clear hb1
      go_wp2_with fail
      refine (first_then HB1.out HB1.out.size).mono ?_
      rintro e w2 ⟨rfl, hb2, _⟩
      have HB2 := Lib.hid hb2
      clear hb2
      go_wp2_with fail
      go_ret
      exact ⟨rfl, HB2.out⟩
theorem deltaSteps_walk (a0 : Option Addr) (len0 cap0 : Nat) (z0 : List Int) (a1 : Option Addr) (len1 cap1 : Nat) (z1 : List Int) (w : World) (w0 : IsRow .u8 w a0 len0 cap0 z0) (w1 : IsRow .u8 w a1 len1 cap1 z1) :
    Calls Try.prog 6 #[.slice a0 len0 cap0, .slice a1 len1 cap1] w (Yes w) := by
  obtain ⟨bs, _, h⟩ := w0.sl
  obtain ⟨cs, _, h'⟩ := w1.sl
  exact steps_any _ _ bs cs w h h'
end Go.Proofs.Ythphplmcojdpeaa
