/- The walk of WireSorts. -/
import Derived.Test.YthopfbkkjfnhkaaT7
import Derived.BigFrame
namespace Go.Proofs.Ythopfbkkjfnhkaa
open Go.RowKit

/-- An append under a guard that holds. -/
theorem append_texts_w {ops : Array Oper} {rest : List Oper} {o : Oper} {a : Act} {Q : Exit → Act → World → Prop} (hgd : Region.wanted o (yielded ops a.tmps) = true) (s x : Operand)
    (ho : o.op = .call { callee := .builtin .append, args := #[s, x], argTypes := #[36, 36] }) (w : World) (B : Nat) (v : Value) (ts : List ByteArray) (hs : a.eval s = v) (hown : OwnV 9 w B v (ts.map sv))
    (B' : Nat) (A : Option Addr) (m c : Nat) (us : List ByteArray) (hx : a.eval x = .slice A m c) (hr : Reads w B' 1 A m (us.map sv)) (hsmall : ts.length + m ≤ 2000000) (hB : B ≤ w.heap.size)
    (h : ∀ v' w', OwnV 9 w' B v' ((ts ++ us).map sv) → Below B w w' → wpList Try.prog ops Q rest (a.put o.dst v') w') : wpList Try.prog ops Q (o :: rest) a w := by
  obtain ⟨i0, hi, hz0, hz1, hz2⟩ := info_parts info_str
  have hm : us.length = m := by have := hr.1; simpa using this
  have hown' : w.ownsRow B 9 1 v ts.length (ts.map sv) := by have := hown; unfold OwnV at this; rwa [List.length_map] at this
  unfold wpList
  rw [if_pos hgd]
  left
  refine wp_append_any w s x 36 ho B 9 i0 (.string ⟨#[]⟩) 1 16 Try.underlying36 hi hz0 hz1 hz2 rfl (by decide) v ts.length _ hs hown' B' A m c _ hx hr (sv_one us) (by unfold maxLen; omega) (by omega) hB ?_
  intro v' w' h1 h2 _
  refine h v' w' ?_ ((Below.refl _ _).grown h2 hB (fun k hk => (hown'.lt k hk).1))
  unfold OwnV
  rw [List.length_map, List.length_append, hm, List.map_append]
  exact h1

set_option maxRecDepth 100000 in
set_option maxHeartbeats 1600000 in
theorem sorts_any (v0 v1 : Value) (xs ys : List ByteArray) (s : ByteArray) (w : World) (h0 : SlV w v0 (xs.map sv)) (h1 : SlV w v1 (ys.map sv)) (z0 : ∀ t ∈ xs, t.size ≤ maxLen) (z1 : ∀ t ∈ ys, t.size ≤ maxLen) :
    Calls Try.prog 5 #[v0, v1, .string s] w (Yes w) := by
  have H0 := Lib.hid h0
  have H1 := Lib.hid h1
  have Z0 := Lib.hid z0
  have Z1 := Lib.hid z1
  clear h0 h1 z0 z1
  go_enter Try.func5, Try.ntmps5
  go_wp2_with fail
  refine (first_then (Below.refl _ _)).mono ?_
  rintro e w1 ⟨rfl, hb1⟩
  have HB1 := Lib.hid hb1
  clear hb1
  go_wp2_with fail
  refine (few_any v0 xs _ (H0.out.below HB1.out) Z0.out).mono ?_
  rintro e w2 ⟨t0, rfl, hf0, rfl⟩
  have HF0 := Lib.hid hf0
  clear hf0
  cases t0 with
  | false =>
    go_wp2_with fail
    refine (first_then HB1.out).mono ?_
    rintro e w3 ⟨rfl, hb3⟩
    go_wp2
    go_ret
    exact ⟨rfl, hb3⟩
  | true =>
    go_wp2_with fail
    refine (few_any v1 ys _ (H1.out.below HB1.out) Z1.out).mono ?_
    rintro e w3 ⟨t1, rfl, hf1, rfl⟩
    have HF1 := Lib.hid hf1
    clear hf1
    cases t1 with
    | false =>
      go_wp2_with fail
      refine (first_then HB1.out).mono ?_
      rintro e w3 ⟨rfl, hb3⟩
      go_wp2
      go_ret
      exact ⟨rfl, hb3⟩
    | true =>
      have n0 := HF0.out (by first | rfl | trivial)
      have n1 := HF1.out (by first | rfl | trivial)
      go_wp2_with fail
      refine (copyt_any v0 xs _ (H0.out.below HB1.out) (by omega)).mono ?_
      rintro e w4 ⟨v4, rfl, ho4, hb4⟩
      have HB4 := Lib.hid (HB1.out.trans (hb4.mono HB1.out.size))
      have HI4 := Lib.hid ho4.slv
      clear ho4 hb4
      go_wp2_with fail
      refine (first_any _).mono ?_
      rintro e w5 ⟨rfl, hb5⟩
      have HB5 := Lib.hid (HB4.out.trans (hb5.mono HB4.out.size))
      have HI5 := Lib.hid (HI4.out.below hb5)
      clear hb5
      go_wp2_with fail
      refine (sort_any v4 xs _ HI5.out (by omega)).mono ?_
      rintro e w6 ⟨v6, rfl, ho6, hb6⟩
      have HB6 := Lib.hid (HB5.out.trans (hb6.mono HB5.out.size))
      have HI6 := Lib.hid (HI5.out.below hb6)
      have HS6 := Lib.hid ho6.slv
      clear ho6 hb6
      go_wp2_with fail
      refine (rsort_any v0 xs _ (H0.out.below HB6.out) (by omega)).mono ?_
      rintro e w7 ⟨v7, rfl, ho7, hb7⟩
      have HB7 := Lib.hid (HB6.out.trans (hb7.mono HB6.out.size))
      have HI7 := Lib.hid (HI6.out.below hb7)
      have HS7 := Lib.hid (HS6.out.below hb7)
      have HT7 := Lib.hid ho7.slv
      clear ho7 hb7
      go_wp2_with fail
      refine (texts_same v6 v7 (sortT xs) _ HS7.out HT7.out).mono ?_
      rintro e w8 ⟨rfl, hb8⟩
      have HB8 := Lib.hid (HB7.out.trans (hb8.mono HB7.out.size))
      have HI8 := Lib.hid (HI7.out.below hb8)
      clear hb8
      go_wp2_with fail
      refine (uniq_any v4 xs _ HI8.out (by omega)).mono ?_
      rintro e w9 ⟨v9, rfl, ho9, hb9⟩
      have HB9 := Lib.hid (HB8.out.trans (hb9.mono HB8.out.size))
      have HI9 := Lib.hid (HI8.out.below hb9)
      have HS9 := Lib.hid ho9.slv
      clear ho9 hb9
      go_wp2_with fail
      refine (runiq_any v0 xs _ (H0.out.below HB9.out) (by omega)).mono ?_
      rintro e w10 ⟨v10, rfl, ho10, hb10⟩
      have HB10 := Lib.hid (HB9.out.trans (hb10.mono HB9.out.size))
      have HI10 := Lib.hid (HI9.out.below hb10)
      have HS10 := Lib.hid (HS9.out.below hb10)
      have HT10 := Lib.hid ho10.slv
      clear ho10 hb10
      go_wp2_with fail
      refine (texts_same v9 v10 (uniqT xs) _ HS10.out HT10.out).mono ?_
      rintro e w11 ⟨rfl, hb11⟩
      have HB11 := Lib.hid (HB10.out.trans (hb11.mono HB10.out.size))
      have HI11 := Lib.hid (HI10.out.below hb11)
      clear hb11
      go_wp2_with fail
      refine (merge_any v4 v1 xs ys _ HI11.out (H1.out.below HB11.out) (by omega) (by omega)).mono ?_
      rintro e w12 ⟨v12, rfl, ho12, hb12⟩
      have HB12 := Lib.hid (HB11.out.trans (hb12.mono HB11.out.size))
      have HI12 := Lib.hid (HI11.out.below hb12)
      have HS12 := Lib.hid ho12.slv
      clear ho12 hb12
      go_wp2_with fail
      refine (copyt_any v0 xs _ (H0.out.below HB12.out) (by omega)).mono ?_
      rintro e w13 ⟨v13, rfl, ho13, hb13⟩
      have HB13 := Lib.hid (HB12.out.trans (hb13.mono HB12.out.size))
      have HX13 := Lib.hid hb13
      have HO13 := Lib.hid ho13
      have hz13 := hb13.size
      clear ho13 hb13
      obtain ⟨A1, c1, e1, _, _, hr1⟩ := (H1.out.below HB13.out).len
      rw [List.length_map] at e1 hr1
      have HR1 := Lib.hid hr1
      have hsm : xs.length + ys.length ≤ 2000000 := by omega
      subst e1
      clear hr1
      go_wp2_with (at_builtin; refine append_texts_w rfl (.tmp 41) (.tmp 42) rfl w13 w12.heap.size v13 xs rfl HO13.out _ A1 ys.length c1 ys rfl HR1.out hsm hz13 ?_; intro v14 w14 ho14 hb14; have HO14 := Lib.hid ho14.slv; have HB14' := Lib.hid hb14; clear ho14 hb14)
      refine (runiq_any v14 (xs ++ ys) _ HO14.out (by rw [List.length_append]; omega)).mono ?_
      rintro e w15 ⟨v15, rfl, ho15, hb15⟩
      have hz12 := HB12.out.size
      have HB14 := Lib.hid (HB13.out.trans (HB14'.out.mono hz12))
      have HB15 := Lib.hid (HB14.out.trans (hb15.mono HB14.out.size))
      have HI15 := Lib.hid ((HI12.out.below (HX13.out.trans HB14'.out)).below hb15)
      have HS15 := Lib.hid ((HS12.out.below (HX13.out.trans HB14'.out)).below hb15)
      have HT15 := Lib.hid ho15.slv
      clear ho15 hb15 hz13 hsm HR1
      go_wp2_with fail
      refine (texts_same v12 v15 (uniqT (xs ++ ys)) _ HS15.out HT15.out).mono ?_
      rintro e w16 ⟨rfl, hb16⟩
      have HB16 := Lib.hid (HB15.out.trans (hb16.mono HB15.out.size))
      have HI16 := Lib.hid (HI15.out.below hb16)
      clear hb16
      go_wp2_with fail
      refine (has_any v4 xs s _ HI16.out).mono ?_
      rintro e w17 ⟨rfl, rfl⟩
      go_wp2_with fail
      refine (rhas_any v0 xs s _ (H0.out.below HB16.out)).mono ?_
      rintro e w18 ⟨rfl, rfl⟩
      obtain ⟨t, ht⟩ : ∃ t, hasT xs s = t := ⟨_, rfl⟩
      rw [ht]
      clear ht
      have htt : (t == t) = true := beq_self_eq_true t
      go_wp2_with fail
      refine (texts_same v4 v0 xs _ HI16.out (H0.out.below HB16.out)).mono ?_
      rintro e w19 ⟨rfl, hb19⟩
      have HB19 := Lib.hid (HB16.out.trans (hb19.mono HB16.out.size))
      clear hb19
      go_wp2
      go_ret
      exact ⟨rfl, HB19.out⟩

theorem wireSorts_walk (a0 : Option Addr) (len0 cap0 : Nat) (z0 : List ByteArray) (a1 : Option Addr) (len1 cap1 : Nat) (z1 : List ByteArray) (a2 : ByteArray) (w : World) (w0 : IsTexts w a0 len0 cap0 z0) (w1 : IsTexts w a1 len1 cap1 z1) (_ : a2.size ≤ maxLen) :
    Calls Try.prog 5 #[.slice a0 len0 cap0, .slice a1 len1 cap1, .string a2] w (Yes w) := by
  obtain ⟨xs, _, h0, s0⟩ := w0.slv
  obtain ⟨ys, _, h1, s1⟩ := w1.slv
  exact sorts_any _ _ xs ys a2 w h0 h1 s0 s1
end Go.Proofs.Ythopfbkkjfnhkaa
