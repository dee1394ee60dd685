/- marlaw15: Diff3Apart. -/
import Derived.Test.YtbejgljljjjjcaaDfH
import Derived.Test.YtbejgljljjjjcaaDfC
set_option linter.unusedVariables false
set_option linter.unusedSimpArgs false
namespace Go.Proofs.Ytbejgljljjjjcaa.Ln
open Go.RowKit Go.Proofs.Ytbejgljljjjjcaa.Sh Go.Proofs.Ytbejgljljjjjcaa.Tx

theorem spl_lines : ∀ (ls : List (List UInt8)), (∀ l ∈ ls, ∃ p, l = p ++ [10] ∧ ∀ c ∈ p, c ≠ (10 : UInt8)) → splL ls.flatten = ls
  | [], h => by rw [List.flatten_nil, spl_none (fun c hc => by cases hc), if_pos rfl]
  | l :: ls, h => by
    obtain ⟨p, rfl, hp⟩ := h l List.mem_cons_self
    rw [List.flatten_cons, List.append_assoc, List.singleton_append, spl_first _ hp, spl_lines ls (fun l hl => h l (List.mem_cons_of_mem _ hl))]
theorem tell_mem {s : UInt8} : ∀ {k : Nat} {bs l}, l ∈ tellT s k bs → ∃ j c, j < k + bs.length ∧ l = lineT s j c
  | k, [], l, h => by cases h
  | k, c :: bs, l, h => by
    rcases List.mem_cons.1 h with rfl | h
    · exact ⟨k, c, by rw [List.length_cons]; omega, rfl⟩
    · obtain ⟨j, c', h1, h2⟩ := tell_mem h
      exact ⟨j, c', by rw [List.length_cons]; omega, h2⟩
theorem of_ne (n : Nat) (h : n < 256) (m : UInt8) (hm : n ≠ m.toNat) : UInt8.ofNat n ≠ m := fun e => hm (by rw [← e, UInt8.toNat_ofNat']; omega)
theorem line_end {s : UInt8} (hs : s ≠ 10) {j : Nat} (hj : j < 100) (c : UInt8) : ∃ p, lineT s j c = p ++ [10] ∧ ∀ u ∈ p, u ≠ (10 : UInt8) := by
  refine ⟨[s, UInt8.ofNat (48 + j / 10), UInt8.ofNat (48 + j % 10), UInt8.ofNat (97 + c.toNat % 26)], rfl, fun u hu => ?_⟩
  have t : (10 : UInt8).toNat = 10 := rfl
  simp only [List.mem_cons, List.not_mem_nil, or_false] at hu
  rcases hu with rfl | rfl | rfl | rfl
  · exact hs
  · exact of_ne _ (by omega) _ (by rw [t]; omega)
  · exact of_ne _ (by omega) _ (by rw [t]; omega)
  · exact of_ne _ (by omega) _ (by rw [t]; omega)
theorem line_text {s : UInt8} (hs : s ≠ 0) {j : Nat} (hj : j < 100) (c : UInt8) : ∀ u ∈ lineT s j c, u ≠ (0 : UInt8) := by
  intro u hu
  have t : (0 : UInt8).toNat = 0 := rfl
  unfold lineT at hu
  simp only [List.mem_cons, List.not_mem_nil, or_false] at hu
  rcases hu with rfl | rfl | rfl | rfl | rfl
  · exact hs
  · exact of_ne _ (by omega) _ (by rw [t]; omega)
  · exact of_ne _ (by omega) _ (by rw [t]; omega)
  · exact of_ne _ (by omega) _ (by rw [t]; omega)
  · decide
def midB : List UInt8 := [109, 105, 100, 10]
/-- Told bytes, the middle line, told bytes. -/
def threeB (s r : UInt8) (f g : List UInt8) : List UInt8 := tellB s f ++ midB ++ tellB r g
theorem three_lines {s r : UInt8} (hs : s ≠ 10 ∧ s ≠ 0) (hr : r ≠ 10 ∧ r ≠ 0) {f g : List UInt8} (hf : f.length ≤ 60) (hg : g.length ≤ 60) :
    splT (threeB s r f g) = (tellT s 0 f).map Tx.str ++ Tx.str midB :: (tellT r 0 g).map Tx.str ∧ textB (threeB s r f g) = true := by
  have e : threeB s r f g = (tellT s 0 f ++ midB :: tellT r 0 g).flatten := by
    unfold threeB tellB
    rw [List.flatten_append, List.flatten_cons, List.append_assoc]
  constructor
  · unfold splT
    rw [e, spl_lines, List.map_append, List.map_cons]
    intro l hl
    rcases List.mem_append.1 hl with hl | hl
    · obtain ⟨j, c, h1, rfl⟩ := tell_mem hl
      exact line_end hs.1 (by omega) c
    · rcases List.mem_cons.1 hl with rfl | hl
      · exact ⟨[109, 105, 100], rfl, by decide⟩
      · obtain ⟨j, c, h1, rfl⟩ := tell_mem hl
        exact line_end hr.1 (by omega) c
  · unfold textB
    rw [decide_eq_true_eq]
    intro h0
    rw [e] at h0
    obtain ⟨l, hl, h0⟩ := List.mem_flatten.1 h0
    rcases List.mem_append.1 hl with hl | hl
    · obtain ⟨j, c, h1, rfl⟩ := tell_mem hl
      exact line_text hs.2 (by omega) c 0 h0 rfl
    · rcases List.mem_cons.1 hl with rfl | hl
      · revert h0; decide
      · obtain ⟨j, c, h1, rfl⟩ := tell_mem hl
        exact line_text hr.2 (by omega) c 0 h0 rfl
theorem str_inj3 {a b : List UInt8} (h : Tx.str a = Tx.str b) : a = b := by
  have := congrArg ByteArray.toList h
  rwa [Tx.str_toList, Tx.str_toList] at this
theorem told_mem {s : UInt8} {k : Nat} {bs : List UInt8} {u : ByteArray} (h : u ∈ (tellT s k bs).map Tx.str) : ∃ p, u = Tx.str (s :: p) := by
  obtain ⟨l, hl, rfl⟩ := List.mem_map.1 h
  obtain ⟨j, c, _, rfl⟩ := tell_mem hl
  exact ⟨_, rfl⟩
theorem head_ne {s t : UInt8} {p q : List UInt8} (h : s ≠ t) : Tx.str (s :: p) ≠ Tx.str (t :: q) := fun e => h (by have := str_inj3 e; injection this)
theorem apart_all {f g x y : List UInt8} (hf : f.length ≤ 60) (hg : g.length ≤ 60) (hx : x.length ≤ 60) (hy : y.length ≤ 60) :
    mOkM (threeB 102 103 f g) (threeB 120 103 x g) (threeB 102 121 f y) = true ∧ mErrM (threeB 102 103 f g) (threeB 120 103 x g) (threeB 102 121 f y) = 0 ∧ mBsM (threeB 102 103 f g) (threeB 120 103 x g) (threeB 102 121 f y) = threeB 120 121 x y := by
  have d : (102 : UInt8) ≠ 10 ∧ (102 : UInt8) ≠ 0 := by decide
  have d2 : (103 : UInt8) ≠ 10 ∧ (103 : UInt8) ≠ 0 := by decide
  have d3 : (120 : UInt8) ≠ 10 ∧ (120 : UInt8) ≠ 0 := by decide
  have d4 : (121 : UInt8) ≠ 10 ∧ (121 : UInt8) ≠ 0 := by decide
  obtain ⟨s1, t1⟩ := three_lines d d2 hf hg
  obtain ⟨s2, t2⟩ := three_lines d3 d2 hx hg
  obtain ⟨s3, t3⟩ := three_lines d d4 hf hy
  have hlen : ∀ (s : UInt8) (k : Nat) (bs : List UInt8), (tellT s k bs).length = bs.length := by
    intro s k bs
    induction bs generalizing k with
    | nil => rfl
    | cons c bs ih => show (_ :: tellT s (k + 1) bs).length = _; rw [List.length_cons, ih, List.length_cons]
  have hl : (splT (threeB 102 103 f g)).length ≤ 200 ∧ (splT (threeB 120 103 x g)).length ≤ 200 ∧ (splT (threeB 102 121 f y)).length ≤ 200 := by
    rw [s1, s2, s3]
    simp only [List.length_append, List.length_cons, List.length_map, hlen]
    omega
  obtain ⟨c1, c2⟩ := cErr_ok hl
  have sep : ∀ (s : UInt8) (bs : List UInt8) (r t : UInt8) (cs ds : List UInt8), s ≠ r → s ≠ t → s ≠ 109 → ∀ u ∈ (tellT s 0 bs).map Tx.str, u ∉ (tellT r 0 cs).map Tx.str ++ Tx.str midB :: (tellT t 0 ds).map Tx.str := by
    intro s bs r t cs ds h1 h2 h3 u hu hm
    obtain ⟨p, rfl⟩ := told_mem hu
    rcases List.mem_append.1 hm with hm | hm
    · obtain ⟨q, e⟩ := told_mem hm
      exact head_ne h1 e
    · rcases List.mem_cons.1 hm with e | hm
      · exact head_ne h3 e
      · obtain ⟨q, e⟩ := told_mem hm
        exact head_ne h2 e
  have hm := apart_m ((tellT 102 0 f).map Tx.str) ((tellT 103 0 g).map Tx.str) ((tellT 120 0 x).map Tx.str) ((tellT 121 0 y).map Tx.str) (Tx.str midB)
    (sep 102 f 120 103 x g (by decide) (by decide) (by decide)) (sep 120 x 102 103 f g (by decide) (by decide) (by decide))
    (fun u hu hm => by
      obtain ⟨p, rfl⟩ := told_mem hu
      obtain ⟨q, e⟩ := told_mem hm
      exact head_ne (by decide) e)
  have hL : hasC (cLst (splT (threeB 102 103 f g)) (splT (threeB 120 103 x g)) (splT (threeB 102 121 f y))) = false ∧ linesM (cLst (splT (threeB 102 103 f g)) (splT (threeB 120 103 x g)) (splT (threeB 102 121 f y))) = (tellT 120 0 x).map Tx.str ++ Tx.str midB :: (tellT 121 0 y).map Tx.str := by
    rw [c2]
    unfold chunksL kepL
    rw [s1, s2, s3]
    exact hm
  have hA : allT (threeB 102 103 f g) (threeB 120 103 x g) (threeB 102 121 f y) = true := by unfold allT; rw [t1, t2, t3]; rfl
  have hO : mOkM (threeB 102 103 f g) (threeB 120 103 x g) (threeB 102 121 f y) = true := by unfold mOkM; rw [hA, c1, hL.1]; rfl
  refine ⟨hO, by unfold mErrM; rw [if_pos hA, c1], ?_⟩
  unfold mBsM
  rw [if_pos hO, hL.2]
  rw [← (three_lines d3 d4 hx hy).1, join_spl3]
set_option maxRecDepth 100000 in
set_option maxHeartbeats 3200000 in
theorem apart_in (v1 v2 v3 v4 : Value) (f g x y : List UInt8) (w : World) (h1 : SlV w v1 (f.map bv)) (h2 : SlV w v2 (g.map bv)) (h3 : SlV w v3 (x.map bv)) (h4 : SlV w v4 (y.map bv)) : Calls Try.prog 7 #[v1, v2, v3, v4] w (Yes w) := by
  have H1 := Lib.hid (fun W (hW : Below w.heap.size w W) => h1.below hW)
  have H2 := Lib.hid (fun W (hW : Below w.heap.size w W) => h2.below hW)
  have H3 := Lib.hid (fun W (hW : Below w.heap.size w W) => h3.below hW)
  have H4 := Lib.hid (fun W (hW : Below w.heap.size w W) => h4.below hW)
  obtain ⟨A1, c1, rfl, _, hm1, _⟩ := h1.len
  obtain ⟨A2, c2, rfl, _, hm2, _⟩ := h2.len
  obtain ⟨A3, c3, rfl, _, hm3, _⟩ := h3.len
  obtain ⟨A4, c4, rfl, _, hm4, _⟩ := h4.len
  simp only [List.length_map] at H1 H2 H3 H4 hm1 hm2 hm3 hm4 ⊢
  clear h1 h2 h3 h4
  have HF := Lib.hid (fun W => dfirst_any W)
  unfold Yes at HF
  by_cases hs : f.length ≤ 60 ∧ g.length ≤ 60 ∧ x.length ≤ 60 ∧ y.length ≤ 60
  · have y1 : ¬ 60 < (f.length : Int) := by omega
    have y2 : ¬ 60 < (g.length : Int) := by omega
    have y3 : ¬ 60 < (x.length : Int) := by omega
    have y4 : ¬ 60 < (y.length : Int) := by omega
    have HT1 := Lib.hid (fun W (hW : Below w.heap.size w W) => tell_any 102 _ f W (H1.out W hW) hs.1 102 (by rw [bi_to]; rfl))
    have HT2 := Lib.hid (fun W (hW : Below w.heap.size w W) => tell_any 103 _ g W (H2.out W hW) hs.2.1 103 (by rw [bi_to]; rfl))
    have HT3 := Lib.hid (fun W (hW : Below w.heap.size w W) => tell_any 120 _ x W (H3.out W hW) hs.2.2.1 120 (by rw [bi_to]; rfl))
    have HT4 := Lib.hid (fun W (hW : Below w.heap.size w W) => tell_any 121 _ y W (H4.out W hW) hs.2.2.2 121 (by rw [bi_to]; rfl))
    have HALL := Lib.hid (apart_all hs.1 hs.2.1 hs.2.2.1 hs.2.2.2)
    have tl : ∀ (s : UInt8) (bs : List UInt8), bs.length ≤ 60 → (tellB s bs).length ≤ 300 := fun s bs h => by rw [tellB_len]; omega
    have l1 := tl 102 f hs.1
    have l2 := tl 103 g hs.2.1
    have l3 := tl 120 x hs.2.2.1
    have l4 := tl 121 y hs.2.2.2
    unfold threeB at HALL
    obtain ⟨F, hF⟩ : ∃ z, tellB 102 f = z := ⟨_, rfl⟩
    obtain ⟨G, hG⟩ : ∃ z, tellB 103 g = z := ⟨_, rfl⟩
    obtain ⟨X, hX⟩ : ∃ z, tellB 120 x = z := ⟨_, rfl⟩
    obtain ⟨Y, hY⟩ : ∃ z, tellB 121 y = z := ⟨_, rfl⟩
    rw [hF] at HT1 l1
    rw [hG] at HT2 l2
    rw [hX] at HT3 l3
    rw [hY] at HT4 l4
    rw [hF, hG, hX, hY] at HALL
    clear hF hG hX hY tl hs H1 H2 H3 H4
    have cat3 : ∀ P Q : List UInt8, Tx.str P ++ (⟨#[109, 105, 100, 10]⟩ : ByteArray) ++ Tx.str Q = Tx.str (P ++ midB ++ Q) := fun P Q => by rw [← str_cat, ← str_cat]; rfl
    have sz : ∀ P : List UInt8, P.length ≤ 300 → (Tx.str P).size ≤ 300 := fun P h => by rw [Tx.str_size]; exact h
    have s1 := sz F l1
    have s2 := sz G l2
    have s3 := sz X l3
    have s4 := sz Y l4
    have tl3 : ∀ P Q : List UInt8, P.length ≤ 300 → Q.length ≤ 300 → (P ++ midB ++ Q).length ≤ 1000000 := fun P Q h1 h2 => by simp only [List.length_append]; show _ + 4 + _ ≤ _; omega
    have e1 := cat3 F G
    have e2 := cat3 X G
    have e3 := cat3 F Y
    have e4 := cat3 X Y
    have n1 := tl3 F G l1 l2
    have n2 := tl3 X G l3 l2
    have n3 := tl3 F Y l1 l4
    obtain ⟨O, hO⟩ : ∃ z, F ++ midB ++ G = z := ⟨_, rfl⟩
    obtain ⟨P, hP⟩ : ∃ z, X ++ midB ++ G = z := ⟨_, rfl⟩
    obtain ⟨Q, hQ⟩ : ∃ z, F ++ midB ++ Y = z := ⟨_, rfl⟩
    obtain ⟨R, hR⟩ : ∃ z, X ++ midB ++ Y = z := ⟨_, rfl⟩
    rw [hO] at e1 n1
    rw [hP] at e2 n2
    rw [hQ] at e3 n3
    rw [hR] at e4
    rw [hO, hP, hQ, hR] at HALL
    have HC1 := Lib.hid (fun W => bytes_cv W O n1)
    have HC2 := Lib.hid (fun W => bytes_cv W P n2)
    have HC3 := Lib.hid (fun W => bytes_cv W Q n3)
    rw [← e1] at HC1
    rw [← e2] at HC2
    rw [← e3] at HC3
    have HL3 : Hid (O.length ≤ 1000000 ∧ P.length ≤ 1000000 ∧ Q.length ≤ 1000000) := ⟨n1, n2, n3⟩
    have HXY := Lib.hid e4
    clear e1 e2 e3 e4 n1 n2 n3 hO hP hQ hR
    have m4 : (⟨#[109, 105, 100, 10]⟩ : ByteArray).size = 4 := rfl
    have q1 : ¬ 9223372036854775807 < (Tx.str F).size + 4 := by omega
    have q2 : ¬ 9223372036854775807 < (Tx.str F).size + 4 + (Tx.str G).size := by omega
    have q3 : ¬ 9223372036854775807 < (Tx.str X).size + 4 := by omega
    have q4 : ¬ 9223372036854775807 < (Tx.str X).size + 4 + (Tx.str G).size := by omega
    have q5 : ¬ 9223372036854775807 < (Tx.str F).size + 4 + (Tx.str Y).size := by omega
    have q6 : ¬ 9223372036854775807 < (Tx.str X).size + 4 + (Tx.str Y).size := by omega
    have a1 : (Tx.str F ++ (⟨#[109, 105, 100, 10]⟩ : ByteArray)).size = (Tx.str F).size + 4 := by rw [ByteArray.size_append]; rfl
    have a2 : (Tx.str X ++ (⟨#[109, 105, 100, 10]⟩ : ByteArray)).size = (Tx.str X).size + 4 := by rw [ByteArray.size_append]; rfl
    clear cat3 sz tl3 l1 l2 l3 l4
    go_enter Try.func7, Try.ntmps7
    go_wp2_with fail
    refine (HF.out w).mono ?_
    rintro e w1 ⟨rfl, hb1⟩
    have HB1 := Lib.hid hb1
    clear hb1
    go_wp2_with fail
    refine (HT1.out w1 HB1.out).mono ?_
    rintro e w2 ⟨rfl, hb2⟩
    have HB2 := Lib.hid (HB1.out.trans (hb2.mono HB1.out.size))
    clear hb2
    go_wp2_with fail
    refine (HT2.out w2 HB2.out).mono ?_
    rintro e w3 ⟨rfl, hb3⟩
    have HB3 := Lib.hid (HB2.out.trans (hb3.mono HB2.out.size))
    clear hb3
    go_wp2_with fail
    refine (HT3.out w3 HB3.out).mono ?_
    rintro e w4 ⟨rfl, hb4⟩
    have HB4 := Lib.hid (HB3.out.trans (hb4.mono HB3.out.size))
    clear hb4
    go_wp2_with fail
    refine (HT4.out w4 HB4.out).mono ?_
    rintro e w5 ⟨rfl, hb5⟩
    have HB5 := Lib.hid (HB4.out.trans (hb5.mono HB4.out.size))
    clear hb5
    obtain ⟨w6, p1, k1, hb6, hz6, t1⟩ := HC1.out w5
    obtain ⟨w7, p2, k2, hb7, hz7, t2⟩ := HC2.out w6
    obtain ⟨w8, p3, k3, hb8, hz8, t3⟩ := HC3.out w7
    have HB8 := Lib.hid (HB5.out.trans ((hb6.trans ((hb7.trans (hb8.mono hb7.size)).mono hb6.size)).mono HB5.out.size))
    have HMG := Lib.hid (merge_any _ _ _ _ _ _ w8 ((t1.below hb7).below hb8) (t2.below hb8) t3 HL3.out)
    unfold MrgP at HMG
    rw [HALL.out.1, HALL.out.2.1, HALL.out.2.2] at HMG
    clear t1 t2 t3 hb6 hb7 hb8 hz6 hz7 hz8 HC1 HC2 HC3 HALL
    go_wp2_with fail
    refine HMG.out.mono ?_
    rintro e w9 ⟨v9, rfl, ho9, hb9⟩
    have HO9 := Lib.hid ho9.slv
    have HB9 := Lib.hid (HB8.out.trans (hb9.mono HB8.out.size))
    obtain ⟨A9, c9, rfl, _, _, _⟩ := ho9.slv.len
    rw [List.length_map] at HO9 ⊢
    clear ho9 hb9 k1 k2 k3
    go_wp2_with fail
    refine (HF.out w9).mono ?_
    rintro e wA ⟨rfl, hbA⟩
    have HBA := Lib.hid (HB9.out.trans (hbA.mono HB9.out.size))
    have hcs := conv_str wA A9 R _ c9 rfl (HO9.out.below hbA)
    rw [← HXY.out] at hcs
    clear hbA
    go_wp2_with fail
    go_ret
    exact ⟨rfl, HBA.out⟩
  · go_enter Try.func7, Try.ntmps7
    go_wp2_with fail
    refine (HF.out w).mono ?_
    rintro e w1 ⟨rfl, hb1⟩
    have HB1 := Lib.hid hb1
    clear hb1
    by_cases y1 : 60 < (f.length : Int)
    · go_wp2_with fail
      refine (HF.out w1).mono ?_
      rintro e w2 ⟨rfl, hb2⟩
      have HB2 := Lib.hid (HB1.out.trans (hb2.mono HB1.out.size))
      go_wp2_with fail
      go_ret
      exact ⟨rfl, HB2.out⟩
    · by_cases y2 : 60 < (g.length : Int)
      · go_wp2_with fail
        refine (HF.out w1).mono ?_
        rintro e w2 ⟨rfl, hb2⟩
        have HB2 := Lib.hid (HB1.out.trans (hb2.mono HB1.out.size))
        go_wp2_with fail
        go_ret
        exact ⟨rfl, HB2.out⟩
      · by_cases y3 : 60 < (x.length : Int)
        · go_wp2_with fail
          refine (HF.out w1).mono ?_
          rintro e w2 ⟨rfl, hb2⟩
          have HB2 := Lib.hid (HB1.out.trans (hb2.mono HB1.out.size))
          go_wp2_with fail
          go_ret
          exact ⟨rfl, HB2.out⟩
        · have y4 : 60 < (y.length : Int) := by omega
          go_wp2_with fail
          refine (HF.out w1).mono ?_
          rintro e w2 ⟨rfl, hb2⟩
          have HB2 := Lib.hid (HB1.out.trans (hb2.mono HB1.out.size))
          go_wp2_with fail
          go_ret
          exact ⟨rfl, HB2.out⟩
theorem diff3Apart_walk (a0 : Option Addr) (len0 cap0 : Nat) (z0 : List Int) (a1 : Option Addr) (len1 cap1 : Nat) (z1 : List Int) (a2 : Option Addr) (len2 cap2 : Nat) (z2 : List Int) (a3 : Option Addr) (len3 cap3 : Nat) (z3 : List Int) (w : World) (w0 : IsRow .u8 w a0 len0 cap0 z0) (w1 : IsRow .u8 w a1 len1 cap1 z1) (w2 : IsRow .u8 w a2 len2 cap2 z2) (w3 : IsRow .u8 w a3 len3 cap3 z3) : Calls Try.prog 7 #[.slice a0 len0 cap0, .slice a1 len1 cap1, .slice a2 len2 cap2, .slice a3 len3 cap3] w (Yes w) := by
  obtain ⟨f, _, h0⟩ := w0.bytes
  obtain ⟨g, _, h1⟩ := w1.bytes
  obtain ⟨x, _, h2⟩ := w2.bytes
  obtain ⟨y, _, h3⟩ := w3.bytes
  exact apart_in _ _ _ _ f g x y w h0 h1 h2 h3
end Go.Proofs.Ytbejgljljjjjcaa.Ln
