/- Texts put together: YRj. -/
import Derived.Test.YteffiedolcjjlaaQa42
/- marlaw12.ReachJoins: the walk. -/
set_option linter.unusedVariables false
set_option linter.unusedSimpArgs false
namespace Go.Proofs.Yteffiedolcjjlaa.Ob
open Go.RowKit Go.Maps Go.Proofs.Yteffiedolcjjlaa.Sh
open Go.Proofs.Yteffiedolcjjlaa.Tx (OwnV SlV sv Only Rd reads_at hasT hasT_yes hasT_no hasT_iff WK RB sortT TextsPost Strict texts_at sort_strict' mem_sort uniqT uniqT_eq copyt_any runiq_any texts_same append_texts)

theorem bd_size {l : List (List UInt8)} {names : List ByteArray} {s : ByteArray} (hn : ∀ n ∈ names, n.size ≤ 100) (h : s ∈ Bd l names) : s.size ≤ 1000000 := by
  rcases List.mem_append.1 h with h | h
  · have := hn s h; omega
  · obtain ⟨b, _, h⟩ := List.mem_flatMap.1 h
    split at h
    · rename_i hd
      obtain ⟨r, hr, rfl⟩ := List.mem_map.1 h
      rw [str_size]
      have := (validB_len (refs_valid (decB_may hd) r hr)).1
      omega
    · cases h
/-- The reading behind an owned row. -/
theorem own_reads {w : World} {B n c : Nat} {A : Option Addr} {xs : List ByteArray} (h : OwnV 9 w B (.slice A n c) (xs.map sv)) : xs.length = n ∧ Reads w w.heap.size 1 A n (xs.map sv) := by
  obtain ⟨A', c', e, _, _, hr, _⟩ := h.slv
  injection e with e1 e2 _
  subst e1 e2
  exact ⟨(List.length_map _).symm, hr⟩
theorem slv_reads {w : World} {n c : Nat} {A : Option Addr} {xs : List ByteArray} (h : SlV w (.slice A n c) (xs.map sv)) : xs.length = n ∧ Reads w w.heap.size 1 A n (xs.map sv) := by
  obtain ⟨A', c', e, _, _, hr, _⟩ := h
  injection e with e1 e2 _
  subst e1 e2
  exact ⟨(List.length_map _).symm, hr⟩
theorem slv_slice {w : World} {v : Value} {vs : List Value} (h : SlV w v vs) : ∃ A c, v = .slice A vs.length c := by
  obtain ⟨A, c, e, _⟩ := h
  exact ⟨A, c, e⟩
/-- An append that a guard lets by, with what block grew. -/
theorem app_texts_g {ops : Array Oper} {rest : List Oper} {o : Oper} {a : Act} {Q : Exit → Act → World → Prop} (hgd : Region.wanted o (yielded ops a.tmps) = true) (s x : Operand)
    (ho : o.op = .call { callee := .builtin .append, args := #[s, x], argTypes := #[23, 23] }) (w : World) (B : Nat) (v : Value) (ts : List ByteArray) (hs : a.eval s = v) (hown : OwnV 9 w B v (ts.map sv))
    (B' : Nat) (A : Option Addr) (m c : Nat) (us : List ByteArray) (hx : a.eval x = .slice A m c) (hr : Reads w B' 1 A m (us.map sv)) (hsmall : ts.length + m ≤ 2000000) (hB : B ≤ w.heap.size)
    (h : ∀ v' w', OwnV 9 w' B v' ((ts ++ us).map sv) → Below B w w' → w.grownBy w' v.ownBlock → wpList Try.prog ops Q rest (a.put o.dst v') w') : wpList Try.prog ops Q (o :: rest) a w := by
  obtain ⟨i0, hi, hz0, hz1, hz2⟩ := info_parts Tx.info_str
  have hm : us.length = m := by have := hr.1; simpa using this
  have hown' : w.ownsRow B 9 1 v ts.length (ts.map sv) := by have := hown; unfold OwnV at this; rwa [List.length_map] at this
  unfold wpList
  rw [if_pos hgd]
  left
  refine wp_append_any w s x 23 ho B 9 i0 (.string ⟨#[]⟩) 1 16 Try.underlying23 hi hz0 hz1 hz2 rfl (by decide) v ts.length _ hs hown' B' A m c _ hx hr (Tx.sv_one us) (by unfold maxLen; omega) (by omega) hB ?_
  intro v' w' h1 h2 _
  refine h v' w' ?_ ((Below.refl _ _).grown h2 hB (fun k hk => (hown'.lt k hk).1)) h2
  unfold OwnV
  rw [List.length_map, List.length_append, hm, List.map_append]
  exact h1
set_option maxRecDepth 100000 in
set_option maxHeartbeats 6400000 in
theorem joins_any (v : Value) (l : List (List UInt8)) (va : Value) (a : List ByteArray) (vb : Value) (b : List ByteArray) (w : World) (h : LsV w v l) (ha : SlV w va (a.map sv)) (hb : SlV w vb (b.map sv)) : Calls Try.prog 5 #[v, va, vb] w (Yes1 w) := by
  have H := Lib.hid h
  have HA := Lib.hid ha
  have HBB := Lib.hid hb
  obtain ⟨Aa, ca, rfl⟩ := slv_slice ha
  obtain ⟨Ab, cb, rfl⟩ := slv_slice hb
  rw [List.length_map] at HA
  rw [List.length_map] at HBB
  rw [List.length_map, List.length_map]
  obtain ⟨na, hna⟩ : ∃ n, a.length = n := ⟨_, rfl⟩
  obtain ⟨nb, hnb⟩ : ∃ n, b.length = n := ⟨_, rfl⟩
  rw [hna] at HA ⊢
  rw [hnb] at HBB ⊢
  have HNA := Lib.hid hna
  have HNB := Lib.hid hnb
  clear h ha hb hna hnb
  go_enter Try.func5, Try.ntmps5
  go_wp2_with fail
  refine (first12_any w).mono ?_
  rintro e w1 ⟨rfl, hb1⟩
  have HB1 := Lib.hid hb1
  clear hb1
  go_wp2_with fail
  refine (pfew_any v l w1 (H.out.below HB1.out)).mono ?_
  rintro e w2 ⟨t, rfl, ht, hb2⟩
  have HT := Lib.hid ht
  have HB2 := Lib.hid (HB1.out.trans (hb2.mono HB1.out.size))
  clear hb2 ht
  cases t with
  | false =>
    go_wp2_with fail
    refine (first12_then HB2.out HB2.out.size).mono ?_
    rintro e w3 ⟨rfl, hb3⟩
    have HB3 := Lib.hid hb3
    clear hb3
    go_wp2_with fail
    go_ret
    exact ⟨rfl, HB3.out⟩
  | true =>
  obtain ⟨hl40, hl15⟩ := HT.out rfl
  have HL40 := Lib.hid hl40
  have HL15 := Lib.hid hl15
  clear hl40 hl15
  go_wp2_with fail
  refine (few12_any _ a w2 (HA.out.below HB2.out)).mono ?_
  rintro e w' ⟨ta, rfl, hta, rfl⟩
  have HTA := Lib.hid hta
  clear hta
  cases ta with
  | false =>
    go_wp2_with fail
    refine (first12_then HB2.out HB2.out.size).mono ?_
    rintro e w3 ⟨rfl, hb3⟩
    have HB3 := Lib.hid hb3
    clear hb3
    go_wp2_with fail
    go_ret
    exact ⟨rfl, HB3.out⟩
  | true =>
  obtain ⟨ha20, has⟩ := HTA.out rfl
  have HA20 := Lib.hid ha20
  have HAS := Lib.hid has
  clear ha20 has
  go_wp2_with fail
  refine (few12_any _ b w2 (HBB.out.below HB2.out)).mono ?_
  rintro e w' ⟨tb, rfl, htb, rfl⟩
  have HTB := Lib.hid htb
  clear htb
  cases tb with
  | false =>
    go_wp2_with fail
    refine (first12_then HB2.out HB2.out.size).mono ?_
    rintro e w3 ⟨rfl, hb3⟩
    have HB3 := Lib.hid hb3
    clear hb3
    go_wp2_with fail
    go_ret
    exact ⟨rfl, HB3.out⟩
  | true =>
  obtain ⟨hb20, hbs⟩ := HTB.out rfl
  have HB20 := Lib.hid hb20
  have HBS := Lib.hid hbs
  clear hb20 hbs
  have HNM : Hid ((a ++ b).length ≤ 40) := by unfold Hid; rw [List.length_append]; have := HA20.out; have := HB20.out; omega
  have HNS : Hid (∀ n ∈ a ++ b, n.size ≤ 100) := fun n hn => (List.mem_append.1 hn).elim (HAS.out n) (HBS.out n)
  have HIA : Hid (∀ f ∈ a, f ∈ Bd l (a ++ b)) := fun f hf => List.mem_append_left _ (List.mem_append_left _ hf)
  have HIB : Hid (∀ f ∈ b, f ∈ Bd l (a ++ b)) := fun f hf => List.mem_append_left _ (List.mem_append_right _ hf)
  have HSZ : Hid (∀ f ∈ Bd l (a ++ b), f.size ≤ 1000000) := fun f hf => bd_size HNS.out hf
  go_wp2_with fail
  refine (source_any v l false w2 (H.out.below HB2.out) (by have := HL40.out; omega) (fun x hx => by have := HL15.out x hx; omega)).mono ?_
  rintro e w3 ⟨p1, p2, p3, rfl, hsrc, hb3⟩
  have HSRC := Lib.hid hsrc
  have HB3 := Lib.hid (HB2.out.trans (hb3.mono HB2.out.size))
  clear hsrc hb3
  go_wp2_with fail
  refine (cloY_any (names := a ++ b) HSRC.out HL40.out HL15.out HNM.out HIA.out (HA.out.below HB3.out) (fun s hs => HSZ.out s (HIA.out s hs)) (by have := HA20.out; omega)).mono ?_
  rintro e w4 ⟨x, p, vx, vp, hc1, rfl, hb4, hox, hop⟩
  have HC1 := Lib.hid hc1
  have HB4 := Lib.hid (HB3.out.trans (hb4.mono HB3.out.size))
  have HSR4 := Lib.hid (HSRC.out.below hb4)
  have HOX := Lib.hid (hox.base HB3.out.size)
  have HOP := Lib.hid (hop.base HB3.out.size)
  clear hc1 hb4 hox hop
  go_wp2_with fail
  refine (cloY_any (names := a ++ b) HSR4.out HL40.out HL15.out HNM.out HIB.out (HBB.out.below HB4.out) (fun s hs => HSZ.out s (HIB.out s hs)) (by have := HB20.out; omega)).mono ?_
  rintro e w5 ⟨y, q, vy, vq, hc2, rfl, hb5, hoy, hoq⟩
  have HC2 := Lib.hid hc2
  have HB5 := Lib.hid (HB4.out.trans (hb5.mono HB4.out.size))
  have HSR5 := Lib.hid (HSR4.out.below hb5)
  have HOX5 := Lib.hid (HOX.out.below hb5)
  have HOP5 := Lib.hid (HOP.out.below hb5)
  have HOY := Lib.hid (hoy.base HB4.out.size)
  have HOQ := Lib.hid (hoq.base HB4.out.size)
  clear hc2 hb5 hoy hoq
  go_wp2_with fail
  refine (copyt_any _ b w5 (HBB.out.below HB5.out) (by have := HB20.out; omega)).mono ?_
  rintro e w6 ⟨v6, rfl, ho6, hb6⟩
  obtain ⟨A6, c6, rfl⟩ := owned_slice ho6
  have HB6 := Lib.hid (HB5.out.trans (hb6.mono HB5.out.size))
  have HSR6 := Lib.hid (HSR5.out.below hb6)
  have HOX6 := Lib.hid (HOX5.out.below hb6)
  have HOP6 := Lib.hid (HOP5.out.below hb6)
  have HOY6 := Lib.hid (HOY.out.below hb6)
  have HOQ6 := Lib.hid (HOQ.out.below hb6)
  have HO6 := Lib.hid ho6
  have HRA := Lib.hid (slv_reads (HA.out.below HB6.out)).2
  have HS6 : Hid (w5.heap.size ≤ w6.heap.size) := hb6.size
  have HB56 := Lib.hid hb6
  have HSM : Hid (b.length + na ≤ 2000000) := by unfold Hid; have := HA20.out; have := HB20.out; have := HNA.out; omega
  rw [List.length_map, HNB.out] at HO6 ⊢
  clear hb6 ho6
  go_wp2_with (at_builtin; refine append_texts rfl (.tmp 55) (.tmp 56) rfl w6 w5.heap.size (.slice A6 nb c6) b rfl HO6.out _ Aa na ca a rfl HRA.out (by exact HSM.out) (by exact HS6.out) ?_; intro v7 w7 ho7 hb7; have HO7 := Lib.hid ho7; have HB7 := Lib.hid (HB6.out.trans (hb7.mono (Nat.le_trans HB5.out.size (Nat.le_refl _)))); have HBL7 := Lib.hid hb7; clear ho7 hb7)
  have HB57 : Hid (Below w5.heap.size w5 w7) := ((Below.refl _ _).trans (show Below w5.heap.size w5 w6 from HB56.out)).trans HBL7.out
  have HSR7 := Lib.hid (HSR5.out.below HB57.out)
  have HOX7 := Lib.hid (HOX5.out.below HB57.out)
  have HOP7 := Lib.hid (HOP5.out.below HB57.out)
  have HOY7 := Lib.hid (HOY.out.below HB57.out)
  have HOQ7 := Lib.hid (HOQ.out.below HB57.out)
  go_wp2_with fail
  refine (cloY_any (names := a ++ b) HSR7.out HL40.out HL15.out HNM.out (fun f hf => (List.mem_append.1 hf).elim (HIB.out f) (HIA.out f)) HO7.out.slv (fun s hs => (List.mem_append.1 hs).elim (fun h => HSZ.out s (HIB.out s h)) (fun h => HSZ.out s (HIA.out s h))) (by rw [List.length_append]; have := HA20.out; have := HB20.out; omega)).mono ?_
  rintro e w8 ⟨z, r, vz, vr, hc3, rfl, hb8, hoz, hor⟩
  have HC3 := Lib.hid hc3
  have HB8 := Lib.hid (HB7.out.trans (hb8.mono HB7.out.size))
  have HSR8 := Lib.hid (HSR7.out.below hb8)
  have HOX8 := Lib.hid (HOX7.out.below hb8)
  have HOP8 := Lib.hid (HOP7.out.below hb8)
  have HOY8 := Lib.hid (HOY7.out.below hb8)
  have HOQ8 := Lib.hid (HOQ7.out.below hb8)
  have HOZ := Lib.hid (hoz.base HB7.out.size)
  have HOR := Lib.hid (hor.base HB7.out.size)
  have HXB : Hid (∀ f ∈ x, f ∈ Bd l (a ++ b)) := fun f hf => rb_bd HIA.out ((HC1.out.mx f).1 hf).1
  clear hc3 hb8 hoz hor
  go_wp2_with fail
  refine (cloY_any (names := a ++ b) HSR8.out HL40.out HL15.out HNM.out HXB.out HOX8.out.slv (fun s hs => HSZ.out s (HXB.out s hs)) (by have := HC1.out.len.1; omega)).mono ?_
  rintro e w9 ⟨g, sl, vg, vs, hc4, rfl, hb9, hog, hos⟩
  have HB9 := Lib.hid (HB8.out.trans (hb9.mono HB8.out.size))
  have HOX9 := Lib.hid (HOX8.out.below hb9)
  have HOP9 := Lib.hid (HOP8.out.below hb9)
  have HOY9 := Lib.hid (HOY8.out.below hb9)
  have HOQ9 := Lib.hid (HOQ8.out.below hb9)
  have HOZ9 := Lib.hid (HOZ.out.below hb9)
  have HOR9 := Lib.hid (HOR.out.below hb9)
  have HOG := Lib.hid (hog.base HB8.out.size)
  have HOS := Lib.hid (hos.base HB8.out.size)
  have hgx : g = x := by
    refine Tx.strict_ext g x hc4.sx HC1.out.sx fun s => ?_
    rw [hc4.mx]
    constructor
    · rintro ⟨h1, h2⟩
      exact (HC1.out.mx s).2 ⟨h1.trans fun f hf => ((HC1.out.mx f).1 hf).1, h2⟩
    · intro hs
      exact ⟨.here hs, ((HC1.out.mx s).1 hs).2⟩
  have hsp : sl.length ≤ p.length := Tx.nodup_len (Tx.strict_nd hc4.sy) fun s hs => by
    obtain ⟨h1, h2⟩ := (hc4.my s).1 hs
    exact (HC1.out.my s).2 ⟨h1.trans fun f hf => ((HC1.out.mx f).1 hf).1, h2⟩
  have hzu : uniqT (x ++ y) = z := (uniqT_eq HC3.out.sx fun s => by
    rw [HC3.out.mx, RB.app, List.mem_append, HC1.out.mx, HC2.out.mx]
    constructor
    · rintro ⟨h1 | h1, h2⟩
      · exact .inr ⟨h1, h2⟩
      · exact .inl ⟨h1, h2⟩
    · rintro (⟨h1, h2⟩ | ⟨h1, h2⟩)
      · exact ⟨.inr h1, h2⟩
      · exact ⟨.inl h1, h2⟩).symm
  have hru : uniqT (p ++ q) = r := (uniqT_eq HC3.out.sy fun s => by
    rw [HC3.out.my, RB.app, List.mem_append, HC1.out.my, HC2.out.my]
    constructor
    · rintro ⟨h1 | h1, h2⟩
      · exact .inr ⟨h1, h2⟩
      · exact .inl ⟨h1, h2⟩
    · rintro (⟨h1, h2⟩ | ⟨h1, h2⟩)
      · exact ⟨.inr h1, h2⟩
      · exact ⟨.inl h1, h2⟩).symm
  have HZU := Lib.hid hzu
  have HRU := Lib.hid hru
  have HLX : Hid (x.length ≤ 1840 ∧ y.length ≤ 1840 ∧ p.length ≤ 1840 ∧ q.length ≤ 1840) := ⟨HC1.out.len.1, HC2.out.len.1, HC1.out.len.2, HC2.out.len.2⟩
  subst hgx
  obtain ⟨Ax, cx, rfl⟩ := owned_slice HOX9.out
  obtain ⟨Ay, cy, rfl⟩ := owned_slice HOY9.out
  obtain ⟨Ap, cp, rfl⟩ := owned_slice HOP9.out
  obtain ⟨Aq, cq, rfl⟩ := owned_slice HOQ9.out
  obtain ⟨As, cs, rfl⟩ := owned_slice HOS.out
  obtain ⟨nx, hnx⟩ : ∃ n, (g.map sv).length = n := ⟨_, rfl⟩
  obtain ⟨ny, hny⟩ : ∃ n, (y.map sv).length = n := ⟨_, rfl⟩
  obtain ⟨np, hnp⟩ : ∃ n, (p.map sv).length = n := ⟨_, rfl⟩
  obtain ⟨nq, hnq⟩ : ∃ n, (q.map sv).length = n := ⟨_, rfl⟩
  obtain ⟨ns, hns⟩ : ∃ n, (sl.map sv).length = n := ⟨_, rfl⟩
  rw [hnx] at HOX9 ⊢
  rw [hny] at HOY9 ⊢
  rw [hnp] at HOP9 ⊢
  rw [hnq] at HOQ9 ⊢
  rw [hns] at HOS ⊢
  rw [List.length_map] at hnx hny hnp hnq hns
  have hsp2 : (ns : Int) ≤ (np : Int) := by omega
  have HNX : Hid (g.length = nx ∧ y.length = ny ∧ p.length = np ∧ q.length = nq) := ⟨hnx, hny, hnp, hnq⟩
  clear hc4 hb9 hog hos hzu hru hsp hnx hny hnp hnq hns
  go_wp2_with fail
  refine (first12_any w9).mono ?_
  rintro e w10 ⟨rfl, hb10⟩
  have HB10 := Lib.hid (HB9.out.trans (hb10.mono HB9.out.size))
  have HX := Lib.hid (HOX9.out.below hb10)
  have HY := Lib.hid (HOY9.out.below hb10)
  have HP := Lib.hid (HOP9.out.below hb10)
  have HQ := Lib.hid (HOQ9.out.below hb10)
  have HZ := Lib.hid (HOZ9.out.below hb10)
  have HRR := Lib.hid (HOR9.out.below hb10)
  have HG := Lib.hid (HOG.out.below hb10)
  clear hb10
  go_wp2_with fail
  refine (copyt_any _ g w10 HX.out.slv (by have := HLX.out; omega)).mono ?_
  rintro e w11 ⟨v11, rfl, ho11, hb11⟩
  obtain ⟨A11, c11, rfl⟩ := owned_slice ho11
  have HO11 := Lib.hid ho11
  have HB11 := Lib.hid hb11
  have HR11 := Lib.hid (own_reads (HY.out.below hb11)).2
  have HS11 : Hid (w10.heap.size ≤ w11.heap.size) := hb11.size
  have HM11 : Hid (g.length + ny ≤ 2000000) := by unfold Hid; have := HLX.out; have := HNX.out; omega
  rw [List.length_map, HNX.out.1] at HO11 ⊢
  clear ho11 hb11
  go_wp2_with (at_builtin; refine app_texts_g rfl (.tmp 87) (.tmp 88) rfl w11 w10.heap.size (.slice A11 nx c11) g rfl HO11.out _ Ay ny cy y rfl HR11.out (by exact HM11.out) (by exact HS11.out) ?_; intro v12 w12 ho12 hb12 hg12; clear hg12; have HO12 := Lib.hid ho12; have HB12 : Hid (Below w10.heap.size w10 w12) := HB11.out.trans hb12; clear ho12 hb12)
  refine (runiq_any v12 (g ++ y) w12 HO12.out.slv (by rw [List.length_append]; have := HLX.out; omega)).mono ?_
  rw [HZU.out]
  rintro e w13 ⟨v13, rfl, ho13, hb13⟩
  have HB13 : Hid (Below w10.heap.size w10 w13) := HB12.out.trans (hb13.mono HB12.out.size)
  have HO13 := Lib.hid ho13
  clear ho13 hb13
  go_wp2_with fail
  refine (texts_same _ _ z w13 (HZ.out.below HB13.out).slv HO13.out.slv).mono ?_
  rintro e w14 ⟨rfl, hb14⟩
  have HB14 : Hid (Below w10.heap.size w10 w14) := HB13.out.trans (hb14.mono HB13.out.size)
  have HBW := Lib.hid (HB10.out.trans (HB14.out.mono HB10.out.size))
  have HX2 := Lib.hid (HX.out.below HB14.out)
  have HP2 := Lib.hid (HP.out.below HB14.out)
  have HQ2 := Lib.hid (HQ.out.below HB14.out)
  have HRR2 := Lib.hid (HRR.out.below HB14.out)
  have HG2 := Lib.hid (HG.out.below HB14.out)
  clear hb14
  go_wp2_with fail
  refine (copyt_any _ p w14 HP2.out.slv (by have := HLX.out; omega)).mono ?_
  rintro e w15 ⟨v15, rfl, ho15, hb15⟩
  obtain ⟨A15, c15, rfl⟩ := owned_slice ho15
  have HO15 := Lib.hid ho15
  have HB15 := Lib.hid hb15
  have HR15 := Lib.hid (own_reads (HQ2.out.below hb15)).2
  have HS15 : Hid (w14.heap.size ≤ w15.heap.size) := hb15.size
  have HM15 : Hid (p.length + nq ≤ 2000000) := by unfold Hid; have := HLX.out; have := HNX.out; omega
  rw [List.length_map, HNX.out.2.2.1] at HO15 ⊢
  clear ho15 hb15
  go_wp2_with (at_builtin; refine app_texts_g rfl (.tmp 96) (.tmp 97) rfl w15 w14.heap.size (.slice A15 np c15) p rfl HO15.out _ Aq nq cq q rfl HR15.out (by exact HM15.out) (by exact HS15.out) ?_; intro v16 w16 ho16 hb16 hg16; clear hg16; have HO16 := Lib.hid ho16; have HB16 : Hid (Below w14.heap.size w14 w16) := HB15.out.trans hb16; clear ho16 hb16)
  refine (runiq_any v16 (p ++ q) w16 HO16.out.slv (by rw [List.length_append]; have := HLX.out; omega)).mono ?_
  rw [HRU.out]
  rintro e w17 ⟨v17, rfl, ho17, hb17⟩
  have HB17 : Hid (Below w14.heap.size w14 w17) := HB16.out.trans (hb17.mono HB16.out.size)
  have HO17 := Lib.hid ho17
  clear ho17 hb17
  go_wp2_with fail
  refine (texts_same _ _ r w17 (HRR2.out.below HB17.out).slv HO17.out.slv).mono ?_
  rintro e w18 ⟨rfl, hb18⟩
  have HB18 : Hid (Below w14.heap.size w14 w18) := HB17.out.trans (hb18.mono HB17.out.size)
  have HBW2 := Lib.hid (HBW.out.trans (HB18.out.mono HBW.out.size))
  have HX3 := Lib.hid (HX2.out.below HB18.out)
  have HG3 := Lib.hid (HG2.out.below HB18.out)
  clear hb18
  go_wp2_with fail
  refine (texts_same _ _ g w18 HG3.out.slv HX3.out.slv).mono ?_
  rintro e w19 ⟨rfl, hb19⟩
  have HBW3 := Lib.hid (HBW2.out.trans (hb19.mono HBW2.out.size))
  clear hb19
  go_wp2_with fail
  go_ret
  exact ⟨rfl, HBW3.out⟩
end Go.Proofs.Yteffiedolcjjlaa.Ob
