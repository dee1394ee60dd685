/- Texts put together: YRc5. -/
import Derived.Test.YteffiedolcjjlaaQa35
import Derived.Test.YteffiedolcjjlaaQa37
import Derived.Shelf.Abstract
/- Package reach: a book's closure. -/
set_option linter.unusedVariables false
set_option linter.unusedSimpArgs false
namespace Go.Proofs.Yteffiedolcjjlaa.Ob
open Go.RowKit Go.Maps Go.Proofs.Yteffiedolcjjlaa.Sh
open Go.Proofs.Yteffiedolcjjlaa.Tx (OwnV SlV sv Only Rd reads_at hasT hasT_yes hasT_iff own_only own_exact own_isMap own_within own_cells lawS key_ba isK NextOK hasT_snoc WK RB walk_any WalkPost sortT TextsPost)

theorem refs_valid {o : ObM} (h : mayB o = true) : ∀ r ∈ refsL o, validB r = true := by
  intro r hr
  unfold refsL at hr
  rcases mayB_kind h with ⟨hk, hb⟩ | ⟨hk, hb⟩ | ⟨hk, hb⟩
  · rw [if_neg (by omega), if_neg (by omega)] at hr
    cases hr
  · rw [if_pos hk] at hr
    obtain ⟨x, hx, rfl⟩ := List.mem_map.1 hr
    exact (itB_of (mem_of_at (itemsB_of (treeB_of hb).1).2 x hx)).2.2.2
  · rw [if_neg (by omega), if_pos hk] at hr
    obtain ⟨_, _, c3⟩ := commB_of hb
    rcases List.mem_cons.1 hr with rfl | hr
    · exact c3.tree
    · exact mem_of_at (parB_of c3.par).2 r hr
theorem objP_may {base : List UInt8 → Option (List UInt8)} {id : List UInt8} {o : ObM} (h : objP base id = some o) : mayB o = true := by
  unfold objP at h
  split at h
  · cases h
  · split at h
    · rename_i hd
      injection h with h
      rw [← h]
      exact decB_may hd
    · cases h
theorem refs_few {o : ObM} (h : mayB o = true) : (refsL o).length ≤ 401 := by
  have := may_few h
  unfold refsL
  split
  · rw [List.length_map]; omega
  · split
    · rw [List.length_cons]; omega
    · simp
theorem nx_few (base : List UInt8 → Option (List UInt8)) (s : ByteArray) : (nxP base s).length ≤ 401 ∧ ∀ t ∈ nxP base s, t.size = 64 := by
  unfold nxP
  cases ho : objP base s.toList with
  | none => exact ⟨by simp [refO], fun t ht => by simp [refO] at ht⟩
  | some o =>
    have hm := objP_may ho
    refine ⟨by rw [List.length_map]; exact refs_few hm, fun t ht => ?_⟩
    obtain ⟨r, hr, rfl⟩ := List.mem_map.1 ht
    rw [str_size]
    exact (validB_len (refs_valid hm r hr)).1
theorem next_ok {w0 : World} {p1 p2 p3 b : Nat} {l : List (List UInt8)} {lie : Bool} (hs : SrcX w0 p1 p2 p3 l lie) (hl : l.length ≤ 1000000) (hsm : ∀ x ∈ l, x.length ≤ 1000000) :
    NextOK w0.heap.size b 78 (nxP (srcP l lie)) (BkJ w0 p1 p2 p3 (srcP l lie) b) where
  enters := enters_of Try.func78 (by kernel_rfl) rfl
  only := fun ⟨F, bm, h⟩ ho hM hB => ⟨F, bm, h.only ho hM hB⟩
  lt := fun ⟨F, bm, h⟩ => h.zl
  size := fun ⟨F, bm, h⟩ => h.old.size
  call := fun id h hal hid => brefs_any id h hs hl hsm hal hid
  few := fun id => ⟨by have := (nx_few (srcP l lie) id).1; omega, fun t ht => by rw [(nx_few (srcP l lie) id).2 t ht]; omega⟩
theorem lookup_ownR {H : Type} {P : Program} (w : World) {ops : Array Oper} {rest : List Oper} {o : Oper} {a : Act} {Q : Exit → Act → World → Prop}
    (hg : o.guard = none) (m x : Operand) (t : TypeId) (hop : o.op = Op.lookup t m x false)
    (k e : TypeId) (K : Keyed P k) (ht : P.underlying t = some (.map k e)) (R : Value → Option (DataW H × List MemPlace)) {z : Value} (hz : (zeroValue e).run P w = .ok z w) (zd : DataW H) (zp : List MemPlace) (hzd : R z = some (zd, zp)) (b n : Nat) (D : DataW H)
    (hm : a.eval m = .map (some b)) (hown : w.ownsMap P k R b n D) (key : Value) (kl : Lit) (hx : a.eval x = key) (hkey : keyOf P k key = some kl)
    (hK : ∀ v ps, R v = some (D.atKey kl zd, ps) → wpList P ops Q rest (a.put o.dst v) w) :
    wpList P ops Q (o :: rest) a w := by
  refine wpList_plain hg fun K' hK' => ?_
  obtain ⟨v, ps, hrun, hv⟩ := hown.lookup K ht hz hzd hkey
  unfold Oper.wp
  simp [execOp, hop, hm, hx, hrun, Result.andThen]
  exact hK' _ _ (hK v ps hv)
/-- Two rows of texts of one's own, apart. -/
structure TwoT (B : Nat) (w : World) (v1 v2 : Value) (xs ys : List ByteArray) : Prop where
  o1 : OwnV 9 w B v1 (xs.map sv)
  o2 : OwnV 9 w B v2 (ys.map sv)
  ap : ∀ k, v1.ownBlock = some k → v2.ownBlock ≠ some k
section
variable {B : Nat} {w w1 w' : World} {v1 v2 v' : Value} {xs ys zs : List ByteArray}
theorem TwoT.swap (h : TwoT B w v1 v2 xs ys) : TwoT B w v2 v1 ys xs := ⟨h.o2, h.o1, fun k hk e => h.ap k e hk⟩
theorem TwoT.below (h : TwoT B w v1 v2 xs ys) (hb : Below w.heap.size w w') : TwoT B w' v1 v2 xs ys := ⟨h.o1.below hb, h.o2.below hb, h.ap⟩
theorem TwoT.app {u : ByteArray} (h : TwoT B w v1 v2 xs ys) (ho : OwnV 9 w' B v' (zs.map sv)) (hg : (w.alloc (.cells #[.string u] 9)).grownBy w' v1.ownBlock) (hk : v'.ownBlock = v1.ownBlock ∨ v'.ownBlock = some (w.alloc (.cells #[.string u] 9)).heap.size) : TwoT B w' v' v2 zs ys := by
  have hne : v2.ownBlock = none ∨ v2.ownBlock ≠ v1.ownBlock := by
    cases e : v2.ownBlock with
    | none => exact .inl rfl
    | some k => exact .inr fun e2 => h.ap k e2.symm e
  refine ⟨ho, (h.o2.alloc _).kept hg hne, fun k hk' e => ?_⟩
  rcases hk with hk | hk
  · exact h.ap k (by rw [← hk]; exact hk') e
  · rw [hk] at hk'
    injection hk' with hk'
    have := (h.o2.lt k e).2
    simp at hk'
    omega
end
def CloPost (w0 : World) (p1 p2 p3 : Nat) (base : List UInt8 → Option (List UInt8)) (b : Nat) (Z : Nat → Prop) (asked ids : List ByteArray) (most : Int) (W : World) (e : Ending) (w' : World) : Prop :=
  (¬ (1 ≤ most ∧ most ≤ 2000) ∧ e = .returned (.tuple #[.slice none 0 0, .slice none 0 0, .int .i64 1]) ∧ w' = W) ∨
  ((1 ≤ most ∧ most ≤ 2000) ∧ ∃ xs k Z' asked', WK (nxP base) ids xs k ∧ (∀ s ∈ xs, s.size ≤ 1000000) ∧ BkJ w0 p1 p2 p3 base b Z' asked' w' ∧ asked'.length ≤ asked.length + 2001 ∧ Only Z W w' ∧ (∀ j, Z' j → Z j ∨ W.heap.size ≤ j) ∧
    ((k = xs.length ∧ (xs.length : Int) ≤ most ∧ ∃ v1 v2, e = .returned (.tuple #[v1, v2, .int .i64 0]) ∧ OwnV 9 w' W.heap.size v1 ((sortT (xs.filter (isP base))).map sv) ∧ OwnV 9 w' W.heap.size v2 ((sortT (xs.filter (fun s => !isP base s))).map sv) ∧ (∀ j, v1.ownBlock = some j → ¬ Z' j) ∧ (∀ j, v2.ownBlock = some j → ¬ Z' j)) ∨
     (most < (xs.length : Int) ∧ e = .returned (.tuple #[.slice none 0 0, .slice none 0 0, .int .i64 14]))))
theorem filter_snoc {xs : List ByteArray} {i : Nat} {x : ByteArray} (p : ByteArray → Bool) (h : xs[i]? = some x) : (xs.take (i + 1)).filter p = (xs.take i).filter p ++ (if p x then [x] else []) := by
  rw [List.take_add_one, h, List.filter_append]
  congr 1
  simp only [Option.toList_some]
  cases hp : p x <;> simp [hp]
set_option maxRecDepth 100000 in
set_option maxHeartbeats 3200000 in
theorem clo_any {w0 W : World} {p1 p2 p3 b : Nat} {l : List (List UInt8)} {lie : Bool} {Z F : Nat → Prop} {asked ids : List ByteArray} {vi : Value} (most : Int) (hj : BkJ w0 p1 p2 p3 (srcP l lie) b Z asked W) (hs : SrcX w0 p1 p2 p3 l lie) (hl : l.length ≤ 1000000) (hsm : ∀ x ∈ l, x.length ≤ 1000000) (hal : asked.length ≤ 90000)
    (hr : Rd F W 1 vi ids.length (ids.map sv)) (hFl : ∀ k, F k → k < W.heap.size) (hsz : ∀ s ∈ ids, s.size ≤ 1000000) (hil : ids.length ≤ 100000) :
    Calls Try.prog 49 #[.pointer (some ⟨b, 0, none⟩), vi, .int .i64 most] W (CloPost w0 p1 p2 p3 (srcP l lie) b Z asked ids most W) := by
  have hmf : ∀ (fn : Fn) (first cap : Array Value) (w : World), (Instr.makeFunc fn first cap).run Try.prog w = .ok (.func fn first cap) w := fun _ _ _ _ => rfl
  have HW := Lib.hid (walk_any most (next_ok (b := b) hs hl hsm) hj hal hr hFl hsz hil)
  clear hj hs hl hsm hal hr hFl hsz hil
  go_enter Try.func49, Try.ntmps49
  go_wp2_with fail
  refine HW.out.mono ?_
  rintro e w2 hpost
  rcases hpost with ⟨hm, rfl, rfl⟩ | ⟨hm, xs, k, Z', hwk, hk2, hxs, hj2, hon, hz, ⟨hk, hle, v, rfl, hov, hvz⟩ | ⟨hlt, rfl⟩⟩
  · have HM := Lib.hid hm
    clear hm
    go_wp2_with fail
    go_ret3
    exact .inl ⟨HM.out, rfl, rfl⟩
  · have HM := Lib.hid hm
    have HWK := Lib.hid hwk
    have HXS := Lib.hid hxs
    have HJ := Lib.hid hj2
    have HON := Lib.hid hon
    have HZ := Lib.hid hz
    have HK := Lib.hid hk
    have HLE := Lib.hid hle
    have HVZ := Lib.hid hvz
    have HOV := Lib.hid hov
    obtain ⟨A, c, rfl, hlc, hcm⟩ := hov.length
    unfold maxLen at hcm
    rw [List.length_map] at HVZ hlc ⊢
    have hn2 : xs.length ≤ 2000 := by omega
    obtain ⟨n, hn⟩ : ∃ n, xs.length = n := ⟨_, rfl⟩
    rw [hn] at HVZ hlc hn2 ⊢
    have HN := Lib.hid hn
    have HAX : Hid (∀ s ∈ xs, hasT (asked ++ xs.take k) s = true) := fun s hs => hasT_yes (List.mem_append_right _ (by rw [hk, List.take_of_length_le (Nat.le_refl _)]; exact hs))
    obtain ⟨F1, bm, hbk⟩ := hj2
    have HBK := Lib.hid hbk
    clear hm hwk hxs hon hz hk hle hvz hov hn hbk
    obtain ⟨D, hown, hpg⟩ := HBK.out.map
    have HPG := Lib.hid hpg
    have HOWN : Hid (∀ W, Below w2.heap.size w2 W → W.ownsMap Try.prog 9 hvR bm (Maps.size D) D) := fun W hW => own_only hown (Only.of_below (M := fun _ => False) hW) (fun h => h)
    clear hown hpg
    go_wp2_with fail
    go_loopw [11, 12, 28] (fun va vb x wr => ∃ i : Nat, i ≤ n ∧ x = .int .i64 (i : Int) ∧ TwoT w2.heap.size wr va vb ((xs.take i).filter (isP (srcP l lie))) ((xs.take i).filter (fun s => !isP (srcP l lie) s)) ∧ Below w2.heap.size w2 wr) (fun _ _ x _ => n - (intOf x).toNat)
    case atStart => exact ⟨0, Nat.zero_le _, rfl, ⟨OwnV.nil_ _ _, OwnV.nil_ _ _, fun k hk => by cases hk⟩, Below.refl _ _⟩
    case round =>
      obtain ⟨i, hi, rfl, htw, hbw⟩ := hrel
      have HTW := Lib.hid htw
      have HBW := Lib.hid hbw
      clear htw hbw
      have z0 : (0 : Int) ≤ (i : Int) := by omega
      by_cases hlt : i < n
      · have z1 : (i : Int) < (n : Int) := by omega
        have hix : i < xs.length := by have := HN.out; omega
        obtain ⟨s, hs⟩ : ∃ s, xs[i]? = some s := ⟨_, List.getElem?_eq_getElem hix⟩
        obtain ⟨ad, rfl, x0⟩ : ∃ ad, A = some ad ∧ wr.cell? (ad.add i) = some (.string s) := by
          obtain ⟨A', c', e', _, _, hrd, _⟩ := (HOV.out.below HBW.out).slv
          injection e' with e' _ _
          subst e'
          exact reads_at hrd i (sv s) (by rw [List.getElem?_map, hs]; rfl)
        have hsm := List.mem_of_getElem? hs
        have HKEY := Lib.hid (key_ba s (HXS.out s hsm))
        obtain ⟨pv, hpv, hlook⟩ := HPG.out.look (HAX.out s hsm)
        obtain ⟨Ap, np, cp, hpe⟩ : ∃ A n c, pv = .slice A n c := by
          obtain ⟨A, c, h1, _⟩ := hpv
          exact ⟨A, _, c, h1⟩
        subst hpe
        clear hpv
        have HLK := Lib.hid hlook
        have q1 : wr.cell? ⟨b, 1, none⟩ = some (.map (some bm)) := (HBK.out.blk.below HBW.out HBK.out.blk.lt).cell 1
        have hf1 := filter_snoc (isP (srcP l lie)) hs
        have hf2 := filter_snoc (fun s => !isP (srcP l lie) s) hs
        have ho1 := HTW.out.o1.length
        have ho2 := HTW.out.o2.length
        have hl1 : ((xs.take i).filter (isP (srcP l lie))).length ≤ 2000 := Nat.le_trans (List.length_filter_le _ _) (by rw [List.length_take]; omega)
        have hl2 : ((xs.take i).filter (fun s => !isP (srcP l lie) s)).length ≤ 2000 := Nat.le_trans (List.length_filter_le _ _) (by rw [List.length_take]; omega)
        have HOW2 := Lib.hid (HOWN.out wr HBW.out)
        obtain ⟨ta, hta⟩ : ∃ t, (xs.take i).filter (isP (srcP l lie)) = t := ⟨_, rfl⟩
        obtain ⟨tb, htb⟩ : ∃ t, (xs.take i).filter (fun s => !isP (srcP l lie) s) = t := ⟨_, rfl⟩
        rw [hta] at HTW hf1 ho1 hl1
        rw [htb] at HTW hf2 ho2 hl2
        have HF1 := Lib.hid hf1
        have HF2 := Lib.hid hf2
        have HL1 : Hid (ta.length + 1 ≤ 2000000) := by unfold Hid; omega
        have HL2 : Hid (tb.length + 1 ≤ 2000000) := by unfold Hid; omega
        have HBS : Hid (w2.heap.size ≤ wr.heap.size) := HBW.out.size
        obtain ⟨A1, c1, hv1, _, _⟩ := ho1
        obtain ⟨A2, c2, hv2, _, _⟩ := ho2
        obtain ⟨m1, hm1⟩ : ∃ m, (ta.map sv).length = m := ⟨_, rfl⟩
        obtain ⟨m2, hm2⟩ : ∃ m, (tb.map sv).length = m := ⟨_, rfl⟩
        rw [hm1] at hv1
        rw [hm2] at hv2
        subst hv1 hv2
        clear hix hs hsm hlook hf1 hf2 hl1 hl2 hta htb hm1 hm2
        cases hp : isP (srcP l lie) s with
        | true =>
          have HP := Lib.hid hp
          clear hp
          go_wp2_with (at_lookup; refine lookup_ownR _ rfl _ _ 111 rfl 9 116 lawS Try.underlying111 hvR (zeroPg _) (.held (pageV false (.slice none 0 0))) [] rfl bm _ D rfl (by exact HOW2.out) _ (.string s.toList) rfl (by exact HKEY.out) ?_; intro u ps hu; obtain rfl := HLK.out u ps hu; rw [HP.out]; clear hu; unfold pageV)
          rename_i hKf
          refine hKf _ _ ?_
          go_wp2_with (first
            | (at_builtin; refine Tx.append_text_r rfl (.tmp 39) (.tmp 41) rfl wr w2.heap.size (.slice A1 m1 c1) ta rfl HTW.out.o1 s rfl (by exact HL1.out) (by exact HBS.out) ?_; intro v3 w3 ho3 hg3 hk3; have HT3 := Lib.hid (HTW.out.app ho3 hg3 hk3); have HB3 : Hid (Below w2.heap.size w2 w3) := (HBW.out.alloc HBS.out _).grown hg3 (by simp; have := HBS.out; omega) (fun k hk => (HTW.out.o1.lt k hk).1); clear ho3 hg3 hk3))
          go_roundw
          case rel => exact ⟨i + 1, by omega, by go_num, by rw [HF1.out, HF2.out, HP.out]; simpa using HT3.out, HB3.out⟩
          case measure => simp [intOf]; omega
        | false =>
          have HP := Lib.hid hp
          clear hp
          go_wp2_with (at_lookup; refine lookup_ownR _ rfl _ _ 111 rfl 9 116 lawS Try.underlying111 hvR (zeroPg _) (.held (pageV false (.slice none 0 0))) [] rfl bm _ D rfl (by exact HOW2.out) _ (.string s.toList) rfl (by exact HKEY.out) ?_; intro u ps hu; obtain rfl := HLK.out u ps hu; rw [HP.out]; clear hu; unfold pageV)
          rename_i hKf
          refine hKf _ _ ?_
          go_wp2_with (first
            | (at_builtin; refine Tx.append_text_r rfl (.tmp 43) (.tmp 45) rfl wr w2.heap.size (.slice A2 m2 c2) tb rfl HTW.out.o2 s rfl (by exact HL2.out) (by exact HBS.out) ?_; intro v3 w3 ho3 hg3 hk3; have HT3 := Lib.hid (HTW.out.swap.app ho3 hg3 hk3).swap; have HB3 : Hid (Below w2.heap.size w2 w3) := (HBW.out.alloc HBS.out _).grown hg3 (by simp; have := HBS.out; omega) (fun k hk => (HTW.out.o2.lt k hk).1); clear ho3 hg3 hk3))
          go_roundw
          case rel => exact ⟨i + 1, by omega, by go_num, by rw [HF1.out, HF2.out, HP.out]; simpa using HT3.out, HB3.out⟩
          case measure => simp [intOf]; omega
      · obtain rfl : i = n := by omega
        have hta : xs.take i = xs := List.take_of_length_le (by rw [HN.out]; exact Nat.le_refl _)
        have htw := HTW.out
        rw [hta] at htw
        have HT := Lib.hid htw
        have hl1 : (xs.filter (isP (srcP l lie))).length ≤ 2000 := Nat.le_trans (List.length_filter_le _ _) (by have := HN.out; omega)
        have hl2 : (xs.filter (fun s => !isP (srcP l lie) s)).length ≤ 2000 := Nat.le_trans (List.length_filter_le _ _) (by have := HN.out; omega)
        have HS1 := Lib.hid (Tx.sort_any _ (xs.filter (isP (srcP l lie))) wr HT.out.o1.slv (by omega))
        have HS2 : Hid (∀ W, Below wr.heap.size wr W → Calls Try.prog 62 #[u12] W (TextsPost W (sortT (xs.filter (fun s => !isP (srcP l lie) s))))) := fun W hW => Tx.sort_any _ (xs.filter (fun s => !isP (srcP l lie) s)) W (HT.out.o2.below hW).slv (by omega)
        clear hta htw hl1 hl2
        go_wp2_with fail
        refine HS1.out.mono ?_
        rintro e w3 ⟨v3, rfl, ho3, hb3⟩
        have HO3 := Lib.hid ho3
        have HB3 := Lib.hid hb3
        clear ho3 hb3
        go_wp2_with fail
        refine (HS2.out w3 HB3.out).mono ?_
        rintro e w4 ⟨v4, rfl, ho4, hb4⟩
        have HO4 := Lib.hid ho4
        have HB4 := Lib.hid hb4
        clear ho4 hb4
        go_wp2_with fail
        go_ret3
        have s1 := HBW.out.size
        have s2 := HB3.out.size
        have s3 := HON.out.size
        have b4 : Below w2.heap.size w2 w4 := (HBW.out.trans (HB3.out.mono s1)).trans (HB4.out.mono (by omega))
        refine .inr ⟨HM.out, xs, k, Z', _, HWK.out, HXS.out, ⟨F1, bm, HBK.out.below b4⟩, (by rw [List.length_append, List.length_take]; have := hk2; omega), HON.out.then_below b4, HZ.out, .inl ⟨HK.out, HLE.out, v3, v4, rfl, (HO3.out.below HB4.out).base (by omega), HO4.out.base (by omega), fun j hj hz => ?_, fun j hj hz => ?_⟩⟩
        · have h1 := (HO3.out.lt j hj).1
          have h2 := (HBK.out.zl j hz).2
          omega
        · have h1 := (HO4.out.lt j hj).1
          have h2 := (HBK.out.zl j hz).2
          omega
  · have HM := Lib.hid hm
    have HWK := Lib.hid hwk
    have HXS := Lib.hid hxs
    have HJ := Lib.hid hj2
    have HON := Lib.hid hon
    have HZ := Lib.hid hz
    have HLT := Lib.hid hlt
    clear hm hwk hxs hj2 hon hz hlt
    go_wp2_with fail
    go_ret3
    exact .inr ⟨HM.out, xs, k, Z', _, HWK.out, HXS.out, HJ.out, (by rw [List.length_append, List.length_take]; omega), HON.out, HZ.out, .inr ⟨HLT.out, rfl⟩⟩
end Go.Proofs.Yteffiedolcjjlaa.Ob
