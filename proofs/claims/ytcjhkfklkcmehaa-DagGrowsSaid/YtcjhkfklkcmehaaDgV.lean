/- DagGrows: the law's walk. -/
import Derived.Test.YtcjhkfklkcmehaaDgU
import Derived.Test.YtcjhkfklkcmehaaDgR
import Derived.Test.YtcjhkfklkcmehaaTs9
set_option linter.unusedVariables false
set_option linter.unusedSimpArgs false
namespace Go.Proofs.Ytcjhkfklkcmehaa.Tx
open Go.RowKit Go.Maps Go.Proofs.Ytcjhkfklkcmehaa.Sh

theorem AskPost.got {w w' : World} {ok : Bool} {ts : List ByteArray} {e : Ending} (h : AskPost w ok ts e w') : Below w.heap.size w w' ∧ ∃ (v : Value) (x : Int), e = .returned (.tuple #[v, .int .i64 x]) ∧ x = (if ok then 0 else 7) ∧ OwnV 9 w' w.heap.size v ((if ok then ts else []).map sv) := by
  obtain ⟨hb, ⟨rfl, v, rfl, ho⟩ | ⟨rfl, rfl⟩⟩ := h
  · exact ⟨hb, v, 0, rfl, rfl, ho⟩
  · exact ⟨hb, _, 7, rfl, rfl, OwnV.nil_ _ _⟩
theorem GO.ancs {w v : World} {g : Nat} {G : GR} (h : GO w v g G) (hw : GW G) (hs : GS G) (W : World) (hW : Below v.heap.size v W) (u : Value) (xs : List ByteArray) (hu : SlV W u (xs.map sv)) (hsz : ∀ s ∈ xs, s.size ≤ 1000000) (hn : xs.length ≤ 2000) :
    Calls Try.prog 23 #[.pointer (some ⟨g, 0, none⟩), u] W (AskPost W (allG G xs) (ancT G xs)) := by
  obtain ⟨⟨Z, h1, _⟩, _⟩ := h
  exact gancs_any Z g G u xs W (h1.below hW) hw hs hu hsz hn
/-- A stamp, as it is asked for. -/
def stV (G : GR) (s : ByteArray) : Int := if inG G s then stAt G (pl G s) else -1
theorem GO.stamp {w v : World} {g : Nat} {G : GR} (h : GO w v g G) (W : World) (hW : Below v.heap.size v W) (s : ByteArray) (hs : s.size ≤ 1000000) :
    Calls Try.prog 19 #[.pointer (some ⟨g, 0, none⟩), .string s] W fun e w' => e = .returned (.int .i64 (stV G s)) ∧ W = w' := by
  obtain ⟨⟨Z, h1, _⟩, _⟩ := h
  exact gstamp_any Z g G s W (h1.below hW) hs
theorem stV_le {G : GR} {k : Nat} (h : GK G k) (s : ByteArray) : -1 ≤ stV G s ∧ stV G s ≤ 9223372036854775807 := by
  unfold stV
  split
  · rename_i hin
    have := h.w.neg (pl G s)
    obtain ⟨n, hn⟩ := node_at (pl_lt hin)
    rw [stAt_of hn] at this ⊢
    exact ⟨by omega, h.st n (List.mem_of_getElem? hn)⟩
  · omega
def SomeYes (w : World) (e : Ending) (w' : World) : Prop := ∃ t, e = .returned (.bool t) ∧ Below w.heap.size w w'
set_option maxRecDepth 100000 in
set_option maxHeartbeats 400000 in
theorem texts_some (v v' : Value) (xs ys : List ByteArray) (w : World) (h : SlV w v (xs.map sv)) (h' : SlV w v' (ys.map sv)) : Calls Try.prog 15 #[v, v'] w (SomeYes w) := by
  obtain ⟨A, c, rfl, hlc, hcm, hR⟩ := h.len
  obtain ⟨A', c', rfl, hlc', hcm', hR'⟩ := h'.len
  rw [List.length_map] at hlc hR hlc' hR' ⊢
  rw [List.length_map]
  have HR := Lib.hid hR
  have HR' := Lib.hid hR'
  unfold maxLen at hcm hcm'
  obtain ⟨l, hl⟩ : ∃ l, xs.length = l := ⟨_, rfl⟩
  obtain ⟨l', hl'⟩ : ∃ l, ys.length = l := ⟨_, rfl⟩
  rw [hl] at hlc ⊢
  rw [hl'] at hlc' ⊢
  have HL := Lib.hid hl
  have HL' := Lib.hid hl'
  clear h h' hR hR' hl hl'
  by_cases hll : l = l'
  · subst hll
    go_enter Try.func15, Try.ntmps15
    go_wp2
    go_loopw [5] (fun i wr => ∃ k : Nat, k ≤ l ∧ i = .int .i64 k ∧ Below w.heap.size w wr) (fun i _ => l - (intOf i).toNat)
    case atStart => exact ⟨0, Nat.zero_le _, rfl, Below.refl _ _⟩
    case round =>
      obtain ⟨k, hk, rfl, hb⟩ := hrel
      have HB := Lib.hid hb
      clear hb
      by_cases hlt : k < l
      · have hkl : k < xs.length := by rw [HL.out]; exact hlt
        have hkl' : k < ys.length := by rw [HL'.out]; exact hlt
        obtain ⟨ad, rfl, hcell⟩ := texts_at ((HR.out.below HB.out).more HB.out.size) k hkl
        obtain ⟨ad', rfl, hcell'⟩ := texts_at ((HR'.out.below HB.out).more HB.out.size) k hkl'
        generalize xs[k] = x at *
        generalize ys[k] = y at *
        have z0 : (0 : Int) ≤ (k : Int) := by omega
        have z1 : (k : Int) < (l : Int) := by omega
        clear hkl hkl'
        by_cases hxy : x = y
        · subst hxy
          go_wp2_with fail
          go_quiet (fail)
          go_wp2
          go_roundw
          case rel => exact ⟨k + 1, by omega, by go_num, below_drewN HB.out _⟩
          case measure => simp [intOf]; omega
        · have hne : (x.toList == y.toList) = false := toList_ne hxy
          have hne2 : (x.toList != y.toList) = true := by rw [bne, hne]; rfl
          clear hxy
          go_wp2_with fail
          go_quiet (fail)
          go_wp2
          go_ret
          exact ⟨false, rfl, below_drewN HB.out _⟩
      · go_wp2
        go_ret
        exact ⟨true, rfl, HB.out⟩
  · have hne : ((l : Int) != (l' : Int)) = true := by rw [bne_iff_ne]; omega
    clear hll
    go_enter Try.func15, Try.ntmps15
    go_wp2
    go_ret
    exact ⟨false, rfl, Below.refl _ _⟩
theorem new_yes {a : ByteArray} (h : a = ⟨#[110, 101, 119]⟩) : (a.toList == [110, 101, 119]) = true ∧ a.toList = [110, 101, 119] ∧ (a.toList != [110, 101, 119]) = false := by
  have : a.toList = [110, 101, 119] := by rw [h, tl_mk]
  rw [this]
  exact ⟨by decide, rfl, by decide⟩
theorem new_no {a : ByteArray} (h : a ≠ ⟨#[110, 101, 119]⟩) : (a.toList == [110, 101, 119]) = false ∧ ¬ (a.toList = [110, 101, 119]) ∧ (a.toList != [110, 101, 119]) = true := by
  have : a.toList ≠ [110, 101, 119] := fun e => h (ba_ext (by rw [e, tl_mk]))
  refine ⟨beq_eq_false_iff_ne.2 this, this, ?_⟩
  rw [bne_iff_ne]
  exact this
/-- An append that a guard lets by, with what block grew. -/
theorem append_texts_wg {ops : Array Oper} {rest : List Oper} {o : Oper} {a : Act} {Q : Exit → Act → World → Prop} (hgd : Region.wanted o (yielded ops a.tmps) = true) (s x : Operand)
    (ho : o.op = .call { callee := .builtin .append, args := #[s, x], argTypes := #[23, 23] }) (w : World) (B : Nat) (v : Value) (ts : List ByteArray) (hs : a.eval s = v) (hown : OwnV 9 w B v (ts.map sv))
    (B' : Nat) (A : Option Addr) (m c : Nat) (us : List ByteArray) (hx : a.eval x = .slice A m c) (hr : Reads w B' 1 A m (us.map sv)) (hsmall : ts.length + m ≤ 2000000) (hB : B ≤ w.heap.size)
    (h : ∀ v' w', OwnV 9 w' B v' ((ts ++ us).map sv) → Below B w w' → w.grownBy w' v.ownBlock → wpList Try.prog ops Q rest (a.put o.dst v') w') : wpList Try.prog ops Q (o :: rest) a w := by
  obtain ⟨i0, hi, hz0, hz1, hz2⟩ := info_parts info_str
  have hm : us.length = m := by have := hr.1; simpa using this
  have hown' : w.ownsRow B 9 1 v ts.length (ts.map sv) := by have := hown; unfold OwnV at this; rwa [List.length_map] at this
  unfold wpList
  rw [if_pos hgd]
  left
  refine wp_append_any w s x 23 ho B 9 i0 (.string ⟨#[]⟩) 1 16 Try.underlying23 hi hz0 hz1 hz2 rfl (by decide) v ts.length _ hs hown' B' A m c _ hx hr (sv_one us) (by unfold maxLen; omega) (by omega) hB ?_
  intro v' w' h1 h2 _
  refine h v' w' ?_ ((Below.refl _ _).grown h2 hB (fun k hk => (hown'.lt k hk).1)) h2
  unfold OwnV
  rw [List.length_map, List.length_append, hm, List.map_append]
  exact h1
/-- What was there answers as before. -/
theorem grows_same {G : GR} {ps : List ByteArray} {st : Int} {a b id : ByteArray} (hw : GW G) (hid : id.size ≤ 1000000) (ha : a ≠ id) (hb : b ≠ id) :
    (if (inG (addR G id ps st) a && inG (addR G id ps st) b) = true then basT (addR G id ps st) [a] b else []) = (if (inG G a && inG G b) = true then basT G [a] b else []) ∧ isG (addR G id ps st) a b = isG G a b := by
  unfold addR
  split
  · rename_i hE
    have hw' := hw.add hE hid
    unfold addG at hw' ⊢
    refine ⟨?_, is_add hw hw' ha hb⟩
    rw [in_add (nd := ⟨id, plsL G (uniqT ps), st⟩) ha, in_add (nd := ⟨id, plsL G (uniqT ps), st⟩) hb]
    cases hia : inG G a with
    | false => rfl
    | true =>
      cases hib : inG G b with
      | false => rfl
      | true =>
        show basT _ [a] b = basT G [a] b
        exact bas_add hw hw' hia hib
  · exact ⟨rfl, rfl⟩
abbrev bN : ByteArray := ⟨#[110, 101, 119]⟩

set_option maxRecDepth 100000 in
set_option maxHeartbeats 12800000 in
theorem dagGrows_walk (a0 : Option Addr) (len0 cap0 : Nat) (a1 : Option Addr) (len1 cap1 : Nat) (z1 : List ByteArray) (a b : ByteArray) (w : World) (w0 : IsNodes w a0 len0 cap0) (w1 : IsTexts w a1 len1 cap1 z1) (w2 : a.size ≤ maxLen) (w3 : b.size ≤ maxLen) :
    Calls Try.prog 7 #[.slice a0 len0 cap0, .slice a1 len1 cap1, .string a, .string b] w (Yes w) := by
  obtain ⟨l, hln, hsn, hst⟩ := w0
  obtain ⟨xs, hxl, hxs, hxz⟩ := w1.slv
  have hmade := fun (W : World) (hW : Below w.heap.size w W) => gmade_any _ l W (hln.below hW) hsn hst
  have hfew := fun (W : World) (hW : Below w.heap.size w W) => gfew_any _ xs W (hxs.below hW) hxz
  obtain ⟨A, c, hv, hlc, hcm, hR⟩ := hxs.len
  injection hv with e1 e2 e3
  subst e1 e3
  rw [List.length_map] at hlc hR e2
  subst e2
  have HMADE := Lib.hid hmade
  have HFEW := Lib.hid hfew
  have HXS := Lib.hid hxs
  have HR := Lib.hid hR
  have HSTN := Lib.hid hst
  unfold maxLen at w2 w3 hcm
  clear hln hsn hst hmade hfew hxs hR w1 hxz hxl
  obtain ⟨n, hn⟩ : ∃ n, xs.length = n := ⟨_, rfl⟩
  rw [hn] at HFEW HXS hlc ⊢
  have HN := Lib.hid hn
  have sa0 : (0 : Int) ≤ (a.size : Int) := by omega
  have sa1 : (a.size : Int) ≤ 9223372036854775807 := by omega
  have sb0 : (0 : Int) ≤ (b.size : Int) := by omega
  have sb1 : (b.size : Int) ≤ 9223372036854775807 := by omega
  clear hn
  go_enter Try.func7, Try.ntmps7
  go_wp2_with fail
  refine (gfirst_any w).mono ?_
  rintro e v1 ⟨rfl, hb1⟩
  have HB1 := Lib.hid hb1
  have HC1 := Lib.hid (HMADE.out v1 hb1)
  clear hb1
  go_wp2_with fail
  refine (HC1.out).mono ?_
  rintro e v2 (⟨g, rfl, hgo, hfn⟩ | ⟨rfl, hb2⟩)
  case inr =>
    have HF := Lib.hid (first_then (HB1.out.trans (hb2.mono HB1.out.size)))
    clear hb2
    go_wp2_with fail
    refine (HF.out).mono ?_
    rintro e v3 ⟨rfl, hb3⟩
    have HB3 := Lib.hid hb3
    clear hb3
    go_wp2_with fail
    go_ret
    exact ⟨rfl, HB3.out⟩
  have hb2 : Below w.heap.size w v2 := HB1.out.trans (hgo.b.mono HB1.out.size)
  have HB2 := Lib.hid hb2
  have HC2 := Lib.hid (HFEW.out v2 hb2)
  have hgk := gk_whole hfn HSTN.out
  have hgc := hgo.calls hgk (by omega)
  obtain ⟨G, hG⟩ : ∃ G, madeG l = G := ⟨_, rfl⟩
  rw [hG] at hgc hgk hgo
  have HGC := Lib.hid hgc
  have HGK := Lib.hid hgk
  have HGO := Lib.hid hgo
  have HF := Lib.hid (first_then hb2)
  clear hb2 hgo hfn hgk hgc hG
  go_wp2_with fail
  refine (HC2.out).mono ?_
  rintro e v3 ⟨t, rfl, ht, rfl⟩
  cases t with
  | false =>
    clear ht
    go_wp2_with fail
    refine (HF.out).mono ?_
    rintro e v3 ⟨rfl, hb3⟩
    have HB3 := Lib.hid hb3
    clear hb3
    go_wp2_with fail
    go_ret
    exact ⟨rfl, HB3.out⟩
  | true =>
  have HFT := Lib.hid (ht rfl)
  have hn20 : n ≤ 20 := by rw [← HN.out]; exact HFT.out.1
  clear ht
  by_cases ha : a.size ≤ 100
  case neg =>
    have s2 : (100 : Int) < (a.size : Int) := by omega
    go_wp2_with fail
    refine (HF.out).mono ?_
    rintro e v3 ⟨rfl, hb3⟩
    have HB3 := Lib.hid hb3
    clear hb3
    go_wp2_with fail
    go_ret
    exact ⟨rfl, HB3.out⟩
  have s2 : (a.size : Int) ≤ 100 := by omega
  by_cases hbz : b.size ≤ 100
  case neg =>
    have s3 : (100 : Int) < (b.size : Int) := by omega
    go_wp2_with fail
    refine (HF.out).mono ?_
    rintro e v3 ⟨rfl, hb3⟩
    have HB3 := Lib.hid hb3
    clear hb3
    go_wp2_with fail
    go_ret
    exact ⟨rfl, HB3.out⟩
  have s3 : (b.size : Int) ≤ 100 := by omega
  have HA : Hid (a.size ≤ 1000000) := by unfold Hid; omega
  have HBZ : Hid (b.size ≤ 1000000) := by unfold Hid; omega
  have HCH := Lib.hid (HGC.out.has v2 bN (Below.refl _ _) (by decide))
  cases hnew : inG G bN with
  | true =>
    rw [hnew] at HCH
    clear hnew
    go_wp2_with fail
    refine (HCH.out).mono ?_
    rintro e v3 ⟨rfl, rfl⟩
    go_wp2_with fail
    refine (HF.out).mono ?_
    rintro e v3 ⟨rfl, hb3⟩
    have HB3 := Lib.hid hb3
    clear hb3
    go_wp2_with fail
    go_ret
    exact ⟨rfl, HB3.out⟩
  | false =>
  rw [hnew] at HCH
  have HNEW := Lib.hid hnew
  have HC3 := Lib.hid ((HGC.out.bas v2 a b (Below.refl _ _) HA.out HBZ.out).mono fun e w' h => h.got)
  clear hnew HF
  go_wp2_with fail
  refine (HCH.out).mono ?_
  rintro e v3 ⟨rfl, rfl⟩
  go_wp2_with fail
  refine (HC3.out).mono ?_
  rintro e v3 ⟨hb3, vx, xx, rfl, hxx, hox⟩
  clear hxx
  have HB23 := Lib.hid hb3
  have HOX := Lib.hid hox
  have HC4 := Lib.hid (HGC.out.is_ v3 a b hb3 HA.out HBZ.out)
  clear hb3 hox
  go_wp2_with fail
  refine (HC4.out).mono ?_
  rintro e v4 ⟨rfl, hb4⟩
  have hb24 := HB23.out.trans (hb4.mono HB23.out.size)
  have HOX4 := Lib.hid (OwnV.below HOX.out hb4)
  have HB24 := Lib.hid hb24
  have HC5 := Lib.hid ((HGO.out.ancs HGC.out.w HGC.out.s v4 hb24 _ xs (HXS.out.below (HB2.out.trans (hb24.mono HB2.out.size))) (fun s hs => by have := HFT.out.2 s hs; omega) (by rw [HN.out]; omega)).mono fun e w' h => h.got)
  clear hb4 hb24
  go_wp2_with fail
  refine (HC5.out).mono ?_
  rintro e v5 ⟨hb5, vu, xu, rfl, hxu, hou⟩
  have HXU := Lib.hid hxu
  have HOX5 := Lib.hid (OwnV.below HOX4.out hb5)
  have hb25 := HB24.out.trans (hb5.mono HB24.out.size)
  have HB25 := Lib.hid hb25
  have HB5 := Lib.hid (HB2.out.trans (hb25.mono HB2.out.size))
  have HOU := Lib.hid (hou.base (B' := v2.heap.size) HB24.out.size)
  have HSTP : Hid (∀ s : ByteArray, s.size ≤ 1000000 → Calls Try.prog 19 #[.pointer (some ⟨g, 0, none⟩), .string s] v5 fun e w' => e = .returned (.int .i64 (stV G s)) ∧ v5 = w') := fun s hs => HGO.out.stamp v5 hb25 s hs
  have HR5 := Lib.hid ((HR.out.below HB5.out).more HB5.out.size)
  clear hb5 hou hb25 hxu
  go_wp2_with fail
  go_loopw [15, 16] (fun s i wr => ∃ (k : Nat) (st : Int), k ≤ n ∧ i = .int .i64 k ∧ s = .int .i64 st ∧ 0 ≤ st ∧ st ≤ 9223372036854775807 ∧ wr = v5 ∧ ∀ x ∈ xs.take k, stV G x ≤ st) (fun _ i _ => n - (intOf i).toNat)
  case atStart => exact ⟨0, 0, Nat.zero_le _, rfl, rfl, Int.le_refl _, by omega, rfl, fun x hx => by cases hx⟩
  case round =>
    obtain ⟨k, st, hk, rfl, rfl, hs0, hs1, rfl, hall⟩ := hrel
    have HALL := Lib.hid hall
    clear hall
    have z0 : (0 : Int) ≤ (k : Int) := by omega
    by_cases hlt : k < n
    · have z1 : (k : Int) < (n : Int) := by omega
      have hkl : k < xs.length := by rw [HN.out]; exact hlt
      obtain ⟨ad, rfl, hcell⟩ := texts_at HR5.out k hkl
      have hxm : xs[k] ∈ xs := List.getElem_mem hkl
      have hxz : xs[k].size ≤ 1000000 := by have := HFT.out.2 _ hxm; omega
      have HX := Lib.hid (show xs.take (k + 1) = xs.take k ++ [xs[k]] from List.take_succ_eq_append_getElem hkl)
      generalize xs[k] = x at *
      have HCS := Lib.hid (HSTP.out x hxz)
      obtain ⟨sx, hsx⟩ : ∃ sx, stV G x = sx := ⟨_, rfl⟩
      obtain ⟨hb1, hb2⟩ := stV_le HGK.out x
      rw [hsx] at hb1 hb2 HCS
      have HSX := Lib.hid hsx
      clear hkl hxm hxz hsx
      go_wp2_with fail
      refine (HCS.out).mono ?_
      rintro e v6 ⟨rfl, rfl⟩
      by_cases hle : st ≤ sx
      · go_wp2
        all_goals
          go_roundw
          case rel =>
            refine ⟨k + 1, sx, by omega, by go_num, ?_, by omega, by omega, by trivial, fun y hy => ?_⟩
            · first | rfl | (congr 1; omega)
            · rw [HX.out, List.mem_append, List.mem_singleton] at hy
              rcases hy with hy | rfl
              · have := HALL.out y hy; omega
              · rw [HSX.out]; omega
          case measure => simp [intOf]; omega
      · have hle2 : sx ≤ st := by omega
        go_wp2
        all_goals
          go_roundw
          case rel =>
            refine ⟨k + 1, st, by omega, by go_num, ?_, by omega, by omega, by trivial, fun y hy => ?_⟩
            · first | rfl | (congr 1; omega)
            · rw [HX.out, List.mem_append, List.mem_singleton] at hy
              rcases hy with hy | rfl
              · exact HALL.out y hy
              · rw [HSX.out]; omega
          case measure => simp [intOf]; omega
    · obtain rfl : k = n := by omega
      have hlen := HGC.out.len wr HB25.out
      obtain ⟨m, hm⟩ : ∃ m, List.length G = m := ⟨_, rfl⟩
      rw [hm] at hlen
      have HLEN := Lib.hid hlen
      have HM := Lib.hid hm
      have hm40 : m ≤ 40 := by rw [← hm]; exact HGK.out.len
      clear hlt z0 hk hlen hm
      go_wp2_with fail
      refine (HLEN.out).mono ?_
      rintro e v6 ⟨rfl, rfl⟩
      by_cases hbig : 1152921504606846976 < st
      · have HF := Lib.hid (first_then HB5.out)
        go_wp2_with fail
        refine (HF.out).mono ?_
        rintro e v6 ⟨rfl, hb6⟩
        have HB6 := Lib.hid hb6
        clear hb6
        go_wp2_with fail
        go_ret
        exact ⟨rfl, HB6.out⟩
      have hbig2 : st ≤ 1152921504606846976 := by omega
      obtain ⟨⟨Z, hat, hz⟩, hgb⟩ := HGO.out
      have hzl := hat.zl
      have hadd := gadd_any Z g G bN _ xs (st + 1) wr (hat.below HB25.out) HGC.out.w HGC.out.s (by decide) (HXS.out.below HB5.out) (fun s hs => by have := HFT.out.2 s hs; omega) (by rw [HN.out]; omega)
      have hxe : addE G bN xs (st + 1) = xu := by
        rw [HXU.out]
        cases hall : allG G xs with
        | true => exact addE_above (by decide) HNEW.out hall hs0 (fun s hs => by
            have h1 := HALL.out s (by rw [List.take_of_length_le (by rw [HN.out]; omega)]; exact hs)
            have h2 := all_iff.1 hall s hs
            unfold stV at h1
            rw [if_pos h2] at h1
            exact h1) (by rw [HM.out]; omega)
        | false => exact addE_none (by decide) HNEW.out hall
      have hgk2 : GK (addR G bN xs (st + 1)) 41 := HGK.out.add (by decide) (by rw [HN.out]; omega) (by omega)
      have HSM := Lib.hid (fun ha hb => grows_same (G := G) (ps := xs) (st := st + 1) (a := a) (b := b) (id := bN) HGC.out.w (by decide) ha hb)
      have HADD := Lib.hid hadd
      have HXE := Lib.hid hxe
      have HGK2 := Lib.hid hgk2
      have HZL := Lib.hid hzl
      have HZ := Lib.hid hz
      clear hat hz hgb hzl hadd hxe hgk2
      go_wp2_with fail
      refine (HADD.out).mono ?_
      rintro e v6 ⟨Z', rfl, hat6, hon6, _, hz6⟩
      rw [HXE.out]
      have hb16 : Below w.heap.size w v6 := below_only HB5.out (Nat.le_refl _) hon6 (fun k hk => Nat.le_trans HB1.out.size (HZ.out k hk))
      have HB6 := Lib.hid hb16
      have HGC2 := Lib.hid (GCalls.mk_ hat6 HGK2.out.w (HGK2.out.gs (by omega)))
      have HOX6 := Lib.hid (hon6.own HOX5.out (fun k hk hZ => by have := (HOX5.out.lt k hk).1; have := HZL.out k hZ; omega))
      have HOU6 := Lib.hid (hon6.own HOU.out (fun k hk hZ => by have := (HOU.out.lt k hk).1; have := HZL.out k hZ; omega))
      obtain ⟨G2, hG2⟩ : ∃ G2, addR G bN xs (st + 1) = G2 := ⟨_, rfl⟩
      rw [hG2] at HGC2 HSM
      have HG2 := Lib.hid hG2
      have HC7 := Lib.hid ((HGC2.out.bas v6 a b (Below.refl _ _) HA.out HBZ.out).mono fun e w' h => h.got)
      obtain ⟨xb, hxb⟩ : ∃ t : Bool, (xu == 0) = t := ⟨_, rfl⟩
      have HXB := Lib.hid hxb
      have HON := Lib.hid hon6
      clear hat6 hon6 hz6 hb16 hG2 hs0 hs1
      go_wp2_with fail
      clear hxb
      refine (HC7.out).mono ?_
      rintro e v7 ⟨hb7, vy, xy, rfl, hxy, hoy⟩
      have HB67 := Lib.hid hb7
      have HSZ26 : Hid (v2.heap.size ≤ v6.heap.size) := Nat.le_trans HB25.out.size HON.out.size
      have HB7 := Lib.hid (HB6.out.trans (hb7.mono HB6.out.size))
      have HOX7 := Lib.hid (OwnV.below HOX6.out hb7)
      have HOU7 := Lib.hid (OwnV.below HOU6.out hb7)
      have HOY7 := Lib.hid hoy
      have HIS2 : Hid (∀ W, Below v7.heap.size v7 W → Calls Try.prog 31 #[.pointer (some ⟨g, 0, none⟩), .string a, .string b] W fun e w' => e = .returned (.bool (isG G2 a b)) ∧ Below W.heap.size W w') := fun W hW => HGC2.out.is_ W a b (HB67.out.trans (hW.mono HB67.out.size)) HA.out HBZ.out
      clear hb7 hxy hoy
      obtain ⟨i0, hi0⟩ : ∃ u, isG G a b = u := ⟨_, rfl⟩
      rw [hi0]
      have HI0 := Lib.hid hi0
      clear hi0
      go_upto_region 21 with (fail)
      go_cut [131] (fun cv wx => cv = .bool false ∧ Below v7.heap.size v7 wx)
      case first =>
        obtain ⟨u, hu⟩ : ∃ u, isG G2 a b = u := ⟨_, rfl⟩
        rw [hu] at HIS2
        by_cases ha1 : a = bN
        · obtain ⟨y1, y2, y3⟩ := new_yes ha1
          clear ha1 hu
          go_wp2_with fail
          refine (texts_some vx vy _ _ v7 HOX7.out.slv HOY7.out.slv).mono ?_
          rintro e v8 ⟨t, rfl, hb8⟩
          have HB8 := Lib.hid hb8
          have HCI := Lib.hid (HIS2.out v8 hb8)
          clear hb8
          cases t
          all_goals
            go_wp2_with fail
            refine (HCI.out).mono ?_
            rintro e v9 ⟨rfl, hb9⟩
            have HB9 := Lib.hid (HB8.out.trans (hb9.mono HB8.out.size))
            clear hb9
            cases u <;> cases i0
            all_goals
              go_wp2_with fail
              go_meet
              exact ⟨rfl, HB9.out⟩
        by_cases hb1 : b = bN
        · obtain ⟨y1, y2, y3⟩ := new_no ha1
          obtain ⟨y4, y5, y6⟩ := new_yes hb1
          clear ha1 hb1 hu
          go_wp2_with fail
          refine (texts_some vx vy _ _ v7 HOX7.out.slv HOY7.out.slv).mono ?_
          rintro e v8 ⟨t, rfl, hb8⟩
          have HB8 := Lib.hid hb8
          have HCI := Lib.hid (HIS2.out v8 hb8)
          clear hb8
          cases t
          all_goals
            go_wp2_with fail
            refine (HCI.out).mono ?_
            rintro e v9 ⟨rfl, hb9⟩
            have HB9 := Lib.hid (HB8.out.trans (hb9.mono HB8.out.size))
            clear hb9
            cases u <;> cases i0
            all_goals
              go_wp2_with fail
              go_meet
              exact ⟨rfl, HB9.out⟩
        have hsame := HSM.out ha1 hb1
        have hui : u = i0 := by rw [← hu, ← HI0.out]; exact hsame.2
        have hoy := HOY7.out.slv
        rw [hsame.1] at hoy
        have HT := Lib.hid (texts_same vx vy _ v7 HOX7.out.slv hoy)
        subst hui
        clear ha1 hb1 hu hsame hoy
        go_wp2_with fail
        refine (HT.out).mono ?_
        rintro e v8 ⟨rfl, hb8⟩
        have HB8 := Lib.hid hb8
        have HCI := Lib.hid (HIS2.out v8 hb8)
        clear hb8
        go_wp2_with fail
        refine (HCI.out).mono ?_
        rintro e v9 ⟨rfl, hb9⟩
        have HB9 := Lib.hid (HB8.out.trans (hb9.mono HB8.out.size))
        clear hb9
        cases u
        all_goals
          go_wp2_with fail
          go_meet
          exact ⟨rfl, HB9.out⟩
      case rest =>
        obtain ⟨rfl, hbx⟩ := hcut
        have HBc := Lib.hid (HB7.out.trans (hbx.mono HB7.out.size))
        have HB6c := Lib.hid (HB67.out.trans (hbx.mono HB67.out.size))
        have HOUc := Lib.hid (OwnV.below HOU7.out hbx)
        clear hbx
        cases hall : allG G xs with
        | false =>
          have hx7 : xu = 7 := by rw [HXU.out, hall]; rfl
          have hg2 : G2 = G := by
            rw [← HG2.out]
            unfold addR
            rw [if_neg (by rw [HXE.out, hx7]; decide)]
          subst hx7
          clear hall
          go_wp2_with fail
          refine (gfirst_any wc).mono ?_
          rintro e v8 ⟨rfl, hb8⟩
          have hb68 := HB6c.out.trans (hb8.mono HB6c.out.size)
          have hl := HGC2.out.len v8 hb68
          have hh := HGC2.out.has v8 bN hb68 (by decide)
          rw [hg2, HM.out] at hl
          rw [hg2, HNEW.out] at hh
          have HL8 := Lib.hid hl
          have HH8 := Lib.hid hh
          have HB8 := Lib.hid (HBc.out.trans (hb8.mono HBc.out.size))
          clear hb8 hb68 hl hh hg2
          go_wp2_with fail
          refine (HL8.out).mono ?_
          rintro e v9 ⟨rfl, rfl⟩
          go_wp2_with fail
          refine (HH8.out).mono ?_
          rintro e v9 ⟨rfl, rfl⟩
          go_wp2_with fail
          go_ret
          exact ⟨rfl, HB8.out⟩
        | true =>
          have hx0 : xu = 0 := by rw [HXU.out, hall]; rfl
          have hE : addE G bN xs (st + 1) = 0 := by rw [HXE.out, hx0]
          have hw' := HGC2.out.w
          have hg2 : G2 = G ++ [⟨bN, plsL G (uniqT xs), st + 1⟩] := by
            rw [← HG2.out]
            unfold addR
            rw [if_pos hE]
            rfl
          have hlen : List.length G2 = m + 1 := by rw [hg2, ← HM.out]; simp
          have hin : inG G2 bN = true := by rw [hg2]; exact in_new (nd := ⟨bN, plsL G (uniqT xs), st + 1⟩)
          have hanc : ancT G2 [bN] = uniqT (ancT G xs ++ [bN]) := by
            rw [hg2] at hw' ⊢
            exact anc_add (nd := ⟨bN, plsL G (uniqT xs), st + 1⟩) HGC.out.w hall HNEW.out rfl hw'
          have hul : (ancT G xs).length ≤ 40 := by have := ancT_len (G := G) (xs := xs); rw [HM.out] at this; omega
          rw [hall] at HOUc
          have hca := HGC2.out.anc1 wc bN HB6c.out (by decide)
          rw [hin, hanc] at hca
          have HCA := Lib.hid hca
          have HLEN2 := Lib.hid hlen
          subst hx0
          obtain ⟨ups, hups⟩ : ∃ ups, ancT G xs = ups := ⟨_, rfl⟩
          rw [hups] at hul HCA
          have hou : OwnV 9 wc v2.heap.size vu (ups.map sv) := by
            have := HOUc.out
            rw [if_pos rfl, hups] at this
            exact this
          have HOUd := Lib.hid hou
          clear hall hE hw' hg2 hlen hin hanc hca hups hou
          go_wp2_with fail
          refine (HCA.out).mono ?_
          rintro e v8 ⟨hb8, ⟨_, vz, rfl, hoz⟩ | ⟨hx, _⟩⟩
          case inr => cases hx
          have hb68 := HB6c.out.trans (hb8.mono HB6c.out.size)
          have HB68 := Lib.hid hb68
          have HB8 := Lib.hid (HBc.out.trans (hb8.mono HBc.out.size))
          have HOU8 := Lib.hid (OwnV.below HOUd.out hb8)
          have HOZ8 := Lib.hid hoz
          have hvul : ∀ k, vu.ownBlock = some k → k < wc.heap.size := fun k hk => (HOUd.out.lt k hk).2
          have HVUL := Lib.hid hvul
          clear hb8 hb68 hoz hvul
          go_wp2_with fail
          refine (gfirst_any v8).mono ?_
          rintro e v9 ⟨rfl, hb9⟩
          have hb69 := HB68.out.trans (hb9.mono HB68.out.size)
          have hl := HGC2.out.len v9 hb69
          rw [HLEN2.out, Int.natCast_add] at hl
          have HL9 := Lib.hid hl
          have HB9 := Lib.hid (HB8.out.trans (hb9.mono HB8.out.size))
          have hou9 := (OwnV.below HOU8.out hb9).alloc (.cells #[.string bN] 9)
          have hoz9 := (OwnV.below HOZ8.out hb9).alloc (.cells #[.string bN] 9)
          have HOU9 := Lib.hid hou9
          have HOZ9 := Lib.hid hoz9
          obtain ⟨A9, c9, he9, _, _, hR9⟩ := (one_text v9 bN).len
          injection he9 with f1 f2 f3
          subst f1
          have HR9 := Lib.hid hR9
          have hsm : ups.length + 1 ≤ 2000000 := by omega
          have hv2z : v2.heap.size ≤ (v9.alloc (.cells #[.string bN] 9)).heap.size := by
            have h1 := HB25.out.size
            have h2 := hb69.size
            have h3 : (v9.alloc (.cells #[.string bN] 9)).heap.size = v9.heap.size + 1 := by simp
            have h4 := HSZ26.out
            omega
          clear hb9 hb69 hl hou9 hoz9 hR9 f2 f3
          go_wp2_with fail
          refine (HL9.out).mono ?_
          rintro e v10 ⟨rfl, rfl⟩
          go_wp2_with (at_builtin; refine append_texts_wg rfl (.tmp 166) (.tmp 167) rfl _ v2.heap.size vu ups rfl HOU9.out _ _ 1 1 [bN] rfl HR9.out hsm hv2z ?_; intro v11 w11 ho11 hb11 hg11; have HO11 := Lib.hid ho11; have HB11 := Lib.hid hb11; have HG11 := Lib.hid hg11; clear ho11 hb11 hg11)
          have hu11 := runiq_any v11 (ups ++ [bN]) w11 HO11.out.slv (by rw [List.length_append, List.length_singleton]; omega)
          have HU11 := Lib.hid hu11
          have hoz11 := OwnV.kept HOZ9.out HG11.out (by
            cases hz : vz.ownBlock with
            | none => exact .inl rfl
            | some k =>
              right
              intro e
              have h1 := (HOZ9.out.lt k hz).1
              have h2 := HVUL.out k e.symm
              omega)
          have HOZ11 := Lib.hid hoz11
          have hbw11 : Below w.heap.size w w11 := (HB9.out.alloc HB9.out.size _).trans (HB11.out.mono HB2.out.size)
          have HBW11 := Lib.hid hbw11
          clear hu11 hoz11 hbw11
          go_wp2_with fail
          refine (HU11.out).mono ?_
          rintro e v12 ⟨vq, rfl, hoq, hb12⟩
          have HT := Lib.hid (texts_same vz vq _ v12 (HOZ11.out.slv.below hb12) hoq.slv)
          have HB12 := Lib.hid (HBW11.out.trans (hb12.mono HBW11.out.size))
          clear hoq hb12
          go_wp2_with fail
          refine (HT.out).mono ?_
          rintro e v13 ⟨rfl, hb13⟩
          have HB13 := Lib.hid (HB12.out.trans (hb13.mono HB12.out.size))
          clear hb13
          go_wp2_with fail
          go_ret
          exact ⟨rfl, HB13.out⟩
end Go.Proofs.Ytcjhkfklkcmehaa.Tx
