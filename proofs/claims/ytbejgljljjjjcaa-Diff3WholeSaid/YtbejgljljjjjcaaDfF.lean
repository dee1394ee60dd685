/- marlaw15: Diff3Whole. -/
import Derived.Test.YtbejgljljjjjcaaDfE
set_option linter.unusedVariables false
set_option linter.unusedSimpArgs false
namespace Go.Proofs.Ytbejgljljjjjcaa.Ln
open Go.RowKit Go.Proofs.Ytbejgljljjjjcaa.Sh Go.Proofs.Ytbejgljljjjjcaa.Tx

def allO (l : List CkM) : List ByteArray := (l.map Ck.o).flatten
theorem allO_app (x y : List CkM) : allO (x ++ y) = allO x ++ allO y := by unfold allO; rw [List.map_append, List.flatten_append]
theorem noTwo_at : ∀ {l : List CkM} (i : Nat) (c d : CkM), NoTwo l → l[i]? = some c → l[i + 1]? = some d → c.kind = 1 → d.kind ≠ 1
  | [], i, c, d, h, h1, h2, hk => by simp at h1
  | x :: l, 0, c, d, h, h1, h2, hk => by
    rw [List.getElem?_cons_zero] at h1
    rw [List.getElem?_cons_succ] at h2
    injection h1 with h1
    subst h1
    refine h.1 hk d ?_
    cases l with
    | nil => simp at h2
    | cons y l => rw [List.getElem?_cons_zero] at h2; exact h2
  | x :: l, i + 1, c, d, h, h1, h2, hk => noTwo_at i c d h.2 (by rwa [List.getElem?_cons_succ] at h1) (by rwa [List.getElem?_cons_succ] at h2) hk
/-- All that the law asks of the chunks. -/
structure WholeM (o a b : List ByteArray) (l : List CkM) : Prop where
  eo : allO l = o
  ea : allA l = a
  eb : allB l = b
  good : ∀ c ∈ l, CkOk c
  two : NoTwo l
theorem whole_all {o a b : List ByteArray} (h : o.length ≤ 200 ∧ a.length ≤ 200 ∧ b.length ≤ 200) : WholeM o a b (cLst o a b) := by
  rw [(cErr_ok h).2]
  have hg := chk_good (o := o) (a := a) (b := b) (kepL o a b) (0, 0, 0) (0, 0, 0) (leT.refl _) (RunOk.self _ _ _ _) (kep_ok o a b)
  exact ⟨chk_cat (l := o) Ck.o (fun t => t.1) (fun _ _ _ => rfl) (fun _ _ h => h.1) rfl (kepL o a b) (0, 0, 0) (0, 0, 0) (leT.refl _) (kep_ok o a b),
    chk_cat (l := a) Ck.a (fun t => t.2.1) (fun _ _ _ => rfl) (fun _ _ h => h.2.1) rfl (kepL o a b) (0, 0, 0) (0, 0, 0) (leT.refl _) (kep_ok o a b),
    chk_cat (l := b) Ck.b (fun t => t.2.2) (fun _ _ _ => rfl) (fun _ _ h => h.2.2) rfl (kepL o a b) (0, 0, 0) (0, 0, 0) (leT.refl _) (kep_ok o a b), hg.1, hg.2⟩
theorem flat_take {l : List CkM} {i : Nat} {c : CkM} (h : l[i]? = some c) : allO (l.take (i + 1)) = allO (l.take i) ++ c.o ∧ allA (l.take (i + 1)) = allA (l.take i) ++ c.a ∧ allB (l.take (i + 1)) = allB (l.take i) ++ c.b := by
  have e : l.take (i + 1) = l.take i ++ [c] := by rw [List.take_add_one, h]; rfl
  rw [e, allO_app, allA_app, allB_app]
  exact ⟨by show _ ++ ([c.o]).flatten = _; rw [List.flatten_singleton], by show _ ++ ([c.a]).flatten = _; rw [List.flatten_singleton], by show _ ++ ([c.b]).flatten = _; rw [List.flatten_singleton]⟩
theorem flat_le (l : List CkM) (i : Nat) : (allO (l.take i)).length ≤ (allO l).length ∧ (allA (l.take i)).length ≤ (allA l).length ∧ (allB (l.take i)).length ≤ (allB l).length := by
  have e : l = l.take i ++ l.drop i := (List.take_append_drop i l).symm
  have h1 : allO l = allO (l.take i) ++ allO (l.drop i) := by rw [← allO_app, List.take_append_drop]
  have h2 : allA l = allA (l.take i) ++ allA (l.drop i) := by rw [← allA_app, List.take_append_drop]
  have h3 : allB l = allB (l.take i) ++ allB (l.drop i) := by rw [← allB_app, List.take_append_drop]
  rw [h1, h2, h3]
  simp only [List.length_append]
  omega
/-- The ways of a chunk, told by the three comparisons. -/
theorem way_ck {c : CkM} (h : CkOk c) : (c.kind = 1 ∧ c.a = c.o ∧ c.b = c.o) ∨ (c.kind = 2 ∧ c.b = c.o) ∨ (c.kind = 3 ∧ c.a = c.o ∧ c.b ≠ c.o) ∨ (c.kind = 4 ∧ c.a = c.b ∧ c.a ≠ c.o) ∨ (c.kind = 5 ∧ c.a ≠ c.b ∧ c.a ≠ c.o ∧ c.b ≠ c.o) := by
  rcases h.2 with h1 | h1
  · exact .inl h1
  · right
    unfold kindL at h1
    by_cases e1 : c.b = c.o
    · rw [if_pos e1] at h1; exact .inl ⟨h1, e1⟩
    · rw [if_neg e1] at h1
      right
      by_cases e2 : c.a = c.o
      · rw [if_pos e2] at h1; exact .inl ⟨h1, e2, e1⟩
      · rw [if_neg e2] at h1
        right
        by_cases e3 : c.a = c.b
        · rw [if_pos e3] at h1; exact .inl ⟨h1, e3, e2⟩
        · rw [if_neg e3] at h1; exact .inr ⟨h1, e3, e2, e1⟩
/-- Three lists of one's own, side by side. -/
def Apt (u v : Value) : Prop := u.ownBlock = none ∨ u.ownBlock ≠ v.ownBlock
theorem Apt.symm {u v : Value} (h : Apt u v) : Apt v u := by
  rcases h with h | h
  · cases hv : v.ownBlock with
    | none => exact .inl hv
    | some k => right; rw [hv, h]; simp
  · exact .inr (fun e => h e.symm)
def Tri3 (w : World) (B : Nat) (x : Value) (xs : List ByteArray) (y : Value) (ys : List ByteArray) (z : Value) (zs : List ByteArray) : Prop :=
  OwnV 9 w B x (xs.map sv) ∧ OwnV 9 w B y (ys.map sv) ∧ OwnV 9 w B z (zs.map sv) ∧ Apt x y ∧ Apt x z ∧ Apt y z
section
variable {w w' : World} {B : Nat} {x y z : Value} {xs ys zs : List ByteArray}
theorem Tri3.rot (h : Tri3 w B x xs y ys z zs) : Tri3 w B y ys z zs x xs := ⟨h.2.1, h.2.2.1, h.1, h.2.2.2.2.2, h.2.2.2.1.symm, h.2.2.2.2.1.symm⟩
theorem Tri3.below (h : Tri3 w B x xs y ys z zs) (hb : Below w.heap.size w w') : Tri3 w' B x xs y ys z zs := ⟨h.1.below hb, h.2.1.below hb, h.2.2.1.below hb, h.2.2.2⟩
theorem Tri3.nil_ (w : World) (B : Nat) : Tri3 w B (.slice none 0 0) [] (.slice none 0 0) [] (.slice none 0 0) [] := ⟨OwnV.nil_ _ _, OwnV.nil_ _ _, OwnV.nil_ _ _, .inl rfl, .inl rfl, .inl rfl⟩
end
/-- append to the first of three, as a step. -/
theorem sapp_tri {ops : Array Oper} {o : Oper} {a : Act} {K : Act → World → Prop} {Q : Exit → Act → World → Prop} {E : Prop} (d : Nat) (hd : o.dst = some d) (hgd : o.guard = none) (s x : Operand)
    (ho : o.op = .call { callee := .builtin .append, args := #[s, x], argTypes := #[22, 22] }) (w : World) (B : Nat) (v y z : Value) (ts ys zs : List ByteArray) (hs : a.eval s = v) (hown : Tri3 w B v ts y ys z zs)
    (B' : Nat) (A : Option Addr) (m c : Nat) (us : List ByteArray) (hx : a.eval x = .slice A m c) (hr : Reads w B' 1 A m (us.map sv)) (hsmall : ts.length + m ≤ 2000000) (hB : B ≤ w.heap.size)
    (h : ∀ v' w', Tri3 w' B v' (ts ++ us) y ys z zs → Below B w w' → (∀ (g : Nat) (cs : Array Value) (E : TypeId), E ≠ 9 → Blk w g E cs → Blk w' g E cs) → K (a.put (some d) v') w') : if Region.wanted o (yielded ops a.tmps) = true then Oper.wp Try.prog o a w K Q else E := by
  obtain ⟨i0, hi, hz0, hz1, hz2⟩ := info_parts info_str
  have hm : us.length = m := by have := hr.1; simpa using this
  obtain ⟨hv, hy, hz, a1, a2, a3⟩ := hown
  have hown' : w.ownsRow B 9 1 v ts.length (ts.map sv) := by have := hv; unfold OwnV at this; rwa [List.length_map] at this
  refine step_append_any w hgd s x 22 ho B 9 i0 (.string ⟨#[]⟩) 1 16 Try.underlying22 hi hz0 hz1 hz2 rfl (by decide) v ts.length _ hs hown' B' A m c _ hx hr (sv_one us) (by unfold maxLen; omega) (by omega) hB ?_
  intro v' w' h1 h2 h3
  rw [hd]
  have apt : ∀ (u : Value) (us : List ByteArray), OwnV 9 w B u (us.map sv) → Apt v u → Apt v' u := by
    intro u us hu hap
    rcases h3 with h3 | h3
    · unfold Apt
      rw [h3]
      exact hap
    · right
      rw [h3]
      intro e
      have := (World.ownsRow.lt hu w.heap.size e.symm).2
      omega
  refine h v' w' ⟨?_, hy.kept h2 a1.symm, hz.kept h2 a2.symm, apt y ys hy a1, apt z zs hz a2, a3⟩ ((Below.refl _ _).grown h2 hB (fun k hk => (hown'.lt k hk).1)) (fun g cs E hE hg => hg.grown h2 (fun e => ?_))
  · unfold OwnV
    rw [List.length_map, List.length_append, hm, List.map_append]
    exact h1
  · rcases hv.blk with ⟨rfl, _⟩ | ⟨g', c', cur', rfl, _, _, hg', _⟩
    · simp [Value.ownBlock] at e
    · have e' : g = g' := by simpa [Value.ownBlock] using e
      subst e'
      exact Blk.ne_ hg hg' hE rfl
set_option maxRecDepth 100000 in
set_option maxHeartbeats 6400000 in
theorem whole_in (v1 v2 v3 : Value) (o a b : List ByteArray) (w : World) (h1 : SlV w v1 (o.map sv)) (h2 : SlV w v2 (a.map sv)) (h3 : SlV w v3 (b.map sv)) (s1 : ∀ s ∈ o, s.size ≤ maxLen) (s2 : ∀ s ∈ a, s.size ≤ maxLen) (s3 : ∀ s ∈ b, s.size ≤ maxLen) : Calls Try.prog 5 #[v1, v2, v3] w (Yes w) := by
  have H1 := Lib.hid (fun W (hW : Below w.heap.size w W) => h1.below hW)
  have H2 := Lib.hid (fun W (hW : Below w.heap.size w W) => h2.below hW)
  have H3 := Lib.hid (fun W (hW : Below w.heap.size w W) => h3.below hW)
  have HW1 := Lib.hid (fun W (hW : Below w.heap.size w W) => few_any v1 o W (h1.below hW) s1)
  have HW2 := Lib.hid (fun W (hW : Below w.heap.size w W) => few_any v2 a W (h2.below hW) s2)
  have HW3 := Lib.hid (fun W (hW : Below w.heap.size w W) => few_any v3 b W (h3.below hW) s3)
  have HF := Lib.hid (fun W => dfirst_any W)
  unfold Yes at HF
  clear s1 s2 s3
  have hlen : ∀ l : List ByteArray, fewB l = true → l.length ≤ 220 := fun l h => by
    unfold fewB at h
    rw [Bool.and_eq_true] at h
    exact of_decide_eq_true h.1
  by_cases hfew : fewB o = true ∧ fewB a = true ∧ fewB b = true
  · obtain ⟨f1, f2, f3⟩ := hfew
    rw [f1] at HW1
    rw [f2] at HW2
    rw [f3] at HW3
    obtain ⟨A1, c1, rfl, hl1, hm1, _⟩ := h1.len
    obtain ⟨A2, c2, rfl, hl2, hm2, _⟩ := h2.len
    obtain ⟨A3, c3, rfl, hl3, hm3, _⟩ := h3.len
    simp only [List.length_map] at h1 h2 h3 H1 H2 H3 HW1 HW2 HW3 ⊢
    have HP := Lib.hid (fun W (hW : Below w.heap.size w W) => chunks_any _ _ _ o a b W (H1.out W hW) (H2.out W hW) (H3.out W hW))
    unfold ChkP at HP
    clear h1 h2 h3 hlen f1 f2 f3
    go_enter Try.func5, Try.ntmps5
    go_wp2_with fail
    refine (HF.out w).mono ?_
    rintro e w1 ⟨rfl, hb1⟩
    have HB1 := Lib.hid hb1
    clear hb1
    go_wp2_with fail
    refine (HW1.out w1 HB1.out).mono ?_
    rintro e w' ⟨rfl, rfl⟩
    go_wp2_with fail
    refine (HW2.out w1 HB1.out).mono ?_
    rintro e w' ⟨rfl, rfl⟩
    go_wp2_with fail
    refine (HW3.out w1 HB1.out).mono ?_
    rintro e w' ⟨rfl, rfl⟩
    go_wp2_with fail
    refine (HP.out w1 HB1.out).mono ?_
    rintro e w4 ⟨cv, rfl, hown, hb4⟩
    have HCL := Lib.hid (fun W (hW : Below w4.heap.size w4 W) => hown.sl.below hW)
    have HB4 := Lib.hid (HB1.out.trans (hb4.mono HB1.out.size))
    obtain ⟨Ac, cc, rfl, hlc, hmc⟩ := hown.slice
    unfold maxLen at hmc
    clear hown hb4
    by_cases hsz : o.length ≤ 200 ∧ a.length ≤ 200 ∧ b.length ≤ 200
    · have hwh := whole_all hsz
      obtain ⟨hE, _⟩ := cErr_ok hsz
      rw [hE]
      obtain ⟨cl, hcl⟩ : ∃ x, cLst o a b = x := ⟨_, rfl⟩
      rw [hcl] at hwh HCL hlc ⊢
      have HWH := Lib.hid hwh
      obtain ⟨n, hn⟩ : ∃ n, cl.length = n := ⟨_, rfl⟩
      have HN := Lib.hid hn
      rw [hn] at hlc HCL ⊢
      have HSZ := Lib.hid hsz
      clear hcl hwh hn hE hsz
      go_wp2_with fail
      go_loopw [9, 10, 11, 12] (fun x y z q wr => ∃ i : Nat, i ≤ n ∧ q = .int .i64 (i : Int) ∧ Tri3 wr w4.heap.size x (allO (cl.take i)) y (allA (cl.take i)) z (allB (cl.take i)) ∧ Below w4.heap.size w4 wr) (fun _ _ _ q _ => n - (intOf q).toNat)
      case atStart => exact ⟨0, Nat.zero_le _, rfl, Tri3.nil_ _ _, Below.refl _ _⟩
      case round =>
        obtain ⟨i, hi, rfl, htri, hb⟩ := hrel
        have HTR := Lib.hid htri
        have HB := Lib.hid hb
        have hwz := hb.size
        clear htri hb
        have z0 : (0 : Int) ≤ (i : Int) := by omega
        by_cases hlt : i < n
        · have z1 : (i : Int) < (n : Int) := by omega
          have hil : i < cl.length := by rw [HN.out]; exact hlt
          obtain ⟨c, hc⟩ : ∃ c, cl[i]? = some c := ⟨_, List.getElem?_eq_getElem hil⟩
          obtain ⟨ad, d1, d2, d3, rfl, hst⟩ := (HCL.out w4 (Below.refl _ _)).stay i c hc
          have HST := Lib.hid hst
          obtain ⟨⟨k0, k1, k2, k3⟩, s1, s2, s3⟩ := hst wr HB.out
          clear hst
          have HFT := Lib.hid (flat_take hc)
          have HCK := Lib.hid (HWH.out.good c (List.mem_of_getElem? hc))
          have HPV : Hid (∀ j d, i = j + 1 → cl[j]? = some d → d.kind = 1 → c.kind ≠ 1) := fun j d hj hd hk => noTwo_at j d c HWH.out.two hd (by rw [← hj]; exact hc) hk
          have hfl := flat_le cl (i + 1)
          rw [HWH.out.eo, HWH.out.ea, HWH.out.eb, HFT.out.1, HFT.out.2.1, HFT.out.2.2] at hfl
          have HSZ2 := HSZ.out
          simp only [List.length_append] at hfl
          obtain ⟨D1, e1, rfl, _, _, _⟩ := s1.len
          obtain ⟨D2, e2, rfl, _, _, _⟩ := s2.len
          obtain ⟨D3, e3, rfl, _, _, _⟩ := s3.len
          obtain ⟨kd, co, ca, cb⟩ := c
          simp only [List.length_map] at k0 k1 k2 k3 s1 s2 s3 HFT HCK HPV hfl
          have R1 := Lib.hid (fun W (hW : Below w4.heap.size w4 W) => (HST.out W hW).2.1)
          have R2 := Lib.hid (fun W (hW : Below w4.heap.size w4 W) => (HST.out W hW).2.2.1)
          have R3 := Lib.hid (fun W (hW : Below w4.heap.size w4 W) => (HST.out W hW).2.2.2)
          simp only [List.length_map] at R1 R2 R3
          have rd : ∀ (A : Option Addr) (c : Nat) (ls : List ByteArray) (W : World), SlV W (.slice A ls.length c) (ls.map sv) → Reads W W.heap.size 1 A ls.length (ls.map sv) := fun A c ls W h => by
            obtain ⟨A', c', he, _, _, hR⟩ := h.len
            injection he with g1 g2 g3
            subst g1
            rw [List.length_map] at hR
            exact hR
          have HRO := Lib.hid (fun W (hW : Below w4.heap.size w4 W) => rd _ _ co W (R1.out W hW))
          have HRA := Lib.hid (fun W (hW : Below w4.heap.size w4 W) => rd _ _ ca W (R2.out W hW))
          have HRB := Lib.hid (fun W (hW : Below w4.heap.size w4 W) => rd _ _ cb W (R3.out W hW))
          have HPC : Hid (∀ j d, i = j + 1 → cl[j]? = some d → ∃ p : Int, wr.cell? (ad.add (j * 4)) = some (.int .i64 p) ∧ (p = 1 → d.kind = 1)) := fun j d hj hd => by
            obtain ⟨ad2, _, _, _, ea, q0, _⟩ := (HCL.out wr HB.out).at_ j d hd
            injection ea with ea
            subst ea
            exact ⟨_, q0, fun e => by omega⟩
          clear hil hc s1 s2 s3 rd HST
          go_upto_region 13 with (fail)
          obtain ⟨wf, hwf'⟩ : ∃ W, W = wr.alloc (.cells #[.int .i64 (kd : Int), .slice D1 co.length e1, .slice D2 ca.length e2, .slice D3 cb.length e3] 42) := ⟨_, rfl⟩
          obtain ⟨gf, hgf⟩ : ∃ k, k = wr.heap.size := ⟨_, rfl⟩
          rw [← hwf']
          try rw [← hgf]
          have HBF : Hid (Below wr.heap.size wr wf) := by unfold Hid; rw [hwf']; exact (Below.refl _ _).alloc (Nat.le_refl _) _
          have HGF : Hid (Blk wf gf 42 #[.int .i64 (kd : Int), .slice D1 co.length e1, .slice D2 ca.length e2, .slice D3 cb.length e3]) := by unfold Hid; rw [hwf', hgf]; exact Blk.new wr _ _
          have HB4f : Hid (Below w4.heap.size w4 wf) := HB.out.trans (HBF.out.mono HB.out.size)
          have HT0 := Lib.hid (HTR.out.below HBF.out)
          have hwf : w4.heap.size ≤ wf.heap.size := HB4f.out.size
          clear hwf' hgf
          obtain ⟨b1, hb1⟩ : ∃ x, decide (ca = co) = x := ⟨_, rfl⟩
          obtain ⟨b2, hb2⟩ : ∃ x, decide (cb = co) = x := ⟨_, rfl⟩
          obtain ⟨b3, hb3⟩ : ∃ x, decide (ca = cb) = x := ⟨_, rfl⟩
          have HD1 := Lib.hid hb1
          have HD2 := Lib.hid hb2
          have HD3 := Lib.hid hb3
          clear hb1 hb2 hb3
          go_cut [9, 10, 11] from 59 to 161 (fun p q u wx => Tri3 wx w4.heap.size p (allO (cl.take (i + 1))) q (allA (cl.take (i + 1))) u (allB (cl.take (i + 1))) ∧ Blk wx gf 42 #[.int .i64 (kd : Int), .slice D1 co.length e1, .slice D2 ca.length e2, .slice D3 cb.length e3] ∧ Below w4.heap.size w4 wx)
          case first => as_aux_lemma =>
            refine wp_region_held_drew (S := (fun W => W.cell? ⟨gf, 1, none⟩ = some (.slice D1 co.length e1) ∧ W.cell? ⟨gf, 2, none⟩ = some (.slice D2 ca.length e2) ∧ W.cell? ⟨gf, 3, none⟩ = some (.slice D3 cb.length e3))) (by kernel_rfl) ?_ (fun hHeld => ?_)
            · try dsimp only
              exact ⟨HGF.out.cell 1, HGF.out.cell 2, HGF.out.cell 3⟩
            refine take_at (i := 0) (d := 69) (oi := { dst := some 69, op := Op.move (Operand.tmp 9), type := 22, pos := "law.go:78", after := #[], guard := none }) (v := ?_) (by kernel_rfl) (by kernel_rfl) (by kernel_rfl) (by kernel_rfl) (by kernel_rfl) (fun _ _ _ h => h) (Or.inl ⟨by kernel_rfl, ?_⟩) (by assumption) ?_
            rotate_left
            · intro W hSw
              try dsimp only at hSw
              go_simp
              first | done | with_reducible rfl
            try simp only [Act.put, List.setIfInBounds_toArray, List.set_cons_zero, List.set_cons_succ]
            refine take_at (i := 1) (d := 70) (oi := { dst := some 70, op := Op.fieldAddr 42 (Operand.tmp 13) 1, type := 0, pos := "law.go:78", after := #[], guard := none }) (v := ?_) (by kernel_rfl) (by kernel_rfl) (by kernel_rfl) (by kernel_rfl) (by kernel_rfl) (fun _ _ _ h => h) (Or.inl ⟨by kernel_rfl, ?_⟩) (by assumption) ?_
            rotate_left
            · intro W hSw
              try dsimp only at hSw
              go_simp
              first | done | with_reducible rfl
            try simp only [Act.put, List.setIfInBounds_toArray, List.set_cons_zero, List.set_cons_succ]
            refine take_at (i := 2) (d := 71) (oi := { dst := some 71, op := Op.load 22 (Operand.tmp 70), type := 22, pos := "law.go:78", after := #[{ on := 1, ground := Ground.data }], guard := none }) (v := ?_) (by kernel_rfl) (by kernel_rfl) (by kernel_rfl) (by kernel_rfl) (by kernel_rfl) (fun _ _ _ h => h) (Or.inl ⟨by kernel_rfl, ?_⟩) (by assumption) ?_
            rotate_left
            · intro W hSw
              try dsimp only at hSw
              obtain ⟨s1, s2, s3⟩ := hSw
              go_simp
              first | done | with_reducible rfl
            try simp only [Act.put, List.setIfInBounds_toArray, List.set_cons_zero, List.set_cons_succ]
            refine take_at (i := 4) (d := 73) (oi := { dst := some 73, op := Op.move (Operand.tmp 10), type := 22, pos := "law.go:78", after := #[], guard := none }) (v := ?_) (by kernel_rfl) (by kernel_rfl) (by kernel_rfl) (by kernel_rfl) (by kernel_rfl) (fun _ _ _ h => h) (Or.inl ⟨by kernel_rfl, ?_⟩) (by assumption) ?_
            rotate_left
            · intro W hSw
              try dsimp only at hSw
              go_simp
              first | done | with_reducible rfl
            try simp only [Act.put, List.setIfInBounds_toArray, List.set_cons_zero, List.set_cons_succ]
            refine take_at (i := 5) (d := 74) (oi := { dst := some 74, op := Op.fieldAddr 42 (Operand.tmp 13) 2, type := 0, pos := "law.go:78", after := #[], guard := none }) (v := ?_) (by kernel_rfl) (by kernel_rfl) (by kernel_rfl) (by kernel_rfl) (by kernel_rfl) (fun _ _ _ h => h) (Or.inl ⟨by kernel_rfl, ?_⟩) (by assumption) ?_
            rotate_left
            · intro W hSw
              try dsimp only at hSw
              go_simp
              first | done | with_reducible rfl
            try simp only [Act.put, List.setIfInBounds_toArray, List.set_cons_zero, List.set_cons_succ]
            refine take_at (i := 6) (d := 75) (oi := { dst := some 75, op := Op.load 22 (Operand.tmp 74), type := 22, pos := "law.go:78", after := #[{ on := 5, ground := Ground.data }], guard := none }) (v := ?_) (by kernel_rfl) (by kernel_rfl) (by kernel_rfl) (by kernel_rfl) (by kernel_rfl) (fun _ _ _ h => h) (Or.inl ⟨by kernel_rfl, ?_⟩) (by assumption) ?_
            rotate_left
            · intro W hSw
              try dsimp only at hSw
              obtain ⟨s1, s2, s3⟩ := hSw
              go_simp
              first | done | with_reducible rfl
            try simp only [Act.put, List.setIfInBounds_toArray, List.set_cons_zero, List.set_cons_succ]
            refine take_at (i := 8) (d := 77) (oi := { dst := some 77, op := Op.move (Operand.tmp 11), type := 22, pos := "law.go:78", after := #[], guard := none }) (v := ?_) (by kernel_rfl) (by kernel_rfl) (by kernel_rfl) (by kernel_rfl) (by kernel_rfl) (fun _ _ _ h => h) (Or.inl ⟨by kernel_rfl, ?_⟩) (by assumption) ?_
            rotate_left
            · intro W hSw
              try dsimp only at hSw
              go_simp
              first | done | with_reducible rfl
            try simp only [Act.put, List.setIfInBounds_toArray, List.set_cons_zero, List.set_cons_succ]
            refine take_at (i := 9) (d := 78) (oi := { dst := some 78, op := Op.fieldAddr 42 (Operand.tmp 13) 3, type := 0, pos := "law.go:78", after := #[], guard := none }) (v := ?_) (by kernel_rfl) (by kernel_rfl) (by kernel_rfl) (by kernel_rfl) (by kernel_rfl) (fun _ _ _ h => h) (Or.inl ⟨by kernel_rfl, ?_⟩) (by assumption) ?_
            rotate_left
            · intro W hSw
              try dsimp only at hSw
              go_simp
              first | done | with_reducible rfl
            try simp only [Act.put, List.setIfInBounds_toArray, List.set_cons_zero, List.set_cons_succ]
            refine take_at (i := 10) (d := 79) (oi := { dst := some 79, op := Op.load 22 (Operand.tmp 78), type := 22, pos := "law.go:78", after := #[{ on := 9, ground := Ground.data }], guard := none }) (v := ?_) (by kernel_rfl) (by kernel_rfl) (by kernel_rfl) (by kernel_rfl) (by kernel_rfl) (fun _ _ _ h => h) (Or.inl ⟨by kernel_rfl, ?_⟩) (by assumption) ?_
            rotate_left
            · intro W hSw
              try dsimp only at hSw
              obtain ⟨s1, s2, s3⟩ := hSw
              go_simp
              first | done | with_reducible rfl
            try simp only [Act.put, List.setIfInBounds_toArray, List.set_cons_zero, List.set_cons_succ]
            refine wpAnyH_ready (rs := [3]) (by kernel_rfl) (by simp) (AllReadyH.cons (o := { dst := some 72, op := Op.call { callee := Callee.builtin Builtin.append, args := #[Operand.tmp 69, Operand.tmp 71], argTypes := #[22, 22] }, type := 22, pos := "law.go:78", after := #[{ on := 0, ground := Ground.data }, { on := 2, ground := Ground.data }], guard := none }) (by kernel_rfl) (fun K hK => ?_) AllReadyH.nil)
            refine sapp_tri 72 rfl rfl (.tmp 69) (.tmp 71) rfl wf.drew w4.heap.size _ _ _ (allO (cl.take i)) (allA (cl.take i)) (allB (cl.take i)) (by rfl) (by exact (HT0.out.below (Below.refl _ _).drew)) _ _ _ _ co (by rfl) (by exact HRO.out _ HB4f.out.drew) (by omega) (by exact hwf) ?_
            intro va1 wa1 ht hb hk
            have HT1 := Lib.hid ht
            have HBb1 : Hid (Below w4.heap.size w4 wa1) := HB4f.out.drew.trans hb
            have HGF1 : Hid (Blk wa1 gf 42 #[.int .i64 (kd : Int), .slice D1 co.length e1, .slice D2 ca.length e2, .slice D3 cb.length e3]) := hk _ _ _ (by decide) HGF.out
            have hwa1 : w4.heap.size ≤ wa1.heap.size := HBb1.out.size
            clear ht hb hk
            try go_wp2_with fail
            refine hK.out _ _ ?_ (fun hHeld => ?_)
            · try dsimp only
              exact ⟨HGF1.out.cell 1, HGF1.out.cell 2, HGF1.out.cell 3⟩
            clear hK K
            try simp only [Act.put, List.setIfInBounds_toArray, List.set_cons_zero, List.set_cons_succ]
            refine wpAnyH_ready (rs := [7]) (by kernel_rfl) (by simp) (AllReadyH.cons (o := { dst := some 76, op := Op.call { callee := Callee.builtin Builtin.append, args := #[Operand.tmp 73, Operand.tmp 75], argTypes := #[22, 22] }, type := 22, pos := "law.go:78", after := #[{ on := 4, ground := Ground.data }, { on := 6, ground := Ground.data }, { on := 3, ground := Ground.chain }], guard := none }) (by kernel_rfl) (fun K hK => ?_) AllReadyH.nil)
            refine sapp_tri 76 rfl rfl (.tmp 73) (.tmp 75) rfl wa1 w4.heap.size _ _ _ (allA (cl.take i)) (allB (cl.take i)) (allO (cl.take i) ++ co) (by rfl) (by exact HT1.out.rot) _ _ _ _ ca (by rfl) (by exact HRA.out _ HBb1.out) (by omega) (by exact hwa1) ?_
            intro va2 wa2 ht hb hk
            have HT2 := Lib.hid ht
            have HBb2 : Hid (Below w4.heap.size w4 wa2) := HBb1.out.trans hb
            have HGF2 : Hid (Blk wa2 gf 42 #[.int .i64 (kd : Int), .slice D1 co.length e1, .slice D2 ca.length e2, .slice D3 cb.length e3]) := hk _ _ _ (by decide) HGF1.out
            have hwa2 : w4.heap.size ≤ wa2.heap.size := HBb2.out.size
            clear ht hb hk
            try go_wp2_with fail
            refine hK.out _ _ ?_ (fun hHeld => ?_)
            · try dsimp only
              exact ⟨HGF2.out.cell 1, HGF2.out.cell 2, HGF2.out.cell 3⟩
            clear hK K
            try simp only [Act.put, List.setIfInBounds_toArray, List.set_cons_zero, List.set_cons_succ]
            refine wpAnyH_ready (rs := [11]) (by kernel_rfl) (by simp) (AllReadyH.cons (o := { dst := some 80, op := Op.call { callee := Callee.builtin Builtin.append, args := #[Operand.tmp 77, Operand.tmp 79], argTypes := #[22, 22] }, type := 22, pos := "law.go:78", after := #[{ on := 8, ground := Ground.data }, { on := 10, ground := Ground.data }, { on := 7, ground := Ground.chain }], guard := none }) (by kernel_rfl) (fun K hK => ?_) AllReadyH.nil)
            refine sapp_tri 80 rfl rfl (.tmp 77) (.tmp 79) rfl wa2 w4.heap.size _ _ _ (allB (cl.take i)) (allO (cl.take i) ++ co) (allA (cl.take i) ++ ca) (by rfl) (by exact HT2.out.rot) _ _ _ _ cb (by rfl) (by exact HRB.out _ HBb2.out) (by omega) (by exact hwa2) ?_
            intro va3 wa3 ht hb hk
            have HT3 := Lib.hid ht
            have HBb3 : Hid (Below w4.heap.size w4 wa3) := HBb2.out.trans hb
            have HGF3 : Hid (Blk wa3 gf 42 #[.int .i64 (kd : Int), .slice D1 co.length e1, .slice D2 ca.length e2, .slice D3 cb.length e3]) := hk _ _ _ (by decide) HGF2.out
            have hwa3 : w4.heap.size ≤ wa3.heap.size := HBb3.out.size
            clear ht hb hk
            try go_wp2_with fail
            refine hK.out _ _ ?_ (fun hHeld => ?_)
            · try dsimp only
              exact ⟨HGF3.out.cell 1, HGF3.out.cell 2, HGF3.out.cell 3⟩
            clear hK K
            try simp only [Act.put, List.setIfInBounds_toArray, List.set_cons_zero, List.set_cons_succ]
            refine take_at (i := 12) (d := 9) (oi := { dst := some 9, op := Op.assign (Operand.tmp 72), type := 22, pos := "law.go:78", after := #[{ on := 3, ground := Ground.data }, { on := 11, ground := Ground.chain }, { on := 0, ground := Ground.phase }, { on := 1, ground := Ground.phase }, { on := 2, ground := Ground.phase }, { on := 3, ground := Ground.phase }, { on := 4, ground := Ground.textOnly Departure.lateStores }, { on := 5, ground := Ground.textOnly Departure.lateStores }, { on := 6, ground := Ground.textOnly Departure.lateStores }, { on := 7, ground := Ground.textOnly Departure.lateStoresUnsure }, { on := 8, ground := Ground.textOnly Departure.lateStores }, { on := 9, ground := Ground.textOnly Departure.lateStores }, { on := 10, ground := Ground.textOnly Departure.lateStores }, { on := 11, ground := Ground.textOnly Departure.lateStoresUnsure }], guard := none }) (v := ?_) (by kernel_rfl) (by kernel_rfl) (by kernel_rfl) (by kernel_rfl) (by kernel_rfl) (fun _ _ _ h => h) (Or.inl ⟨by kernel_rfl, ?_⟩) (by assumption) ?_
            rotate_left
            · intro W hSw
              try dsimp only at hSw
              go_simp
              first | done | with_reducible rfl
            try simp only [Act.put, List.setIfInBounds_toArray, List.set_cons_zero, List.set_cons_succ]
            refine take_at (i := 13) (d := 10) (oi := { dst := some 10, op := Op.assign (Operand.tmp 76), type := 22, pos := "law.go:78", after := #[{ on := 7, ground := Ground.data }, { on := 12, ground := Ground.chain }, { on := 0, ground := Ground.phase }, { on := 1, ground := Ground.phase }, { on := 2, ground := Ground.phase }, { on := 3, ground := Ground.phase }, { on := 4, ground := Ground.phase }, { on := 5, ground := Ground.phase }, { on := 6, ground := Ground.phase }, { on := 7, ground := Ground.phase }, { on := 8, ground := Ground.textOnly Departure.lateStores }, { on := 9, ground := Ground.textOnly Departure.lateStores }, { on := 10, ground := Ground.textOnly Departure.lateStores }, { on := 11, ground := Ground.textOnly Departure.lateStoresUnsure }, { on := 12, ground := Ground.phase }], guard := none }) (v := ?_) (by kernel_rfl) (by kernel_rfl) (by kernel_rfl) (by kernel_rfl) (by kernel_rfl) (fun _ _ _ h => h) (Or.inl ⟨by kernel_rfl, ?_⟩) (by assumption) ?_
            rotate_left
            · intro W hSw
              try dsimp only at hSw
              go_simp
              first | done | with_reducible rfl
            try simp only [Act.put, List.setIfInBounds_toArray, List.set_cons_zero, List.set_cons_succ]
            refine take_at (i := 14) (d := 11) (oi := { dst := some 11, op := Op.assign (Operand.tmp 80), type := 22, pos := "law.go:78", after := #[{ on := 11, ground := Ground.data }, { on := 13, ground := Ground.chain }, { on := 0, ground := Ground.phase }, { on := 1, ground := Ground.phase }, { on := 2, ground := Ground.phase }, { on := 3, ground := Ground.phase }, { on := 4, ground := Ground.phase }, { on := 5, ground := Ground.phase }, { on := 6, ground := Ground.phase }, { on := 7, ground := Ground.phase }, { on := 8, ground := Ground.phase }, { on := 9, ground := Ground.phase }, { on := 10, ground := Ground.phase }, { on := 11, ground := Ground.phase }, { on := 12, ground := Ground.phase }, { on := 13, ground := Ground.phase }], guard := none }) (v := ?_) (by kernel_rfl) (by kernel_rfl) (by kernel_rfl) (by kernel_rfl) (by kernel_rfl) (fun _ _ _ h => h) (Or.inl ⟨by kernel_rfl, ?_⟩) (by assumption) ?_
            rotate_left
            · intro W hSw
              try dsimp only at hSw
              go_simp
              first | done | with_reducible rfl
            try simp only [Act.put, List.setIfInBounds_toArray, List.set_cons_zero, List.set_cons_succ]
            refine wpAnyH_done (by kernel_rfl) ?_ _
            go_wp2_with fail
            go_meet
            exact ⟨by rw [HFT.out.1, HFT.out.2.1, HFT.out.2.2]; exact HT3.out.rot, HGF3.out, HBb3.out⟩
          case rest =>
            obtain ⟨ht, hgw, hbw⟩ := hcut
            obtain ⟨wg, rfl⟩ : ∃ W, W = wc := ⟨_, rfl⟩
            have HTG := Lib.hid ht
            have HGG := Lib.hid hgw
            have HBG := Lib.hid hbw
            have HSG : Hid (∀ W, Below wg.heap.size wg W → W.cell? ⟨gf, 1, none⟩ = some (.slice D1 co.length e1) ∧ W.cell? ⟨gf, 2, none⟩ = some (.slice D2 ca.length e2) ∧ W.cell? ⟨gf, 3, none⟩ = some (.slice D3 cb.length e3)) := fun W hW => by
              have h := HGG.out.below hW HGG.out.lt
              exact ⟨h.cell 1, h.cell 2, h.cell 3⟩
            have HE1 := Lib.hid (fun W (hW : Below wg.heap.size wg W) => texts3_eq _ _ ca co W (R2.out W (HBG.out.trans (hW.mono HBG.out.size))) (R1.out W (HBG.out.trans (hW.mono HBG.out.size))))
            have HE2 := Lib.hid (fun W (hW : Below wg.heap.size wg W) => texts3_eq _ _ cb co W (R3.out W (HBG.out.trans (hW.mono HBG.out.size))) (R1.out W (HBG.out.trans (hW.mono HBG.out.size))))
            have HE3 := Lib.hid (fun W (hW : Below wg.heap.size wg W) => texts3_eq _ _ ca cb W (R2.out W (HBG.out.trans (hW.mono HBG.out.size))) (R3.out W (HBG.out.trans (hW.mono HBG.out.size))))
            unfold EqP at HE1 HE2 HE3
            rw [HD1.out] at HE1
            rw [HD2.out] at HE2
            rw [HD3.out] at HE3
            clear ht hgw hbw HTR HT0 HGF HBF HB4f hwf
            go_upto_region 14 with (fail)
            go_cut [14, 15, 16] from 59 to 161 (fun p q u wx => p = .bool b1 ∧ q = .bool b2 ∧ u = .bool b3 ∧ Below wg.heap.size wg wx)
            case first => as_aux_lemma =>
              refine wp_region_held_drew (S := (fun W => W.cell? ⟨gf, 1, none⟩ = some (.slice D1 co.length e1) ∧ W.cell? ⟨gf, 2, none⟩ = some (.slice D2 ca.length e2) ∧ W.cell? ⟨gf, 3, none⟩ = some (.slice D3 cb.length e3))) (by kernel_rfl) ?_ (fun hHeld => ?_)
              · try dsimp only
                exact HSG.out _ (Below.refl _ _).drew
              refine take_at (i := 0) (d := 81) (oi := { dst := some 81, op := Op.fieldAddr 42 (Operand.tmp 13) 2, type := 0, pos := "law.go:79", after := #[], guard := none }) (v := ?_) (by kernel_rfl) (by kernel_rfl) (by kernel_rfl) (by kernel_rfl) (by kernel_rfl) (fun _ _ _ h => h) (Or.inl ⟨by kernel_rfl, ?_⟩) (by assumption) ?_
              rotate_left
              · intro W hSw
                try dsimp only at hSw
                go_simp
                first | done | with_reducible rfl
              try simp only [Act.put, List.setIfInBounds_toArray, List.set_cons_zero, List.set_cons_succ]
              refine take_at (i := 1) (d := 82) (oi := { dst := some 82, op := Op.load 22 (Operand.tmp 81), type := 22, pos := "law.go:79", after := #[{ on := 0, ground := Ground.data }], guard := none }) (v := ?_) (by kernel_rfl) (by kernel_rfl) (by kernel_rfl) (by kernel_rfl) (by kernel_rfl) (fun _ _ _ h => h) (Or.inl ⟨by kernel_rfl, ?_⟩) (by assumption) ?_
              rotate_left
              · intro W hSw
                try dsimp only at hSw
                obtain ⟨s1, s2, s3⟩ := hSw
                go_simp
                first | done | with_reducible rfl
              try simp only [Act.put, List.setIfInBounds_toArray, List.set_cons_zero, List.set_cons_succ]
              refine take_at (i := 2) (d := 83) (oi := { dst := some 83, op := Op.fieldAddr 42 (Operand.tmp 13) 1, type := 0, pos := "law.go:79", after := #[], guard := none }) (v := ?_) (by kernel_rfl) (by kernel_rfl) (by kernel_rfl) (by kernel_rfl) (by kernel_rfl) (fun _ _ _ h => h) (Or.inl ⟨by kernel_rfl, ?_⟩) (by assumption) ?_
              rotate_left
              · intro W hSw
                try dsimp only at hSw
                go_simp
                first | done | with_reducible rfl
              try simp only [Act.put, List.setIfInBounds_toArray, List.set_cons_zero, List.set_cons_succ]
              refine take_at (i := 3) (d := 84) (oi := { dst := some 84, op := Op.load 22 (Operand.tmp 83), type := 22, pos := "law.go:79", after := #[{ on := 2, ground := Ground.data }], guard := none }) (v := ?_) (by kernel_rfl) (by kernel_rfl) (by kernel_rfl) (by kernel_rfl) (by kernel_rfl) (fun _ _ _ h => h) (Or.inl ⟨by kernel_rfl, ?_⟩) (by assumption) ?_
              rotate_left
              · intro W hSw
                try dsimp only at hSw
                obtain ⟨s1, s2, s3⟩ := hSw
                go_simp
                first | done | with_reducible rfl
              try simp only [Act.put, List.setIfInBounds_toArray, List.set_cons_zero, List.set_cons_succ]
              refine take_at (i := 5) (d := 86) (oi := { dst := some 86, op := Op.fieldAddr 42 (Operand.tmp 13) 3, type := 0, pos := "law.go:79", after := #[], guard := none }) (v := ?_) (by kernel_rfl) (by kernel_rfl) (by kernel_rfl) (by kernel_rfl) (by kernel_rfl) (fun _ _ _ h => h) (Or.inl ⟨by kernel_rfl, ?_⟩) (by assumption) ?_
              rotate_left
              · intro W hSw
                try dsimp only at hSw
                go_simp
                first | done | with_reducible rfl
              try simp only [Act.put, List.setIfInBounds_toArray, List.set_cons_zero, List.set_cons_succ]
              refine take_at (i := 6) (d := 87) (oi := { dst := some 87, op := Op.load 22 (Operand.tmp 86), type := 22, pos := "law.go:79", after := #[{ on := 5, ground := Ground.data }], guard := none }) (v := ?_) (by kernel_rfl) (by kernel_rfl) (by kernel_rfl) (by kernel_rfl) (by kernel_rfl) (fun _ _ _ h => h) (Or.inl ⟨by kernel_rfl, ?_⟩) (by assumption) ?_
              rotate_left
              · intro W hSw
                try dsimp only at hSw
                obtain ⟨s1, s2, s3⟩ := hSw
                go_simp
                first | done | with_reducible rfl
              try simp only [Act.put, List.setIfInBounds_toArray, List.set_cons_zero, List.set_cons_succ]
              refine take_at (i := 7) (d := 88) (oi := { dst := some 88, op := Op.fieldAddr 42 (Operand.tmp 13) 1, type := 0, pos := "law.go:79", after := #[], guard := none }) (v := ?_) (by kernel_rfl) (by kernel_rfl) (by kernel_rfl) (by kernel_rfl) (by kernel_rfl) (fun _ _ _ h => h) (Or.inl ⟨by kernel_rfl, ?_⟩) (by assumption) ?_
              rotate_left
              · intro W hSw
                try dsimp only at hSw
                go_simp
                first | done | with_reducible rfl
              try simp only [Act.put, List.setIfInBounds_toArray, List.set_cons_zero, List.set_cons_succ]
              refine take_at (i := 8) (d := 89) (oi := { dst := some 89, op := Op.load 22 (Operand.tmp 88), type := 22, pos := "law.go:79", after := #[{ on := 7, ground := Ground.data }], guard := none }) (v := ?_) (by kernel_rfl) (by kernel_rfl) (by kernel_rfl) (by kernel_rfl) (by kernel_rfl) (fun _ _ _ h => h) (Or.inl ⟨by kernel_rfl, ?_⟩) (by assumption) ?_
              rotate_left
              · intro W hSw
                try dsimp only at hSw
                obtain ⟨s1, s2, s3⟩ := hSw
                go_simp
                first | done | with_reducible rfl
              try simp only [Act.put, List.setIfInBounds_toArray, List.set_cons_zero, List.set_cons_succ]
              refine take_at (i := 10) (d := 91) (oi := { dst := some 91, op := Op.fieldAddr 42 (Operand.tmp 13) 2, type := 0, pos := "law.go:79", after := #[], guard := none }) (v := ?_) (by kernel_rfl) (by kernel_rfl) (by kernel_rfl) (by kernel_rfl) (by kernel_rfl) (fun _ _ _ h => h) (Or.inl ⟨by kernel_rfl, ?_⟩) (by assumption) ?_
              rotate_left
              · intro W hSw
                try dsimp only at hSw
                go_simp
                first | done | with_reducible rfl
              try simp only [Act.put, List.setIfInBounds_toArray, List.set_cons_zero, List.set_cons_succ]
              refine take_at (i := 11) (d := 92) (oi := { dst := some 92, op := Op.load 22 (Operand.tmp 91), type := 22, pos := "law.go:79", after := #[{ on := 10, ground := Ground.data }], guard := none }) (v := ?_) (by kernel_rfl) (by kernel_rfl) (by kernel_rfl) (by kernel_rfl) (by kernel_rfl) (fun _ _ _ h => h) (Or.inl ⟨by kernel_rfl, ?_⟩) (by assumption) ?_
              rotate_left
              · intro W hSw
                try dsimp only at hSw
                obtain ⟨s1, s2, s3⟩ := hSw
                go_simp
                first | done | with_reducible rfl
              try simp only [Act.put, List.setIfInBounds_toArray, List.set_cons_zero, List.set_cons_succ]
              refine take_at (i := 12) (d := 93) (oi := { dst := some 93, op := Op.fieldAddr 42 (Operand.tmp 13) 3, type := 0, pos := "law.go:79", after := #[], guard := none }) (v := ?_) (by kernel_rfl) (by kernel_rfl) (by kernel_rfl) (by kernel_rfl) (by kernel_rfl) (fun _ _ _ h => h) (Or.inl ⟨by kernel_rfl, ?_⟩) (by assumption) ?_
              rotate_left
              · intro W hSw
                try dsimp only at hSw
                go_simp
                first | done | with_reducible rfl
              try simp only [Act.put, List.setIfInBounds_toArray, List.set_cons_zero, List.set_cons_succ]
              refine take_at (i := 13) (d := 94) (oi := { dst := some 94, op := Op.load 22 (Operand.tmp 93), type := 22, pos := "law.go:79", after := #[{ on := 12, ground := Ground.data }], guard := none }) (v := ?_) (by kernel_rfl) (by kernel_rfl) (by kernel_rfl) (by kernel_rfl) (by kernel_rfl) (fun _ _ _ h => h) (Or.inl ⟨by kernel_rfl, ?_⟩) (by assumption) ?_
              rotate_left
              · intro W hSw
                try dsimp only at hSw
                obtain ⟨s1, s2, s3⟩ := hSw
                go_simp
                first | done | with_reducible rfl
              try simp only [Act.put, List.setIfInBounds_toArray, List.set_cons_zero, List.set_cons_succ]
              refine wpAnyH_ready (rs := [4]) (by kernel_rfl) (by simp) (AllReadyH.cons (o := { dst := some 85, op := Op.call { callee := Callee.value (Operand.func 15), args := #[Operand.tmp 82, Operand.tmp 84], argTypes := #[22, 22] }, type := 4, pos := "law.go:79", after := #[{ on := 1, ground := Ground.data }, { on := 3, ground := Ground.data }], guard := none }) (by kernel_rfl) (fun K hK => ?_) AllReadyH.nil)
              go_simp
              refine (HE1.out _ (Below.refl wg.heap.size wg).drew).mono ?_
              rintro e wc1 ⟨rfl, hb⟩
              have HBc1 : Hid (Below wg.heap.size wg wc1) := ((Below.refl wg.heap.size wg).drew).trans (hb.mono ((Below.refl wg.heap.size wg).drew).size)
              clear hb
              try go_wp2_with fail
              refine hK.out _ _ ?_ (fun hHeld => ?_)
              · try dsimp only
                exact HSG.out _ HBc1.out
              clear hK K
              try simp only [Act.put, List.setIfInBounds_toArray, List.set_cons_zero, List.set_cons_succ]
              refine wpAnyH_ready (rs := [9]) (by kernel_rfl) (by simp) (AllReadyH.cons (o := { dst := some 90, op := Op.call { callee := Callee.value (Operand.func 15), args := #[Operand.tmp 87, Operand.tmp 89], argTypes := #[22, 22] }, type := 4, pos := "law.go:79", after := #[{ on := 6, ground := Ground.data }, { on := 8, ground := Ground.data }, { on := 4, ground := Ground.chain }], guard := none }) (by kernel_rfl) (fun K hK => ?_) AllReadyH.nil)
              go_simp
              refine (HE2.out _ HBc1.out).mono ?_
              rintro e wc2 ⟨rfl, hb⟩
              have HBc2 : Hid (Below wg.heap.size wg wc2) := (HBc1.out).trans (hb.mono (HBc1.out).size)
              clear hb
              try go_wp2_with fail
              refine hK.out _ _ ?_ (fun hHeld => ?_)
              · try dsimp only
                exact HSG.out _ HBc2.out
              clear hK K
              try simp only [Act.put, List.setIfInBounds_toArray, List.set_cons_zero, List.set_cons_succ]
              refine wpAnyH_ready (rs := [14]) (by kernel_rfl) (by simp) (AllReadyH.cons (o := { dst := some 95, op := Op.call { callee := Callee.value (Operand.func 15), args := #[Operand.tmp 92, Operand.tmp 94], argTypes := #[22, 22] }, type := 4, pos := "law.go:79", after := #[{ on := 11, ground := Ground.data }, { on := 13, ground := Ground.data }, { on := 9, ground := Ground.chain }], guard := none }) (by kernel_rfl) (fun K hK => ?_) AllReadyH.nil)
              go_simp
              refine (HE3.out _ HBc2.out).mono ?_
              rintro e wc3 ⟨rfl, hb⟩
              have HBc3 : Hid (Below wg.heap.size wg wc3) := (HBc2.out).trans (hb.mono (HBc2.out).size)
              clear hb
              try go_wp2_with fail
              refine hK.out _ _ ?_ (fun hHeld => ?_)
              · try dsimp only
                exact HSG.out _ HBc3.out
              clear hK K
              try simp only [Act.put, List.setIfInBounds_toArray, List.set_cons_zero, List.set_cons_succ]
              refine take_at (i := 15) (d := 14) (oi := { dst := some 14, op := Op.assign (Operand.tmp 85), type := 4, pos := "law.go:79", after := #[{ on := 4, ground := Ground.data }, { on := 14, ground := Ground.chain }, { on := 0, ground := Ground.phase }, { on := 1, ground := Ground.phase }, { on := 2, ground := Ground.phase }, { on := 3, ground := Ground.phase }, { on := 4, ground := Ground.phase }, { on := 5, ground := Ground.textOnly Departure.lateStores }, { on := 6, ground := Ground.textOnly Departure.lateStores }, { on := 7, ground := Ground.textOnly Departure.lateStores }, { on := 8, ground := Ground.textOnly Departure.lateStores }, { on := 9, ground := Ground.textOnly Departure.lateStoresUnsure }, { on := 10, ground := Ground.textOnly Departure.lateStores }, { on := 11, ground := Ground.textOnly Departure.lateStores }, { on := 12, ground := Ground.textOnly Departure.lateStores }, { on := 13, ground := Ground.textOnly Departure.lateStores }, { on := 14, ground := Ground.textOnly Departure.lateStoresUnsure }], guard := none }) (v := ?_) (by kernel_rfl) (by kernel_rfl) (by kernel_rfl) (by kernel_rfl) (by kernel_rfl) (fun _ _ _ h => h) (Or.inl ⟨by kernel_rfl, ?_⟩) (by assumption) ?_
              rotate_left
              · intro W hSw
                try dsimp only at hSw
                go_simp
                first | done | with_reducible rfl
              try simp only [Act.put, List.setIfInBounds_toArray, List.set_cons_zero, List.set_cons_succ]
              refine take_at (i := 16) (d := 15) (oi := { dst := some 15, op := Op.assign (Operand.tmp 90), type := 4, pos := "law.go:79", after := #[{ on := 9, ground := Ground.data }, { on := 15, ground := Ground.chain }, { on := 0, ground := Ground.phase }, { on := 1, ground := Ground.phase }, { on := 2, ground := Ground.phase }, { on := 3, ground := Ground.phase }, { on := 4, ground := Ground.phase }, { on := 5, ground := Ground.phase }, { on := 6, ground := Ground.phase }, { on := 7, ground := Ground.phase }, { on := 8, ground := Ground.phase }, { on := 9, ground := Ground.phase }, { on := 10, ground := Ground.textOnly Departure.lateStores }, { on := 11, ground := Ground.textOnly Departure.lateStores }, { on := 12, ground := Ground.textOnly Departure.lateStores }, { on := 13, ground := Ground.textOnly Departure.lateStores }, { on := 14, ground := Ground.textOnly Departure.lateStoresUnsure }, { on := 15, ground := Ground.phase }], guard := none }) (v := ?_) (by kernel_rfl) (by kernel_rfl) (by kernel_rfl) (by kernel_rfl) (by kernel_rfl) (fun _ _ _ h => h) (Or.inl ⟨by kernel_rfl, ?_⟩) (by assumption) ?_
              rotate_left
              · intro W hSw
                try dsimp only at hSw
                go_simp
                first | done | with_reducible rfl
              try simp only [Act.put, List.setIfInBounds_toArray, List.set_cons_zero, List.set_cons_succ]
              refine take_at (i := 17) (d := 16) (oi := { dst := some 16, op := Op.assign (Operand.tmp 95), type := 4, pos := "law.go:79", after := #[{ on := 14, ground := Ground.data }, { on := 16, ground := Ground.chain }, { on := 0, ground := Ground.phase }, { on := 1, ground := Ground.phase }, { on := 2, ground := Ground.phase }, { on := 3, ground := Ground.phase }, { on := 4, ground := Ground.phase }, { on := 5, ground := Ground.phase }, { on := 6, ground := Ground.phase }, { on := 7, ground := Ground.phase }, { on := 8, ground := Ground.phase }, { on := 9, ground := Ground.phase }, { on := 10, ground := Ground.phase }, { on := 11, ground := Ground.phase }, { on := 12, ground := Ground.phase }, { on := 13, ground := Ground.phase }, { on := 14, ground := Ground.phase }, { on := 15, ground := Ground.phase }, { on := 16, ground := Ground.phase }], guard := none }) (v := ?_) (by kernel_rfl) (by kernel_rfl) (by kernel_rfl) (by kernel_rfl) (by kernel_rfl) (fun _ _ _ h => h) (Or.inl ⟨by kernel_rfl, ?_⟩) (by assumption) ?_
              rotate_left
              · intro W hSw
                try dsimp only at hSw
                go_simp
                first | done | with_reducible rfl
              try simp only [Act.put, List.setIfInBounds_toArray, List.set_cons_zero, List.set_cons_succ]
              refine wpAnyH_done (by kernel_rfl) ?_ _
              go_wp2_with fail
              go_meet
              exact ⟨rfl, rfl, rfl, HBc3.out⟩
            case rest =>
              obtain ⟨rfl, rfl, rfl, hbh⟩ := hcut
              obtain ⟨wh, rfl⟩ : ∃ W, W = wc := ⟨_, rfl⟩
              have hgh := HGG.out.below hbh HGG.out.lt
              have m0 := hgh.cell 0
              have m1 := hgh.cell 1
              have m2 := hgh.cell 2
              have m3 := hgh.cell 3
              have HTH := Lib.hid (HTG.out.below hbh)
              have HBH := Lib.hid (HBG.out.trans (hbh.mono HBG.out.size))
              have hsum := HCK.out.1
              simp only at hsum
              have p0 : ¬ (co.length : Int) + (ca.length : Int) + (cb.length : Int) = 0 := by omega
              have p1 : ((co.length : Int) + (ca.length : Int) + (cb.length : Int) == 0) = false := beq_eq_false_iff_ne.2 p0
              have hkb : ∀ j d, i = j + 1 → cl[j]? = some d → kd = 1 → ∃ p : Int, wh.cell? (ad.add (j * 4)) = some (.int .i64 p) ∧ p ≠ 1 := fun j d hj hd hk => by
                obtain ⟨ad2, _, _, _, ea, q0, _⟩ := (HCL.out wh HBH.out).at_ j d hd
                injection ea with ea
                subst ea
                have h1 := HPV.out j d hj hd
                exact ⟨_, q0, fun e => h1 (by omega) hk⟩
              have HKB := Lib.hid hkb
              have hway := way_ck HCK.out
              simp only at hway
              clear hgh hbh hkb HE1 HE2 HE3 HSG HGG HTG HPV HPC R1 R2 R3 HRO HRA HRB
              rcases hway with ⟨rfl, h1, h2⟩ | ⟨rfl, h2⟩ | ⟨rfl, h1, h2⟩ | ⟨rfl, h3, h1⟩ | ⟨rfl, h3, h1, h2⟩
              · obtain rfl : b1 = true := by rw [← HD1.out]; exact decide_eq_true h1
                obtain rfl : b2 = true := by rw [← HD2.out]; exact decide_eq_true h2
                clear h1 h2
                cases i with
                | zero =>
                  as_aux_lemma =>
                  go_wp2_with fail
                  go_roundw
                  case rel => exact ⟨0 + 1, by omega, by go_num, HTH.out, HBH.out⟩
                  case measure => simp [intOf]; omega
                | succ j =>
                  have hjl : j < cl.length := by rw [HN.out]; omega
                  obtain ⟨p, hp, hp1⟩ := HKB.out j _ rfl (List.getElem?_eq_getElem hjl) rfl
                  have r0 : ((p : Int) != 1) = true := by simp [hp1]
                  have r1 : ¬ ((j : Int) + 1 = 0) := by omega
                  have r2 : ((j : Int) + 1 == 0) = false := beq_eq_false_iff_ne.2 r1
                  clear hjl
                  as_aux_lemma =>
                  go_wp2_with fail
                  go_roundw
                  case rel => exact ⟨j + 1 + 1, by omega, by go_num, HTH.out, HBH.out⟩
                  case measure => simp [intOf]; omega
              · obtain rfl : b2 = true := by rw [← HD2.out]; exact decide_eq_true h2
                clear h2
                as_aux_lemma =>
                go_wp2_with fail
                go_roundw
                case rel => exact ⟨i + 1, by omega, by go_num, HTH.out, HBH.out⟩
                case measure => simp [intOf]; omega
              · obtain rfl : b1 = true := by rw [← HD1.out]; exact decide_eq_true h1
                obtain rfl : b2 = false := by rw [← HD2.out]; exact decide_eq_false h2
                clear h1 h2
                as_aux_lemma =>
                go_wp2_with fail
                go_roundw
                case rel => exact ⟨i + 1, by omega, by go_num, HTH.out, HBH.out⟩
                case measure => simp [intOf]; omega
              · obtain rfl : b3 = true := by rw [← HD3.out]; exact decide_eq_true h3
                obtain rfl : b1 = false := by rw [← HD1.out]; exact decide_eq_false h1
                clear h1 h3
                as_aux_lemma =>
                go_wp2_with fail
                go_roundw
                case rel => exact ⟨i + 1, by omega, by go_num, HTH.out, HBH.out⟩
                case measure => simp [intOf]; omega
              · obtain rfl : b3 = false := by rw [← HD3.out]; exact decide_eq_false h3
                obtain rfl : b1 = false := by rw [← HD1.out]; exact decide_eq_false h1
                obtain rfl : b2 = false := by rw [← HD2.out]; exact decide_eq_false h2
                clear h1 h2 h3
                as_aux_lemma =>
                go_wp2_with fail
                go_roundw
                case rel => exact ⟨i + 1, by omega, by go_num, HTH.out, HBH.out⟩
                case measure => simp [intOf]; omega
        · obtain rfl : i = n := by omega
          have z1 : ¬ (i : Int) < (i : Int) := by omega
          have htk : cl.take i = cl := List.take_of_length_le (by rw [HN.out]; exact Nat.le_refl _)
          rw [htk, HWH.out.eo, HWH.out.ea, HWH.out.eb] at HTR
          have HBW : Hid (Below w.heap.size w wr) := HB4.out.trans (HB.out.mono HB4.out.size)
          go_wp2_with fail
          refine (HF.out wr).mono ?_
          rintro e w5 ⟨rfl, hb5⟩
          have HT5 := Lib.hid (HTR.out.below hb5)
          have HB5 := Lib.hid (HBW.out.trans (hb5.mono HBW.out.size))
          clear hb5
          go_wp2_with fail
          refine (texts_same _ _ o w5 HT5.out.1.slv (H1.out w5 HB5.out)).mono ?_
          rintro e w6 ⟨rfl, hb6⟩
          have HT6 := Lib.hid (HT5.out.below hb6)
          have HB6 := Lib.hid (HB5.out.trans (hb6.mono HB5.out.size))
          clear hb6
          go_wp2_with fail
          refine (texts_same _ _ a w6 HT6.out.2.1.slv (H2.out w6 HB6.out)).mono ?_
          rintro e w7 ⟨rfl, hb7⟩
          have HT7 := Lib.hid (HT6.out.below hb7)
          have HB7 := Lib.hid (HB6.out.trans (hb7.mono HB6.out.size))
          clear hb7
          go_wp2_with fail
          refine (texts_same _ _ b w7 HT7.out.2.2.1.slv (H3.out w7 HB7.out)).mono ?_
          rintro e w8 ⟨rfl, hb8⟩
          have HB8 := Lib.hid (HB7.out.trans (hb8.mono HB7.out.size))
          clear hb8
          go_wp2_with fail
          go_ret
          exact ⟨rfl, HB8.out⟩
    · obtain ⟨hE, _⟩ := cErr_no hsz
      rw [hE]
      have hbig : 200 < (o.length : Int) ∨ 200 < (a.length : Int) ∨ 200 < (b.length : Int) := by omega
      clear hE hsz
      go_wp2_with fail
      refine (HF.out w4).mono ?_
      rintro e w5 ⟨rfl, hb5⟩
      have HB5 := Lib.hid (HB4.out.trans (hb5.mono HB4.out.size))
      clear hb5
      by_cases y1 : 200 < (o.length : Int)
      · go_wp2_with fail
        go_ret
        exact ⟨rfl, HB5.out⟩
      · by_cases y2 : 200 < (a.length : Int)
        · go_wp2_with fail
          go_ret
          exact ⟨rfl, HB5.out⟩
        · have y3 : 200 < (b.length : Int) := hbig.elim (fun h => absurd h y1) (fun h => h.elim (fun h => absurd h y2) id)
          go_wp2_with fail
          go_ret
          exact ⟨rfl, HB5.out⟩
  · clear h1 h2 h3 H1 H2 H3 hlen
    cases f1 : fewB o with
    | false =>
      rw [f1] at HW1
      go_enter Try.func5, Try.ntmps5
      go_wp2_with fail
      refine (HF.out w).mono ?_
      rintro e w1 ⟨rfl, hb1⟩
      have HB1 := Lib.hid hb1
      clear hb1
      go_wp2_with fail
      refine (HW1.out w1 HB1.out).mono ?_
      rintro e w' ⟨rfl, rfl⟩
      go_wp2_with fail
      refine (HF.out w1).mono ?_
      rintro e w2 ⟨rfl, hb2⟩
      have HB2 := Lib.hid (HB1.out.trans (hb2.mono HB1.out.size))
      go_wp2_with fail
      go_ret
      exact ⟨rfl, HB2.out⟩
    | true =>
      rw [f1] at HW1
      cases f2 : fewB a with
      | false =>
        rw [f2] at HW2
        go_enter Try.func5, Try.ntmps5
        go_wp2_with fail
        refine (HF.out w).mono ?_
        rintro e w1 ⟨rfl, hb1⟩
        have HB1 := Lib.hid hb1
        clear hb1
        go_wp2_with fail
        refine (HW1.out w1 HB1.out).mono ?_
        rintro e w' ⟨rfl, rfl⟩
        go_wp2_with fail
        refine (HW2.out w1 HB1.out).mono ?_
        rintro e w' ⟨rfl, rfl⟩
        go_wp2_with fail
        refine (HF.out w1).mono ?_
        rintro e w2 ⟨rfl, hb2⟩
        have HB2 := Lib.hid (HB1.out.trans (hb2.mono HB1.out.size))
        go_wp2_with fail
        go_ret
        exact ⟨rfl, HB2.out⟩
      | true =>
        have f3 : fewB b = false := by cases h : fewB b with | false => rfl | true => exact absurd ⟨f1, f2, h⟩ hfew
        rw [f2] at HW2
        rw [f3] at HW3
        go_enter Try.func5, Try.ntmps5
        go_wp2_with fail
        refine (HF.out w).mono ?_
        rintro e w1 ⟨rfl, hb1⟩
        have HB1 := Lib.hid hb1
        clear hb1
        go_wp2_with fail
        refine (HW1.out w1 HB1.out).mono ?_
        rintro e w' ⟨rfl, rfl⟩
        go_wp2_with fail
        refine (HW2.out w1 HB1.out).mono ?_
        rintro e w' ⟨rfl, rfl⟩
        go_wp2_with fail
        refine (HW3.out w1 HB1.out).mono ?_
        rintro e w' ⟨rfl, rfl⟩
        go_wp2_with fail
        refine (HF.out w1).mono ?_
        rintro e w2 ⟨rfl, hb2⟩
        have HB2 := Lib.hid (HB1.out.trans (hb2.mono HB1.out.size))
        go_wp2_with fail
        go_ret
        exact ⟨rfl, HB2.out⟩
theorem diff3Whole_walk (a0 : Option Addr) (len0 cap0 : Nat) (ss0 : List ByteArray) (a1 : Option Addr) (len1 cap1 : Nat) (ss1 : List ByteArray) (a2 : Option Addr) (len2 cap2 : Nat) (ss2 : List ByteArray) (w : World) (w0 : IsTexts w a0 len0 cap0 ss0) (w1 : IsTexts w a1 len1 cap1 ss1) (w2 : IsTexts w a2 len2 cap2 ss2) : Calls Try.prog 5 #[.slice a0 len0 cap0, .slice a1 len1 cap1, .slice a2 len2 cap2] w (Yes w) := by
  obtain ⟨o, _, h0, s0⟩ := w0.slv
  obtain ⟨a, _, h1, s1⟩ := w1.slv
  obtain ⟨b, _, h2, s2⟩ := w2.slv
  exact whole_in _ _ _ o a b w h0 h1 h2 s0 s1 s2
end Go.Proofs.Ytbejgljljjjjcaa.Ln
