/- Texts put together: USc28. -/
import Derived.Test.YtbenkmihkbjgeaaGreatQu52
import Derived.Test.YtbenkmihkbjgeaaGreatQu53
import Derived.Test.YtbenkmihkbjgeaaGreatQu54
import Derived.Test.YtbenkmihkbjgeaaGreatQu50
import Derived.Test.YtbenkmihkbjgeaaGreatQu46
/- marlaw13.ScanTurns: the walk. (mk_sc28.py wrote it.) -/
set_option linter.unusedVariables false
set_option linter.unusedSimpArgs false
namespace Go.Proofs.YtbenkmihkbjgeaaGreat.Tx
open Go.RowKit Go.Maps Go.Proofs.YtbenkmihkbjgeaaGreat.Sh S7
theorem setG_len (p : List UInt8) (e : Int × List UInt8) : ∀ (d : Bool) (l : List RwM), (setG p e d l).length ≤ l.length + (if d = true then 0 else 1)
 | true, l => by
  rw [setG_done]
  have := List.length_filter_le (fun r : RwM => !(r.path == p)) l
  rw [if_pos rfl]
  omega
 | false, [] => by show ([_] : List RwM).length ≤ _; simp
 | false, r :: l => by
  have ih := setG_len p e (false || !bl r.path p) l
  show ((if false = false ∧ bl r.path p = false then [(⟨p, e.1, e.2⟩ : RwM)] else []) ++ (if r.path = p then [] else [r]) ++ setG p e (false || !bl r.path p) l).length ≤ _
  rw [List.length_append, List.length_append, List.length_cons]
  have h2 : (if r.path = p then ([] : List RwM) else [r]).length ≤ 1 := by split <;> simp
  cases hb : bl r.path p with
  | true =>
   rw [hb] at ih
   simp at ih h2 ⊢
   omega
  | false =>
   rw [hb] at ih
   simp at ih h2 ⊢
   omega
theorem doS_len : ∀ (l : List CgM) (a : List RwM), (doS a l).length ≤ a.length + l.length
 | [], a => Nat.le_refl _
 | c :: l, a => by
  have h1 := doS_len l (setM a c.path c.new)
  have h2 := setG_len c.path c.new (c.new.1 == 0) a
  have h3 : (if (c.new.1 == 0) = true then 0 else 1) ≤ 1 := by split <;> omega
  show (doS (setM a c.path c.new) l).length ≤ _
  have h4 : (setM a c.path c.new).length ≤ a.length + 1 := Nat.le_trans h2 (by omega)
  rw [List.length_cons]
  omega
theorem append_all {ops : Array Oper} {rest : List Oper} {o : Oper} {a : Act} {Q : Exit → Act → World → Prop} (hgd : o.guard = none) (s x : Operand)
  (ho : o.op = .call { callee := .builtin .append, args := #[s, x], argTypes := #[51, 51] }) (w : World) (B : Nat) (v vx : Value) (l : List RwM) (hs : a.eval s = v) (hown : OwnR 120 w B v [])
  (hx : a.eval x = vx) (hr : SlR w vx l) (hsmall : l.length ≤ 2000000) (hB : B ≤ w.heap.size)
  (h : ∀ v' w', OwnR 120 w' B v' l → Below B w w' → wpList Tryz.prog ops Q rest (a.put o.dst v') w') : wpList Tryz.prog ops Q (o :: rest) a w := by
 obtain ⟨i0, hi, hz0, hz1, hz2⟩ := info_parts info_srow
 obtain ⟨A, c, rfl, h1, h2, _, hrd⟩ := hr
 refine wpList_append_any w hgd s x 51 ho B 120 i0 (.agg #[.string ⟨#[]⟩, .int .i64 0, .string ⟨#[]⟩]) 3 40 Tryz.underlying51 hi hz0 hz1 hz2 rfl (by decide) v 0 _ hs hown w.heap.size A l.length c _ hx hrd (rwC_one l) (by unfold maxLen; omega) (by omega) hB ?_
 intro v' w' h3 h4 h5
 refine h v' w' ?_ ((Below.refl _ _).grown h4 hB (fun k hk => (hown.lt k hk).1))
 unfold OwnR
 rw [Nat.zero_add] at h3
 exact h3
abbrev domOf28 {A B : Prop} (_ : A → B) : Prop := A
theorem withid28 {G : Prop} (k : (G → G) → G) : G := k id
theorem ifs_no {α : Sort _} {p q : Prop} [Decidable p] [Decidable q] (h : ¬ (p ∧ q)) (a b : α) : (if p then (if q then a else b) else b) = b := by
 by_cases h1 : p
 ·rw [if_pos h1, if_neg (fun h2 => h ⟨h1, h2⟩)]
 ·rw [if_neg h1]
theorem own_empty (w : World) : OwnR 120 (w.alloc (.cells #[] 120)) w.heap.size (.slice (some ⟨w.heap.size, 0, none⟩) 0 0) [] :=
 ⟨rfl, .inr ⟨w.heap.size, 0, #[], rfl, Nat.le_refl _, heap_alloc_new w _, Nat.le_refl _, by unfold maxLen; omega, rfl, rfl⟩⟩
set_option maxRecDepth 100000 in
set_option maxHeartbeats 40000000 in
theorem scanTurns_walk (v1 v2 : Value) (a b : List RwM) (w : World) (h1 : SlR w v1 a) (h2 : SlR w v2 b) : Calls Tryz.prog 6 #[v1, v2] w (Yes w) := by
 have H1 := Lib.hid h1
 have H2 := Lib.hid h2
 clear h1 h2
 go_enter Tryz.func6, Tryz.ntmps6
 go_wp2_with fail
 refine (xfirst_any w).mono ?_
 rintro e w1 ⟨rfl, hb1⟩
 have HB1 := Lib.hid hb1
 clear hb1
 go_wp2_with fail
 refine (table_any v1 a _ (H1.out.below HB1.out)).mono ?_
 rintro e w2 ⟨t, rfl, ht, hb⟩
 have HT := Lib.hid ht
 have HB2 := Lib.hid (HB1.out.trans (hb.mono HB1.out.size))
 clear ht hb HB1
 cases t with
 | false =>
  go_wp2_with fail
  refine (xfirst_any w2).mono ?_
  rintro e w9 ⟨rfl, hb9⟩
  have HB9 := Lib.hid (HB2.out.trans (hb9.mono HB2.out.size))
  clear hb9
  go_wp2_with fail
  go_ret
  exact ⟨rfl, HB9.out⟩
 | true =>
 go_wp2_with fail
 refine (table_any v2 b _ (H2.out.below HB2.out)).mono ?_
 rintro e w3 ⟨t2, rfl, ht2, hb⟩
 have HT2 := Lib.hid ht2
 have HB3 := Lib.hid (HB2.out.trans (hb.mono HB2.out.size))
 clear ht2 hb HB2
 cases t2 with
 | false =>
  go_wp2_with fail
  refine (xfirst_any w3).mono ?_
  rintro e w9 ⟨rfl, hb9⟩
  have HB9 := Lib.hid (HB3.out.trans (hb9.mono HB3.out.size))
  clear hb9
  go_wp2_with fail
  go_ret
  exact ⟨rfl, HB9.out⟩
 | true =>
 have HFA := Lib.hid (HT.out (by trivial))
 have HFB := Lib.hid (HT2.out (by trivial))
 clear HT HT2
 go_wp2_with fail
 refine (smay2_any v1 a _ (H1.out.below HB3.out) HFA.out.1 HFA.out.2).mono ?_
 rintro e w4 ⟨t3, rfl, hm, hb⟩
 have HMA := Lib.hid hm
 have HB4 := Lib.hid (HB3.out.trans (hb.mono HB3.out.size))
 clear hb hm HB3
 cases t3 with
 | false =>
  go_wp2_with fail
  refine (xfirst_any w4).mono ?_
  rintro e w9 ⟨rfl, hb9⟩
  have HB9 := Lib.hid (HB4.out.trans (hb9.mono HB4.out.size))
  clear hb9
  go_wp2_with fail
  go_ret
  exact ⟨rfl, HB9.out⟩
 | true =>
 go_wp2_with fail
 refine (smay2_any v2 b _ (H2.out.below HB4.out) HFB.out.1 HFB.out.2).mono ?_
 rintro e w5 ⟨t4, rfl, hm, hb⟩
 have HMB := Lib.hid hm
 have HB5 := Lib.hid (HB4.out.trans (hb.mono HB4.out.size))
 clear hb hm HB4
 cases t4 with
 | false =>
  go_wp2_with fail
  refine (xfirst_any w5).mono ?_
  rintro e w9 ⟨rfl, hb9⟩
  have HB9 := Lib.hid (HB5.out.trans (hb9.mono HB5.out.size))
  clear hb9
  go_wp2_with fail
  go_ret
  exact ⟨rfl, HB9.out⟩
 | true =>
 have HRA := Lib.hid (HMA.out (by trivial))
 have HRB := Lib.hid (HMB.out (by trivial))
 clear HMA HMB
 go_wp2_with fail
 refine (sstat_any v1 v2 a b _ (H1.out.below HB5.out) (H2.out.below HB5.out) HFA.out.1 HFB.out.1 HFA.out.2 HFB.out.2).mono ?_
 rintro e w6 ⟨vx, rfl, hox, hb⟩
 have HOX := Lib.hid hox
 have HB6 := Lib.hid (HB5.out.trans (hb.mono HB5.out.size))
 clear hb hox HB5
 go_wp2_with fail
 refine (sstat_any v2 v1 b a _ (H2.out.below HB6.out) (H1.out.below HB6.out) HFB.out.1 HFA.out.1 HFB.out.2 HFA.out.2).mono ?_
 rintro e w7 ⟨vy, rfl, hoy, hb⟩
 have hox := OwnCg.below HOX.out hb
 have HB7 := Lib.hid (HB6.out.trans (hb.mono HB6.out.size))
 rw [uniq_turn, stsM_turn] at hoy
 have HSL : Hid ((stsM a b (uniqT (pathsT a ++ pathsT b))).length ≤ 200) := by
  have h := uniqT_len (pathsT a ++ pathsT b)
  have h3 := stsM_len a b (uniqT (pathsT a ++ pathsT b))
  have e : (pathsT a ++ pathsT b).length = a.length + b.length := by unfold pathsT; rw [List.length_append, List.length_map, List.length_map]
  have := HFA.out.1
  have := HFB.out.1
  unfold Hid
  omega
 have HDO : Hid (doS a (stsM a b (uniqT (pathsT a ++ pathsT b))) = b) := doS_turns HRA.out.1 HRB.out.1 HRA.out.2 HRB.out.2
 have HRI : Hid ((stsM a b (uniqT (pathsT a ++ pathsT b))).Pairwise (fun x y => bl x.path y.path = true)) := stsM_rises (uniqT_spec _).1
 have HME : Hid (∀ c ∈ stsM a b (uniqT (pathsT a ++ pathsT b)), c.old = getM a c.path ∧ c.new = getM b c.path ∧ c.old ≠ c.new) := fun c hc => stsM_mem hc
 obtain ⟨S, hS⟩ : ∃ S, stsM a b (uniqT (pathsT a ++ pathsT b)) = S := ⟨_, rfl⟩
 rw [hS] at hox hoy HSL HDO HRI HME
 obtain ⟨Ax, cx, rfl, hx1, hx2, hrx⟩ := hox.slice
 obtain ⟨Ay, cy, rfl, hy1, hy2, hry⟩ := hoy.slice
 have HRX := Lib.hid hrx
 have HRY := Lib.hid hry
 obtain ⟨N, hN⟩ : ∃ N, S.length = N := ⟨_, rfl⟩
 have HN := Lib.hid hN
 rw [List.length_map] at hy1 HRY ⊢
 rw [hN] at hx1 hy1 HRX HRY HSL ⊢
 have hN200 : N ≤ 200 := HSL.out
 unfold maxLen at hx2 hy2
 have HR1 := Lib.hid (H1.out.below HB7.out)
 clear hb hox hoy hrx hry hN hS HOX HB6
 have HAL : Hid (Below w7.heap.size w7 (w7.alloc (.cells #[] 120))) := (Below.refl _ _).alloc (Nat.le_refl _) _
 have HEM := Lib.hid (own_empty w7)
 have HRA := Lib.hid (HR1.out.below HAL.out)
 have HSM : Hid (a.length ≤ 2000000) := by have := HFA.out.1; unfold Hid; omega
 go_wp2_with (at_builtin; refine append_all rfl (.tmp 36) (.tmp 37) rfl _ w7.heap.size _ v1 a rfl HEM.out rfl HRA.out HSM.out HAL.out.size ?_; intro v8 w8 ho8 hb8; have HNW := Lib.hid ho8.slR; have HB8 := Lib.hid (HB7.out.trans ((HAL.out.trans hb8).mono HB7.out.size)); have H78 := Lib.hid (HAL.out.trans hb8); clear ho8 hb8 HAL HEM HRA HSM)
 go_loopw [7, 8] (fun v7 x wr => ∃ (i : Nat) (acc : Value), i ≤ N ∧ v7 = acc ∧ x = .int .i64 (i : Int) ∧ SlR wr acc (doS a (S.take i)) ∧ Below w8.heap.size w8 wr) (fun _ x _ => N - (intOf x).toNat)
 case atStart => exact ⟨0, _, Nat.zero_le _, rfl, rfl, HNW.out, Below.refl _ _⟩
 case round =>
  obtain ⟨i, acc, hi, rfl, rfl, hov, hb⟩ := hrel
  have HB := Lib.hid hb
  have HOV := Lib.hid hov
  clear hb hov
  have z0 : (0 : Int) ≤ (i : Int) := by omega
  have HALL : Hid (∀ W, Below wr.heap.size wr W → Below w.heap.size w W) := fun W hW => (HB8.out.trans (HB.out.mono HB8.out.size)).trans (hW.mono (Nat.le_trans HB8.out.size HB.out.size))
  have HBW : Hid (∀ W, Below wr.heap.size wr W → Below w8.heap.size w8 W) := fun W hW => HB.out.trans (hW.mono HB.out.size)
  have HBX : Hid (∀ W, Below wr.heap.size wr W → Below w7.heap.size w7 W) := fun W hW => H78.out.trans ((HBW.out W hW).mono H78.out.size)
  by_cases hlt : i < N
  ·have z1 : (i : Int) < (N : Int) := by omega
   have hil : i < S.length := by have := HN.out; omega
   obtain ⟨r, hr⟩ : ∃ r, S[i] = r := ⟨_, rfl⟩
   have HGR : Hid (S[i]? = some r) := by unfold Hid; rw [List.getElem?_eq_getElem hil, hr]
   have HGY : Hid ((S.map turnC)[i]? = some (turnC r)) := by unfold Hid; rw [List.getElem?_map, HGR.out]; rfl
   have HEA := Lib.hid (HME.out r (List.mem_of_getElem? HGR.out))
   obtain ⟨ax, rfl, _, _, _, _, _⟩ := cg_at HRX.out HN.out.symm i r HGR.out
   obtain ⟨ay, rfl, _, _, _, _, _⟩ := cg_at HRY.out (by rw [List.length_map]; exact HN.out.symm) i _ HGY.out
   have HNX := Lib.hid (doS_next (a := a) HGR.out)
   obtain ⟨rp, ⟨om, oi⟩, ⟨nm, ni⟩⟩ := r
   have HGE : Hid (getM a rp = (om, oi)) := HEA.out.1.symm
   have HXC : Hid (∀ W, Below wr.heap.size wr W → W.cell? (ax.add (i * 5)) = some (.string (Tx.str rp)) ∧ W.cell? ⟨(ax.add (i * 5)).block, (ax.add (i * 5)).off + 1, none⟩ = some (.int .i64 om) ∧ W.cell? ⟨(ax.add (i * 5)).block, (ax.add (i * 5)).off + 2, none⟩ = some (.string (Tx.str oi)) ∧ W.cell? ⟨(ax.add (i * 5)).block, (ax.add (i * 5)).off + 3, none⟩ = some (.int .i64 nm) ∧ W.cell? ⟨(ax.add (i * 5)).block, (ax.add (i * 5)).off + 4, none⟩ = some (.string (Tx.str ni))) := fun W hW => by
    obtain ⟨ax', e, c0, c1, c2, c3, c4⟩ := cg_at (HRX.out.below (HBX.out W hW)) HN.out.symm i _ HGR.out
    injection e with e
    subst e
    exact ⟨c0, c1, c2, c3, c4⟩
   have HYC : Hid (∀ W, Below wr.heap.size wr W → W.cell? (ay.add (i * 5)) = some (.string (Tx.str rp)) ∧ W.cell? ⟨(ay.add (i * 5)).block, (ay.add (i * 5)).off + 1, none⟩ = some (.int .i64 nm) ∧ W.cell? ⟨(ay.add (i * 5)).block, (ay.add (i * 5)).off + 2, none⟩ = some (.string (Tx.str ni)) ∧ W.cell? ⟨(ay.add (i * 5)).block, (ay.add (i * 5)).off + 3, none⟩ = some (.int .i64 om) ∧ W.cell? ⟨(ay.add (i * 5)).block, (ay.add (i * 5)).off + 4, none⟩ = some (.string (Tx.str oi))) := fun W hW => by
    obtain ⟨ay', e, c0, c1, c2, c3, c4⟩ := cg_at (HRY.out.below (HBX.out W hW)) (by rw [List.length_map]; exact HN.out.symm) i _ HGY.out
    injection e with e
    subst e
    exact ⟨c0, c1, c2, c3, c4⟩
   have HNE : Hid ((om, oi) ≠ (nm, ni)) := HEA.out.2.2
   have HNE3 : Hid (¬ (om = nm ∧ (Tx.str oi).toList = (Tx.str ni).toList)) := fun h => by
    rw [Tx.str_toList, Tx.str_toList] at h
    exact HNE.out (by rw [h.1, h.2])
   have HZ : Hid (Below wr.heap.size wr wr.drew) := (Below.refl _ _).drew
   have HLEN : Hid ((doS a (S.take i)).length ≤ 1000) := by
    have h9 := doS_len (S.take i) a
    rw [List.length_take] at h9
    have := HFA.out.1
    unfold Hid
    omega
   clear hil hr
   go_upto_region 12 with (fail)
   by_cases h0 : i = 0
   ·have g0 : decide ((0 : Int) < (i : Int)) = false := by simp; omega
    have g1 : decide (0 < i) = false := by simp; omega
    clear h0
    refine withid28 fun hid => ?_
    let rec auxa1 : domOf28 hid := by
     clear auxa1
     delta domOf28
     clear hid
     refine wp_region_held_drew (S := (fun W : World => Below wr.heap.size wr W)) (by kernel_rfl) ?_ (fun hHeld => ?_)
     ·(try dsimp only); exact HZ.out
     refine take_at (i := 0) (d := 50) (oi := { dst := some 50, op := Op.move (Operand.tmp 5), type := 65, pos := "law.go:199", after := #[], guard := none }) (v := ?_) (by kernel_rfl) (by kernel_rfl) (hy := .inl ⟨by kernel_rfl, ?_⟩) (h := ?_)
     rotate_left
     ·intro W hSw; (try dsimp only at hSw); go_simp; first | done | with_reducible rfl
     try simp only [Act.put, List.setIfInBounds_toArray, List.set_cons_zero, List.set_cons_succ]
     refine take_at (i := 1) (d := 51) (oi := { dst := some 51, op := Op.move (Operand.tmp 8), type := 3, pos := "law.go:199", after := #[], guard := none }) (v := ?_) (by kernel_rfl) (by kernel_rfl) (hy := .inl ⟨by kernel_rfl, ?_⟩) (h := ?_)
     rotate_left
     ·intro W hSw; (try dsimp only at hSw); go_simp; first | done | with_reducible rfl
     try simp only [Act.put, List.setIfInBounds_toArray, List.set_cons_zero, List.set_cons_succ]
     refine take_at (i := 2) (d := 52) (oi := { dst := some 52, op := Op.indexAddr 65 (Operand.tmp 50) (Operand.tmp 51), type := 0, pos := "law.go:199", after := #[{ on := 0, ground := Ground.data }, { on := 1, ground := Ground.data }], guard := none }) (v := ?_) (by kernel_rfl) (by kernel_rfl) (hy := .inl ⟨by kernel_rfl, ?_⟩) (h := ?_)
     rotate_left
     ·intro W hSw; (try dsimp only at hSw); go_simp; first | done | with_reducible rfl
     try simp only [Act.put, List.setIfInBounds_toArray, List.set_cons_zero, List.set_cons_succ]
     refine take_at (i := 3) (d := 53) (oi := { dst := some 53, op := Op.fieldAddr 72 (Operand.tmp 52) 0, type := 0, pos := "law.go:199", after := #[{ on := 2, ground := Ground.data }], guard := none }) (v := ?_) (by kernel_rfl) (by kernel_rfl) (hy := .inl ⟨by kernel_rfl, ?_⟩) (h := ?_)
     rotate_left
     ·intro W hSw; (try dsimp only at hSw); go_simp; first | done | with_reducible rfl
     try simp only [Act.put, List.setIfInBounds_toArray, List.set_cons_zero, List.set_cons_succ]
     refine take_at (i := 4) (d := 54) (oi := { dst := some 54, op := Op.load 9 (Operand.tmp 53), type := 9, pos := "law.go:199", after := #[{ on := 3, ground := Ground.data }], guard := none }) (v := ?_) (by kernel_rfl) (by kernel_rfl) (hy := .inl ⟨by kernel_rfl, ?_⟩) (h := ?_)
     rotate_left
     ·intro W hSw
      try dsimp only at hSw
      obtain ⟨x0, x1, x2, x3, x4⟩ := HXC.out _ hSw
      go_simp
      first | done | with_reducible rfl
     try simp only [Act.put, List.setIfInBounds_toArray, List.set_cons_zero, List.set_cons_succ]
     refine take_at (i := 5) (d := 55) (oi := { dst := some 55, op := Op.move (Operand.tmp 6), type := 65, pos := "law.go:199", after := #[], guard := none }) (v := ?_) (by kernel_rfl) (by kernel_rfl) (hy := .inl ⟨by kernel_rfl, ?_⟩) (h := ?_)
     rotate_left
     ·intro W hSw; (try dsimp only at hSw); go_simp; first | done | with_reducible rfl
     try simp only [Act.put, List.setIfInBounds_toArray, List.set_cons_zero, List.set_cons_succ]
     refine take_at (i := 6) (d := 56) (oi := { dst := some 56, op := Op.move (Operand.tmp 8), type := 3, pos := "law.go:199", after := #[], guard := none }) (v := ?_) (by kernel_rfl) (by kernel_rfl) (hy := .inl ⟨by kernel_rfl, ?_⟩) (h := ?_)
     rotate_left
     ·intro W hSw; (try dsimp only at hSw); go_simp; first | done | with_reducible rfl
     try simp only [Act.put, List.setIfInBounds_toArray, List.set_cons_zero, List.set_cons_succ]
     refine take_at (i := 7) (d := 57) (oi := { dst := some 57, op := Op.indexAddr 65 (Operand.tmp 55) (Operand.tmp 56), type := 0, pos := "law.go:199", after := #[{ on := 5, ground := Ground.data }, { on := 6, ground := Ground.data }], guard := none }) (v := ?_) (by kernel_rfl) (by kernel_rfl) (hy := .inl ⟨by kernel_rfl, ?_⟩) (h := ?_)
     rotate_left
     ·intro W hSw; (try dsimp only at hSw); go_simp; first | done | with_reducible rfl
     try simp only [Act.put, List.setIfInBounds_toArray, List.set_cons_zero, List.set_cons_succ]
     refine take_at (i := 8) (d := 58) (oi := { dst := some 58, op := Op.fieldAddr 72 (Operand.tmp 57) 0, type := 0, pos := "law.go:199", after := #[{ on := 7, ground := Ground.data }], guard := none }) (v := ?_) (by kernel_rfl) (by kernel_rfl) (hy := .inl ⟨by kernel_rfl, ?_⟩) (h := ?_)
     rotate_left
     ·intro W hSw; (try dsimp only at hSw); go_simp; first | done | with_reducible rfl
     try simp only [Act.put, List.setIfInBounds_toArray, List.set_cons_zero, List.set_cons_succ]
     refine take_at (i := 9) (d := 59) (oi := { dst := some 59, op := Op.load 9 (Operand.tmp 58), type := 9, pos := "law.go:199", after := #[{ on := 8, ground := Ground.data }], guard := none }) (v := ?_) (by kernel_rfl) (by kernel_rfl) (hy := .inl ⟨by kernel_rfl, ?_⟩) (h := ?_)
     rotate_left
     ·intro W hSw
      try dsimp only at hSw
      obtain ⟨y0, y1, y2, y3, y4⟩ := HYC.out _ hSw
      go_simp
      first | done | with_reducible rfl
     try simp only [Act.put, List.setIfInBounds_toArray, List.set_cons_zero, List.set_cons_succ]
     refine take_at (i := 10) (d := 60) (oi := { dst := some 60, op := Op.binOp BinOp.neq 9 (Operand.tmp 54) (Operand.tmp 59) 9, type := 4, pos := "law.go:199", after := #[{ on := 4, ground := Ground.data }, { on := 9, ground := Ground.data }], guard := none }) (v := ?_) (by kernel_rfl) (by kernel_rfl) (hy := .inl ⟨by kernel_rfl, ?_⟩) (h := ?_)
     rotate_left
     ·intro W hSw; (try dsimp only at hSw); go_simp; first | done | with_reducible rfl
     try simp only [Act.put, List.setIfInBounds_toArray, List.set_cons_zero, List.set_cons_succ]
     refine take_at (i := 11) (d := 61) (oi := { dst := some 61, op := Op.move (Operand.tmp 60), type := 4, pos := "law.go:199", after := #[{ on := 10, ground := Ground.data }], guard := none }) (v := ?_) (by kernel_rfl) (by kernel_rfl) (hy := .inl ⟨by kernel_rfl, ?_⟩) (h := ?_)
     rotate_left
     ·intro W hSw; (try dsimp only at hSw); go_simp; first | done | with_reducible rfl
     try simp only [Act.put, List.setIfInBounds_toArray, List.set_cons_zero, List.set_cons_succ]
     refine take_at (i := 12) (d := 62) (oi := { dst := some 62, op := Op.move (Operand.tmp 5), type := 65, pos := "law.go:199", after := #[{ on := 11, ground := Ground.guard }], guard := some (11, false) }) (v := ?_) (by kernel_rfl) (by kernel_rfl) (hy := .inl ⟨by kernel_rfl, ?_⟩) (h := ?_)
     rotate_left
     ·intro W hSw; (try dsimp only at hSw); go_simp; first | done | with_reducible rfl
     try simp only [Act.put, List.setIfInBounds_toArray, List.set_cons_zero, List.set_cons_succ]
     refine take_at (i := 13) (d := 63) (oi := { dst := some 63, op := Op.move (Operand.tmp 8), type := 3, pos := "law.go:199", after := #[{ on := 11, ground := Ground.guard }], guard := some (11, false) }) (v := ?_) (by kernel_rfl) (by kernel_rfl) (hy := .inl ⟨by kernel_rfl, ?_⟩) (h := ?_)
     rotate_left
     ·intro W hSw; (try dsimp only at hSw); go_simp; first | done | with_reducible rfl
     try simp only [Act.put, List.setIfInBounds_toArray, List.set_cons_zero, List.set_cons_succ]
     refine take_at (i := 14) (d := 64) (oi := { dst := some 64, op := Op.indexAddr 65 (Operand.tmp 62) (Operand.tmp 63), type := 0, pos := "law.go:199", after := #[{ on := 12, ground := Ground.data }, { on := 13, ground := Ground.data }, { on := 11, ground := Ground.guard }], guard := some (11, false) }) (v := ?_) (by kernel_rfl) (by kernel_rfl) (hy := .inl ⟨by kernel_rfl, ?_⟩) (h := ?_)
     rotate_left
     ·intro W hSw; (try dsimp only at hSw); go_simp; first | done | with_reducible rfl
     try simp only [Act.put, List.setIfInBounds_toArray, List.set_cons_zero, List.set_cons_succ]
     refine take_at (i := 15) (d := 65) (oi := { dst := some 65, op := Op.fieldAddr 72 (Operand.tmp 64) 1, type := 0, pos := "law.go:199", after := #[{ on := 14, ground := Ground.data }, { on := 11, ground := Ground.guard }], guard := some (11, false) }) (v := ?_) (by kernel_rfl) (by kernel_rfl) (hy := .inl ⟨by kernel_rfl, ?_⟩) (h := ?_)
     rotate_left
     ·intro W hSw; (try dsimp only at hSw); go_simp; first | done | with_reducible rfl
     try simp only [Act.put, List.setIfInBounds_toArray, List.set_cons_zero, List.set_cons_succ]
     refine take_at (i := 16) (d := 66) (oi := { dst := some 66, op := Op.load 70 (Operand.tmp 65), type := 70, pos := "law.go:199", after := #[{ on := 15, ground := Ground.data }, { on := 11, ground := Ground.guard }], guard := some (11, false) }) (v := ?_) (by kernel_rfl) (by kernel_rfl) (hy := .inl ⟨by kernel_rfl, ?_⟩) (h := ?_)
     rotate_left
     ·intro W hSw
      try dsimp only at hSw
      obtain ⟨x0, x1, x2, x3, x4⟩ := HXC.out _ hSw
      go_simp
      first | done | with_reducible rfl
     try simp only [Act.put, List.setIfInBounds_toArray, List.set_cons_zero, List.set_cons_succ]
     refine take_at (i := 17) (d := 67) (oi := { dst := some 67, op := Op.move (Operand.tmp 6), type := 65, pos := "law.go:199", after := #[{ on := 11, ground := Ground.guard }], guard := some (11, false) }) (v := ?_) (by kernel_rfl) (by kernel_rfl) (hy := .inl ⟨by kernel_rfl, ?_⟩) (h := ?_)
     rotate_left
     ·intro W hSw; (try dsimp only at hSw); go_simp; first | done | with_reducible rfl
     try simp only [Act.put, List.setIfInBounds_toArray, List.set_cons_zero, List.set_cons_succ]
     refine take_at (i := 18) (d := 68) (oi := { dst := some 68, op := Op.move (Operand.tmp 8), type := 3, pos := "law.go:199", after := #[{ on := 11, ground := Ground.guard }], guard := some (11, false) }) (v := ?_) (by kernel_rfl) (by kernel_rfl) (hy := .inl ⟨by kernel_rfl, ?_⟩) (h := ?_)
     rotate_left
     ·intro W hSw; (try dsimp only at hSw); go_simp; first | done | with_reducible rfl
     try simp only [Act.put, List.setIfInBounds_toArray, List.set_cons_zero, List.set_cons_succ]
     refine take_at (i := 19) (d := 69) (oi := { dst := some 69, op := Op.indexAddr 65 (Operand.tmp 67) (Operand.tmp 68), type := 0, pos := "law.go:199", after := #[{ on := 17, ground := Ground.data }, { on := 18, ground := Ground.data }, { on := 11, ground := Ground.guard }], guard := some (11, false) }) (v := ?_) (by kernel_rfl) (by kernel_rfl) (hy := .inl ⟨by kernel_rfl, ?_⟩) (h := ?_)
     rotate_left
     ·intro W hSw; (try dsimp only at hSw); go_simp; first | done | with_reducible rfl
     try simp only [Act.put, List.setIfInBounds_toArray, List.set_cons_zero, List.set_cons_succ]
     refine take_at (i := 20) (d := 70) (oi := { dst := some 70, op := Op.fieldAddr 72 (Operand.tmp 69) 2, type := 0, pos := "law.go:199", after := #[{ on := 19, ground := Ground.data }, { on := 11, ground := Ground.guard }], guard := some (11, false) }) (v := ?_) (by kernel_rfl) (by kernel_rfl) (hy := .inl ⟨by kernel_rfl, ?_⟩) (h := ?_)
     rotate_left
     ·intro W hSw; (try dsimp only at hSw); go_simp; first | done | with_reducible rfl
     try simp only [Act.put, List.setIfInBounds_toArray, List.set_cons_zero, List.set_cons_succ]
     refine take_at (i := 21) (d := 71) (oi := { dst := some 71, op := Op.load 70 (Operand.tmp 70), type := 70, pos := "law.go:199", after := #[{ on := 20, ground := Ground.data }, { on := 11, ground := Ground.guard }], guard := some (11, false) }) (v := ?_) (by kernel_rfl) (by kernel_rfl) (hy := .inl ⟨by kernel_rfl, ?_⟩) (h := ?_)
     rotate_left
     ·intro W hSw
      try dsimp only at hSw
      obtain ⟨y0, y1, y2, y3, y4⟩ := HYC.out _ hSw
      go_simp
      first | done | with_reducible rfl
     try simp only [Act.put, List.setIfInBounds_toArray, List.set_cons_zero, List.set_cons_succ]
     refine take_at (i := 22) (d := 72) (oi := { dst := some 72, op := Op.binOp BinOp.neq 70 (Operand.tmp 66) (Operand.tmp 71) 70, type := 4, pos := "law.go:199", after := #[{ on := 16, ground := Ground.data }, { on := 21, ground := Ground.data }, { on := 11, ground := Ground.guard }], guard := some (11, false) }) (v := ?_) (by kernel_rfl) (by kernel_rfl) (hy := .inl ⟨by kernel_rfl, ?_⟩) (h := ?_)
     rotate_left
     ·intro W hSw; (try dsimp only at hSw); go_simp; first | done | with_reducible rfl
     try simp only [Act.put, List.setIfInBounds_toArray, List.set_cons_zero, List.set_cons_succ]
     refine take_at (i := 23) (d := 73) (oi := { dst := some 73, op := Op.pick (Operand.tmp 61) (Operand.const (Value.bool true)) (Operand.tmp 72), type := 4, pos := "law.go:199", after := #[{ on := 11, ground := Ground.data }, { on := 22, ground := Ground.data }], guard := none }) (v := ?_) (by kernel_rfl) (by kernel_rfl) (hy := .inl ⟨by kernel_rfl, ?_⟩) (h := ?_)
     rotate_left
     ·intro W hSw; (try dsimp only at hSw); go_simp; first | done | with_reducible rfl
     try simp only [Act.put, List.setIfInBounds_toArray, List.set_cons_zero, List.set_cons_succ]
     refine take_at (i := 24) (d := 74) (oi := { dst := some 74, op := Op.move (Operand.tmp 73), type := 4, pos := "law.go:199", after := #[{ on := 23, ground := Ground.data }, { on := 11, ground := Ground.chain }], guard := none }) (v := ?_) (by kernel_rfl) (by kernel_rfl) (hy := .inl ⟨by kernel_rfl, ?_⟩) (h := ?_)
     rotate_left
     ·intro W hSw; (try dsimp only at hSw); go_simp; first | done | with_reducible rfl
     try simp only [Act.put, List.setIfInBounds_toArray, List.set_cons_zero, List.set_cons_succ]
     refine take_at (i := 25) (d := 75) (oi := { dst := some 75, op := Op.move (Operand.tmp 5), type := 65, pos := "law.go:199", after := #[{ on := 24, ground := Ground.guard }], guard := some (24, false) }) (v := ?_) (by kernel_rfl) (by kernel_rfl) (hy := .inl ⟨by kernel_rfl, ?_⟩) (h := ?_)
     rotate_left
     ·intro W hSw; (try dsimp only at hSw); go_simp; first | done | with_reducible rfl
     try simp only [Act.put, List.setIfInBounds_toArray, List.set_cons_zero, List.set_cons_succ]
     refine take_at (i := 26) (d := 76) (oi := { dst := some 76, op := Op.move (Operand.tmp 8), type := 3, pos := "law.go:199", after := #[{ on := 24, ground := Ground.guard }], guard := some (24, false) }) (v := ?_) (by kernel_rfl) (by kernel_rfl) (hy := .inl ⟨by kernel_rfl, ?_⟩) (h := ?_)
     rotate_left
     ·intro W hSw; (try dsimp only at hSw); go_simp; first | done | with_reducible rfl
     try simp only [Act.put, List.setIfInBounds_toArray, List.set_cons_zero, List.set_cons_succ]
     refine take_at (i := 27) (d := 77) (oi := { dst := some 77, op := Op.indexAddr 65 (Operand.tmp 75) (Operand.tmp 76), type := 0, pos := "law.go:199", after := #[{ on := 25, ground := Ground.data }, { on := 26, ground := Ground.data }, { on := 24, ground := Ground.guard }], guard := some (24, false) }) (v := ?_) (by kernel_rfl) (by kernel_rfl) (hy := .inl ⟨by kernel_rfl, ?_⟩) (h := ?_)
     rotate_left
     ·intro W hSw; (try dsimp only at hSw); go_simp; first | done | with_reducible rfl
     try simp only [Act.put, List.setIfInBounds_toArray, List.set_cons_zero, List.set_cons_succ]
     refine take_at (i := 28) (d := 78) (oi := { dst := some 78, op := Op.fieldAddr 72 (Operand.tmp 77) 2, type := 0, pos := "law.go:199", after := #[{ on := 27, ground := Ground.data }, { on := 24, ground := Ground.guard }], guard := some (24, false) }) (v := ?_) (by kernel_rfl) (by kernel_rfl) (hy := .inl ⟨by kernel_rfl, ?_⟩) (h := ?_)
     rotate_left
     ·intro W hSw; (try dsimp only at hSw); go_simp; first | done | with_reducible rfl
     try simp only [Act.put, List.setIfInBounds_toArray, List.set_cons_zero, List.set_cons_succ]
     refine take_at (i := 29) (d := 79) (oi := { dst := some 79, op := Op.load 70 (Operand.tmp 78), type := 70, pos := "law.go:199", after := #[{ on := 28, ground := Ground.data }, { on := 24, ground := Ground.guard }], guard := some (24, false) }) (v := ?_) (by kernel_rfl) (by kernel_rfl) (hy := .inl ⟨by kernel_rfl, ?_⟩) (h := ?_)
     rotate_left
     ·intro W hSw
      try dsimp only at hSw
      obtain ⟨x0, x1, x2, x3, x4⟩ := HXC.out _ hSw
      go_simp
      first | done | with_reducible rfl
     try simp only [Act.put, List.setIfInBounds_toArray, List.set_cons_zero, List.set_cons_succ]
     refine take_at (i := 30) (d := 80) (oi := { dst := some 80, op := Op.move (Operand.tmp 6), type := 65, pos := "law.go:199", after := #[{ on := 24, ground := Ground.guard }], guard := some (24, false) }) (v := ?_) (by kernel_rfl) (by kernel_rfl) (hy := .inl ⟨by kernel_rfl, ?_⟩) (h := ?_)
     rotate_left
     ·intro W hSw; (try dsimp only at hSw); go_simp; first | done | with_reducible rfl
     try simp only [Act.put, List.setIfInBounds_toArray, List.set_cons_zero, List.set_cons_succ]
     refine take_at (i := 31) (d := 81) (oi := { dst := some 81, op := Op.move (Operand.tmp 8), type := 3, pos := "law.go:199", after := #[{ on := 24, ground := Ground.guard }], guard := some (24, false) }) (v := ?_) (by kernel_rfl) (by kernel_rfl) (hy := .inl ⟨by kernel_rfl, ?_⟩) (h := ?_)
     rotate_left
     ·intro W hSw; (try dsimp only at hSw); go_simp; first | done | with_reducible rfl
     try simp only [Act.put, List.setIfInBounds_toArray, List.set_cons_zero, List.set_cons_succ]
     refine take_at (i := 32) (d := 82) (oi := { dst := some 82, op := Op.indexAddr 65 (Operand.tmp 80) (Operand.tmp 81), type := 0, pos := "law.go:199", after := #[{ on := 30, ground := Ground.data }, { on := 31, ground := Ground.data }, { on := 24, ground := Ground.guard }], guard := some (24, false) }) (v := ?_) (by kernel_rfl) (by kernel_rfl) (hy := .inl ⟨by kernel_rfl, ?_⟩) (h := ?_)
     rotate_left
     ·intro W hSw; (try dsimp only at hSw); go_simp; first | done | with_reducible rfl
     try simp only [Act.put, List.setIfInBounds_toArray, List.set_cons_zero, List.set_cons_succ]
     refine take_at (i := 33) (d := 83) (oi := { dst := some 83, op := Op.fieldAddr 72 (Operand.tmp 82) 1, type := 0, pos := "law.go:199", after := #[{ on := 32, ground := Ground.data }, { on := 24, ground := Ground.guard }], guard := some (24, false) }) (v := ?_) (by kernel_rfl) (by kernel_rfl) (hy := .inl ⟨by kernel_rfl, ?_⟩) (h := ?_)
     rotate_left
     ·intro W hSw; (try dsimp only at hSw); go_simp; first | done | with_reducible rfl
     try simp only [Act.put, List.setIfInBounds_toArray, List.set_cons_zero, List.set_cons_succ]
     refine take_at (i := 34) (d := 84) (oi := { dst := some 84, op := Op.load 70 (Operand.tmp 83), type := 70, pos := "law.go:199", after := #[{ on := 33, ground := Ground.data }, { on := 24, ground := Ground.guard }], guard := some (24, false) }) (v := ?_) (by kernel_rfl) (by kernel_rfl) (hy := .inl ⟨by kernel_rfl, ?_⟩) (h := ?_)
     rotate_left
     ·intro W hSw
      try dsimp only at hSw
      obtain ⟨y0, y1, y2, y3, y4⟩ := HYC.out _ hSw
      go_simp
      first | done | with_reducible rfl
     try simp only [Act.put, List.setIfInBounds_toArray, List.set_cons_zero, List.set_cons_succ]
     refine take_at (i := 35) (d := 85) (oi := { dst := some 85, op := Op.binOp BinOp.neq 70 (Operand.tmp 79) (Operand.tmp 84) 70, type := 4, pos := "law.go:199", after := #[{ on := 29, ground := Ground.data }, { on := 34, ground := Ground.data }, { on := 24, ground := Ground.guard }], guard := some (24, false) }) (v := ?_) (by kernel_rfl) (by kernel_rfl) (hy := .inl ⟨by kernel_rfl, ?_⟩) (h := ?_)
     rotate_left
     ·intro W hSw; (try dsimp only at hSw); go_simp; first | done | with_reducible rfl
     try simp only [Act.put, List.setIfInBounds_toArray, List.set_cons_zero, List.set_cons_succ]
     refine take_at (i := 36) (d := 86) (oi := { dst := some 86, op := Op.pick (Operand.tmp 74) (Operand.const (Value.bool true)) (Operand.tmp 85), type := 4, pos := "law.go:199", after := #[{ on := 24, ground := Ground.data }, { on := 35, ground := Ground.data }], guard := none }) (v := ?_) (by kernel_rfl) (by kernel_rfl) (hy := .inl ⟨by kernel_rfl, ?_⟩) (h := ?_)
     rotate_left
     ·intro W hSw; (try dsimp only at hSw); go_simp; first | done | with_reducible rfl
     try simp only [Act.put, List.setIfInBounds_toArray, List.set_cons_zero, List.set_cons_succ]
     refine take_at (i := 37) (d := 87) (oi := { dst := some 87, op := Op.move (Operand.tmp 86), type := 4, pos := "law.go:199", after := #[{ on := 36, ground := Ground.data }, { on := 24, ground := Ground.chain }], guard := none }) (v := ?_) (by kernel_rfl) (by kernel_rfl) (hy := .inl ⟨by kernel_rfl, ?_⟩) (h := ?_)
     rotate_left
     ·intro W hSw; (try dsimp only at hSw); go_simp; first | done | with_reducible rfl
     try simp only [Act.put, List.setIfInBounds_toArray, List.set_cons_zero, List.set_cons_succ]
     refine take_at (i := 38) (d := 88) (oi := { dst := some 88, op := Op.move (Operand.tmp 5), type := 65, pos := "law.go:199", after := #[{ on := 37, ground := Ground.guard }], guard := some (37, false) }) (v := ?_) (by kernel_rfl) (by kernel_rfl) (hy := .inl ⟨by kernel_rfl, ?_⟩) (h := ?_)
     rotate_left
     ·intro W hSw; (try dsimp only at hSw); go_simp; first | done | with_reducible rfl
     try simp only [Act.put, List.setIfInBounds_toArray, List.set_cons_zero, List.set_cons_succ]
     refine take_at (i := 39) (d := 89) (oi := { dst := some 89, op := Op.move (Operand.tmp 8), type := 3, pos := "law.go:199", after := #[{ on := 37, ground := Ground.guard }], guard := some (37, false) }) (v := ?_) (by kernel_rfl) (by kernel_rfl) (hy := .inl ⟨by kernel_rfl, ?_⟩) (h := ?_)
     rotate_left
     ·intro W hSw; (try dsimp only at hSw); go_simp; first | done | with_reducible rfl
     try simp only [Act.put, List.setIfInBounds_toArray, List.set_cons_zero, List.set_cons_succ]
     refine take_at (i := 40) (d := 90) (oi := { dst := some 90, op := Op.indexAddr 65 (Operand.tmp 88) (Operand.tmp 89), type := 0, pos := "law.go:199", after := #[{ on := 38, ground := Ground.data }, { on := 39, ground := Ground.data }, { on := 37, ground := Ground.guard }], guard := some (37, false) }) (v := ?_) (by kernel_rfl) (by kernel_rfl) (hy := .inl ⟨by kernel_rfl, ?_⟩) (h := ?_)
     rotate_left
     ·intro W hSw; (try dsimp only at hSw); go_simp; first | done | with_reducible rfl
     try simp only [Act.put, List.setIfInBounds_toArray, List.set_cons_zero, List.set_cons_succ]
     refine take_at (i := 41) (d := 91) (oi := { dst := some 91, op := Op.fieldAddr 72 (Operand.tmp 90) 1, type := 0, pos := "law.go:199", after := #[{ on := 40, ground := Ground.data }, { on := 37, ground := Ground.guard }], guard := some (37, false) }) (v := ?_) (by kernel_rfl) (by kernel_rfl) (hy := .inl ⟨by kernel_rfl, ?_⟩) (h := ?_)
     rotate_left
     ·intro W hSw; (try dsimp only at hSw); go_simp; first | done | with_reducible rfl
     try simp only [Act.put, List.setIfInBounds_toArray, List.set_cons_zero, List.set_cons_succ]
     refine take_at (i := 42) (d := 92) (oi := { dst := some 92, op := Op.load 70 (Operand.tmp 91), type := 70, pos := "law.go:199", after := #[{ on := 41, ground := Ground.data }, { on := 37, ground := Ground.guard }], guard := some (37, false) }) (v := ?_) (by kernel_rfl) (by kernel_rfl) (hy := .inl ⟨by kernel_rfl, ?_⟩) (h := ?_)
     rotate_left
     ·intro W hSw
      try dsimp only at hSw
      obtain ⟨x0, x1, x2, x3, x4⟩ := HXC.out _ hSw
      go_simp
      first | done | with_reducible rfl
     try simp only [Act.put, List.setIfInBounds_toArray, List.set_cons_zero, List.set_cons_succ]
     refine take_at (i := 43) (d := 93) (oi := { dst := some 93, op := Op.move (Operand.tmp 5), type := 65, pos := "law.go:199", after := #[{ on := 37, ground := Ground.guard }], guard := some (37, false) }) (v := ?_) (by kernel_rfl) (by kernel_rfl) (hy := .inl ⟨by kernel_rfl, ?_⟩) (h := ?_)
     rotate_left
     ·intro W hSw; (try dsimp only at hSw); go_simp; first | done | with_reducible rfl
     try simp only [Act.put, List.setIfInBounds_toArray, List.set_cons_zero, List.set_cons_succ]
     refine take_at (i := 44) (d := 94) (oi := { dst := some 94, op := Op.move (Operand.tmp 8), type := 3, pos := "law.go:199", after := #[{ on := 37, ground := Ground.guard }], guard := some (37, false) }) (v := ?_) (by kernel_rfl) (by kernel_rfl) (hy := .inl ⟨by kernel_rfl, ?_⟩) (h := ?_)
     rotate_left
     ·intro W hSw; (try dsimp only at hSw); go_simp; first | done | with_reducible rfl
     try simp only [Act.put, List.setIfInBounds_toArray, List.set_cons_zero, List.set_cons_succ]
     refine take_at (i := 45) (d := 95) (oi := { dst := some 95, op := Op.indexAddr 65 (Operand.tmp 93) (Operand.tmp 94), type := 0, pos := "law.go:199", after := #[{ on := 43, ground := Ground.data }, { on := 44, ground := Ground.data }, { on := 37, ground := Ground.guard }], guard := some (37, false) }) (v := ?_) (by kernel_rfl) (by kernel_rfl) (hy := .inl ⟨by kernel_rfl, ?_⟩) (h := ?_)
     rotate_left
     ·intro W hSw; (try dsimp only at hSw); go_simp; first | done | with_reducible rfl
     try simp only [Act.put, List.setIfInBounds_toArray, List.set_cons_zero, List.set_cons_succ]
     refine take_at (i := 46) (d := 96) (oi := { dst := some 96, op := Op.fieldAddr 72 (Operand.tmp 95) 2, type := 0, pos := "law.go:199", after := #[{ on := 45, ground := Ground.data }, { on := 37, ground := Ground.guard }], guard := some (37, false) }) (v := ?_) (by kernel_rfl) (by kernel_rfl) (hy := .inl ⟨by kernel_rfl, ?_⟩) (h := ?_)
     rotate_left
     ·intro W hSw; (try dsimp only at hSw); go_simp; first | done | with_reducible rfl
     try simp only [Act.put, List.setIfInBounds_toArray, List.set_cons_zero, List.set_cons_succ]
     refine take_at (i := 47) (d := 97) (oi := { dst := some 97, op := Op.load 70 (Operand.tmp 96), type := 70, pos := "law.go:199", after := #[{ on := 46, ground := Ground.data }, { on := 37, ground := Ground.guard }], guard := some (37, false) }) (v := ?_) (by kernel_rfl) (by kernel_rfl) (hy := .inl ⟨by kernel_rfl, ?_⟩) (h := ?_)
     rotate_left
     ·intro W hSw
      try dsimp only at hSw
      obtain ⟨x0, x1, x2, x3, x4⟩ := HXC.out _ hSw
      go_simp
      first | done | with_reducible rfl
     try simp only [Act.put, List.setIfInBounds_toArray, List.set_cons_zero, List.set_cons_succ]
     refine take_at (i := 48) (d := 98) (oi := { dst := some 98, op := Op.binOp BinOp.eql 70 (Operand.tmp 92) (Operand.tmp 97) 70, type := 4, pos := "law.go:199", after := #[{ on := 42, ground := Ground.data }, { on := 47, ground := Ground.data }, { on := 37, ground := Ground.guard }], guard := some (37, false) }) (v := ?_) (by kernel_rfl) (by kernel_rfl) (hy := .inl ⟨by kernel_rfl, ?_⟩) (h := ?_)
     rotate_left
     ·intro W hSw
      try dsimp only at hSw
      refine Eq.trans (by go_simp; exact ifs_no HNE3.out _ _) ?_
      go_simp
      first | done | with_reducible rfl
     try simp only [Act.put, List.setIfInBounds_toArray, List.set_cons_zero, List.set_cons_succ]
     refine take_at (i := 49) (d := 99) (oi := { dst := some 99, op := Op.pick (Operand.tmp 87) (Operand.const (Value.bool true)) (Operand.tmp 98), type := 4, pos := "law.go:199", after := #[{ on := 37, ground := Ground.data }, { on := 48, ground := Ground.data }], guard := none }) (v := ?_) (by kernel_rfl) (by kernel_rfl) (hy := .inl ⟨by kernel_rfl, ?_⟩) (h := ?_)
     rotate_left
     ·intro W hSw; (try dsimp only at hSw); go_simp; first | done | with_reducible rfl
     try simp only [Act.put, List.setIfInBounds_toArray, List.set_cons_zero, List.set_cons_succ]
     refine take_at (i := 50) (d := 100) (oi := { dst := some 100, op := Op.move (Operand.tmp 99), type := 4, pos := "law.go:199", after := #[{ on := 49, ground := Ground.data }, { on := 37, ground := Ground.chain }], guard := none }) (v := ?_) (by kernel_rfl) (by kernel_rfl) (hy := .inl ⟨by kernel_rfl, ?_⟩) (h := ?_)
     rotate_left
     ·intro W hSw; (try dsimp only at hSw); go_simp; first | done | with_reducible rfl
     try simp only [Act.put, List.setIfInBounds_toArray, List.set_cons_zero, List.set_cons_succ]
     refine take_at (i := 51) (d := 101) (oi := { dst := some 101, op := Op.move (Operand.tmp 8), type := 3, pos := "law.go:199", after := #[{ on := 50, ground := Ground.guard }], guard := some (50, false) }) (v := ?_) (by kernel_rfl) (by kernel_rfl) (hy := .inl ⟨by kernel_rfl, ?_⟩) (h := ?_)
     rotate_left
     ·intro W hSw; (try dsimp only at hSw); go_simp; first | done | with_reducible rfl
     try simp only [Act.put, List.setIfInBounds_toArray, List.set_cons_zero, List.set_cons_succ]
     refine take_at (i := 52) (d := 102) (oi := { dst := some 102, op := Op.binOp BinOp.gtr 3 (Operand.tmp 101) (Operand.const (Value.int IntKind.i64 0)) 3, type := 4, pos := "law.go:199", after := #[{ on := 51, ground := Ground.data }, { on := 50, ground := Ground.guard }], guard := some (50, false) }) (v := ?_) (by kernel_rfl) (by kernel_rfl) (hy := .inl ⟨by kernel_rfl, ?_⟩) (h := ?_)
     rotate_left
     ·intro W hSw; (try dsimp only at hSw); go_simp; first | done | with_reducible rfl
     try simp only [Act.put, List.setIfInBounds_toArray, List.set_cons_zero, List.set_cons_succ]
     refine take_at (i := 53) (d := 103) (oi := { dst := some 103, op := Op.move (Operand.tmp 102), type := 4, pos := "law.go:199", after := #[{ on := 52, ground := Ground.data }, { on := 50, ground := Ground.chain }, { on := 50, ground := Ground.guard }], guard := some (50, false) }) (v := ?_) (by kernel_rfl) (by kernel_rfl) (hy := .inl ⟨by kernel_rfl, ?_⟩) (h := ?_)
     rotate_left
     ·intro W hSw; (try dsimp only at hSw); go_simp; first | done | with_reducible rfl
     try simp only [Act.put, List.setIfInBounds_toArray, List.set_cons_zero, List.set_cons_succ]
     refine take_at (i := 54) (d := 104) (oi := { dst := some 104, op := Op.move (Operand.tmp 5), type := 65, pos := "law.go:199", after := #[{ on := 53, ground := Ground.guard }], guard := some (53, true) }) (v := undef) (by kernel_rfl) (by kernel_rfl) (hy := .inr ⟨by kernel_rfl, rfl⟩) (h := ?_)
     try simp only [Act.put, List.setIfInBounds_toArray, List.set_cons_zero, List.set_cons_succ]
     refine take_at (i := 55) (d := 105) (oi := { dst := some 105, op := Op.move (Operand.tmp 8), type := 3, pos := "law.go:199", after := #[{ on := 53, ground := Ground.guard }], guard := some (53, true) }) (v := undef) (by kernel_rfl) (by kernel_rfl) (hy := .inr ⟨by kernel_rfl, rfl⟩) (h := ?_)
     try simp only [Act.put, List.setIfInBounds_toArray, List.set_cons_zero, List.set_cons_succ]
     refine take_at (i := 56) (d := 106) (oi := { dst := some 106, op := Op.indexAddr 65 (Operand.tmp 104) (Operand.tmp 105), type := 0, pos := "law.go:199", after := #[{ on := 54, ground := Ground.data }, { on := 55, ground := Ground.data }, { on := 53, ground := Ground.guard }], guard := some (53, true) }) (v := undef) (by kernel_rfl) (by kernel_rfl) (hy := .inr ⟨by kernel_rfl, rfl⟩) (h := ?_)
     try simp only [Act.put, List.setIfInBounds_toArray, List.set_cons_zero, List.set_cons_succ]
     refine take_at (i := 57) (d := 107) (oi := { dst := some 107, op := Op.fieldAddr 72 (Operand.tmp 106) 0, type := 0, pos := "law.go:199", after := #[{ on := 56, ground := Ground.data }, { on := 53, ground := Ground.guard }], guard := some (53, true) }) (v := undef) (by kernel_rfl) (by kernel_rfl) (hy := .inr ⟨by kernel_rfl, rfl⟩) (h := ?_)
     try simp only [Act.put, List.setIfInBounds_toArray, List.set_cons_zero, List.set_cons_succ]
     refine take_at (i := 58) (d := 108) (oi := { dst := some 108, op := Op.load 9 (Operand.tmp 107), type := 9, pos := "law.go:199", after := #[{ on := 57, ground := Ground.data }, { on := 53, ground := Ground.guard }], guard := some (53, true) }) (v := undef) (by kernel_rfl) (by kernel_rfl) (hy := .inr ⟨by kernel_rfl, rfl⟩) (h := ?_)
     try simp only [Act.put, List.setIfInBounds_toArray, List.set_cons_zero, List.set_cons_succ]
     refine take_at (i := 59) (d := 109) (oi := { dst := some 109, op := Op.move (Operand.tmp 5), type := 65, pos := "law.go:199", after := #[{ on := 53, ground := Ground.guard }], guard := some (53, true) }) (v := undef) (by kernel_rfl) (by kernel_rfl) (hy := .inr ⟨by kernel_rfl, rfl⟩) (h := ?_)
     try simp only [Act.put, List.setIfInBounds_toArray, List.set_cons_zero, List.set_cons_succ]
     refine take_at (i := 60) (d := 110) (oi := { dst := some 110, op := Op.move (Operand.tmp 8), type := 3, pos := "law.go:199", after := #[{ on := 53, ground := Ground.guard }], guard := some (53, true) }) (v := undef) (by kernel_rfl) (by kernel_rfl) (hy := .inr ⟨by kernel_rfl, rfl⟩) (h := ?_)
     try simp only [Act.put, List.setIfInBounds_toArray, List.set_cons_zero, List.set_cons_succ]
     refine take_at (i := 61) (d := 111) (oi := { dst := some 111, op := Op.binOp BinOp.sub 3 (Operand.tmp 110) (Operand.const (Value.int IntKind.i64 1)) 3, type := 3, pos := "law.go:199", after := #[{ on := 60, ground := Ground.data }, { on := 53, ground := Ground.guard }], guard := some (53, true) }) (v := undef) (by kernel_rfl) (by kernel_rfl) (hy := .inr ⟨by kernel_rfl, rfl⟩) (h := ?_)
     try simp only [Act.put, List.setIfInBounds_toArray, List.set_cons_zero, List.set_cons_succ]
     refine take_at (i := 62) (d := 112) (oi := { dst := some 112, op := Op.indexAddr 65 (Operand.tmp 109) (Operand.tmp 111), type := 0, pos := "law.go:199", after := #[{ on := 59, ground := Ground.data }, { on := 61, ground := Ground.data }, { on := 53, ground := Ground.guard }], guard := some (53, true) }) (v := undef) (by kernel_rfl) (by kernel_rfl) (hy := .inr ⟨by kernel_rfl, rfl⟩) (h := ?_)
     try simp only [Act.put, List.setIfInBounds_toArray, List.set_cons_zero, List.set_cons_succ]
     refine take_at (i := 63) (d := 113) (oi := { dst := some 113, op := Op.fieldAddr 72 (Operand.tmp 112) 0, type := 0, pos := "law.go:199", after := #[{ on := 62, ground := Ground.data }, { on := 53, ground := Ground.guard }], guard := some (53, true) }) (v := undef) (by kernel_rfl) (by kernel_rfl) (hy := .inr ⟨by kernel_rfl, rfl⟩) (h := ?_)
     try simp only [Act.put, List.setIfInBounds_toArray, List.set_cons_zero, List.set_cons_succ]
     refine take_at (i := 64) (d := 114) (oi := { dst := some 114, op := Op.load 9 (Operand.tmp 113), type := 9, pos := "law.go:199", after := #[{ on := 63, ground := Ground.data }, { on := 53, ground := Ground.guard }], guard := some (53, true) }) (v := undef) (by kernel_rfl) (by kernel_rfl) (hy := .inr ⟨by kernel_rfl, rfl⟩) (h := ?_)
     try simp only [Act.put, List.setIfInBounds_toArray, List.set_cons_zero, List.set_cons_succ]
     refine take_at (i := 65) (d := 115) (oi := { dst := some 115, op := Op.binOp BinOp.leq 9 (Operand.tmp 108) (Operand.tmp 114) 9, type := 4, pos := "law.go:199", after := #[{ on := 58, ground := Ground.data }, { on := 64, ground := Ground.data }, { on := 53, ground := Ground.guard }], guard := some (53, true) }) (v := undef) (by kernel_rfl) (by kernel_rfl) (hy := .inr ⟨by kernel_rfl, rfl⟩) (h := ?_)
     try simp only [Act.put, List.setIfInBounds_toArray, List.set_cons_zero, List.set_cons_succ]
     refine take_at (i := 66) (d := 116) (oi := { dst := some 116, op := Op.pick (Operand.tmp 103) (Operand.tmp 115) (Operand.const (Value.bool false)), type := 4, pos := "law.go:199", after := #[{ on := 53, ground := Ground.data }, { on := 65, ground := Ground.data }, { on := 50, ground := Ground.guard }], guard := some (50, false) }) (v := ?_) (by kernel_rfl) (by kernel_rfl) (hy := .inl ⟨by kernel_rfl, ?_⟩) (h := ?_)
     rotate_left
     ·intro W hSw; (try dsimp only at hSw); go_simp; first | done | with_reducible rfl
     try simp only [Act.put, List.setIfInBounds_toArray, List.set_cons_zero, List.set_cons_succ]
     refine take_at (i := 67) (d := 117) (oi := { dst := some 117, op := Op.pick (Operand.tmp 100) (Operand.const (Value.bool true)) (Operand.tmp 116), type := 4, pos := "law.go:199", after := #[{ on := 50, ground := Ground.data }, { on := 66, ground := Ground.data }], guard := none }) (v := ?_) (by kernel_rfl) (by kernel_rfl) (hy := .inl ⟨by kernel_rfl, ?_⟩) (h := ?_)
     rotate_left
     ·intro W hSw; (try dsimp only at hSw); go_simp; first | done | with_reducible rfl
     try simp only [Act.put, List.setIfInBounds_toArray, List.set_cons_zero, List.set_cons_succ]
     refine take_at (i := 68) (d := 118) (oi := { dst := some 118, op := Op.move (Operand.tmp 117), type := 4, pos := "law.go:199", after := #[{ on := 67, ground := Ground.data }, { on := 53, ground := Ground.chain }], guard := none }) (v := ?_) (by kernel_rfl) (by kernel_rfl) (hy := .inl ⟨by kernel_rfl, ?_⟩) (h := ?_)
     rotate_left
     ·intro W hSw; (try dsimp only at hSw); go_simp; first | done | with_reducible rfl
     try simp only [Act.put, List.setIfInBounds_toArray, List.set_cons_zero, List.set_cons_succ]
     refine take_at (i := 69) (d := 119) (oi := { dst := some 119, op := Op.move (Operand.tmp 0), type := 51, pos := "law.go:199", after := #[{ on := 68, ground := Ground.guard }], guard := some (68, false) }) (v := ?_) (by kernel_rfl) (by kernel_rfl) (hy := .inl ⟨by kernel_rfl, ?_⟩) (h := ?_)
     rotate_left
     ·intro W hSw; (try dsimp only at hSw); go_simp; first | done | with_reducible rfl
     try simp only [Act.put, List.setIfInBounds_toArray, List.set_cons_zero, List.set_cons_succ]
     refine take_at (i := 70) (d := 120) (oi := { dst := some 120, op := Op.move (Operand.tmp 5), type := 65, pos := "law.go:199", after := #[{ on := 68, ground := Ground.guard }], guard := some (68, false) }) (v := ?_) (by kernel_rfl) (by kernel_rfl) (hy := .inl ⟨by kernel_rfl, ?_⟩) (h := ?_)
     rotate_left
     ·intro W hSw; (try dsimp only at hSw); go_simp; first | done | with_reducible rfl
     try simp only [Act.put, List.setIfInBounds_toArray, List.set_cons_zero, List.set_cons_succ]
     refine take_at (i := 71) (d := 121) (oi := { dst := some 121, op := Op.move (Operand.tmp 8), type := 3, pos := "law.go:199", after := #[{ on := 68, ground := Ground.guard }], guard := some (68, false) }) (v := ?_) (by kernel_rfl) (by kernel_rfl) (hy := .inl ⟨by kernel_rfl, ?_⟩) (h := ?_)
     rotate_left
     ·intro W hSw; (try dsimp only at hSw); go_simp; first | done | with_reducible rfl
     try simp only [Act.put, List.setIfInBounds_toArray, List.set_cons_zero, List.set_cons_succ]
     refine take_at (i := 72) (d := 122) (oi := { dst := some 122, op := Op.indexAddr 65 (Operand.tmp 120) (Operand.tmp 121), type := 0, pos := "law.go:199", after := #[{ on := 70, ground := Ground.data }, { on := 71, ground := Ground.data }, { on := 68, ground := Ground.guard }], guard := some (68, false) }) (v := ?_) (by kernel_rfl) (by kernel_rfl) (hy := .inl ⟨by kernel_rfl, ?_⟩) (h := ?_)
     rotate_left
     ·intro W hSw; (try dsimp only at hSw); go_simp; first | done | with_reducible rfl
     try simp only [Act.put, List.setIfInBounds_toArray, List.set_cons_zero, List.set_cons_succ]
     refine take_at (i := 73) (d := 123) (oi := { dst := some 123, op := Op.fieldAddr 72 (Operand.tmp 122) 0, type := 0, pos := "law.go:199", after := #[{ on := 72, ground := Ground.data }, { on := 68, ground := Ground.guard }], guard := some (68, false) }) (v := ?_) (by kernel_rfl) (by kernel_rfl) (hy := .inl ⟨by kernel_rfl, ?_⟩) (h := ?_)
     rotate_left
     ·intro W hSw; (try dsimp only at hSw); go_simp; first | done | with_reducible rfl
     try simp only [Act.put, List.setIfInBounds_toArray, List.set_cons_zero, List.set_cons_succ]
     refine take_at (i := 74) (d := 124) (oi := { dst := some 124, op := Op.load 9 (Operand.tmp 123), type := 9, pos := "law.go:199", after := #[{ on := 73, ground := Ground.data }, { on := 68, ground := Ground.guard }], guard := some (68, false) }) (v := ?_) (by kernel_rfl) (by kernel_rfl) (hy := .inl ⟨by kernel_rfl, ?_⟩) (h := ?_)
     rotate_left
     ·intro W hSw
      try dsimp only at hSw
      obtain ⟨x0, x1, x2, x3, x4⟩ := HXC.out _ hSw
      go_simp
      first | done | with_reducible rfl
     try simp only [Act.put, List.setIfInBounds_toArray, List.set_cons_zero, List.set_cons_succ]
     refine take_at (i := 76) (d := 126) (oi := { dst := some 126, op := Op.move (Operand.tmp 5), type := 65, pos := "law.go:199", after := #[{ on := 68, ground := Ground.guard }], guard := some (68, false) }) (v := ?_) (by kernel_rfl) (by kernel_rfl) (hy := .inl ⟨by kernel_rfl, ?_⟩) (h := ?_)
     rotate_left
     ·intro W hSw; (try dsimp only at hSw); go_simp; first | done | with_reducible rfl
     try simp only [Act.put, List.setIfInBounds_toArray, List.set_cons_zero, List.set_cons_succ]
     refine take_at (i := 77) (d := 127) (oi := { dst := some 127, op := Op.move (Operand.tmp 8), type := 3, pos := "law.go:199", after := #[{ on := 68, ground := Ground.guard }], guard := some (68, false) }) (v := ?_) (by kernel_rfl) (by kernel_rfl) (hy := .inl ⟨by kernel_rfl, ?_⟩) (h := ?_)
     rotate_left
     ·intro W hSw; (try dsimp only at hSw); go_simp; first | done | with_reducible rfl
     try simp only [Act.put, List.setIfInBounds_toArray, List.set_cons_zero, List.set_cons_succ]
     refine take_at (i := 78) (d := 128) (oi := { dst := some 128, op := Op.indexAddr 65 (Operand.tmp 126) (Operand.tmp 127), type := 0, pos := "law.go:199", after := #[{ on := 76, ground := Ground.data }, { on := 77, ground := Ground.data }, { on := 68, ground := Ground.guard }], guard := some (68, false) }) (v := ?_) (by kernel_rfl) (by kernel_rfl) (hy := .inl ⟨by kernel_rfl, ?_⟩) (h := ?_)
     rotate_left
     ·intro W hSw; (try dsimp only at hSw); go_simp; first | done | with_reducible rfl
     try simp only [Act.put, List.setIfInBounds_toArray, List.set_cons_zero, List.set_cons_succ]
     refine take_at (i := 79) (d := 129) (oi := { dst := some 129, op := Op.fieldAddr 72 (Operand.tmp 128) 1, type := 0, pos := "law.go:199", after := #[{ on := 78, ground := Ground.data }, { on := 68, ground := Ground.guard }], guard := some (68, false) }) (v := ?_) (by kernel_rfl) (by kernel_rfl) (hy := .inl ⟨by kernel_rfl, ?_⟩) (h := ?_)
     rotate_left
     ·intro W hSw; (try dsimp only at hSw); go_simp; first | done | with_reducible rfl
     try simp only [Act.put, List.setIfInBounds_toArray, List.set_cons_zero, List.set_cons_succ]
     refine take_at (i := 80) (d := 130) (oi := { dst := some 130, op := Op.load 70 (Operand.tmp 129), type := 70, pos := "law.go:199", after := #[{ on := 79, ground := Ground.data }, { on := 68, ground := Ground.guard }], guard := some (68, false) }) (v := ?_) (by kernel_rfl) (by kernel_rfl) (hy := .inl ⟨by kernel_rfl, ?_⟩) (h := ?_)
     rotate_left
     ·intro W hSw
      try dsimp only at hSw
      obtain ⟨x0, x1, x2, x3, x4⟩ := HXC.out _ hSw
      go_simp
      first | done | with_reducible rfl
     try simp only [Act.put, List.setIfInBounds_toArray, List.set_cons_zero, List.set_cons_succ]
     refine wpAnyH_ready (rs := [75]) (by kernel_rfl) (by simp) (AllReadyH.cons (o := { dst := some 125, op := Op.call { callee := Callee.value (Operand.func 28), args := #[Operand.tmp 119, Operand.tmp 124], argTypes := #[51, 9] }, type := 70, pos := "law.go:199", after := #[{ on := 69, ground := Ground.data }, { on := 74, ground := Ground.data }, { on := 68, ground := Ground.chain }, { on := 68, ground := Ground.guard }], guard := some (68, false) }) (by kernel_rfl) (fun K hK => ?_) AllReadyH.nil)
     go_simp
     refine (rget_any v1 a rp _ (H1.out.below (HALL.out _ HZ.out))).mono ?_
     rw [show GetP a rp wr.drew = fun e w' => e = .returned (entV (getM a rp)) ∧ Below (wr.drew).heap.size (wr.drew) w' from rfl, HGE.out]
     unfold entV
     dsimp only
     rintro e wg ⟨rfl, hb⟩
     replace HZ := Lib.hid (HZ.out.trans (hb.mono HZ.out.size))
     clear hb
     try go_wp2_with fail
     refine hK.out _ _ ?_ (fun hHeld => ?_)
     ·(try dsimp only); exact HZ.out
     clear hK K
     try simp only [Act.put, List.setIfInBounds_toArray, List.set_cons_zero, List.set_cons_succ]
     refine take_at (i := 81) (d := 131) (oi := { dst := some 131, op := Op.binOp BinOp.neq 70 (Operand.tmp 125) (Operand.tmp 130) 70, type := 4, pos := "law.go:199", after := #[{ on := 75, ground := Ground.data }, { on := 80, ground := Ground.data }, { on := 68, ground := Ground.guard }], guard := some (68, false) }) (v := ?_) (by kernel_rfl) (by kernel_rfl) (hy := .inl ⟨by kernel_rfl, ?_⟩) (h := ?_)
     rotate_left
     ·intro W hSw; (try dsimp only at hSw); go_simp; first | done | with_reducible rfl
     try simp only [Act.put, List.setIfInBounds_toArray, List.set_cons_zero, List.set_cons_succ]
     refine take_at (i := 82) (d := 132) (oi := { dst := some 132, op := Op.pick (Operand.tmp 118) (Operand.const (Value.bool true)) (Operand.tmp 131), type := 4, pos := "law.go:199", after := #[{ on := 68, ground := Ground.data }, { on := 81, ground := Ground.data }], guard := none }) (v := ?_) (by kernel_rfl) (by kernel_rfl) (hy := .inl ⟨by kernel_rfl, ?_⟩) (h := ?_)
     rotate_left
     ·intro W hSw; (try dsimp only at hSw); go_simp; first | done | with_reducible rfl
     try simp only [Act.put, List.setIfInBounds_toArray, List.set_cons_zero, List.set_cons_succ]
     refine wpAnyH_done (by kernel_rfl) ?_ _
     go_upto_region 14 with (fail)
     replace HZ := Lib.hid (HZ.out.drew)
     refine wp_region_held_drew (S := (fun W : World => Below wr.heap.size wr W)) (by kernel_rfl) ?_ (fun hHeld => ?_)
     ·(try dsimp only); exact HZ.out
     refine take_at (i := 0) (d := 133) (v := ?_) rfl (by kernel_rfl) (hy := .inl ⟨by kernel_rfl, ?_⟩) (h := ?_)
     rotate_left
     ·intro W hSw; (try dsimp only at hSw); go_simp; first | done | with_reducible rfl
     try simp only [Act.put, List.setIfInBounds_toArray, List.set_cons_zero, List.set_cons_succ]
     refine take_at (i := 1) (d := 134) (v := ?_) rfl (by kernel_rfl) (hy := .inl ⟨by kernel_rfl, ?_⟩) (h := ?_)
     rotate_left
     ·intro W hSw; (try dsimp only at hSw); go_simp; first | done | with_reducible rfl
     try simp only [Act.put, List.setIfInBounds_toArray, List.set_cons_zero, List.set_cons_succ]
     refine take_at (i := 2) (d := 135) (v := ?_) rfl (by kernel_rfl) (hy := .inl ⟨by kernel_rfl, ?_⟩) (h := ?_)
     rotate_left
     ·intro W hSw; (try dsimp only at hSw); go_simp; first | done | with_reducible rfl
     try simp only [Act.put, List.setIfInBounds_toArray, List.set_cons_zero, List.set_cons_succ]
     refine take_at (i := 3) (d := 136) (v := ?_) rfl (by kernel_rfl) (hy := .inl ⟨by kernel_rfl, ?_⟩) (h := ?_)
     rotate_left
     ·intro W hSw; (try dsimp only at hSw); go_simp; first | done | with_reducible rfl
     try simp only [Act.put, List.setIfInBounds_toArray, List.set_cons_zero, List.set_cons_succ]
     refine take_at (i := 4) (d := 137) (v := ?_) rfl (by kernel_rfl) (hy := .inl ⟨by kernel_rfl, ?_⟩) (h := ?_)
     rotate_left
     ·intro W hSw; (try dsimp only at hSw); go_simp; first | done | with_reducible rfl
     try simp only [Act.put, List.setIfInBounds_toArray, List.set_cons_zero, List.set_cons_succ]
     refine take_at (i := 5) (d := 138) (v := ?_) rfl (by kernel_rfl) (hy := .inl ⟨by kernel_rfl, ?_⟩) (h := ?_)
     rotate_left
     ·intro W hSw
      try dsimp only at hSw
      obtain ⟨x0, x1, x2, x3, x4⟩ := HXC.out _ hSw
      go_simp
      first | done | with_reducible rfl
     try simp only [Act.put, List.setIfInBounds_toArray, List.set_cons_zero, List.set_cons_succ]
     refine take_at (i := 6) (d := 139) (v := ?_) rfl (by kernel_rfl) (hy := .inl ⟨by kernel_rfl, ?_⟩) (h := ?_)
     rotate_left
     ·intro W hSw; (try dsimp only at hSw); go_simp; first | done | with_reducible rfl
     try simp only [Act.put, List.setIfInBounds_toArray, List.set_cons_zero, List.set_cons_succ]
     refine take_at (i := 7) (d := 140) (v := ?_) rfl (by kernel_rfl) (hy := .inl ⟨by kernel_rfl, ?_⟩) (h := ?_)
     rotate_left
     ·intro W hSw; (try dsimp only at hSw); go_simp; first | done | with_reducible rfl
     try simp only [Act.put, List.setIfInBounds_toArray, List.set_cons_zero, List.set_cons_succ]
     refine take_at (i := 8) (d := 141) (v := ?_) rfl (by kernel_rfl) (hy := .inl ⟨by kernel_rfl, ?_⟩) (h := ?_)
     rotate_left
     ·intro W hSw; (try dsimp only at hSw); go_simp; first | done | with_reducible rfl
     try simp only [Act.put, List.setIfInBounds_toArray, List.set_cons_zero, List.set_cons_succ]
     refine take_at (i := 9) (d := 142) (v := ?_) rfl (by kernel_rfl) (hy := .inl ⟨by kernel_rfl, ?_⟩) (h := ?_)
     rotate_left
     ·intro W hSw; (try dsimp only at hSw); go_simp; first | done | with_reducible rfl
     try simp only [Act.put, List.setIfInBounds_toArray, List.set_cons_zero, List.set_cons_succ]
     refine take_at (i := 10) (d := 143) (v := ?_) rfl (by kernel_rfl) (hy := .inl ⟨by kernel_rfl, ?_⟩) (h := ?_)
     rotate_left
     ·intro W hSw
      try dsimp only at hSw
      obtain ⟨x0, x1, x2, x3, x4⟩ := HXC.out _ hSw
      go_simp
      first | done | with_reducible rfl
     try simp only [Act.put, List.setIfInBounds_toArray, List.set_cons_zero, List.set_cons_succ]
     refine wpAnyH_ready (rs := [11]) (by kernel_rfl) (by simp) (AllReadyH.cons rfl (fun K hK => ?_) AllReadyH.nil)
     go_simp
     refine (rset_any u7 _ rp nm ni _ (HOV.out.below HZ.out) HLEN.out).mono ?_
     rintro e ws ⟨v9, rfl, ho9, hb⟩
     replace HZ := Lib.hid (HZ.out.trans (hb.mono HZ.out.size))
     have HO9 := Lib.hid ho9.slR
     clear ho9 hb
     try go_wp2_with fail
     refine hK.out _ _ ?_ (fun hHeld => ?_)
     ·(try dsimp only); exact HZ.out
     clear hK K
     try simp only [Act.put, List.setIfInBounds_toArray, List.set_cons_zero, List.set_cons_succ]
     refine take_at (i := 12) (d := 7) (v := ?_) rfl (by kernel_rfl) (hy := .inl ⟨by kernel_rfl, ?_⟩) (h := ?_)
     rotate_left
     ·intro W hSw; (try dsimp only at hSw); go_simp; first | done | with_reducible rfl
     try simp only [Act.put, List.setIfInBounds_toArray, List.set_cons_zero, List.set_cons_succ]
     refine wpAnyH_done (by kernel_rfl) ?_ _
     try go_wp2_with fail
     go_roundw
     case rel => exact ⟨i + 1, v9, by omega, rfl, by go_num, by rw [HNX.out]; exact HO9.out, HBW.out _ HZ.out⟩
     case measure => simp [intOf]; omega
    exact auxa1
   ·have g0 : decide ((0 : Int) < (i : Int)) = true := by simp; omega
    have g1 : decide (0 < i) = true := by simp; omega
    obtain ⟨j, hj⟩ : ∃ j, j + 1 = i := ⟨i - 1, by omega⟩
    have hjl : j < S.length := by have := HN.out; omega
    obtain ⟨q, hq⟩ : ∃ q, S[j] = q := ⟨_, rfl⟩
    have HGQ : Hid (S[j]? = some q) := by unfold Hid; rw [List.getElem?_eq_getElem hjl, hq]
    have HLT : Hid (bl q.path rp = true) := by
     have h9 := (List.pairwise_iff_getElem.1 HRI.out) j i hjl (by have := HN.out; omega) (by omega)
     have e9 := HGR.out
     rw [List.getElem?_eq_getElem (by have := HN.out; omega)] at e9
     injection e9 with e9
     rw [hq, e9] at h9
     exact h9
    have HPC : Hid (∀ W, Below wr.heap.size wr W → W.cell? (ax.add (j * 5)) = some (.string (Tx.str q.path))) := fun W hW => by
     obtain ⟨ax', e, c0, _, _, _, _⟩ := cg_at (HRX.out.below (HBX.out W hW)) HN.out.symm j _ HGQ.out
     injection e with e
     subst e
     exact c0
    have l1 : Op.bytesLess (Tx.str rp).toList (Tx.str q.path).toList = false := by rw [Tx.str_toList, Tx.str_toList]; exact bl_asymm _ _ HLT.out
    have l2 : ((Tx.str rp).toList == (Tx.str q.path).toList) = false := str_nsame (fun e => by have h9 := HLT.out; rw [e, bl_irr] at h9; cases h9)
    have jq : (i : Int) - 1 = (j : Int) := by omega
    have j1 : (j : Int) < (N : Int) := by omega
    have j0 : (0 : Int) ≤ (j : Int) := by omega
    have jw : IntKind.i64.wrap (j : Int) = (j : Int) := by rw [IntKind.wrap_i64]; omega
    clear hjl hq hj
    clear h0
    refine withid28 fun hid => ?_
    let rec auxb1 : domOf28 hid := by
     clear auxb1
     delta domOf28
     clear hid
     refine wp_region_held_drew (S := (fun W : World => Below wr.heap.size wr W)) (by kernel_rfl) ?_ (fun hHeld => ?_)
     ·(try dsimp only); exact HZ.out
     refine take_at (i := 0) (d := 50) (oi := { dst := some 50, op := Op.move (Operand.tmp 5), type := 65, pos := "law.go:199", after := #[], guard := none }) (v := ?_) (by kernel_rfl) (by kernel_rfl) (hy := .inl ⟨by kernel_rfl, ?_⟩) (h := ?_)
     rotate_left
     ·intro W hSw; (try dsimp only at hSw); go_simp; first | done | with_reducible rfl
     try simp only [Act.put, List.setIfInBounds_toArray, List.set_cons_zero, List.set_cons_succ]
     refine take_at (i := 1) (d := 51) (oi := { dst := some 51, op := Op.move (Operand.tmp 8), type := 3, pos := "law.go:199", after := #[], guard := none }) (v := ?_) (by kernel_rfl) (by kernel_rfl) (hy := .inl ⟨by kernel_rfl, ?_⟩) (h := ?_)
     rotate_left
     ·intro W hSw; (try dsimp only at hSw); go_simp; first | done | with_reducible rfl
     try simp only [Act.put, List.setIfInBounds_toArray, List.set_cons_zero, List.set_cons_succ]
     refine take_at (i := 2) (d := 52) (oi := { dst := some 52, op := Op.indexAddr 65 (Operand.tmp 50) (Operand.tmp 51), type := 0, pos := "law.go:199", after := #[{ on := 0, ground := Ground.data }, { on := 1, ground := Ground.data }], guard := none }) (v := ?_) (by kernel_rfl) (by kernel_rfl) (hy := .inl ⟨by kernel_rfl, ?_⟩) (h := ?_)
     rotate_left
     ·intro W hSw; (try dsimp only at hSw); go_simp; first | done | with_reducible rfl
     try simp only [Act.put, List.setIfInBounds_toArray, List.set_cons_zero, List.set_cons_succ]
     refine take_at (i := 3) (d := 53) (oi := { dst := some 53, op := Op.fieldAddr 72 (Operand.tmp 52) 0, type := 0, pos := "law.go:199", after := #[{ on := 2, ground := Ground.data }], guard := none }) (v := ?_) (by kernel_rfl) (by kernel_rfl) (hy := .inl ⟨by kernel_rfl, ?_⟩) (h := ?_)
     rotate_left
     ·intro W hSw; (try dsimp only at hSw); go_simp; first | done | with_reducible rfl
     try simp only [Act.put, List.setIfInBounds_toArray, List.set_cons_zero, List.set_cons_succ]
     refine take_at (i := 4) (d := 54) (oi := { dst := some 54, op := Op.load 9 (Operand.tmp 53), type := 9, pos := "law.go:199", after := #[{ on := 3, ground := Ground.data }], guard := none }) (v := ?_) (by kernel_rfl) (by kernel_rfl) (hy := .inl ⟨by kernel_rfl, ?_⟩) (h := ?_)
     rotate_left
     ·intro W hSw
      try dsimp only at hSw
      obtain ⟨x0, x1, x2, x3, x4⟩ := HXC.out _ hSw
      go_simp
      first | done | with_reducible rfl
     try simp only [Act.put, List.setIfInBounds_toArray, List.set_cons_zero, List.set_cons_succ]
     refine take_at (i := 5) (d := 55) (oi := { dst := some 55, op := Op.move (Operand.tmp 6), type := 65, pos := "law.go:199", after := #[], guard := none }) (v := ?_) (by kernel_rfl) (by kernel_rfl) (hy := .inl ⟨by kernel_rfl, ?_⟩) (h := ?_)
     rotate_left
     ·intro W hSw; (try dsimp only at hSw); go_simp; first | done | with_reducible rfl
     try simp only [Act.put, List.setIfInBounds_toArray, List.set_cons_zero, List.set_cons_succ]
     refine take_at (i := 6) (d := 56) (oi := { dst := some 56, op := Op.move (Operand.tmp 8), type := 3, pos := "law.go:199", after := #[], guard := none }) (v := ?_) (by kernel_rfl) (by kernel_rfl) (hy := .inl ⟨by kernel_rfl, ?_⟩) (h := ?_)
     rotate_left
     ·intro W hSw; (try dsimp only at hSw); go_simp; first | done | with_reducible rfl
     try simp only [Act.put, List.setIfInBounds_toArray, List.set_cons_zero, List.set_cons_succ]
     refine take_at (i := 7) (d := 57) (oi := { dst := some 57, op := Op.indexAddr 65 (Operand.tmp 55) (Operand.tmp 56), type := 0, pos := "law.go:199", after := #[{ on := 5, ground := Ground.data }, { on := 6, ground := Ground.data }], guard := none }) (v := ?_) (by kernel_rfl) (by kernel_rfl) (hy := .inl ⟨by kernel_rfl, ?_⟩) (h := ?_)
     rotate_left
     ·intro W hSw; (try dsimp only at hSw); go_simp; first | done | with_reducible rfl
     try simp only [Act.put, List.setIfInBounds_toArray, List.set_cons_zero, List.set_cons_succ]
     refine take_at (i := 8) (d := 58) (oi := { dst := some 58, op := Op.fieldAddr 72 (Operand.tmp 57) 0, type := 0, pos := "law.go:199", after := #[{ on := 7, ground := Ground.data }], guard := none }) (v := ?_) (by kernel_rfl) (by kernel_rfl) (hy := .inl ⟨by kernel_rfl, ?_⟩) (h := ?_)
     rotate_left
     ·intro W hSw; (try dsimp only at hSw); go_simp; first | done | with_reducible rfl
     try simp only [Act.put, List.setIfInBounds_toArray, List.set_cons_zero, List.set_cons_succ]
     refine take_at (i := 9) (d := 59) (oi := { dst := some 59, op := Op.load 9 (Operand.tmp 58), type := 9, pos := "law.go:199", after := #[{ on := 8, ground := Ground.data }], guard := none }) (v := ?_) (by kernel_rfl) (by kernel_rfl) (hy := .inl ⟨by kernel_rfl, ?_⟩) (h := ?_)
     rotate_left
     ·intro W hSw
      try dsimp only at hSw
      obtain ⟨y0, y1, y2, y3, y4⟩ := HYC.out _ hSw
      go_simp
      first | done | with_reducible rfl
     try simp only [Act.put, List.setIfInBounds_toArray, List.set_cons_zero, List.set_cons_succ]
     refine take_at (i := 10) (d := 60) (oi := { dst := some 60, op := Op.binOp BinOp.neq 9 (Operand.tmp 54) (Operand.tmp 59) 9, type := 4, pos := "law.go:199", after := #[{ on := 4, ground := Ground.data }, { on := 9, ground := Ground.data }], guard := none }) (v := ?_) (by kernel_rfl) (by kernel_rfl) (hy := .inl ⟨by kernel_rfl, ?_⟩) (h := ?_)
     rotate_left
     ·intro W hSw; (try dsimp only at hSw); go_simp; first | done | with_reducible rfl
     try simp only [Act.put, List.setIfInBounds_toArray, List.set_cons_zero, List.set_cons_succ]
     refine take_at (i := 11) (d := 61) (oi := { dst := some 61, op := Op.move (Operand.tmp 60), type := 4, pos := "law.go:199", after := #[{ on := 10, ground := Ground.data }], guard := none }) (v := ?_) (by kernel_rfl) (by kernel_rfl) (hy := .inl ⟨by kernel_rfl, ?_⟩) (h := ?_)
     rotate_left
     ·intro W hSw; (try dsimp only at hSw); go_simp; first | done | with_reducible rfl
     try simp only [Act.put, List.setIfInBounds_toArray, List.set_cons_zero, List.set_cons_succ]
     refine take_at (i := 12) (d := 62) (oi := { dst := some 62, op := Op.move (Operand.tmp 5), type := 65, pos := "law.go:199", after := #[{ on := 11, ground := Ground.guard }], guard := some (11, false) }) (v := ?_) (by kernel_rfl) (by kernel_rfl) (hy := .inl ⟨by kernel_rfl, ?_⟩) (h := ?_)
     rotate_left
     ·intro W hSw; (try dsimp only at hSw); go_simp; first | done | with_reducible rfl
     try simp only [Act.put, List.setIfInBounds_toArray, List.set_cons_zero, List.set_cons_succ]
     refine take_at (i := 13) (d := 63) (oi := { dst := some 63, op := Op.move (Operand.tmp 8), type := 3, pos := "law.go:199", after := #[{ on := 11, ground := Ground.guard }], guard := some (11, false) }) (v := ?_) (by kernel_rfl) (by kernel_rfl) (hy := .inl ⟨by kernel_rfl, ?_⟩) (h := ?_)
     rotate_left
     ·intro W hSw; (try dsimp only at hSw); go_simp; first | done | with_reducible rfl
     try simp only [Act.put, List.setIfInBounds_toArray, List.set_cons_zero, List.set_cons_succ]
     refine take_at (i := 14) (d := 64) (oi := { dst := some 64, op := Op.indexAddr 65 (Operand.tmp 62) (Operand.tmp 63), type := 0, pos := "law.go:199", after := #[{ on := 12, ground := Ground.data }, { on := 13, ground := Ground.data }, { on := 11, ground := Ground.guard }], guard := some (11, false) }) (v := ?_) (by kernel_rfl) (by kernel_rfl) (hy := .inl ⟨by kernel_rfl, ?_⟩) (h := ?_)
     rotate_left
     ·intro W hSw; (try dsimp only at hSw); go_simp; first | done | with_reducible rfl
     try simp only [Act.put, List.setIfInBounds_toArray, List.set_cons_zero, List.set_cons_succ]
     refine take_at (i := 15) (d := 65) (oi := { dst := some 65, op := Op.fieldAddr 72 (Operand.tmp 64) 1, type := 0, pos := "law.go:199", after := #[{ on := 14, ground := Ground.data }, { on := 11, ground := Ground.guard }], guard := some (11, false) }) (v := ?_) (by kernel_rfl) (by kernel_rfl) (hy := .inl ⟨by kernel_rfl, ?_⟩) (h := ?_)
     rotate_left
     ·intro W hSw; (try dsimp only at hSw); go_simp; first | done | with_reducible rfl
     try simp only [Act.put, List.setIfInBounds_toArray, List.set_cons_zero, List.set_cons_succ]
     refine take_at (i := 16) (d := 66) (oi := { dst := some 66, op := Op.load 70 (Operand.tmp 65), type := 70, pos := "law.go:199", after := #[{ on := 15, ground := Ground.data }, { on := 11, ground := Ground.guard }], guard := some (11, false) }) (v := ?_) (by kernel_rfl) (by kernel_rfl) (hy := .inl ⟨by kernel_rfl, ?_⟩) (h := ?_)
     rotate_left
     ·intro W hSw
      try dsimp only at hSw
      obtain ⟨x0, x1, x2, x3, x4⟩ := HXC.out _ hSw
      go_simp
      first | done | with_reducible rfl
     try simp only [Act.put, List.setIfInBounds_toArray, List.set_cons_zero, List.set_cons_succ]
     refine take_at (i := 17) (d := 67) (oi := { dst := some 67, op := Op.move (Operand.tmp 6), type := 65, pos := "law.go:199", after := #[{ on := 11, ground := Ground.guard }], guard := some (11, false) }) (v := ?_) (by kernel_rfl) (by kernel_rfl) (hy := .inl ⟨by kernel_rfl, ?_⟩) (h := ?_)
     rotate_left
     ·intro W hSw; (try dsimp only at hSw); go_simp; first | done | with_reducible rfl
     try simp only [Act.put, List.setIfInBounds_toArray, List.set_cons_zero, List.set_cons_succ]
     refine take_at (i := 18) (d := 68) (oi := { dst := some 68, op := Op.move (Operand.tmp 8), type := 3, pos := "law.go:199", after := #[{ on := 11, ground := Ground.guard }], guard := some (11, false) }) (v := ?_) (by kernel_rfl) (by kernel_rfl) (hy := .inl ⟨by kernel_rfl, ?_⟩) (h := ?_)
     rotate_left
     ·intro W hSw; (try dsimp only at hSw); go_simp; first | done | with_reducible rfl
     try simp only [Act.put, List.setIfInBounds_toArray, List.set_cons_zero, List.set_cons_succ]
     refine take_at (i := 19) (d := 69) (oi := { dst := some 69, op := Op.indexAddr 65 (Operand.tmp 67) (Operand.tmp 68), type := 0, pos := "law.go:199", after := #[{ on := 17, ground := Ground.data }, { on := 18, ground := Ground.data }, { on := 11, ground := Ground.guard }], guard := some (11, false) }) (v := ?_) (by kernel_rfl) (by kernel_rfl) (hy := .inl ⟨by kernel_rfl, ?_⟩) (h := ?_)
     rotate_left
     ·intro W hSw; (try dsimp only at hSw); go_simp; first | done | with_reducible rfl
     try simp only [Act.put, List.setIfInBounds_toArray, List.set_cons_zero, List.set_cons_succ]
     refine take_at (i := 20) (d := 70) (oi := { dst := some 70, op := Op.fieldAddr 72 (Operand.tmp 69) 2, type := 0, pos := "law.go:199", after := #[{ on := 19, ground := Ground.data }, { on := 11, ground := Ground.guard }], guard := some (11, false) }) (v := ?_) (by kernel_rfl) (by kernel_rfl) (hy := .inl ⟨by kernel_rfl, ?_⟩) (h := ?_)
     rotate_left
     ·intro W hSw; (try dsimp only at hSw); go_simp; first | done | with_reducible rfl
     try simp only [Act.put, List.setIfInBounds_toArray, List.set_cons_zero, List.set_cons_succ]
     refine take_at (i := 21) (d := 71) (oi := { dst := some 71, op := Op.load 70 (Operand.tmp 70), type := 70, pos := "law.go:199", after := #[{ on := 20, ground := Ground.data }, { on := 11, ground := Ground.guard }], guard := some (11, false) }) (v := ?_) (by kernel_rfl) (by kernel_rfl) (hy := .inl ⟨by kernel_rfl, ?_⟩) (h := ?_)
     rotate_left
     ·intro W hSw
      try dsimp only at hSw
      obtain ⟨y0, y1, y2, y3, y4⟩ := HYC.out _ hSw
      go_simp
      first | done | with_reducible rfl
     try simp only [Act.put, List.setIfInBounds_toArray, List.set_cons_zero, List.set_cons_succ]
     refine take_at (i := 22) (d := 72) (oi := { dst := some 72, op := Op.binOp BinOp.neq 70 (Operand.tmp 66) (Operand.tmp 71) 70, type := 4, pos := "law.go:199", after := #[{ on := 16, ground := Ground.data }, { on := 21, ground := Ground.data }, { on := 11, ground := Ground.guard }], guard := some (11, false) }) (v := ?_) (by kernel_rfl) (by kernel_rfl) (hy := .inl ⟨by kernel_rfl, ?_⟩) (h := ?_)
     rotate_left
     ·intro W hSw; (try dsimp only at hSw); go_simp; first | done | with_reducible rfl
     try simp only [Act.put, List.setIfInBounds_toArray, List.set_cons_zero, List.set_cons_succ]
     refine take_at (i := 23) (d := 73) (oi := { dst := some 73, op := Op.pick (Operand.tmp 61) (Operand.const (Value.bool true)) (Operand.tmp 72), type := 4, pos := "law.go:199", after := #[{ on := 11, ground := Ground.data }, { on := 22, ground := Ground.data }], guard := none }) (v := ?_) (by kernel_rfl) (by kernel_rfl) (hy := .inl ⟨by kernel_rfl, ?_⟩) (h := ?_)
     rotate_left
     ·intro W hSw; (try dsimp only at hSw); go_simp; first | done | with_reducible rfl
     try simp only [Act.put, List.setIfInBounds_toArray, List.set_cons_zero, List.set_cons_succ]
     refine take_at (i := 24) (d := 74) (oi := { dst := some 74, op := Op.move (Operand.tmp 73), type := 4, pos := "law.go:199", after := #[{ on := 23, ground := Ground.data }, { on := 11, ground := Ground.chain }], guard := none }) (v := ?_) (by kernel_rfl) (by kernel_rfl) (hy := .inl ⟨by kernel_rfl, ?_⟩) (h := ?_)
     rotate_left
     ·intro W hSw; (try dsimp only at hSw); go_simp; first | done | with_reducible rfl
     try simp only [Act.put, List.setIfInBounds_toArray, List.set_cons_zero, List.set_cons_succ]
     refine take_at (i := 25) (d := 75) (oi := { dst := some 75, op := Op.move (Operand.tmp 5), type := 65, pos := "law.go:199", after := #[{ on := 24, ground := Ground.guard }], guard := some (24, false) }) (v := ?_) (by kernel_rfl) (by kernel_rfl) (hy := .inl ⟨by kernel_rfl, ?_⟩) (h := ?_)
     rotate_left
     ·intro W hSw; (try dsimp only at hSw); go_simp; first | done | with_reducible rfl
     try simp only [Act.put, List.setIfInBounds_toArray, List.set_cons_zero, List.set_cons_succ]
     refine take_at (i := 26) (d := 76) (oi := { dst := some 76, op := Op.move (Operand.tmp 8), type := 3, pos := "law.go:199", after := #[{ on := 24, ground := Ground.guard }], guard := some (24, false) }) (v := ?_) (by kernel_rfl) (by kernel_rfl) (hy := .inl ⟨by kernel_rfl, ?_⟩) (h := ?_)
     rotate_left
     ·intro W hSw; (try dsimp only at hSw); go_simp; first | done | with_reducible rfl
     try simp only [Act.put, List.setIfInBounds_toArray, List.set_cons_zero, List.set_cons_succ]
     refine take_at (i := 27) (d := 77) (oi := { dst := some 77, op := Op.indexAddr 65 (Operand.tmp 75) (Operand.tmp 76), type := 0, pos := "law.go:199", after := #[{ on := 25, ground := Ground.data }, { on := 26, ground := Ground.data }, { on := 24, ground := Ground.guard }], guard := some (24, false) }) (v := ?_) (by kernel_rfl) (by kernel_rfl) (hy := .inl ⟨by kernel_rfl, ?_⟩) (h := ?_)
     rotate_left
     ·intro W hSw; (try dsimp only at hSw); go_simp; first | done | with_reducible rfl
     try simp only [Act.put, List.setIfInBounds_toArray, List.set_cons_zero, List.set_cons_succ]
     refine take_at (i := 28) (d := 78) (oi := { dst := some 78, op := Op.fieldAddr 72 (Operand.tmp 77) 2, type := 0, pos := "law.go:199", after := #[{ on := 27, ground := Ground.data }, { on := 24, ground := Ground.guard }], guard := some (24, false) }) (v := ?_) (by kernel_rfl) (by kernel_rfl) (hy := .inl ⟨by kernel_rfl, ?_⟩) (h := ?_)
     rotate_left
     ·intro W hSw; (try dsimp only at hSw); go_simp; first | done | with_reducible rfl
     try simp only [Act.put, List.setIfInBounds_toArray, List.set_cons_zero, List.set_cons_succ]
     refine take_at (i := 29) (d := 79) (oi := { dst := some 79, op := Op.load 70 (Operand.tmp 78), type := 70, pos := "law.go:199", after := #[{ on := 28, ground := Ground.data }, { on := 24, ground := Ground.guard }], guard := some (24, false) }) (v := ?_) (by kernel_rfl) (by kernel_rfl) (hy := .inl ⟨by kernel_rfl, ?_⟩) (h := ?_)
     rotate_left
     ·intro W hSw
      try dsimp only at hSw
      obtain ⟨x0, x1, x2, x3, x4⟩ := HXC.out _ hSw
      go_simp
      first | done | with_reducible rfl
     try simp only [Act.put, List.setIfInBounds_toArray, List.set_cons_zero, List.set_cons_succ]
     refine take_at (i := 30) (d := 80) (oi := { dst := some 80, op := Op.move (Operand.tmp 6), type := 65, pos := "law.go:199", after := #[{ on := 24, ground := Ground.guard }], guard := some (24, false) }) (v := ?_) (by kernel_rfl) (by kernel_rfl) (hy := .inl ⟨by kernel_rfl, ?_⟩) (h := ?_)
     rotate_left
     ·intro W hSw; (try dsimp only at hSw); go_simp; first | done | with_reducible rfl
     try simp only [Act.put, List.setIfInBounds_toArray, List.set_cons_zero, List.set_cons_succ]
     refine take_at (i := 31) (d := 81) (oi := { dst := some 81, op := Op.move (Operand.tmp 8), type := 3, pos := "law.go:199", after := #[{ on := 24, ground := Ground.guard }], guard := some (24, false) }) (v := ?_) (by kernel_rfl) (by kernel_rfl) (hy := .inl ⟨by kernel_rfl, ?_⟩) (h := ?_)
     rotate_left
     ·intro W hSw; (try dsimp only at hSw); go_simp; first | done | with_reducible rfl
     try simp only [Act.put, List.setIfInBounds_toArray, List.set_cons_zero, List.set_cons_succ]
     refine take_at (i := 32) (d := 82) (oi := { dst := some 82, op := Op.indexAddr 65 (Operand.tmp 80) (Operand.tmp 81), type := 0, pos := "law.go:199", after := #[{ on := 30, ground := Ground.data }, { on := 31, ground := Ground.data }, { on := 24, ground := Ground.guard }], guard := some (24, false) }) (v := ?_) (by kernel_rfl) (by kernel_rfl) (hy := .inl ⟨by kernel_rfl, ?_⟩) (h := ?_)
     rotate_left
     ·intro W hSw; (try dsimp only at hSw); go_simp; first | done | with_reducible rfl
     try simp only [Act.put, List.setIfInBounds_toArray, List.set_cons_zero, List.set_cons_succ]
     refine take_at (i := 33) (d := 83) (oi := { dst := some 83, op := Op.fieldAddr 72 (Operand.tmp 82) 1, type := 0, pos := "law.go:199", after := #[{ on := 32, ground := Ground.data }, { on := 24, ground := Ground.guard }], guard := some (24, false) }) (v := ?_) (by kernel_rfl) (by kernel_rfl) (hy := .inl ⟨by kernel_rfl, ?_⟩) (h := ?_)
     rotate_left
     ·intro W hSw; (try dsimp only at hSw); go_simp; first | done | with_reducible rfl
     try simp only [Act.put, List.setIfInBounds_toArray, List.set_cons_zero, List.set_cons_succ]
     refine take_at (i := 34) (d := 84) (oi := { dst := some 84, op := Op.load 70 (Operand.tmp 83), type := 70, pos := "law.go:199", after := #[{ on := 33, ground := Ground.data }, { on := 24, ground := Ground.guard }], guard := some (24, false) }) (v := ?_) (by kernel_rfl) (by kernel_rfl) (hy := .inl ⟨by kernel_rfl, ?_⟩) (h := ?_)
     rotate_left
     ·intro W hSw
      try dsimp only at hSw
      obtain ⟨y0, y1, y2, y3, y4⟩ := HYC.out _ hSw
      go_simp
      first | done | with_reducible rfl
     try simp only [Act.put, List.setIfInBounds_toArray, List.set_cons_zero, List.set_cons_succ]
     refine take_at (i := 35) (d := 85) (oi := { dst := some 85, op := Op.binOp BinOp.neq 70 (Operand.tmp 79) (Operand.tmp 84) 70, type := 4, pos := "law.go:199", after := #[{ on := 29, ground := Ground.data }, { on := 34, ground := Ground.data }, { on := 24, ground := Ground.guard }], guard := some (24, false) }) (v := ?_) (by kernel_rfl) (by kernel_rfl) (hy := .inl ⟨by kernel_rfl, ?_⟩) (h := ?_)
     rotate_left
     ·intro W hSw; (try dsimp only at hSw); go_simp; first | done | with_reducible rfl
     try simp only [Act.put, List.setIfInBounds_toArray, List.set_cons_zero, List.set_cons_succ]
     refine take_at (i := 36) (d := 86) (oi := { dst := some 86, op := Op.pick (Operand.tmp 74) (Operand.const (Value.bool true)) (Operand.tmp 85), type := 4, pos := "law.go:199", after := #[{ on := 24, ground := Ground.data }, { on := 35, ground := Ground.data }], guard := none }) (v := ?_) (by kernel_rfl) (by kernel_rfl) (hy := .inl ⟨by kernel_rfl, ?_⟩) (h := ?_)
     rotate_left
     ·intro W hSw; (try dsimp only at hSw); go_simp; first | done | with_reducible rfl
     try simp only [Act.put, List.setIfInBounds_toArray, List.set_cons_zero, List.set_cons_succ]
     refine take_at (i := 37) (d := 87) (oi := { dst := some 87, op := Op.move (Operand.tmp 86), type := 4, pos := "law.go:199", after := #[{ on := 36, ground := Ground.data }, { on := 24, ground := Ground.chain }], guard := none }) (v := ?_) (by kernel_rfl) (by kernel_rfl) (hy := .inl ⟨by kernel_rfl, ?_⟩) (h := ?_)
     rotate_left
     ·intro W hSw; (try dsimp only at hSw); go_simp; first | done | with_reducible rfl
     try simp only [Act.put, List.setIfInBounds_toArray, List.set_cons_zero, List.set_cons_succ]
     refine take_at (i := 38) (d := 88) (oi := { dst := some 88, op := Op.move (Operand.tmp 5), type := 65, pos := "law.go:199", after := #[{ on := 37, ground := Ground.guard }], guard := some (37, false) }) (v := ?_) (by kernel_rfl) (by kernel_rfl) (hy := .inl ⟨by kernel_rfl, ?_⟩) (h := ?_)
     rotate_left
     ·intro W hSw; (try dsimp only at hSw); go_simp; first | done | with_reducible rfl
     try simp only [Act.put, List.setIfInBounds_toArray, List.set_cons_zero, List.set_cons_succ]
     refine take_at (i := 39) (d := 89) (oi := { dst := some 89, op := Op.move (Operand.tmp 8), type := 3, pos := "law.go:199", after := #[{ on := 37, ground := Ground.guard }], guard := some (37, false) }) (v := ?_) (by kernel_rfl) (by kernel_rfl) (hy := .inl ⟨by kernel_rfl, ?_⟩) (h := ?_)
     rotate_left
     ·intro W hSw; (try dsimp only at hSw); go_simp; first | done | with_reducible rfl
     try simp only [Act.put, List.setIfInBounds_toArray, List.set_cons_zero, List.set_cons_succ]
     refine take_at (i := 40) (d := 90) (oi := { dst := some 90, op := Op.indexAddr 65 (Operand.tmp 88) (Operand.tmp 89), type := 0, pos := "law.go:199", after := #[{ on := 38, ground := Ground.data }, { on := 39, ground := Ground.data }, { on := 37, ground := Ground.guard }], guard := some (37, false) }) (v := ?_) (by kernel_rfl) (by kernel_rfl) (hy := .inl ⟨by kernel_rfl, ?_⟩) (h := ?_)
     rotate_left
     ·intro W hSw; (try dsimp only at hSw); go_simp; first | done | with_reducible rfl
     try simp only [Act.put, List.setIfInBounds_toArray, List.set_cons_zero, List.set_cons_succ]
     refine take_at (i := 41) (d := 91) (oi := { dst := some 91, op := Op.fieldAddr 72 (Operand.tmp 90) 1, type := 0, pos := "law.go:199", after := #[{ on := 40, ground := Ground.data }, { on := 37, ground := Ground.guard }], guard := some (37, false) }) (v := ?_) (by kernel_rfl) (by kernel_rfl) (hy := .inl ⟨by kernel_rfl, ?_⟩) (h := ?_)
     rotate_left
     ·intro W hSw; (try dsimp only at hSw); go_simp; first | done | with_reducible rfl
     try simp only [Act.put, List.setIfInBounds_toArray, List.set_cons_zero, List.set_cons_succ]
     refine take_at (i := 42) (d := 92) (oi := { dst := some 92, op := Op.load 70 (Operand.tmp 91), type := 70, pos := "law.go:199", after := #[{ on := 41, ground := Ground.data }, { on := 37, ground := Ground.guard }], guard := some (37, false) }) (v := ?_) (by kernel_rfl) (by kernel_rfl) (hy := .inl ⟨by kernel_rfl, ?_⟩) (h := ?_)
     rotate_left
     ·intro W hSw
      try dsimp only at hSw
      obtain ⟨x0, x1, x2, x3, x4⟩ := HXC.out _ hSw
      go_simp
      first | done | with_reducible rfl
     try simp only [Act.put, List.setIfInBounds_toArray, List.set_cons_zero, List.set_cons_succ]
     refine take_at (i := 43) (d := 93) (oi := { dst := some 93, op := Op.move (Operand.tmp 5), type := 65, pos := "law.go:199", after := #[{ on := 37, ground := Ground.guard }], guard := some (37, false) }) (v := ?_) (by kernel_rfl) (by kernel_rfl) (hy := .inl ⟨by kernel_rfl, ?_⟩) (h := ?_)
     rotate_left
     ·intro W hSw; (try dsimp only at hSw); go_simp; first | done | with_reducible rfl
     try simp only [Act.put, List.setIfInBounds_toArray, List.set_cons_zero, List.set_cons_succ]
     refine take_at (i := 44) (d := 94) (oi := { dst := some 94, op := Op.move (Operand.tmp 8), type := 3, pos := "law.go:199", after := #[{ on := 37, ground := Ground.guard }], guard := some (37, false) }) (v := ?_) (by kernel_rfl) (by kernel_rfl) (hy := .inl ⟨by kernel_rfl, ?_⟩) (h := ?_)
     rotate_left
     ·intro W hSw; (try dsimp only at hSw); go_simp; first | done | with_reducible rfl
     try simp only [Act.put, List.setIfInBounds_toArray, List.set_cons_zero, List.set_cons_succ]
     refine take_at (i := 45) (d := 95) (oi := { dst := some 95, op := Op.indexAddr 65 (Operand.tmp 93) (Operand.tmp 94), type := 0, pos := "law.go:199", after := #[{ on := 43, ground := Ground.data }, { on := 44, ground := Ground.data }, { on := 37, ground := Ground.guard }], guard := some (37, false) }) (v := ?_) (by kernel_rfl) (by kernel_rfl) (hy := .inl ⟨by kernel_rfl, ?_⟩) (h := ?_)
     rotate_left
     ·intro W hSw; (try dsimp only at hSw); go_simp; first | done | with_reducible rfl
     try simp only [Act.put, List.setIfInBounds_toArray, List.set_cons_zero, List.set_cons_succ]
     refine take_at (i := 46) (d := 96) (oi := { dst := some 96, op := Op.fieldAddr 72 (Operand.tmp 95) 2, type := 0, pos := "law.go:199", after := #[{ on := 45, ground := Ground.data }, { on := 37, ground := Ground.guard }], guard := some (37, false) }) (v := ?_) (by kernel_rfl) (by kernel_rfl) (hy := .inl ⟨by kernel_rfl, ?_⟩) (h := ?_)
     rotate_left
     ·intro W hSw; (try dsimp only at hSw); go_simp; first | done | with_reducible rfl
     try simp only [Act.put, List.setIfInBounds_toArray, List.set_cons_zero, List.set_cons_succ]
     refine take_at (i := 47) (d := 97) (oi := { dst := some 97, op := Op.load 70 (Operand.tmp 96), type := 70, pos := "law.go:199", after := #[{ on := 46, ground := Ground.data }, { on := 37, ground := Ground.guard }], guard := some (37, false) }) (v := ?_) (by kernel_rfl) (by kernel_rfl) (hy := .inl ⟨by kernel_rfl, ?_⟩) (h := ?_)
     rotate_left
     ·intro W hSw
      try dsimp only at hSw
      obtain ⟨x0, x1, x2, x3, x4⟩ := HXC.out _ hSw
      go_simp
      first | done | with_reducible rfl
     try simp only [Act.put, List.setIfInBounds_toArray, List.set_cons_zero, List.set_cons_succ]
     refine take_at (i := 48) (d := 98) (oi := { dst := some 98, op := Op.binOp BinOp.eql 70 (Operand.tmp 92) (Operand.tmp 97) 70, type := 4, pos := "law.go:199", after := #[{ on := 42, ground := Ground.data }, { on := 47, ground := Ground.data }, { on := 37, ground := Ground.guard }], guard := some (37, false) }) (v := ?_) (by kernel_rfl) (by kernel_rfl) (hy := .inl ⟨by kernel_rfl, ?_⟩) (h := ?_)
     rotate_left
     ·intro W hSw
      try dsimp only at hSw
      refine Eq.trans (by go_simp; exact ifs_no HNE3.out _ _) ?_
      go_simp
      first | done | with_reducible rfl
     try simp only [Act.put, List.setIfInBounds_toArray, List.set_cons_zero, List.set_cons_succ]
     refine take_at (i := 49) (d := 99) (oi := { dst := some 99, op := Op.pick (Operand.tmp 87) (Operand.const (Value.bool true)) (Operand.tmp 98), type := 4, pos := "law.go:199", after := #[{ on := 37, ground := Ground.data }, { on := 48, ground := Ground.data }], guard := none }) (v := ?_) (by kernel_rfl) (by kernel_rfl) (hy := .inl ⟨by kernel_rfl, ?_⟩) (h := ?_)
     rotate_left
     ·intro W hSw; (try dsimp only at hSw); go_simp; first | done | with_reducible rfl
     try simp only [Act.put, List.setIfInBounds_toArray, List.set_cons_zero, List.set_cons_succ]
     refine take_at (i := 50) (d := 100) (oi := { dst := some 100, op := Op.move (Operand.tmp 99), type := 4, pos := "law.go:199", after := #[{ on := 49, ground := Ground.data }, { on := 37, ground := Ground.chain }], guard := none }) (v := ?_) (by kernel_rfl) (by kernel_rfl) (hy := .inl ⟨by kernel_rfl, ?_⟩) (h := ?_)
     rotate_left
     ·intro W hSw; (try dsimp only at hSw); go_simp; first | done | with_reducible rfl
     try simp only [Act.put, List.setIfInBounds_toArray, List.set_cons_zero, List.set_cons_succ]
     refine take_at (i := 51) (d := 101) (oi := { dst := some 101, op := Op.move (Operand.tmp 8), type := 3, pos := "law.go:199", after := #[{ on := 50, ground := Ground.guard }], guard := some (50, false) }) (v := ?_) (by kernel_rfl) (by kernel_rfl) (hy := .inl ⟨by kernel_rfl, ?_⟩) (h := ?_)
     rotate_left
     ·intro W hSw; (try dsimp only at hSw); go_simp; first | done | with_reducible rfl
     try simp only [Act.put, List.setIfInBounds_toArray, List.set_cons_zero, List.set_cons_succ]
     refine take_at (i := 52) (d := 102) (oi := { dst := some 102, op := Op.binOp BinOp.gtr 3 (Operand.tmp 101) (Operand.const (Value.int IntKind.i64 0)) 3, type := 4, pos := "law.go:199", after := #[{ on := 51, ground := Ground.data }, { on := 50, ground := Ground.guard }], guard := some (50, false) }) (v := ?_) (by kernel_rfl) (by kernel_rfl) (hy := .inl ⟨by kernel_rfl, ?_⟩) (h := ?_)
     rotate_left
     ·intro W hSw; (try dsimp only at hSw); go_simp; first | done | with_reducible rfl
     try simp only [Act.put, List.setIfInBounds_toArray, List.set_cons_zero, List.set_cons_succ]
     refine take_at (i := 53) (d := 103) (oi := { dst := some 103, op := Op.move (Operand.tmp 102), type := 4, pos := "law.go:199", after := #[{ on := 52, ground := Ground.data }, { on := 50, ground := Ground.chain }, { on := 50, ground := Ground.guard }], guard := some (50, false) }) (v := ?_) (by kernel_rfl) (by kernel_rfl) (hy := .inl ⟨by kernel_rfl, ?_⟩) (h := ?_)
     rotate_left
     ·intro W hSw; (try dsimp only at hSw); go_simp; first | done | with_reducible rfl
     try simp only [Act.put, List.setIfInBounds_toArray, List.set_cons_zero, List.set_cons_succ]
     refine take_at (i := 54) (d := 104) (oi := { dst := some 104, op := Op.move (Operand.tmp 5), type := 65, pos := "law.go:199", after := #[{ on := 53, ground := Ground.guard }], guard := some (53, true) }) (v := ?_) (by kernel_rfl) (by kernel_rfl) (hy := .inl ⟨by kernel_rfl, ?_⟩) (h := ?_)
     rotate_left
     ·intro W hSw; (try dsimp only at hSw); go_simp; first | done | with_reducible rfl
     try simp only [Act.put, List.setIfInBounds_toArray, List.set_cons_zero, List.set_cons_succ]
     refine take_at (i := 55) (d := 105) (oi := { dst := some 105, op := Op.move (Operand.tmp 8), type := 3, pos := "law.go:199", after := #[{ on := 53, ground := Ground.guard }], guard := some (53, true) }) (v := ?_) (by kernel_rfl) (by kernel_rfl) (hy := .inl ⟨by kernel_rfl, ?_⟩) (h := ?_)
     rotate_left
     ·intro W hSw; (try dsimp only at hSw); go_simp; first | done | with_reducible rfl
     try simp only [Act.put, List.setIfInBounds_toArray, List.set_cons_zero, List.set_cons_succ]
     refine take_at (i := 56) (d := 106) (oi := { dst := some 106, op := Op.indexAddr 65 (Operand.tmp 104) (Operand.tmp 105), type := 0, pos := "law.go:199", after := #[{ on := 54, ground := Ground.data }, { on := 55, ground := Ground.data }, { on := 53, ground := Ground.guard }], guard := some (53, true) }) (v := ?_) (by kernel_rfl) (by kernel_rfl) (hy := .inl ⟨by kernel_rfl, ?_⟩) (h := ?_)
     rotate_left
     ·intro W hSw; (try dsimp only at hSw); go_simp; first | done | with_reducible rfl
     try simp only [Act.put, List.setIfInBounds_toArray, List.set_cons_zero, List.set_cons_succ]
     refine take_at (i := 57) (d := 107) (oi := { dst := some 107, op := Op.fieldAddr 72 (Operand.tmp 106) 0, type := 0, pos := "law.go:199", after := #[{ on := 56, ground := Ground.data }, { on := 53, ground := Ground.guard }], guard := some (53, true) }) (v := ?_) (by kernel_rfl) (by kernel_rfl) (hy := .inl ⟨by kernel_rfl, ?_⟩) (h := ?_)
     rotate_left
     ·intro W hSw; (try dsimp only at hSw); go_simp; first | done | with_reducible rfl
     try simp only [Act.put, List.setIfInBounds_toArray, List.set_cons_zero, List.set_cons_succ]
     refine take_at (i := 58) (d := 108) (oi := { dst := some 108, op := Op.load 9 (Operand.tmp 107), type := 9, pos := "law.go:199", after := #[{ on := 57, ground := Ground.data }, { on := 53, ground := Ground.guard }], guard := some (53, true) }) (v := ?_) (by kernel_rfl) (by kernel_rfl) (hy := .inl ⟨by kernel_rfl, ?_⟩) (h := ?_)
     rotate_left
     ·intro W hSw
      try dsimp only at hSw
      obtain ⟨x0, x1, x2, x3, x4⟩ := HXC.out _ hSw
      go_simp
      first | done | with_reducible rfl
     try simp only [Act.put, List.setIfInBounds_toArray, List.set_cons_zero, List.set_cons_succ]
     refine take_at (i := 59) (d := 109) (oi := { dst := some 109, op := Op.move (Operand.tmp 5), type := 65, pos := "law.go:199", after := #[{ on := 53, ground := Ground.guard }], guard := some (53, true) }) (v := ?_) (by kernel_rfl) (by kernel_rfl) (hy := .inl ⟨by kernel_rfl, ?_⟩) (h := ?_)
     rotate_left
     ·intro W hSw; (try dsimp only at hSw); go_simp; first | done | with_reducible rfl
     try simp only [Act.put, List.setIfInBounds_toArray, List.set_cons_zero, List.set_cons_succ]
     refine take_at (i := 60) (d := 110) (oi := { dst := some 110, op := Op.move (Operand.tmp 8), type := 3, pos := "law.go:199", after := #[{ on := 53, ground := Ground.guard }], guard := some (53, true) }) (v := ?_) (by kernel_rfl) (by kernel_rfl) (hy := .inl ⟨by kernel_rfl, ?_⟩) (h := ?_)
     rotate_left
     ·intro W hSw; (try dsimp only at hSw); go_simp; first | done | with_reducible rfl
     try simp only [Act.put, List.setIfInBounds_toArray, List.set_cons_zero, List.set_cons_succ]
     refine take_at (i := 61) (d := 111) (oi := { dst := some 111, op := Op.binOp BinOp.sub 3 (Operand.tmp 110) (Operand.const (Value.int IntKind.i64 1)) 3, type := 3, pos := "law.go:199", after := #[{ on := 60, ground := Ground.data }, { on := 53, ground := Ground.guard }], guard := some (53, true) }) (v := ?_) (by kernel_rfl) (by kernel_rfl) (hy := .inl ⟨by kernel_rfl, ?_⟩) (h := ?_)
     rotate_left
     ·intro W hSw; (try dsimp only at hSw); go_simp; first | done | with_reducible rfl
     try simp only [Act.put, List.setIfInBounds_toArray, List.set_cons_zero, List.set_cons_succ]
     refine take_at (i := 62) (d := 112) (oi := { dst := some 112, op := Op.indexAddr 65 (Operand.tmp 109) (Operand.tmp 111), type := 0, pos := "law.go:199", after := #[{ on := 59, ground := Ground.data }, { on := 61, ground := Ground.data }, { on := 53, ground := Ground.guard }], guard := some (53, true) }) (v := ?_) (by kernel_rfl) (by kernel_rfl) (hy := .inl ⟨by kernel_rfl, ?_⟩) (h := ?_)
     rotate_left
     ·intro W hSw; (try dsimp only at hSw); go_simp; first | done | with_reducible rfl
     try simp only [Act.put, List.setIfInBounds_toArray, List.set_cons_zero, List.set_cons_succ]
     refine take_at (i := 63) (d := 113) (oi := { dst := some 113, op := Op.fieldAddr 72 (Operand.tmp 112) 0, type := 0, pos := "law.go:199", after := #[{ on := 62, ground := Ground.data }, { on := 53, ground := Ground.guard }], guard := some (53, true) }) (v := ?_) (by kernel_rfl) (by kernel_rfl) (hy := .inl ⟨by kernel_rfl, ?_⟩) (h := ?_)
     rotate_left
     ·intro W hSw; (try dsimp only at hSw); go_simp; first | done | with_reducible rfl
     try simp only [Act.put, List.setIfInBounds_toArray, List.set_cons_zero, List.set_cons_succ]
     refine take_at (i := 64) (d := 114) (oi := { dst := some 114, op := Op.load 9 (Operand.tmp 113), type := 9, pos := "law.go:199", after := #[{ on := 63, ground := Ground.data }, { on := 53, ground := Ground.guard }], guard := some (53, true) }) (v := ?_) (by kernel_rfl) (by kernel_rfl) (hy := .inl ⟨by kernel_rfl, ?_⟩) (h := ?_)
     rotate_left
     ·intro W hSw
      try dsimp only at hSw
      have p0 := HPC.out _ hSw
      go_simp
      first | done | with_reducible rfl
     try simp only [Act.put, List.setIfInBounds_toArray, List.set_cons_zero, List.set_cons_succ]
     refine take_at (i := 65) (d := 115) (oi := { dst := some 115, op := Op.binOp BinOp.leq 9 (Operand.tmp 108) (Operand.tmp 114) 9, type := 4, pos := "law.go:199", after := #[{ on := 58, ground := Ground.data }, { on := 64, ground := Ground.data }, { on := 53, ground := Ground.guard }], guard := some (53, true) }) (v := ?_) (by kernel_rfl) (by kernel_rfl) (hy := .inl ⟨by kernel_rfl, ?_⟩) (h := ?_)
     rotate_left
     ·intro W hSw; (try dsimp only at hSw); go_simp; first | done | with_reducible rfl
     try simp only [Act.put, List.setIfInBounds_toArray, List.set_cons_zero, List.set_cons_succ]
     refine take_at (i := 66) (d := 116) (oi := { dst := some 116, op := Op.pick (Operand.tmp 103) (Operand.tmp 115) (Operand.const (Value.bool false)), type := 4, pos := "law.go:199", after := #[{ on := 53, ground := Ground.data }, { on := 65, ground := Ground.data }, { on := 50, ground := Ground.guard }], guard := some (50, false) }) (v := ?_) (by kernel_rfl) (by kernel_rfl) (hy := .inl ⟨by kernel_rfl, ?_⟩) (h := ?_)
     rotate_left
     ·intro W hSw; (try dsimp only at hSw); go_simp; first | done | with_reducible rfl
     try simp only [Act.put, List.setIfInBounds_toArray, List.set_cons_zero, List.set_cons_succ]
     refine take_at (i := 67) (d := 117) (oi := { dst := some 117, op := Op.pick (Operand.tmp 100) (Operand.const (Value.bool true)) (Operand.tmp 116), type := 4, pos := "law.go:199", after := #[{ on := 50, ground := Ground.data }, { on := 66, ground := Ground.data }], guard := none }) (v := ?_) (by kernel_rfl) (by kernel_rfl) (hy := .inl ⟨by kernel_rfl, ?_⟩) (h := ?_)
     rotate_left
     ·intro W hSw; (try dsimp only at hSw); go_simp; first | done | with_reducible rfl
     try simp only [Act.put, List.setIfInBounds_toArray, List.set_cons_zero, List.set_cons_succ]
     refine take_at (i := 68) (d := 118) (oi := { dst := some 118, op := Op.move (Operand.tmp 117), type := 4, pos := "law.go:199", after := #[{ on := 67, ground := Ground.data }, { on := 53, ground := Ground.chain }], guard := none }) (v := ?_) (by kernel_rfl) (by kernel_rfl) (hy := .inl ⟨by kernel_rfl, ?_⟩) (h := ?_)
     rotate_left
     ·intro W hSw; (try dsimp only at hSw); go_simp; first | done | with_reducible rfl
     try simp only [Act.put, List.setIfInBounds_toArray, List.set_cons_zero, List.set_cons_succ]
     refine take_at (i := 69) (d := 119) (oi := { dst := some 119, op := Op.move (Operand.tmp 0), type := 51, pos := "law.go:199", after := #[{ on := 68, ground := Ground.guard }], guard := some (68, false) }) (v := ?_) (by kernel_rfl) (by kernel_rfl) (hy := .inl ⟨by kernel_rfl, ?_⟩) (h := ?_)
     rotate_left
     ·intro W hSw; (try dsimp only at hSw); go_simp; first | done | with_reducible rfl
     try simp only [Act.put, List.setIfInBounds_toArray, List.set_cons_zero, List.set_cons_succ]
     refine take_at (i := 70) (d := 120) (oi := { dst := some 120, op := Op.move (Operand.tmp 5), type := 65, pos := "law.go:199", after := #[{ on := 68, ground := Ground.guard }], guard := some (68, false) }) (v := ?_) (by kernel_rfl) (by kernel_rfl) (hy := .inl ⟨by kernel_rfl, ?_⟩) (h := ?_)
     rotate_left
     ·intro W hSw; (try dsimp only at hSw); go_simp; first | done | with_reducible rfl
     try simp only [Act.put, List.setIfInBounds_toArray, List.set_cons_zero, List.set_cons_succ]
     refine take_at (i := 71) (d := 121) (oi := { dst := some 121, op := Op.move (Operand.tmp 8), type := 3, pos := "law.go:199", after := #[{ on := 68, ground := Ground.guard }], guard := some (68, false) }) (v := ?_) (by kernel_rfl) (by kernel_rfl) (hy := .inl ⟨by kernel_rfl, ?_⟩) (h := ?_)
     rotate_left
     ·intro W hSw; (try dsimp only at hSw); go_simp; first | done | with_reducible rfl
     try simp only [Act.put, List.setIfInBounds_toArray, List.set_cons_zero, List.set_cons_succ]
     refine take_at (i := 72) (d := 122) (oi := { dst := some 122, op := Op.indexAddr 65 (Operand.tmp 120) (Operand.tmp 121), type := 0, pos := "law.go:199", after := #[{ on := 70, ground := Ground.data }, { on := 71, ground := Ground.data }, { on := 68, ground := Ground.guard }], guard := some (68, false) }) (v := ?_) (by kernel_rfl) (by kernel_rfl) (hy := .inl ⟨by kernel_rfl, ?_⟩) (h := ?_)
     rotate_left
     ·intro W hSw; (try dsimp only at hSw); go_simp; first | done | with_reducible rfl
     try simp only [Act.put, List.setIfInBounds_toArray, List.set_cons_zero, List.set_cons_succ]
     refine take_at (i := 73) (d := 123) (oi := { dst := some 123, op := Op.fieldAddr 72 (Operand.tmp 122) 0, type := 0, pos := "law.go:199", after := #[{ on := 72, ground := Ground.data }, { on := 68, ground := Ground.guard }], guard := some (68, false) }) (v := ?_) (by kernel_rfl) (by kernel_rfl) (hy := .inl ⟨by kernel_rfl, ?_⟩) (h := ?_)
     rotate_left
     ·intro W hSw; (try dsimp only at hSw); go_simp; first | done | with_reducible rfl
     try simp only [Act.put, List.setIfInBounds_toArray, List.set_cons_zero, List.set_cons_succ]
     refine take_at (i := 74) (d := 124) (oi := { dst := some 124, op := Op.load 9 (Operand.tmp 123), type := 9, pos := "law.go:199", after := #[{ on := 73, ground := Ground.data }, { on := 68, ground := Ground.guard }], guard := some (68, false) }) (v := ?_) (by kernel_rfl) (by kernel_rfl) (hy := .inl ⟨by kernel_rfl, ?_⟩) (h := ?_)
     rotate_left
     ·intro W hSw
      try dsimp only at hSw
      obtain ⟨x0, x1, x2, x3, x4⟩ := HXC.out _ hSw
      go_simp
      first | done | with_reducible rfl
     try simp only [Act.put, List.setIfInBounds_toArray, List.set_cons_zero, List.set_cons_succ]
     refine take_at (i := 76) (d := 126) (oi := { dst := some 126, op := Op.move (Operand.tmp 5), type := 65, pos := "law.go:199", after := #[{ on := 68, ground := Ground.guard }], guard := some (68, false) }) (v := ?_) (by kernel_rfl) (by kernel_rfl) (hy := .inl ⟨by kernel_rfl, ?_⟩) (h := ?_)
     rotate_left
     ·intro W hSw; (try dsimp only at hSw); go_simp; first | done | with_reducible rfl
     try simp only [Act.put, List.setIfInBounds_toArray, List.set_cons_zero, List.set_cons_succ]
     refine take_at (i := 77) (d := 127) (oi := { dst := some 127, op := Op.move (Operand.tmp 8), type := 3, pos := "law.go:199", after := #[{ on := 68, ground := Ground.guard }], guard := some (68, false) }) (v := ?_) (by kernel_rfl) (by kernel_rfl) (hy := .inl ⟨by kernel_rfl, ?_⟩) (h := ?_)
     rotate_left
     ·intro W hSw; (try dsimp only at hSw); go_simp; first | done | with_reducible rfl
     try simp only [Act.put, List.setIfInBounds_toArray, List.set_cons_zero, List.set_cons_succ]
     refine take_at (i := 78) (d := 128) (oi := { dst := some 128, op := Op.indexAddr 65 (Operand.tmp 126) (Operand.tmp 127), type := 0, pos := "law.go:199", after := #[{ on := 76, ground := Ground.data }, { on := 77, ground := Ground.data }, { on := 68, ground := Ground.guard }], guard := some (68, false) }) (v := ?_) (by kernel_rfl) (by kernel_rfl) (hy := .inl ⟨by kernel_rfl, ?_⟩) (h := ?_)
     rotate_left
     ·intro W hSw; (try dsimp only at hSw); go_simp; first | done | with_reducible rfl
     try simp only [Act.put, List.setIfInBounds_toArray, List.set_cons_zero, List.set_cons_succ]
     refine take_at (i := 79) (d := 129) (oi := { dst := some 129, op := Op.fieldAddr 72 (Operand.tmp 128) 1, type := 0, pos := "law.go:199", after := #[{ on := 78, ground := Ground.data }, { on := 68, ground := Ground.guard }], guard := some (68, false) }) (v := ?_) (by kernel_rfl) (by kernel_rfl) (hy := .inl ⟨by kernel_rfl, ?_⟩) (h := ?_)
     rotate_left
     ·intro W hSw; (try dsimp only at hSw); go_simp; first | done | with_reducible rfl
     try simp only [Act.put, List.setIfInBounds_toArray, List.set_cons_zero, List.set_cons_succ]
     refine take_at (i := 80) (d := 130) (oi := { dst := some 130, op := Op.load 70 (Operand.tmp 129), type := 70, pos := "law.go:199", after := #[{ on := 79, ground := Ground.data }, { on := 68, ground := Ground.guard }], guard := some (68, false) }) (v := ?_) (by kernel_rfl) (by kernel_rfl) (hy := .inl ⟨by kernel_rfl, ?_⟩) (h := ?_)
     rotate_left
     ·intro W hSw
      try dsimp only at hSw
      obtain ⟨x0, x1, x2, x3, x4⟩ := HXC.out _ hSw
      go_simp
      first | done | with_reducible rfl
     try simp only [Act.put, List.setIfInBounds_toArray, List.set_cons_zero, List.set_cons_succ]
     refine wpAnyH_ready (rs := [75]) (by kernel_rfl) (by simp) (AllReadyH.cons (o := { dst := some 125, op := Op.call { callee := Callee.value (Operand.func 28), args := #[Operand.tmp 119, Operand.tmp 124], argTypes := #[51, 9] }, type := 70, pos := "law.go:199", after := #[{ on := 69, ground := Ground.data }, { on := 74, ground := Ground.data }, { on := 68, ground := Ground.chain }, { on := 68, ground := Ground.guard }], guard := some (68, false) }) (by kernel_rfl) (fun K hK => ?_) AllReadyH.nil)
     go_simp
     refine (rget_any v1 a rp _ (H1.out.below (HALL.out _ HZ.out))).mono ?_
     rw [show GetP a rp wr.drew = fun e w' => e = .returned (entV (getM a rp)) ∧ Below (wr.drew).heap.size (wr.drew) w' from rfl, HGE.out]
     unfold entV
     dsimp only
     rintro e wg ⟨rfl, hb⟩
     replace HZ := Lib.hid (HZ.out.trans (hb.mono HZ.out.size))
     clear hb
     try go_wp2_with fail
     refine hK.out _ _ ?_ (fun hHeld => ?_)
     ·(try dsimp only); exact HZ.out
     clear hK K
     try simp only [Act.put, List.setIfInBounds_toArray, List.set_cons_zero, List.set_cons_succ]
     refine take_at (i := 81) (d := 131) (oi := { dst := some 131, op := Op.binOp BinOp.neq 70 (Operand.tmp 125) (Operand.tmp 130) 70, type := 4, pos := "law.go:199", after := #[{ on := 75, ground := Ground.data }, { on := 80, ground := Ground.data }, { on := 68, ground := Ground.guard }], guard := some (68, false) }) (v := ?_) (by kernel_rfl) (by kernel_rfl) (hy := .inl ⟨by kernel_rfl, ?_⟩) (h := ?_)
     rotate_left
     ·intro W hSw; (try dsimp only at hSw); go_simp; first | done | with_reducible rfl
     try simp only [Act.put, List.setIfInBounds_toArray, List.set_cons_zero, List.set_cons_succ]
     refine take_at (i := 82) (d := 132) (oi := { dst := some 132, op := Op.pick (Operand.tmp 118) (Operand.const (Value.bool true)) (Operand.tmp 131), type := 4, pos := "law.go:199", after := #[{ on := 68, ground := Ground.data }, { on := 81, ground := Ground.data }], guard := none }) (v := ?_) (by kernel_rfl) (by kernel_rfl) (hy := .inl ⟨by kernel_rfl, ?_⟩) (h := ?_)
     rotate_left
     ·intro W hSw; (try dsimp only at hSw); go_simp; first | done | with_reducible rfl
     try simp only [Act.put, List.setIfInBounds_toArray, List.set_cons_zero, List.set_cons_succ]
     refine wpAnyH_done (by kernel_rfl) ?_ _
     go_upto_region 14 with (fail)
     replace HZ := Lib.hid (HZ.out.drew)
     refine wp_region_held_drew (S := (fun W : World => Below wr.heap.size wr W)) (by kernel_rfl) ?_ (fun hHeld => ?_)
     ·(try dsimp only); exact HZ.out
     refine take_at (i := 0) (d := 133) (v := ?_) rfl (by kernel_rfl) (hy := .inl ⟨by kernel_rfl, ?_⟩) (h := ?_)
     rotate_left
     ·intro W hSw; (try dsimp only at hSw); go_simp; first | done | with_reducible rfl
     try simp only [Act.put, List.setIfInBounds_toArray, List.set_cons_zero, List.set_cons_succ]
     refine take_at (i := 1) (d := 134) (v := ?_) rfl (by kernel_rfl) (hy := .inl ⟨by kernel_rfl, ?_⟩) (h := ?_)
     rotate_left
     ·intro W hSw; (try dsimp only at hSw); go_simp; first | done | with_reducible rfl
     try simp only [Act.put, List.setIfInBounds_toArray, List.set_cons_zero, List.set_cons_succ]
     refine take_at (i := 2) (d := 135) (v := ?_) rfl (by kernel_rfl) (hy := .inl ⟨by kernel_rfl, ?_⟩) (h := ?_)
     rotate_left
     ·intro W hSw; (try dsimp only at hSw); go_simp; first | done | with_reducible rfl
     try simp only [Act.put, List.setIfInBounds_toArray, List.set_cons_zero, List.set_cons_succ]
     refine take_at (i := 3) (d := 136) (v := ?_) rfl (by kernel_rfl) (hy := .inl ⟨by kernel_rfl, ?_⟩) (h := ?_)
     rotate_left
     ·intro W hSw; (try dsimp only at hSw); go_simp; first | done | with_reducible rfl
     try simp only [Act.put, List.setIfInBounds_toArray, List.set_cons_zero, List.set_cons_succ]
     refine take_at (i := 4) (d := 137) (v := ?_) rfl (by kernel_rfl) (hy := .inl ⟨by kernel_rfl, ?_⟩) (h := ?_)
     rotate_left
     ·intro W hSw; (try dsimp only at hSw); go_simp; first | done | with_reducible rfl
     try simp only [Act.put, List.setIfInBounds_toArray, List.set_cons_zero, List.set_cons_succ]
     refine take_at (i := 5) (d := 138) (v := ?_) rfl (by kernel_rfl) (hy := .inl ⟨by kernel_rfl, ?_⟩) (h := ?_)
     rotate_left
     ·intro W hSw
      try dsimp only at hSw
      obtain ⟨x0, x1, x2, x3, x4⟩ := HXC.out _ hSw
      go_simp
      first | done | with_reducible rfl
     try simp only [Act.put, List.setIfInBounds_toArray, List.set_cons_zero, List.set_cons_succ]
     refine take_at (i := 6) (d := 139) (v := ?_) rfl (by kernel_rfl) (hy := .inl ⟨by kernel_rfl, ?_⟩) (h := ?_)
     rotate_left
     ·intro W hSw; (try dsimp only at hSw); go_simp; first | done | with_reducible rfl
     try simp only [Act.put, List.setIfInBounds_toArray, List.set_cons_zero, List.set_cons_succ]
     refine take_at (i := 7) (d := 140) (v := ?_) rfl (by kernel_rfl) (hy := .inl ⟨by kernel_rfl, ?_⟩) (h := ?_)
     rotate_left
     ·intro W hSw; (try dsimp only at hSw); go_simp; first | done | with_reducible rfl
     try simp only [Act.put, List.setIfInBounds_toArray, List.set_cons_zero, List.set_cons_succ]
     refine take_at (i := 8) (d := 141) (v := ?_) rfl (by kernel_rfl) (hy := .inl ⟨by kernel_rfl, ?_⟩) (h := ?_)
     rotate_left
     ·intro W hSw; (try dsimp only at hSw); go_simp; first | done | with_reducible rfl
     try simp only [Act.put, List.setIfInBounds_toArray, List.set_cons_zero, List.set_cons_succ]
     refine take_at (i := 9) (d := 142) (v := ?_) rfl (by kernel_rfl) (hy := .inl ⟨by kernel_rfl, ?_⟩) (h := ?_)
     rotate_left
     ·intro W hSw; (try dsimp only at hSw); go_simp; first | done | with_reducible rfl
     try simp only [Act.put, List.setIfInBounds_toArray, List.set_cons_zero, List.set_cons_succ]
     refine take_at (i := 10) (d := 143) (v := ?_) rfl (by kernel_rfl) (hy := .inl ⟨by kernel_rfl, ?_⟩) (h := ?_)
     rotate_left
     ·intro W hSw
      try dsimp only at hSw
      obtain ⟨x0, x1, x2, x3, x4⟩ := HXC.out _ hSw
      go_simp
      first | done | with_reducible rfl
     try simp only [Act.put, List.setIfInBounds_toArray, List.set_cons_zero, List.set_cons_succ]
     refine wpAnyH_ready (rs := [11]) (by kernel_rfl) (by simp) (AllReadyH.cons rfl (fun K hK => ?_) AllReadyH.nil)
     go_simp
     refine (rset_any u7 _ rp nm ni _ (HOV.out.below HZ.out) HLEN.out).mono ?_
     rintro e ws ⟨v9, rfl, ho9, hb⟩
     replace HZ := Lib.hid (HZ.out.trans (hb.mono HZ.out.size))
     have HO9 := Lib.hid ho9.slR
     clear ho9 hb
     try go_wp2_with fail
     refine hK.out _ _ ?_ (fun hHeld => ?_)
     ·(try dsimp only); exact HZ.out
     clear hK K
     try simp only [Act.put, List.setIfInBounds_toArray, List.set_cons_zero, List.set_cons_succ]
     refine take_at (i := 12) (d := 7) (v := ?_) rfl (by kernel_rfl) (hy := .inl ⟨by kernel_rfl, ?_⟩) (h := ?_)
     rotate_left
     ·intro W hSw; (try dsimp only at hSw); go_simp; first | done | with_reducible rfl
     try simp only [Act.put, List.setIfInBounds_toArray, List.set_cons_zero, List.set_cons_succ]
     refine wpAnyH_done (by kernel_rfl) ?_ _
     try go_wp2_with fail
     go_roundw
     case rel => exact ⟨i + 1, v9, by omega, rfl, by go_num, by rw [HNX.out]; exact HO9.out, HBW.out _ HZ.out⟩
     case measure => simp [intOf]; omega
    exact auxb1
  ·obtain rfl : i = N := by omega
   have HT : Hid (S.take i = S) := List.take_of_length_le (Nat.le_of_eq HN.out)
   have HB9 := Lib.hid (HB8.out.trans (HB.out.mono HB8.out.size))
   go_wp2_with fail
   refine (xfirst_any wr).mono ?_
   rintro e w9 ⟨rfl, hb9⟩
   have hn := HOV.out.below hb9
   rw [HT.out, HDO.out] at hn
   have HN9 := Lib.hid hn
   have HB10 := Lib.hid (HB9.out.trans (hb9.mono HB9.out.size))
   clear hb9 hn
   go_wp2_with fail
   refine (rrows_same _ v2 b w9 HN9.out (H2.out.below HB10.out)).mono ?_
   rintro e w10 ⟨rfl, hb10⟩
   have HB11 := Lib.hid (HB10.out.trans (hb10.mono HB10.out.size))
   clear hb10
   go_wp2_with fail
   go_ret
   exact ⟨rfl, HB11.out⟩
end Go.Proofs.YtbenkmihkbjgeaaGreat.Tx
