/- Texts put together: VOo0, VSe0. -/
import Derived.Test.YtbenkmihkbjgeaaGreatQv31
/- Operations in a row of one's own. -/
set_option linter.unusedVariables false
set_option linter.unusedSimpArgs false
namespace Go.Proofs.YtbenkmihkbjgeaaGreat.Tx
open Go.RowKit Go.Maps Go.Proofs.YtbenkmihkbjgeaaGreat.Sh
theorem info_op : (Tryz.prog.info? 48).map (fun i => (i.zero, i.size, i.bytes)) = some (some (.agg #[.int .i64 0, .int .i64 0, .int .i64 0, .int .i64 0, .string ⟨#[]⟩, .string ⟨#[]⟩, .slice none 0 0, .slice none 0 0]), 8, 112) := by kernel_rfl
structure OpS where
 o : LOp
 d : Value
 p : Value
def opC (t : OpS) : List Value := [.int .i64 t.o.kind, .int .i64 t.o.mode, .int .i64 t.o.keep, .int .i64 t.o.torn, .string (str t.o.path), .string (str t.o.dest), t.d, t.p]
def flatO (l : List OpS) : List Value := (l.map opC).flatten
theorem flatO_app (l m : List OpS) : flatO (l ++ m) = flatO l ++ flatO m := by unfold flatO; rw [List.map_append, List.flatten_append]
theorem flatO_at {l : List OpS} {k : Nat} {t : OpS} (h : l[k]? = some t) (j : Nat) (u : Value) (hu : (opC t)[j]? = some u) : (flatO l)[k * 8 + j]? = some u := by
 refine flat_at (m := 8) (fun x hx => ?_) k _ (by rw [List.getElem?_map, h]; rfl) j u hu
 obtain ⟨t, _, rfl⟩ := List.mem_map.1 hx
 rfl
def calmB (o : LOp) : Bool := decide (o.kind ≤ 7) && decide (0 ≤ o.kind)
structure OwnO (G : Nat → Prop) (w : World) (B : Nat) (v : Value) (els : List OpS) : Prop where
 row : w.ownsRow B 48 8 v els.length (flatO els)
 data : ∀ t ∈ els, By G w t.d t.o.data
 plan : ∀ t ∈ els, InL evK G w t.p t.o.plan
theorem OwnO.nil_ (G : Nat → Prop) (w : World) (B : Nat) : OwnO G w B (.slice none 0 0) [] := ⟨World.ownsRow_nil w B _ _, fun _ h => (List.not_mem_nil h).elim, fun _ h => (List.not_mem_nil h).elim⟩
theorem OwnO.slice {G : Nat → Prop} {w : World} {B : Nat} {v : Value} {els : List OpS} (h : OwnO G w B v els) : ∃ A c, v = .slice A els.length c ∧ els.length ≤ c ∧ c ≤ maxLen := by
 rcases h.row.2 with ⟨rfl, h0⟩ | ⟨g, cap, cur, rfl, _, _, hc, hm, _⟩
 ·exact ⟨none, 0, by rw [h0], by rw [h0]; exact Nat.zero_le _, by unfold maxLen; omega⟩
 ·exact ⟨_, cap, rfl, hc, hm⟩
theorem OwnO.below {G : Nat → Prop} {w w' : World} {B : Nat} {v : Value} {els : List OpS} (h : OwnO G w B v els) (hb : Below w.heap.size w w') : OwnO G w' B v els := by
 refine ⟨?_, fun t ht => (h.data t ht).only (Only.of_below (M := fun _ => False) hb) (fun _ _ => id), fun t ht => (h.plan t ht).below hb⟩
 refine ⟨h.row.1, h.row.2.imp id fun ⟨g, cap, cur, a1, a2, a3, a4⟩ => ⟨g, cap, cur, a1, a2, ?_, a4⟩⟩
 exact (hb.block g (Array.getElem?_eq_some_iff.1 a3).1).trans a3
theorem OwnO.ops {G G' : Nat → Prop} {w : World} {B : Nat} {v : Value} {els : List OpS} (h : OwnO G w B v els) (hG : ∀ k, G k → G' k) (hn : ∀ k, B ≤ k → k < w.heap.size → G' k) : OpsF G' w v (els.map OpS.o) := by
 obtain ⟨A, c, hv, hc, hm⟩ := h.slice
 have hlen : (els.map OpS.o).length = els.length := List.length_map _
 refine ⟨A, c, by rw [hlen]; exact hv, by rw [hlen]; exact hc, hm, fun k o hk => ?_⟩
 rw [List.getElem?_map] at hk
 cases he : els[k]? with
 | none => rw [he] at hk; cases hk
 | some t =>
  rw [he] at hk
  injection hk with hk
  subst hk
  have hmem := List.mem_of_getElem? he
  have hlt := (List.getElem?_eq_some_iff.1 he).1
  rcases h.row.2 with ⟨_, h0⟩ | ⟨g, cap, cur, hv2, hB, hg, _⟩
  ·omega
  ·have e1 := hv.symm.trans hv2
   injection e1 with e1 _ _
   have hgl := (Array.getElem?_eq_some_iff.1 hg).1
   have hcell : ∀ j u, (opC t)[j]? = some u → w.cell? ((⟨g, 0, none⟩ : Addr).add (k * 8 + j)) = some u := fun j u hu => h.row.cells (g := g) (by rw [hv2]; rfl) _ _ (flatO_at he j u hu)
   have hf : ∀ j u, 0 < j → (opC t)[j]? = some u → w.cell? ⟨((⟨g, 0, none⟩ : Addr).add (k * 8)).block, ((⟨g, 0, none⟩ : Addr).add (k * 8)).off + j, none⟩ = some u := fun j u hj hu => by
    rw [← add_field _ _ j hj]; exact hcell j u hu
   refine ⟨⟨g, 0, none⟩, t.d, t.p, e1, hn g hB hgl, hgl, (h.data t hmem).mono (fun k _ hk => hG k hk), (h.plan t hmem).mono (fun k _ hk => hG k hk), hcell 0 _ rfl, hf 1 _ (by decide) rfl, hf 2 _ (by decide) rfl, hf 3 _ (by decide) rfl, hf 4 _ (by decide) rfl, hf 5 _ (by decide) rfl, hf 6 _ (by decide) rfl, hf 7 _ (by decide) rfl⟩
theorem own_app {ops : Array Oper} {rest : List Oper} {o : Oper} {a : Act} {Q : Exit → Act → World → Prop} (hgd : o.guard = none) (s x : Operand)
  (ho : o.op = .call { callee := .builtin .append, args := #[s, x], argTypes := #[81, 81] }) {G : Nat → Prop} {w : World} {B : Nat} {v : Value} {els : List OpS} {t : OpS} {g : Nat} (hown : OwnO G w B v els) (hg : Blk w g 48 (opC t).toArray) (hd : By G w t.d t.o.data) (hp : InL evK G w t.p t.o.plan)
  (hs : a.eval s = v) (hx : a.eval x = .slice (some ⟨g, 0, none⟩) 1 1) (hsmall : els.length ≤ 1000000) (hB : B ≤ w.heap.size) (hG : ∀ k, G k → k < B)
  (h : ∀ v' w', OwnO G w' B v' (els ++ [t]) → w.grownBy w' v.ownBlock → wpList Tryz.prog ops Q rest (a.put o.dst v') w') : wpList Tryz.prog ops Q (o :: rest) a w := by
 obtain ⟨i0, hi, hz0, hz1, hz2⟩ := info_parts info_op
 have hd1 : t.d.oneCell' = true := by obtain ⟨A, c, e, _⟩ := hd.slice; rw [e]; rfl
 have hp1 : t.p.oneCell' = true := by obtain ⟨A, c, e, _⟩ := evs_slice hp.tmp; rw [e]; rfl
 have hone : ∀ u ∈ opC t, u.oneCell' = true := by
  intro u hu
  unfold opC at hu
  simp only [List.mem_cons, List.not_mem_nil, or_false] at hu
  rcases hu with rfl | rfl | rfl | rfl | rfl | rfl | rfl | rfl <;> first | rfl | exact hd1 | exact hp1
 have hr : Reads w w.heap.size 8 (some ⟨g, 0, none⟩) 1 (opC t) := ⟨rfl, fun _ => ⟨⟨g, 0, none⟩, rfl, hg.lt, fun j u hu => by
  rw [Addr.add_mid, Nat.zero_add, hg.cell, ← hu]
  simp⟩⟩
 refine wpList_append_any w hgd s x 81 ho B 48 i0 _ 8 112 Tryz.underlying81 hi hz0 hz1 hz2 rfl (by decide) v els.length _ hs hown.row w.heap.size _ 1 1 _ hx hr hone (by unfold maxLen; omega) (Nat.le_trans (Nat.mul_le_mul_right 112 (show els.length + 1 ≤ 1000001 by omega)) (by decide)) hB ?_
 intro v' w' g1 g2 g3
 have hon : Only (fun k => v.ownBlock = some k) w w' := ⟨g2.os, g2.tape, g2.output, g2.size, fun k hk hn => g2.block k hk (fun e => hn e.symm)⟩
 have hap : ∀ k, G k → ¬ (v.ownBlock = some k) := fun k hk e => by
  have := (hown.row.lt k e).1
  have := hG k hk
  omega
 refine h v' w' ⟨?_, fun q hq => ?_, fun q hq => ?_⟩ g2
 ·rw [List.length_append, flatO_app]
  have e : flatO [t] = opC t := by unfold flatO; simp
  rw [e]
  exact g1
 ·rcases List.mem_append.1 hq with hq | hq
  ·exact (hown.data q hq).only hon hap
  ·rw [List.mem_singleton.1 hq]; exact hd.only hon hap
 ·rcases List.mem_append.1 hq with hq | hq
  ·exact (hown.plan q hq).only hon hap
  ·rw [List.mem_singleton.1 hq]; exact hp.only hon hap
end Go.Proofs.YtbenkmihkbjgeaaGreat.Tx
/- marlaw13's operations in memory; Few. (mk_se0.py wrote it.) -/
set_option linter.unusedVariables false
set_option linter.unusedSimpArgs false
namespace Go.Proofs.YtbenkmihkbjgeaaGreat.Tx
open Go.RowKit Go.Maps Go.Proofs.YtbenkmihkbjgeaaGreat.Sh
structure SOp where
 kind : Int
 f : LOp
structure SOpCells (G : Nat → Prop) (w : World) (a : Addr) (o : SOp) (dv pv : Value) : Prop where
 data : By G w dv o.f.data
 plan : InL evK G w pv o.f.plan
 kind : w.cell? a = some (.int .i64 o.kind)
 fkind : w.cell? ⟨a.block, a.off + 1, none⟩ = some (.int .i64 o.f.kind)
 mode : w.cell? ⟨a.block, a.off + 2, none⟩ = some (.int .i64 o.f.mode)
 keep : w.cell? ⟨a.block, a.off + 3, none⟩ = some (.int .i64 o.f.keep)
 torn : w.cell? ⟨a.block, a.off + 4, none⟩ = some (.int .i64 o.f.torn)
 path : w.cell? ⟨a.block, a.off + 5, none⟩ = some (.string (str o.f.path))
 dest : w.cell? ⟨a.block, a.off + 6, none⟩ = some (.string (str o.f.dest))
 dcell : w.cell? ⟨a.block, a.off + 7, none⟩ = some dv
 pcell : w.cell? ⟨a.block, a.off + 8, none⟩ = some pv
def OpsS (G : Nat → Prop) (w : World) (v : Value) (l : List SOp) : Prop := ∃ A c, v = .slice A l.length c ∧ l.length ≤ c ∧ c ≤ maxLen ∧ ∀ k o, l[k]? = some o → ∃ ad dv pv, A = some ad ∧ G ad.block ∧ ad.block < w.heap.size ∧ SOpCells G w (ad.add (k * 9)) o dv pv
theorem SOpCells.only {G M : Nat → Prop} {w w' : World} {a : Addr} {o : SOp} {dv pv : Value} (h : SOpCells G w a o dv pv) (ho : Only M w w') (hG : ∀ k, G k → ¬ M k) (ha : G a.block) (hl : a.block < w.heap.size) : SOpCells G w' a o dv pv := by
 have hn := hG _ ha
 exact ⟨h.data.only ho hG, h.plan.only ho hG, (ho.cell hl hn).trans h.kind, (ho.cell (p := ⟨a.block, a.off + 1, none⟩) hl hn).trans h.fkind, (ho.cell (p := ⟨a.block, a.off + 2, none⟩) hl hn).trans h.mode, (ho.cell (p := ⟨a.block, a.off + 3, none⟩) hl hn).trans h.keep, (ho.cell (p := ⟨a.block, a.off + 4, none⟩) hl hn).trans h.torn, (ho.cell (p := ⟨a.block, a.off + 5, none⟩) hl hn).trans h.path, (ho.cell (p := ⟨a.block, a.off + 6, none⟩) hl hn).trans h.dest, (ho.cell (p := ⟨a.block, a.off + 7, none⟩) hl hn).trans h.dcell, (ho.cell (p := ⟨a.block, a.off + 8, none⟩) hl hn).trans h.pcell⟩
theorem OpsS.only {G M : Nat → Prop} {w w' : World} {v : Value} {l : List SOp} (h : OpsS G w v l) (ho : Only M w w') (hG : ∀ k, G k → ¬ M k) : OpsS G w' v l := by
 obtain ⟨A, c, h1, h2, h3, h4⟩ := h
 refine ⟨A, c, h1, h2, h3, fun k o hk => ?_⟩
 obtain ⟨ad, dv, pv, e, g1, g2, g3⟩ := h4 k o hk
 exact ⟨ad, dv, pv, e, g1, Nat.lt_of_lt_of_le g2 ho.size, g3.only ho hG (by rw [addr_block]; exact g1) (by rw [addr_block]; exact g2)⟩
theorem OpsS.below {G : Nat → Prop} {w w' : World} {v : Value} {l : List SOp} (h : OpsS G w v l) (hb : Below w.heap.size w w') : OpsS G w' v l := h.only (Only.of_below (M := fun _ => False) hb) (fun _ _ => id)
def SFewPost (l : List SOp) (w : World) (e : Ending) (w' : World) : Prop := ∃ t, e = .returned (.bool t) ∧ (t = true → l.length ≤ 60 ∧ ∀ o ∈ l, OpFew o.f) ∧ Below w.heap.size w w'
set_option maxRecDepth 100000 in
set_option maxHeartbeats 6400000 in
theorem xfew_any (G : Nat → Prop) (v : Value) (l : List SOp) (w : World) (h : OpsS G w v l) (hG : ∀ k, G k → k < w.heap.size) :
  Calls Tryz.prog 8 #[v] w (SFewPost l w) := by
 have HL := Lib.hid h
 have HG := Lib.hid hG
 obtain ⟨A, c, rfl, hlc, hcm, _⟩ := h
 obtain ⟨n, hnn⟩ : ∃ n, l.length = n := ⟨_, rfl⟩
 have HN := Lib.hid hnn
 rw [hnn] at hlc HL ⊢
 unfold maxLen at hcm
 clear hnn hG
 go_enter Tryz.func8, Tryz.ntmps8
 go_wp2
 go_loopw [3, 4] (fun u i wr => ∃ (k : Nat) (els : List OpS), k ≤ n ∧ k ≤ 60 ∧ i = .int .i64 k ∧ OwnO G wr w.heap.size u els ∧ els.map OpS.o = (l.take k).map SOp.f ∧ els.length = k ∧ Below w.heap.size w wr) (fun _ i _ => n - (intOf i).toNat)
 case atStart => exact ⟨0, [], Nat.zero_le _, Nat.zero_le _, rfl, OwnO.nil_ _ _ _, rfl, rfl, Below.refl _ _⟩
 case round =>
  obtain ⟨k, els, hk, hk6, rfl, ho, hm, hel, hb⟩ := hrel
  obtain ⟨A1, c1, hu3, _, _⟩ := ho.slice
  subst hu3
  rw [hel] at ho ⊢
  have HO := Lib.hid ho
  have HB := Lib.hid hb
  have HM := Lib.hid hm
  have HEL := Lib.hid hel
  clear ho hb hm hel
  have k0 : (0 : Int) ≤ (k : Int) := by omega
  by_cases hlt : k < n
  ·have k1 : (k : Int) < (n : Int) := by omega
   by_cases h60 : k < 60
   ·have k6 : (k : Int) < 60 := by omega
    have hkl : k < l.length := by rw [HN.out]; exact hlt
    obtain ⟨A', c', hv, _, _, hat⟩ := HL.out.below HB.out
    injection hv with e1 e2 e3
    subst e1
    clear e2 e3
    obtain ⟨ad, dv, pv, rfl, hGa, hal, hoc⟩ := hat k l[k] (List.getElem?_eq_getElem hkl)
    clear hat
    have HX := Lib.hid (show l.take (k + 1) = l.take k ++ [l[k]] from List.take_succ_eq_append_getElem hkl)
    generalize l[k] = o at *
    clear hkl hGa hal
    obtain ⟨rk, fo⟩ := o
    obtain ⟨kd, mo, ke, tn', pa, de, da, pl⟩ := fo
    obtain ⟨hdv, hplan, x0, x1, x2, x3, x4, x5, x6, x7, x8⟩ := hoc
    dsimp only at x0 x1 x2 x3 x4 x5 x6 x7 x8 hdv hplan
    obtain ⟨dA, dc, rfl, _, _⟩ := hdv.slice
    obtain ⟨pA, pc, rfl, _, _⟩ := evs_slice hplan.tmp
    have hwa : Below wr.heap.size wr (wr.alloc (.cells #[.int .i64 kd, .int .i64 mo, .int .i64 ke, .int .i64 tn', .string (str pa), .string (str de), .slice dA da.length dc, .slice pA pl.length pc] 48)) := (Below.refl _ _).alloc (Nat.le_refl _) _
    have HWA := Lib.hid hwa
    have HOA := Lib.hid (HO.out.below hwa)
    have HBK : Hid (Blk (wr.alloc (.cells #[.int .i64 kd, .int .i64 mo, .int .i64 ke, .int .i64 tn', .string (str pa), .string (str de), .slice dA da.length dc, .slice pA pl.length pc] 48)) wr.heap.size 48 (opC ⟨⟨kd, mo, ke, tn', pa, de, da, pl⟩, .slice dA da.length dc, .slice pA pl.length pc⟩).toArray) := Blk.new _ _ _
    have HDA := Lib.hid (hdv.only (Only.of_below (M := fun _ => False) hwa) (fun _ _ => id))
    have HPA := Lib.hid (hplan.below hwa)
    have HZ : Hid (w.heap.size ≤ (wr.alloc (.cells #[.int .i64 kd, .int .i64 mo, .int .i64 ke, .int .i64 tn', .string (str pa), .string (str de), .slice dA da.length dc, .slice pA pl.length pc] 48)).heap.size) := Nat.le_trans HB.out.size hwa.size
    have HLT : Hid (∀ q, (Value.slice A1 k c1).ownBlock = some q → w.heap.size ≤ q) := fun q hq => (HO.out.row.lt q hq).1
    have HSM : Hid (els.length ≤ 1000000) := by unfold Hid; rw [HEL.out]; omega
    clear hwa hdv hplan
    go_wp2_with (at_builtin; refine own_app (t := ⟨⟨kd, mo, ke, tn', pa, de, da, pl⟩, .slice dA da.length dc, .slice pA pl.length pc⟩) (g := wr.heap.size) (v := .slice A1 k c1) rfl (.tmp 15) (.tmp 21) rfl (by exact HOA.out) (by exact HBK.out) (by exact HDA.out) (by exact HPA.out) (by rfl) (by rfl) HSM.out (by exact HZ.out) (by exact HG.out) ?_; intro v5 w5 ho5 hg5; have HO5 := Lib.hid ho5; have HG5 := Lib.hid hg5; clear ho5 hg5)
    go_roundw
    case rel =>
     refine ⟨k + 1, _, by omega, by omega, by go_num, HO5.out, ?_, by rw [List.length_append, List.length_singleton, HEL.out], ?_⟩
     ·rw [HX.out, List.map_append, List.map_append, HM.out]
      rfl
     ·exact (HB.out.trans (HWA.out.mono HB.out.size)).grown HG5.out HZ.out (fun j hj => HLT.out j hj)
    case measure => simp [intOf]; omega
   ·obtain rfl : k = 60 := by omega
    have k6 : ¬ ((60 : Nat) : Int) < 60 := by omega
    have kn : ¬ ((n : Int) ≤ 60) := by omega
    go_wp2_with fail
    go_ret
    exact ⟨false, rfl, fun h => (by cases h), HB.out⟩
  ·obtain rfl : k = n := by omega
   have kn : ((k : Int) ≤ 60) := by omega
   have HF : Hid (els.map OpS.o = l.map SOp.f) := by
    have h1 := HM.out
    rw [List.take_of_length_le (Nat.le_of_eq HN.out)] at h1
    exact h1
   have HOP := Lib.hid (HO.out.ops (G' := fun _ => True) (fun _ _ => trivial) (fun _ _ _ => trivial))
   go_wp2_with fail
   refine (few_any (fun _ => True) _ (els.map OpS.o) wr (by have h := HOP.out; exact h)).mono ?_
   rintro e w4 ⟨t, rfl, ht, hb4⟩
   have HB4 := Lib.hid (HB.out.trans (hb4.mono HB.out.size))
   have HT := Lib.hid ht
   clear hb4 ht
   go_wp2_with fail
   go_ret
   refine ⟨t, rfl, fun h => ?_, HB4.out⟩
   have h1 := (HT.out h).2
   rw [HF.out] at h1
   exact ⟨by rw [HN.out]; exact hk6, fun o ho => h1 _ (List.mem_map.2 ⟨o, ho, rfl⟩)⟩
end Go.Proofs.YtbenkmihkbjgeaaGreat.Tx
