/- Texts put together: Fx2. -/
import Derived.Test.YtfmlnodhbojdpaaGreatQc07
/- The reference's file system: may, without. -/
namespace Go.Proofs.YtfmlnodhbojdpaaGreat.Tx
open Go.RowKit Go.Proofs.YtfmlnodhbojdpaaGreat.Sh

theorem info_row : (Tryz.prog.info? 174).map (fun i => (i.zero, i.size, i.bytes)) = some (some (.agg #[.string ⟨#[]⟩, .int .i64 0, .slice none 0 0, .int .i64 0]), 4, 56) := by kernel_rfl
/-- Rows of one's own, in a block that is not of F; rows to be read, wherever they lie. -/
def RowsOwn (F : Nat → Prop) (w : World) (B : Nat) (v : Value) (R : List RowM) : Prop := (∃ ds, w.ownsRow B 174 4 v R.length (rowsC R ds) ∧ Datas F w ds (R.map fun r => r.f.data)) ∧ ∀ k, v.ownBlock = some k → ¬ F k
def RowsTmp (F : Nat → Prop) (w : World) (v : Value) (R : List RowM) : Prop := ∃ ds, Rd (fun _ => True) w 4 v R.length (rowsC R ds) ∧ Datas F w ds (R.map fun r => r.f.data)
theorem RowsIn.tmp {F : Nat → Prop} {w : World} {v : Value} {R : List RowM} (h : RowsIn F w v R) : RowsTmp F w v R := by
  obtain ⟨ds, h1, h2⟩ := h
  exact ⟨ds, h1.mono (fun _ _ _ => trivial), h2⟩
theorem RowsOwn.nil_ (F : Nat → Prop) (w : World) (B : Nat) : RowsOwn F w B (.slice none 0 0) [] := ⟨⟨[], World.ownsRow_nil w B _ 4, Datas.nil_⟩, fun k h => by cases h⟩
theorem RowsOwn.alloc {F : Nat → Prop} {w : World} {B : Nat} {v : Value} {R : List RowM} (h : RowsOwn F w B v R) (o : Obj) : RowsOwn F (w.alloc o) B v R := by
  obtain ⟨⟨ds, h1, h2⟩, h3⟩ := h
  exact ⟨⟨ds, h1.alloc o, h2.only ((Only.refl (fun _ => False) w).alloc o) (fun _ _ => id)⟩, h3⟩
theorem rowsC_snoc {R : List RowM} {ds : List Value} (h : ds.length = R.length) (r : RowM) (d : Value) : rowsC (R ++ [r]) (ds ++ [d]) = rowsC R ds ++ rowC r d := by
  unfold rowsC
  rw [List.zipWith_append h.symm, List.flatten_append]
  simp
theorem rowsC_app {R S : List RowM} {ds es : List Value} (h : ds.length = R.length) : rowsC (R ++ S) (ds ++ es) = rowsC R ds ++ rowsC S es := by
  unfold rowsC
  rw [List.zipWith_append h.symm, List.flatten_append]
theorem append_rows {ops : Array Oper} {rest : List Oper} {o : Oper} {a : Act} {Q : Exit → Act → World → Prop} (hgd : o.guard = none) (s x : Operand)
    (ho : o.op = .call { callee := .builtin .append, args := #[s, x], argTypes := #[100, 100] }) (F : Nat → Prop) (w : World) (B : Nat) (v : Value) (R : List RowM) (hs : a.eval s = v) (hown : RowsOwn F w B v R)
    (ex : Value) (S : List RowM) (hx : a.eval x = ex) (hr : RowsTmp F w ex S) (hsmall : R.length + S.length ≤ 2000000) (hB : B ≤ w.heap.size) (hF : ∀ k, F k → k < w.heap.size)
    (h : ∀ v' w', RowsOwn F w' B v' (R ++ S) → w.grownBy w' v.ownBlock → Below B w w' → wpList Tryz.prog ops Q rest (a.put o.dst v') w') : wpList Tryz.prog ops Q (o :: rest) a w := by
  obtain ⟨i0, hi, hz0, hz1, hz2⟩ := info_parts info_row
  obtain ⟨⟨ds, hown', hds⟩, hne⟩ := hown
  obtain ⟨es, hrd, hes⟩ := hr
  obtain ⟨A, c, rfl, h1, h2, hrr⟩ := hrd.reads
  refine wpList_append_any w hgd s x 100 ho B 174 i0 _ 4 56 Tryz.underlying100 hi hz0 hz1 hz2 rfl (by decide) v R.length _ hs hown' w.heap.size A S.length c _ hx hrr (rowsC_one hes.one) (by unfold maxLen; omega) (by omega) hB ?_
  intro v' w' g1 g2 g3
  have hb : Below B w w' := (Below.refl _ _).grown g2 hB (fun k hk => (hown'.lt k hk).1)
  have ho : Only (fun k => v.ownBlock = some k) w w' := ⟨g2.os, g2.tape, g2.output, g2.size, fun k hk hn => g2.block k hk (fun e => hn e.symm)⟩
  refine h v' w' ⟨⟨ds ++ es, ?_, ?_⟩, fun k hk => ?_⟩ g2 hb
  · rw [List.length_append, rowsC_app (by rw [hds.1]; simp)]
    exact g1
  · rw [List.map_append]
    exact (hds.only ho (fun k hk he => hne k he hk)).app (hes.only ho (fun k hk he => hne k he hk))
  · rcases g3 with g3 | g3
    · exact hne k (by rw [← g3]; exact hk)
    · rw [g3] at hk
      injection hk with hk
      intro hf
      have := hF k hf
      omega
/-- A row is read whole. -/
theorem RowsIn.load {F : Nat → Prop} {w : World} {A : Option Addr} {n c : Nat} {R : List RowM} (h : RowsIn F w (.slice A n c) R) (k : Nat) (r : RowM) (hk : R[k]? = some r) :
    ∃ (ad : Addr) (d : Value), A = some ad ∧ By F w d r.f.data ∧ w.cell? (ad.add (k * 4)) = some (.string (str r.path)) ∧ (Instr.loadAt 174 (.pointer (some (ad.add (k * 4))))).run Tryz.prog w = .ok (.agg #[.string (str r.path), .int .i64 r.f.mode, d, .int .i64 r.f.time]) w := by
  obtain ⟨ds, ⟨A', c', hv, _, _, _, _, h5⟩, hd⟩ := h
  injection hv with e1 e2 e3
  subst e1
  have hkl := (List.getElem?_eq_some_iff.1 hk).1
  obtain ⟨ad, hA, _, _, hc⟩ := h5 (by omega)
  obtain ⟨d, hdk, hby⟩ := hd.at_ (i := k) (bs := r.f.data) (by rw [List.getElem?_map, hk]; rfl)
  refine ⟨ad, d, hA, hby, hc (k * 4 + 0) _ (rowsC_at hk hdk 0 _ rfl), ?_⟩
  exact run_loadAt_at w (ad.add (k * 4)) 174 (rowC r d) _ (fun j v hv => by rw [add_of_add]; exact hc _ v (rowsC_at hk hdk j v hv)) Tryz.underlying174 rfl (by kernel_rfl)
/-- The row that is made of a literal's one element. -/
theorem rows_new (F : Nat → Prop) (w : World) (r : RowM) (d : Value) (hd : By F w d r.f.data) : RowsTmp F (w.alloc (.cells #[.string (str r.path), .int .i64 r.f.mode, d, .int .i64 r.f.time] 174)) (.slice (some ⟨w.heap.size, 0, none⟩) 1 1) [r] := by
  refine ⟨[d], ⟨some ⟨w.heap.size, 0, none⟩, 1, rfl, Nat.le_refl _, by unfold maxLen; omega, rfl, (fun e => by cases e), fun _ => ⟨_, rfl, trivial, by simp, fun j u hu => ?_⟩⟩, ?_⟩
  · rw [Addr.add_mid, cell_of_row _ _ _ _ 174 (0, 0) (heap_alloc_new w _), Nat.zero_add, ← hu]
    simp [rowsC, rowC, iv, List.getElem?_toArray]
  · refine ⟨rfl, fun i e b h1 h2 => ?_⟩
    have hi : i = 0 := by have := (List.getElem?_eq_some_iff.1 h1).1; simpa using this
    subst hi
    simp at h1 h2
    subst h1 h2
    exact (hd.only ((Only.refl (fun _ => False) w).alloc _) (fun _ _ => id))

set_option maxRecDepth 100000 in
set_option maxHeartbeats 400000 in
theorem rmay_any (F : Nat → Prop) (v : Value) (R : List RowM) (p : List UInt8) (w : World) (h : RowsIn F w v R) (hp : p.length ≤ 1000000) (hR : ∀ r ∈ R, r.path.length ≤ 1000000) : Calls Tryz.prog 178 #[v, .string (str p)] w (BoolPost w (mayM R p)) := by
  obtain ⟨A, c, rfl, hlc, hcm⟩ := h.slice
  unfold maxLen at hcm
  have H := Lib.hid h
  have HLEN := Lib.hid hR
  obtain ⟨n, hN⟩ : ∃ n, R.length = n := ⟨_, rfl⟩
  rw [hN] at hlc H ⊢
  have HN := Lib.hid hN
  clear h hN hR
  go_enter Tryz.func178, Tryz.ntmps178
  go_wp2
  go_loopw [5] (fun i wr => ∃ k : Nat, k ≤ n ∧ i = .int .i64 k ∧ (∀ (j : Nat) (x : RowM), j < k → R[j]? = some x → (underB p x.path || underB x.path p) = false) ∧ Below w.heap.size w wr) (fun i _ => n - (intOf i).toNat)
  case atStart => exact ⟨0, Nat.zero_le _, rfl, fun j x hj => by omega, Below.refl _ _⟩
  case round =>
    obtain ⟨k, hk, rfl, hno, hb⟩ := hrel
    have HNO := Lib.hid hno
    have HB := Lib.hid hb
    have hwz := hb.size
    have k0 : (0 : Int) ≤ (k : Int) := by omega
    clear hno hb
    by_cases hlt : k < n
    · have k1 : (k : Int) < (n : Int) := by omega
      obtain ⟨r, hr⟩ : ∃ r, R[k]? = some r := ⟨_, List.getElem?_eq_getElem (by rw [HN.out]; exact hlt)⟩
      obtain ⟨ad, d, rfl, _, hc0, _, _, _⟩ := (H.out.below HB.out).at_ k r hr
      have hrl : r.path.length ≤ 1000000 := HLEN.out r (List.mem_of_getElem? hr)
      have HR := Lib.hid hr
      obtain ⟨t1, ht1⟩ : ∃ t, underB p r.path = t := ⟨_, rfl⟩
      obtain ⟨t2, ht2⟩ : ∃ t, underB r.path p = t := ⟨_, rfl⟩
      have HT1 := Lib.hid ht1
      have HT2 := Lib.hid ht2
      clear hr ht1 ht2
      go_wp2_with fail
      refine (runder_any p r.path _ hp hrl).mono ?_
      rintro e w2 ⟨rfl, hb2⟩
      rw [HT1.out]
      have HB2 := Lib.hid (HB.out.trans (hb2.mono hwz))
      clear hb2
      cases t1 with
      | true =>
        have HM : Hid (mayM R p = false) := by
          unfold Hid mayM
          rw [List.all_eq_false]
          exact ⟨r, List.mem_of_getElem? HR.out, by rw [HT1.out]; simp⟩
        go_wp2
        go_ret
        exact ⟨by rw [HM.out]; rfl, HB2.out⟩
      | false =>
        have hwz2 := HB2.out.size
        obtain ⟨ad', d', hA, _, hc0', _, _, _⟩ := (H.out.below HB2.out).at_ k r HR.out
        injection hA with hA
        subst hA
        go_wp2_with fail
        refine (runder_any r.path p _ hrl hp).mono ?_
        rintro e w3 ⟨rfl, hb3⟩
        rw [HT2.out]
        have HB3 := Lib.hid (HB2.out.trans (hb3.mono hwz2))
        clear hb3
        cases t2 with
        | true =>
          have HM : Hid (mayM R p = false) := by
            unfold Hid mayM
            rw [List.all_eq_false]
            exact ⟨r, List.mem_of_getElem? HR.out, by rw [HT2.out]; simp⟩
          go_wp2
          go_ret
          exact ⟨by rw [HM.out]; rfl, HB3.out⟩
        | false =>
          go_wp2
          go_roundw
          case rel =>
            refine ⟨k + 1, by omega, by go_num, fun j x hj hx => ?_, HB3.out⟩
            by_cases e : j = k
            · subst e; rw [HR.out] at hx; injection hx with hx; rw [← hx, HT1.out, HT2.out]; rfl
            · exact HNO.out j x (by omega) hx
          case measure => simp [intOf]; omega
    · have HM : Hid (mayM R p = true) := by
        unfold Hid mayM
        rw [List.all_eq_true]
        intro x hx
        obtain ⟨i, hi, rfl⟩ := List.getElem_of_mem hx
        rw [HNO.out i _ (by rw [HN.out] at hi; omega) (List.getElem?_eq_getElem hi)]
        rfl
      go_wp2
      go_ret
      exact ⟨by rw [HM.out]; rfl, HB.out⟩

theorem without_take {R : List RowM} {p : List UInt8} {k : Nat} {r : RowM} (h : R[k]? = some r) : withoutM (R.take (k + 1)) p = withoutM (R.take k) p ++ (if r.path = p then [] else [r]) := by
  obtain ⟨hl, e⟩ := List.getElem?_eq_some_iff.1 h
  unfold withoutM
  rw [List.take_succ_eq_append_getElem hl, e, List.filter_append]
  by_cases hp : r.path = p
  · simp [hp]
  · simp [hp]
theorem without_le (R : List RowM) (p : List UInt8) : (withoutM R p).length ≤ R.length := List.length_filter_le _ _

set_option maxRecDepth 100000 in
set_option maxHeartbeats 800000 in
theorem rwithout_any (F : Nat → Prop) (v : Value) (R : List RowM) (p : List UInt8) (w : World) (h : RowsIn F w v R) (hn : R.length ≤ 1000000) (hF : ∀ k, F k → k < w.heap.size) :
    Calls Tryz.prog 180 #[v, .string (str p)] w fun e w' => ∃ v', e = .returned v' ∧ RowsOwn F w' w.heap.size v' (withoutM R p) ∧ Below w.heap.size w w' := by
  obtain ⟨A, c, rfl, hlc, hcm⟩ := h.slice
  unfold maxLen at hcm
  have H := Lib.hid h
  have HF := Lib.hid hF
  obtain ⟨n, hN⟩ : ∃ n, R.length = n := ⟨_, rfl⟩
  rw [hN] at hlc hn H ⊢
  have HN := Lib.hid hN
  clear h hN hF
  go_enter Tryz.func180, Tryz.ntmps180
  go_wp2
  go_loopw [5, 6] (fun v i wr => ∃ k : Nat, k ≤ n ∧ i = .int .i64 k ∧ RowsOwn F wr w.heap.size v (withoutM (R.take k) p) ∧ Below w.heap.size w wr) (fun _ i _ => n - (intOf i).toNat)
  case atStart => exact ⟨0, Nat.zero_le _, rfl, RowsOwn.nil_ _ _ _, Below.refl _ _⟩
  case round =>
    obtain ⟨k, hk, rfl, ho, hb⟩ := hrel
    have HO := Lib.hid ho
    have HB := Lib.hid hb
    have hwz := hb.size
    have k0 : (0 : Int) ≤ (k : Int) := by omega
    clear ho hb
    by_cases hlt : k < n
    · have k1 : (k : Int) < (n : Int) := by omega
      obtain ⟨r, hr⟩ : ∃ r, R[k]? = some r := ⟨_, List.getElem?_eq_getElem (by rw [HN.out]; exact hlt)⟩
      obtain ⟨ad, d, rfl, hby, hc0, hc1, hc2, hc3⟩ := (H.out.below HB.out).at_ k r hr
      have HX := Lib.hid (without_take (p := p) hr)
      have HBY := Lib.hid hby
      clear hr hby
      by_cases he : r.path = p
      · have e1 := str_eq' he
        have HX2 : Hid (withoutM (R.take (k + 1)) p = withoutM (R.take k) p) := by unfold Hid; rw [HX.out, if_pos he, List.append_nil]
        clear he
        go_wp2
        go_roundw
        case rel => exact ⟨k + 1, by omega, by go_num, by rw [HX2.out]; exact HO.out, HB.out⟩
        case measure => simp [intOf]; omega
      · have e1 := str_ne he
        have HX2 : Hid (withoutM (R.take (k + 1)) p = withoutM (R.take k) p ++ [r]) := by unfold Hid; rw [HX.out, if_neg he]
        clear he
        have HN1 := Lib.hid (rows_new F wr r d HBY.out)
        have hsm : (withoutM (R.take k) p).length + [r].length ≤ 2000000 := by have := without_le (R.take k) p; have h2 := List.length_take_le k R; simp; omega
        have HOW := Lib.hid (HO.out.alloc (.cells #[.string (str r.path), .int .i64 r.f.mode, d, .int .i64 r.f.time] 174))
        have hz1 : w.heap.size ≤ (wr.alloc (.cells #[.string (str r.path), .int .i64 r.f.mode, d, .int .i64 r.f.time] 174)).heap.size := by simp; omega
        have HFB : Hid (∀ k, F k → k < (wr.alloc (.cells #[.string (str r.path), .int .i64 r.f.mode, d, .int .i64 r.f.time] 174)).heap.size) := fun k hk => by have := HF.out k hk; simp; omega
        go_wp2_with (at_builtin; refine append_rows rfl (.tmp 20) (.tmp 25) rfl _ _ w.heap.size u5 _ rfl HOW.out _ [r] rfl HN1.out hsm hz1 HFB.out ?_; intro v3 w3 ho3 hg3 hb3; have HO3 := Lib.hid ho3; have HB3 := Lib.hid hb3; clear ho3 hg3 hb3)
        go_roundw
        case rel => exact ⟨k + 1, by omega, by go_num, by rw [HX2.out]; exact HO3.out, (HB.out.alloc hwz _).trans HB3.out⟩
        case measure => simp [intOf]; omega
    · have hT : Hid (R.take k = R) := List.take_of_length_le (by rw [HN.out]; omega)
      go_wp2
      go_ret
      exact ⟨u5, rfl, by have := HO.out; rw [hT.out] at this; exact this, HB.out⟩
end Go.Proofs.YtfmlnodhbojdpaaGreat.Tx
