/- Texts put together: WGw9, WGp0, WGp1, WGd6, WGe2, WGe3. -/
import Derived.Test.YtpfjlhpahmhkhaaGreatQf37
import Derived.Test.YtpfjlhpahmhkhaaGreatQf38
import Derived.Test.YtpfjlhpahmhkhaaGreatQf35
import Derived.IntWalk
/- Package fsim: Plan. -/
set_option linter.unusedVariables false
set_option linter.unusedSimpArgs false
namespace Go.Proofs.YtpfjlhpahmhkhaaGreat.Wk
open Go.Shelf Go.RowKit Go.Lib Go.Sort

theorem typesAs : TypesAs Tryz.prog 7 := ⟨by kernel_rfl, by kernel_rfl, fun w => by kernel_rfl, fun w => by kernel_rfl, by kernel_rfl, fun w => by kernel_rfl, fun w => by kernel_rfl, by kernel_rfl, fun w => by kernel_rfl, fun w => by kernel_rfl, by kernel_rfl, fun w => by kernel_rfl, fun w => by kernel_rfl, fun w => by kernel_rfl, fun w => by kernel_rfl⟩
/-- An event with the value of its data, as an element of a row. -/
def toS (e : Tx.EvM) (d : Value) : EvS := match d with
  | .slice A n c => ⟨e, A, n, c⟩
  | _ => ⟨e, none, 0, 0⟩
theorem toS_e (e : Tx.EvM) (d : Value) : (toS e d).e = e := by unfold toS; split <;> rfl
theorem toS_d {e : Tx.EvM} {d : Value} {A : Option Addr} {n c : Nat} (h : d = .slice A n c) : (toS e d).d = d := by subst h; rfl
def rowS (l : List Tx.EvM) (ds : List Value) : Array EvS := (List.zipWith toS l ds).toArray
theorem rowS_size {l : List Tx.EvM} {ds : List Value} (h : ds.length = l.length) : (rowS l ds).size = l.length := by unfold rowS; simp [h]
theorem rowS_at {l : List Tx.EvM} {ds : List Value} {i : Nat} {e : Tx.EvM} {d : Value} (he : l[i]? = some e) (hd : ds[i]? = some d) : (rowS l ds)[i]! = toS e d := by
  have h1 : (rowS l ds)[i]? = some (toS e d) := by
    rw [← Array.getElem?_toList]
    show (List.zipWith toS l ds)[i]? = _
    rw [List.getElem?_zipWith, he, hd]
  obtain ⟨hi, e1⟩ := Array.getElem?_eq_some_iff.1 h1
  rw [getElem!_pos (rowS l ds) i hi]
  exact e1
theorem rowS_list (l : List Tx.EvM) : ∀ (ds : List Value), ds.length = l.length → (rowS l ds).toList.map EvS.e = l := by
  induction l with
  | nil => intro ds _; rfl
  | cons e l ih =>
    intro ds h
    cases ds with
    | nil => simp at h
    | cons d ds =>
      have := ih ds (by simpa using h)
      unfold rowS at this ⊢
      simp only [List.zipWith_cons_cons, List.map_cons, toS_e]
      rw [show List.map EvS.e (List.zipWith toS l ds) = l from this]
/-- An event whose data lie in N. -/
def EvIn (N : Nat → Prop) (w : World) (x : EvS) : Prop := Tx.By N w x.d x.e.data
/-- Events in a row of one's own, as the sort's row. -/
theorem row_of_own {N : Nat → Prop} {w : World} {B g n c : Nat} {l : List Tx.EvM} (h : Tx.OwnL Tx.evK 143 N w B (.slice (some ⟨g, 0, none⟩) n c) l) :
    ∃ d : Array EvS, d.toList.map EvS.e = l ∧ RowK encE 7 w g 0 d ∧ (∀ i, i < d.size → EvIn N w d[i]!) ∧ B ≤ g ∧ ¬ N g ∧ l.length ≤ c ∧ c ≤ maxLen := by
  obtain ⟨⟨ds, h1, h2⟩, h3⟩ := h
  have hl : ds.length = l.length := h2.1.trans (List.length_map _)
  have hby : ∀ (i : Nat) (e : Tx.EvM) (d : Value), l[i]? = some e → ds[i]? = some d → Tx.By N w d e.data := fun i e d he hd => h2.2 i d (Tx.EvM.data e) hd ((List.getElem?_map (f := fun e : Tx.EvM => e.data) (l := l) (i := i)).trans (by rw [he]; rfl))
  have hsl : ∀ (i : Nat) (e : Tx.EvM) (d : Value), l[i]? = some e → ds[i]? = some d → (toS e d).d = d := fun i e d he hd => by
    obtain ⟨A, k, hv, _⟩ := (hby i e d he hd).slice
    exact toS_d hv
  rcases h1.2 with ⟨e0, _⟩ | ⟨g', cap, cur, hv, hb, hg, hlc, hcm, _, _⟩
  · cases e0
  · injection hv with ea eb ec
    injection ea with ea
    injection ea with ea
    subst ea ec
    refine ⟨rowS l ds, rowS_list l ds hl, ⟨encE_len, encE_one, ?_, (Array.getElem?_eq_some_iff.1 hg).1⟩, fun i hi => ?_, hb, h3 g rfl, hlc, hcm⟩
    · intro j hj
      rw [size_flatK, rowS_size hl] at hj
      have hk : j / 7 < l.length := by omega
      have hkd : j / 7 < ds.length := by omega
      have he := List.getElem?_eq_getElem hk
      have hd := List.getElem?_eq_getElem hkd
      have hm : j % 7 < 7 := Nat.mod_lt _ (by decide)
      have hcell : (encE (rowS l ds)[j / 7]!)[j % 7]? = some (encE (rowS l ds)[j / 7]!)[j % 7]! := by
        rw [getElem!_pos (encE (rowS l ds)[j / 7]!) (j % 7) (by rw [encE_len]; exact hm)]
        exact List.getElem?_eq_getElem _
      have e1 : encE (rowS l ds)[j / 7]! = Tx.evK.cells l[j / 7] ds[j / 7] := by
        rw [rowS_at he hd, encE_cells, toS_e, hsl _ _ _ he hd]
      rw [get_flatK _ _ _ _ (by rw [rowS_size hl]; exact hj)]
      rw [e1] at hcell ⊢
      have h9 := Tx.ShC_at (K := Tx.evK) he hd _ _ hcell
      have h10 := h1.cells (g := g) rfl _ _ h9
      rw [Addr.add_mid, Nat.zero_add, show j / 7 * Tx.evK.m + j % 7 = j by show j / 7 * 7 + j % 7 = j; omega] at h10
      rw [Nat.zero_add]
      exact ⟨h10, (show Sh.Blk w g 143 cur from hg).frozen _⟩
    · rw [rowS_size hl] at hi
      have he := List.getElem?_eq_getElem hi
      have hd := List.getElem?_eq_getElem (show i < ds.length by omega)
      show Tx.By N w ((rowS l ds)[i]!).d ((rowS l ds)[i]!).e.data
      rw [rowS_at he hd, toS_e, hsl _ _ _ he hd]
      exact hby _ _ _ he hd
/-- A row that is held, as events that are read. -/
theorem row_in {F : Nat → Prop} {w : World} {g c : Nat} {D : Array EvS} (h : HoldsK encE 7 w g 0 D) (hg : g < w.heap.size) (hF : F g) (hc : D.size ≤ c) (hm : c ≤ maxLen) (hd : ∀ i, i < D.size → EvIn F w D[i]!) : Tx.InL Tx.evK F w (.slice (some ⟨g, 0, none⟩) D.size c) (D.toList.map EvS.e) := by
  have hll : (D.toList.map EvS.e).length = D.size := by simp
  have hlen : (D.toList.map EvS.d).length = (D.toList.map EvS.e).length := by simp
  have hat : ∀ i, i < D.size → (D.toList.map EvS.e)[i]? = some D[i]!.e ∧ (D.toList.map EvS.d)[i]? = some D[i]!.d := fun i hi => by
    rw [List.getElem?_map, List.getElem?_map, toList_at hi]
    exact ⟨rfl, rfl⟩
  refine ⟨D.toList.map EvS.d, ?_, hlen.trans (List.length_map _).symm, fun i d bs hi hb => ?_⟩
  · have hl := Tx.ShC_length (K := Tx.evK) (l := D.toList.map EvS.e) hlen
    rw [show List.length (α := Tx.evK.α) (D.toList.map EvS.e) = D.size from hll] at hl ⊢
    refine ⟨some ⟨g, 0, none⟩, c, rfl, hc, hm, ?_, (fun e => by cases e), fun _ => ⟨⟨g, 0, none⟩, rfl, hF, hg, fun j u hu => ?_⟩⟩
    · exact hl
    · have hj : j < D.size * 7 := by
        have := (List.getElem?_eq_some_iff.1 hu).1
        rw [hl] at this
        exact this
      have hk : j / 7 < D.size := by omega
      have hmod : j % 7 < 7 := Nat.mod_lt _ (by decide)
      obtain ⟨a1, a2⟩ := hat _ hk
      have hcell : (encE D[j / 7]!)[j % 7]? = some (encE D[j / 7]!)[j % 7]! := by
        rw [getElem!_pos (encE D[j / 7]!) (j % 7) (by rw [encE_len]; exact hmod)]
        exact List.getElem?_eq_getElem _
      have h9 := Tx.ShC_at (K := Tx.evK) a1 a2 (j % 7) _ (by rw [← encE_cells]; exact hcell)
      rw [show j / 7 * Tx.evK.m + j % 7 = j by show j / 7 * 7 + j % 7 = j; omega] at h9
      have h9 := Option.some.inj (hu.symm.trans h9)
      have h10 := (h j (by rw [size_flatK]; exact hj)).1
      rw [get_flatK _ _ _ _ hj, Nat.zero_add] at h10
      rw [Addr.add_mid, Nat.zero_add, h10, h9]
      rfl
  · have hi' : i < D.size := by
      have := (List.getElem?_eq_some_iff.1 hi).1
      simpa using this
    obtain ⟨a1, a2⟩ := hat i hi'
    rw [a2] at hi
    injection hi with hi
    have hb' : (D.toList.map EvS.e)[i]?.map (fun e : Tx.EvM => e.data) = some bs := (List.getElem?_map (f := fun e : Tx.EvM => e.data) (l := D.toList.map EvS.e) (i := i)).symm.trans hb
    rw [a1] at hb'
    injection hb' with hb'
    rw [← hi, ← hb']
    exact hd i hi'
theorem EvIn.only {N M : Nat → Prop} {w w' : World} {x : EvS} (h : EvIn N w x) (ho : Tx.Only M w w') (hd : ∀ k, N k → ¬ M k) : EvIn N w' x := Tx.By.only h ho hd
end Go.Proofs.YtpfjlhpahmhkhaaGreat.Wk
/- Package fsim: Plan. -/
set_option linter.unusedVariables false
set_option linter.unusedSimpArgs false
namespace Go.Proofs.YtpfjlhpahmhkhaaGreat.Wk
open Go.Shelf Go.RowKit Go.Lib Go.Sort

def cmpE (x y : EvS) : Int := cmpI x.e.at_ y.e.at_
theorem HoldsK.of_block {w w' : World} {g : Nat} {D : Array EvS} (h : HoldsK encE 7 w g 0 D) (hb : w'.heap[g]? = w.heap[g]?) : HoldsK encE 7 w' g 0 D := by
  intro j hj
  obtain ⟨h1, h2⟩ := h j hj
  refine ⟨(World.cell?_of_block (a := ⟨g, 0 + j, none⟩) hb).trans h1, ?_⟩
  rw [← h2]
  unfold World.frozen?
  dsimp only
  rw [hb]
end Go.Proofs.YtpfjlhpahmhkhaaGreat.Wk
namespace Go.Proofs.YtpfjlhpahmhkhaaGreat.Tx
open Go.RowKit Go.Maps Go.Proofs.YtpfjlhpahmhkhaaGreat.Sh

section
variable {F M : Nat → Prop} {w w3 w5 : World} {b : Nat} {c : CSt} {x : FcV}
/-- Another plan, in a row of its own that was turned behind the store. -/
theorem fc_plan {g : Nat} {v : Value} {l : List EvM} (hX : FcX F w b c x) (hM : ∀ k, M k ↔ fcM b x k) (hg : w.heap.size ≤ g) (hb : Below w.heap.size w w3) (h45 : Only (fun k => k = g) (w3.setCell ⟨b, 4, none⟩ v) w5) (hin : InL evK (grow F w w5 M) w5 v l) : FcPost F M w b { c with plan := l } w5 := by
  have hbl := hX.blk.lt
  have ow0 : Only (fun k => k = b) w (w3.setCell ⟨b, 4, none⟩ v) := Only.set_ (M := fun k => k = b) (g := b) (i := 4) (Only.of_below hb) (.inl rfl) v
  have ow : Only (fun k => k = b) w w5 := ow0.trans h45 (fun k e => .inr (e ▸ hg))
  have hfm : ∀ k, fcM b { x with plan := v } k ↔ fcM b x k := fun k => Iff.rfl
  have hblk : Blk w5 b 135 (fcC { c with plan := l } { x with plan := v }) := h45.blk ((hX.blk.below hb hbl).set_ 4 v) (fun e => by omega)
  refine fc_fin (x' := { x with plan := v }) hX hM (ow.more (fun k _ e => .inl e)) (fun k hk => .inl hk) hblk ?_ ?_ ?_ ?_ ?_ hX.apart
  · exact hX.hereG ow hX.Fb (fun k hk e => hX.hb (e ▸ hk))
  · exact hX.durG ow hX.Fb (fun k hk e => hX.db (e ▸ hk))
  · exact hX.pendG ow hX.Fb (fun k hk e => hX.pb (e ▸ hk)) (fun k hk => .inr (.inr (.inr (.inl hk))))
  · exact hin.mono (fun k _ hk => by
      rcases hk with hk | ⟨h1, h2, h3⟩
      · exact .inl hk
      · exact .inr ⟨h1, h2, fun hm => h3 ((hM k).2 hm)⟩)
  · exact hX.usersG ow hX.Fb (fun k hk e => hX.ub (e ▸ hk)) (fun k hk => .inr (.inr (.inr (.inr hk))))
end
theorem keep_filter (cl : Int) (D : List Wk.EvS) : (D.filter (Wk.keepE cl)).map Wk.EvS.e = (D.map Wk.EvS.e).filter (fun e => decide (cl < e.at_)) := by
  induction D with
  | nil => rfl
  | cons x D ih =>
    have hx : Wk.keepE cl x = decide (cl < x.e.at_) := by
      unfold Wk.keepE
      by_cases h : x.e.at_ ≤ cl
      · rw [decide_eq_true h, decide_eq_false (by omega)]; rfl
      · rw [decide_eq_false h, decide_eq_true (by omega)]; rfl
    rw [List.filter_cons, List.map_cons, List.filter_cons, hx]
    split
    · rw [List.map_cons, ih]
    · exact ih
end Go.Proofs.YtpfjlhpahmhkhaaGreat.Tx
/- marlaw5.Plain: the program's events, as the document's. -/
set_option linter.unusedVariables false
set_option linter.unusedSimpArgs false
namespace Go.Proofs.YtpfjlhpahmhkhaaGreat.Tx
open Go.RowKit Go.Maps Go.Proofs.YtpfjlhpahmhkhaaGreat.Sh

theorem OwnL.eq_ {K : Shape} {T : TypeId} {F : Nat → Prop} {w : World} {B : Nat} {v : Value} {l l' : List K.α} (h : OwnL K T F w B v l) (e : l = l') : OwnL K T F w B v l' := e ▸ h
set_option maxRecDepth 100000 in
set_option maxHeartbeats 3200000 in
theorem plainev_any (F : Nat → Prop) (v : Value) (l : List EvM) (w : World) (h : EvsF F w v l) (hn : l.length ≤ 1000000) (hF : ∀ k, F k → k < w.heap.size) :
    Calls Tryz.prog 96 #[v] w fun e w' => ∃ v', e = .returned v' ∧ OwnL evK 169 F w' w.heap.size v' l ∧ Below w.heap.size w w' := by
  have HV := Lib.hid h
  obtain ⟨A, c, rfl, hlc, hcm⟩ := evs_slice h
  obtain ⟨n, hnn⟩ : ∃ n, l.length = n := ⟨_, rfl⟩
  have HNN := Lib.hid hnn
  have HF := Lib.hid hF
  rw [hnn] at hn hlc HV ⊢
  unfold maxLen at hcm
  clear h hnn hF
  go_enter Tryz.func96, Tryz.ntmps96
  go_wp2
  go_loopw [3, 4] (fun u i wr => ∃ k : Nat, k ≤ n ∧ i = .int .i64 k ∧ OwnL evK 169 F wr w.heap.size u (l.take k) ∧ Below w.heap.size w wr) (fun _ i _ => n - (intOf i).toNat)
  case atStart => exact ⟨0, Nat.zero_le _, rfl, OwnL.nil_ _ _ _ _ _, Below.refl _ _⟩
  case round =>
    obtain ⟨k, hk, rfl, ho, hb⟩ := hrel
    obtain ⟨A1, tn, c1, hu3⟩ : ∃ A1 tn c1, u3 = .slice A1 tn c1 := by
      obtain ⟨A1, c1, hu, _, _⟩ := evs_slice ho.tmp
      exact ⟨_, _, _, hu⟩
    subst hu3
    have HO := Lib.hid ho
    have HB := Lib.hid hb
    have k0 : (0 : Int) ≤ (k : Int) := by omega
    by_cases hlt : k < n
    · have k1 : (k : Int) < (n : Int) := by omega
      obtain ⟨e, he⟩ : ∃ e, l[k]? = some e := ⟨_, List.getElem?_eq_getElem (by rw [HNN.out]; exact hlt)⟩
      obtain ⟨ad, dA, dc, rfl, hby, x0, x1, x2, x3, x4, x5, x6⟩ := ev_cells (show EvsTmp F wr (.slice A n c) l from HV.out.below hb) k e he
      have HX : Hid (l.take (k + 1) = l.take k ++ [e]) := by
        obtain ⟨hl, e1⟩ := List.getElem?_eq_some_iff.1 he
        show l.take (k + 1) = l.take k ++ [e]
        rw [List.take_succ_eq_append_getElem hl, e1]
      have HL : Hid ((l.take k).length + [e].length ≤ 2000000) := by unfold Hid; rw [List.length_take, List.length_singleton]; omega
      obtain ⟨at_, kind, mode, keep, torn, path, data⟩ := e
      dsimp only at x0 x1 x2 x3 x4 x5 x6 hby
      obtain ⟨dl, hdl⟩ : ∃ dl, data.length = dl := ⟨_, rfl⟩
      rw [hdl] at x6 hby
      have hwa : Below wr.heap.size wr ((wr.alloc (.cells #[.int .i64 at_, .int .i64 kind, .int .i64 mode, .int .i64 keep, .int .i64 torn, .string (str path), .slice dA dl dc] 143)).alloc (.cells #[.int .i64 at_, .int .i64 kind, .int .i64 mode, .int .i64 keep, .int .i64 torn, .string (str path), .slice dA dl dc] 169)) := ((Below.refl _ _).alloc (Nat.le_refl _) _).alloc (by simp) _
      have HWA := Lib.hid hwa
      have HOA := Lib.hid ((ho.alloc (.cells #[.int .i64 at_, .int .i64 kind, .int .i64 mode, .int .i64 keep, .int .i64 torn, .string (str path), .slice dA dl dc] 143)).alloc (.cells #[.int .i64 at_, .int .i64 kind, .int .i64 mode, .int .i64 keep, .int .i64 torn, .string (str path), .slice dA dl dc] 169))
      have HTA := Lib.hid (TmpL.one (K := evK) (F := F) (a := (⟨at_, kind, mode, keep, torn, path, data⟩ : EvM)) (d := .slice dA dl dc) (Blk.new (wr.alloc (.cells #[.int .i64 at_, .int .i64 kind, .int .i64 mode, .int .i64 keep, .int .i64 torn, .string (str path), .slice dA dl dc] 143)) 169 #[.int .i64 at_, .int .i64 kind, .int .i64 mode, .int .i64 keep, .int .i64 torn, .string (str path), .slice dA dl dc]) rfl (by rw [← hdl] at hby ⊢; exact hby.only (Only.of_below (M := fun _ => False) (by rw [hdl]; exact hwa)) (fun _ _ => id)))
      have HZ : Hid (w.heap.size ≤ ((wr.alloc (.cells #[.int .i64 at_, .int .i64 kind, .int .i64 mode, .int .i64 keep, .int .i64 torn, .string (str path), .slice dA dl dc] 143)).alloc (.cells #[.int .i64 at_, .int .i64 kind, .int .i64 mode, .int .i64 keep, .int .i64 torn, .string (str path), .slice dA dl dc] 169)).heap.size) := Nat.le_trans hb.size hwa.size
      have HFZ : Hid (∀ k, F k → k < ((wr.alloc (.cells #[.int .i64 at_, .int .i64 kind, .int .i64 mode, .int .i64 keep, .int .i64 torn, .string (str path), .slice dA dl dc] 143)).alloc (.cells #[.int .i64 at_, .int .i64 kind, .int .i64 mode, .int .i64 keep, .int .i64 torn, .string (str path), .slice dA dl dc] 169)).heap.size) := fun k hk => Nat.lt_of_lt_of_le (HF.out k hk) HZ.out
      have HLT : Hid (∀ q, (Value.slice A1 tn c1).ownBlock = some q → w.heap.size ≤ q) := fun q hq => (ho.lt q hq).1
      clear hwa ho hb he hby hdl
      go_wp2_with (at_builtin; refine list_appendL typed_ev (v := .slice A1 tn c1) (ex := .slice (some ⟨wr.heap.size + 1, 0, none⟩) 1 1) (l2 := [(⟨at_, kind, mode, keep, torn, path, data⟩ : EvM)]) rfl (.tmp 16) (.tmp 32) rfl (by exact HOA.out) (by have h9 := HTA.out; simpa using h9) (by rfl) (by rfl) HL.out (by exact HZ.out) (by exact HFZ.out) ?_; intro v5 w5 ho5 hg5 hk5; have HO5 := Lib.hid ho5; have HG5 := Lib.hid hg5; clear ho5 hg5 hk5)
      go_roundw
      case rel =>
        refine ⟨k + 1, by omega, by go_num, OwnL.eq_ HO5.out HX.out.symm, ?_⟩
        exact (HB.out.trans (HWA.out.mono HB.out.size)).grown HG5.out (by have := HZ.out; simpa using this) (fun j hj => HLT.out j hj)
      case measure => simp [intOf]; omega
    · obtain rfl : k = n := by omega
      have HFI : Hid (OwnL evK 169 F wr w.heap.size (.slice A1 tn c1) l) := OwnL.eq_ HO.out (List.take_of_length_le (Nat.le_of_eq HNN.out))
      clear ho hb
      go_wp2_with fail
      go_ret
      exact ⟨_, rfl, HFI.out, HB.out⟩
end Go.Proofs.YtpfjlhpahmhkhaaGreat.Tx
/- marlaw5.Does. -/
set_option linter.unusedVariables false
set_option linter.unusedSimpArgs false
namespace Go.Proofs.YtpfjlhpahmhkhaaGreat.Tx
open Go.RowKit Go.Maps Go.Proofs.YtpfjlhpahmhkhaaGreat.Sh

end Go.Proofs.YtpfjlhpahmhkhaaGreat.Tx
/- marlaw5.FewEvents, flag. -/
namespace Go.Proofs.YtpfjlhpahmhkhaaGreat.Tx
open Go.RowKit Go.Maps Go.Proofs.YtpfjlhpahmhkhaaGreat.Sh

set_option maxRecDepth 100000 in
set_option maxHeartbeats 1600000 in
theorem fewev_any (F : Nat → Prop) (v : Value) (l : List EvM) (w : World) (h : EvsF F w v l) : Calls Tryz.prog 64 #[v] w fun e w' => ∃ t, e = .returned (.bool t) ∧ (t = true → l.length ≤ 60 ∧ ∀ e ∈ l, e.path.length ≤ 400) ∧ Below w.heap.size w w' := by
  obtain ⟨A, c, rfl, hlc, hcm⟩ := evs_slice h
  obtain ⟨n, hn⟩ : ∃ n, l.length = n := ⟨_, rfl⟩
  have HL := Lib.hid h
  have HN := Lib.hid hn
  rw [hn] at hlc HL ⊢
  unfold maxLen at hcm
  clear h hn
  go_enter Tryz.func64, Tryz.ntmps64
  go_wp2
  go_loopw [3, 4] (fun s i wr => ∃ (k : Nat) (z : Int), k ≤ n ∧ k ≤ 60 ∧ i = .int .i64 k ∧ s = .int .i64 z ∧ 0 ≤ z ∧ z ≤ 160000 ∧ (∀ e ∈ l.take k, e.path.length ≤ 400) ∧ Below w.heap.size w wr) (fun _ i _ => n - (intOf i).toNat)
  case atStart => exact ⟨0, 0, Nat.zero_le _, Nat.zero_le _, rfl, rfl, by omega, by omega, fun e he => by simp at he, Below.refl _ _⟩
  case round =>
    obtain ⟨k, z, hk, hk6, rfl, rfl, hz0, hz1, hpk, hb⟩ := hrel
    have HB := Lib.hid hb
    have HPK := Lib.hid hpk
    clear hb hpk
    have p0 : (0 : Int) ≤ (k : Int) := by omega
    by_cases hlt : k < n
    · by_cases h60 : k < 60
      · have hkl : k < l.length := by rw [HN.out]; exact hlt
        obtain ⟨ad, dA, dc, rfl, _, _, _, _, _, _, x5, x6⟩ := ev_cells (TmpL.below HL.out HB.out) k l[k] (List.getElem?_eq_getElem hkl)
        have HX := Lib.hid (show l.take (k + 1) = l.take k ++ [l[k]] from List.take_succ_eq_append_getElem hkl)
        obtain ⟨pl, hpl⟩ : ∃ pl, l[k].path.length = pl := ⟨_, rfl⟩
        have hsp : (str l[k].path).toList.length = pl := by rw [str_toList]; exact hpl
        have HPL := Lib.hid hpl
        obtain ⟨dl, hdl⟩ : ∃ dl, l[k].data.length = dl := ⟨_, rfl⟩
        rw [hdl] at x6
        generalize l[k] = e at *
        clear hkl hdl hpl
        have p1 : (k : Int) < (n : Int) := by omega
        have p2 : (k : Int) < 60 := by omega
        have hm0 : (0 : Int) ≤ min (dl : Int) 40000 ∧ min (dl : Int) 40000 ≤ 40000 := by omega
        have hm1 : (0 : Int) ≤ min (pl : Int) 1000 ∧ min (pl : Int) 1000 ≤ 1000 := by omega
        have w1 : IntKind.i64.wrap (z + min (dl : Int) 40000) = z + min (dl : Int) 40000 := IntWalk.i64_in _ (by omega)
        have w2 : IntKind.i64.wrap (z + min (dl : Int) 40000 + min (pl : Int) 1000) = z + min (dl : Int) 40000 + min (pl : Int) 1000 := IntWalk.i64_in _ (by omega)
        have hsz : (str e.path).size = pl := by rw [str_size]; exact HPL.out
        rw [show str e.path = ⟨(str e.path).data⟩ from rfl] at x5 hsz hsp
        generalize (⟨(str e.path).data⟩ : ByteArray) = sp at *
        by_cases hl4 : (400 : Int) < (pl : Int)
        · go_wp2_with fail
          go_quiet (fail)
          go_wp2_with fail
          go_ret
          exact ⟨_, rfl, fun h => by simp at h, below_drewN HB.out _⟩
        · go_wp2_with fail
          go_quiet (fail)
          go_wp2_with fail
          go_roundw
          case rel => exact ⟨k + 1, min (z + min (dl : Int) 40000 + min (pl : Int) 1000) 160000, by omega, by omega, by go_num, by go_num, by omega, by omega, fun x hx => by
            rw [HX.out] at hx
            rcases List.mem_append.1 hx with h9 | h9
            · exact HPK.out x h9
            · rw [List.mem_singleton.1 h9, HPL.out]; omega, below_drewN HB.out _⟩
          case measure => simp [intOf]; omega
      · obtain rfl : k = 60 := by omega
        have e60 : ¬ (n ≤ 60) := by omega
        have e61 : decide ((n : Int) ≤ 60) = false := by simp; omega
        go_wp2_with fail
        go_ret
        exact ⟨_, rfl, fun h => by simp at h, HB.out⟩
    · obtain rfl : k = n := by omega
      have HF : Hid (k ≤ 60 ∧ ∀ e ∈ l, e.path.length ≤ 400) := ⟨hk6, fun e he => HPK.out e (by rw [List.take_of_length_le (by rw [HN.out]; exact Nat.le_refl _)]; exact he)⟩
      go_wp2_with fail
      all_goals
        go_ret
        exact ⟨_, rfl, fun _ => HF.out, HB.out⟩
end Go.Proofs.YtpfjlhpahmhkhaaGreat.Tx
/- The laws' operations in memory; marlaw5.Few. -/
namespace Go.Proofs.YtpfjlhpahmhkhaaGreat.Tx
open Go.RowKit Go.Maps Go.Proofs.YtpfjlhpahmhkhaaGreat.Sh

/-- An operation's cells, from a on. -/
structure OpCells (G : Nat → Prop) (w : World) (a : Addr) (o : LOp) (dv pv : Value) : Prop where
  data : By G w dv o.data
  plan : InL evK G w pv o.plan
  kind : w.cell? a = some (.int .i64 o.kind)
  mode : w.cell? ⟨a.block, a.off + 1, none⟩ = some (.int .i64 o.mode)
  keep : w.cell? ⟨a.block, a.off + 2, none⟩ = some (.int .i64 o.keep)
  torn : w.cell? ⟨a.block, a.off + 3, none⟩ = some (.int .i64 o.torn)
  path : w.cell? ⟨a.block, a.off + 4, none⟩ = some (.string (str o.path))
  dest : w.cell? ⟨a.block, a.off + 5, none⟩ = some (.string (str o.dest))
  dcell : w.cell? ⟨a.block, a.off + 6, none⟩ = some dv
  pcell : w.cell? ⟨a.block, a.off + 7, none⟩ = some pv
def OpsF (G : Nat → Prop) (w : World) (v : Value) (l : List LOp) : Prop := ∃ A c, v = .slice A l.length c ∧ l.length ≤ c ∧ c ≤ maxLen ∧ ∀ k o, l[k]? = some o → ∃ ad dv pv, A = some ad ∧ G ad.block ∧ ad.block < w.heap.size ∧ OpCells G w (ad.add (k * 8)) o dv pv
theorem OpCells.only {G M : Nat → Prop} {w w' : World} {a : Addr} {o : LOp} {dv pv : Value} (h : OpCells G w a o dv pv) (ho : Only M w w') (hG : ∀ k, G k → ¬ M k) (ha : G a.block) (hl : a.block < w.heap.size) : OpCells G w' a o dv pv := by
  have hn := hG _ ha
  exact ⟨h.data.only ho hG, h.plan.only ho hG, (ho.cell hl hn).trans h.kind, (ho.cell (p := ⟨a.block, a.off + 1, none⟩) hl hn).trans h.mode, (ho.cell (p := ⟨a.block, a.off + 2, none⟩) hl hn).trans h.keep, (ho.cell (p := ⟨a.block, a.off + 3, none⟩) hl hn).trans h.torn, (ho.cell (p := ⟨a.block, a.off + 4, none⟩) hl hn).trans h.path, (ho.cell (p := ⟨a.block, a.off + 5, none⟩) hl hn).trans h.dest, (ho.cell (p := ⟨a.block, a.off + 6, none⟩) hl hn).trans h.dcell, (ho.cell (p := ⟨a.block, a.off + 7, none⟩) hl hn).trans h.pcell⟩
theorem addr_block (a : Addr) (n : Nat) : (a.add n).block = a.block := by unfold Addr.add; split <;> rfl
theorem OpsF.only {G M : Nat → Prop} {w w' : World} {v : Value} {l : List LOp} (h : OpsF G w v l) (ho : Only M w w') (hG : ∀ k, G k → ¬ M k) : OpsF G w' v l := by
  obtain ⟨A, c, h1, h2, h3, h4⟩ := h
  refine ⟨A, c, h1, h2, h3, fun k o hk => ?_⟩
  obtain ⟨ad, dv, pv, e, g1, g2, g3⟩ := h4 k o hk
  exact ⟨ad, dv, pv, e, g1, Nat.lt_of_lt_of_le g2 ho.size, g3.only ho hG (by rw [addr_block]; exact g1) (by rw [addr_block]; exact g2)⟩
theorem OpsF.below {G : Nat → Prop} {w w' : World} {v : Value} {l : List LOp} (h : OpsF G w v l) (hb : Below w.heap.size w w') : OpsF G w' v l := h.only (Only.of_below (M := fun _ => False) hb) (fun _ _ => id)
/-- What Few says of an operation. -/
structure OpFew (o : LOp) : Prop where
  path : o.path.length ≤ 400
  dest : o.dest.length ≤ 400
  plan : o.plan.length ≤ 60
  paths : ∀ e ∈ o.plan, e.path.length ≤ 400

set_option maxRecDepth 100000 in
set_option maxHeartbeats 3200000 in
theorem few_any (G : Nat → Prop) (v : Value) (l : List LOp) (w : World) (h : OpsF G w v l) : Calls Tryz.prog 11 #[v] w fun e w' => ∃ t, e = .returned (.bool t) ∧ (t = true → l.length ≤ 100 ∧ ∀ o ∈ l, OpFew o) ∧ Below w.heap.size w w' := by
  have HL := Lib.hid h
  obtain ⟨A, c, rfl, hlc, hcm, _⟩ := h
  obtain ⟨n, hn⟩ : ∃ n, l.length = n := ⟨_, rfl⟩
  have HN := Lib.hid hn
  rw [hn] at hlc HL ⊢
  unfold maxLen at hcm
  clear hn
  go_enter Tryz.func11, Tryz.ntmps11
  go_wp2
  go_loopw [3, 4] (fun s i wr => ∃ (k : Nat) (z : Int), k ≤ n ∧ k ≤ 100 ∧ i = .int .i64 k ∧ s = .int .i64 z ∧ 0 ≤ z ∧ z ≤ 160000 ∧ (∀ o ∈ l.take k, OpFew o) ∧ Below w.heap.size w wr) (fun _ i _ => n - (intOf i).toNat)
  case atStart => exact ⟨0, 0, Nat.zero_le _, Nat.zero_le _, rfl, rfl, by omega, by omega, fun e he => by simp at he, Below.refl _ _⟩
  case round =>
    obtain ⟨k, z, hk, hk6, rfl, rfl, hz0, hz1, hpk, hb⟩ := hrel
    have HB := Lib.hid hb
    have HPK := Lib.hid hpk
    clear hb hpk
    have p0 : (0 : Int) ≤ (k : Int) := by omega
    by_cases hlt : k < n
    · by_cases h60 : k < 100
      · have hkl : k < l.length := by rw [HN.out]; exact hlt
        obtain ⟨A', c', hv, _, _, hat⟩ := HL.out
        injection hv with e1 e2 e3
        subst e1
        clear e2 e3
        obtain ⟨ad, dv, pv, rfl, hGa, hal, hoc⟩ := hat k l[k] (List.getElem?_eq_getElem hkl)
        clear hat
        have HOC := Lib.hid hoc
        have HGA := Lib.hid hGa
        have HAL := Lib.hid hal
        have HX := Lib.hid (show l.take (k + 1) = l.take k ++ [l[k]] from List.take_succ_eq_append_getElem hkl)
        generalize l[k] = o at *
        clear hkl hoc hGa hal
        have HSC : Hid (∀ W, Below w.heap.size w W → OpCells G W (ad.add (k * 8)) o dv pv) := fun W hW => HOC.out.only (Only.of_below (M := fun _ => False) hW) (fun _ _ => id) (by rw [addr_block]; exact HGA.out) (by rw [addr_block]; exact HAL.out)
        have hc0 := HSC.out wr HB.out
        have x4 := hc0.path
        have x5 := hc0.dest
        have x6 := hc0.dcell
        have x7 := hc0.pcell
        clear hc0
        have p1 : (k : Int) < (n : Int) := by omega
        have p2 : (k : Int) < 100 := by omega
        have hs4 : (str o.path).size = o.path.length := str_size _
        have hs5 : (str o.dest).size = o.dest.length := str_size _
        go_wp2_with fail
        refine (fewev_any G pv o.plan wr (HSC.out wr HB.out).plan.tmp).mono ?_
        rintro e w1 ⟨t, rfl, ht, hb1⟩
        have HB1 := Lib.hid (HB.out.trans (hb1.mono HB.out.size))
        have HT := Lib.hid ht
        clear hb1 ht x4 x5 x6 x7
        have hc1 := HSC.out w1 HB1.out
        have y4 := hc1.path
        have y5 := hc1.dest
        obtain ⟨dA, dc, hdv, _, _⟩ := hc1.data.slice
        subst hdv
        have y6 := hc1.dcell
        clear hc1
        obtain ⟨dl, hdl⟩ : ∃ dl, o.data.length = dl := ⟨_, rfl⟩
        rw [hdl] at y6
        clear hdl
        have hm0 : (0 : Int) ≤ min (dl : Int) 40000 ∧ min (dl : Int) 40000 ≤ 40000 := by omega
        have w1' : IntKind.i64.wrap (z + min (dl : Int) 40000) = z + min (dl : Int) 40000 := IntWalk.i64_in _ (by omega)
        cases t
        · go_wp2_with fail
          go_ret
          exact ⟨_, rfl, fun h => by simp at h, HB1.out⟩
        · by_cases hl4 : (400 : Int) < (o.path.length : Int)
          · go_wp2_with fail
            go_ret
            exact ⟨_, rfl, fun h => by simp at h, HB1.out⟩
          · by_cases hl5 : (400 : Int) < (o.dest.length : Int)
            · go_wp2_with fail
              go_ret
              exact ⟨_, rfl, fun h => by simp at h, HB1.out⟩
            · have HOF : Hid (OpFew o) := ⟨by omega, by omega, (HT.out rfl).1, (HT.out rfl).2⟩
              go_wp2_with fail
              go_roundw
              case rel => exact ⟨k + 1, min (z + min (dl : Int) 40000) 160000, by omega, by omega, by go_num, by go_num, by omega, by omega, fun x hx => by
                rw [HX.out] at hx
                rcases List.mem_append.1 hx with h9 | h9
                · exact HPK.out x h9
                · rw [List.mem_singleton.1 h9]; exact HOF.out, HB1.out⟩
              case measure => simp [intOf]; omega
      · obtain rfl : k = 100 := by omega
        have e61 : decide ((n : Int) ≤ 100) = false := by simp; omega
        go_wp2_with fail
        go_ret
        exact ⟨_, rfl, fun h => by simp at h, HB.out⟩
    · obtain rfl : k = n := by omega
      have HF : Hid (k ≤ 100 ∧ ∀ o ∈ l, OpFew o) := ⟨hk6, fun e he => HPK.out e (by rw [List.take_of_length_le (by rw [HN.out]; exact Nat.le_refl _)]; exact he)⟩
      go_wp2_with fail
      all_goals
        go_ret
        exact ⟨_, rfl, fun _ => HF.out, HB.out⟩
end Go.Proofs.YtpfjlhpahmhkhaaGreat.Tx
