/- Texts put together: YOb15, YRo7. -/
import Derived.Test.YteffiedolcjjlaaQa24
import Derived.Test.YteffiedolcjjlaaQa31
/- obj: Refs. -/
namespace Go.Proofs.Yteffiedolcjjlaa.Ob
open Go.RowKit Go.Proofs.Yteffiedolcjjlaa.Sh
open Go.Proofs.Yteffiedolcjjlaa.Tx (OwnV SlV sv bl nameB reads_at texts_at toList_ne')

def refsL (o : ObM) : List (List UInt8) := if o.kind = 2 then o.items.map (·.2.2) else if o.kind = 3 then o.tree :: o.parents else []
def RefsPost (w : World) (o : ObM) (e : Ending) (w' : World) : Prop := ∃ v, e = .returned v ∧ OwnV 9 w' w.heap.size v (((refsL o).map str).map sv) ∧ Below w.heap.size w w'
theorem app_text {ops : Array Oper} {rest : List Oper} {o : Oper} {a : Act} {Q : Exit → Act → World → Prop} (hgd : o.guard = none) (s x : Operand)
    (ho : o.op = .call { callee := .builtin .append, args := #[s, x], argTypes := #[23, 23] }) (w : World) (B : Nat) (v : Value) (ts : List ByteArray) (hs : a.eval s = v) (hown : OwnV 9 w B v (ts.map sv))
    (u : ByteArray) (g : Nat) (hg : w.heap.size = g) (hx : a.eval x = .slice (some ⟨g, 0, none⟩) 1 1) (hsmall : ts.length + 1 ≤ 2000000) (hB : B ≤ w.heap.size)
    (h : ∀ v' w', OwnV 9 w' B v' ((ts ++ [u]).map sv) → Below B w w' → wpList Try.prog ops Q rest (a.put o.dst v') w') : wpList Try.prog ops Q (o :: rest) a (w.alloc (.cells #[.string u] 9)) := by
  subst hg
  exact Tx.append_text hgd s x ho w B v ts hs hown u hx hsmall hB h
theorem map_snoc {l : List ItM} {k : Nat} {x : ItM} (h : l[k]? = some x) : (((l.take (k + 1)).map (·.2.2)).map str) = (((l.take k).map (·.2.2)).map str) ++ [str x.2.2] := by
  obtain ⟨hk, e⟩ := List.getElem?_eq_some_iff.1 h
  rw [List.take_succ_eq_append_getElem hk, List.map_append, List.map_append, e]
  rfl
set_option maxRecDepth 100000 in
set_option maxHeartbeats 1600000 in
theorem refs_any (v : Value) (o : ObM) (w : World) (h : ObV w v o) (hi4 : o.items.length ≤ 400) (hp4 : o.parents.length ≤ 400) : Calls Try.prog 128 #[v] w (RefsPost w o) := by
  obtain ⟨d, it, ps, rfl, hd, hi, hp⟩ := h
  obtain ⟨k0, D, I, T, P, st, au, ms⟩ := o
  replace hd : Sl w d D := hd
  replace hi : SlI w it I := hi
  replace hp : SlV w ps ((P.map str).map sv) := hp
  replace hi4 : I.length ≤ 400 := hi4
  replace hp4 : P.length ≤ 400 := hp4
  obtain ⟨A, c, rfl, hlc, hcm, _⟩ := hd
  obtain ⟨A2, c2, rfl, hlc2, hcm2, _, hRI⟩ := hi
  obtain ⟨A3, c3, rfl, hlc3, hcm3, hRP⟩ := hp.len
  unfold maxLen at hcm hcm2 hcm3
  simp only [List.length_map] at hlc3 hRP ⊢
  obtain ⟨l, hl⟩ : ∃ l, D.length = l := ⟨_, rfl⟩
  obtain ⟨l2, hl2⟩ : ∃ l, I.length = l := ⟨_, rfl⟩
  obtain ⟨l3, hl3⟩ : ∃ l, P.length = l := ⟨_, rfl⟩
  rw [hl] at hlc ⊢
  rw [hl2] at hlc2 hi4 ⊢
  rw [hl3] at hlc3 hp4 ⊢
  have HRI := Lib.hid hRI
  have HRP := Lib.hid hRP
  have HL2 := Lib.hid hl2
  have HL3 := Lib.hid hl3
  have HB1 : Hid (Below w.heap.size w (w.alloc (.cells #[.int .i64 k0, .slice A l c, .slice A2 l2 c2, .string (str T), .slice A3 l3 c3, .int .i64 st, .int .i64 au, .string (str ms)] 72))) := (Below.refl _ _).alloc (Nat.le_refl _) _
  clear hl hl2 hl3 hRI hRP hp
  by_cases h2 : k0 = 2
  · subst h2
    go_enter Try.func128, Try.ntmps128
    go_wp2_with fail
    go_loopw [3, 13] (fun b i wr => ∃ k : Nat, k ≤ l2 ∧ i = .int .i64 k ∧ OwnV 9 wr w.heap.size b ((((I.take k).map (·.2.2)).map str).map sv) ∧ Below w.heap.size w wr) (fun _ i _ => l2 - (intOf i).toNat)
    case atStart => exact ⟨0, Nat.zero_le _, rfl, OwnV.nil_ _ _, HB1.out⟩
    case round =>
      obtain ⟨k, hk, rfl, hou, hbu⟩ := hrel
      have HOU := Lib.hid hou
      have HBU := Lib.hid hbu
      clear hou hbu
      have p0 : (0 : Int) ≤ (k : Int) := by omega
      by_cases hlt : k < l2
      · have p1 : (k : Int) < (l2 : Int) := by omega
        have hkl : k < I.length := by rw [HL2.out]; exact hlt
        obtain ⟨x, hx⟩ : ∃ x, I[k]? = some x := ⟨_, List.getElem?_eq_getElem hkl⟩
        obtain ⟨ad, rfl, c0, c1, c2'⟩ := items_at (HRI.out.below HBU.out) rfl k x hx
        have HSN := Lib.hid (map_snoc hx)
        clear hx hkl
        obtain ⟨m, nm, id⟩ := x
        replace c0 : wr.cell? (ad.add (k * 3)) = some (.int .i64 m) := c0
        replace c1 : wr.cell? ⟨(ad.add (k * 3)).block, (ad.add (k * 3)).off + 1, none⟩ = some (.string (str nm)) := c1
        replace c2' : wr.cell? ⟨(ad.add (k * 3)).block, (ad.add (k * 3)).off + 2, none⟩ = some (.string (str id)) := c2'
        have HOA : Hid (OwnV 9 (wr.alloc (.cells #[.int .i64 m, .string (str nm), .string (str id)] 127)) w.heap.size u3 ((((I.take k).map (·.2.2)).map str).map sv)) := HOU.out.alloc _
        have HBA : Hid (Below w.heap.size w (wr.alloc (.cells #[.int .i64 m, .string (str nm), .string (str id)] 127))) := HBU.out.alloc HBU.out.size _
        have hz1 : (wr.alloc (.cells #[.int .i64 m, .string (str nm), .string (str id)] 127)).heap.size = wr.heap.size + 1 := by simp
        have hz2 : w.heap.size ≤ (wr.alloc (.cells #[.int .i64 m, .string (str nm), .string (str id)] 127)).heap.size := HBA.out.size
        have hsm : (((I.take k).map (·.2.2)).map str).length + 1 ≤ 2000000 := by simp; omega
        go_wp2_with (at_builtin; refine app_text rfl (.tmp 17) (.tmp 20) rfl _ w.heap.size u3 _ rfl HOA.out (str id) (wr.heap.size + 1) hz1 rfl hsm hz2 ?_; intro v3 w3 ho3 hb3; have HO3 := Lib.hid ho3; have HB3 := Lib.hid hb3; clear ho3 hb3)
        go_roundw
        case rel => exact ⟨k + 1, by omega, by go_num, by rw [HSN.out]; exact HO3.out, HBA.out.trans HB3.out⟩
        case measure => simp [intOf]; omega
      · obtain rfl : k = l2 := by omega
        go_wp2_with fail
        go_ret
        refine ⟨u3, rfl, ?_, HBU.out⟩
        have := HOU.out
        rw [List.take_of_length_le (by rw [HL2.out]; exact Nat.le_refl _)] at this
        exact this
  · have e2 : (k0 == 2) = false := beq_eq_false_iff_ne.2 h2
    by_cases h3 : k0 = 3
    · subst h3
      have HK1 : Hid (Blk (w.alloc (.cells #[.int .i64 3, .slice A l c, .slice A2 l2 c2, .string (str T), .slice A3 l3 c3, .int .i64 st, .int .i64 au, .string (str ms)] 72)) w.heap.size 72 #[.int .i64 3, .slice A l c, .slice A2 l2 c2, .string (str T), .slice A3 l3 c3, .int .i64 st, .int .i64 au, .string (str ms)]) := Blk.new _ _ _
      obtain ⟨W, hW⟩ : ∃ W, W = w.alloc (.cells #[.int .i64 3, .slice A l c, .slice A2 l2 c2, .string (str T), .slice A3 l3 c3, .int .i64 st, .int .i64 au, .string (str ms)] 72) := ⟨_, rfl⟩
      have hwz : W.heap.size = w.heap.size + 1 := by rw [hW]; simp
      rw [← hW] at HB1 HK1
      have HO0 : Hid (OwnV 9 W W.heap.size (.slice none 0 0) (([] : List ByteArray).map sv)) := OwnV.nil_ _ _
      have HWZ := Lib.hid hwz
      have HEN : Hid (refsL ⟨3, D, I, T, P, st, au, ms⟩ = T :: P) := rfl
      clear h2
      go_enter Try.func128, Try.ntmps128
      have HF3 : Hid (∀ w3, Below W.heap.size W w3 → w3.cell? ⟨w.heap.size, 4, none⟩ = some (.slice A3 l3 c3) ∧ Reads w3 w3.heap.size 1 A3 l3 ((P.map str).map sv) ∧ W.heap.size ≤ w3.heap.size ∧ Below w.heap.size w w3) := by
        intro w3 hb3
        have hk3 := HK1.out.below hb3 HK1.out.lt
        have hw3 := HB1.out.trans (hb3.mono HB1.out.size)
        have hr := (HRP.out.below hw3).more hw3.size
        rw [HL3.out] at hr
        exact ⟨hk3.cell 4, hr, hb3.size, hw3⟩
      have hsm : ([] ++ [str T]).length + l3 ≤ 2000000 := by simp; omega
      go_wp2_with (first
        | (have _ := N3; at_builtin; refine Tx.append_texts rfl (.tmp 30) (.tmp 32) rfl w3 W.heap.size v3 _ rfl HO3.out _ A3 l3 c3 (P.map str) rfl HR3.out hsm hz3 ?_; intro v4 w4 ho4 hb4; have HO4 := Lib.hid ho4; have HB4 := Lib.hid hb4; clear ho4 hb4)
        | (at_builtin; rw [← hW]; refine app_text rfl (.tmp 25) (.tmp 28) rfl W W.heap.size (.slice none 0 0) [] rfl HO0.out (str T) (w.heap.size + 1) HWZ.out rfl (by decide) (Nat.le_refl _) ?_; intro v3 w3 ho3 hb3; have N3 : True := trivial; have HO3 := Lib.hid ho3; obtain ⟨x4, hr3, hz3, hw3⟩ := HF3.out w3 hb3; have HR3 := Lib.hid hr3; have HW3 := Lib.hid hw3; clear ho3 hb3 hr3 hw3))
      go_ret
      refine ⟨v4, rfl, ?_, HW3.out.trans (HB4.out.mono HB1.out.size)⟩
      have h4 := (HO4.out).base HB1.out.size
      rw [HEN.out]
      exact h4
    · have e3 : (k0 == 3) = false := beq_eq_false_iff_ne.2 h3
      have HEN : Hid (refsL ⟨k0, D, I, T, P, st, au, ms⟩ = []) := by unfold Hid refsL; rw [if_neg h2, if_neg h3]
      clear h2 h3
      go_enter Try.func128, Try.ntmps128
      go_wp2_with fail
      go_ret
      refine ⟨_, rfl, ?_, HB1.out⟩
      rw [HEN.out]
      exact OwnV.nil_ _ _
end Go.Proofs.Yteffiedolcjjlaa.Ob
/- The document's Refs. -/
namespace Go.Proofs.Yteffiedolcjjlaa.Ob
open Go.RowKit Go.Proofs.Yteffiedolcjjlaa.Sh
open Go.Proofs.Yteffiedolcjjlaa.Tx (OwnV SlV sv bl nameB reads_at texts_at toList_ne')

theorem own_text (w : World) (u : ByteArray) : OwnV 9 (w.alloc (.cells #[.string u] 9)) w.heap.size (.slice (some ⟨w.heap.size, 0, none⟩) 1 1) ([u].map sv) :=
  ⟨rfl, .inr ⟨w.heap.size, 1, _, rfl, Nat.le_refl _, heap_alloc_new w _, Nat.le_refl _, by unfold maxLen; omega, rfl, rfl⟩⟩
theorem app_textK {ops : Array Oper} {rest : List Oper} {o : Oper} {a : Act} {Q : Exit → Act → World → Prop} (hgd : o.guard = none) (s x : Operand)
    (ho : o.op = .call { callee := .builtin .append, args := #[s, x], argTypes := #[23, 23] }) (w : World) (B : Nat) (v : Value) (ts : List ByteArray) (hs : a.eval s = v) (hown : OwnV 9 w B v (ts.map sv))
    (u : ByteArray) (g : Nat) (hg : w.heap.size = g) (hx : a.eval x = .slice (some ⟨g, 0, none⟩) 1 1) (hsmall : ts.length + 1 ≤ 2000000) (hB : B ≤ w.heap.size)
    (h : ∀ v' w', OwnV 9 w' B v' ((ts ++ [u]).map sv) → Below B w w' → (w.alloc (.cells #[.string u] 9)).grownBy w' v.ownBlock → wpList Try.prog ops Q rest (a.put o.dst v') w') : wpList Try.prog ops Q (o :: rest) a (w.alloc (.cells #[.string u] 9)) := by
  subst hg
  obtain ⟨i0, hi, hz0, hz1, hz2⟩ := info_parts Tx.info_str
  have hown' := OwnV.alloc hown (.cells #[.string u] 9)
  unfold OwnV at hown'
  rw [List.length_map] at hown'
  refine wpList_append_any _ hgd s x 23 ho B 9 i0 (.string ⟨#[]⟩) 1 16 Try.underlying23 hi hz0 hz1 hz2 rfl (by decide) v ts.length _ hs hown' _ _ 1 1 [sv u] hx (reads_one w u) (Tx.sv_one [u]) (by unfold maxLen; omega) (by omega) (by simp; omega) ?_
  intro v' w' h1 h2 _
  refine h v' w' ?_ (((Below.refl _ _).alloc hB _).grown h2 (by simp; omega) (fun k hk => (World.ownsRow.lt hown' k hk).1)) h2
  unfold OwnV
  rw [List.length_map, List.length_append, List.map_append]
  exact h1
set_option maxRecDepth 100000 in
set_option maxHeartbeats 3200000 in
theorem rrefs_any (v : Value) (o : ObM) (w : World) (h : ObV w v o) (hi4 : o.items.length ≤ 400) (hp4 : o.parents.length ≤ 400) : Calls Try.prog 17 #[v] w (RefsPost w o) := by
  obtain ⟨d, it, ps, rfl, hd, hi, hp⟩ := h
  obtain ⟨k0, D, I, T, P, st, au, ms⟩ := o
  replace hd : Sl w d D := hd
  replace hi : SlI w it I := hi
  replace hp : SlV w ps ((P.map str).map sv) := hp
  replace hi4 : I.length ≤ 400 := hi4
  replace hp4 : P.length ≤ 400 := hp4
  obtain ⟨A, c, rfl, hlc, hcm, _⟩ := hd
  obtain ⟨A2, c2, rfl, hlc2, hcm2, _, hRI⟩ := hi
  obtain ⟨A3, c3, rfl, hlc3, hcm3, hRP⟩ := hp.len
  unfold maxLen at hcm hcm2 hcm3
  simp only [List.length_map] at hlc3 hRP ⊢
  obtain ⟨l, hl⟩ : ∃ l, D.length = l := ⟨_, rfl⟩
  obtain ⟨l2, hl2⟩ : ∃ l, I.length = l := ⟨_, rfl⟩
  obtain ⟨l3, hl3⟩ : ∃ l, P.length = l := ⟨_, rfl⟩
  rw [hl] at hlc ⊢
  rw [hl2] at hlc2 hi4 ⊢
  rw [hl3] at hlc3 hp4 ⊢
  have HRI := Lib.hid hRI
  have HRP := Lib.hid hRP
  have HL2 := Lib.hid hl2
  have HL3 := Lib.hid hl3
  have HB1 : Hid (Below w.heap.size w (w.alloc (.cells #[.int .i64 k0, .slice A l c, .slice A2 l2 c2, .string (str T), .slice A3 l3 c3, .int .i64 st, .int .i64 au, .string (str ms)] 38))) := (Below.refl _ _).alloc (Nat.le_refl _) _
  have HK1 : Hid (Blk (w.alloc (.cells #[.int .i64 k0, .slice A l c, .slice A2 l2 c2, .string (str T), .slice A3 l3 c3, .int .i64 st, .int .i64 au, .string (str ms)] 38)) w.heap.size 38 #[.int .i64 k0, .slice A l c, .slice A2 l2 c2, .string (str T), .slice A3 l3 c3, .int .i64 st, .int .i64 au, .string (str ms)]) := Blk.new _ _ _
  clear hl hl2 hl3 hRI hRP hp
  by_cases h2 : k0 = 2
  · subst h2
    go_enter Try.func17, Try.ntmps17
    go_wp2_with fail
    go_loopw [3, 4] (fun b i wr => ∃ k : Nat, k ≤ l2 ∧ i = .int .i64 k ∧ OwnV 9 wr w.heap.size b ((((I.take k).map (·.2.2)).map str).map sv) ∧ Below w.heap.size w wr ∧ Blk wr w.heap.size 38 #[.int .i64 2, .slice A l c, .slice A2 l2 c2, .string (str T), .slice A3 l3 c3, .int .i64 st, .int .i64 au, .string (str ms)]) (fun _ i _ => l2 - (intOf i).toNat)
    case atStart => exact ⟨0, Nat.zero_le _, rfl, OwnV.nil_ _ _, HB1.out, HK1.out⟩
    case round =>
      obtain ⟨k, hk, rfl, hou, hbu, hku⟩ := hrel
      have HOU := Lib.hid hou
      have HBU := Lib.hid hbu
      have HKU := Lib.hid hku
      clear hou hbu
      have p0 : (0 : Int) ≤ (k : Int) := by omega
      have y2 := hku.cell 2
      clear hku
      by_cases hlt : k < l2
      · have p1 : (k : Int) < (l2 : Int) := by omega
        have hkl : k < I.length := by rw [HL2.out]; exact hlt
        obtain ⟨x, hx⟩ : ∃ x, I[k]? = some x := ⟨_, List.getElem?_eq_getElem hkl⟩
        obtain ⟨ad, rfl, c0, c1, c2'⟩ := items_at (HRI.out.below HBU.out) rfl k x hx
        have HSN := Lib.hid (map_snoc hx)
        clear hx hkl
        obtain ⟨m, nm, id⟩ := x
        replace c2' : wr.cell? ⟨(ad.add (k * 3)).block, (ad.add (k * 3)).off + 2, none⟩ = some (.string (str id)) := c2'
        clear c0 c1
        have hz2 : w.heap.size ≤ wr.heap.size := HBU.out.size
        have hsm : (((I.take k).map (·.2.2)).map str).length + 1 ≤ 2000000 := by simp; omega
        go_wp2_with (at_builtin; refine app_textK rfl (.tmp 16) (.tmp 23) rfl _ w.heap.size u3 _ rfl HOU.out (str id) wr.heap.size rfl rfl hsm hz2 ?_; intro v3 w3 ho3 hb3 hg3; have HO3 := Lib.hid ho3; have HB3 := Lib.hid hb3; have e1 := (OwnV.alloc HOU.out (.cells #[.string (str id)] 9)); have e2 := (HKU.out.alloc (.cells #[.string (str id)] 9)); have e3 := row_sep e1 e2 (by decide); have HB3K := e2.grown hg3 e3; clear e1 e2 e3; clear ho3 hb3 hg3)
        go_roundw
        case rel => exact ⟨k + 1, by omega, by go_num, by rw [HSN.out]; exact HO3.out, HBU.out.trans HB3.out, HB3K⟩
        case measure => simp [intOf]; omega
      · obtain rfl : k = l2 := by omega
        go_wp2_with fail
        go_ret
        refine ⟨u3, rfl, ?_, HBU.out⟩
        have := HOU.out
        rw [List.take_of_length_le (by rw [HL2.out]; exact Nat.le_refl _)] at this
        exact this
  · have e2 : (k0 == 2) = false := beq_eq_false_iff_ne.2 h2
    by_cases h3 : k0 = 3
    · subst h3
      obtain ⟨W, hW⟩ : ∃ W, W = w.alloc (.cells #[.int .i64 3, .slice A l c, .slice A2 l2 c2, .string (str T), .slice A3 l3 c3, .int .i64 st, .int .i64 au, .string (str ms)] 38) := ⟨_, rfl⟩
      have hwz : W.heap.size = w.heap.size + 1 := by rw [hW]; simp
      rw [← hW] at HB1 HK1
      have HWZ := Lib.hid hwz
      have HEN : Hid (refsL ⟨3, D, I, T, P, st, au, ms⟩ = T :: P) := rfl
      have HO0 : Hid (OwnV 9 (W.alloc (.cells #[.string (str T)] 9)) W.heap.size (.slice (some ⟨W.heap.size, 0, none⟩) 1 1) ([str T].map sv)) := own_text W _
      have HBW : Hid (Below w.heap.size w (W.alloc (.cells #[.string (str T)] 9))) := HB1.out.alloc HB1.out.size _
      have HKW : Hid (Blk (W.alloc (.cells #[.string (str T)] 9)) w.heap.size 38 #[.int .i64 3, .slice A l c, .slice A2 l2 c2, .string (str T), .slice A3 l3 c3, .int .i64 st, .int .i64 au, .string (str ms)]) := HK1.out.alloc _
      have HR3 : Hid (Reads (W.alloc (.cells #[.string (str T)] 9)) (W.alloc (.cells #[.string (str T)] 9)).heap.size 1 A3 l3 ((P.map str).map sv)) := by
        have hr := (HRP.out.below HBW.out).more HBW.out.size
        rw [HL3.out] at hr
        exact hr
      have hz3 : W.heap.size ≤ (W.alloc (.cells #[.string (str T)] 9)).heap.size := by simp
      clear h2 hwz
      obtain ⟨x0, x1, x2, x3, x4, x5, x6, x7⟩ := box_cells HK1.out
      obtain ⟨z0, z1, z2, z3, z4, z5, z6, z7⟩ := box_cells HKW.out
      go_enter Try.func17, Try.ntmps17
      have hsm : [str T].length + l3 ≤ 2000000 := by simp; omega
      go_upto_region 9 with (fail)
      rw [← hW]
      clear hW
      go_wp2_with (at_builtin; refine Tx.append_texts rfl (.tmp 29) (.tmp 31) rfl _ W.heap.size (.slice (some ⟨W.heap.size, 0, none⟩) 1 1) [str T] rfl HO0.out _ A3 l3 c3 (P.map str) rfl HR3.out hsm hz3 ?_; intro v4 w4 ho4 hb4; have HO4 := Lib.hid ho4; have HB4 := Lib.hid hb4; clear ho4 hb4)
      go_ret
      refine ⟨v4, rfl, ?_, HBW.out.trans (HB4.out.mono HB1.out.size)⟩
      have h4 := (HO4.out).base HB1.out.size
      rw [HEN.out]
      exact h4
    · have e3 : (k0 == 3) = false := beq_eq_false_iff_ne.2 h3
      have HEN : Hid (refsL ⟨k0, D, I, T, P, st, au, ms⟩ = []) := by unfold Hid refsL; rw [if_neg h2, if_neg h3]
      clear h2 h3
      go_enter Try.func17, Try.ntmps17
      go_wp2_with fail
      go_ret
      refine ⟨_, rfl, ?_, HB1.out⟩
      rw [HEN.out]
      exact OwnV.nil_ _ _
end Go.Proofs.Yteffiedolcjjlaa.Ob
