/- Texts put together: WGs4, WGs5. -/
import Derived.Test.YtpfjlhpahmhkhaaGreatQf25
/- Package fsim: the file that stands at a path. -/
namespace Go.Proofs.YtpfjlhpahmhkhaaGreat.Tx
open Go.RowKit Go.Maps Go.Proofs.YtpfjlhpahmhkhaaGreat.Sh

theorem peek_row {R : List RowM} (ho : Ord R) {r : RowM} (hr : r ∈ R) : peekF R r.path = r.f ∧ peekB R r.path = true := by
  have hb : peekB R r.path = true := by unfold peekB; rw [← stands_find]; exact stands_iff.2 ⟨r, hr, rfl⟩
  refine ⟨?_, hb⟩
  unfold peekF
  cases hf : findM R r.path with
  | none => unfold peekB at hb; rw [hf] at hb; cases hb
  | some i =>
    obtain ⟨r', hr', hp⟩ := find_at hf
    show rowF R i = r.f
    unfold rowF
    rw [hr']
    show r'.f = r.f
    rw [ord_one ho (List.mem_of_getElem? hr') hr hp]
theorem peek_none {R : List RowM} {p : List UInt8} (h : standsM R p = false) : peekF R p = ⟨0, [], 0⟩ ∧ peekB R p = false := by
  have hb : (findM R p).isSome = false := by rw [← stands_find]; exact h
  refine ⟨?_, hb⟩
  unfold peekF
  cases hf : findM R p with
  | none => rfl
  | some i => rw [hf] at hb; cases hb
theorem peek_short {R : List RowM} (hR : ∀ r ∈ R, ShortR r) (p : List UInt8) : (peekF R p).data.length ≤ 20000 := by
  cases h : standsM R p with
  | false => rw [(peek_none h).1]; exact Nat.zero_le _
  | true =>
    unfold peekF
    cases hf : findM R p with
    | none => exact Nat.zero_le _
    | some i =>
      obtain ⟨r', hr', hp⟩ := find_at hf
      show (rowF R i).data.length ≤ _
      unfold rowF
      rw [hr']
      exact (hR r' (List.mem_of_getElem? hr')).2
/-- A look-up of a file, whether it stands or not. -/
theorem look_peek {F : Nat → Prop} {w : World} {R : List RowM} {D : DataW Value} (h : FilesOK F w R D) (ho : Ord R) (p : List UInt8) :
    ∃ (dA : Option Addr) (dc : Nat), By F w (.slice dA (peekF R p).data.length dc) (peekF R p).data ∧ (∀ v ps, hv v = some (D.atKey (.string p) (.held zeroFile), ps) → v = .agg #[.int .i64 (peekF R p).mode, .slice dA (peekF R p).data.length dc, .int .i64 (peekF R p).time]) ∧ Maps.has D (.string p) = peekB R p := by
  cases hs : standsM R p with
  | false =>
    obtain ⟨h1, h2⟩ := peek_none hs
    rw [h1, h2]
    exact ⟨none, 0, By.nil_ _ _, fun v ps h' => look_miss h hs v ps h', by rw [h.has_]; exact hs⟩
  | true =>
    obtain ⟨r, hr, rfl⟩ := stands_iff.1 hs
    obtain ⟨h1, h2⟩ := peek_row ho hr
    obtain ⟨d, hd, hh⟩ := look_hit h hr
    obtain ⟨A, c, rfl, _, _⟩ := hd.slice
    rw [h1, h2]
    exact ⟨A, c, hd, hh, by rw [h.has_]; exact hs⟩

set_option maxRecDepth 100000 in
set_option maxHeartbeats 3200000 in
theorem peek_any {F M : Nat → Prop} {b : Nat} {c : CSt} {w : World} (p : List UInt8) (h : FcAt F w b c M) (hs : CSmall c) (hp : p.length ≤ 1000000) : Calls Tryz.prog 62 #[.pointer (some ⟨b, 0, none⟩), .string (str p)] w (PeekPost w (peekF c.here p) (peekB c.here p)) := by
  obtain ⟨x, hX, _⟩ := h
  have hdl := peek_short hs.hrow p
  obtain ⟨wa, hwa⟩ : ∃ wa, wa = w.alloc (.cells #[.int .i64 0, .slice none 0 0, .int .i64 0] 122) := ⟨_, rfl⟩
  have hBa : Below w.heap.size w wa := by rw [hwa]; exact (Below.refl _ _).alloc (Nat.le_refl _) _
  have hba : Blk wa w.heap.size 122 #[.int .i64 0, .slice none 0 0, .int .i64 0] := by rw [hwa]; exact Blk.new _ _ _
  have hXa := hX.below hBa
  have c6 : wa.cell? ⟨b, 6, none⟩ = some (.pointer (some ⟨x.here, 0, none⟩)) := hXa.blk.cell 6
  have c0 : wa.cell? ⟨x.here, 0, none⟩ = some (.map (some x.hf)) := hXa.here.blk.cell 0
  obtain ⟨D, hown, hfo⟩ := hXa.here.files
  obtain ⟨dA, dc, hby, hlook, hhas⟩ := look_peek hfo hX.here.ord p
  obtain ⟨f, hf⟩ : ∃ f, peekF c.here p = f := ⟨_, rfl⟩
  obtain ⟨t, ht⟩ : ∃ t, peekB c.here p = t := ⟨_, rfl⟩
  rw [hf] at hby hlook hdl ⊢
  rw [ht] at hhas ⊢
  obtain ⟨l, hl⟩ : ∃ l, f.data.length = l := ⟨_, rfl⟩
  rw [hl] at hby hlook hdl
  have HL := Lib.hid hl
  have HOWN := Lib.hid hown
  have HLOOK := Lib.hid hlook
  have HBY := Lib.hid hby
  have HKEY := Lib.hid (key_str p hp)
  have HBA := Lib.hid hBa
  have HBLK := Lib.hid hba
  clear hX hBa hba hXa hown hfo hby hlook hf ht hs hl
  obtain ⟨wb, hwb⟩ : ∃ wb, wb = wa.alloc (.cells #[.int .i64 f.mode, .slice dA l dc, .int .i64 f.time] 122) := ⟨_, rfl⟩
  have hBb : Below wa.heap.size wa wb := by rw [hwb]; exact (Below.refl _ _).alloc (Nat.le_refl _) _
  have hbox : Blk wb wa.heap.size 122 #[.int .i64 f.mode, .slice dA l dc, .int .i64 f.time] := by rw [hwb]; exact Blk.new _ _ _
  have hzw : w.heap.size < wa.heap.size := HBLK.out.lt
  have hzb : wa.heap.size < wb.heap.size := hbox.lt
  have b1 : wb.cell? ⟨wa.heap.size, 1, none⟩ = some (.slice dA l dc) := hbox.cell 1
  have hbyb := HBY.out.only (Only.of_below (M := fun _ => False) hBb) (fun _ _ => id)
  have HBYB : Hid (SlV wb (.slice dA l dc) (f.data.map bv)) := Rd.slv (by rw [List.length_map]; exact hbyb)
  have HBX := Lib.hid hbox
  have HBr := Lib.hid (HBLK.out.below hBb hzw)
  have HBb := Lib.hid (HBA.out.trans (hBb.mono (Nat.le_of_lt hzw)))
  clear hBb hbox hbyb
  go_enter Tryz.func62, Tryz.ntmps62
  go_upto_region 1 with (fail)
  rw [← hwa]
  clear hwa
  go_upto_region 2 with (first | fail | (at_lookup; refine wpList_lookup_own_ok _ rfl _ _ 239 rfl 9 122 lawS Tryz.underlying239 hv (zeroF _) (.held zeroFile) [] rfl x.hf _ D rfl (by exact HOWN.out) _ (.string p) rfl (by exact HKEY.out) ?_; intro v ps hv'; obtain rfl := HLOOK.out v ps hv'; rw [hhas]; clear hv'))
  rw [← hwb]
  clear hwb c6 c0
  go_wp2_with fail
  refine (bclone_any _ f.data _ HBYB.out (by rw [HL.out]; omega)).mono ?_
  rintro e w4 ⟨v4, rfl, ho4, hb4⟩
  obtain ⟨A4, c4, rfl, _, _⟩ := ho4.length
  rw [List.length_map, HL.out] at ho4 ⊢
  have hk4 := HBX.out.below hb4 hzb
  have z4f : w4.frozen? ⟨wa.heap.size, 1, none⟩ = false := hk4.frozen 1
  have z4 : w4.cell? ⟨wa.heap.size, 1, none⟩ = some (.slice dA l dc) := hk4.cell 1
  have HK4 := Lib.hid (hk4.set_ 1 (.slice A4 l c4))
  have HR4 := Lib.hid ((HBr.out.below hb4 (Nat.lt_trans hzw hzb)).far (p := ⟨wa.heap.size, 1, none⟩) (Nat.ne_of_lt hzw) (.slice A4 l c4))
  have HO4 := Lib.hid (ho4.apart (p := ⟨wa.heap.size, 1, none⟩) (fun e => by have h := (ho4.lt _ e).1; have h2 : wb.heap.size ≤ wa.heap.size := h; omega) (.slice A4 l c4))
  have HB4 := Lib.hid ((HBb.out.trans (hb4.mono (Nat.le_of_lt (Nat.lt_trans hzw hzb)))).setCell (p := ⟨wa.heap.size, 1, none⟩) (Nat.le_of_lt hzw) (.slice A4 l c4))
  clear ho4 hb4 hk4 b1
  go_upto_region 3 with (fail)
  generalize w4.setCell ⟨wa.heap.size, 1, none⟩ (.slice A4 l c4) = w5 at *
  have r0 : w5.cell? ⟨wa.heap.size, 0, none⟩ = some (.int .i64 f.mode) := HK4.out.cell 0
  have r1 : w5.cell? ⟨wa.heap.size, 1, none⟩ = some (.slice A4 l c4) := HK4.out.cell 1
  have r2 : w5.cell? ⟨wa.heap.size, 2, none⟩ = some (.int .i64 f.time) := HK4.out.cell 2
  have a0 : w5.cell? ⟨w.heap.size, 0, none⟩ = some (.int .i64 0) := HR4.out.cell 0
  have a1 : w5.cell? ⟨w.heap.size, 1, none⟩ = some (.slice none 0 0) := HR4.out.cell 1
  have a2 : w5.cell? ⟨w.heap.size, 2, none⟩ = some (.int .i64 0) := HR4.out.cell 2
  have f0 : w5.frozen? ⟨w.heap.size, 0, none⟩ = false := HR4.out.frozen 0
  have f1 : w5.frozen? ⟨w.heap.size, 1, none⟩ = false := HR4.out.frozen 1
  have f2 : w5.frozen? ⟨w.heap.size, 2, none⟩ = false := HR4.out.frozen 2
  have hbc : Blk (((w5.setCell ⟨w.heap.size, 0, none⟩ (.int .i64 f.mode)).setCell ⟨w.heap.size, 1, none⟩ (.slice A4 l c4)).setCell ⟨w.heap.size, 2, none⟩ (.int .i64 f.time)) w.heap.size 122 #[.int .i64 f.mode, .slice A4 l c4, .int .i64 f.time] := ((HR4.out.set_ 0 (.int .i64 f.mode)).set_ 1 (.slice A4 l c4)).set_ 2 (.int .i64 f.time)
  have hBc : Below w.heap.size w (((w5.setCell ⟨w.heap.size, 0, none⟩ (.int .i64 f.mode)).setCell ⟨w.heap.size, 1, none⟩ (.slice A4 l c4)).setCell ⟨w.heap.size, 2, none⟩ (.int .i64 f.time)) := ((HB4.out.setCell (p := ⟨w.heap.size, 0, none⟩) (Nat.le_refl _) _).setCell (p := ⟨w.heap.size, 1, none⟩) (Nat.le_refl _) _).setCell (p := ⟨w.heap.size, 2, none⟩) (Nat.le_refl _) _
  have hne : ∀ k, (Value.slice A4 l c4).ownBlock ≠ some (⟨w.heap.size, k, none⟩ : Addr).block := fun k e => by
    have h := (HO4.out.lt _ e).1
    have h2 : wb.heap.size ≤ w.heap.size := h
    omega
  have hoc : OwnV 5 (((w5.setCell ⟨w.heap.size, 0, none⟩ (.int .i64 f.mode)).setCell ⟨w.heap.size, 1, none⟩ (.slice A4 l c4)).setCell ⟨w.heap.size, 2, none⟩ (.int .i64 f.time)) wb.heap.size (.slice A4 l c4) (f.data.map bv) := ((HO4.out.apart (hne 0) _).apart (hne 1) _).apart (hne 2) _
  have HBC := Lib.hid hbc
  have HBB := Lib.hid hBc
  have HOC := Lib.hid hoc
  clear hbc hBc hoc hne
  go_wp2_with fail
  generalize ((w5.setCell ⟨w.heap.size, 0, none⟩ (.int .i64 f.mode)).setCell ⟨w.heap.size, 1, none⟩ (.slice A4 l c4)).setCell ⟨w.heap.size, 2, none⟩ (.int .i64 f.time) = wc at *
  have q0 : wc.cell? ⟨w.heap.size, 0, none⟩ = some (.int .i64 f.mode) := HBC.out.cell 0
  have q1 : wc.cell? ⟨w.heap.size, 1, none⟩ = some (.slice A4 l c4) := HBC.out.cell 1
  have q2 : wc.cell? ⟨w.heap.size, 2, none⟩ = some (.int .i64 f.time) := HBC.out.cell 2
  refine bodyPost_ret (v := .tuple #[.agg #[.int .i64 f.mode, .slice A4 l c4, .int .i64 f.time], .bool t]) (by simp [results, Tryz.results62, go_sem, q0, q1, q2]) rfl ⟨_, rfl, ⟨_, rfl, HOC.out.base (by omega)⟩, HBB.out⟩
end Go.Proofs.YtpfjlhpahmhkhaaGreat.Tx
/- Package fsim: what a user did is kept. -/
namespace Go.Proofs.YtpfjlhpahmhkhaaGreat.Tx
open Go.RowKit Go.Maps Go.Proofs.YtpfjlhpahmhkhaaGreat.Sh

section
variable {F F' M : Nat → Prop} {w w' wf : World} {b : Nat} {c c' : CSt} {x x' : FcV}
/-- Another slice of what users did, in its row or in a new one. -/
theorem FcX.users_ (hX : FcX F w b c x) (hM : ∀ k, M k ↔ fcM b x k) {wl w5 : World} {v5 : Value} {p' : List EvM} (hl : Below w.heap.size w wl) (hg : wl.grownBy w5 x.users.ownBlock) (hown : OwnL evK 143 F w5 0 v5 p') (hk : v5.ownBlock = x.users.ownBlock ∨ v5.ownBlock = some wl.heap.size ∨ v5.ownBlock = none) :
    FcPost F M w b { c with users := p' } (w5.setCell ⟨b, 5, none⟩ v5) := by
  have hz2 := hl.size
  have hz3 := hg.size
  have hbw : b < w.heap.size := hX.blk.lt
  have o5 : Only (fun k => x.users.ownBlock = some k) w w5 := (Only.of_below hl).trans (M' := fun k => x.users.ownBlock = some k) ⟨hg.os, hg.tape, hg.output, hg.size, fun k hk hn => hg.block k hk (fun e => hn e.symm)⟩ (fun k hk => .inl hk)
  have ow : Only (fun k => k = b ∨ x.users.ownBlock = some k) w (w5.setCell ⟨b, 5, none⟩ v5) := Only.set_ (M := fun k => k = b ∨ x.users.ownBlock = some k) (g := b) (i := 5) (o5.more (fun k _ h => .inr h)) (.inl (.inl rfl)) v5
  have hF : ∀ k, F k → ¬ (k = b ∨ x.users.ownBlock = some k) := fun k hk e => by
    rcases e with e | e
    · exact hX.Fb k hk e
    · exact hX.users.2 k e hk
  have hblk5 : Blk w5 b 135 (fcC c x) := (hX.blk.below hl hbw).grown hg (fun e => hX.ub e.symm)
  have hvb : v5.ownBlock ≠ some b := fun e => by
    obtain ⟨cs, hc⟩ := hown.blk e
    exact hc.ne_ hblk5 (by decide) rfl
  refine fc_fin (x' := { x with users := v5 }) hX hM (ow.more (fun k _ h => ?_)) (fun k hk' => ?_) (hblk5.set_ 5 v5) ?_ ?_ ?_ ?_ ?_ hX.apart
  · rcases h with h | h
    · exact .inl h
    · exact .inr (.inr (.inr (.inr h)))
  · rcases hk' with h | h | h | h | h
    · exact .inl (.inl h)
    · exact .inl (.inr (.inl h))
    · exact .inl (.inr (.inr (.inl h)))
    · exact .inl (.inr (.inr (.inr (.inl h))))
    · have h' : v5.ownBlock = some k := h
      rcases hk with e | e | e
      · exact .inl (.inr (.inr (.inr (.inr (by rw [← e]; exact h')))))
      · right
        rw [e] at h'
        injection h' with h'
        omega
      · rw [e] at h'; cases h'
  · exact hX.hereG ow hF (fun k hk e => by
      rcases e with e | e
      · exact hX.hb (e ▸ hk)
      · exact hX.hu' k hk e)
  · exact hX.durG ow hF (fun k hk e => by
      rcases e with e | e
      · exact hX.db (e ▸ hk)
      · exact hX.du' k hk e)
  · exact hX.pendG ow hF (fun k hk e => by
      rcases e with e | e
      · exact hX.pb (e ▸ hk)
      · exact hX.pu k hk e) (fun k hk => .inr (.inr (.inr (.inl hk))))
  · exact hX.planG ow hF
  · refine (hown.only (M := fun k => k = b) (Only.set_ (M := fun k => k = b) (g := b) (i := 5) (Only.refl _ w5) (.inl rfl) v5) hX.Fb (fun k hk e => hvb (by rw [hk, e]))).toG (fun k _ h => .inl h) (fun k hk => .inr (.inr (.inr (.inr hk)))) hown.2
end
abbrev EvsF (F : Nat → Prop) (w : World) (v : Value) (l : List EvM) : Prop := TmpL evK F w v l
theorem evs_slice {F : Nat → Prop} {w : World} {v : Value} {l : List EvM} (h : EvsF F w v l) : ∃ A c, v = .slice A l.length c ∧ l.length ≤ c ∧ c ≤ maxLen := h.slice
def noteC (c : CSt) (e : EvM) : CSt := settleC { c with users := c.users ++ [{ e with at_ := c.calls }] }
theorem settle_users {c : CSt} (l : List EvM) (hs : CSmall c) (h : l.length ≤ 900000) : CSmall { c with users := l } := ⟨hs.here, hs.both, h, hs.time, hs.hused, hs.hrow, hs.drow, hs.prow⟩

set_option maxRecDepth 100000 in
set_option maxHeartbeats 6400000 in
theorem note_any (F M : Nat → Prop) (b : Nat) (c : CSt) (e0 : EvM) (d : Value) (w : World) (h : FcAt F w b c M) (hd : By F w d e0.data) (hs : CSmall c) (hn : c.users.length ≤ 800000) :
    Calls Tryz.prog 72 #[.pointer (some ⟨b, 0, none⟩), .agg #[.int .i64 e0.at_, .int .i64 e0.kind, .int .i64 e0.mode, .int .i64 e0.keep, .int .i64 e0.torn, .string (str e0.path), d]] w fun e w' => e = .returned (.tuple #[]) ∧ FcPost F M w b (noteC c e0) w' := by
  have HAT := Lib.hid h
  obtain ⟨x, hX, hM⟩ := h
  obtain ⟨dA, dc, rfl, _, _⟩ := hd.slice
  obtain ⟨dl, hdl⟩ : ∃ dl, e0.data.length = dl := ⟨_, rfl⟩
  rw [hdl] at hd ⊢
  obtain ⟨wb, hwb⟩ : ∃ wb, wb = w.alloc (.cells #[.int .i64 e0.at_, .int .i64 e0.kind, .int .i64 e0.mode, .int .i64 e0.keep, .int .i64 e0.torn, .string (str e0.path), .slice dA dl dc] 143) := ⟨_, rfl⟩
  have hB : Below w.heap.size w wb := by rw [hwb]; exact (Below.refl _ _).alloc (Nat.le_refl _) _
  have hbox : Blk wb w.heap.size 143 #[.int .i64 e0.at_, .int .i64 e0.kind, .int .i64 e0.mode, .int .i64 e0.keep, .int .i64 e0.torn, .string (str e0.path), .slice dA dl dc] := by rw [hwb]; exact Blk.new _ _ _
  have hblt := hX.blk.lt
  have hne : w.heap.size ≠ b := by omega
  obtain ⟨cn, hcn⟩ : ∃ cn, c.calls = cn := ⟨_, rfl⟩
  have z0 : wb.frozen? ⟨w.heap.size, 0, none⟩ = false := hbox.frozen 0
  have z1 : wb.cell? ⟨w.heap.size, 0, none⟩ = some (.int .i64 e0.at_) := hbox.cell 0
  have HBOX1 : Hid (Blk (wb.setCell ⟨w.heap.size, 0, none⟩ (.int .i64 cn)) w.heap.size 143 #[.int .i64 cn, .int .i64 e0.kind, .int .i64 e0.mode, .int .i64 e0.keep, .int .i64 e0.torn, .string (str e0.path), .slice dA dl dc]) := hbox.set_ 0 _
  have hB1 : Below w.heap.size w (wb.setCell ⟨w.heap.size, 0, none⟩ (.int .i64 cn)) := hB.setCell (p := ⟨w.heap.size, 0, none⟩) (Nat.le_refl _) _
  have HB1 := Lib.hid hB1
  have HX1 := Lib.hid (hX.below hB1)
  have HX := Lib.hid hX
  have HMM := Lib.hid hM
  have HCN := Lib.hid hcn
  have HD : Hid (By F (wb.setCell ⟨w.heap.size, 0, none⟩ (.int .i64 cn)) (.slice dA dl dc) e0.data) := (by rw [← hdl] at hd ⊢; exact hd.only (Only.of_below (M := fun _ => False) hB1) (fun _ _ => id))
  have HS := Lib.hid hs
  have HN := Lib.hid hn
  have HAB := Lib.hid (HAT.out.below hB)
  clear hX hM hB hbox hcn hd hs hn hB1 hdl
  go_enter Tryz.func72, Tryz.ntmps72
  go_upto_region 1 with (fail)
  rw [← hwb]
  clear hwb
  go_upto_region 2 with (go_at_call 97; refine (calls_any HAB.out).mono ?_; rintro e w' ⟨rfl, rfl⟩; rw [HCN.out])
  generalize wb.setCell ⟨w.heap.size, 0, none⟩ (.int .i64 cn) = w2 at *
  have hbx := HBOX1.out
  obtain ⟨r0, r1, r2, r3, r4, r5, r6⟩ : w2.cell? ⟨w.heap.size, 0, none⟩ = some (.int .i64 cn) ∧ w2.cell? ⟨w.heap.size, 1, none⟩ = some (.int .i64 e0.kind) ∧ w2.cell? ⟨w.heap.size, 2, none⟩ = some (.int .i64 e0.mode) ∧ w2.cell? ⟨w.heap.size, 3, none⟩ = some (.int .i64 e0.keep) ∧ w2.cell? ⟨w.heap.size, 4, none⟩ = some (.int .i64 e0.torn) ∧ w2.cell? ⟨w.heap.size, 5, none⟩ = some (.string (str e0.path)) ∧ w2.cell? ⟨w.heap.size, 6, none⟩ = some (.slice dA dl dc) := ⟨hbx.cell 0, hbx.cell 1, hbx.cell 2, hbx.cell 3, hbx.cell 4, hbx.cell 5, hbx.cell 6⟩
  have p8 : w2.cell? ⟨b, 5, none⟩ = some x.users := HX1.out.blk.cell 5
  clear hbx z0 z1
  have HPA := Lib.hid (HX1.out.users.alloc (.cells #[.int .i64 cn, .int .i64 e0.kind, .int .i64 e0.mode, .int .i64 e0.keep, .int .i64 e0.torn, .string (str e0.path), .slice dA dl dc] 143))
  have HPD := Lib.hid (HX1.out.users.drew.alloc (.cells #[.int .i64 cn, .int .i64 e0.kind, .int .i64 e0.mode, .int .i64 e0.keep, .int .i64 e0.torn, .string (str e0.path), .slice dA dl dc] 143))
  have HLA := Lib.hid (TmpL.one (K := evK) (F := F) (a := ({ e0 with at_ := cn } : EvM)) (d := .slice dA dl dc) (Blk.new w2 143 #[.int .i64 cn, .int .i64 e0.kind, .int .i64 e0.mode, .int .i64 e0.keep, .int .i64 e0.torn, .string (str e0.path), .slice dA dl dc]) rfl (HD.out.only ((Only.refl (fun _ => False) w2).alloc _) (fun _ _ => id)))
  have HLD := Lib.hid (TmpL.one (K := evK) (F := F) (a := ({ e0 with at_ := cn } : EvM)) (d := .slice dA dl dc) (Blk.new w2.drew 143 #[.int .i64 cn, .int .i64 e0.kind, .int .i64 e0.mode, .int .i64 e0.keep, .int .i64 e0.torn, .string (str e0.path), .slice dA dl dc]) rfl (HD.out.only (((Only.refl (fun _ => False) w2).drew).alloc _) (fun _ _ => id)))
  have HFP : Hid (∀ k, F k → k < (w2.alloc (.cells #[.int .i64 cn, .int .i64 e0.kind, .int .i64 e0.mode, .int .i64 e0.keep, .int .i64 e0.torn, .string (str e0.path), .slice dA dl dc] 143)).heap.size) := fun k hk => by have := HX1.out.low k hk; simp; omega
  have s1 : Hid (c.users.length + [({ e0 with at_ := cn } : EvM)].length ≤ 2000000) := by unfold Hid; have := HN.out; simp; omega
  have p8a : (w2.alloc (.cells #[.int .i64 cn, .int .i64 e0.kind, .int .i64 e0.mode, .int .i64 e0.keep, .int .i64 e0.torn, .string (str e0.path), .slice dA dl dc] 143)).cell? ⟨b, 5, none⟩ = some x.users := (HX1.out.blk.alloc _).cell 5
  go_cut [] (fun wx => ∃ wl w5 v5, wx = w5.setCell ⟨b, 5, none⟩ v5 ∧ Below w2.heap.size w2 wl ∧ wl.grownBy w5 x.users.ownBlock ∧ OwnL evK 143 F w5 0 v5 (c.users ++ [({ e0 with at_ := cn } : EvM)]) ∧ (v5.ownBlock = x.users.ownBlock ∨ v5.ownBlock = some wl.heap.size))
  case first =>
    go_region_law (refine step_appendL typed_fe (v := x.users) (ex := .slice (some ⟨w2.heap.size, 0, none⟩) 1 1) (l2 := [({ e0 with at_ := cn } : EvM)]) rfl (.tmp 11) (.tmp 13) rfl (by first | exact HPA.out.drew | exact HPA.out | exact HPD.out) (by first | exact HLA.out.drew | exact HLA.out | exact HLD.out) (by rfl) (by rfl) s1.out (by exact Nat.zero_le _) (by exact HFP.out) ?_; intro v5 w5 ho5 hg5 hk5; obtain ⟨A5, c5, hv5, _, _⟩ := evs_slice ho5.tmp; subst hv5; have hb5 : Blk w5 b 135 (fcC c x) := (HX1.out.blk.alloc _).drew.grown hg5 (fun e => HX1.out.ub e.symm); have y3 : w5.cell? ⟨b, 5, none⟩ = some x.users := hb5.cell 5; have y3f : w5.frozen? ⟨b, 5, none⟩ = false := hb5.frozen 5; have HO5 := Lib.hid ho5; have HG5 := Lib.hid hg5; have HK5 := Lib.hid hk5; clear ho5 hg5 hk5 hb5)
    all_goals
      go_wp2_with fail
      go_meet
      exact ⟨_, _, _, rfl, ((Below.refl _ _).alloc (Nat.le_refl _) _).drew, HG5.out, HO5.out, HK5.out⟩
  case rest =>
    obtain ⟨wl, w5, v5, rfl, hl5, hg5, ho5, hk5⟩ := hcut
    have hpo := HX1.out.users_ HMM.out hl5 hg5 ho5 (hk5.imp id .inl)
    obtain ⟨M1, hat1, hon1, hsub1⟩ := hpo
    have HA1 := Lib.hid hat1
    have HO1 := Lib.hid hon1
    have HS1 := Lib.hid hsub1
    clear hat1 hon1 hsub1 hl5 hg5 ho5 hk5 r0 r1 r2 r3 r4 r5 r6 p8 p8a
    go_wp2_with fail
    refine (settle_any _ M1 b _ _ HA1.out (settle_users _ HS.out (by have := HN.out; simp; omega))).mono ?_
    rintro e w6 ⟨rfl, hp6⟩
    have HP6 := Lib.hid (FcPost.of_below HB1.out (FcPost.trans HO1.out HS1.out hp6))
    clear hp6
    go_wp2_with fail
    go_end0
    refine ⟨rfl, ?_⟩
    have h6 := HP6.out
    rw [← HCN.out] at h6
    exact h6
end Go.Proofs.YtpfjlhpahmhkhaaGreat.Tx
