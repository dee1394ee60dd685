/- Texts put together: WFx20, WFx21, WGs3. -/
import Derived.Test.YtpfjlhpahmhkhaaGreatQf24
/- The reference's file system: Read. -/
namespace Go.Proofs.YtpfjlhpahmhkhaaGreat.Tx
open Go.RowKit Go.Proofs.YtpfjlhpahmhkhaaGreat.Sh

def readE (st : FSM) (p : List UInt8) : Int := if beginE st = 0 then (if pathB p = false then 6 else if peekB (beginM st).st.now p = true then 0 else 7) else beginE st
def readF (st : FSM) (p : List UInt8) : FileM := if readE st p = 0 then peekF (beginM st).st.now p else ⟨0, [], 0⟩
/-- A file was given, beside a file system. -/
def ReadPost (F M : Nat → Prop) (w : World) (b : Nat) (s : FSM) (n : Int) (f : FileM) (e : Ending) (w' : World) : Prop :=
  ∃ u v M', e = .returned (.tuple #[u, .int .i64 n]) ∧ u = .agg #[.int .i64 f.mode, v, .int .i64 f.time] ∧ RefAt (grow F w w' M') w' b s M' ∧ Only M w w' ∧ (∀ k, M' k → M k ∨ w.heap.size ≤ k) ∧ By (grow F w w' M') w' v f.data
theorem set3 {W : World} {r : Nat} {T : TypeId} {x0 x1 x2 : Value} (h : Blk W r T #[x0, x1, x2]) (a b c : Value) :
    Blk (((W.setCell ⟨r, 0, none⟩ a).setCell ⟨r, 1, none⟩ b).setCell ⟨r, 2, none⟩ c) r T #[a, b, c] ∧ Only (fun k => k = r) W (((W.setCell ⟨r, 0, none⟩ a).setCell ⟨r, 1, none⟩ b).setCell ⟨r, 2, none⟩ c) :=
  ⟨((h.set_ 0 a).set_ 1 b).set_ 2 c, Only.set_ (M := fun k => k = r) (g := r) (i := 2) (Only.set_ (M := fun k => k = r) (g := r) (i := 1) (Only.set_ (M := fun k => k = r) (g := r) (i := 0) (Only.refl _ W) (.inl rfl) a) (.inl rfl) b) (.inl rfl) c⟩
theorem RefAt.mlt {F M : Nat → Prop} {w : World} {b : Nat} {st : FSM} (h : RefAt F w b st M) (k : Nat) (hk : M k) : k < w.heap.size := by
  obtain ⟨x, hX, hM⟩ := h
  exact hX.lt k ((hM k).1 hk)
theorem RefAt.flt {F M : Nat → Prop} {w : World} {b : Nat} {st : FSM} (h : RefAt F w b st M) (k : Nat) (hk : F k) : k < w.heap.size := by
  obtain ⟨x, hX, _⟩ := h
  exact hX.low k hk
theorem read_fin {F M M1 : Nat → Prop} {w wa w1 w' : World} {b : Nat} {s : FSM} (hwa : Below w.heap.size w wa) (hz : w.heap.size < wa.heap.size) (hat : RefAt (grow F wa w1 M1) w1 b s M1) (hon : Only M wa w1) (hsub : ∀ k, M1 k → M k ∨ wa.heap.size ≤ k)
    (hr : Only (fun k => k = w.heap.size) w1 w') (hF : ∀ k, F k → k < w.heap.size) (hM : ∀ k, M k → k < w.heap.size) :
    RefAt (grow F w w' M1) w' b s M1 ∧ Only M w w' ∧ ∀ k, M1 k → M k ∨ w.heap.size ≤ k := by
  obtain ⟨x, hX, hX2⟩ := hat
  have hz1 := hon.size
  have hz2 := hr.size
  have hne : ∀ k, M1 k → ¬ (k = w.heap.size) := fun k hk e => by
    rcases hsub k hk with h | h
    · have := hM k h; omega
    · omega
  have h1 : RefX (grow F wa w1 M1) w' b s x := hX.only hr (fun k hk e => by
    rcases hk with hk | ⟨g1, _, _⟩
    · have := hF k hk; omega
    · omega) (fun k hk => hne k ((hX2 k).2 hk))
  refine ⟨⟨x, h1.mono (F' := grow F w w' M1) (fun k hk => ?_) (fun k hk hm => ?_) (fun k hk => ?_), hX2⟩, ((Only.of_below hwa).trans hon (fun k hk => .inl hk)).trans hr (fun k hk => .inr (by rw [hk]; exact Nat.le_refl _)), fun k hk => (hsub k hk).imp id (fun h => by omega)⟩
  · rcases hk with hk | ⟨g1, g2, g3⟩
    · exact .inl hk
    · exact .inr ⟨by omega, by omega, g3⟩
  · rcases hk with hk | ⟨_, _, g3⟩
    · exact hX.apart k (.inl hk) hm
    · exact g3 ((hX2 k).2 hm)
  · rcases hk with hk | ⟨_, g2, _⟩
    · have := hF k hk; omega
    · exact g2

set_option maxRecDepth 100000 in
set_option maxHeartbeats 3200000 in
theorem rread_any (F M : Nat → Prop) (b : Nat) (st : FSM) (N : Nat) (p : List UInt8) (w : World) (h : RefAt F w b st M) (hr : Ready st N) (hp : p.length ≤ 1000000) :
    Calls Tryz.prog 86 #[.pointer (some ⟨b, 0, none⟩), .string (str p)] w (ReadPost F M w b (beginM st).st (readE st p) (readF st p)) := by
  have HR := Lib.hid hr
  have HS := Lib.hid hr.small
  have HLF := Lib.hid h.flt
  have HLM := Lib.hid h.mlt
  obtain ⟨wa, hwa⟩ : ∃ wa, wa = w.alloc (.cells #[.int .i64 0, .slice none 0 0, .int .i64 0] 155) := ⟨_, rfl⟩
  have hBa : Below w.heap.size w wa := by rw [hwa]; exact (Below.refl _ _).alloc (Nat.le_refl _) _
  have hba : Blk wa w.heap.size 155 #[.int .i64 0, .slice none 0 0, .int .i64 0] := by rw [hwa]; exact Blk.new _ _ _
  have HZA : Hid (w.heap.size < wa.heap.size) := hba.lt
  have HBA := Lib.hid hBa
  have HBLK := Lib.hid hba
  have H := Lib.hid (h.below hBa)
  clear h hr hBa hba
  obtain ⟨be, hbe⟩ : ∃ be, beginE st = be := ⟨_, rfl⟩
  have HBE := Lib.hid hbe
  obtain ⟨tp, htp⟩ : ∃ t, pathB p = t := ⟨_, rfl⟩
  have HTP := Lib.hid htp
  clear hbe htp
  go_enter Tryz.func86, Tryz.ntmps86
  go_upto_region 1 with (fail)
  rw [← hwa]
  clear hwa
  go_wp2_with fail
  refine (rbegin_any F M b st N _ H.out HR.out.fits (by have := HR.out.big; omega) HR.out.calls HR.out.paths).mono ?_
  rintro e w1 ⟨rfl, hpost⟩
  rw [HBE.out]
  obtain ⟨s, hs⟩ : ∃ s, (beginM st).st = s := ⟨_, rfl⟩
  have HSS := Lib.hid hs
  rw [hs] at hpost
  obtain ⟨M1, hat, hon, hsub⟩ := hpost
  have HSM : Hid (Small s) := by rw [← hs]; exact HS.out
  have HAT := Lib.hid hat
  have HON := Lib.hid hon
  have HSUB := Lib.hid hsub
  have hb1 : Blk w1 w.heap.size 155 #[.int .i64 0, .slice none 0 0, .int .i64 0] := hon.blk HBLK.out (fun hm => by have := HLM.out _ hm; omega)
  have HB1 := Lib.hid hb1
  have hwl : w.heap.size < w1.heap.size := hb1.lt
  clear hat hon hsub hs hb1
  obtain ⟨fu, hfu⟩ : ∃ fu, (beginM st).full = fu := ⟨_, rfl⟩
  rw [hfu]
  clear hfu
  by_cases hb0 : be = 0
  · subst hb0
    go_wp2_with fail
    refine (rpath_any p _ hp).mono ?_
    rintro e w2 ⟨rfl, hb2⟩
    rw [HTP.out]
    have HB2 := Lib.hid hb2
    have HK2 := Lib.hid (HB1.out.below hb2 hwl)
    have hz2 := hb2.size
    clear hb2
    cases tp with
    | false =>
      have HE : Hid (readE st p = 6 ∧ readF st p = ⟨0, [], 0⟩) := by
        have h1 : readE st p = 6 := by unfold readE; rw [if_pos HBE.out, if_pos HTP.out]
        exact ⟨h1, by unfold readF; rw [h1, if_neg (by decide)]⟩
      have a0 : w2.cell? ⟨w.heap.size, 0, none⟩ = some (.int .i64 0) := HK2.out.cell 0
      have a1 : w2.cell? ⟨w.heap.size, 1, none⟩ = some (.slice none 0 0) := HK2.out.cell 1
      have a2 : w2.cell? ⟨w.heap.size, 2, none⟩ = some (.int .i64 0) := HK2.out.cell 2
      have f0 : w2.frozen? ⟨w.heap.size, 0, none⟩ = false := HK2.out.frozen 0
      have f1 : w2.frozen? ⟨w.heap.size, 1, none⟩ = false := HK2.out.frozen 1
      have f2 : w2.frozen? ⟨w.heap.size, 2, none⟩ = false := HK2.out.frozen 2
      have hs3 := set3 HK2.out (.int .i64 0) (.slice none 0 0) (.int .i64 0)
      have HBC := Lib.hid hs3.1
      have HON3 := Lib.hid ((Only.of_below HB2.out).trans hs3.2 (fun _ h => .inl h))
      clear hs3
      go_wp2_with fail
      generalize (((w2.setCell ⟨w.heap.size, 0, none⟩ (.int .i64 0)).setCell ⟨w.heap.size, 1, none⟩ (.slice none 0 0)).setCell ⟨w.heap.size, 2, none⟩ (.int .i64 0)) = wc at *
      have q0 : wc.cell? ⟨w.heap.size, 0, none⟩ = some (.int .i64 0) := HBC.out.cell 0
      have q1 : wc.cell? ⟨w.heap.size, 1, none⟩ = some (.slice none 0 0) := HBC.out.cell 1
      have q2 : wc.cell? ⟨w.heap.size, 2, none⟩ = some (.int .i64 0) := HBC.out.cell 2
      refine bodyPost_ret (v := .tuple #[.agg #[(.int .i64 0), (.slice none 0 0), (.int .i64 0)], .int .i64 6]) (by simp [results, Tryz.results86, go_sem, q0, q1, q2]) rfl ?_
      have hfin := read_fin HBA.out HZA.out HAT.out HON.out HSUB.out HON3.out HLF.out HLM.out
      refine ⟨_, _, M1, by rw [HE.out.1], by rw [HE.out.2], by rw [HSS.out]; exact hfin.1, hfin.2.1, hfin.2.2, ?_⟩
      rw [HE.out.2]
      exact By.nil_ _ _
    | true =>
      go_wp2_with fail
      refine (rpeek_any p (HAT.out.below HB2.out) HSM.out.ndat).mono ?_
      rintro e w3 ⟨u3, rfl, hfv, hb3⟩
      obtain ⟨v3, rfl, ho3⟩ := hfv
      have hb13 : Below w1.heap.size w1 w3 := HB2.out.trans (hb3.mono hz2)
      have HO3 := Lib.hid ho3
      obtain ⟨A3, c3, rfl, _, _⟩ := ho3.length
      rw [List.length_map] at HO3 ⊢
      obtain ⟨pf, hpf⟩ : ∃ pf, peekF s.now p = pf := ⟨_, rfl⟩
      obtain ⟨pb, hpb⟩ : ∃ pb, peekB s.now p = pb := ⟨_, rfl⟩
      have HPF := Lib.hid hpf
      have HPB := Lib.hid hpb
      rw [hpf] at HO3 ⊢
      rw [hpb]
      clear hpf hpb ho3
      obtain ⟨w4, hw4⟩ : ∃ w4, w4 = w3.alloc (.cells #[.int .i64 pf.mode, .slice A3 pf.data.length c3, .int .i64 pf.time] 155) := ⟨_, rfl⟩
      have hb34 : Below w3.heap.size w3 w4 := by rw [hw4]; exact (Below.refl _ _).alloc (Nat.le_refl _) _
      have hbx : Blk w4 w3.heap.size 155 #[.int .i64 pf.mode, .slice A3 pf.data.length c3, .int .i64 pf.time] := by rw [hw4]; exact Blk.new _ _ _
      have hz3 := hb13.size
      have HO4 := Lib.hid (HO3.out.below hb34)
      have HB14 := Lib.hid (hb13.trans (hb34.mono hz3))
      have HK4 := Lib.hid (HB1.out.below HB14.out hwl)
      have HX4 := Lib.hid hbx
      clear hb13 hb34 hbx hb3
      go_upto_region 7 with (fail)
      rw [← hw4]
      clear hw4
      have x0 : w4.cell? ⟨w3.heap.size, 0, none⟩ = some (.int .i64 pf.mode) := HX4.out.cell 0
      have x1 : w4.cell? ⟨w3.heap.size, 1, none⟩ = some (.slice A3 pf.data.length c3) := HX4.out.cell 1
      have x2 : w4.cell? ⟨w3.heap.size, 2, none⟩ = some (.int .i64 pf.time) := HX4.out.cell 2
      have a0 : w4.cell? ⟨w.heap.size, 0, none⟩ = some (.int .i64 0) := HK4.out.cell 0
      have a1 : w4.cell? ⟨w.heap.size, 1, none⟩ = some (.slice none 0 0) := HK4.out.cell 1
      have a2 : w4.cell? ⟨w.heap.size, 2, none⟩ = some (.int .i64 0) := HK4.out.cell 2
      have f0 : w4.frozen? ⟨w.heap.size, 0, none⟩ = false := HK4.out.frozen 0
      have f1 : w4.frozen? ⟨w.heap.size, 1, none⟩ = false := HK4.out.frozen 1
      have f2 : w4.frozen? ⟨w.heap.size, 2, none⟩ = false := HK4.out.frozen 2
      cases pb with
      | false =>
        have HE : Hid (readE st p = 7 ∧ readF st p = ⟨0, [], 0⟩) := by
          have h1 : readE st p = 7 := by unfold readE; rw [if_pos HBE.out, if_neg (by rw [HTP.out]; decide), HSS.out, if_neg (by rw [HPB.out]; decide)]
          exact ⟨h1, by unfold readF; rw [h1, if_neg (by decide)]⟩
        have hs3 := set3 HK4.out (.int .i64 0) (.slice none 0 0) (.int .i64 0)
        have HBC := Lib.hid hs3.1
        have HON3 := Lib.hid ((Only.of_below HB14.out).trans hs3.2 (fun _ h => .inl h))
        clear hs3
        go_wp2_with fail
        generalize (((w4.setCell ⟨w.heap.size, 0, none⟩ (.int .i64 0)).setCell ⟨w.heap.size, 1, none⟩ (.slice none 0 0)).setCell ⟨w.heap.size, 2, none⟩ (.int .i64 0)) = wc at *
        have q0 : wc.cell? ⟨w.heap.size, 0, none⟩ = some (.int .i64 0) := HBC.out.cell 0
        have q1 : wc.cell? ⟨w.heap.size, 1, none⟩ = some (.slice none 0 0) := HBC.out.cell 1
        have q2 : wc.cell? ⟨w.heap.size, 2, none⟩ = some (.int .i64 0) := HBC.out.cell 2
        refine bodyPost_ret (v := .tuple #[.agg #[(.int .i64 0), (.slice none 0 0), (.int .i64 0)], .int .i64 7]) (by simp [results, Tryz.results86, go_sem, q0, q1, q2]) rfl ?_
        have hfin := read_fin HBA.out HZA.out HAT.out HON.out HSUB.out HON3.out HLF.out HLM.out
        refine ⟨_, _, M1, by rw [HE.out.1], by rw [HE.out.2], by rw [HSS.out]; exact hfin.1, hfin.2.1, hfin.2.2, ?_⟩
        rw [HE.out.2]
        exact By.nil_ _ _
      | true =>
        have HE : Hid (readE st p = 0 ∧ readF st p = pf) := by
          have h1 : readE st p = 0 := by unfold readE; rw [if_pos HBE.out, if_neg (by rw [HTP.out]; decide), HSS.out, if_pos HPB.out]
          exact ⟨h1, by unfold readF; rw [h1, if_pos rfl, HSS.out, HPF.out]⟩
        have HBY := Lib.hid (OwnV.by_ (F := fun _ => False) HO4.out)
        have hs3 := set3 HK4.out (.int .i64 pf.mode) (.slice A3 pf.data.length c3) (.int .i64 pf.time)
        have HBC := Lib.hid hs3.1
        have HON3 := Lib.hid ((Only.of_below HB14.out).trans hs3.2 (fun _ h => .inl h))
        have HBYC := Lib.hid (HBY.out.only hs3.2 (fun k hk e => by
          rcases hk with hk | hk
          · exact hk
          · have := hk.1; omega))
        clear hs3
        go_wp2_with fail
        generalize (((w4.setCell ⟨w.heap.size, 0, none⟩ (.int .i64 pf.mode)).setCell ⟨w.heap.size, 1, none⟩ (.slice A3 pf.data.length c3)).setCell ⟨w.heap.size, 2, none⟩ (.int .i64 pf.time)) = wc at *
        have q0 : wc.cell? ⟨w.heap.size, 0, none⟩ = some (.int .i64 pf.mode) := HBC.out.cell 0
        have q1 : wc.cell? ⟨w.heap.size, 1, none⟩ = some (.slice A3 pf.data.length c3) := HBC.out.cell 1
        have q2 : wc.cell? ⟨w.heap.size, 2, none⟩ = some (.int .i64 pf.time) := HBC.out.cell 2
        refine bodyPost_ret (v := .tuple #[.agg #[(.int .i64 pf.mode), (.slice A3 pf.data.length c3), (.int .i64 pf.time)], .int .i64 0]) (by simp [results, Tryz.results86, go_sem, q0, q1, q2]) rfl ?_
        have hfin := read_fin HBA.out HZA.out HAT.out HON.out HSUB.out HON3.out HLF.out HLM.out
        refine ⟨_, _, M1, by rw [HE.out.1], by rw [HE.out.2], by rw [HSS.out]; exact hfin.1, hfin.2.1, hfin.2.2, ?_⟩
        rw [HE.out.2]
        refine HBYC.out.mono (fun k hk hf => ?_)
        rcases hf with hf | hf
        · exact hf.elim
        · exact .inr ⟨by have := hf.1; omega, hk, fun hm => by have := HAT.out.mlt k hm; have := hf.1; omega⟩
  · have e1 : (be == 0) = false := by rw [beq_eq_false_iff_ne]; exact hb0
    have HE : Hid (readE st p = be ∧ readF st p = ⟨0, [], 0⟩) := by
      have h1 : readE st p = be := by unfold readE; rw [HBE.out, if_neg hb0]
      exact ⟨h1, by unfold readF; rw [h1, if_neg hb0]⟩
    clear hb0
    have a0 : w1.cell? ⟨w.heap.size, 0, none⟩ = some (.int .i64 0) := HB1.out.cell 0
    have a1 : w1.cell? ⟨w.heap.size, 1, none⟩ = some (.slice none 0 0) := HB1.out.cell 1
    have a2 : w1.cell? ⟨w.heap.size, 2, none⟩ = some (.int .i64 0) := HB1.out.cell 2
    have f0 : w1.frozen? ⟨w.heap.size, 0, none⟩ = false := HB1.out.frozen 0
    have f1 : w1.frozen? ⟨w.heap.size, 1, none⟩ = false := HB1.out.frozen 1
    have f2 : w1.frozen? ⟨w.heap.size, 2, none⟩ = false := HB1.out.frozen 2
    have hs3 := set3 HB1.out (.int .i64 0) (.slice none 0 0) (.int .i64 0)
    have HBC := Lib.hid hs3.1
    have HON3 := Lib.hid ((Only.refl _ w1).trans hs3.2 (fun _ h => .inl h))
    clear hs3
    go_wp2_with fail
    generalize (((w1.setCell ⟨w.heap.size, 0, none⟩ (.int .i64 0)).setCell ⟨w.heap.size, 1, none⟩ (.slice none 0 0)).setCell ⟨w.heap.size, 2, none⟩ (.int .i64 0)) = wc at *
    have q0 : wc.cell? ⟨w.heap.size, 0, none⟩ = some (.int .i64 0) := HBC.out.cell 0
    have q1 : wc.cell? ⟨w.heap.size, 1, none⟩ = some (.slice none 0 0) := HBC.out.cell 1
    have q2 : wc.cell? ⟨w.heap.size, 2, none⟩ = some (.int .i64 0) := HBC.out.cell 2
    refine bodyPost_ret (v := .tuple #[.agg #[(.int .i64 0), (.slice none 0 0), (.int .i64 0)], .int .i64 be]) (by simp [results, Tryz.results86, go_sem, q0, q1, q2]) rfl ?_
    have hfin := read_fin HBA.out HZA.out HAT.out HON.out HSUB.out HON3.out HLF.out HLM.out
    refine ⟨_, _, M1, by rw [HE.out.1], by rw [HE.out.2], by rw [HSS.out]; exact hfin.1, hfin.2.1, hfin.2.2, ?_⟩
    rw [HE.out.2]
    exact By.nil_ _ _
end Go.Proofs.YtpfjlhpahmhkhaaGreat.Tx
/- The reference's file system: User, Plan. -/
namespace Go.Proofs.YtpfjlhpahmhkhaaGreat.Tx
open Go.RowKit Go.Proofs.YtpfjlhpahmhkhaaGreat.Sh

def UserPost (F : Nat → Prop) (w : World) (l : List EvM) (e : Ending) (w' : World) : Prop := ∃ v, e = .returned v ∧ OwnL evK 169 F w' w.heap.size v l ∧ Below w.heap.size w w'
set_option maxRecDepth 100000 in
set_option maxHeartbeats 1600000 in
theorem ruser_any {F M : Nat → Prop} {b : Nat} {st : FSM} {w : World} (h : RefAt F w b st M) (hn : st.user.length ≤ 1000000) : Calls Tryz.prog 111 #[.pointer (some ⟨b, 0, none⟩)] w (UserPost F w st.user) := by
  obtain ⟨x, hX, hM⟩ := h
  have hwa : Blk (w.alloc (.cells #[] 169)) b 140 (fsC st x) := hX.blk.alloc _
  have c8 : (w.alloc (.cells #[] 169)).cell? ⟨b, 8, none⟩ = some x.user := hwa.cell 8
  have HRE := Lib.hid (OwnL.empty (K := evK) (F := F) (B := w.heap.size) (Blk.new w 169 #[]) (Nat.le_refl _) (fun hk => by have := hX.low _ hk; omega))
  have HU := Lib.hid (hX.user.tmp.alloc (.cells #[] 169))
  have hz : w.heap.size ≤ (w.alloc (.cells #[] 169)).heap.size := ((Below.refl w.heap.size w).alloc (Nat.le_refl _) _).size
  have HZ := Lib.hid hz
  have HF : Hid (∀ k, F k → k < (w.alloc (.cells #[] 169)).heap.size) := fun k hk => Nat.lt_of_lt_of_le (hX.low k hk) hz
  have hsm : List.length (α := evK.α) [] + List.length (α := evK.α) st.user ≤ 2000000 := by show 0 + st.user.length ≤ 2000000; omega
  have HSM := Lib.hid hsm
  clear hX hM hwa hz hsm hn
  go_enter Tryz.func111, Tryz.ntmps111
  go_wp2_with (at_builtin; refine list_appendL typed_ev rfl (.tmp 3) (.tmp 7) rfl HRE.out HU.out rfl rfl HSM.out HZ.out HF.out ?_; intro v3 w3 ho3 hg3 hb3; have HO3 := Lib.hid ho3; have HG3 := Lib.hid hg3; clear ho3 hg3 hb3)
  go_ret
  refine ⟨v3, rfl, HO3.out, ?_⟩
  exact ((Below.refl w.heap.size w).alloc (Nat.le_refl _) _).trans (below_of_only HG3.out (Nat.le_refl _) HZ.out)
end Go.Proofs.YtpfjlhpahmhkhaaGreat.Tx
/- Package fsim: bytes copied; what is asked of a file system. -/
namespace Go.Proofs.YtpfjlhpahmhkhaaGreat.Tx
open Go.RowKit Go.Maps Go.Proofs.YtpfjlhpahmhkhaaGreat.Sh

set_option maxRecDepth 100000 in
set_option maxHeartbeats 400000 in
theorem bclone_any (v : Value) (bs : List UInt8) (w : World) (h : SlV w v (bs.map bv)) (hn : bs.length ≤ 2000000) : Calls Tryz.prog 73 #[v] w fun e w' => ∃ v', e = .returned v' ∧ OwnV 5 w' w.heap.size v' (bs.map bv) ∧ Below w.heap.size w w' := by
  obtain ⟨A, c, rfl, hlc, hcm, hR⟩ := (h.below ((Below.refl w.heap.size w).alloc (Nat.le_refl _) (.cells #[] 5))).len
  rw [List.length_map] at hlc hR ⊢
  obtain ⟨l, hl⟩ : ∃ l, bs.length = l := ⟨_, rfl⟩
  have hnil := fun (w : World) => Lib.run_eql_slice_nil (P := Tryz.prog) w 32 5 A l c 0 0 Tryz.underlying32
  rcases A with _ | ad
  · have hb0 : bs = [] := by
      cases bs with
      | nil => rfl
      | cons x r =>
        obtain ⟨ad, e, _⟩ := hR.2 (by simp)
        cases e
    subst hb0
    simp only [List.length_nil] at hl hnil
    subst hl
    simp only [Option.isNone] at hnil
    clear hR hlc hcm h
    go_enter Tryz.func73, Tryz.ntmps73
    go_wp2_with fail
    go_ret
    exact ⟨_, rfl, OwnV.nil_ _ _, Below.refl _ _⟩
  · have hown : OwnV 5 (w.alloc (.cells #[] 5)) w.heap.size (.slice (some ⟨w.heap.size, 0, none⟩) 0 0) (([] : List UInt8).map bv) := World.ownsRow_made w #[] 0 (Nat.le_refl _) (by unfold maxLen; omega) rfl
    rw [hl] at hR hn ⊢
    simp only [Option.isNone] at hnil
    have hsm : ([] : List UInt8).length + l ≤ 140737488355328 := by simp; omega
    have hz : w.heap.size ≤ (w.alloc (.cells #[] 5)).heap.size := by simp
    have HR := Lib.hid hR
    have HOWN := Lib.hid hown
    clear hR hown hl h hlc hcm
    go_enter Tryz.func73, Tryz.ntmps73
    go_wp2_with (at_builtin; refine append_bytes rfl (.tmp 5) (.tmp 6) rfl _ w.heap.size (.slice (some ⟨w.heap.size, 0, none⟩) 0 0) [] rfl HOWN.out _ (some ad) l c bs rfl HR.out hsm hz ?_; intro v3 w3 ho3 hb3; have HO := Lib.hid ho3; have HB := Lib.hid hb3; clear ho3 hb3)
    go_ret
    refine ⟨v3, rfl, ?_, ((Below.refl _ _).alloc (Nat.le_refl _) _).trans HB.out⟩
    simpa using HO.out

section
variable {F M : Nat → Prop} {b : Nat} {c : CSt} {w : World}
set_option maxRecDepth 100000 in
theorem up_any (h : FcAt F w b c M) : Calls Tryz.prog 105 #[.pointer (some ⟨b, 0, none⟩)] w fun e w' => e = .returned (.bool (!c.down)) ∧ w = w' := by
  obtain ⟨x, hX, _⟩ := h
  have c7 : w.cell? ⟨b, 3, none⟩ = some (.bool c.down) := hX.blk.cell 3
  clear hX
  go_enter Tryz.func105, Tryz.ntmps105
  go_wp2
  go_ret
  exact ⟨rfl, rfl⟩
set_option maxRecDepth 100000 in
theorem load64 (a : Addr) (x : Int) (w : World) (h : w.cell? a = some (.int .i64 x)) :
    Calls Tryz.prog 70 #[.pointer (some a)] w fun e w' => e = .returned (.int .i64 x) ∧ w = w' := by
  have hl := run_call_load (P := Tryz.prog) Tryz.func158 (by kernel_rfl) (by kernel_rfl) (by kernel_rfl) .i64 (by kernel_rfl) h
  go_enter Tryz.func70, Tryz.ntmps70
  go_wp2
  go_ret
  exact ⟨rfl, rfl⟩
set_option maxRecDepth 100000 in
theorem add64 (a : Addr) (x y : Int) (w : World) (h : w.cell? a = some (.int .i64 x)) (hz : w.frozen? a = false) :
    Calls Tryz.prog 225 #[.pointer (some a), .int .i64 y] w fun e w' => e = .returned (.int .i64 (IntKind.i64.wrap (x + y))) ∧ w' = w.setCell a (.int .i64 (IntKind.i64.wrap (x + y))) := by
  have hl := run_call_add (P := Tryz.prog) Tryz.func283 (by kernel_rfl) (by kernel_rfl) (by kernel_rfl) .i64 (by kernel_rfl) (y := y) (s := IntKind.i64.wrap (x + y)) h hz (by simp [Op.intArith])
  generalize IntKind.i64.wrap (x + y) = s at *
  go_enter Tryz.func225, Tryz.ntmps225
  go_wp2
  go_ret
  exact ⟨rfl, rfl⟩
set_option maxRecDepth 100000 in
theorem calls_any (h : FcAt F w b c M) : Calls Tryz.prog 97 #[.pointer (some ⟨b, 0, none⟩)] w fun e w' => e = .returned (.int .i64 c.calls) ∧ w = w' := by
  obtain ⟨x, hX, _⟩ := h
  have hc : w.cell? ⟨b, 1, none⟩ = some (.int .i64 c.calls) := hX.blk.cell 1
  clear hX
  go_enter Tryz.func97, Tryz.ntmps97
  go_wp2_with (go_at_call 70; refine (load64 _ c.calls _ hc).mono ?_; rintro e w' ⟨rfl, rfl⟩)
  go_ret
  exact ⟨rfl, rfl⟩
set_option maxRecDepth 100000 in
theorem now_any (h : FcAt F w b c M) : Calls Tryz.prog 99 #[.pointer (some ⟨b, 0, none⟩)] w fun e w' => e = .returned (.int .i64 c.time) ∧ w = w' := by
  obtain ⟨x, hX, _⟩ := h
  have hc : w.cell? ⟨b, 2, none⟩ = some (.int .i64 c.time) := hX.blk.cell 2
  clear hX
  go_enter Tryz.func99, Tryz.ntmps99
  go_wp2
  go_ret
  exact ⟨rfl, rfl⟩
set_option maxRecDepth 100000 in
theorem fused_any (h : FcAt F w b c M) : Calls Tryz.prog 101 #[.pointer (some ⟨b, 0, none⟩)] w fun e w' => e = .returned (.int .i64 (usedM c.here)) ∧ w = w' := by
  obtain ⟨x, hX, _⟩ := h
  have hc : w.cell? ⟨b, 6, none⟩ = some (.pointer (some ⟨x.here, 0, none⟩)) := hX.blk.cell 6
  have hd : w.cell? ⟨x.here, 2, none⟩ = some (.int .i64 (usedM c.here)) := hX.here.blk.cell 2
  clear hX
  go_enter Tryz.func101, Tryz.ntmps101
  go_wp2
  go_ret
  exact ⟨rfl, rfl⟩
set_option maxRecDepth 100000 in
theorem pending_any (h : FcAt F w b c M) : Calls Tryz.prog 103 #[.pointer (some ⟨b, 0, none⟩)] w fun e w' => e = .returned (.int .i64 c.pending.length) ∧ w = w' := by
  obtain ⟨x, hX, _⟩ := h
  obtain ⟨PA, pc, hPA, _, _, _⟩ := hX.chs
  have c3 : w.cell? ⟨b, 8, none⟩ = some (.slice PA c.pending.length pc) := by rw [← hPA]; exact hX.blk.cell 8
  clear hX hPA
  obtain ⟨n, hn⟩ : ∃ n, c.pending.length = n := ⟨_, rfl⟩
  rw [hn] at c3 ⊢
  clear hn
  go_enter Tryz.func103, Tryz.ntmps103
  go_wp2
  go_ret
  exact ⟨rfl, rfl⟩
set_option maxRecDepth 100000 in
theorem reboot_any (h : FcAt F w b c M) : Calls Tryz.prog 63 #[.pointer (some ⟨b, 0, none⟩)] w fun e w' => e = .returned (.tuple #[]) ∧ FcPost F M w b { c with down := false } w' := by
  obtain ⟨x, hX, hM⟩ := h
  have c7 : w.cell? ⟨b, 3, none⟩ = some (.bool c.down) := hX.blk.cell 3
  have c7f : w.frozen? ⟨b, 3, none⟩ = false := hX.blk.frozen 3
  have HF := Lib.hid (fc_cell (c' := { c with down := false }) 3 (.bool false) hX hM rfl rfl rfl rfl rfl rfl)
  clear hX hM
  go_enter Tryz.func63, Tryz.ntmps63
  go_wp2
  go_end0
  exact ⟨rfl, HF.out⟩
set_option maxRecDepth 100000 in
theorem paths_any (h : FcAt F w b c M) (hs : CSmall c) : Calls Tryz.prog 107 #[.pointer (some ⟨b, 0, none⟩)] w (TextsPost w ((pathsM c.here).map str)) := by
  obtain ⟨x, hX, _⟩ := h
  have hc : w.cell? ⟨b, 6, none⟩ = some (.pointer (some ⟨x.here, 0, none⟩)) := hX.blk.cell 6
  have hl : listC c.here [] = pathsM c.here := by
    unfold listC
    exact List.filter_eq_self.2 fun q _ => rfl
  have HP := Lib.hid (tpaths_any F x.here x.hf x.hu c.here [] w hX.here (by have := hs.here; omega) (by simp))
  rw [hl] at HP
  clear hX hl
  go_enter Tryz.func107, Tryz.ntmps107
  go_wp2_with fail
  refine HP.out.mono ?_
  rintro e w1 ⟨v, rfl, ho, hb⟩
  have HO := Lib.hid ho
  have HB := Lib.hid hb
  clear ho hb
  go_wp2_with fail
  go_ret
  exact ⟨v, rfl, HO.out, HB.out⟩
end
def newC (room : Int) : CSt := ⟨room, 0, 0, false, [], [], [], [], []⟩
set_option maxRecDepth 100000 in
set_option maxHeartbeats 1600000 in
theorem new_any (F : Nat → Prop) (room : Int) (w : World) (hF : ∀ k, F k → k < w.heap.size) : Calls Tryz.prog 12 #[.int .i64 room] w fun e w' => Below w.heap.size w w' ∧ (newB room = false ∧ e = .returned (.tuple #[.pointer none, .int .i64 1]) ∨ newB room = true ∧ ∃ b M, w.heap.size ≤ b ∧ (∀ k, M k → w.heap.size ≤ k) ∧ e = .returned (.tuple #[.pointer (some ⟨b, 0, none⟩), .int .i64 0]) ∧ FcAt F w' b (newC room) M) := by
  have HF := Lib.hid hF
  go_enter Tryz.func12, Tryz.ntmps12
  by_cases h1 : room < 0
  · have HNB : Hid (newB room = false) := decide_eq_false (by omega)
    go_wp2
    go_ret2
    exact ⟨Below.refl _ _, .inl ⟨HNB.out, rfl⟩⟩
  · by_cases h2 : 1073741824 < room
    · have HNB : Hid (newB room = false) := decide_eq_false (by omega)
      go_wp2
      go_ret2
      exact ⟨Below.refl _ _, .inl ⟨HNB.out, rfl⟩⟩
    · have HNB : Hid (newB room = true) := decide_eq_true (by omega)
      go_wp2_with fail
      refine (tnew_any F _).mono ?_
      rintro e w1 ⟨t1, rfl, hb1, f1, u1, hT1, hl1⟩
      go_wp2_with fail
      refine (tnew_any F _).mono ?_
      rintro e w2 ⟨t2, rfl, hb2, f2, u2, hT2, hl2⟩
      have HT1 := Lib.hid (hT1.below hb2)
      have HT2 := Lib.hid hT2
      have HL1 := Lib.hid hl1
      have HL2 := Lib.hid hl2
      have HB1 := Lib.hid hb1
      have HB2 := Lib.hid (hb1.trans (hb2.mono hb1.size))
      have HLT := Lib.hid hT1.lt
      clear hb1 hT1 hl1 hb2 hT2 hl2
      go_wp2_with fail
      go_ret2
      have hz1 := HB1.out.size
      have hz2 := HB2.out.size
      refine ⟨HB2.out.alloc hz2 _, .inr ⟨HNB.out, w2.heap.size, _, hz2, ?_, rfl, ⟨.slice none 0 0, .slice none 0 0, t1, t2, .slice none 0 0, f1, u1, f2, u2⟩, ⟨Blk.new _ _ _, ?_, ?_, OwnL.nil_ chK _ F _ 0, InL.nil_ evK F _, OwnL.nil_ evK _ F _ 0, ?_, ?_, ?_⟩, fun k => Iff.rfl⟩⟩
      · rintro k (rfl | h | h | h | h)
        · exact hz2
        · exact HL1.out k h
        · have := HL2.out k h; omega
        · cases h
        · cases h
      · exact HT1.out.below ((Below.refl _ _).alloc (Nat.le_refl _) _)
      · exact HT2.out.below ((Below.refl _ _).alloc (Nat.le_refl _) _)
      · intro k hk hm
        have := HF.out k hk
        rcases hm with rfl | h | h | h | h
        · omega
        · have := HL1.out k h; omega
        · have := HL2.out k h; omega
        · cases h
        · cases h
      · intro k hk
        have := HF.out k hk
        simp
        omega
      · intro k h h'
        have h1 := HLT.out k h
        have h2 := HL2.out k h'
        omega
end Go.Proofs.YtpfjlhpahmhkhaaGreat.Tx
