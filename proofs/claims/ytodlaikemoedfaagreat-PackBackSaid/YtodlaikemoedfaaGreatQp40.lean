/- Texts put together: YPk5, YShDl2. -/
import Derived.Test.YtodlaikemoedfaaGreatQp33
import Derived.Test.YtodlaikemoedfaaGreatQp34
import Derived.BigQuiet
/- Package pack's reader: getNumber, getPiece, getBy, getWhole, getAhead, getBytes. -/
set_option linter.unusedVariables false
set_option linter.unusedSimpArgs false
namespace Go.Proofs.YtodlaikemoedfaaGreat.Ob
open Go.RowKit Go.Proofs.YtodlaikemoedfaaGreat.Sh
open Go.Proofs.YtodlaikemoedfaaGreat.Tx (Shape InL TmpL OwnL Typed Only By Rd Datas list_appendL step_appendL)

set_option maxRecDepth 100000 in
set_option maxHeartbeats 400000 in
theorem bclone_any (v : Value) (bs : List UInt8) (w : World) (h : Sl w v bs) (hn : bs.length ≤ 140737488355328) : Calls Tryz.prog 113 #[v] w (OwnPost w bs) := by
  obtain ⟨A, c, rfl, hlc, hcm, hI, hA⟩ := h
  rcases A with _ | ad
  · obtain rfl := hA rfl
    have hnil := fun (w : World) => Lib.run_eql_slice_nil (P := Tryz.prog) w 25 5 none 0 c 0 0 Tryz.underlying25
    simp only [Option.isNone] at hnil
    clear hI hA hlc
    show Calls _ _ #[.slice none 0 c] _ _
    go_enter Tryz.func113, Tryz.ntmps113
    go_wp2_with fail
    go_ret
    exact ⟨_, rfl, Own.nil_ _ _, Below.refl _ _⟩
  · have hI1 : In (w.alloc (.cells #[] 5)) (some ad) bs := hI.below ((Below.refl _ _).alloc (Nat.le_refl _) _)
    have hr := hI1.reads
    have hown : Own (w.alloc (.cells #[] 5)) w.heap.size (.slice (some ⟨w.heap.size, 0, none⟩) 0 0) [] :=
      World.ownsRow_made w #[] 0 (Nat.le_refl _) (by unfold maxLen; omega) rfl
    obtain ⟨l, hl⟩ : ∃ l, bs.length = l := ⟨_, rfl⟩
    rw [hl] at hr hn ⊢
    have hnil := fun (w : World) => Lib.run_eql_slice_nil (P := Tryz.prog) w 25 5 (some ad) l c 0 0 Tryz.underlying25
    simp only [Option.isNone] at hnil
    have hsm : ([] : List UInt8).length + l ≤ 140737488355328 := by simpa using hn
    have hz : w.heap.size ≤ (w.alloc (.cells #[] 5)).heap.size := by simp
    have HR := Lib.hid hr
    have HOWN := Lib.hid hown
    have HZ := Lib.hid hz
    clear hl hr hown hz hI hI1 hA hlc hcm
    go_enter Tryz.func113, Tryz.ntmps113
    go_wp2_with (at_builtin; refine append_bytes rfl (.tmp 5) (.tmp 6) rfl _ w.heap.size (.slice (some ⟨w.heap.size, 0, none⟩) 0 0) [] rfl HOWN.out _ (some ad) l c bs rfl HR.out hsm HZ.out ?_; intro v3 w3 ho3 hb3; have HO := Lib.hid ho3; have HB := Lib.hid hb3; clear ho3 hb3)
    go_ret
    refine ⟨v3, rfl, ?_, ((Below.refl _ _).alloc (Nat.le_refl _) _).trans HB.out⟩
    simpa using HO.out
set_option maxRecDepth 100000 in
set_option maxHeartbeats 400000 in
theorem beq_any (v1 v2 : Value) (d1 d2 : List UInt8) (w : World) (h1 : Sl w v1 d1) (h2 : Sl w v2 d2) : Calls Tryz.prog 51 #[v1, v2] w fun e w' => e = .returned (.bool (d1 == d2)) ∧ w = w' := by
  obtain ⟨A1, c1, rfl, _, _, i1, n1⟩ := h1
  obtain ⟨A2, c2, rfl, _, _, i2, n2⟩ := h2
  have k1 := conv_str w A1 d1 c1 i1 n1
  have k2 := conv_str w A2 d2 c2 i2 n2
  obtain ⟨l1, e1⟩ : ∃ l, d1.length = l := ⟨_, rfl⟩
  obtain ⟨l2, e2⟩ : ∃ l, d2.length = l := ⟨_, rfl⟩
  rw [e1] at k1 ⊢
  rw [e2] at k2 ⊢
  clear e1 e2 i1 n1 i2 n2
  go_enter Tryz.func51, Tryz.ntmps51
  go_wp2_with fail
  go_ret
  refine ⟨?_, rfl⟩
  show Ending.returned (.bool ((str d1).toList == (str d2).toList)) = _
  rw [str_toList, str_toList]
set_option maxRecDepth 100000 in
set_option maxHeartbeats 400000 in
theorem bpre_any (v1 v2 : Value) (d1 d2 : List UInt8) (w : World) (h1 : Sl w v1 d1) (h2 : Sl w v2 d2) (hl : d2.length ≤ d1.length) : Calls Tryz.prog 69 #[v1, v2] w fun e w' => e = .returned (.bool (d1.take d2.length == d2)) ∧ w = w' := by
  have H1 := Lib.hid h1
  have H2 := Lib.hid h2
  obtain ⟨A1, c1, rfl, hc1, _⟩ := h1
  obtain ⟨A2, c2, rfl, _⟩ := h2
  obtain ⟨l1, e1⟩ : ∃ l, d1.length = l := ⟨_, rfl⟩
  obtain ⟨l2, e2⟩ : ∃ l, d2.length = l := ⟨_, rfl⟩
  have HSF := Lib.hid (sl_front H1.out d2.length hl)
  have hs := fun W => run_front A1 l1 c1 l2 (by omega) W
  rw [e1] at hl hc1 H1 ⊢
  rw [e2] at hl H2 HSF ⊢
  have z1 : (l2 : Int) ≤ (l1 : Int) := by omega
  obtain ⟨T, hT⟩ : ∃ T, (if c1 = 0 then A1 else A1.map (·.add 0)) = T := ⟨_, rfl⟩
  rw [hT] at hs HSF
  clear e1 e2 hT
  go_enter Tryz.func69, Tryz.ntmps69
  go_wp2_with fail
  refine (beq_any _ _ (d1.take l2) d2 _ HSF.out H2.out).mono ?_
  rintro e w' ⟨rfl, rfl⟩
  go_wp2_with fail
  go_ret
  exact ⟨rfl, rfl⟩

section
variable {w0 w : World} {F : Nat → Prop} {p : Nat} {vb fv vr : Value} {k : Nat} {read : List EntM} {b : List UInt8}
theorem PrAt.b_ (h : PrAt w0 w F p vb fv k vr read) : w.cell? ⟨p, 0, none⟩ = some vb := h.blk.cell 0
theorem PrAt.at_ (h : PrAt w0 w F p vb fv k vr read) : w.cell? ⟨p, 1, none⟩ = some (.int .i64 (k : Int)) := h.blk.cell 1
theorem PrAt.f_ (h : PrAt w0 w F p vb fv k vr read) : w.cell? ⟨p, 2, none⟩ = some fv := h.blk.cell 2
theorem PrAt.r_ (h : PrAt w0 w F p vb fv k vr read) : w.cell? ⟨p, 3, none⟩ = some vr := h.blk.cell 3
theorem PrAt.drewN (h : PrAt w0 w F p vb fv k vr read) (n : Nat) : PrAt w0 (w.drewN n) F p vb fv k vr read := h.below (below_drewN (Below.refl _ _) _)
/-- What a call leaves that only moves on. -/
def Moved (w0 w : World) (F : Nat → Prop) (p : Nat) (vb fv : Value) (k : Nat) (vr : Value) (read : List EntM) (w' : World) : Prop := PrAt w0 w' F p vb fv k vr read ∧ Only (fun j => j = p) w w'
theorem Moved.stay (h : PrAt w0 w F p vb fv k vr read) (n : Nat) : Moved w0 w F p vb fv k vr read (w.drewN n) := ⟨h.drewN n, Only.of_below (below_drewN (Below.refl _ _) _)⟩
theorem Moved.then_ {w1 w2 : World} {k1 k2 : Nat} (h : Moved w0 w F p vb fv k1 vr read w1) (h2 : Moved w0 w1 F p vb fv k2 vr read w2) : Moved w0 w F p vb fv k2 vr read w2 := ⟨h2.1, h.2.trans h2.2 (fun _ h => .inl h)⟩
theorem Moved.below {w1 w2 : World} (h : Moved w0 w F p vb fv k vr read w1) (hb : Below w1.heap.size w1 w2) : Moved w0 w F p vb fv k vr read w2 := ⟨h.1.below hb, h.2.then_below hb⟩
set_option maxRecDepth 100000 in
set_option maxHeartbeats 800000 in
theorem gnum_any (h : PrAt w0 w F p vb fv k vr read) (hs : Sl w0 vb b) {n q e : Int} (hr : getR b (k : Int) = (n, q, e)) (q' : Nat) (hq : e = 0 → q = (q' : Int)) (hn : e ≠ 0 → n = 0) :
    Calls Tryz.prog 70 #[.pointer (some ⟨p, 0, none⟩)] w fun x w' => x = .returned (.tuple #[.int .i64 n, .int .i64 e]) ∧ Moved w0 w F p vb fv (if e = 0 then q' else k) vr read w' := by
  have H := Lib.hid h
  have HG := Lib.hid (fun W (hW : Sl W vb b) => get_any vb b (k : Int) n q e W hW hr)
  have HS := Lib.hid (hs.below h.old)
  have y0 := h.b_
  have y1 := h.at_
  clear h hs hr
  go_enter Tryz.func70, Tryz.ntmps70
  go_upto_region 1 with (fail)
  go_quiet ((go_at_call 89; exact Calls.quiet_of_same ((HG.out _ (by exact HS.out)).mono fun _ _ h => ⟨h.1, h.2.symm⟩)))
  have HM := Lib.hid (Moved.stay H.out nq)
  generalize w.drewN nq = w1 at *
  clear y0 y1
  have y1 := HM.out.1.at_
  have y1f : w1.frozen? ⟨p, 1, none⟩ = false := HM.out.1.blk.frozen 1
  by_cases he : e = 0
  · subst he
    obtain rfl := hq rfl
    clear hq hn
    go_wp2_with fail
    go_ret2
    exact ⟨rfl, HM.out.1.setAt q', HM.out.2.set_ (.inl rfl) _⟩
  · obtain rfl := hn he
    have z : (e != 0) = true := by rw [bne_iff_ne]; exact he
    have HE := Lib.hid he
    clear he hq hn
    go_wp2_with fail
    go_ret2
    exact ⟨rfl, HM.out⟩
set_option maxRecDepth 100000 in
set_option maxHeartbeats 800000 in
theorem gpiece_no (h : PrAt w0 w F p vb fv k vr read) (hs : Sl w0 vb b) (n : Int) (hn : (b.length : Int) - (k : Int) < n) (hb : b.length ≤ 1000000) (hk : k ≤ b.length) :
    Calls Tryz.prog 90 #[.pointer (some ⟨p, 0, none⟩), .int .i64 n] w fun x w' => x = .returned (.tuple #[.slice none 0 0, .int .i64 2]) ∧ Moved w0 w F p vb fv k vr read w' := by
  have H := Lib.hid h
  obtain ⟨A, c, rfl, _, _⟩ := hs.len
  obtain ⟨l, hl⟩ : ∃ l, b.length = l := ⟨_, rfl⟩
  rw [hl] at hn hb hk h H hs ⊢
  have y0 := h.b_
  have y1 := h.at_
  clear h hs hl
  go_enter Tryz.func90, Tryz.ntmps90
  go_upto_region 1 with (fail)
  go_quiet (fail)
  go_wp2_with fail
  go_ret2
  exact ⟨rfl, Moved.stay H.out _⟩
set_option maxRecDepth 100000 in
set_option maxHeartbeats 1600000 in
theorem gpiece_any (h : PrAt w0 w F p vb fv k vr read) (hs : Sl w0 vb b) (n : Nat) (hn : k + n ≤ b.length) (hb : b.length ≤ 1000000) :
    Calls Tryz.prog 90 #[.pointer (some ⟨p, 0, none⟩), .int .i64 (n : Int)] w fun x w' => ∃ A c, x = .returned (.tuple #[.slice A n c, .int .i64 0]) ∧ Moved w0 w F p vb fv (k + n) vr read w' ∧ Sl w0 (.slice A n c) ((b.drop k).take n) := by
  have H := Lib.hid h
  obtain ⟨A, c, rfl, hlc, hcm, _⟩ := hs.len
  have HS := Lib.hid (Sl.mid hs k (k + n) (by omega) hn)
  unfold maxLen at hcm
  obtain ⟨l, hl⟩ : ∃ l, b.length = l := ⟨_, rfl⟩
  rw [hl] at hn hb h H hs hlc ⊢
  have y0 := h.b_
  have y1 := h.at_
  have y1f : ∀ m, (w.drewN m).frozen? ⟨p, 1, none⟩ = false := fun m => h.blk.frozen 1
  have e1 : k + n - k = n := by omega
  rw [e1] at HS
  have ks := fun W => d_mid A l c k (k + n) (k : Int) ((k : Int) + (n : Int)) rfl (by omega) (by omega) (by omega) W
  rw [e1] at ks
  obtain ⟨T, hT⟩ : ∃ T, (if c = k then A else A.map (·.add k)) = T := ⟨_, rfl⟩
  rw [hT] at ks HS
  have z1 : (n : Int) ≤ (l : Int) - (k : Int) := by omega
  have z2 : (k : Int) + (n : Int) - (n : Int) = (k : Int) := by omega
  clear h hs hl hT e1
  go_enter Tryz.func90, Tryz.ntmps90
  go_upto_region 1 with (fail)
  go_quiet (fail)
  have HM := Lib.hid (Moved.stay H.out nq)
  generalize w.drewN nq = w1 at *
  clear y0 y1 y1f
  have y1 := HM.out.1.at_
  have y1f : w1.frozen? ⟨p, 1, none⟩ = false := HM.out.1.blk.frozen 1
  go_upto_region 4 with (fail)
  have HM2 : Hid (Moved w0 w F p (.slice A l c) fv (k + n) vr read (w1.setCell ⟨p, 1, none⟩ (.int .i64 ((k : Int) + (n : Int))))) := by
    have h1 := HM.out.1.setAt (k + n)
    have h2 := HM.out.2.set_ (g := p) (i := 1) (.inl rfl) (.int .i64 ((k + n : Nat) : Int))
    have e : ((k + n : Nat) : Int) = (k : Int) + (n : Int) := by omega
    rw [e] at h1 h2
    exact ⟨h1, h2⟩
  generalize w1.setCell ⟨p, 1, none⟩ (.int .i64 ((k : Int) + (n : Int))) = w2 at *
  clear y1 y1f
  have y0 := HM2.out.1.b_
  have y1 : w2.cell? ⟨p, 1, none⟩ = some (.int .i64 ((k : Int) + (n : Int))) := HM2.out.1.at_.trans (by rw [show ((k + n : Nat) : Int) = (k : Int) + (n : Int) from by omega])
  go_quiet (fail)
  have HM3 := Lib.hid (HM2.out.then_ (Moved.stay HM2.out.1 nq))
  go_wp2_with fail
  go_ret2
  exact ⟨T, c - k, rfl, HM3.out, HS.out⟩
end
end Go.Proofs.YtodlaikemoedfaaGreat.Ob
/- Apply of a delta; the document's own Sizes, step, Apply. -/
set_option linter.unusedVariables false
set_option linter.unusedSimpArgs false
namespace Go.Proofs.YtodlaikemoedfaaGreat.Sh
open Go.RowKit

/-- What Apply leaves: new bytes, what is wrong. -/
def ApplyPost (w : World) (r : List UInt8 × Int) (e : Ending) (w' : World) : Prop := ∃ v, e = .returned (.tuple #[v, .int .i64 r.2]) ∧ Own w' w.heap.size v r.1 ∧ Below w.heap.size w w'

set_option maxRecDepth 100000 in
set_option maxHeartbeats 1600000 in
theorem apply_any (vb vd : Value) (base d : List UInt8) (w : World) (hb : Sl w vb base) (hd : Sl w vd d) :
    Calls Tryz.prog 130 #[vb, vd] w (ApplyPost w (applyD base d)) := by
  obtain ⟨A, c, hvb, hl, hcm, hI⟩ := hb.len
  unfold maxLen at hcm
  rcases two_cases d 0 (Nat.zero_le _) with ⟨e, h, he⟩ | ⟨a, b, h, hq, ha, hb'⟩
  · have h : two d 0 = (0, 0, 0, e) := h
    rw [apply_err h (by omega)]
    have HG := Lib.hid (gettwo_any vd d _ _ _ _ _ w hd h)
    have hne : (e != 0) = true := by rcases he with rfl | rfl <;> rfl
    subst hvb
    clear h hd hb hI he
    go_enter Tryz.func130, Tryz.ntmps130
    go_wp2_with fail
    refine HG.out.mono ?_
    rintro x w' ⟨rfl, rfl⟩
    go_wp2
    go_ret2
    exact ⟨_, rfl, Own.nil_ _ _, Below.refl _ _⟩
  · rw [Nat.zero_add] at h hq
    have h : two d 0 = ((a : Int), (b : Int), (((putL a).length + (putL b).length : Nat) : Int), 0) := h
    have HG := Lib.hid (gettwo_any vd d _ _ _ _ _ w hd h)
    obtain ⟨q, hQ⟩ : ∃ q, (putL a).length + (putL b).length = q := ⟨_, rfl⟩
    rw [hQ] at h hq HG
    have HB := Lib.hid hb
    subst hvb
    obtain ⟨l, hL⟩ : ∃ l, base.length = l := ⟨_, rfl⟩
    rw [hL] at hl HB ⊢
    by_cases hal : a = l
    · subst hal
      by_cases hbl : 20000 < b
      · rw [apply_long h (by rw [hL]) (by omega)]
        have hbl2 : (20000 : Int) < (b : Int) := by omega
        clear h hd hb hI hbl hQ hq HB hL hcm hl
        go_enter Tryz.func130, Tryz.ntmps130
        go_wp2_with fail
        refine HG.out.mono ?_
        rintro x w' ⟨rfl, rfl⟩
        go_wp2
        go_ret2
        exact ⟨_, rfl, Own.nil_ _ _, Below.refl _ _⟩
      · have hrun := apply_run (base := base) (by rw [hL]; exact h) (by omega)
        obtain ⟨R, hR⟩ : ∃ R, applyD base d = R := ⟨_, rfl⟩
        rw [hR] at hrun ⊢
        have HRUN := Lib.hid hrun
        have HD := Lib.hid hd
        have hbl2 : (b : Int) ≤ (20000 : Int) := by omega
        have hb0 : (0 : Int) ≤ (b : Int) := by omega
        have hown := own_made w b (by unfold maxLen; omega)
        have hmk : ∀ w : World, (Instr.makeSlice 25 (.int .i64 0) (.int .i64 (b : Int))).run Tryz.prog w = .ok (.slice (some ⟨w.heap.size, 0, none⟩) 0 b) (w.alloc (.cells (madeCells #[.int .u8 0] b) 5)) := fun w => make_bytes b (by omega) w
        obtain ⟨n, hN⟩ : ∃ n, d.length = n := ⟨_, rfl⟩
        obtain ⟨D, cd, hvd, hld, hcmd, hId⟩ := hd.len
        unfold maxLen at hcmd
        subst hvd
        rw [hN] at hq hld HRUN HG HD ⊢
        have HN := Lib.hid hN
        clear h hd hb hI hrun hbl hQ hId hN hR hL
        go_enter Tryz.func130, Tryz.ntmps130
        go_wp2_with fail
        refine HG.out.mono ?_
        rintro x w' ⟨rfl, rfl⟩
        go_wp2_with fail
        have hO0 : Own (w.alloc (.cells (madeCells #[.int .u8 0] b) 5)) w.heap.size (.slice (some ⟨w.heap.size, 0, none⟩) 0 b) [] := by simpa [Own] using hown
        have HO0 := Lib.hid hO0
        have HBW0 := Lib.hid ((Below.refl w.heap.size w).alloc (Nat.le_refl _) (.cells (madeCells #[.int .u8 0] b) 5))
        clear hmk hown hO0
        generalize w.alloc (.cells (madeCells #[.int .u8 0] b) 5) = W0 at *
        go_loopw [8, 10] (fun x v wr => ∃ (k : Nat) (out : List UInt8) (f : Nat), x = .int .i64 k ∧ k ≤ n ∧ out.length ≤ b ∧ n - k < f ∧ Own wr w.heap.size v out ∧ Below w.heap.size w wr ∧ runD base d b f k out = R) (fun x _ _ => n - (intOf x).toNat)
        case atStart => exact ⟨q, [], n + 1, rfl, hq, by simp, by omega, HO0.out, HBW0.out, HRUN.out.symm⟩
        case round =>
          obtain ⟨k, out, f, rfl, hk, hol, hf, ho, hbw, hrd⟩ := hrel
          obtain ⟨f, rfl⟩ : ∃ g, f = g + 1 := ⟨f - 1, by omega⟩
          obtain ⟨A1, c1, rfl, hl1, hm1⟩ := ho.length
          unfold maxLen at hm1
          have HO := Lib.hid ho
          have HBW := Lib.hid hbw
          have HRD := Lib.hid hrd
          have hwz := hbw.size
          have HDr := Lib.hid (HD.out.below hbw)
          have HBr := Lib.hid (HB.out.below hbw)
          clear ho hbw hrd hq
          obtain ⟨m, hM⟩ : ∃ m, out.length = m := ⟨_, rfl⟩
          rw [hM] at hol hl1 HO ⊢
          have HM := Lib.hid hM
          clear hM
          have hm3 : (m : Int) ≤ (b : Int) := by omega
          have hm4 : (0 : Int) ≤ (m : Int) := by omega
          by_cases hkn : k < n
          · have hkn2 : (k : Int) < (n : Int) := by omega
            have hkd : k < d.length := by rw [HN.out]; exact hkn
            have HS := Lib.hid (step_any _ _ base d k wr HBr.out HDr.out hkd)
            rcases step_cases base d k hkd with ⟨e, hs, h1, h2⟩ | ⟨p, q', hs, h1, h2, h3⟩
            · rw [hs] at HS
              have hres := HRD.out
              rw [run_err hkd hs (by omega)] at hres
              have hne : (e != 0) = true := by simp; omega
              clear hkd hs h1 h2 hkn
              go_wp2_with fail
              refine HS.out.mono ?_
              rintro x w' ⟨v, rfl, hv, rfl⟩
              clear hv
              go_wp2
              go_ret2
              exact ⟨_, by rw [← hres]; rfl, by rw [← hres]; exact Own.nil_ _ _, HBW.out⟩
            · rw [hs] at HS
              by_cases hlong : b < m + p.length
              · have hres := HRD.out
                rw [run_long hkd hs (by rw [HM.out]; exact hlong)] at hres
                have HRES := Lib.hid hres
                have hlg : (b : Int) - (m : Int) < (p.length : Int) := by omega
                obtain ⟨pl, hpl⟩ : ∃ pl, p.length = pl := ⟨_, rfl⟩
                clear hkd hs hkn hres h1 h2 h3 hlong
                go_wp2_with fail
                refine HS.out.mono ?_
                rintro x w' ⟨v, rfl, hv, rfl⟩
                obtain ⟨P, cp, rfl, hp1, hp2, hp3⟩ := hv.len
                unfold maxLen at hp2
                rw [hpl] at hlg hp1 ⊢
                clear hv hp3 hpl
                go_wp2
                go_ret2
                exact ⟨_, by rw [← HRES.out]; rfl, by rw [← HRES.out]; exact Own.nil_ _ _, HBW.out⟩
              · have hres := HRD.out
                rw [run_on hkd hs (by rw [HM.out]; omega)] at hres
                have HRES := Lib.hid hres
                have hlg : (p.length : Int) ≤ (b : Int) - (m : Int) := by omega
                obtain ⟨pl, hpl⟩ : ∃ pl, p.length = pl := ⟨_, rfl⟩
                have hsm : out.length + pl ≤ 140737488355328 := by have := HM.out; omega
                have hmp : m + pl ≤ b := by omega
                have hq2 : q' ≤ n := by have := HN.out; omega
                have hkq : n - q' < f := by omega
                have HKQ := Lib.hid h1
                clear hkd hs hkn hres h2 h3 hlong h1
                go_wp2_with fail
                refine HS.out.mono ?_
                rintro x w' ⟨v, rfl, hv, rfl⟩
                obtain ⟨P, cp, rfl, hp1, hp2, hp3⟩ := hv.len
                have HP3 := Lib.hid hp3.reads
                have HPL := Lib.hid hpl
                unfold maxLen at hp2
                rw [hpl] at hlg hp1 HP3 ⊢
                clear hv hp3 hpl
                go_wp2_with (at_builtin; refine append_bytes rfl (.tmp 57) (.tmp 58) rfl wr w.heap.size _ out rfl HO.out _ P pl cp p rfl HP3.out hsm hwz ?_; intro v3 w3 ho3 hb3; have HO3 := Lib.hid ho3; have HB3 := Lib.hid hb3; clear ho3 hb3)
                refine ⟨⟨q', out ++ p, f, rfl, hq2, ?_, hkq, HO3.out, HBW.out.trans HB3.out, HRES.out⟩, ?_⟩
                · rw [List.length_append, HM.out, HPL.out]; exact hmp
                · have := HKQ.out; simp [intOf]; omega
          · have hkn2 : (n : Int) ≤ (k : Int) := by omega
            have hres := HRD.out
            rw [run_end (by rw [HN.out]; omega), HM.out] at hres
            have HRES := Lib.hid hres
            clear hres hkn
            by_cases hsh : m < b
            · have hsh2 : (m : Int) < (b : Int) := by omega
              have hres := HRES.out
              rw [if_pos hsh] at hres
              have HRES2 := Lib.hid hres
              clear hres hsh
              go_wp2
              go_ret2
              exact ⟨_, by rw [← HRES2.out]; rfl, by rw [← HRES2.out]; exact Own.nil_ _ _, HBW.out⟩
            · have hsh2 : (b : Int) ≤ (m : Int) := by omega
              have hres := HRES.out
              rw [if_neg hsh] at hres
              have HRES2 := Lib.hid hres
              clear hres hsh
              go_wp2
              go_ret2
              exact ⟨_, by rw [← HRES2.out]; rfl, by rw [← HRES2.out]; exact HO.out, HBW.out⟩
    · rw [apply_sum (base := base) h (by rw [hL]; omega)]
      have hne : ((a : Int) != (l : Int)) = true := by simp; omega
      clear h hd hb hI hq hQ HB hal hL
      go_enter Tryz.func130, Tryz.ntmps130
      go_wp2_with fail
      refine HG.out.mono ?_
      rintro x w' ⟨rfl, rfl⟩
      go_wp2
      go_ret2
      exact ⟨_, rfl, Own.nil_ _ _, Below.refl _ _⟩
end Go.Proofs.YtodlaikemoedfaaGreat.Sh
