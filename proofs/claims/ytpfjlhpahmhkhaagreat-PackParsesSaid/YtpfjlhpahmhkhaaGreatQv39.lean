/- Texts put together: VPkB, VPkC, VPkD. -/
import Derived.Test.YtpfjlhpahmhkhaaGreatQv38
/- Package pack's reader: getObject. -/
set_option linter.unusedVariables false
set_option linter.unusedSimpArgs false
namespace Go.Proofs.YtpfjlhpahmhkhaaGreat.Ob
open Go.RowKit Go.Proofs.YtpfjlhpahmhkhaaGreat.Sh
open Go.Proofs.YtpfjlhpahmhkhaaGreat.Tx (Shape InL TmpL OwnL Typed Only By Rd Datas list_appendL step_appendL)
section
variable {w0 w w' : World} {F M : Nat → Prop} {p : Nat} {vb fv vr : Value} {k : Nat} {read : List EntM} {b : List UInt8}
theorem PrAt.only (h : PrAt w0 w F p vb fv k vr read) (ho : Only M w w') (hp : ¬ M p) (hF : ∀ j, F j → ¬ M j) (hv : ∀ j, vr.ownBlock = some j → ¬ M j) (hM : ∀ j, M j → w0.heap.size ≤ j) : PrAt w0 w' F p vb fv k vr read where
 blk := ho.blk h.blk hp
 old := h.old.trans ⟨ho.os, ho.tape, ho.output, ho.size, fun j hj => ho.block j (by have := h.size; omega) (fun hm => by have := hM j hm; omega)⟩
 pz := h.pz
 own := h.own.only ho hF hv
 fp := h.fp
 vp := h.vp
 fz := fun j hj => ⟨(h.fz j hj).1, Nat.lt_of_lt_of_le (h.fz j hj).2 ho.size⟩
def EntPost (w0 : World) (F : Nat → Prop) (p : Nat) (vb fv vr : Value) (read : List EntM) (k : Nat) (r : Int × List UInt8 × Nat × Nat) (e : Ending) (w' : World) : Prop :=
 e = .returned (.int .i64 r.1) ∧ ((r.1 ≠ 0 ∧ ∃ k', PrAt w0 w' F p vb fv k' vr read) ∨ (r.1 = 0 ∧ ∃ F' vr', PrAt w0 w' F' p vb fv r.2.2.2 vr' (read ++ [⟨r.2.1, k, r.2.2.1⟩])))
set_option maxRecDepth 100000 in
set_option maxHeartbeats 6400000 in
theorem gobject_any {base : BaseM} (h : PrAt w0 w F p vb fv k vr read) (hin : PrIn w0 vb fv b base) (hk : k ≤ b.length) (hrd : read.length ≤ 1000000) :
  Calls Tryz.prog 185 #[.pointer (some ⟨p, 0, none⟩)] w (EntPost w0 F p vb fv vr read k (oneP b base read k)) := by
 have HIN := Lib.hid hin
 have HK := Lib.hid hk
 have HRD := Lib.hid hrd
 have H := Lib.hid h
 have y1 := h.at_
 obtain ⟨w1, hw1⟩ : ∃ W, w.alloc (.cells #[.slice none 0 0, .int .i64 (k : Int), .int .i64 0] 176) = W := ⟨_, rfl⟩
 have hb1 : Below w.heap.size w w1 := by rw [← hw1]; exact (Below.refl _ _).alloc (Nat.le_refl _) _
 have hz1 : w1.heap.size = w.heap.size + 1 := by rw [← hw1]; simp
 have hbk1 : Blk w1 w.heap.size 176 #[.slice none 0 0, .int .i64 (k : Int), .int .i64 0] := by rw [← hw1]; exact Blk.new _ _ _
 have HB1 := Lib.hid hb1
 have HZ1 := Lib.hid hz1
 have HBK1 := Lib.hid hbk1
 have HW1 := Lib.hid hw1
 have hpl := h.lt
 have HPL := Lib.hid hpl
 obtain ⟨R, hR⟩ : ∃ R, bytesP b base read k = R := ⟨_, rfl⟩
 have HR := Lib.hid hR
 have HONE : Hid ((R.1 ≠ 0 → oneP b base read k = R) ∧ (R.1 = 0 → decB R.2.1 = true → oneP b base read k = R) ∧ (R.1 = 0 → decB R.2.1 = false → oneP b base read k = (4, [], 0, 0))) := by
  rw [← hR]
  exact ⟨fun h => one_err h, fun h h2 => one_ok h h2, fun h h2 => one_form h h2⟩
 have HLE : Hid (R.2.1.length ≤ 20000) := by rw [← hR]; exact (bytes_le b base read k).1
 obtain ⟨Q, hQ⟩ : ∃ Q, oneP b base read k = Q := ⟨_, rfl⟩
 rw [hQ] at HONE ⊢
 clear h hin hk hrd hb1 hz1 hbk1 hw1 hpl hR hQ
 go_enter Tryz.func185, Tryz.ntmps185
 go_wp2_with fail
 rw [HW1.out]
 refine (gbytes_any (H.out.below HB1.out) HIN.out HK.out HRD.out).mono ?_
 rw [HR.out]
 rintro y w2 ⟨A, bs, c, d, k', rfl, hm, ho, hr⟩
 have HM := Lib.hid hm
 have HO := Lib.hid ho
 have HRR := Lib.hid hr
 have hbk2 : Blk w2 w.heap.size 176 #[.slice none 0 0, .int .i64 (k : Int), .int .i64 0] := hm.2.blk HBK1.out (fun e => by have := HPL.out; omega)
 have x0 := hbk2.cell 0
 have x0f := hbk2.frozen 0
 have x2 := hbk2.cell 2
 have x2f := hbk2.frozen 2
 have HBK2 := Lib.hid hbk2
 obtain ⟨n, hn⟩ : ∃ n, bs.length = n := ⟨_, rfl⟩
 rw [hn] at ho
 have HN := Lib.hid hn
 have HO2 := Lib.hid ho
 obtain ⟨R1, hR1⟩ : ∃ R1, R.1 = R1 := ⟨_, rfl⟩
 rw [hR1] at hr
 rw [hR1, hn]
 have HR1 := Lib.hid hR1
 have HR2 := Lib.hid hr
 clear hm ho hr hbk2 hn hR1 y1
 obtain ⟨w3, hw3⟩ : ∃ W, (w2.setCell ⟨w.heap.size, 0, none⟩ (.slice A n c)).setCell ⟨w.heap.size, 2, none⟩ (.int .i64 (d : Int)) = W := ⟨_, rfl⟩
 have HW3 := Lib.hid hw3
 have hon3 : Only (fun j => j = w.heap.size) w2 w3 := by rw [← hw3]; exact (((Only.refl (fun j => j = w.heap.size) w2).set_ (g := w.heap.size) (i := 0) (Or.inl rfl) _).set_ (g := w.heap.size) (i := 2) (Or.inl rfl) _)
 have hbk3 : Blk w3 w.heap.size 176 #[.slice A n c, .int .i64 (k : Int), .int .i64 (d : Int)] := by rw [← hw3]; exact (HBK2.out.set_ 0 _).set_ 2 _
 have hvl : ∀ j, vr.ownBlock = some j → j < w.heap.size := fun j hj => (H.out.own.lt j hj).2
 have HPR3 : Hid (PrAt w0 w3 F p vb fv k' vr read) := HM.out.1.only hon3 (fun e => by have := HPL.out; omega) (fun j hj e => by have := (H.out.fz j hj).2; omega) (fun j hj e => by have := hvl j hj; omega) (fun j e => by have := H.out.size; omega)
 have HBY3 : Hid (By (fun j => w.heap.size < j ∧ j < w2.heap.size) w3 (.slice A n c) bs) := (own_by HO2.out (fun j hj => by
  have := World.ownsRow.lt HO2.out j hj
  have := HZ1.out
  omega)).only hon3 (fun j hj e => by omega)
 have HBK3 := Lib.hid hbk3
 have HZ3 : Hid (w2.heap.size ≤ w3.heap.size) := hon3.size
 have HVL := Lib.hid hvl
 clear hw3 hon3 hbk3 hvl
 by_cases he : R1 = 0
 ·subst he
  obtain ⟨e1, e2, e3⟩ := HR2.out rfl
  have HE1 := Lib.hid e1
  have HE2 := Lib.hid e2
  have HE3 := Lib.hid e3
  have z0 := HBK3.out.cell 0
  clear e1 e2 e3
  go_wp2_with fail
  rw [HW3.out]
  refine (mayBe_any _ bs w3 (by_sl HBY3.out) (by have h1 := HLE.out; have h2 := HE1.out; rw [h2]; omega)).mono ?_
  rintro y w4 ⟨rfl, hb4⟩
  have HPR4 := Lib.hid (HPR3.out.below hb4)
  have HBK4 := Lib.hid (HBK3.out.below hb4 HBK3.out.lt)
  have HBY4 := Lib.hid (HBY3.out.only (Only.of_below (M := fun _ => False) hb4) (fun _ _ h9 => h9))
  have HZ4 : Hid (w3.heap.size ≤ w4.heap.size) := hb4.size
  obtain ⟨t, ht⟩ : ∃ t, decB bs = t := ⟨_, rfl⟩
  rw [ht]
  have HT : Hid (decB R.2.1 = t) := by unfold Hid; rw [← HE1.out]; exact ht
  clear hb4 z0 ht
  cases t with
  | false =>
   have hq := HONE.out.2.2 HR1.out HT.out
   subst hq
   go_wp2_with fail
   go_ret
   exact ⟨rfl, .inl ⟨by decide, k', HPR4.out⟩⟩
  | true =>
   have hq := HONE.out.2.1 HR1.out HT.out
   subst hq
   obtain ⟨Rd, rc, hvr, _, _⟩ := HPR4.out.slice
   subst hvr
   obtain ⟨nr, hnr⟩ : ∃ n, read.length = n := ⟨_, rfl⟩
   have HNR := Lib.hid hnr
   have hown := HPR4.out.own
   rw [hnr] at hown HPR4 HVL H
   have HOW := Lib.hid hown
   clear hown hnr
   have p3 := HPR4.out.r_
   have x0 := HBK4.out.cell 0
   have x1 := HBK4.out.cell 1
   have x2 := HBK4.out.cell 2
   have hba := (Below.refl w4.heap.size w4).alloc (Nat.le_refl _) (.cells #[.slice A n c, .int .i64 (k : Int), .int .i64 (d : Int)] 176)
   have HPA : Hid (PrAt w0 (w4.alloc (.cells #[.slice A n c, .int .i64 (k : Int), .int .i64 (d : Int)] 176)).drew F p vb fv k' (.slice Rd nr rc) read) := HPR4.out.below hba.drew
   have p3a : (w4.alloc (.cells #[.slice A n c, .int .i64 (k : Int), .int .i64 (d : Int)] 176)).cell? ⟨p, 3, none⟩ = some (.slice Rd nr rc) := HPA.out.r_
   have p3d := HPA.out.r_
   have HOA : Hid (OwnL entK 176 (fun j => F j ∨ (w.heap.size < j ∧ j < w2.heap.size)) (w4.alloc (.cells #[.slice A n c, .int .i64 (k : Int), .int .i64 (d : Int)] 176)).drew w0.heap.size (.slice Rd nr rc) read) := HPA.out.own.mono (fun j _ hj => .inl hj) (fun j hj hf => by
    rcases hf with hf | hf
    ·exact HPA.out.own.2 j hj hf
    ·have := HVL.out j hj; omega)
   have HTA : Hid (TmpL entK (fun j => F j ∨ (w.heap.size < j ∧ j < w2.heap.size)) (w4.alloc (.cells #[.slice A n c, .int .i64 (k : Int), .int .i64 (d : Int)] 176)).drew (.slice (some ⟨w4.heap.size, 0, none⟩) 1 1) [(⟨bs, k, d⟩ : EntM)]) :=
    (TmpL.one (K := entK) (a := (⟨bs, k, d⟩ : EntM)) (d := .slice A n c) (Blk.new w4 176 #[.slice A n c, .int .i64 (k : Int), .int .i64 (d : Int)]) rfl ((HBY4.out.only (Only.of_below (M := fun _ => False) hba) (fun _ _ h9 => h9)).mono (fun j _ hj => .inr hj))).drew
   have s1 : Hid (read.length + [(⟨bs, k, d⟩ : EntM)].length ≤ 2000000) := by unfold Hid; have := HRD.out; simp; omega
   have hz0 := HPA.out.size
   have HZ0 := Lib.hid hz0
   have HFZ : Hid (∀ j, (F j ∨ (w.heap.size < j ∧ j < w2.heap.size)) → j < (w4.alloc (.cells #[.slice A n c, .int .i64 (k : Int), .int .i64 (d : Int)] 176)).drew.heap.size) := fun j hj => by
    have h3 := HZ3.out
    have h4 := HZ4.out
    simp
    rcases hj with hj | hj
    ·have := (HPR4.out.fz j hj).2; omega
    ·omega
   clear hba hz0
   go_upto_region 8 with (fail)
   go_region_law (refine step_appendL typed_ent (v := .slice Rd nr rc) (ex := .slice (some ⟨w4.heap.size, 0, none⟩) 1 1) (l2 := [(⟨bs, k, d⟩ : EntM)]) rfl (.tmp 29) (.tmp 31) rfl (by exact HOA.out) (by exact HTA.out) (by rfl) (by rfl) s1.out (by exact HZ0.out) (by exact HFZ.out) ?_; intro v5 w5 ho5 hg5 hk5; obtain ⟨A5, c5, hv5, _, _⟩ := TmpL.slice (K := entK) ho5.tmp; subst hv5; have hb5 : Blk w5 p 271 #[vb, .int .i64 (k' : Int), fv, .slice Rd nr rc] := Blk.grown HPA.out.blk hg5 (fun e => HPA.out.vp p e.symm rfl); have y3 : w5.cell? ⟨p, 3, none⟩ = some (.slice Rd nr rc) := hb5.cell 3; have y3f : w5.frozen? ⟨p, 3, none⟩ = false := hb5.frozen 3; have HO5 := Lib.hid ho5; have HG5 := Lib.hid hg5; have HK5 := Lib.hid hk5; clear ho5 hg5 hk5 hb5)
   all_goals
    go_wp2_with fail
    go_ret
    refine ⟨by rw [HR1.out]; rfl, .inr ⟨HR1.out, (fun j => F j ∨ (w.heap.size < j ∧ j < w2.heap.size)), .slice A5 (read ++ [(⟨bs, k, d⟩ : EntM)]).length c5, ?_⟩⟩
    have hpush := PrAt.push (e := (⟨bs, k, d⟩ : EntM)) HPA.out (F' := fun j => F j ∨ (w.heap.size < j ∧ j < w2.heap.size)) (fun j hj => by
     rcases hj with hj | hj
     ·exact .inl hj
     ·refine .inr ⟨?_, ?_, ?_⟩
      ·have := H.out.size; omega
      ·have h3 := HZ3.out
       have h4 := HZ4.out
       simp
       omega
      ·have := HPL.out; omega) HO5.out HG5.out HK5.out
    rw [← HE3.out, ← HE1.out, ← HE2.out]
    exact hpush
 ·have hq := HONE.out.1 (by rw [HR1.out]; exact he)
  subst hq
  have z : (R1 != 0) = true := by rw [bne_iff_ne]; exact he
  have HE := Lib.hid he
  clear he
  go_wp2_with fail
  go_ret
  rw [HW3.out]
  exact ⟨by rw [HR1.out]; rfl, .inl ⟨by rw [HR1.out]; exact HE.out, k', HPR3.out⟩⟩
end
end Go.Proofs.YtpfjlhpahmhkhaaGreat.Ob
/- Package pack: readPack. -/
set_option linter.unusedVariables false
set_option linter.unusedSimpArgs false
namespace Go.Proofs.YtpfjlhpahmhkhaaGreat.Ob
open Go.RowKit Go.Proofs.YtpfjlhpahmhkhaaGreat.Sh
open Go.Proofs.YtpfjlhpahmhkhaaGreat.Tx (Shape InL TmpL OwnL Typed Only By Rd Datas list_appendL step_appendL)
def EnV (w : World) (v : Value) (l : List EntM) : Prop := TmpL entK (fun k => k < w.heap.size) w v l
theorem EnV.nil_ (w : World) : EnV w (.slice none 0 0) [] := ⟨[], Rd.nil_ _ w _, Datas.nil_⟩
theorem EnV.below {w w' : World} {v : Value} {l : List EntM} (h : EnV w v l) (hb : Below w.heap.size w w') : EnV w' v l := by
 obtain ⟨ds, h1, h2⟩ := TmpL.below (K := entK) h hb
 exact ⟨ds, h1, h2.mono (fun k _ hk => Nat.lt_of_lt_of_le hk hb.size)⟩
theorem PrAt.env {w0 w : World} {F : Nat → Prop} {p : Nat} {vb fv vr : Value} {k : Nat} {read : List EntM} (h : PrAt w0 w F p vb fv k vr read) : EnV w vr read := by
 obtain ⟨ds, h1, h2⟩ := h.own.tmp
 exact ⟨ds, h1, h2.mono (fun j hj _ => hj)⟩
def ReadPost (r : Int × List EntM) (w : World) (e : Ending) (w' : World) : Prop :=
 ∃ A c, e = .returned (.tuple #[.slice A r.2.length c, .int .i64 r.1]) ∧ Below w.heap.size w w' ∧ r.2.length ≤ c ∧ c ≤ maxLen ∧ EnV w' (.slice A r.2.length c) r.2
theorem ReadPost.mk {r : Int × List EntM} {w w' : World} {v : Value} (hb : Below w.heap.size w w') (h : EnV w' v r.2) : ReadPost r w (.returned (.tuple #[v, .int .i64 r.1])) w' := by
 obtain ⟨A, c, hv, h1, h2⟩ := TmpL.slice (K := entK) h
 subst hv
 exact ⟨A, c, rfl, hb, h1, h2, h⟩
theorem ReadPost.none_ {w w' : World} (k : Int) (hb : Below w.heap.size w w') : ReadPost (k, []) w (.returned (.tuple #[.slice none 0 0, .int .i64 k])) w' := ReadPost.mk hb (EnV.nil_ w')
theorem loop_len (b : List UInt8) (base : BaseM) : ∀ (n : Nat) (read : List EntM) (k : Nat), (loopP b base n read k).2.length ≤ read.length + n
 | 0, read, k => by rw [loop_end]; split <;> simp
 | n + 1, read, k => by
  by_cases h : (oneP b base read k).1 = 0
  ·rw [loop_on h]
   have := loop_len b base n (read ++ [⟨(oneP b base read k).2.1, k, (oneP b base read k).2.2.1⟩]) (oneP b base read k).2.2.2
   simp at this
   omega
  ·rw [loop_err h]; simp
set_option maxRecDepth 100000 in
set_option maxHeartbeats 6400000 in
theorem readPack_any {v fv : Value} {bs : List UInt8} {base : BaseM} {w : World} (h : PrIn w v fv bs base) (hfv : ∃ fn f1 f2, fv = .func fn f1 f2) : Calls Tryz.prog 113 #[v, fv] w (ReadPost (readP bs base) w) := by
 obtain ⟨fn, f1, f2, rfl⟩ := hfv
 have HIN := Lib.hid h
 obtain ⟨A, c, rfl, hlc, hcm, _⟩ := h.sl.len
 unfold maxLen at hcm
 have hsm := h.small
 by_cases h36 : bs.length < 36
 ·rw [read_short h36]
  obtain ⟨l, hl⟩ : ∃ l, bs.length = l := ⟨_, rfl⟩
  rw [hl] at hlc h36 ⊢
  have z : (l : Int) < 36 := by omega
  clear h hsm hl
  go_enter Tryz.func113, Tryz.ntmps113
  go_wp2_with fail
  go_ret2
  exact ReadPost.none_ 2 (Below.refl _ _)
 ·have hsl := h.sl
  obtain ⟨m, hm⟩ : ∃ m, bs.length - 32 = m := ⟨_, rfl⟩
  have HSF := Lib.hid (sl_front hsl m (by omega))
  have HSB := Lib.hid (sl_back hsl m (by omega))
  have HRS := Lib.hid (fun hs => read_sum (bs := bs) (base := base) (by omega) hs)
  have HRB := Lib.hid (fun hs => read_body (bs := bs) (base := base) (by omega) hs)
  have hlb : (bs.take m).length = m := by simp; omega
  have hm4 : 4 ≤ m := by omega
  rw [hm] at HRS HRB
  obtain ⟨l, hl⟩ : ∃ l, bs.length = l := ⟨_, rfl⟩
  have kf := fun W => run_front A l c m (by omega) W
  have kk := fun W => run_back A l c m (by omega) W
  have zl : (l : Int) - 32 = (m : Int) := by omega
  have z36 : (36 : Int) ≤ (l : Int) := by omega
  rw [hl] at hlc h36 hsm HSB HIN ⊢
  obtain ⟨T, hT⟩ : ∃ T, (if c = 0 then A else A.map (·.add 0)) = T := ⟨_, rfl⟩
  obtain ⟨U, hU⟩ : ∃ U, (if c = m then A else A.map (·.add m)) = U := ⟨_, rfl⟩
  rw [hT] at kf HSF
  rw [hU] at kk HSB
  obtain ⟨d, hd⟩ : ∃ d, l - m = d := ⟨_, rfl⟩
  rw [hd] at kk HSB
  obtain ⟨B, hB⟩ : ∃ B, bs.take m = B := ⟨_, rfl⟩
  obtain ⟨S, hS⟩ : ∃ S, bs.drop m = S := ⟨_, rfl⟩
  rw [hB] at hlb HRS HRB HSF
  rw [hS] at HRS HRB HSB
  have HM4 := Lib.hid hm4
  have HLB := Lib.hid hlb
  have HSM : Hid (B.length ≤ 1000000) := by unfold Hid; omega
  obtain ⟨R, hR⟩ : ∃ R, readP bs base = R := ⟨_, rfl⟩
  rw [hR] at HRS HRB ⊢
  have HPI : Hid (PrIn w (.slice T m c) (.func fn f1 f2) B base) := ⟨HSF.out, HSM.out, HIN.out.ask⟩
  have HSUM : Hid (∀ W, Below w.heap.size w W → Calls Tryz.prog 182 #[.slice T m c] W fun e w' => ∃ A1 c1, e = .returned (.slice A1 (sumOf B).length c1) ∧ Sl w' (.slice A1 (sumOf B).length c1) (sumOf B) ∧ Below w.heap.size w w') := fun W hW => (ssum_sl _ B W (HSF.out.below hW) (by have := HSM.out; omega)).mono (fun e w' ⟨v, he, ho, hb⟩ => by
   obtain ⟨A1, c1, rfl, _, _⟩ := ho.length
   exact ⟨A1, c1, he, ho.sl, hW.trans (hb.mono hW.size)⟩)
  clear h hsl hm hl hT hU hd hB hS hm4 hlb hR h36 hsm
  go_enter Tryz.func113, Tryz.ntmps113
  go_upto_region 4 with (fail)
  go_cut [26] (fun x wx => ∃ t, x = .bool (!t) ∧ (S == sumOf B) = t ∧ Below w.heap.size w wx)
  case first =>
   go_region_held3 (fun _ => True) (exact trivial)
    (first
     | (go_at_call 183; refine (beq_any _ _ S (sumOf B) _ (by exact HSB.out.below HB1.out) (by exact HSV.out)).mono ?_; rintro y w' ⟨rfl, rfl⟩)
     | (go_at_call 182; refine (HSUM.out _ (by first | exact Below.refl _ _ | exact (Below.refl _ _).drew)).mono ?_; rintro y w1 ⟨A1, c1, rfl, hs1, hb1⟩; have HSV := Lib.hid hs1; have HB1 := Lib.hid hb1; clear hs1 hb1))
   go_wp2_with fail
   go_meet
   exact ⟨_, rfl, rfl, HB1.out⟩
  case rest =>
   obtain ⟨t, rfl, ht, hb⟩ := hcut
   have HB := Lib.hid hb
   have HT := Lib.hid ht
   clear hb ht
   cases t with
   | false =>
    have hr : R = (5, []) := by
     have := HT.out
     rw [beq_eq_false_iff_ne] at this
     exact HRS.out this
    subst hr
    go_wp2_with fail
    go_ret2
    exact ReadPost.none_ 5 HB.out
   | true =>
    have hr : R = bodyP B base := by
     have := HT.out
     rw [beq_iff_eq] at this
     exact HRB.out this
    have HR := Lib.hid hr
    clear hr
    have hba := (Below.refl wc.heap.size wc).alloc (Nat.le_refl _) (.cells #[.slice T m c, .int .i64 0, .func fn f1 f2, .slice none 0 0] 271)
    have HP0 : Hid (PrAt w (wc.alloc (.cells #[.slice T m c, .int .i64 0, .func fn f1 f2, .slice none 0 0] 271)) (fun _ => False) wc.heap.size (.slice T m c) (.func fn f1 f2) 0 (.slice none 0 0) []) :=
     { blk := Blk.new _ _ _
       old := HB.out.trans (hba.mono HB.out.size)
       pz := HB.out.size
       own := OwnL.nil_ entK _ _ _ _
       fp := fun h => h
       vp := fun j hj => by cases hj
       fz := fun j hj => hj.elim }
    clear hba
    go_wp2_with fail
    refine (ghead_any HP0.out HPI.out.sl HPI.out.small (by have := HLB.out; have := HM4.out; omega)).mono ?_
    rintro y w1 hh
    rcases hh with ⟨r, k', hr0, rfl, hm, hbd⟩ | ⟨n, q, rfl, hm, hqb, hn5, hbd⟩
    ·have hr : R = ((r : Int), []) := HR.out.trans (hbd base)
     subst hr
     have HM := Lib.hid hm
     have z : ((r : Int) != 0) = true := by rw [bne_iff_ne]; omega
     clear hm hbd hr0
     go_wp2_with fail
     go_ret2
     exact ReadPost.none_ (r : Int) HM.out.1.old
    ·have hr : R = loopP B base n [] q := HR.out.trans (hbd base)
     have HRL := Lib.hid hr
     have HM := Lib.hid hm
     have HQ := Lib.hid hqb
     have HN5 := Lib.hid hn5
     clear hm hbd hr hqb hn5
     obtain ⟨p, hp⟩ : ∃ p, wc.heap.size = p := ⟨_, rfl⟩
     rw [hp] at HM ⊢
     clear hp HP0
     go_wp2_with fail
     go_loopw [40] (fun x wr => ∃ (i k : Nat) (F : Nat → Prop) (vr : Value) (read : List EntM), i ≤ n ∧ x = .int .i64 (i : Int) ∧ PrAt w wr F p (.slice T m c) (.func fn f1 f2) k vr read ∧ k ≤ B.length ∧ read.length = i ∧ R = loopP B base (n - i) read k) (fun x _ => n - (intOf x).toNat)
     case atStart => exact ⟨0, q, _, _, [], Nat.zero_le _, rfl, HM.out.1, HQ.out, rfl, HRL.out⟩
     case round =>
      obtain ⟨i, k, F, vr, read, hi, rfl, hpr, hk, hrl, hR⟩ := hrel
      have HPR := Lib.hid hpr
      have HK := Lib.hid hk
      have HRLN := Lib.hid hrl
      have HRR := Lib.hid hR
      clear hpr hk hrl hR
      have z0 : (0 : Int) ≤ (i : Int) := by omega
      have z5 : (i : Int) < 9223372036854775807 := by have := HN5.out; omega
      by_cases hlt : i < n
      ·have z1 : (i : Int) < (n : Int) := by omega
       obtain ⟨g, hg⟩ : ∃ g, n - i = g + 1 := ⟨n - i - 1, by omega⟩
       have HG := Lib.hid hg
       have hle := one_le B base read k
       have HLE := Lib.hid hle
       obtain ⟨Q, hQ⟩ : ∃ Q, oneP B base read k = Q := ⟨_, rfl⟩
       rw [hQ] at HLE
       have HQQ := Lib.hid hQ
       clear hle hQ hg
       go_wp2_with fail
       refine (gobject_any HPR.out HPI.out HK.out (by have := HRLN.out; have := HN5.out; omega)).mono ?_
       rw [HQQ.out]
       rintro y w2 ⟨rfl, hcase⟩
       rcases hcase with ⟨hne, k2, hp2⟩ | ⟨h0, F2, vr2, hp2⟩
       ·have hRe : R = (Q.1, read) := by
         rw [HRR.out, HG.out, loop_err (by rw [HQQ.out]; exact hne), HQQ.out]
        have HP2 := Lib.hid hp2
        have z : (Q.1 != 0) = true := by rw [bne_iff_ne]; exact hne
        have y3 := hp2.r_
        obtain ⟨q1, hq1⟩ : ∃ q1, Q.1 = q1 := ⟨_, rfl⟩
        rw [hq1] at z hRe ⊢
        subst hRe
        clear hp2 hne hq1
        go_wp2_with fail
        go_ret2
        exact ReadPost.mk HP2.out.old HP2.out.env
       ·have HP2 := Lib.hid hp2
        have hR2 : R = loopP B base g (read ++ [⟨Q.2.1, k, Q.2.2.1⟩]) Q.2.2.2 := by
         rw [HRR.out, HG.out, loop_on (by rw [HQQ.out]; exact h0), HQQ.out]
        have HR2 := Lib.hid hR2
        rw [h0]
        clear hp2 hR2 h0
        go_wp2_with fail
        go_roundw
        case rel => exact ⟨i + 1, Q.2.2.2, F2, vr2, _, by omega, by go_num, HP2.out, HLE.out.2.1, by rw [List.length_append, HRLN.out]; rfl, by rw [HR2.out]; congr 1; have := HG.out; omega⟩
        case measure => simp [intOf]; omega
      ·obtain rfl : i = n := by omega
       have y1 := HPR.out.at_
       have y0 := HPR.out.b_
       have y3 := HPR.out.r_
       have hRe : R = if k < B.length then (3, read) else (0, read) := by
        rw [HRR.out, Nat.sub_self, loop_end]
       have hkb : k ≤ m := by have := HK.out; have := HLB.out; omega
       by_cases hkm : k < m
       ·rw [if_pos (by have := HLB.out; omega)] at hRe
        have z1 : (k : Int) < (m : Int) := by omega
        subst hRe
        clear hkb hkm hlt
        go_wp2_with fail
        go_quiet (fail)
        have HPQ := Lib.hid (HPR.out.drewN nq)
        generalize wr.drewN nq = wq at *
        clear y0 y1 y3
        have y3 := HPQ.out.r_
        go_wp2_with fail
        go_ret2
        exact ReadPost.mk HPQ.out.old HPQ.out.env
       ·rw [if_neg (by have := HLB.out; omega)] at hRe
        have z1 : (m : Int) ≤ (k : Int) := by omega
        have HRE := Lib.hid hRe
        clear hRe
        clear hkb hkm hlt z0 z5 zl z36 hi hlc hcm kf kk
        go_wp2_with fail
        go_quiet (fail)
        have HPQ := Lib.hid (HPR.out.drewN nq)
        obtain ⟨wq, hwq⟩ : ∃ W, wr.drewN nq = W := ⟨_, rfl⟩
        rw [hwq] at HPQ ⊢
        clear hwq
        clear y0 y1 y3
        have y3 := HPQ.out.r_
        go_wp2_with fail
        go_ret2
        rw [HRE.out]
        exact ReadPost.mk (r := ((0 : Int), read)) HPQ.out.old HPQ.out.env
end Go.Proofs.YtpfjlhpahmhkhaaGreat.Ob
/- Package pack: Parse, Index. -/
set_option linter.unusedVariables false
set_option linter.unusedSimpArgs false
namespace Go.Proofs.YtpfjlhpahmhkhaaGreat.Ob
open Go.RowKit Go.Proofs.YtpfjlhpahmhkhaaGreat.Sh
open Go.Proofs.YtpfjlhpahmhkhaaGreat.Tx (Shape InL TmpL OwnL Typed Only By Rd Datas list_appendL step_appendL)
theorem EnV.at_ {w : World} {A : Option Addr} {n c : Nat} {l : List EntM} (h : EnV w (.slice A n c) l) (i : Nat) (a : EntM) (hk : l[i]? = some a) : ∃ (ad : Addr) (A2 : Option Addr) (c2 : Nat), A = some ad ∧ w.cell? (ad.add (i * 3)) = some (.slice A2 a.data.length c2) ∧
  w.cell? ⟨(ad.add (i * 3)).block, (ad.add (i * 3)).off + 1, none⟩ = some (.int .i64 (a.place : Int)) ∧ w.cell? ⟨(ad.add (i * 3)).block, (ad.add (i * 3)).off + 2, none⟩ = some (.int .i64 (a.depth : Int)) ∧ By (fun k => k < w.heap.size) w (.slice A2 a.data.length c2) a.data := by
 obtain ⟨ad, d, hA, hby, hc⟩ := TmpL.at_ (K := entK) h i a hk
 obtain ⟨A2, c2, e2, h1, h2⟩ := Tx.By.slice hby
 have e3 : d = .slice A2 a.data.length c2 := e2
 subst e3
 refine ⟨ad, A2, c2, hA, hc 0 _ rfl, ?_, ?_, hby⟩
 ·have := hc 1 _ rfl
  rw [show entK.m = 3 from rfl, Tx.add_field _ _ 1 (by omega)] at this
  exact this
 ·have := hc 2 _ rfl
  rw [show entK.m = 3 from rfl, Tx.add_field _ _ 2 (by omega)] at this
  exact this
theorem make_lst (n : Nat) (hn : n ≤ 2000000) (w : World) :
  (Instr.makeSlice 42 (.int .i64 0) (.int .i64 (n : Int))).run Tryz.prog w = .ok (.slice (some ⟨w.heap.size, 0, none⟩) 0 n) (w.alloc (.cells (madeCells #[.slice none 0 0] n) 32)) := by
 obtain ⟨i0, hi, hz0, hz1, hz2⟩ := info_parts typed_lst.info
 have hr := run_make (P := Tryz.prog) w 42 32 i0 (.slice none 0 0) Tryz.underlying42 hi hz0 .i64 .i64 0 n (by omega) (by omega) (by rw [hz2]; omega) (by omega)
 rw [hz1, show lstK.m = 1 from rfl, Nat.mul_one] at hr
 simpa [Value.cells] using hr
theorem make_rws (n : Nat) (hn : n ≤ 2000000) (w : World) :
  (Instr.makeSlice 55 (.int .i64 0) (.int .i64 (n : Int))).run Tryz.prog w = .ok (.slice (some ⟨w.heap.size, 0, none⟩) 0 n) (w.alloc (.cells (madeCells #[.string ⟨#[]⟩, .int .i64 0, .int .i64 0] (n * 3)) 64)) := by
 obtain ⟨i0, hi, hz0, hz1, hz2⟩ := info_parts typed_row.info
 have hr := run_make (P := Tryz.prog) w 55 64 i0 (.agg #[.string ⟨#[]⟩, .int .i64 0, .int .i64 0]) Tryz.underlying55 hi hz0 .i64 .i64 0 n (by omega) (by omega) (by rw [hz2]; omega) (by omega)
 rw [hz1, show rowK.m = 3 from rfl] at hr
 simpa [Value.cells] using hr
theorem own_mk (K : Shape) (T : TypeId) (F : Nat → Prop) (w : World) (cs : Array Value) (n N : Nat) (hn : n ≤ maxLen) (hs : (madeCells cs N).size = n * K.m) (hF : ¬ F w.heap.size) :
  OwnL K T F (w.alloc (.cells (madeCells cs N) T)) w.heap.size (.slice (some ⟨w.heap.size, 0, none⟩) 0 n) [] :=
 ⟨⟨[], ⟨by simp [Tx.ShC], .inr ⟨w.heap.size, n, madeCells cs N, rfl, Nat.le_refl _, heap_alloc_new w _, Nat.zero_le _, hn, hs, by simp [Tx.ShC]⟩⟩, Datas.nil_⟩, fun k hk hf => by
  have e : w.heap.size = k := by simpa [Value.ownBlock] using hk
  exact hF (by rw [e]; exact hf)⟩
def ParsePost (r : Int × List EntM) (w : World) (e : Ending) (w' : World) : Prop :=
 ∃ A c, e = .returned (.tuple #[.slice A (if r.1 = 0 then r.2.map (fun e => e.data) else []).length c, .int .i64 (r.2.length : Int), .int .i64 r.1]) ∧ Below w.heap.size w w' ∧ LsV w' (.slice A (if r.1 = 0 then r.2.map (fun e => e.data) else []).length c) (if r.1 = 0 then r.2.map (fun e => e.data) else [])
theorem ents_data (l : List EntM) (i : Nat) (a : EntM) (h : l[i]? = some a) : (l.take (i + 1)).map (fun e => e.data) = (l.take i).map (fun e => e.data) ++ [a.data] := by
 rw [List.take_add_one, h, List.map_append]; rfl
set_option maxRecDepth 100000 in
set_option maxHeartbeats 6400000 in
theorem parse_any {v fv : Value} {bs : List UInt8} {base : BaseM} {w : World} (h : PrIn w v fv bs base) (hfv : ∃ fn f1 f2, fv = .func fn f1 f2) (hr5 : (readP bs base).2.length ≤ 100000) : Calls Tryz.prog 22 #[v, fv] w (ParsePost (readP bs base) w) := by
 have HRP := Lib.hid (readPack_any h hfv)
 obtain ⟨fn, f1, f2, rfl⟩ := hfv
 obtain ⟨A, c, rfl, hlc, hcm, _⟩ := h.sl.len
 obtain ⟨l, hl⟩ : ∃ l, bs.length = l := ⟨_, rfl⟩
 rw [hl] at HRP ⊢
 obtain ⟨R, hR⟩ : ∃ R, readP bs base = R := ⟨_, rfl⟩
 rw [hR] at HRP hr5 ⊢
 clear h hl hR hlc hcm
 obtain ⟨r1, hr1⟩ : ∃ r, R.1 = r := ⟨_, rfl⟩
 obtain ⟨n, hn⟩ : ∃ n, R.2.length = n := ⟨_, rfl⟩
 have HR1 := Lib.hid hr1
 have HN := Lib.hid hn
 rw [hn] at hr5
 unfold ReadPost at HRP
 rw [hn, hr1] at HRP
 by_cases h0 : r1 = 0
 ·subst h0
  have hmk := fun W => make_lst n (by omega) W
  have hP : ParsePost R w = fun e w' => ∃ A c, e = .returned (.tuple #[.slice A n c, .int .i64 (n : Int), .int .i64 0]) ∧ Below w.heap.size w w' ∧ LsV w' (.slice A n c) (R.2.map (fun e => e.data)) := by
   unfold ParsePost
   rw [hr1, if_pos rfl, List.length_map, HN.out]
  rw [hP]
  clear hP hr1 hn
  go_enter Tryz.func22, Tryz.ntmps22
  go_wp2_with fail
  refine HRP.out.mono ?_
  rintro y w1 ⟨A1, c1, rfl, hb1, hlc1, hcm1, hen⟩
  have HB1 := Lib.hid hb1
  have HEN := Lib.hid hen
  unfold maxLen at hcm1
  clear hb1 hen
  have hba := (Below.refl w1.heap.size w1).alloc (Nat.le_refl _) (.cells (madeCells #[.slice none 0 0] n) 32)
  have HOW : Hid (OwnL lstK 32 (fun k => k < w1.heap.size) (w1.alloc (.cells (madeCells #[.slice none 0 0] n) 32)) w1.heap.size (.slice (some ⟨w1.heap.size, 0, none⟩) 0 n) []) := own_mk lstK _ _ w1 _ n _ (by unfold maxLen; omega) (by rw [size_madeCells]; exact (Nat.mul_one n).symm) (Nat.lt_irrefl _)
  have HBA := Lib.hid hba
  clear hba
  go_wp2_with fail
  go_loopw [9, 28] (fun v9 x wr => ∃ (i : Nat), i ≤ n ∧ x = .int .i64 (i : Int) ∧ Below w1.heap.size w1 wr ∧ OwnL lstK 32 (fun k => k < w1.heap.size) wr w1.heap.size v9 ((R.2.take i).map (fun e => e.data))) (fun _ x _ => n - (intOf x).toNat)
  case atStart => exact ⟨0, Nat.zero_le _, rfl, HBA.out, by rw [List.take_zero]; exact HOW.out⟩
  case round =>
   obtain ⟨i, hi, rfl, hb, ho⟩ := hrel
   have HB := Lib.hid hb
   obtain ⟨A9, c9, hv9, _, _⟩ := TmpL.slice (K := lstK) ho.tmp
   have hli : ((R.2.take i).map (fun e => e.data)).length = i := by rw [List.length_map, List.length_take]; have := HN.out; omega
   have hv8 : (Value.slice A9 ((R.2.take i).map (fun e => e.data)).length c9) = .slice A9 i c9 := congrArg (fun m => Value.slice A9 m c9) hli
   have hv9' := hv9.trans hv8
   clear hv9 hv8
   subst hv9'
   have HO := Lib.hid ho
   clear hb ho
   have z0 : (0 : Int) ≤ (i : Int) := by omega
   by_cases hlt : i < n
   ·have z1 : (i : Int) < (n : Int) := by omega
    have hgi : R.2[i]? = some (R.2[i]'(by have := HN.out; omega)) := List.getElem?_eq_getElem _
    obtain ⟨a, ha⟩ : ∃ a, (R.2[i]'(by have := HN.out; omega)) = a := ⟨_, rfl⟩
    rw [ha] at hgi
    obtain ⟨ad, A2, c2, rfl, x0, x1, x2, hby⟩ := HEN.out.at_ i a hgi
    have y0 := (HB.out.cell (World.block_lt_of_cell? w1 _ x0)).trans x0
    have y1 := (HB.out.cell (World.block_lt_of_cell? w1 _ x1)).trans x1
    have y2 := (HB.out.cell (World.block_lt_of_cell? w1 _ x2)).trans x2
    have hed := ents_data R.2 i a hgi
    have HED := Lib.hid hed
    have hzr := HB.out.size
    have HOA : Hid (OwnL lstK 32 (fun k => k < w1.heap.size) ((wr.alloc (.cells #[.slice A2 a.data.length c2, .int .i64 (a.place : Int), .int .i64 (a.depth : Int)] 176)).alloc (.cells #[.slice A2 a.data.length c2] 32)) w1.heap.size (.slice A9 i c9) ((R.2.take i).map (fun e => e.data))) := (HO.out.alloc _).alloc _
    have HTA : Hid (TmpL lstK (fun k => k < w1.heap.size) ((wr.alloc (.cells #[.slice A2 a.data.length c2, .int .i64 (a.place : Int), .int .i64 (a.depth : Int)] 176)).alloc (.cells #[.slice A2 a.data.length c2] 32)) (.slice (some ⟨(wr.alloc (.cells #[.slice A2 a.data.length c2, .int .i64 (a.place : Int), .int .i64 (a.depth : Int)] 176)).heap.size, 0, none⟩) 1 1) [a.data]) :=
     TmpL.one (K := lstK) (a := a.data) (d := .slice A2 a.data.length c2) (Blk.new _ 32 #[.slice A2 a.data.length c2]) rfl (hby.only (Only.of_below (M := fun _ => False) ((HB.out.alloc hzr _).alloc (by simp; omega) _)) (fun _ _ h9 => h9))
    have hsz : (wr.alloc (.cells #[.slice A2 a.data.length c2, .int .i64 (a.place : Int), .int .i64 (a.depth : Int)] 176)).heap.size = wr.heap.size + 1 := by simp
    rw [hsz] at HTA
    have s1 : Hid (((R.2.take i).map (fun e => e.data)).length + [a.data].length ≤ 2000000) := by unfold Hid; rw [hli]; simp; omega
    have HZ : Hid (w1.heap.size ≤ ((wr.alloc (.cells #[.slice A2 a.data.length c2, .int .i64 (a.place : Int), .int .i64 (a.depth : Int)] 176)).alloc (.cells #[.slice A2 a.data.length c2] 32)).heap.size) := by unfold Hid; simp; omega
    have HBB : Hid (Below w1.heap.size w1 ((wr.alloc (.cells #[.slice A2 a.data.length c2, .int .i64 (a.place : Int), .int .i64 (a.depth : Int)] 176)).alloc (.cells #[.slice A2 a.data.length c2] 32))) := (HB.out.alloc hzr _).alloc (by simp; omega) _
    have HOL : Hid (∀ j, (Value.slice A9 i c9).ownBlock = some j → w1.heap.size ≤ j) := fun j hj => (HO.out.lt j hj).1
    have HLI := Lib.hid hli
    have HLT := Lib.hid hlt
    clear hgi ha x0 x1 x2 hby hed hsz hli hlt
    go_wp2_with (at_builtin; refine list_appendL typed_lst (v := .slice A9 i c9) (ex := .slice (some ⟨wr.heap.size + 1, 0, none⟩) 1 1) (l2 := [a.data]) rfl (.tmp 32) (.tmp 35) rfl (by exact HOA.out) (by exact HTA.out) (by rfl) (by rfl) s1.out (by exact HZ.out) (by intro j hj; exact Nat.lt_of_lt_of_le hj HZ.out) ?_; intro v5 w5 ho5 hg5 hk5; have HO5 := Lib.hid ho5; have HG5 := Lib.hid hg5; clear ho5 hg5 hk5)
    go_roundw
    case rel => exact ⟨i + 1, by have := HLT.out; omega, by go_num, HBB.out.grown HG5.out HZ.out (fun j hj => HOL.out j hj), Eq.mpr (congrArg (fun L : List (List UInt8) => OwnL lstK 32 (fun k => k < w1.heap.size) w5 w1.heap.size v5 L) HED.out) HO5.out⟩
    case measure => have := HLT.out; simp [intOf]; omega
   ·obtain rfl : i = n := by omega
    have hall : R.2.take i = R.2 := List.take_of_length_le (by rw [HN.out]; exact Nat.le_refl _)
    rw [hall] at HO
    have HLS : Hid (LsV wr (.slice A9 i c9) (R.2.map (fun e => e.data))) := by
     obtain ⟨ds, h1, h2⟩ := HO.out.tmp
     exact ⟨ds, h1, h2.mono (fun _ _ _ => trivial)⟩
    clear hall hli hlt
    go_wp2_with fail
    go_ret3
    exact ⟨A9, c9, rfl, HB1.out.trans (HB.out.mono HB1.out.size), HLS.out⟩
 ·have z : (r1 != 0) = true := by rw [bne_iff_ne]; exact h0
  have hP : ParsePost R w = fun e w' => ∃ A c, e = .returned (.tuple #[.slice A 0 c, .int .i64 (n : Int), .int .i64 r1]) ∧ Below w.heap.size w w' ∧ LsV w' (.slice A 0 c) [] := by
   unfold ParsePost
   rw [hr1, if_neg h0, HN.out]
   rfl
  rw [hP]
  clear hP hr1 h0 hn
  go_enter Tryz.func22, Tryz.ntmps22
  go_wp2_with fail
  refine HRP.out.mono ?_
  rintro y w1 ⟨A1, c1, rfl, hb1, hlc1, hcm1, hen⟩
  have HB1 := Lib.hid hb1
  clear hb1 hen
  go_wp2_with fail
  go_ret3
  exact ⟨none, 0, rfl, HB1.out, LsV.nil_ _⟩
end Go.Proofs.YtpfjlhpahmhkhaaGreat.Ob
