/- Texts put together: USc6, USc7. -/
import Derived.Test.YtbenkmihkbjgeaaGreatQu37
import Derived.Deep.RegionHeld3
import Derived.Deep.DeepCutAuto
import Derived.Deep.RegionLaw
/- Package scan: a file's hash, worked out or known. -/
set_option linter.unusedVariables false
set_option linter.unusedSimpArgs false
namespace Go.Proofs.YtbenkmihkbjgeaaGreat.Tx
open Go.RowKit Go.Maps Go.Proofs.YtbenkmihkbjgeaaGreat.Sh
def KeepsG (w : World) (Z : Nat → Prop) (g : Nat) (w1 w2 : World) : Prop := Only (fun k => k = g ∨ (¬ Z k ∧ w.heap.size ≤ k)) w1 w2
section
variable {w w1 w2 w3 : World} {Z Z' : Nat → Prop} {g : Nat}
theorem KeepsG.of (h : Keeps w Z w1 w2) : KeepsG w Z g w1 w2 := Only.more h (fun k _ hm => .inr hm)
theorem KeepsG.of_below (h : Below w1.heap.size w1 w2) : KeepsG w Z g w1 w2 := Only.of_below h
theorem KeepsG.trans (h : KeepsG w Z g w1 w2) (h2 : KeepsG w Z g w2 w3) : KeepsG w Z g w1 w3 := Only.trans h h2 (fun k hk => .inl hk)
theorem KeepsG.fewer (h : KeepsG w Z g w1 w2) (hz : ∀ k, Z' k → Z k) : KeepsG w Z' g w1 w2 := Only.more h (fun k _ hm => hm.imp id (fun hm => ⟨fun hk => hm.1 (hz k hk), hm.2⟩))
theorem KeepsG.blk (h : KeepsG w Z g w1 w2) {q : Nat} {T : TypeId} {cs : Array Value} (hq : Blk w1 q T cs) (hg : q ≠ g) (hz : Z q) : Blk w2 q T cs := Only.blk h hq (fun hn => hn.elim hg (fun hn => hn.1 hz))
end
def AskG (w w1 : World) (b s x g bf : Nat) (m : Option Nat) (rv : Value) (Z : Nat → Prop) (c : CSt) (X : IxM) (rows : List RwM) (files : List KnM) (n : Nat) (p : List UInt8) (f : FileM) (B : Nat) (cs : Array Value) (iv tv : Value) (wy : World) : Prop :=
 ∃ q, hshQ X c p f = q ∧ tv = .bool q.isSome ∧ (∀ id, q = some id → iv = .string (Tx.str id)) ∧ ScA w wy b s x g bf m rv Z (hshC X c p f) X rows files n ∧ Blk wy B 129 cs ∧ KeepsG w Z g w1 wy
def KnewG (w w1 : World) (b s x g bf : Nat) (m : Option Nat) (rv : Value) (Z : Nat → Prop) (c : CSt) (X : IxM) (rows : List RwM) (files : List KnM) (n : Nat) (p : List UInt8) (f : FileM) (B : Nat) (cs : Array Value) (iv bv : Value) (wy : World) : Prop :=
 ∃ q, ixL X p f.time = q ∧ bv = .bool q.isSome ∧ (∃ id : List UInt8, iv = .string (Tx.str id) ∧ ∀ id', q = some id' → id' = id) ∧ ScA w wy b s x g bf m rv Z c X rows files n ∧ Blk wy B 129 cs ∧ KeepsG w Z g w1 wy
set_option maxRecDepth 100000 in
set_option maxHeartbeats 6400000 in
theorem schash_any {w wx : World} {b s x g bf i n dl dc : Nat} {m : Option Nat} {rv : Value} {Z D : Nat → Prop} {c : CSt} {X : IxM} {rows : List RwM} {files : List KnM} {A : Option Addr} (p : List UInt8) (f : FileM) (hA : ScA w wx b s x g bf m rv Z c X rows files n) (hgx : g ≠ x) (hg : GoS c i) (hi : i ≤ 380000) (hp : p.length ≤ 900000) (hl : f.data.length = dl) (hd : By D wx (.slice A dl dc) f.data) (hD : ∀ k, D k → Z k ∧ k ≠ g) (hn : n ≤ 1000000) (hids : ∀ k ∈ X.files, k.id.length ≤ 800000) (hz : w.heap.size ≤ wx.heap.size) :
  Calls Tryz.prog 111 #[.pointer (some ⟨g, 0, none⟩), .string (Tx.str p), .agg #[.int .i64 f.mode, .slice A dl dc, .int .i64 f.time]] wx fun e w' => e = .returned (.tuple #[.string (Tx.str (hashV X c p f)), .int .i64 (hashE X c p f)]) ∧ ScA w w' b s x g bf m rv Z (hashC X c p f) X rows files (n + hashN X c p f) ∧ KeepsG w Z g wx w' := by
 have H0 := Lib.hid hA
 have HG := Lib.hid hg
 have HDD := Lib.hid hD
 have HL := Lib.hid hl
 have HIX := Lib.hid hgx
 obtain ⟨w1, hw1⟩ : ∃ w1, w1 = wx.alloc (.cells #[.int .i64 f.mode, .slice A dl dc, .int .i64 f.time] 129) := ⟨_, rfl⟩
 have hb1 : Below wx.heap.size wx w1 := by rw [hw1]; exact (Below.refl _ _).alloc (Nat.le_refl _) _
 have hblk : Blk w1 wx.heap.size 129 #[.int .i64 f.mode, .slice A dl dc, .int .i64 f.time] := by rw [hw1]; exact Blk.new _ _ _
 obtain ⟨Z1, hZ1⟩ : ∃ Z1 : Nat → Prop, Z1 = fun k => Z k ∨ (wx.heap.size ≤ k ∧ k < w1.heap.size) := ⟨_, rfl⟩
 have hA1 : ScA w w1 b s x g bf m rv Z1 c X rows files n := by rw [hZ1]; exact hA.fresh hb1
 have hzb : Z1 wx.heap.size := by rw [hZ1]; exact .inr ⟨Nat.le_refl _, hblk.lt⟩
 have hgb : wx.heap.size ≠ g := fun e => by have := hA.blk.lt; omega
 have HZZ : Hid (∀ k, Z k → Z1 k) := fun k hk => by rw [hZ1]; exact .inl hk
 have HA1 := Lib.hid hA1
 have HB1 := Lib.hid hb1
 have HBLK := Lib.hid hblk
 have HZB := Lib.hid hzb
 have HGB := Lib.hid hgb
 have HD1 := Lib.hid (hd.only (M := fun _ => False) (Only.of_below hb1) (fun _ _ => id))
 have cg1 : w1.cell? ⟨g, 1, none⟩ = some (.pointer (some ⟨s, 0, none⟩)) := hA1.blk.cell 1
 have cg2 : w1.cell? ⟨g, 2, none⟩ = some (.pointer (some ⟨x, 0, none⟩)) := hA1.blk.cell 2
 have cb2 : w1.cell? ⟨wx.heap.size, 2, none⟩ = some (.int .i64 f.time) := hblk.cell 2
 obtain ⟨B, hB⟩ : ∃ B, wx.heap.size = B := ⟨_, rfl⟩
 rw [hB] at HBLK HZB HGB cb2
 have HCS : Hid (∀ W, Below w1.heap.size w1 W → W.cell? ⟨g, 2, none⟩ = some (.pointer (some ⟨x, 0, none⟩)) ∧ W.cell? ⟨B, 2, none⟩ = some (.int .i64 f.time)) := fun W hW => ⟨(hW.cell (World.block_lt_of_cell? w1 _ cg2)).trans cg2, (hW.cell (World.block_lt_of_cell? w1 _ cb2)).trans cb2⟩
 have HXH := Lib.hid (fun (W : World) (hW : Below w1.heap.size w1 W) => xhash_any p f.time (hA1.ix.below hW) (by omega))
 have HIDS : Hid (∀ id, ixL X p f.time = some id → id.length ≤ 800000) := fun id h => by
  unfold ixL at h
  split at h
  ·rename_i k hk
   split at h
   ·injection h with h
    subst h
    unfold knF at hk
    exact hids k (List.mem_of_find?_eq_some hk)
   ·cases h
  ·cases h
 clear hA hg hD hd hA1 hb1 hblk hzb hgb hZ1 hids hl hgx
 go_enter Tryz.func111, Tryz.ntmps111
 go_upto_region 1 with (fail)
 try rw [hB]
 rw [← hw1]
 clear hw1
 go_cut [8, 9] (fun iv bv wy => KnewG w w1 b s x g bf m rv Z1 c X rows files n p f B #[.int .i64 f.mode, .slice A dl dc, .int .i64 f.time] iv bv wy)
 case first =>
  cases hq : ixL X p f.time with
  | none =>
   have HXN : Hid (∀ W, Below w1.heap.size w1 W → Calls Tryz.prog 160 #[.pointer (some ⟨x, 0, none⟩), .string (Tx.str p), .int .i64 f.time] W fun e w' => e = .returned (.tuple #[.string ⟨#[]⟩, .bool false]) ∧ Below W.heap.size W w') := fun W hW => (HXH.out W hW).mono fun e w' h => by
    rcases h with ⟨hb, ⟨id, h1, _⟩ | ⟨_, h2⟩⟩
    ·rw [hq] at h1; cases h1
    ·exact ⟨h2, hb⟩
   have HQ := Lib.hid hq
   clear hq HXH
   go_region_held3 (fun W : World => W.cell? ⟨g, 2, none⟩ = some (.pointer (some ⟨x, 0, none⟩)) ∧ W.cell? ⟨B, 2, none⟩ = some (.int .i64 f.time))
    (first | exact q3 | exact HCS.out _ ((Below.refl _ _).drew) | exact ⟨cg2, cb2⟩)
    (first
     | (go_at_call 160; refine (HXN.out _ ((Below.refl _ _).drew)).mono ?_; rintro e w3 ⟨rfl, hb3⟩; have HB3 : Hid (Below w1.heap.size w1 w3) := ((Below.refl w1.heap.size w1).drew).trans hb3; have q3 := HCS.out w3 HB3.out; clear hb3))
   all_goals go_wp2_with fail
   all_goals go_meet
   all_goals exact ⟨none, HQ.out, rfl, ⟨[], rfl, (fun id' h => by cases h)⟩, HA1.out.below HB3.out, HBLK.out.below HB3.out HBLK.out.lt, KeepsG.of_below HB3.out⟩
  | some id =>
   have HXN : Hid (∀ W, Below w1.heap.size w1 W → Calls Tryz.prog 160 #[.pointer (some ⟨x, 0, none⟩), .string (Tx.str p), .int .i64 f.time] W fun e w' => e = .returned (.tuple #[.string (Tx.str id), .bool true]) ∧ Below W.heap.size W w') := fun W hW => (HXH.out W hW).mono fun e w' h => by
    rcases h with ⟨hb, ⟨id', h1, h2⟩ | ⟨h1, _⟩⟩
    ·rw [hq] at h1
     injection h1 with h1
     subst h1
     exact ⟨h2, hb⟩
    ·rw [hq] at h1; cases h1
   have HQ := Lib.hid hq
   clear hq HXH
   go_region_held3 (fun W : World => W.cell? ⟨g, 2, none⟩ = some (.pointer (some ⟨x, 0, none⟩)) ∧ W.cell? ⟨B, 2, none⟩ = some (.int .i64 f.time))
    (first | exact q3 | exact HCS.out _ ((Below.refl _ _).drew) | exact ⟨cg2, cb2⟩)
    (first
     | (go_at_call 160; refine (HXN.out _ ((Below.refl _ _).drew)).mono ?_; rintro e w3 ⟨rfl, hb3⟩; have HB3 : Hid (Below w1.heap.size w1 w3) := ((Below.refl w1.heap.size w1).drew).trans hb3; have q3 := HCS.out w3 HB3.out; clear hb3))
   all_goals go_wp2_with fail
   all_goals go_meet
   all_goals exact ⟨some id, HQ.out, rfl, ⟨id, rfl, (fun id' h => by injection h with h; exact h.symm)⟩, HA1.out.below HB3.out, HBLK.out.below HB3.out HBLK.out.lt, KeepsG.of_below HB3.out⟩
 case rest =>
 obtain ⟨q0, hq0, rfl, ⟨id, rfl, hid0⟩, ha0, hb0, hk0⟩ := hcut
 have HQ0 := Lib.hid hq0
 have HA3 := Lib.hid ha0
 have HK3 := Lib.hid hb0
 have HG3 := Lib.hid hk0
 have HID0 := Lib.hid hid0
 have q4 : wc.cell? ⟨g, 1, none⟩ = some (.pointer (some ⟨s, 0, none⟩)) := ha0.blk.cell 1
 clear hq0 ha0 hb0 hk0 hid0 cg1 cg2 cb2 HCS HXH
 obtain ⟨w3, hw3⟩ : ∃ w3, w3 = wc := ⟨_, rfl⟩
 subst hw3
 go_upto_region 2 with (fail)
 go_cut [29] (fun tv wy => AskG w w1 b s x g bf m rv Z1 c X rows files n p f B #[.int .i64 f.mode, .slice A dl dc, .int .i64 f.time] (.string (Tx.str id)) tv wy)
 case first =>
  cases q0 with
  | none =>
   have HQ : Hid (hshQ X c p f = none ∧ hshC X c p f = c) := by unfold Hid hshQ hshC; rw [HQ0.out]; exact ⟨rfl, rfl⟩
   go_wp2_with fail
   go_meet
   exact ⟨none, HQ.out.1, rfl, (fun id h => by cases h), by rw [HQ.out.2]; exact HA3.out, HK3.out, HG3.out⟩
  | some id' =>
   obtain rfl : id' = id := HID0.out id' rfl
   have HIL := Lib.hid (HIDS.out id' HQ0.out)
   obtain ⟨tt, htt⟩ : ∃ tt, hasE c id' = tt := ⟨_, rfl⟩
   have HQ : Hid (hshQ X c p f = (if tt = true then some id' else none) ∧ hshC X c p f = hasC c id') := by unfold Hid hshQ hshC; rw [HQ0.out, ← htt]; exact ⟨rfl, rfl⟩
   have HTT := Lib.hid htt
   clear htt
   go_wp2_with fail
   refine (shasq_any id' HA3.out.st HG.out (by omega) HIL.out).mono ?_
   rw [HTT.out]
   rintro e w4 ⟨rfl, hs4, hk4⟩
   have HA4 := Lib.hid (HA3.out.step hs4 hk4)
   have HK4 := Lib.hid ((KeepsG.of (g := g) hk4).blk HK3.out HGB.out HZB.out)
   have HKG : Hid (KeepsG w Z1 g w1 w4) := HG3.out.trans (KeepsG.of hk4)
   clear hs4 hk4 q4
   go_wp2_with fail
   go_meet
   refine ⟨_, HQ.out.1, ?_, (fun id2 h => ?_), by rw [HQ.out.2]; exact HA4.out, HK4.out, HKG.out⟩
   ·cases tt <;> rfl
   ·cases tt with
    | true => rw [if_pos rfl] at h; injection h with h; rw [h]
    | false => cases h
 case rest =>
  obtain ⟨q, hq, rfl, hid, ha, hb, hk⟩ := hcut
  clear HA3 HK3 HG3 HQ0 HID0
  have HQ := Lib.hid hq
  have HAC := Lib.hid ha
  have HBC := Lib.hid hb
  have HKC := Lib.hid hk
  have HID := Lib.hid hid
  have HDC := Lib.hid (HD1.out.only hk (fun k hk' hn => by
   rcases hn with hn | hn
   ·exact (HDD.out k hk').2 hn
   ·exact hn.1 (HZZ.out k (HDD.out k hk').1)))
  clear hq ha hb hk hid
  cases q with
  | some id =>
   have hi := HID.out _ rfl
   have HE : Hid (hashV X c p f = id ∧ hashE X c p f = 0 ∧ hashC X c p f = hshC X c p f ∧ hashN X c p f = 0) := by
    unfold Hid hashV hashE hashC hashN; rw [HQ.out]; exact ⟨rfl, rfl, rfl, rfl⟩
   go_wp2_with fail
   go_ret2
   exact ⟨by rw [HE.out.1, HE.out.2.1]; rfl, by rw [HE.out.2.2.1, HE.out.2.2.2]; exact HAC.out.fewer HZZ.out H0.out.zx H0.out.zg.1 H0.out.zb.1 H0.out.zr, (KeepsG.of_below HB1.out).trans (HKC.out.fewer HZZ.out)⟩
  | none =>
   have cb1 : wc.cell? ⟨B, 1, none⟩ = some (.slice A dl dc) := HBC.out.cell 1
   have hdl := HDC.out.slice
   by_cases hlong : 4096 < dl
   ·have y1 : decide ((4096 : Int) < (dl : Int)) = true := decide_eq_true (by omega)
    have HE : Hid (hashV X c p f = [] ∧ hashE X c p f = 3 ∧ hashC X c p f = hshC X c p f ∧ hashN X c p f = 0) := by
     have h4 : 4096 < f.data.length := by rw [HL.out]; exact hlong
     unfold Hid hashV hashE hashC hashN; rw [HQ.out]; dsimp only; rw [if_pos h4, if_pos h4, if_pos h4, if_pos h4]; exact ⟨rfl, rfl, rfl, rfl⟩
    clear hlong hdl
    go_wp2_with fail
    go_ret2
    exact ⟨by rw [HE.out.1, HE.out.2.1]; rfl, by rw [HE.out.2.2.1, HE.out.2.2.2]; exact HAC.out.fewer HZZ.out H0.out.zx H0.out.zg.1 H0.out.zb.1 H0.out.zr, (KeepsG.of_below HB1.out).trans (HKC.out.fewer HZZ.out)⟩
   ·have y1 : decide ((4096 : Int) < (dl : Int)) = false := decide_eq_false (by omega)
    have hln : ¬ 4096 < f.data.length := by rw [HL.out]; exact hlong
    have HE : Hid (hashV X c p f = sptV (hshC X c p f) (blobL f.data) ∧ hashE X c p f = sptE (hshC X c p f) (blobL f.data) ∧ hashC X c p f = sptC (hshC X c p f) (blobL f.data) ∧ hashN X c p f = 1) := by
     unfold Hid hashV hashE hashC hashN; rw [HQ.out]; dsimp only; rw [if_neg hln, if_neg hln, if_neg hln, if_neg hln]; exact ⟨rfl, rfl, rfl, rfl⟩
    have HDL : Hid (f.data.length ≤ 4096) := by unfold Hid; omega
    have cg5 : wc.cell? ⟨g, 5, none⟩ = some (.int .i64 (n : Int)) := HAC.out.blk.cell 5
    have fg5 : wc.frozen? ⟨g, 5, none⟩ = false := HAC.out.blk.frozen 5
    have hw : IntKind.i64.wrap ((n : Int) + 1) = (n : Int) + 1 := by
     rw [IntKind.wrap_i64]
     omega
    have HNN : Hid (((n + 1 : Nat) : Int) = (n : Int) + 1) := by unfold Hid; omega
    clear hlong hln hdl
    go_upto_region 7 with (fail)
    try rw [hw]
    obtain ⟨wd, hwd⟩ : ∃ wd, wd = wc.setCell ⟨g, 5, none⟩ (.int .i64 ((n : Int) + 1)) := ⟨_, rfl⟩
    have HAD : Hid (ScA w wd b s x g bf m rv Z1 (hshC X c p f) X rows files (n + 1)) := by rw [hwd, ← HNN.out]; exact HAC.out.count HIX.out (n + 1)
    have hkd : KeepsG w Z1 g wc wd := by rw [hwd]; exact (Only.refl _ wc).set_ (.inl (.inl rfl)) _
    have HKD := Lib.hid (HKC.out.trans hkd)
    have HBD := Lib.hid (hkd.blk HBC.out HGB.out HZB.out)
    have HDD2 := Lib.hid (HDC.out.only hkd (fun k hk' hn => by
     rcases hn with hn | hn
     ·exact (HDD.out k hk').2 hn
     ·exact hn.1 (HZZ.out k (HDD.out k hk').1)))
    rw [← hwd]
    clear hwd hkd cb1 cg5 fg5 hw
    have q1 : wd.cell? ⟨g, 1, none⟩ = some (.pointer (some ⟨s, 0, none⟩)) := HAD.out.blk.cell 1
    have q2 : wd.cell? ⟨B, 1, none⟩ = some (.slice A dl dc) := HBD.out.cell 1
    have HPO := Lib.hid (sblobq_any (.slice A dl dc) f.data (HAD.out.st.below ((Below.refl _ _).drew)) (HG.out.hsh X p f) (by omega) (by have := HDD2.out.slv; rw [HL.out.symm] at this ⊢; exact sl_of this) HDL.out)
    go_region_held3 (fun W : World => W.cell? ⟨g, 1, none⟩ = some (.pointer (some ⟨s, 0, none⟩)) ∧ W.cell? ⟨B, 1, none⟩ = some (.slice A dl dc))
     (first | exact q9 | exact ⟨q1, q2⟩)
     (first
      | (go_at_call 30; refine HPO.out.mono ?_; rintro e w9 ⟨rfl, hs9, hk9⟩; have HA9 := Lib.hid ((HAD.out.below ((Below.refl _ _).drew)).step hs9 hk9); have HK9 := Lib.hid (KeepsG.of (g := g) hk9); have q9 : w9.cell? ⟨g, 1, none⟩ = some (.pointer (some ⟨s, 0, none⟩)) ∧ w9.cell? ⟨B, 1, none⟩ = some (.slice A dl dc) := (⟨HA9.out.blk.cell 1, (HK9.out.blk (HBD.out.below ((Below.refl _ _).drew) HBD.out.lt) HGB.out HZB.out).cell 1⟩); clear hs9 hk9))
    go_wp2_with fail
    go_ret2
    exact ⟨by rw [HE.out.1, HE.out.2.1]; rfl, by rw [HE.out.2.2.1, HE.out.2.2.2]; exact HA9.out.fewer HZZ.out H0.out.zx H0.out.zg.1 H0.out.zb.1 H0.out.zr, (KeepsG.of_below HB1.out).trans ((HKD.out.trans ((KeepsG.of_below ((Below.refl _ _).drew)).trans HK9.out)).fewer HZZ.out)⟩
end Go.Proofs.YtbenkmihkbjgeaaGreat.Tx
/- Package scan: a file taken into the table. -/
set_option linter.unusedVariables false
set_option linter.unusedSimpArgs false
namespace Go.Proofs.YtbenkmihkbjgeaaGreat.Tx
open Go.RowKit Go.Maps Go.Proofs.YtbenkmihkbjgeaaGreat.Sh
namespace S7
theorem take_at {P : Program} {md : Region.Mode} {ops : Array Oper} {Q : Exit → Act → World → Prop} {S : World → Prop} {i d : Nat} {oi : Oper} {v : Value} {fuel : Nat} {listed : Array Bool} {a : Act} {w : World} (hi : ops[i]? = some oi) (hd : oi.dst = some d)
  (hs : Region.noSelect ops = true := by kernel_rfl) (hf : Region.free md ops listed i = true := by kernel_rfl) (hr : (Region.ready md ops listed).contains i = true := by kernel_rfl)
  (hQ : ∀ c a w, Q (.panic c) (a.put (some d) v) w → Q (.panic c) a w := by exact fun _ _ _ h => h) (hy : YieldsIf P ops S oi v a) (hS : S w := by assumption)
  (h : wpAnyH P md ops Q S fuel (listed.setIfInBounds i true) (a.put (some d) v) w) : wpAnyH P md ops Q S (fuel + 1) listed a w :=
 wpAnyH_take hi hs hf hr (by rw [hd]; exact hQ) hy hS (by rw [hd]; exact h)
end S7
open S7
theorem step_mapUpdate_own {H : Type} {P : Program} (w : World) {ops : Array Oper} {o : Oper} {a : Act} {Kk : Act → World → Prop} {Q : Exit → Act → World → Prop} {E : Prop}
  (hg : o.guard = none) (m x v : Operand) (t : TypeId) (hop : o.op = Op.mapUpdate t m x v)
  (k e : TypeId) (K : Keyed P k) (ht : P.underlying t = some (.map k e)) (R : Value → Option (DataW H × List MemPlace)) (b n : Nat) (D : DataW H)
  (hm : a.eval m = .map (some b)) (hown : w.ownsMap P k R b n D) (hn : n < maxLen) (key val : Value) (kl : Lit) (hx : a.eval x = key) (hv : a.eval v = val) (hkey : keyOf P k key = some kl)
  (d : DataW H) (ps : List MemPlace) (hval : R val = some (d, ps))
  (hK : ∀ w', w'.ownsMap P k R b (n + 1) (D.put kl d) → w.grownBy w' (some b) → Kk (a.put o.dst undef) w') :
  if Region.wanted o (yielded ops a.tmps) = true then Oper.wp P o a w Kk Q else E := by
 have hw : Region.wanted o (yielded ops a.tmps) = true := by simp [Region.wanted, hg]
 rw [if_pos hw]
 obtain ⟨w', hrun, r1, r2⟩ := hown.update K ht hn hkey hval
 unfold Oper.wp
 simp [execOp, hop, hm, hx, hv, hrun, Result.andThen]
 exact hK w' r1 r2
theorem KnOK.size {w : World} {b n : Nat} {D : DataW Value} {l : List KnM} (h : KnOK l D) (ho : w.ownsMap Tryz.prog 9 hv b n D) : Maps.size D ≤ l.length := by
 have := own_within ho (ds := l.map KnM.path) (fun x hx => by
  rw [h.has_ x] at hx
  obtain ⟨k, hk⟩ := Option.isSome_iff_exists.1 hx
  unfold knF at hk
  have h1 := List.mem_of_find?_eq_some hk
  have h2 := List.find?_some hk
  exact List.mem_map.2 ⟨k, h1, by simpa using h2⟩)
 rwa [List.length_map] at this
theorem putK_len (l : List KnM) (k : KnM) : (putK l k).length ≤ l.length + 1 := by
 unfold putK
 rw [List.length_append]
 have := List.length_filter_le (fun q : KnM => !(q.path == k.path)) l
 simp
 exact this
section
variable {w wx w2 : World} {b s x g bf i : Nat} {m : Option Nat} {rv : Value} {Z D : Nat → Prop} {c c' : CSt} {X : IxM} {rows : List RwM} {files : List KnM} {n : Nat}
theorem ScA.read (h : ScA w wx b s x g bf m rv Z c X rows files n) (hm : MineP w w2 b c' (fun k => (Z k ∨ k = s) ∨ D k)) (hk : Keeps w (fun k => Z k ∨ k = s) wx w2) (hD : ∀ k, D k → wx.heap.size ≤ k) : ScA w w2 b s x g bf m rv (fun k => Z k ∨ D k) c' X rows files n := by
 obtain ⟨z1, z2, r, z3⟩ := h.st
 have hsl := z3.lt
 have hk' : Keeps w Z wx w2 := hk.fewer (fun k hk => .inl hk)
 have hst : StAt w w2 b c' s Z := ⟨hm.fewer (fun k hk => .inl hk), z2, r, Only.blk hk z3 (fun hn => hn.1 (.inr rfl))⟩
 have h1 := h.step hst hk'
 refine ⟨⟨hm.fewer (fun k hk => ?_), ⟨z2.1, fun hz => ?_⟩, hst.2.2⟩, h1.ix, h1.blk, h1.rows, h1.fil, ⟨.inl h1.zx.1, fun k hk => .inl (h1.zx.2 k hk)⟩, ⟨.inl h1.zg.1, h1.zg.2⟩, ⟨.inl h1.zb.1, h1.zb.2⟩, fun k hk => .inl (h1.zr k hk)⟩
 ·rcases hk with (hk | hk) | hk
  ·exact .inl (.inl hk)
  ·exact .inr hk
  ·exact .inl (.inr hk)
 ·rcases hz with hz | hz
  ·exact z2.2 hz
  ·have := hD s hz; omega
end
def KeepsT (w : World) (Z : Nat → Prop) (g bf : Nat) (rv : Value) (w1 w2 : World) : Prop := Only (fun k => k = g ∨ k = bf ∨ rv.ownBlock = some k ∨ (¬ Z k ∧ w.heap.size ≤ k)) w1 w2
def TakPost (w wx : World) (b s x g bf : Nat) (m : Option Nat) (rv : Value) (Z : Nat → Prop) (X : IxM) (S : ScM) (p : List UInt8) (e : Ending) (w' : World) : Prop :=
 ∃ rv' Z', e = .returned (.int .i64 (takE X S p)) ∧ ScA w w' b s x g bf m rv' Z' (takS X S p).c X (takS X S p).rows (takS X S p).files (takS X S p).n ∧ (∀ k, Z k → Z' k) ∧ (∀ k, Z' k → Z k ∨ wx.heap.size ≤ k) ∧ (∀ k, rv'.ownBlock = some k → rv.ownBlock = some k ∨ wx.heap.size ≤ k) ∧ KeepsT w Z g bf rv wx w'
theorem OwnR.ne_blk {T T' : TypeId} {w : World} {B k : Nat} {v : Value} {l : List RwM} {cs : Array Value} (h : OwnR T w B v l) (hb : Blk w k T' cs) (hT : T ≠ T') : v.ownBlock ≠ some k := fun hk => by
 rcases h.2 with ⟨e0, _⟩ | ⟨g', cap, cur, hv, _, hg', _⟩
 ·rw [e0] at hk; cases hk
 ·rw [hv] at hk
  injection hk with hk
  subst hk
  unfold Blk at hb
  rw [hg'] at hb
  injection hb with hb
  injection hb with _ t1 _
  exact hT t1
theorem OwnR.ne_map {T : TypeId} {w : World} {B k n : Nat} {v : Value} {l : List RwM} {D : DataW Value} (h : OwnR T w B v l) (hb : w.ownsMap Tryz.prog 9 hv k n D) : v.ownBlock ≠ some k := fun hk => by
 rcases h.2 with ⟨e0, _⟩ | ⟨g', cap, cur, hv', _, hg', _⟩
 ·rw [e0] at hk; cases hk
 ·rw [hv'] at hk
  injection hk with hk
  subst hk
  obtain ⟨es, clock, hb, _⟩ := hb
  rw [hg'] at hb
  cases hb
section
variable {w wa wb : World} {b s x g bf i : Nat} {m : Option Nat} {rv rv' : Value} {Z : Nat → Prop} {c : CSt} {X : IxM} {rows : List RwM} {files : List KnM} {n : Nat}
theorem ScA.addRow {r : RwM} (h : ScA w wa b s x g bf m rv Z c X rows files n) (hgx : g ≠ x) (hgr : wa.grownBy wb rv.ownBlock) (ho : OwnR 120 wb w.heap.size rv' (rows ++ [r])) (hown : rv'.ownBlock = rv.ownBlock ∨ rv'.ownBlock = some wa.heap.size) :
  ScA w (wb.setCell ⟨g, 3, none⟩ rv') b s x g bf m rv' (fun k => Z k ∨ rv'.ownBlock = some k) c X (rows ++ [r]) files n ∧ Only (fun k => k = g ∨ rv.ownBlock = some k) wa (wb.setCell ⟨g, 3, none⟩ rv') := by
 have hgl := h.blk.lt
 have hrg : rv.ownBlock ≠ some g := h.rows.ne_blk h.blk (by decide)
 have hrx : rv.ownBlock ≠ some x := h.rows.ne_blk h.ix.blk (by decide)
 obtain ⟨z1, z2, r2, z3⟩ := h.st
 have hsl := z3.lt
 have hrs : rv.ownBlock ≠ some s := fun e => z2.2 (h.zr s e)
 have ho1 : Only (fun k => rv.ownBlock = some k) wa wb := (Only.refl _ wa).grown hgr (fun q hq => .inl hq)
 have ho2 : Only (fun k => k = g ∨ rv.ownBlock = some k) wa (wb.setCell ⟨g, 3, none⟩ rv') := (ho1.more (fun k _ hk => .inr hk)).set_ (.inl (.inl rfl)) _
 have hg' : rv'.ownBlock ≠ some g := fun e => by
  rcases hown with h1 | h1
  ·exact hrg (h1 ▸ e)
  ·rw [h1] at e; injection e with e; omega
 obtain ⟨D, f1, f2⟩ := h.fil
 refine ⟨⟨⟨z1.grow ho2 (fun k hk => ?_) (fun k hk => ?_), ⟨z2.1, fun hz => ?_⟩, r2, ho2.blk z3 (fun hn => hn.elim h.g_x hrs)⟩, h.ix.only ho2 (fun hn => hn.elim (fun e => hgx e.symm) hrx) (fun k hk hn => ?_), ?_, ?_, ⟨D, own_only f1 ho2 (fun hn => hn.elim (fun e => own_cells f1 h.blk e) (h.rows.ne_map f1)), f2⟩, ⟨.inl h.zx.1, fun k hk => .inl (h.zx.2 k hk)⟩, ⟨.inl h.zg.1, h.zg.2⟩, ⟨.inl h.zb.1, h.zb.2⟩, fun k hk => .inr hk⟩, ho2⟩
 ·rcases hk with rfl | hk
  ·exact ⟨.inl h.zg.1, h.zg.2⟩
  ·exact ⟨.inl (h.zr k hk), (h.rows.lt k hk).1⟩
 ·rcases hk with (hk | hk) | hk
  ·exact .inl (.inl hk)
  ·rcases hown with h1 | h1
   ·exact .inl (.inl (h.zr k (h1 ▸ hk)))
   ·have h2 := (ho.lt k hk).2
    rw [h1] at hk
    injection hk with hk
    exact .inr ⟨by omega, by simpa using h2⟩
  ·exact .inl (.inr hk)
 ·rcases hz with hz | hz
  ·exact z2.2 hz
  ·rcases hown with h1 | h1
   ·exact hrs (h1 ▸ hz)
   ·rw [h1] at hz; injection hz with hz; omega
 ·obtain ⟨D', g1, _⟩ := h.ix.map_ k hk
  rcases hn with e | e
  ·exact own_cells g1 h.blk e
  ·exact h.rows.ne_map g1 e
 ·have hb := (ho1.blk h.blk hrg).set_ 3 rv'
  simpa using hb
 ·exact ho.only ((Only.refl (fun k => k = g) wb).set_ (.inl rfl) _) (fun k hk e => hg' (e ▸ hk))
theorem ScA.addFile {k0 : KnM} {D : DataW Value} (h : ScA w wa b s x g bf m rv Z c X rows files n) (hmb : ∀ k, m = some k → k ≠ bf) (hD : KnOK files D) (hm : Maps.IsMap D) {q : Nat} (ho : wb.ownsMap Tryz.prog 9 hv bf q (D.put (.string k0.path) (.held (.agg #[.int .i64 k0.time, .string (Tx.str k0.id)])))) (hgr : wa.grownBy wb (some bf)) :
  ScA w wb b s x g bf m rv Z c X rows (putK files k0) n ∧ Only (fun k => k = bf) wa wb := by
 have ho1 : Only (fun k => k = bf) wa wb := (Only.refl _ wa).grown hgr (fun q hq => by injection hq with hq; exact .inl hq.symm)
 obtain ⟨D0, f1, _⟩ := h.fil
 obtain ⟨z1, z2, r2, z3⟩ := h.st
 refine ⟨⟨⟨z1.upd ho1 (.inl h.zb.1) h.zb.2, z2, r2, ho1.blk z3 (fun e => own_cells f1 z3 e.symm)⟩, h.ix.only ho1 (fun e => own_cells f1 h.ix.blk e.symm) (fun k hk e => hmb k hk e), ho1.blk h.blk (fun e => own_cells f1 h.blk e.symm), h.rows.only ho1 (fun k hk e => h.rows.ne_map f1 (e ▸ hk)), ⟨_, own_exact ho, hD.put hm k0⟩, h.zx, h.zg, h.zb, h.zr⟩, ho1⟩
end
end Go.Proofs.YtbenkmihkbjgeaaGreat.Tx
