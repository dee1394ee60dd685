/- Texts put together: UGm1, UGs2, UFx19, UFx20, UFx21, UGs3, UGs4. -/
import Derived.Test.YtbenkmihkbjgeaaGreatQu11
import Derived.Test.YtbenkmihkbjgeaaGreatQu10
/- Package fsim as the program keeps it, as plain data: how great it may grow; its calls. (No Go in it.) -/
namespace Go.Proofs.YtbenkmihkbjgeaaGreat.Tx
def ShortC (c : ChM) : Prop := c.gone.length ≤ 1000 ∧ c.path.length ≤ 1000 ∧ c.f.data.length ≤ 20000
def ShortR (r : RowM) : Prop := r.path.length ≤ 1000 ∧ r.f.data.length ≤ 20000
structure CFits (c : CSt) (N : Nat) : Prop where
 here : c.here.length ≤ N
 both : c.durable.length + c.pending.length ≤ N
 users : c.users.length ≤ N
 time0 : 0 ≤ c.time
 time : c.time ≤ (N : Int)
 hrow : ∀ r ∈ c.here, ShortR r
 drow : ∀ r ∈ c.durable, ShortR r
 prow : ∀ q ∈ c.pending, ShortC q
structure CSmall (c : CSt) : Prop where
 here : c.here.length ≤ 900000
 both : c.durable.length + c.pending.length ≤ 900000
 users : c.users.length ≤ 900000
 time : 0 ≤ c.time ∧ c.time ≤ 4000000000
 hused : usedM c.here ≤ 400000000000
 hrow : ∀ r ∈ c.here, ShortR r
 drow : ∀ r ∈ c.durable, ShortR r
 prow : ∀ q ∈ c.pending, ShortC q
theorem used_short {R : List RowM} (h : ∀ r ∈ R, ShortR r) (hl : R.length ≤ 900000) : usedM R ≤ 400000000000 := by
 have h1 := used_bound (fun r hr => (h r hr).2)
 have h2 : R.length * 20000 ≤ 900000 * 20000 := Nat.mul_le_mul_right _ hl
 omega
theorem CFits.small {c : CSt} {N : Nat} (h : CFits c N) (hN : N ≤ 900000) : CSmall c :=
 ⟨Nat.le_trans h.here hN, Nat.le_trans h.both hN, Nat.le_trans h.users hN, ⟨h.time0, by have := h.time; omega⟩, used_short h.hrow (Nat.le_trans h.here hN), h.hrow, h.drow, h.prow⟩
theorem CFits.more {c : CSt} {N N' : Nat} (h : CFits c N) (hN : N ≤ N') : CFits c N' := ⟨Nat.le_trans h.here hN, Nat.le_trans h.both hN, Nat.le_trans h.users hN, h.time0, by have := h.time; omega, h.hrow, h.drow, h.prow⟩
theorem gone_mem {R : List RowM} {p : List UInt8} {r : RowM} (h : r ∈ goneM R p) : r ∈ R := by
 unfold goneM at h
 split at h
 ·exact h
 ·exact without_sub h
theorem with_len (R : List RowM) (p : List UInt8) (f : FileM) : (withM R p f).length ≤ R.length + 1 := by
 obtain ⟨A, B, h1, h2, _, _⟩ := with_split R p f
 have := congrArg List.length h1
 have h3 : (withoutM R p).length ≤ R.length := List.length_filter_le _ _
 rw [h2]
 rw [List.length_append] at this
 rw [List.length_append, List.length_cons]
 omega
theorem applyC_len (R : List RowM) (c : ChM) : (applyC R c).length ≤ R.length + 1 := by
 unfold applyC
 have h1 := gone_len R c.gone
 split
 ·omega
 ·have := with_len (goneM R c.gone) c.path c.f; omega
theorem applyC_row {R : List RowM} {c : ChM} (hR : ∀ r ∈ R, ShortR r) (hc : ShortC c) : ∀ r ∈ applyC R c, ShortR r := by
 intro r hr
 unfold applyC at hr
 split at hr
 ·exact hR r (gone_mem hr)
 ·rcases with_mem hr with h | h
  ·exact hR r (gone_mem h)
  ·rw [h]; exact hc.2
def foldC (R : List RowM) (l : List ChM) (k : Nat) : List RowM := (l.take k).foldl applyC R
theorem foldC_next {R : List RowM} {l : List ChM} {k : Nat} {q : ChM} (h : l[k]? = some q) : foldC R l (k + 1) = applyC (foldC R l k) q := by
 unfold foldC
 rw [List.take_add_one, h, List.foldl_append]
 rfl
theorem foldC_all (R : List RowM) (l : List ChM) {k : Nat} (h : l.length ≤ k) : foldC R l k = l.foldl applyC R := by unfold foldC; rw [List.take_of_length_le h]
theorem foldC_len (R : List RowM) (l : List ChM) : ∀ k, (foldC R l k).length ≤ R.length + min k l.length
 | 0 => by unfold foldC; simp
 | k + 1 => by
  cases h : l[k]? with
  | none =>
   have hl : l.length ≤ k := by simpa using h
   have h1 := foldC_len R l k
   rw [foldC_all R l (by omega : l.length ≤ k + 1)]
   rw [foldC_all R l hl] at h1
   omega
  | some q =>
   have h1 := foldC_len R l k
   have h2 := applyC_len (foldC R l k) q
   have h3 := (List.getElem?_eq_some_iff.1 h).1
   rw [foldC_next h]
   omega
theorem foldC_row {R : List RowM} {l : List ChM} (hR : ∀ r ∈ R, ShortR r) (hl : ∀ q ∈ l, ShortC q) : ∀ k, ∀ r ∈ foldC R l k, ShortR r
 | 0 => by unfold foldC; simpa using hR
 | k + 1 => by
  cases h : l[k]? with
  | none =>
   have hle : l.length ≤ k := by simpa using h
   have h1 := foldC_row hR hl k
   rw [foldC_all R l (by omega : l.length ≤ k + 1)]
   rw [foldC_all R l hle] at h1
   exact h1
  | some q => rw [foldC_next h]; exact applyC_row (foldC_row hR hl k) (hl q (List.mem_of_getElem? h))
def settleC (c : CSt) : CSt := { c with durable := c.pending.foldl applyC c.durable, pending := [] }
theorem CFits.do_ {c : CSt} {N : Nat} (h : CFits c N) {q : ChM} (hq : ShortC q) : CFits (doC c q) (N + 1) := by
 have h1 := h.here
 have h2 := h.both
 have h3 := h.time0
 have h4 := h.time
 have h5 := applyC_len c.here q
 refine ⟨by show (applyC c.here q).length ≤ _; omega, by show c.durable.length + (c.pending ++ [q]).length ≤ _; rw [List.length_append, List.length_singleton]; omega, Nat.le_trans h.users (by omega), by show 0 ≤ c.time + 1; omega, by show c.time + 1 ≤ _; omega, applyC_row h.hrow hq, h.drow, fun x hx => ?_⟩
 rcases List.mem_append.1 hx with hx | hx
 ·exact h.prow x hx
 ·rw [List.mem_singleton.1 hx]; exact hq
theorem CFits.settle {c : CSt} {N : Nat} (h : CFits c N) : CFits (settleC c) N := by
 have h1 := foldC_len c.durable c.pending c.pending.length
 have h2 := foldC_row h.drow h.prow c.pending.length
 rw [foldC_all _ _ (Nat.le_refl _)] at h1 h2
 have h3 := h.both
 exact ⟨h.here, by show (c.pending.foldl applyC c.durable).length + 0 ≤ N; omega, h.users, h.time0, h.time, h.hrow, h2, fun q hq => by cases hq⟩
end Go.Proofs.YtbenkmihkbjgeaaGreat.Tx
/- Package fsim: what is pending is made durable. -/
namespace Go.Proofs.YtbenkmihkbjgeaaGreat.Tx
open Go.RowKit Go.Maps Go.Proofs.YtbenkmihkbjgeaaGreat.Sh
abbrev ChsTmp (F : Nat → Prop) (w : World) (v : Value) (l : List ChM) : Prop := TmpL chK F w v l
theorem ch_cells {F : Nat → Prop} {w : World} {A : Option Addr} {n c : Nat} {l : List ChM} (h : ChsTmp F w (.slice A n c) l) (k : Nat) (q : ChM) (hk : l[k]? = some q) :
  ∃ (ad : Addr) (dA : Option Addr) (dc : Nat), A = some ad ∧ By F w (.slice dA q.f.data.length dc) q.f.data ∧ q.f.data.length ≤ dc ∧ dc ≤ maxLen ∧ w.cell? (ad.add (k * 5)) = some (.string (str q.gone)) ∧ w.cell? ⟨(ad.add (k * 5)).block, (ad.add (k * 5)).off + 1, none⟩ = some (.string (str q.path)) ∧
   w.cell? ⟨(ad.add (k * 5)).block, (ad.add (k * 5)).off + 2, none⟩ = some (.int .i64 q.f.mode) ∧ w.cell? ⟨(ad.add (k * 5)).block, (ad.add (k * 5)).off + 3, none⟩ = some (.slice dA q.f.data.length dc) ∧ w.cell? ⟨(ad.add (k * 5)).block, (ad.add (k * 5)).off + 4, none⟩ = some (.int .i64 q.f.time) := by
 obtain ⟨ad, d, hA, hby, hc⟩ := TmpL.at_ h k q hk
 obtain ⟨dA, dc, rfl, g1, g2⟩ := By.slice (bs := q.f.data) hby
 have e : ∀ j u, 0 < j → (chK.cells q (.slice dA q.f.data.length dc))[j]? = some u → w.cell? ⟨(ad.add (k * 5)).block, (ad.add (k * 5)).off + j, none⟩ = some u := fun j u hj hu => by
  rw [← add_field _ _ j hj]; exact hc j u hu
 exact ⟨ad, dA, dc, hA, hby, g1, g2, hc 0 _ rfl, e 1 _ (by decide) rfl, e 2 _ (by decide) rfl, e 3 _ (by decide) rfl, e 4 _ (by decide) rfl⟩
theorem FcX.chs {F : Nat → Prop} {w : World} {b : Nat} {c : CSt} {x : FcV} (h : FcX F w b c x) : ∃ A n, x.pending = .slice A c.pending.length n ∧ c.pending.length ≤ n ∧ n ≤ maxLen ∧ ChsTmp F w (.slice A c.pending.length n) c.pending := by
 have h1 := h.pending.tmp
 obtain ⟨A, n, e, h2, h3⟩ := h1.slice
 refine ⟨A, n, e, h2, h3, ?_⟩
 rw [e] at h1
 exact h1
set_option maxRecDepth 100000 in
set_option maxHeartbeats 6400000 in
theorem settle_any (F M : Nat → Prop) (b : Nat) (c : CSt) (w : World) (h : FcAt F w b c M) (hs : CSmall c) :
  Calls Tryz.prog 124 #[.pointer (some ⟨b, 0, none⟩)] w fun e w' => e = .returned (.tuple #[]) ∧ FcPost F M w b (settleC c) w' := by
 obtain ⟨x, hX, hM⟩ := h
 obtain ⟨PA, pc, hPA, hp1, hp2, hpt⟩ := hX.chs
 obtain ⟨n, hn⟩ : ∃ n, c.pending.length = n := ⟨_, rfl⟩
 have hblk := hX.blk
 have c8 : w.cell? ⟨b, 8, none⟩ = some (.slice PA n pc) := by rw [← hn, ← hPA]; exact hblk.cell 8
 rw [hn] at hp1 hpt
 have HX := Lib.hid hX
 have HM := Lib.hid hM
 have HN := Lib.hid hn
 have HS := Lib.hid hs
 have HPT := Lib.hid hpt
 have HPA := Lib.hid hPA
 have hnb : n ≤ 900000 := by have := hs.both; omega
 clear hX hM hPA hn hblk hs hpt
 go_enter Tryz.func124, Tryz.ntmps124
 go_wp2_with fail
 go_loopw [9] (fun i wr => ∃ k : Nat, k ≤ n ∧ i = .int .i64 k ∧ FcX F wr b { c with durable := foldC c.durable c.pending k } x ∧ Only (treeM x.dur x.df x.du) w wr) (fun i _ => n - (intOf i).toNat)
 case atStart => exact ⟨0, by omega, rfl, HX.out, Only.refl _ _⟩
 case round =>
  obtain ⟨k, hk, rfl, hXr, hor⟩ := hrel
  have HXR := Lib.hid hXr
  have HOR := Lib.hid hor
  clear hXr hor c8
  have k0 : (0 : Int) ≤ (k : Int) := by omega
  by_cases hlt : k < n
  ·have k1 : (k : Int) < (n : Int) := by omega
   obtain ⟨q, hq⟩ : ∃ q, c.pending[k]? = some q := ⟨_, List.getElem?_eq_getElem (by rw [HN.out]; omega)⟩
   have hpt2 : ChsTmp F wr (.slice PA n pc) c.pending := by
    obtain ⟨A, m, e, _, _, h⟩ := HXR.out.chs
    have e2 : Value.slice PA c.pending.length pc = .slice A c.pending.length m := HPA.out.symm.trans e
    have h' : ChsTmp F wr (.slice A c.pending.length m) c.pending := h
    rw [← e2, HN.out] at h'
    exact h'
   obtain ⟨ad, dA, dc, rfl, hby, _, _, x0, x1, x2, x3, x4⟩ := ch_cells hpt2 k q hq
   have HQ := Lib.hid hq
   have HBY := Lib.hid hby
   obtain ⟨wb, hwb⟩ : ∃ wb, wb = wr.alloc (.cells #[.string (str q.gone), .string (str q.path), .int .i64 q.f.mode, .slice dA q.f.data.length dc, .int .i64 q.f.time] 186) := ⟨_, rfl⟩
   have hBb : Below wr.heap.size wr wb := by rw [hwb]; exact (Below.refl _ _).alloc (Nat.le_refl _) _
   have hbox : Blk wb wr.heap.size 186 #[.string (str q.gone), .string (str q.path), .int .i64 q.f.mode, .slice dA q.f.data.length dc, .int .i64 q.f.time] := by rw [hwb]; exact Blk.new _ _ _
   have z0 : wb.cell? ⟨wr.heap.size, 0, none⟩ = some (.string (str q.gone)) := hbox.cell 0
   have z1 : wb.cell? ⟨wr.heap.size, 1, none⟩ = some (.string (str q.path)) := hbox.cell 1
   have z2 : wb.cell? ⟨wr.heap.size, 2, none⟩ = some (.int .i64 q.f.mode) := hbox.cell 2
   have z3 : wb.cell? ⟨wr.heap.size, 3, none⟩ = some (.slice dA q.f.data.length dc) := hbox.cell 3
   have z4 : wb.cell? ⟨wr.heap.size, 4, none⟩ = some (.int .i64 q.f.time) := hbox.cell 4
   have hXb := HXR.out.below hBb
   have y7 : wb.cell? ⟨b, 7, none⟩ = some (.pointer (some ⟨x.dur, 0, none⟩)) := hXb.blk.cell 7
   have HXB := Lib.hid hXb
   have HBB := Lib.hid hBb
   clear hq hby hpt2 hBb hbox hXb
   go_upto_region 3 with (fail)
   rw [← hwb]
   clear hwb
   go_still_tail 5, (by kernel_rfl)
   change wpList _ _ _ _ _ wb.drew
   go_wp2_with fail
   have hT1 : TreeX F wb.drew x.dur (foldC c.durable c.pending k) x.df x.du := HXB.out.dur.only (M := fun _ => False) ((Only.refl _ wb).drew) (fun _ _ => id) (fun _ _ => id)
   have hd1 : By F wb.drew (.slice dA q.f.data.length dc) q.f.data := HBY.out.only ((Only.of_below (M := fun _ => False) HBB.out).drew) (fun _ _ => id)
   have hq1 := HS.out.prow q (List.mem_of_getElem? HQ.out)
   have hl1 : (foldC c.durable c.pending k).length ≤ 900000 := by have h1 := foldC_len c.durable c.pending k; have h2 := HS.out.both; omega
   have hr1 := foldC_row HS.out.drow HS.out.prow k
   have hu1 := used_short hr1 hl1
   have hap := tapply_any F x.dur x.df x.du (foldC c.durable c.pending k) q (.slice dA q.f.data.length dc) wb.drew hT1 HXB.out.Fd hd1 (by have := hq1.1; omega) (by have := hq1.2.1; omega) (by omega) (by omega) (by have := hq1.2.2; omega)
   unfold chV at hap
   refine hap.mono ?_
   rintro e w2 ⟨rfl, hT2, ho2⟩
   rw [← foldC_next HQ.out] at hT2
   have hX2 := HXB.out.dur_ hT2 (Only.of_drew ho2)
   have HX2 := Lib.hid hX2
   have HO2 := Lib.hid ((HOR.out.then_below HBB.out).trans (Only.of_drew ho2) (fun _ hk => .inl hk))
   clear hT1 hd1 hq1 hl1 hr1 hu1 hap hT2 ho2 hX2 x0 x1 x2 x3 x4 z0 z1 z2 z3 z4 y7
   go_wp2_with fail
   go_roundw
   case rel => exact ⟨k + 1, by omega, by go_num, HX2.out, HO2.out⟩
   case measure => simp [intOf]; omega
  ·obtain rfl : k = n := by omega
   have k1 : ¬ (k : Int) < (k : Int) := by omega
   have c8r : wr.cell? ⟨b, 8, none⟩ = some x.pending := HXR.out.blk.cell 8
   have c8f : wr.frozen? ⟨b, 8, none⟩ = false := HXR.out.blk.frozen 8
   rw [HPA.out] at c8r
   go_wp2_with fail
   go_end0
   have h1 := HXR.out.pend_ HM.out (Below.refl _ wr) (World.grownBy.refl wr _) (OwnL.nil_ chK _ F wr 0) (.inr (.inr rfl))
   have h2 := FcPost.of_only (HOR.out.more (M' := M) (fun k _ e => (HM.out k).2 (.inr (.inr (.inl e))))) h1
   have h3 : settleC c = { c with durable := foldC c.durable c.pending k, pending := [] } := by unfold settleC; rw [foldC_all _ _ (Nat.le_of_eq HN.out)]
   rw [h3]
   exact ⟨rfl, h2⟩
end Go.Proofs.YtbenkmihkbjgeaaGreat.Tx
/- The reference's file system: Peek, Read. -/
namespace Go.Proofs.YtbenkmihkbjgeaaGreat.Tx
open Go.RowKit Go.Proofs.YtbenkmihkbjgeaaGreat.Sh
def rowF (R : List RowM) (i : Nat) : FileM := match R[i]? with
 | none => ⟨0, [], 0⟩
 | some r => r.f
def peekF (R : List RowM) (p : List UInt8) : FileM := match findM R p with
 | none => ⟨0, [], 0⟩
 | some i => rowF R i
def peekB (R : List RowM) (p : List UInt8) : Bool := (findM R p).isSome
def FileV (w : World) (B : Nat) (f : FileM) (u : Value) : Prop := ∃ v, u = .agg #[.int .i64 f.mode, v, .int .i64 f.time] ∧ OwnV 5 w B v (f.data.map bv)
def PeekPost (w : World) (f : FileM) (t : Bool) (e : Ending) (w' : World) : Prop := ∃ u, e = .returned (.tuple #[u, .bool t]) ∧ FileV w' w.heap.size f u ∧ Below w.heap.size w w'
end Go.Proofs.YtbenkmihkbjgeaaGreat.Tx
/- The reference's file system: Read. -/
namespace Go.Proofs.YtbenkmihkbjgeaaGreat.Tx
open Go.RowKit Go.Proofs.YtbenkmihkbjgeaaGreat.Sh
def readE (st : FSM) (p : List UInt8) : Int := if beginE st = 0 then (if pathB p = false then 6 else if peekB (beginM st).st.now p = true then 0 else 7) else beginE st
def readF (st : FSM) (p : List UInt8) : FileM := if readE st p = 0 then peekF (beginM st).st.now p else ⟨0, [], 0⟩
def ReadPost (F M : Nat → Prop) (w : World) (b : Nat) (s : FSM) (n : Int) (f : FileM) (e : Ending) (w' : World) : Prop :=
 ∃ u v M', e = .returned (.tuple #[u, .int .i64 n]) ∧ u = .agg #[.int .i64 f.mode, v, .int .i64 f.time] ∧ RefAt (grow F w w' M') w' b s M' ∧ Only M w w' ∧ (∀ k, M' k → M k ∨ w.heap.size ≤ k) ∧ By (grow F w w' M') w' v f.data
theorem set3 {W : World} {r : Nat} {T : TypeId} {x0 x1 x2 : Value} (h : Blk W r T #[x0, x1, x2]) (a b c : Value) :
  Blk (((W.setCell ⟨r, 0, none⟩ a).setCell ⟨r, 1, none⟩ b).setCell ⟨r, 2, none⟩ c) r T #[a, b, c] ∧ Only (fun k => k = r) W (((W.setCell ⟨r, 0, none⟩ a).setCell ⟨r, 1, none⟩ b).setCell ⟨r, 2, none⟩ c) :=
 ⟨((h.set_ 0 a).set_ 1 b).set_ 2 c, Only.set_ (M := fun k => k = r) (g := r) (i := 2) (Only.set_ (M := fun k => k = r) (g := r) (i := 1) (Only.set_ (M := fun k => k = r) (g := r) (i := 0) (Only.refl _ W) (.inl rfl) a) (.inl rfl) b) (.inl rfl) c⟩
end Go.Proofs.YtbenkmihkbjgeaaGreat.Tx
/- The reference's file system: User, Plan. -/
namespace Go.Proofs.YtbenkmihkbjgeaaGreat.Tx
open Go.RowKit Go.Proofs.YtbenkmihkbjgeaaGreat.Sh
def UserPost (F : Nat → Prop) (w : World) (l : List EvM) (e : Ending) (w' : World) : Prop := ∃ v, e = .returned v ∧ OwnL evK 148 F w' w.heap.size v l ∧ Below w.heap.size w w'
end Go.Proofs.YtbenkmihkbjgeaaGreat.Tx
/- Package fsim: bytes copied; what is asked of a file system. -/
namespace Go.Proofs.YtbenkmihkbjgeaaGreat.Tx
open Go.RowKit Go.Maps Go.Proofs.YtbenkmihkbjgeaaGreat.Sh
set_option maxRecDepth 100000 in
set_option maxHeartbeats 400000 in
theorem bclone_any (v : Value) (bs : List UInt8) (w : World) (h : SlV w v (bs.map bv)) (hn : bs.length ≤ 2000000) : Calls Tryz.prog 92 #[v] w fun e w' => ∃ v', e = .returned v' ∧ OwnV 5 w' w.heap.size v' (bs.map bv) ∧ Below w.heap.size w w' := by
 obtain ⟨A, c, rfl, hlc, hcm, hR⟩ := (h.below ((Below.refl w.heap.size w).alloc (Nat.le_refl _) (.cells #[] 5))).len
 rw [List.length_map] at hlc hR ⊢
 obtain ⟨l, hl⟩ : ∃ l, bs.length = l := ⟨_, rfl⟩
 have hnil := fun (w : World) => Lib.run_eql_slice_nil (P := Tryz.prog) w 45 5 A l c 0 0 Tryz.underlying45
 rcases A with _ | ad
 ·have hb0 : bs = [] := by
   cases bs with
   | nil => rfl
   | cons x r =>
    obtain ⟨ad, e, _⟩ := hR.2 (by simp)
    cases e
  subst hb0
  simp only [List.length_nil] at hl hnil
  subst hl
  simp only [Option.isNone] at hnil
  clear hR hlc hcm h
  go_enter Tryz.func92, Tryz.ntmps92
  go_wp2_with fail
  go_ret
  exact ⟨_, rfl, OwnV.nil_ _ _, Below.refl _ _⟩
 ·have hown : OwnV 5 (w.alloc (.cells #[] 5)) w.heap.size (.slice (some ⟨w.heap.size, 0, none⟩) 0 0) (([] : List UInt8).map bv) := World.ownsRow_made w #[] 0 (Nat.le_refl _) (by unfold maxLen; omega) rfl
  rw [hl] at hR hn ⊢
  simp only [Option.isNone] at hnil
  have hsm : ([] : List UInt8).length + l ≤ 140737488355328 := by simp; omega
  have hz : w.heap.size ≤ (w.alloc (.cells #[] 5)).heap.size := by simp
  have HR := Lib.hid hR
  have HOWN := Lib.hid hown
  clear hR hown hl h hlc hcm
  go_enter Tryz.func92, Tryz.ntmps92
  go_wp2_with (at_builtin; refine append_bytes rfl (.tmp 5) (.tmp 6) rfl _ w.heap.size (.slice (some ⟨w.heap.size, 0, none⟩) 0 0) [] rfl HOWN.out _ (some ad) l c bs rfl HR.out hsm hz ?_; intro v3 w3 ho3 hb3; have HO := Lib.hid ho3; have HB := Lib.hid hb3; clear ho3 hb3)
  go_ret
  refine ⟨v3, rfl, ?_, ((Below.refl _ _).alloc (Nat.le_refl _) _).trans HB.out⟩
  simpa using HO.out
section
variable {F M : Nat → Prop} {b : Nat} {c : CSt} {w : World}
set_option maxRecDepth 100000 in
theorem load64 (a : Addr) (x : Int) (w : World) (h : w.cell? a = some (.int .i64 x)) :
  Calls Tryz.prog 135 #[.pointer (some a)] w fun e w' => e = .returned (.int .i64 x) ∧ w = w' := by
 have hl := run_call_load (P := Tryz.prog) Tryz.func177 (by kernel_rfl) (by kernel_rfl) (by kernel_rfl) .i64 (by kernel_rfl) h
 go_enter Tryz.func135, Tryz.ntmps135
 go_wp2
 go_ret
 exact ⟨rfl, rfl⟩
set_option maxRecDepth 100000 in
theorem add64 (a : Addr) (x y : Int) (w : World) (h : w.cell? a = some (.int .i64 x)) (hz : w.frozen? a = false) :
  Calls Tryz.prog 151 #[.pointer (some a), .int .i64 y] w fun e w' => e = .returned (.int .i64 (IntKind.i64.wrap (x + y))) ∧ w' = w.setCell a (.int .i64 (IntKind.i64.wrap (x + y))) := by
 have hl := run_call_add (P := Tryz.prog) Tryz.func194 (by kernel_rfl) (by kernel_rfl) (by kernel_rfl) .i64 (by kernel_rfl) (y := y) (s := IntKind.i64.wrap (x + y)) h hz (by simp [Op.intArith])
 generalize IntKind.i64.wrap (x + y) = s at *
 go_enter Tryz.func151, Tryz.ntmps151
 go_wp2
 go_ret
 exact ⟨rfl, rfl⟩
set_option maxRecDepth 100000 in
theorem calls_any (h : FcAt F w b c M) : Calls Tryz.prog 72 #[.pointer (some ⟨b, 0, none⟩)] w fun e w' => e = .returned (.int .i64 c.calls) ∧ w = w' := by
 obtain ⟨x, hX, _⟩ := h
 have hc : w.cell? ⟨b, 1, none⟩ = some (.int .i64 c.calls) := hX.blk.cell 1
 clear hX
 go_enter Tryz.func72, Tryz.ntmps72
 go_wp2_with (go_at_call 135; refine (load64 _ c.calls _ hc).mono ?_; rintro e w' ⟨rfl, rfl⟩)
 go_ret
 exact ⟨rfl, rfl⟩
set_option maxRecDepth 100000 in
theorem now_any (h : FcAt F w b c M) : Calls Tryz.prog 37 #[.pointer (some ⟨b, 0, none⟩)] w fun e w' => e = .returned (.int .i64 c.time) ∧ w = w' := by
 obtain ⟨x, hX, _⟩ := h
 have hc : w.cell? ⟨b, 2, none⟩ = some (.int .i64 c.time) := hX.blk.cell 2
 clear hX
 go_enter Tryz.func37, Tryz.ntmps37
 go_wp2
 go_ret
 exact ⟨rfl, rfl⟩
end
def newC (room : Int) : CSt := ⟨room, 0, 0, false, [], [], [], [], []⟩
set_option maxRecDepth 100000 in
set_option maxHeartbeats 1600000 in
theorem new_any (F : Nat → Prop) (room : Int) (w : World) (hF : ∀ k, F k → k < w.heap.size) : Calls Tryz.prog 10 #[.int .i64 room] w fun e w' => Below w.heap.size w w' ∧ (newB room = false ∧ e = .returned (.tuple #[.pointer none, .int .i64 1]) ∨ newB room = true ∧ ∃ b M, w.heap.size ≤ b ∧ (∀ k, M k → w.heap.size ≤ k) ∧ e = .returned (.tuple #[.pointer (some ⟨b, 0, none⟩), .int .i64 0]) ∧ FcAt F w' b (newC room) M) := by
 have HF := Lib.hid hF
 go_enter Tryz.func10, Tryz.ntmps10
 by_cases h1 : room < 0
 ·have HNB : Hid (newB room = false) := decide_eq_false (by omega)
  go_wp2
  go_ret2
  exact ⟨Below.refl _ _, .inl ⟨HNB.out, rfl⟩⟩
 ·by_cases h2 : 1073741824 < room
  ·have HNB : Hid (newB room = false) := decide_eq_false (by omega)
   go_wp2
   go_ret2
   exact ⟨Below.refl _ _, .inl ⟨HNB.out, rfl⟩⟩
  ·have HNB : Hid (newB room = true) := decide_eq_true (by omega)
   go_wp2_with fail
   refine (tnew_any F _).mono ?_
   rintro e w1 ⟨t1, rfl, hb1, f1, u1, hT1, hl1⟩
   go_wp2_with fail
   refine (tnew_any F _).mono ?_
   rintro e w2 ⟨t2, rfl, hb2, f2, u2, hT2, hl2⟩
   have HT1 := Lib.hid (hT1.below hb2)
   have HT2 := Lib.hid hT2
   have HL1 := Lib.hid hl1
   have HL2 := Lib.hid hl2
   have HB1 := Lib.hid hb1
   have HB2 := Lib.hid (hb1.trans (hb2.mono hb1.size))
   have HLT := Lib.hid hT1.lt
   clear hb1 hT1 hl1 hb2 hT2 hl2
   go_wp2_with fail
   go_ret2
   have hz1 := HB1.out.size
   have hz2 := HB2.out.size
   refine ⟨HB2.out.alloc hz2 _, .inr ⟨HNB.out, w2.heap.size, _, hz2, ?_, rfl, ⟨.slice none 0 0, .slice none 0 0, t1, t2, .slice none 0 0, f1, u1, f2, u2⟩, ⟨Blk.new _ _ _, ?_, ?_, OwnL.nil_ chK _ F _ 0, InL.nil_ evK F _, OwnL.nil_ evK _ F _ 0, ?_, ?_, ?_⟩, fun k => Iff.rfl⟩⟩
   ·rintro k (rfl | h | h | h | h)
    ·exact hz2
    ·exact HL1.out k h
    ·have := HL2.out k h; omega
    ·cases h
    ·cases h
   ·exact HT1.out.below ((Below.refl _ _).alloc (Nat.le_refl _) _)
   ·exact HT2.out.below ((Below.refl _ _).alloc (Nat.le_refl _) _)
   ·intro k hk hm
    have := HF.out k hk
    rcases hm with rfl | h | h | h | h
    ·omega
    ·have := HL1.out k h; omega
    ·have := HL2.out k h; omega
    ·cases h
    ·cases h
   ·intro k hk
    have := HF.out k hk
    simp
    omega
   ·intro k h h'
    have h1 := HLT.out k h
    have h2 := HL2.out k h'
    omega
end Go.Proofs.YtbenkmihkbjgeaaGreat.Tx
/- Package fsim: the file that stands at a path. -/
namespace Go.Proofs.YtbenkmihkbjgeaaGreat.Tx
open Go.RowKit Go.Maps Go.Proofs.YtbenkmihkbjgeaaGreat.Sh
theorem peek_row {R : List RowM} (ho : Ord R) {r : RowM} (hr : r ∈ R) : peekF R r.path = r.f ∧ peekB R r.path = true := by
 have hb : peekB R r.path = true := by unfold peekB; rw [← stands_find]; exact stands_iff.2 ⟨r, hr, rfl⟩
 refine ⟨?_, hb⟩
 unfold peekF
 cases hf : findM R r.path with
 | none => unfold peekB at hb; rw [hf] at hb; cases hb
 | some i =>
  obtain ⟨r', hr', hp⟩ := find_at hf
  show rowF R i = r.f
  unfold rowF
  rw [hr']
  show r'.f = r.f
  rw [ord_one ho (List.mem_of_getElem? hr') hr hp]
theorem peek_none {R : List RowM} {p : List UInt8} (h : standsM R p = false) : peekF R p = ⟨0, [], 0⟩ ∧ peekB R p = false := by
 have hb : (findM R p).isSome = false := by rw [← stands_find]; exact h
 refine ⟨?_, hb⟩
 unfold peekF
 cases hf : findM R p with
 | none => rfl
 | some i => rw [hf] at hb; cases hb
theorem peek_short {R : List RowM} (hR : ∀ r ∈ R, ShortR r) (p : List UInt8) : (peekF R p).data.length ≤ 20000 := by
 cases h : standsM R p with
 | false => rw [(peek_none h).1]; exact Nat.zero_le _
 | true =>
  unfold peekF
  cases hf : findM R p with
  | none => exact Nat.zero_le _
  | some i =>
   obtain ⟨r', hr', hp⟩ := find_at hf
   show (rowF R i).data.length ≤ _
   unfold rowF
   rw [hr']
   exact (hR r' (List.mem_of_getElem? hr')).2
theorem look_peek {F : Nat → Prop} {w : World} {R : List RowM} {D : DataW Value} (h : FilesOK F w R D) (ho : Ord R) (p : List UInt8) :
  ∃ (dA : Option Addr) (dc : Nat), By F w (.slice dA (peekF R p).data.length dc) (peekF R p).data ∧ (∀ v ps, hv v = some (D.atKey (.string p) (.held zeroFile), ps) → v = .agg #[.int .i64 (peekF R p).mode, .slice dA (peekF R p).data.length dc, .int .i64 (peekF R p).time]) ∧ Maps.has D (.string p) = peekB R p := by
 cases hs : standsM R p with
 | false =>
  obtain ⟨h1, h2⟩ := peek_none hs
  rw [h1, h2]
  exact ⟨none, 0, By.nil_ _ _, fun v ps h' => look_miss h hs v ps h', by rw [h.has_]; exact hs⟩
 | true =>
  obtain ⟨r, hr, rfl⟩ := stands_iff.1 hs
  obtain ⟨h1, h2⟩ := peek_row ho hr
  obtain ⟨d, hd, hh⟩ := look_hit h hr
  obtain ⟨A, c, rfl, _, _⟩ := hd.slice
  rw [h1, h2]
  exact ⟨A, c, hd, hh, by rw [h.has_]; exact hs⟩
set_option maxRecDepth 100000 in
set_option maxHeartbeats 3200000 in
theorem peek_any {F M : Nat → Prop} {b : Nat} {c : CSt} {w : World} (p : List UInt8) (h : FcAt F w b c M) (hs : CSmall c) (hp : p.length ≤ 1000000) : Calls Tryz.prog 82 #[.pointer (some ⟨b, 0, none⟩), .string (str p)] w (PeekPost w (peekF c.here p) (peekB c.here p)) := by
 obtain ⟨x, hX, _⟩ := h
 have hdl := peek_short hs.hrow p
 obtain ⟨wa, hwa⟩ : ∃ wa, wa = w.alloc (.cells #[.int .i64 0, .slice none 0 0, .int .i64 0] 129) := ⟨_, rfl⟩
 have hBa : Below w.heap.size w wa := by rw [hwa]; exact (Below.refl _ _).alloc (Nat.le_refl _) _
 have hba : Blk wa w.heap.size 129 #[.int .i64 0, .slice none 0 0, .int .i64 0] := by rw [hwa]; exact Blk.new _ _ _
 have hXa := hX.below hBa
 have c6 : wa.cell? ⟨b, 6, none⟩ = some (.pointer (some ⟨x.here, 0, none⟩)) := hXa.blk.cell 6
 have c0 : wa.cell? ⟨x.here, 0, none⟩ = some (.map (some x.hf)) := hXa.here.blk.cell 0
 obtain ⟨D, hown, hfo⟩ := hXa.here.files
 obtain ⟨dA, dc, hby, hlook, hhas⟩ := look_peek hfo hX.here.ord p
 obtain ⟨f, hf⟩ : ∃ f, peekF c.here p = f := ⟨_, rfl⟩
 obtain ⟨t, ht⟩ : ∃ t, peekB c.here p = t := ⟨_, rfl⟩
 rw [hf] at hby hlook hdl ⊢
 rw [ht] at hhas ⊢
 obtain ⟨l, hl⟩ : ∃ l, f.data.length = l := ⟨_, rfl⟩
 rw [hl] at hby hlook hdl
 have HL := Lib.hid hl
 have HOWN := Lib.hid hown
 have HLOOK := Lib.hid hlook
 have HBY := Lib.hid hby
 have HKEY := Lib.hid (key_str p hp)
 have HBA := Lib.hid hBa
 have HBLK := Lib.hid hba
 clear hX hBa hba hXa hown hfo hby hlook hf ht hs hl
 obtain ⟨wb, hwb⟩ : ∃ wb, wb = wa.alloc (.cells #[.int .i64 f.mode, .slice dA l dc, .int .i64 f.time] 129) := ⟨_, rfl⟩
 have hBb : Below wa.heap.size wa wb := by rw [hwb]; exact (Below.refl _ _).alloc (Nat.le_refl _) _
 have hbox : Blk wb wa.heap.size 129 #[.int .i64 f.mode, .slice dA l dc, .int .i64 f.time] := by rw [hwb]; exact Blk.new _ _ _
 have hzw : w.heap.size < wa.heap.size := HBLK.out.lt
 have hzb : wa.heap.size < wb.heap.size := hbox.lt
 have b1 : wb.cell? ⟨wa.heap.size, 1, none⟩ = some (.slice dA l dc) := hbox.cell 1
 have hbyb := HBY.out.only (Only.of_below (M := fun _ => False) hBb) (fun _ _ => id)
 have HBYB : Hid (SlV wb (.slice dA l dc) (f.data.map bv)) := Rd.slv (by rw [List.length_map]; exact hbyb)
 have HBX := Lib.hid hbox
 have HBr := Lib.hid (HBLK.out.below hBb hzw)
 have HBb := Lib.hid (HBA.out.trans (hBb.mono (Nat.le_of_lt hzw)))
 clear hBb hbox hbyb
 go_enter Tryz.func82, Tryz.ntmps82
 go_upto_region 1 with (fail)
 rw [← hwa]
 clear hwa
 go_upto_region 2 with (first | fail | (at_lookup; refine wpList_lookup_own_ok _ rfl _ _ 163 rfl 9 129 lawS Tryz.underlying163 hv (zeroF _) (.held zeroFile) [] rfl x.hf _ D rfl (by exact HOWN.out) _ (.string p) rfl (by exact HKEY.out) ?_; intro v ps hv'; obtain rfl := HLOOK.out v ps hv'; rw [hhas]; clear hv'))
 rw [← hwb]
 clear hwb c6 c0
 go_wp2_with fail
 refine (bclone_any _ f.data _ HBYB.out (by rw [HL.out]; omega)).mono ?_
 rintro e w4 ⟨v4, rfl, ho4, hb4⟩
 obtain ⟨A4, c4, rfl, _, _⟩ := ho4.length
 rw [List.length_map, HL.out] at ho4 ⊢
 have hk4 := HBX.out.below hb4 hzb
 have z4f : w4.frozen? ⟨wa.heap.size, 1, none⟩ = false := hk4.frozen 1
 have z4 : w4.cell? ⟨wa.heap.size, 1, none⟩ = some (.slice dA l dc) := hk4.cell 1
 have HK4 := Lib.hid (hk4.set_ 1 (.slice A4 l c4))
 have HR4 := Lib.hid ((HBr.out.below hb4 (Nat.lt_trans hzw hzb)).far (p := ⟨wa.heap.size, 1, none⟩) (Nat.ne_of_lt hzw) (.slice A4 l c4))
 have HO4 := Lib.hid (ho4.apart (p := ⟨wa.heap.size, 1, none⟩) (fun e => by have h := (ho4.lt _ e).1; have h2 : wb.heap.size ≤ wa.heap.size := h; omega) (.slice A4 l c4))
 have HB4 := Lib.hid ((HBb.out.trans (hb4.mono (Nat.le_of_lt (Nat.lt_trans hzw hzb)))).setCell (p := ⟨wa.heap.size, 1, none⟩) (Nat.le_of_lt hzw) (.slice A4 l c4))
 clear ho4 hb4 hk4 b1
 go_upto_region 3 with (fail)
 generalize w4.setCell ⟨wa.heap.size, 1, none⟩ (.slice A4 l c4) = w5 at *
 have r0 : w5.cell? ⟨wa.heap.size, 0, none⟩ = some (.int .i64 f.mode) := HK4.out.cell 0
 have r1 : w5.cell? ⟨wa.heap.size, 1, none⟩ = some (.slice A4 l c4) := HK4.out.cell 1
 have r2 : w5.cell? ⟨wa.heap.size, 2, none⟩ = some (.int .i64 f.time) := HK4.out.cell 2
 have a0 : w5.cell? ⟨w.heap.size, 0, none⟩ = some (.int .i64 0) := HR4.out.cell 0
 have a1 : w5.cell? ⟨w.heap.size, 1, none⟩ = some (.slice none 0 0) := HR4.out.cell 1
 have a2 : w5.cell? ⟨w.heap.size, 2, none⟩ = some (.int .i64 0) := HR4.out.cell 2
 have f0 : w5.frozen? ⟨w.heap.size, 0, none⟩ = false := HR4.out.frozen 0
 have f1 : w5.frozen? ⟨w.heap.size, 1, none⟩ = false := HR4.out.frozen 1
 have f2 : w5.frozen? ⟨w.heap.size, 2, none⟩ = false := HR4.out.frozen 2
 have hbc : Blk (((w5.setCell ⟨w.heap.size, 0, none⟩ (.int .i64 f.mode)).setCell ⟨w.heap.size, 1, none⟩ (.slice A4 l c4)).setCell ⟨w.heap.size, 2, none⟩ (.int .i64 f.time)) w.heap.size 129 #[.int .i64 f.mode, .slice A4 l c4, .int .i64 f.time] := ((HR4.out.set_ 0 (.int .i64 f.mode)).set_ 1 (.slice A4 l c4)).set_ 2 (.int .i64 f.time)
 have hBc : Below w.heap.size w (((w5.setCell ⟨w.heap.size, 0, none⟩ (.int .i64 f.mode)).setCell ⟨w.heap.size, 1, none⟩ (.slice A4 l c4)).setCell ⟨w.heap.size, 2, none⟩ (.int .i64 f.time)) := ((HB4.out.setCell (p := ⟨w.heap.size, 0, none⟩) (Nat.le_refl _) _).setCell (p := ⟨w.heap.size, 1, none⟩) (Nat.le_refl _) _).setCell (p := ⟨w.heap.size, 2, none⟩) (Nat.le_refl _) _
 have hne : ∀ k, (Value.slice A4 l c4).ownBlock ≠ some (⟨w.heap.size, k, none⟩ : Addr).block := fun k e => by
  have h := (HO4.out.lt _ e).1
  have h2 : wb.heap.size ≤ w.heap.size := h
  omega
 have hoc : OwnV 5 (((w5.setCell ⟨w.heap.size, 0, none⟩ (.int .i64 f.mode)).setCell ⟨w.heap.size, 1, none⟩ (.slice A4 l c4)).setCell ⟨w.heap.size, 2, none⟩ (.int .i64 f.time)) wb.heap.size (.slice A4 l c4) (f.data.map bv) := ((HO4.out.apart (hne 0) _).apart (hne 1) _).apart (hne 2) _
 have HBC := Lib.hid hbc
 have HBB := Lib.hid hBc
 have HOC := Lib.hid hoc
 clear hbc hBc hoc hne
 go_wp2_with fail
 generalize ((w5.setCell ⟨w.heap.size, 0, none⟩ (.int .i64 f.mode)).setCell ⟨w.heap.size, 1, none⟩ (.slice A4 l c4)).setCell ⟨w.heap.size, 2, none⟩ (.int .i64 f.time) = wc at *
 have q0 : wc.cell? ⟨w.heap.size, 0, none⟩ = some (.int .i64 f.mode) := HBC.out.cell 0
 have q1 : wc.cell? ⟨w.heap.size, 1, none⟩ = some (.slice A4 l c4) := HBC.out.cell 1
 have q2 : wc.cell? ⟨w.heap.size, 2, none⟩ = some (.int .i64 f.time) := HBC.out.cell 2
 refine bodyPost_ret (v := .tuple #[.agg #[.int .i64 f.mode, .slice A4 l c4, .int .i64 f.time], .bool t]) (by simp [results, Tryz.results82, go_sem, q0, q1, q2]) rfl ⟨_, rfl, ⟨_, rfl, HOC.out.base (by omega)⟩, HBB.out⟩
end Go.Proofs.YtbenkmihkbjgeaaGreat.Tx
