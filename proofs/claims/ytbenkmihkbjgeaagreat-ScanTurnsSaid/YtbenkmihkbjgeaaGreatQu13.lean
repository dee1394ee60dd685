/- Texts put together: UGs5, UGs6. -/
import Derived.Test.YtbenkmihkbjgeaaGreatQu12
/- Package fsim: what a user did is kept. -/
namespace Go.Proofs.YtbenkmihkbjgeaaGreat.Tx
open Go.RowKit Go.Maps Go.Proofs.YtbenkmihkbjgeaaGreat.Sh
section
variable {F F' M : Nat → Prop} {w w' wf : World} {b : Nat} {c c' : CSt} {x x' : FcV}
theorem FcX.users_ (hX : FcX F w b c x) (hM : ∀ k, M k ↔ fcM b x k) {wl w5 : World} {v5 : Value} {p' : List EvM} (hl : Below w.heap.size w wl) (hg : wl.grownBy w5 x.users.ownBlock) (hown : OwnL evK 147 F w5 0 v5 p') (hk : v5.ownBlock = x.users.ownBlock ∨ v5.ownBlock = some wl.heap.size ∨ v5.ownBlock = none) :
  FcPost F M w b { c with users := p' } (w5.setCell ⟨b, 5, none⟩ v5) := by
 have hz2 := hl.size
 have hz3 := hg.size
 have hbw : b < w.heap.size := hX.blk.lt
 have o5 : Only (fun k => x.users.ownBlock = some k) w w5 := (Only.of_below hl).trans (M' := fun k => x.users.ownBlock = some k) ⟨hg.os, hg.tape, hg.output, hg.size, fun k hk hn => hg.block k hk (fun e => hn e.symm)⟩ (fun k hk => .inl hk)
 have ow : Only (fun k => k = b ∨ x.users.ownBlock = some k) w (w5.setCell ⟨b, 5, none⟩ v5) := Only.set_ (M := fun k => k = b ∨ x.users.ownBlock = some k) (g := b) (i := 5) (o5.more (fun k _ h => .inr h)) (.inl (.inl rfl)) v5
 have hF : ∀ k, F k → ¬ (k = b ∨ x.users.ownBlock = some k) := fun k hk e => by
  rcases e with e | e
  ·exact hX.Fb k hk e
  ·exact hX.users.2 k e hk
 have hblk5 : Blk w5 b 92 (fcC c x) := (hX.blk.below hl hbw).grown hg (fun e => hX.ub e.symm)
 have hvb : v5.ownBlock ≠ some b := fun e => by
  obtain ⟨cs, hc⟩ := hown.blk e
  exact hc.ne_ hblk5 (by decide) rfl
 refine fc_fin (x' := { x with users := v5 }) hX hM (ow.more (fun k _ h => ?_)) (fun k hk' => ?_) (hblk5.set_ 5 v5) ?_ ?_ ?_ ?_ ?_ hX.apart
 ·rcases h with h | h
  ·exact .inl h
  ·exact .inr (.inr (.inr (.inr h)))
 ·rcases hk' with h | h | h | h | h
  ·exact .inl (.inl h)
  ·exact .inl (.inr (.inl h))
  ·exact .inl (.inr (.inr (.inl h)))
  ·exact .inl (.inr (.inr (.inr (.inl h))))
  ·have h' : v5.ownBlock = some k := h
   rcases hk with e | e | e
   ·exact .inl (.inr (.inr (.inr (.inr (by rw [← e]; exact h')))))
   ·right
    rw [e] at h'
    injection h' with h'
    omega
   ·rw [e] at h'; cases h'
 ·exact hX.hereG ow hF (fun k hk e => by
   rcases e with e | e
   ·exact hX.hb (e ▸ hk)
   ·exact hX.hu' k hk e)
 ·exact hX.durG ow hF (fun k hk e => by
   rcases e with e | e
   ·exact hX.db (e ▸ hk)
   ·exact hX.du' k hk e)
 ·exact hX.pendG ow hF (fun k hk e => by
   rcases e with e | e
   ·exact hX.pb (e ▸ hk)
   ·exact hX.pu k hk e) (fun k hk => .inr (.inr (.inr (.inl hk))))
 ·exact hX.planG ow hF
 ·refine (hown.only (M := fun k => k = b) (Only.set_ (M := fun k => k = b) (g := b) (i := 5) (Only.refl _ w5) (.inl rfl) v5) hX.Fb (fun k hk e => hvb (by rw [hk, e]))).toG (fun k _ h => .inl h) (fun k hk => .inr (.inr (.inr (.inr hk)))) hown.2
end
abbrev EvsF (F : Nat → Prop) (w : World) (v : Value) (l : List EvM) : Prop := TmpL evK F w v l
theorem evs_slice {F : Nat → Prop} {w : World} {v : Value} {l : List EvM} (h : EvsF F w v l) : ∃ A c, v = .slice A l.length c ∧ l.length ≤ c ∧ c ≤ maxLen := h.slice
def noteC (c : CSt) (e : EvM) : CSt := settleC { c with users := c.users ++ [{ e with at_ := c.calls }] }
theorem settle_users {c : CSt} (l : List EvM) (hs : CSmall c) (h : l.length ≤ 900000) : CSmall { c with users := l } := ⟨hs.here, hs.both, h, hs.time, hs.hused, hs.hrow, hs.drow, hs.prow⟩
set_option maxRecDepth 100000 in
set_option maxHeartbeats 6400000 in
theorem note_any (F M : Nat → Prop) (b : Nat) (c : CSt) (e0 : EvM) (d : Value) (w : World) (h : FcAt F w b c M) (hd : By F w d e0.data) (hs : CSmall c) (hn : c.users.length ≤ 800000) :
  Calls Tryz.prog 90 #[.pointer (some ⟨b, 0, none⟩), .agg #[.int .i64 e0.at_, .int .i64 e0.kind, .int .i64 e0.mode, .int .i64 e0.keep, .int .i64 e0.torn, .string (str e0.path), d]] w fun e w' => e = .returned (.tuple #[]) ∧ FcPost F M w b (noteC c e0) w' := by
 have HAT := Lib.hid h
 obtain ⟨x, hX, hM⟩ := h
 obtain ⟨dA, dc, rfl, _, _⟩ := hd.slice
 obtain ⟨dl, hdl⟩ : ∃ dl, e0.data.length = dl := ⟨_, rfl⟩
 rw [hdl] at hd ⊢
 obtain ⟨wb, hwb⟩ : ∃ wb, wb = w.alloc (.cells #[.int .i64 e0.at_, .int .i64 e0.kind, .int .i64 e0.mode, .int .i64 e0.keep, .int .i64 e0.torn, .string (str e0.path), .slice dA dl dc] 147) := ⟨_, rfl⟩
 have hB : Below w.heap.size w wb := by rw [hwb]; exact (Below.refl _ _).alloc (Nat.le_refl _) _
 have hbox : Blk wb w.heap.size 147 #[.int .i64 e0.at_, .int .i64 e0.kind, .int .i64 e0.mode, .int .i64 e0.keep, .int .i64 e0.torn, .string (str e0.path), .slice dA dl dc] := by rw [hwb]; exact Blk.new _ _ _
 have hblt := hX.blk.lt
 have hne : w.heap.size ≠ b := by omega
 obtain ⟨cn, hcn⟩ : ∃ cn, c.calls = cn := ⟨_, rfl⟩
 have z0 : wb.frozen? ⟨w.heap.size, 0, none⟩ = false := hbox.frozen 0
 have z1 : wb.cell? ⟨w.heap.size, 0, none⟩ = some (.int .i64 e0.at_) := hbox.cell 0
 have HBOX1 : Hid (Blk (wb.setCell ⟨w.heap.size, 0, none⟩ (.int .i64 cn)) w.heap.size 147 #[.int .i64 cn, .int .i64 e0.kind, .int .i64 e0.mode, .int .i64 e0.keep, .int .i64 e0.torn, .string (str e0.path), .slice dA dl dc]) := hbox.set_ 0 _
 have hB1 : Below w.heap.size w (wb.setCell ⟨w.heap.size, 0, none⟩ (.int .i64 cn)) := hB.setCell (p := ⟨w.heap.size, 0, none⟩) (Nat.le_refl _) _
 have HB1 := Lib.hid hB1
 have HX1 := Lib.hid (hX.below hB1)
 have HX := Lib.hid hX
 have HMM := Lib.hid hM
 have HCN := Lib.hid hcn
 have HD : Hid (By F (wb.setCell ⟨w.heap.size, 0, none⟩ (.int .i64 cn)) (.slice dA dl dc) e0.data) := (by rw [← hdl] at hd ⊢; exact hd.only (Only.of_below (M := fun _ => False) hB1) (fun _ _ => id))
 have HS := Lib.hid hs
 have HN := Lib.hid hn
 have HAB := Lib.hid (HAT.out.below hB)
 clear hX hM hB hbox hcn hd hs hn hB1 hdl
 go_enter Tryz.func90, Tryz.ntmps90
 go_upto_region 1 with (fail)
 rw [← hwb]
 clear hwb
 go_upto_region 2 with (go_at_call 72; refine (calls_any HAB.out).mono ?_; rintro e w' ⟨rfl, rfl⟩; rw [HCN.out])
 generalize wb.setCell ⟨w.heap.size, 0, none⟩ (.int .i64 cn) = w2 at *
 have hbx := HBOX1.out
 obtain ⟨r0, r1, r2, r3, r4, r5, r6⟩ : w2.cell? ⟨w.heap.size, 0, none⟩ = some (.int .i64 cn) ∧ w2.cell? ⟨w.heap.size, 1, none⟩ = some (.int .i64 e0.kind) ∧ w2.cell? ⟨w.heap.size, 2, none⟩ = some (.int .i64 e0.mode) ∧ w2.cell? ⟨w.heap.size, 3, none⟩ = some (.int .i64 e0.keep) ∧ w2.cell? ⟨w.heap.size, 4, none⟩ = some (.int .i64 e0.torn) ∧ w2.cell? ⟨w.heap.size, 5, none⟩ = some (.string (str e0.path)) ∧ w2.cell? ⟨w.heap.size, 6, none⟩ = some (.slice dA dl dc) := ⟨hbx.cell 0, hbx.cell 1, hbx.cell 2, hbx.cell 3, hbx.cell 4, hbx.cell 5, hbx.cell 6⟩
 have p8 : w2.cell? ⟨b, 5, none⟩ = some x.users := HX1.out.blk.cell 5
 clear hbx z0 z1
 have HPA := Lib.hid (HX1.out.users.alloc (.cells #[.int .i64 cn, .int .i64 e0.kind, .int .i64 e0.mode, .int .i64 e0.keep, .int .i64 e0.torn, .string (str e0.path), .slice dA dl dc] 147))
 have HPD := Lib.hid (HX1.out.users.drew.alloc (.cells #[.int .i64 cn, .int .i64 e0.kind, .int .i64 e0.mode, .int .i64 e0.keep, .int .i64 e0.torn, .string (str e0.path), .slice dA dl dc] 147))
 have HLA := Lib.hid (TmpL.one (K := evK) (F := F) (a := ({ e0 with at_ := cn } : EvM)) (d := .slice dA dl dc) (Blk.new w2 147 #[.int .i64 cn, .int .i64 e0.kind, .int .i64 e0.mode, .int .i64 e0.keep, .int .i64 e0.torn, .string (str e0.path), .slice dA dl dc]) rfl (HD.out.only ((Only.refl (fun _ => False) w2).alloc _) (fun _ _ => id)))
 have HLD := Lib.hid (TmpL.one (K := evK) (F := F) (a := ({ e0 with at_ := cn } : EvM)) (d := .slice dA dl dc) (Blk.new w2.drew 147 #[.int .i64 cn, .int .i64 e0.kind, .int .i64 e0.mode, .int .i64 e0.keep, .int .i64 e0.torn, .string (str e0.path), .slice dA dl dc]) rfl (HD.out.only (((Only.refl (fun _ => False) w2).drew).alloc _) (fun _ _ => id)))
 have HFP : Hid (∀ k, F k → k < (w2.alloc (.cells #[.int .i64 cn, .int .i64 e0.kind, .int .i64 e0.mode, .int .i64 e0.keep, .int .i64 e0.torn, .string (str e0.path), .slice dA dl dc] 147)).heap.size) := fun k hk => by have := HX1.out.low k hk; simp; omega
 have s1 : Hid (c.users.length + [({ e0 with at_ := cn } : EvM)].length ≤ 2000000) := by unfold Hid; have := HN.out; simp; omega
 have p8a : (w2.alloc (.cells #[.int .i64 cn, .int .i64 e0.kind, .int .i64 e0.mode, .int .i64 e0.keep, .int .i64 e0.torn, .string (str e0.path), .slice dA dl dc] 147)).cell? ⟨b, 5, none⟩ = some x.users := (HX1.out.blk.alloc _).cell 5
 go_cut [] (fun wx => ∃ wl w5 v5, wx = w5.setCell ⟨b, 5, none⟩ v5 ∧ Below w2.heap.size w2 wl ∧ wl.grownBy w5 x.users.ownBlock ∧ OwnL evK 147 F w5 0 v5 (c.users ++ [({ e0 with at_ := cn } : EvM)]) ∧ (v5.ownBlock = x.users.ownBlock ∨ v5.ownBlock = some wl.heap.size))
 case first =>
  go_region_law (refine step_appendL typed_fe (v := x.users) (ex := .slice (some ⟨w2.heap.size, 0, none⟩) 1 1) (l2 := [({ e0 with at_ := cn } : EvM)]) rfl (.tmp 11) (.tmp 13) rfl (by first | exact HPA.out.drew | exact HPA.out | exact HPD.out) (by first | exact HLA.out.drew | exact HLA.out | exact HLD.out) (by rfl) (by rfl) s1.out (by exact Nat.zero_le _) (by exact HFP.out) ?_; intro v5 w5 ho5 hg5 hk5; obtain ⟨A5, c5, hv5, _, _⟩ := evs_slice ho5.tmp; subst hv5; have hb5 : Blk w5 b 92 (fcC c x) := (HX1.out.blk.alloc _).drew.grown hg5 (fun e => HX1.out.ub e.symm); have y3 : w5.cell? ⟨b, 5, none⟩ = some x.users := hb5.cell 5; have y3f : w5.frozen? ⟨b, 5, none⟩ = false := hb5.frozen 5; have HO5 := Lib.hid ho5; have HG5 := Lib.hid hg5; have HK5 := Lib.hid hk5; clear ho5 hg5 hk5 hb5)
  all_goals
   go_wp2_with fail
   go_meet
   exact ⟨_, _, _, rfl, ((Below.refl _ _).alloc (Nat.le_refl _) _).drew, HG5.out, HO5.out, HK5.out⟩
 case rest =>
  obtain ⟨wl, w5, v5, rfl, hl5, hg5, ho5, hk5⟩ := hcut
  have hpo := HX1.out.users_ HMM.out hl5 hg5 ho5 (hk5.imp id .inl)
  obtain ⟨M1, hat1, hon1, hsub1⟩ := hpo
  have HA1 := Lib.hid hat1
  have HO1 := Lib.hid hon1
  have HS1 := Lib.hid hsub1
  clear hat1 hon1 hsub1 hl5 hg5 ho5 hk5 r0 r1 r2 r3 r4 r5 r6 p8 p8a
  go_wp2_with fail
  refine (settle_any _ M1 b _ _ HA1.out (settle_users _ HS.out (by have := HN.out; simp; omega))).mono ?_
  rintro e w6 ⟨rfl, hp6⟩
  have HP6 := Lib.hid (FcPost.of_below HB1.out (FcPost.trans HO1.out HS1.out hp6))
  clear hp6
  go_wp2_with fail
  go_end0
  refine ⟨rfl, ?_⟩
  have h6 := HP6.out
  rw [← HCN.out] at h6
  exact h6
end Go.Proofs.YtbenkmihkbjgeaaGreat.Tx
/- Package fsim: a file is written. -/
namespace Go.Proofs.YtbenkmihkbjgeaaGreat.Tx
open Go.RowKit Go.Maps Go.Proofs.YtbenkmihkbjgeaaGreat.Sh
section
variable {F F' M : Nat → Prop} {w w1 w' wf : World} {b : Nat} {c c' : CSt}
theorem FcAt.wide (h : FcAt F w1 b c M) (hF : ∀ k, F' k → F k ∨ (w.heap.size ≤ k ∧ k < w1.heap.size)) (hF0 : ∀ k, F k → F' k) (hM : ∀ k, M k → k < w.heap.size) : FcAt F' w1 b c M := by
 obtain ⟨x, h1, h2⟩ := h
 refine ⟨x, h1.mono hF0 (fun k hk hm => ?_) (fun k hk => ?_), h2⟩
 ·rcases hF k hk with h | ⟨h, _⟩
  ·exact h1.self k h hm
  ·have := hM k ((h2 k).2 hm); omega
 ·rcases hF k hk with h | ⟨_, h⟩
  ·exact h1.low k h
  ·exact h
theorem FcPost.wide (hb : Below w.heap.size w w1) (h : FcPost F' M w1 b c' w') (hF : ∀ k, F' k → F k ∨ (w.heap.size ≤ k ∧ k < w1.heap.size)) (hF0 : ∀ k, F k → F' k) (hM : ∀ k, M k → k < w.heap.size) (hFlow : ∀ k, F k → k < w.heap.size) : FcPost F M w b c' w' := by
 obtain ⟨M2, ⟨y, h1, h2⟩, h3, h4⟩ := h
 have hz := hb.size
 have hz3 := h3.size
 refine ⟨M2, ⟨y, h1.mono (F' := grow F w w' M2) (fun k hk => ?_) (fun k hk hm => ?_) (fun k hk => ?_), h2⟩, (Only.of_below hb).trans h3 (fun _ hk => .inl hk), fun k hk => (h4 k hk).imp id (fun h => by omega)⟩
 ·rcases hk with hk | ⟨g1, g2, g3⟩
  ·rcases hF k hk with h | ⟨g1, g2⟩
   ·exact .inl h
   ·refine .inr ⟨g1, by omega, fun hm => ?_⟩
    rcases h4 k hm with h5 | h5
    ·have := hM k h5; omega
    ·omega
  ·exact .inr ⟨by omega, g2, g3⟩
 ·rcases hk with hk | ⟨_, _, g3⟩
  ·exact h1.self k (.inl (hF0 k hk)) hm
  ·exact g3 ((h2 k).2 hm)
 ·rcases hk with hk | ⟨_, g2, _⟩
  ·have := hFlow k hk; omega
  ·exact g2
theorem FcAt.lt (h : FcAt F w b c M) (k : Nat) (hk : M k) : k < w.heap.size := by
 obtain ⟨x, h1, h2⟩ := h
 exact h1.lt k ((h2 k).1 hk)
theorem FcAt.low (h : FcAt F w b c M) (k : Nat) (hk : F k) : k < w.heap.size := by
 obtain ⟨x, h1, _⟩ := h
 exact h1.low k hk
end
def wrE (c : CSt) (p : List UInt8) (mode : Int) (data : List UInt8) (room : Int) (create : Bool) : Int :=
 if pathB p = false then 6
 else if mode < 1 ∨ 3 < mode then 1
 else if 20000 < data.length then 3
 else if create = true ∧ peekB c.here p = true then 8
 else if mayC c.here p [] = false then 9
 else if room < (usedM c.here : Int) - ((peekF c.here p).data.length : Int) + (data.length : Int) then 10
 else 0
def wrC (c : CSt) (p : List UInt8) (mode : Int) (data : List UInt8) (room : Int) (create : Bool) : CSt :=
 if wrE c p mode data room create = 0 then doC c ⟨[], p, ⟨mode, data, c.time + 1⟩⟩ else c
theorem wr_no {c : CSt} {p : List UInt8} {mode : Int} {data : List UInt8} {room : Int} {create : Bool} {n : Int} (h : wrE c p mode data room create = n) (hn : n ≠ 0) : wrC c p mode data room create = c := by
 unfold wrC
 rw [if_neg (by rw [h]; exact hn)]
set_option maxRecDepth 100000 in
set_option maxHeartbeats 9600000 in
theorem write_any (F M : Nat → Prop) (b : Nat) (c : CSt) (p : List UInt8) (mode : Int) (dv : Value) (data : List UInt8) (room : Int) (create : Bool) (w : World) (h : FcAt F w b c M) (hs : CSmall c) (hdv : SlV w dv (data.map bv)) (hp : p.length ≤ 1000000) :
  Calls Tryz.prog 91 #[.pointer (some ⟨b, 0, none⟩), .string (str p), .int .i64 mode, dv, .int .i64 room, .bool create] w fun e w' => e = .returned (.int .i64 (wrE c p mode data room create)) ∧ FcPost F M w b (wrC c p mode data room create) w' := by
 have HAT := Lib.hid h
 have HS := Lib.hid hs
 obtain ⟨dA, dc, rfl, hdc, hdm, _⟩ := hdv.len
 rw [List.length_map] at hdc hdv ⊢
 obtain ⟨n, hn⟩ : ∃ n, data.length = n := ⟨_, rfl⟩
 rw [hn] at hdc hdv ⊢
 have HN := Lib.hid hn
 have HDV := Lib.hid hdv
 obtain ⟨x, hX, hM⟩ := h
 have c6 : w.cell? ⟨b, 6, none⟩ = some (.pointer (some ⟨x.here, 0, none⟩)) := hX.blk.cell 6
 have c0 : w.cell? ⟨x.here, 0, none⟩ = some (.map (some x.hf)) := hX.here.blk.cell 0
 obtain ⟨D, hown, hfo⟩ := hX.here.files
 obtain ⟨oA, oc, _, hlook, hhas⟩ := look_peek hfo hX.here.ord p
 obtain ⟨f, hf⟩ : ∃ f, peekF c.here p = f := ⟨_, rfl⟩
 obtain ⟨t, ht⟩ : ∃ t, peekB c.here p = t := ⟨_, rfl⟩
 have hol := peek_short hs.hrow p
 rw [hf] at hlook hol
 rw [ht] at hhas
 obtain ⟨ol, hol'⟩ : ∃ ol, f.data.length = ol := ⟨_, rfl⟩
 rw [hol'] at hlook hol
 have HF := Lib.hid hf
 have HT := Lib.hid ht
 have HOL := Lib.hid hol'
 have HOWN := Lib.hid hown
 have HLOOK := Lib.hid hlook
 have HKEY := Lib.hid (key_str p hp)
 have HX := Lib.hid hX
 have HMM := Lib.hid hM
 obtain ⟨we, hwe⟩ : ∃ we, wrE c p mode data room create = we := ⟨_, rfl⟩
 have HWE := Lib.hid hwe
 obtain ⟨wa, hwa⟩ : ∃ wa, wa = w.alloc (.cells #[.int .i64 f.mode, .slice oA ol oc, .int .i64 f.time] 129) := ⟨_, rfl⟩
 have hBa : Below w.heap.size w wa := by rw [hwa]; exact (Below.refl _ _).alloc (Nat.le_refl _) _
 have hba : Blk wa w.heap.size 129 #[.int .i64 f.mode, .slice oA ol oc, .int .i64 f.time] := by rw [hwa]; exact Blk.new _ _ _
 have HBA := Lib.hid hBa
 have HBLK := Lib.hid hba
 have hzw : w.heap.size < wa.heap.size := hba.lt
 have HSTAY : Hid (∀ w', Below w.heap.size w w' → FcPost F M w b c w') := fun w' hb => FcPost.of_below hb (FcPost.refl (HAT.out.below hb))
 have HNO : Hid (∀ k, we = k → k ≠ 0 → ∀ w', Below w.heap.size w w' → FcPost F M w b (wrC c p mode data room create) w') := fun k hk hk0 w' hb => by
  rw [wr_no (HWE.out.trans hk) hk0]
  exact HSTAY.out w' hb
 clear hs hn hdv hX hM hown hfo hlook hf ht hol' hwe hBa hba
 obtain ⟨t1, ht1⟩ : ∃ t1, pathB p = t1 := ⟨_, rfl⟩
 have HT1 := Lib.hid ht1
 clear ht1
 rw [HWE.out]
 go_enter Tryz.func91, Tryz.ntmps91
 go_upto_region 2 with (first | fail | (at_lookup; refine wpList_lookup_own_ok _ rfl _ _ 163 rfl 9 129 lawS Tryz.underlying163 hv (zeroF _) (.held zeroFile) [] rfl x.hf _ D rfl (by exact HOWN.out) _ (.string p) rfl (by exact HKEY.out) ?_; intro v ps hv'; obtain rfl := HLOOK.out v ps hv'; rw [hhas]; clear hv'))
 rw [← hwa]
 clear hwa c6 c0
 go_wp2_with fail
 refine (npath_any p _ hp).mono ?_
 rintro e w2 ⟨rfl, hb2⟩
 rw [HT1.out]
 have HB2 := Lib.hid (HBA.out.trans (hb2.mono (Nat.le_of_lt hzw)))
 have hbk2 := HBLK.out.below hb2 hzw
 have HBK2 := Lib.hid hbk2
 clear hb2 hbk2
 cases t1 with
 | false =>
  have HE : Hid (we = 6) := by unfold Hid; rw [← HWE.out]; unfold wrE; rw [if_pos HT1.out]
  go_wp2_with fail
  go_ret
  exact ⟨by rw [HE.out]; rfl, HNO.out 6 HE.out (by decide) _ HB2.out⟩
 | true =>
  by_cases hmo : mode < 1 ∨ 3 < mode
  ·have HE : Hid (we = 1) := by unfold Hid; rw [← HWE.out]; unfold wrE; rw [if_neg (by rw [HT1.out]; decide), if_pos hmo]
   rcases hmo with hm | hm
   ·go_wp2_with fail
    go_ret
    exact ⟨by rw [HE.out]; rfl, HNO.out 1 HE.out (by decide) _ HB2.out⟩
   ·have hm2 : ¬ mode < 1 := by omega
    go_wp2_with fail
    go_ret
    exact ⟨by rw [HE.out]; rfl, HNO.out 1 HE.out (by decide) _ HB2.out⟩
  ·have m1 : ¬ mode < 1 := fun h => hmo (.inl h)
   have m3 : ¬ 3 < mode := fun h => hmo (.inr h)
   have HMO := Lib.hid hmo
   clear hmo
   by_cases hl : 20000 < n
   ·have HE : Hid (we = 3) := by unfold Hid; rw [← HWE.out]; unfold wrE; rw [if_neg (by rw [HT1.out]; decide), if_neg HMO.out, if_pos (by rw [HN.out]; exact hl)]
    have l1 : (20000 : Int) < (n : Int) := by omega
    go_wp2_with fail
    go_ret
    exact ⟨by rw [HE.out]; rfl, HNO.out 3 HE.out (by decide) _ HB2.out⟩
   ·have l1 : ¬ (20000 : Int) < (n : Int) := by omega
    have HLN : Hid (¬ 20000 < data.length) := by unfold Hid; rw [HN.out]; exact hl
    by_cases hct : create = true ∧ t = true
    ·obtain ⟨rfl, rfl⟩ := hct
     have HE : Hid (we = 8) := by unfold Hid; rw [← HWE.out]; unfold wrE; rw [if_neg (by rw [HT1.out]; decide), if_neg HMO.out, if_neg HLN.out, if_pos ⟨rfl, HT.out⟩]
     go_wp2_with fail
     go_ret
     exact ⟨by rw [HE.out]; rfl, HNO.out 8 HE.out (by decide) _ HB2.out⟩
    ·have HCT : Hid (¬ (create = true ∧ peekB c.here p = true)) := by unfold Hid; rw [HT.out]; exact hct
     have hX2 := HX.out.below HB2.out
     have c6 : w2.cell? ⟨b, 6, none⟩ = some (.pointer (some ⟨x.here, 0, none⟩)) := hX2.blk.cell 6
     have HMAY : Hid (Calls Tryz.prog 141 #[.pointer (some ⟨x.here, 0, none⟩), .string (str p), .string ⟨#[]⟩] w2 fun e w' => e = .returned (.bool (mayC c.here p [])) ∧ Below w2.heap.size w2 w') := tmay_any F x.here x.hf x.hu c.here p [] w2 hX2.here hp (Nat.zero_le _) (by have := HS.out.here; omega)
     obtain ⟨my, hmy⟩ : ∃ my, mayC c.here p [] = my := ⟨_, rfl⟩
     rw [hmy] at HMAY
     have HMY := Lib.hid hmy
     clear hX2 hmy
     go_upto_region 8 with (fail)
     go_cut [42] (fun v wx => v = .bool false ∧ w2 = wx)
     case first =>
      cases create with
      | false =>
       go_wp2_with fail
       go_meet
       exact ⟨rfl, rfl⟩
      | true =>
       cases t with
       | true => exact absurd ⟨rfl, rfl⟩ hct
       | false =>
        go_wp2_with fail
        go_meet
        exact ⟨rfl, rfl⟩
     case rest =>
      obtain ⟨rfl, rfl⟩ := hcut
      clear hct
      go_wp2_with fail
      refine HMAY.out.mono ?_
      rintro e w3 ⟨rfl, hb3⟩
      have HB3 := Lib.hid (HB2.out.trans (hb3.mono HB2.out.size))
      have hbk3 := HBK2.out.below hb3 HBK2.out.lt
      have HBK3 := Lib.hid hbk3
      clear hb3 hbk3 c6
      cases my with
      | false =>
       have HE : Hid (we = 9) := by unfold Hid; rw [← HWE.out]; unfold wrE; rw [if_neg (by rw [HT1.out]; decide), if_neg HMO.out, if_neg HLN.out, if_neg HCT.out, if_pos HMY.out]
       go_wp2_with fail
       go_ret
       exact ⟨by rw [HE.out]; rfl, HNO.out 9 HE.out (by decide) _ HB3.out⟩
      | true =>
       have hX3 := HX.out.below HB3.out
       obtain ⟨u, hu⟩ : ∃ u, usedM c.here = u := ⟨_, rfl⟩
       have hub : u ≤ 400000000000 := by rw [← hu]; exact HS.out.hused
       have c6 : w3.cell? ⟨b, 6, none⟩ = some (.pointer (some ⟨x.here, 0, none⟩)) := hX3.blk.cell 6
       have c2 : w3.cell? ⟨x.here, 2, none⟩ = some (.int .i64 u) := by rw [← hu]; exact hX3.here.blk.cell 2
       have e1 : w3.cell? ⟨w.heap.size, 1, none⟩ = some (.slice oA ol oc) := HBK3.out.cell 1
       have u0 : (0 : Int) ≤ (u : Int) := by omega
       have u1 : (u : Int) ≤ 400000000000 := by omega
       have o0 : (0 : Int) ≤ (ol : Int) := by omega
       have o1 : (ol : Int) ≤ 20000 := by omega
       have n0 : (0 : Int) ≤ (n : Int) := by omega
       have n1 : (n : Int) ≤ 20000 := by omega
       have HUU := Lib.hid hu
       clear hX3 hu hub
       go_upto_region 12 with (fail)
       go_quiet (fail)
       generalize hwd : w3.drewN nq = wd
       have HB4 : Hid (Below w.heap.size w wd) := by rw [← hwd]; exact below_drewN HB3.out _
       clear hwd c6 c2 e1
       by_cases hr : room < (u : Int) - (ol : Int) + (n : Int)
       ·have HE : Hid (we = 10) := by unfold Hid; rw [← HWE.out]; unfold wrE; rw [if_neg (by rw [HT1.out]; decide), if_neg HMO.out, if_neg HLN.out, if_neg HCT.out, if_neg (by rw [HMY.out]; decide), if_pos (by rw [HF.out, HUU.out, HOL.out, HN.out]; exact hr)]
        have r1 : decide ((u : Int) - (ol : Int) + (n : Int) > room) = true := decide_eq_true hr
        go_wp2_with fail
        go_ret
        exact ⟨by rw [HE.out]; rfl, HNO.out 10 HE.out (by decide) _ HB4.out⟩
       ·have HE : Hid (we = 0) := by unfold Hid; rw [← HWE.out]; unfold wrE; rw [if_neg (by rw [HT1.out]; decide), if_neg HMO.out, if_neg HLN.out, if_neg HCT.out, if_neg (by rw [HMY.out]; decide), if_neg (by rw [HF.out, HUU.out, HOL.out, HN.out]; exact hr)]
        have hX4 := HX.out.below HB4.out
        obtain ⟨tm, htm⟩ : ∃ tm, c.time = tm := ⟨_, rfl⟩
        have c2 : wd.cell? ⟨b, 2, none⟩ = some (.int .i64 tm) := by rw [← htm]; exact hX4.blk.cell 2
        have t0 : 0 ≤ tm := by rw [← htm]; exact HS.out.time.1
        have t4 : tm ≤ 4000000000 := by rw [← htm]; exact HS.out.time.2
        have HTM := Lib.hid htm
        have HX4 := Lib.hid hX4
        have HCB : Hid (∀ W, Below wd.heap.size wd W → W.cell? ⟨b, 2, none⟩ = some (.int .i64 tm)) := fun W hW => by
         have := (HX4.out.below hW).blk.cell 2
         rw [← HTM.out]
         exact this
        have HDV4 : Hid (SlV wd (.slice dA n dc) (data.map bv)) := HDV.out.below HB4.out
        have HDO : Hid (∀ W v, Below wd.heap.size wd W → OwnV 5 W wd.heap.size v (data.map bv) → Calls Tryz.prog 140 #[.pointer (some ⟨b, 0, none⟩), .agg #[.string ⟨#[]⟩, .string (str p), .int .i64 mode, v, .int .i64 (tm + 1)]] W fun e w' => e = .returned (.tuple #[]) ∧ FcPost F M w b (wrC c p mode data room create) w') := fun W v hW hv => by
         have hMlt : ∀ k, M k → k < wd.heap.size := fun k hk => Nat.lt_of_lt_of_le (HAT.out.lt k hk) HB4.out.size
         have hFlt : ∀ k, F k → k < wd.heap.size := fun k hk => Nat.lt_of_lt_of_le (HAT.out.low k hk) HB4.out.size
         have hat : FcAt (fun k => F k ∨ (wd.heap.size ≤ k ∧ k < W.heap.size)) W b c M := ((HAT.out.below HB4.out).below hW).wide (w := wd) (fun k hk => hk) (fun k hk => .inl hk) hMlt
         have hpl : p.length ≤ 1000 := by
          have := ((pathB_iff p).1 HT1.out).1
          omega
         have hd := do_any (fun k => F k ∨ (wd.heap.size ≤ k ∧ k < W.heap.size)) M b c ⟨[], p, ⟨mode, data, tm + 1⟩⟩ v W hat hv.by_ (by have := HS.out.time; omega) (by have := HS.out.here; omega) (by have := HS.out.both; omega) (by have := HS.out.hused; omega) (Nat.zero_le _) hp (by show data.length ≤ _; have := HN.out; omega)
         refine hd.mono ?_
         rintro e w' ⟨rfl, hpo⟩
         refine ⟨rfl, ?_⟩
         have h2 := FcPost.of_below HB4.out (FcPost.wide hW hpo (fun k hk => hk) (fun k hk => .inl hk) hMlt hFlt)
         unfold wrC
         rw [if_pos (HWE.out.trans HE.out), HTM.out]
         exact h2
        have r1 : decide ((u : Int) - (ol : Int) + (n : Int) > room) = false := decide_eq_false hr
        clear htm hX4
        go_upto_region 14 with (fail)
        clear hr r1
        have hwr : IntKind.i64.wrap (tm + 1) = tm + 1 := wrap_ok (by omega) (by omega)
        go_region_with (first
         | (go_at_call 140; refine (HDO.out _ _ HB5.out HO5.out).mono ?_; rintro e w6 ⟨rfl, hp6⟩; have HP6 := Lib.hid hp6; clear hp6)
         | (go_at_call 92; refine (bclone_any _ data _ (by exact HDV4.out) (by rw [HN.out]; omega)).mono ?_; rintro e w5 ⟨v5, rfl, ho5, hb5⟩; obtain ⟨A5, c5, rfl, _, _⟩ := ho5.length; rw [List.length_map, HN.out] at ho5 ⊢; have hb5' : Below wd.heap.size wd w5 := ⟨hb5.os, hb5.tape, hb5.output, hb5.size, hb5.block⟩; have HB5 := Lib.hid hb5'; have HO5 := Lib.hid ho5; have c2n : w5.cell? ⟨b, 2, none⟩ = some (.int .i64 tm) := HCB.out _ hb5'; clear ho5 hb5 hb5'))
        all_goals
         go_wp2_with fail
         go_ret
         exact ⟨by rw [HE.out]; rfl, HP6.out⟩
end Go.Proofs.YtbenkmihkbjgeaaGreat.Tx
