/- Texts put together: VOb14, VOb16. -/
import Derived.Test.YtpfjlhpahmhkhaaGreatQv21
/- obj's reader: fail, take, octet, number, text, hash. -/
namespace Go.Proofs.YtpfjlhpahmhkhaaGreat.Ob
open Go.RowKit Go.Proofs.YtpfjlhpahmhkhaaGreat.Sh
open Go.Proofs.YtpfjlhpahmhkhaaGreat.Tx (OwnV SlV sv bl nameB reads_at texts_at toList_ne')
theorem in_take {w : World} {A : Option Addr} {bs : List UInt8} (h : In w A bs) (k : Nat) : In w A (bs.take k) := by
 intro h0
 rw [List.length_take] at h0
 obtain ⟨ad, hA, hlt, hc⟩ := h (by omega)
 refine ⟨ad, hA, hlt, fun j hj => ?_⟩
 rw [List.length_take] at hj
 rw [hc j (by omega)]
 simp only [List.getD_eq_getElem?_getD, List.getElem?_take, if_pos (show j < k from by omega)]
theorem in_drop {w : World} {A : Option Addr} {bs : List UInt8} (h : In w A bs) (k : Nat) : In w (A.map (·.add k)) (bs.drop k) := by
 intro h0
 rw [List.length_drop] at h0
 obtain ⟨ad, rfl, hlt, hc⟩ := h (by omega)
 refine ⟨ad.add k, rfl, by rw [block_of_add]; exact hlt, fun j hj => ?_⟩
 rw [List.length_drop] at hj
 rw [add_of_add, hc (k + j) (by omega)]
 simp only [List.getD_eq_getElem?_getD, List.getElem?_drop]
theorem size5_ (w : World) : (sizeOf (Tryz.prog.elem 32)).run Tryz.prog w = .ok 1 w := by kernel_rfl
set_option maxRecDepth 100000 in
theorem run_front (A : Option Addr) (l c k : Nat) (hkc : k ≤ c) (w : World) :
  (Instr.slice 32 (.slice A l c) none (some (.int .i64 (k : Int))) none).run Tryz.prog w = .ok (.slice (if c = 0 then A else A.map (·.add 0)) k c) w := by
 rw [run_slice_h w 32 A l c Tryz.underlying32 .i64 k (by omega) (by omega), size5_]
 rfl
set_option maxRecDepth 100000 in
theorem run_back (A : Option Addr) (l c k : Nat) (hkl : k ≤ l) (w : World) :
  (Instr.slice 32 (.slice A l c) (some (.int .i64 (k : Int))) none none).run Tryz.prog w = .ok (.slice (if c = k then A else A.map (·.add k)) (l - k) (c - k)) w := by
 rw [run_slice_l w 32 A l c Tryz.underlying32 .i64 k (by omega) (by omega), size5_]
 show Result.ok (Value.slice (if c = k then A else A.map (·.add (k * 1))) _ _) _ = _
 rw [Nat.mul_one]
 rfl
theorem sl_front {w : World} {A : Option Addr} {c : Nat} {bs : List UInt8} (h : Sl w (.slice A bs.length c) bs) (k : Nat) (hk : k ≤ bs.length) : Sl w (.slice (if c = 0 then A else A.map (·.add 0)) k c) (bs.take k) := by
 obtain ⟨A', c', he, hl, hm, hi, hn⟩ := h
 injection he with e1 e2 e3
 subst e1 e3
 have hlk : (bs.take k).length = k := by rw [List.length_take]; omega
 have hA0 : (if c = 0 then A else A.map (·.add 0)) = A := by
  split
  ·rfl
  ·cases A with
   | none => rfl
   | some x => show some (x.add 0) = some x; simp [Addr.add]
 rw [hA0]
 refine ⟨A, c, by rw [hlk], by omega, hm, in_take hi k, fun h => by rw [hn h]; simp⟩
theorem sl_back {w : World} {A : Option Addr} {c : Nat} {bs : List UInt8} (h : Sl w (.slice A bs.length c) bs) (k : Nat) (hk : k ≤ bs.length) : Sl w (.slice (if c = k then A else A.map (·.add k)) (bs.length - k) (c - k)) (bs.drop k) := by
 obtain ⟨A', c', he, hl, hm, hi, hn⟩ := h
 injection he with e1 e2 e3
 subst e1 e3
 have hlk : (bs.drop k).length = bs.length - k := by rw [List.length_drop]
 by_cases h0 : c = k
 ·rw [if_pos h0]
  have h1 : bs.drop k = [] := List.drop_eq_nil_of_le (by omega)
  refine ⟨A, c - k, by rw [hlk], by omega, by omega, by rw [h1]; exact In.nil w A, fun _ => h1⟩
 ·rw [if_neg h0]
  refine ⟨A.map (·.add k), c - k, by rw [hlk], by omega, by omega, in_drop hi k, fun h => ?_⟩
  cases A with
  | none => rw [hn rfl]; simp
  | some x => cases h
structure Upd (g : Nat) (w w' : World) : Prop where
 os : w'.os = w.os
 tape : w'.tape = w.tape
 output : w'.output = w.output
 size : w.heap.size ≤ w'.heap.size
 block : ∀ k, k < w.heap.size → k ≠ g → w'.heap[k]? = w.heap[k]?
section
variable {g : Nat} {w w' w2 : World}
theorem Upd.refl (g : Nat) (w : World) : Upd g w w := ⟨rfl, rfl, rfl, Nat.le_refl _, fun _ _ _ => rfl⟩
theorem Upd.trans (h : Upd g w w') (h2 : Upd g w' w2) : Upd g w w2 := ⟨h2.os.trans h.os, h2.tape.trans h.tape, h2.output.trans h.output, Nat.le_trans h.size h2.size, fun k hk hn => (h2.block k (Nat.lt_of_lt_of_le hk h.size) hn).trans (h.block k hk hn)⟩
theorem Upd.of_below (h : Below w.heap.size w w') : Upd g w w' := ⟨h.os, h.tape, h.output, h.size, fun k hk _ => h.block k hk⟩
theorem Upd.set_ (h : Upd g w w') (i : Nat) (u : Value) : Upd g w (w'.setCell ⟨g, i, none⟩ u) := ⟨h.os, h.tape, h.output, by simpa [World.setCell] using h.size, fun k hk hn => (Below.heap_setCell w' ⟨g, i, none⟩ u k hn).trans (h.block k hk hn)⟩
theorem Upd.alloc (h : Upd g w w') (o : Obj) : Upd g w (w'.alloc o) := h.trans (Upd.of_below ((Below.refl _ _).alloc (Nat.le_refl _) o))
theorem Upd.drew (h : Upd g w w') : Upd g w w'.drew := ⟨h.os, h.tape, h.output, h.size, h.block⟩
theorem Upd.below (h : Upd g w w') {B : Nat} (hB : B ≤ g) (hB2 : B ≤ w.heap.size) : Below B w w' := ⟨h.os, h.tape, h.output, h.size, fun k hk => h.block k (by omega) (by omega)⟩
theorem Upd.blk (h : Upd g w w') {b : Nat} {t : TypeId} {cs : Array Value} (hb : Blk w b t cs) (hn : b ≠ g) : Blk w' b t cs := (h.block b hb.lt hn).trans hb
end
def RdAt (w0 w : World) (g : Nat) (s : Rdr) : Prop := ∃ A c, Blk w g 355 #[.slice A s.1.length c, .bool s.2] ∧ Sl w0 (.slice A s.1.length c) s.1 ∧ w0.heap.size ≤ g ∧ Below w0.heap.size w0 w
theorem RdAt.upd {w0 w w' : World} {g b : Nat} {s : Rdr} (h : RdAt w0 w g s) (hu : Upd b w w') (hn : g ≠ b) (hb : w0.heap.size ≤ b) : RdAt w0 w' g s := by
 obtain ⟨A, c, h1, h2, h3, h4⟩ := h
 exact ⟨A, c, hu.blk h1 hn, h2, h3, h4.trans (hu.below hb h4.size)⟩
theorem RdAt.below {w0 w w' : World} {g : Nat} {s : Rdr} (h : RdAt w0 w g s) (hu : Below w.heap.size w w') : RdAt w0 w' g s := by
 obtain ⟨A, c, h1, h2, h3, h4⟩ := h
 exact ⟨A, c, h1.below hu h1.lt, h2, h3, h4.trans (hu.mono h4.size)⟩
def DonePost (w0 w : World) (g : Nat) (s : Rdr) (w' : World) : Prop := RdAt w0 w' g s ∧ Upd g w w'
def TakePost (w0 w : World) (g : Nat) (x : List UInt8) (s : Rdr) (e : Ending) (w' : World) : Prop := ∃ u, e = .returned u ∧ Sl w0 u x ∧ RdAt w0 w' g s ∧ Upd g w w'
def NumPost (w0 w : World) (g : Nat) (n : Nat) (s : Rdr) (e : Ending) (w' : World) : Prop := e = .returned (.int .i64 (n : Int)) ∧ RdAt w0 w' g s ∧ Upd g w w'
def TxtPost (w0 w : World) (g : Nat) (x : List UInt8) (s : Rdr) (e : Ending) (w' : World) : Prop := e = .returned (.string (str x)) ∧ RdAt w0 w' g s ∧ Upd g w w'
theorem two_cells {w : World} {b : Nat} {T : TypeId} {c0 c1 : Value} (h : Blk w b T #[c0, c1]) : w.cell? ⟨b, 0, none⟩ = some c0 ∧ w.cell? ⟨b, 1, none⟩ = some c1 ∧ w.frozen? ⟨b, 0, none⟩ = false ∧ w.frozen? ⟨b, 1, none⟩ = false := ⟨h.cell 0, h.cell 1, h.frozen 0, h.frozen 1⟩
set_option maxRecDepth 100000 in
set_option maxHeartbeats 800000 in
theorem fail_any (w0 w : World) (g : Nat) (s : Rdr) (h : RdAt w0 w g s) : Calls Tryz.prog 355 #[.pointer (some ⟨g, 0, none⟩)] w fun e w' => e = .returned (.tuple #[]) ∧ DonePost w0 w g ([], true) w' := by
 obtain ⟨A, c, h1, h2, h3, h4⟩ := h
 obtain ⟨x0, x1, f0, f1⟩ := two_cells h1
 have HB := Lib.hid (h1.set_ 0 (.slice none 0 0))
 have HU : Hid (Upd g w ((w.setCell ⟨g, 0, none⟩ (.slice none 0 0)).setCell ⟨g, 1, none⟩ (.bool true))) := ((Upd.refl g w).set_ 0 _).set_ 1 _
 have HD : Hid (RdAt w0 ((w.setCell ⟨g, 0, none⟩ (.slice none 0 0)).setCell ⟨g, 1, none⟩ (.bool true)) g ([], true)) := by
  refine ⟨none, 0, ?_, Sl.nil_ w0, h3, h4.trans (HU.out.below h3 h4.size)⟩
  have := HB.out.set_ 1 (.bool true)
  simpa using this
 clear h1 h2 h3 h4
 go_enter Tryz.func355, Tryz.ntmps355
 go_wp2_with fail
 go_end0
 exact ⟨rfl, HD.out, HU.out⟩
set_option maxRecDepth 100000 in
set_option maxHeartbeats 1600000 in
theorem take_any (w0 w : World) (g n : Nat) (s : Rdr) (h : RdAt w0 w g s) : Calls Tryz.prog 316 #[.pointer (some ⟨g, 0, none⟩), .int .i64 (n : Int)] w (TakePost w0 w g (takeR s n).1 (takeR s n).2) := by
 have HS := Lib.hid h
 obtain ⟨bs, f⟩ := s
 obtain ⟨A, c, h1, h2, h3, h4⟩ := h
 replace h1 : Blk w g 355 #[.slice A bs.length c, .bool f] := h1
 replace h2 : Sl w0 (.slice A bs.length c) bs := h2
 obtain ⟨A', c', hv, hlc, hcm, _⟩ := h2.len
 injection hv with e1 e2 e3
 subst e1 e3
 unfold maxLen at hcm
 clear e2
 obtain ⟨x0, x1, f0, f1⟩ := two_cells h1
 obtain ⟨l, hl⟩ : ∃ l, bs.length = l := ⟨_, rfl⟩
 have HL := Lib.hid hl
 have H2 := Lib.hid h2
 have H3 := Lib.hid h3
 have H4 := Lib.hid h4
 have H1 := Lib.hid h1
 rw [hl] at x0 hlc
 clear h1 h2 h3 h4 hl
 by_cases hn : l < n
 ·have hn' : (l : Int) < (n : Int) := by omega
  have HT : Hid (takeR (bs, f) n = ([], ([], true))) := by
   unfold Hid takeR
   rw [if_pos (by show bs.length < n; rw [HL.out]; exact hn)]
  clear hn
  rw [HT.out]
  go_enter Tryz.func316, Tryz.ntmps316
  go_wp2_with fail
  refine (fail_any w0 w g _ HS.out).mono ?_
  rintro e w1 ⟨rfl, hr, hu⟩
  have HR := Lib.hid hr
  have HU := Lib.hid hu
  clear hr hu x0 x1 f0 f1
  go_wp2_with fail
  go_ret
  exact ⟨_, rfl, Sl.nil_ w0, HR.out, HU.out⟩
 ·have hn' : (n : Int) ≤ (l : Int) := by omega
  have hnl : n ≤ l := by omega
  have HT : Hid (takeR (bs, f) n = (bs.take n, (bs.drop n, f))) := by
   unfold Hid takeR
   rw [if_neg (by show ¬ bs.length < n; rw [HL.out]; exact hn)]
  have hfr := fun W : World => run_front A l c n (by omega) W
  have hbk := fun W : World => run_back A l c n hnl W
  have HF : Hid (Sl w0 (.slice (if c = 0 then A else A.map (·.add 0)) n c) (bs.take n)) := sl_front H2.out n (by rw [HL.out]; exact hnl)
  have HBK : Hid (Sl w0 (.slice (if c = n then A else A.map (·.add n)) (l - n) (c - n)) (bs.drop n)) := by have := sl_back H2.out n (by rw [HL.out]; exact hnl); rw [HL.out] at this; exact this
  obtain ⟨A1, hA1⟩ : ∃ A1, (if c = 0 then A else A.map (·.add 0)) = A1 := ⟨_, rfl⟩
  obtain ⟨A2, hA2⟩ : ∃ A2, (if c = n then A else A.map (·.add n)) = A2 := ⟨_, rfl⟩
  rw [hA1] at hfr HF
  rw [hA2] at hbk HBK
  clear hA1 hA2 hn
  rw [HT.out]
  have HU : Hid (Upd g w (w.setCell ⟨g, 0, none⟩ (.slice A2 (l - n) (c - n)))) := (Upd.refl g w).set_ 0 _
  have HD : Hid (RdAt w0 (w.setCell ⟨g, 0, none⟩ (.slice A2 (l - n) (c - n))) g (bs.drop n, f)) := by
   have hdl : (bs.drop n).length = l - n := by rw [List.length_drop, HL.out]
   refine ⟨A2, c - n, ?_, by show Sl w0 (.slice A2 (bs.drop n).length (c - n)) (bs.drop n); rw [hdl]; exact HBK.out, H3.out, H4.out.trans (HU.out.below H3.out H4.out.size)⟩
   show Blk _ g _ #[.slice A2 (bs.drop n).length (c - n), .bool f]
   rw [hdl]
   have := H1.out.set_ 0 (.slice A2 (l - n) (c - n))
   simpa using this
  go_enter Tryz.func316, Tryz.ntmps316
  go_wp2_with fail
  go_ret
  exact ⟨_, rfl, HF.out, HD.out, HU.out⟩
end Go.Proofs.YtpfjlhpahmhkhaaGreat.Ob
/- obj's reader: octet, number, text, hash; slices.Clone of bytes. -/
namespace Go.Proofs.YtpfjlhpahmhkhaaGreat.Ob
open Go.RowKit Go.Proofs.YtpfjlhpahmhkhaaGreat.Sh
open Go.Proofs.YtpfjlhpahmhkhaaGreat.Tx (OwnV SlV sv bl nameB reads_at texts_at toList_ne')
theorem takeR_len (s : Rdr) (n : Nat) : (takeR s n).1.length ≤ n ∧ (takeR s n).2.1.length ≤ s.1.length := by
 unfold takeR
 split
 ·simp
 ·simp; omega
theorem octR_eq (s : Rdr) : octR s = (((takeR s 1).1.headD 0).toNat, (takeR s 1).2) := rfl
set_option maxRecDepth 100000 in
set_option maxHeartbeats 800000 in
theorem octet_any (w0 w : World) (g : Nat) (s : Rdr) (h : RdAt w0 w g s) : Calls Tryz.prog 314 #[.pointer (some ⟨g, 0, none⟩)] w (NumPost w0 w g (octR s).1 (octR s).2) := by
 have HS := Lib.hid h
 obtain ⟨x, hx⟩ : ∃ x, (takeR s 1).1 = x := ⟨_, rfl⟩
 obtain ⟨s', hs'⟩ : ∃ s', (takeR s 1).2 = s' := ⟨_, rfl⟩
 have hlen := (takeR_len s 1).1
 rw [hx] at hlen
 have HE : Hid (octR s = ((x.headD 0).toNat, s')) := by unfold Hid; rw [octR_eq, hx, hs']
 have HX := Lib.hid hx
 have HS' := Lib.hid hs'
 clear h hx hs'
 rw [HE.out]
 go_enter Tryz.func314, Tryz.ntmps314
 go_wp2_with fail
 refine (take_any w0 w g 1 s HS.out).mono ?_
 rw [HX.out, HS'.out]
 rintro e w1 ⟨u, rfl, hu, hr, hup⟩
 have HR := Lib.hid hr
 have HUP := Lib.hid hup
 cases x with
 | nil =>
  obtain ⟨A, c, rfl, _⟩ := hu.len
  clear hr hup hu
  go_wp2_with fail
  go_ret
  exact ⟨rfl, HR.out, HUP.out⟩
 | cons y t =>
  have ht : t = [] := List.eq_nil_of_length_eq_zero (by rw [List.length_cons] at hlen; omega)
  subst ht
  obtain ⟨_, _, _, _, _, h4⟩ := hr
  obtain ⟨A, c, rfl, hlc, hcm, hI⟩ := (hu.below h4).len
  obtain ⟨ad, rfl, hc⟩ := hI.at_ 0 (by simp)
  have hc0 : w1.cell? ad = some (.int .u8 (bi y)) := by
   rw [show ad.add 0 = ad from by simp [Addr.add]] at hc
   exact hc
  have hw : IntKind.i64.wrap (bi y) = bi y := by
   have := bi_lt y
   rw [IntKind.wrap_i64]
   omega
  have HY : Hid (bi y = ((([y] : List UInt8).headD 0).toNat : Int)) := by unfold Hid bi; rfl
  unfold maxLen at hcm
  clear hup hu hI hc h4
  go_wp2_with fail
  go_ret
  exact ⟨by rw [← HY.out]; rfl, HR.out, HUP.out⟩
theorem numR_ok {s : Rdr} {a b : Int} (h : getR s.1 ((0 : Nat) : Int) = (a, b, 0)) : ∃ n m : Nat, a = n ∧ b = m ∧ m ≤ s.1.length ∧ numR s = (n, (s.1.drop m, s.2)) := by
 rw [getR_in (Nat.zero_le _), List.drop_zero] at h
 unfold numR
 by_cases h0 : (getE s.1).2.2 = 0
 ·rw [if_pos h0] at h ⊢
  injection h with h1 h
  injection h with h2 _
  refine ⟨(getE s.1).1, (getE s.1).2.1, h1.symm, by rw [← h2]; simp, ?_, rfl⟩
  unfold getE at h0 ⊢
  split at h0
  ·cases h0
  ·rename_i hne
   have := cont_le s.1
   rw [if_neg hne]
   split
   ·show cont s.1 + 1 ≤ s.1.length; omega
   ·exact Nat.zero_le _
 ·rw [if_neg h0] at h
  injection h with h1 h
  injection h with h2 h3
  exfalso
  exact h0 (by omega)
theorem numR_bad {s : Rdr} {a b c : Int} (h : getR s.1 ((0 : Nat) : Int) = (a, b, c)) (hc : c ≠ 0) : numR s = (0, ([], true)) := by
 rw [getR_in (Nat.zero_le _), List.drop_zero] at h
 unfold numR
 by_cases h0 : (getE s.1).2.2 = 0
 ·rw [if_pos h0] at h
  injection h with h1 h
  injection h with h2 h3
  exact absurd h3.symm hc
 ·rw [if_neg h0]
set_option maxRecDepth 100000 in
set_option maxHeartbeats 800000 in
theorem number_any (w0 w : World) (g : Nat) (s : Rdr) (h : RdAt w0 w g s) : Calls Tryz.prog 356 #[.pointer (some ⟨g, 0, none⟩)] w (NumPost w0 w g (numR s).1 (numR s).2) := by
 have HS := Lib.hid h
 obtain ⟨A, c, h1, h2, h3, h4⟩ := h
 obtain ⟨x0, x1, f0, f1⟩ := two_cells h1
 obtain ⟨l, hl⟩ : ∃ l, s.1.length = l := ⟨_, rfl⟩
 obtain ⟨A', c', hv, hlc, hcm, _⟩ := h2.len
 injection hv with e1 e2 e3
 subst e1 e3
 unfold maxLen at hcm
 clear e2
 obtain ⟨⟨a, b, k⟩, hr⟩ : ∃ p, getR s.1 ((0 : Nat) : Int) = p := ⟨_, rfl⟩
 have HRR := Lib.hid hr
 have H1 := Lib.hid h1
 have H2 := Lib.hid h2
 have H3 := Lib.hid h3
 have H4 := Lib.hid h4
 have HL := Lib.hid hl
 rw [hl] at x0 hlc
 clear h1 h2 h3 h4 hl hr
 have HSL : Hid (Sl w (.slice A l c) s.1) := by have := H2.out.below H4.out; rw [HL.out] at this; exact this
 by_cases hk : k = 0
 ·subst hk
  obtain ⟨n, m, rfl, rfl, hm, hnum⟩ := numR_ok HRR.out
  rw [HL.out] at hm
  have HN := Lib.hid hnum
  have hbk := fun W : World => run_back A l c m hm W
  have HBK : Hid (Sl w0 (.slice (if c = m then A else A.map (·.add m)) (l - m) (c - m)) (s.1.drop m)) := by have := sl_back H2.out m (by rw [HL.out]; exact hm); rw [HL.out] at this; exact this
  obtain ⟨A2, hA2⟩ : ∃ A2, (if c = m then A else A.map (·.add m)) = A2 := ⟨_, rfl⟩
  rw [hA2] at hbk HBK
  clear hA2 hnum
  rw [HN.out]
  have HU : Hid (Upd g w (w.setCell ⟨g, 0, none⟩ (.slice A2 (l - m) (c - m)))) := (Upd.refl g w).set_ 0 _
  have HD : Hid (RdAt w0 (w.setCell ⟨g, 0, none⟩ (.slice A2 (l - m) (c - m))) g (s.1.drop m, s.2)) := by
   have hdl : (s.1.drop m).length = l - m := by rw [List.length_drop, HL.out]
   refine ⟨A2, c - m, ?_, by show Sl w0 (.slice A2 (s.1.drop m).length (c - m)) (s.1.drop m); rw [hdl]; exact HBK.out, H3.out, H4.out.trans (HU.out.below H3.out H4.out.size)⟩
   show Blk _ g _ #[.slice A2 (s.1.drop m).length (c - m), .bool s.2]
   rw [hdl]
   have := H1.out.set_ 0 (.slice A2 (l - m) (c - m))
   simpa using this
  go_enter Tryz.func356, Tryz.ntmps356
  go_wp2_with fail
  refine (get_any _ s.1 0 _ _ _ w HSL.out HRR.out).mono ?_
  rintro e w1 ⟨rfl, rfl⟩
  go_wp2_with fail
  go_ret
  exact ⟨rfl, HD.out, HU.out⟩
 ·have HN := Lib.hid (numR_bad HRR.out hk)
  have ek : (k == 0) = false := beq_eq_false_iff_ne.2 hk
  clear hk
  rw [HN.out]
  go_enter Tryz.func356, Tryz.ntmps356
  go_wp2_with fail
  refine (get_any _ s.1 0 _ _ _ w HSL.out HRR.out).mono ?_
  rintro e w1 ⟨rfl, rfl⟩
  go_wp2_with fail
  refine (fail_any w0 w g _ HS.out).mono ?_
  rintro e w2 ⟨rfl, hr2, hu2⟩
  have HR2 := Lib.hid hr2
  have HU2 := Lib.hid hu2
  clear hr2 hu2 x0 x1 f0 f1
  go_wp2_with fail
  go_ret
  exact ⟨rfl, HR2.out, HU2.out⟩
set_option maxRecDepth 100000 in
set_option maxHeartbeats 800000 in
theorem text_any (w0 w : World) (g : Nat) (s : Rdr) (h : RdAt w0 w g s) : Calls Tryz.prog 357 #[.pointer (some ⟨g, 0, none⟩)] w (TxtPost w0 w g (textR s).1 (textR s).2) := by
 have HS := Lib.hid h
 clear h
 unfold textR
 go_enter Tryz.func357, Tryz.ntmps357
 go_wp2_with fail
 refine (number_any w0 w g s HS.out).mono ?_
 rintro e w1 ⟨rfl, hr1, hu1⟩
 have HR1 := Lib.hid hr1
 have HU1 := Lib.hid hu1
 clear hr1 hu1
 go_wp2_with fail
 refine (take_any w0 w1 g _ _ HR1.out).mono ?_
 rintro e w2 ⟨u, rfl, hu, hr2, hu2⟩
 have HR2 := Lib.hid hr2
 have HU2 := Lib.hid (HU1.out.trans hu2)
 obtain ⟨_, _, _, _, _, h4⟩ := hr2
 obtain ⟨A, c, rfl, _, _, hI, hA⟩ := hu.below h4
 have hc := conv_str w2 A _ c hI hA
 clear hu hu2 h4 hI hA
 go_wp2_with fail
 go_ret
 exact ⟨rfl, HR2.out, HU2.out⟩
set_option maxRecDepth 100000 in
set_option maxHeartbeats 800000 in
theorem hash_any (w0 w : World) (g : Nat) (s : Rdr) (h : RdAt w0 w g s) : Calls Tryz.prog 358 #[.pointer (some ⟨g, 0, none⟩)] w (TxtPost w0 w g (hashR s).1 (hashR s).2) := by
 have HS := Lib.hid h
 clear h
 unfold hashR
 have hlen := (takeR_len s 32).1
 have HLN := Lib.hid hlen
 clear hlen
 go_enter Tryz.func358, Tryz.ntmps358
 go_wp2_with fail
 refine (take_any w0 w g 32 s HS.out).mono ?_
 rintro e w1 ⟨u, rfl, hu, hr1, hu1⟩
 have HR1 := Lib.hid hr1
 have HU1 := Lib.hid hu1
 obtain ⟨_, _, _, _, _, h4⟩ := hr1
 have HU := Lib.hid (hu.below h4)
 clear hu hu1 h4
 go_wp2_with fail
 refine (hex_any u _ w1 HU.out (by have := HLN.out; omega)).mono ?_
 rintro e w2 ⟨rfl, hb2⟩
 have HR2 := Lib.hid (HR1.out.below hb2)
 have HU2 := Lib.hid (HU1.out.trans (Upd.of_below hb2))
 clear hb2
 go_wp2_with fail
 go_ret
 exact ⟨rfl, HR2.out, HU2.out⟩
end Go.Proofs.YtpfjlhpahmhkhaaGreat.Ob
