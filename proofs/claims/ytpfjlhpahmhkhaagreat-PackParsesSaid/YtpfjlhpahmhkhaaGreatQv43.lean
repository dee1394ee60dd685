/- Texts put together: VRo9, VRo10, VRo0, VRo11. -/
import Derived.Test.YtpfjlhpahmhkhaaGreatQv42
import Derived.Test.YtpfjlhpahmhkhaaGreatQv23
import Derived.Test.YtpfjlhpahmhkhaaGreatQv21
import Derived.Test.YtpfjlhpahmhkhaaGreatQv25
/- The document's Reader: Take, Byte, Num. -/
namespace Go.Proofs.YtpfjlhpahmhkhaaGreat.Ob
open Go.RowKit Go.Proofs.YtpfjlhpahmhkhaaGreat.Sh
open Go.Proofs.YtpfjlhpahmhkhaaGreat.Tx (OwnV SlV sv bl nameB reads_at texts_at toList_ne')
def absR (bs : List UInt8) (p : Nat) (bad : Bool) : Rdr := if bad = true then ([], true) else (bs.drop p, false)
theorem absR_ok (bs : List UInt8) (p : Nat) : absR bs p false = (bs.drop p, false) := by unfold absR; rw [if_neg (by decide)]
def RfAt (w0 w : World) (g : Nat) (s : Rdr) : Prop := ∃ A c bs p bad, Blk w g 297 #[.slice A bs.length c, .int .i64 ((p : Nat) : Int), .bool bad] ∧ Sl w0 (.slice A bs.length c) bs ∧ p ≤ bs.length ∧ bs.length ≤ 1000000 ∧ s = absR bs p bad ∧ w0.heap.size ≤ g ∧ Below w0.heap.size w0 w
theorem RfAt.below {w0 w w' : World} {g : Nat} {s : Rdr} (h : RfAt w0 w g s) (hu : Below w.heap.size w w') : RfAt w0 w' g s := by
 obtain ⟨A, c, bs, p, bad, h1, h2, h3, h4, h5, h6, h7⟩ := h
 exact ⟨A, c, bs, p, bad, h1.below hu h1.lt, h2, h3, h4, h5, h6, h7.trans (hu.mono h7.size)⟩
theorem RfAt.blk {w0 w : World} {g : Nat} {s : Rdr} (h : RfAt w0 w g s) : ∃ cs, Blk w g 297 cs := by
 obtain ⟨A, c, bs, p, bad, h1, _⟩ := h
 exact ⟨_, h1⟩
theorem RfAt.row {w0 w w1 : World} {g : Nat} {s : Rdr} (h : RfAt w0 w g s) {T : TypeId} {B sz n : Nat} {v : Value} {xs : List Value} (ho : w.ownsRow B T sz v n xs) (hT : 297 ≠ T) (hg : w.grownBy w1 v.ownBlock) (hB : w0.heap.size ≤ B) (hB2 : B ≤ w.heap.size) : RfAt w0 w1 g s := by
 obtain ⟨A, c, bs, p, bad, h1, h2, h3, h4, h5, h6, h7⟩ := h
 have hbl : Below B w w1 := (Below.refl _ _).grown hg hB2 (fun k hk => (ho.lt k hk).1)
 exact ⟨A, c, bs, p, bad, h1.grown hg (row_sep ho h1 hT), h2, h3, h4, h5, h6, h7.trans (hbl.mono hB)⟩
theorem RfAt.upd {w0 w w' : World} {g b : Nat} {s : Rdr} (h : RfAt w0 w g s) (hu : Upd b w w') (hn : g ≠ b) (hb : w0.heap.size ≤ b) : RfAt w0 w' g s := by
 obtain ⟨A, c, bs, p, bad, h1, h2, h3, h4, h5, h6, h7⟩ := h
 exact ⟨A, c, bs, p, bad, hu.blk h1 hn, h2, h3, h4, h5, h6, h7.trans (hu.below hb h7.size)⟩
theorem RfAt.set_ {w0 w : World} {g b i : Nat} {s : Rdr} {T : TypeId} {cs : Array Value} (h : RfAt w0 w g s) (hb : Blk w b T cs) (hT : T ≠ 297) (hz : w0.heap.size ≤ b) (u : Value) : RfAt w0 (w.setCell ⟨b, i, none⟩ u) g s := by
 have hn : b ≠ g := by
  obtain ⟨_, hg⟩ := h.blk
  exact Blk.ne_ hb hg hT
 exact h.upd ((Upd.refl b w).set_ i u) (fun e => hn e.symm) hz
def RTake (w0 w : World) (g : Nat) (x : List UInt8) (s : Rdr) (e : Ending) (w' : World) : Prop := ∃ u, e = .returned u ∧ Own w' w.heap.size u x ∧ RfAt w0 w' g s ∧ Upd g w w'
def RNum (w0 w : World) (g : Nat) (n : Nat) (s : Rdr) (e : Ending) (w' : World) : Prop := e = .returned (.int .i64 (n : Int)) ∧ RfAt w0 w' g s ∧ Upd g w w'
theorem three_cells {w : World} {b : Nat} {T : TypeId} {c0 c1 c2 : Value} (h : Blk w b T #[c0, c1, c2]) : w.cell? ⟨b, 0, none⟩ = some c0 ∧ w.cell? ⟨b, 1, none⟩ = some c1 ∧ w.cell? ⟨b, 2, none⟩ = some c2 ∧ w.frozen? ⟨b, 1, none⟩ = false ∧ w.frozen? ⟨b, 2, none⟩ = false := ⟨h.cell 0, h.cell 1, h.cell 2, h.frozen 1, h.frozen 2⟩
set_option maxRecDepth 100000 in
theorem run_mid (A : Option Addr) (l c p n : Nat) (h : p + n ≤ c) (w : World) :
  (Instr.slice 32 (.slice A l c) (some (.int .i64 (p : Int))) (some (.int .i64 ((p + n : Nat) : Int))) none).run Tryz.prog w = .ok (.slice (if c = p then A else A.map (·.add p)) n (c - p)) w := by
 rw [run_slice_lh w 32 A l c Tryz.underlying32 .i64 .i64 (p : Int) ((p + n : Nat) : Int) (by omega) (by omega) (by omega), size5_]
 show Result.ok (Value.slice (if c = p then A else A.map (·.add (p * 1))) (p + n - p) (c - p)) _ = _
 rw [Nat.mul_one, Nat.add_sub_cancel_left]
theorem sl_mid {w : World} {A : Option Addr} {c : Nat} {bs : List UInt8} (h : Sl w (.slice A bs.length c) bs) (p n : Nat) (hk : p + n ≤ bs.length) : Sl w (.slice (if c = p then A else A.map (·.add p)) n (c - p)) ((bs.drop p).take n) := by
 have h1 := sl_back h p (by omega)
 have hl : (bs.drop p).length = bs.length - p := List.length_drop
 rw [← hl] at h1
 have h2 := sl_front h1 n (by omega)
 obtain ⟨A', c', he, hlc, hm, hi, hn⟩ := h2
 injection he with e1 e2 e3
 refine ⟨_, _, by rw [← e2], by rw [← e2]; rw [← e2] at hlc; have := h.len; obtain ⟨_, _, hv, g1, _⟩ := this; injection hv with f1 f2 f3; omega, ?_, ?_, ?_⟩
 ·obtain ⟨_, _, hv, g1, g2, _⟩ := h.len
  injection hv with f1 f2 f3
  omega
 ·rw [← e1] at hi
  have : (if c - p = 0 then (if c = p then A else A.map (·.add p)) else (if c = p then A else A.map (·.add p)).map (·.add 0)) = (if c = p then A else A.map (·.add p)) := by
   split
   ·rfl
   ·cases (if c = p then A else A.map (·.add p)) with
    | none => rfl
    | some x => show some (x.add 0) = some x; simp [Addr.add]
  rw [this] at hi
  exact hi
 ·intro hA
  rw [← e1] at hn
  refine hn ?_
  rw [hA]
  split <;> rfl
set_option maxRecDepth 100000 in
set_option maxHeartbeats 3200000 in
theorem rtake_any (w0 w : World) (g n : Nat) (s : Rdr) (h : RfAt w0 w g s) (hn : n ≤ 72057594037927936) : Calls Tryz.prog 205 #[.pointer (some ⟨g, 0, none⟩), .int .i64 (n : Int)] w (RTake w0 w g (takeR s n).1 (takeR s n).2) := by
 obtain ⟨A, c, bs, p, bad, h1, h2, h3, h4, rfl, h6, h7⟩ := h
 obtain ⟨x0, x1, x2, f1, f2⟩ := three_cells h1
 obtain ⟨A', c', hv, hlc, hcm, _⟩ := h2.len
 injection hv with e1 e2 e3
 subst e1 e3
 unfold maxLen at hcm
 clear e2
 obtain ⟨l, hl⟩ : ∃ l, bs.length = l := ⟨_, rfl⟩
 have H1 := Lib.hid h1
 have H2 := Lib.hid h2
 have H6 := Lib.hid h6
 have H7 := Lib.hid h7
 have HL := Lib.hid hl
 rw [hl] at x0 hlc h3 h4 H1
 have H3 := Lib.hid h3
 have H4 := Lib.hid h4
 clear h1 h2 h6 h7 hl
 have HBAD : Hid (∀ k, RfAt w0 ((w.drewN k).setCell ⟨g, 2, none⟩ (.bool true)) g ([], true) ∧ Upd g w ((w.drewN k).setCell ⟨g, 2, none⟩ (.bool true))) := fun k => by
  have hu : Upd g w ((w.drewN k).setCell ⟨g, 2, none⟩ (.bool true)) := (show Upd g w (w.drewN k) from ⟨rfl, rfl, rfl, Nat.le_refl _, fun _ _ _ => rfl⟩).set_ 2 _
  refine ⟨⟨A, c, bs, p, true, ?_, H2.out, by rw [HL.out]; exact H3.out, by rw [HL.out]; exact H4.out, rfl, H6.out, H7.out.trans (hu.below H6.out H7.out.size)⟩, hu⟩
  rw [HL.out]
  have hb : Blk (w.drewN k) g 297 #[.slice A l c, .int .i64 (p : Int), .bool bad] := H1.out
  simpa using hb.set_ 2 (.bool true)
 have n0 : ¬ ((n : Int) < 0) := by omega
 have n0' : decide ((n : Int) < 0) = false := by simp
 cases bad with
 | true =>
  have HT : Hid ((takeR (absR bs p true) n).1 = [] ∧ (takeR (absR bs p true) n).2 = ([], true)) := by
   unfold Hid absR takeR
   rw [if_pos rfl]
   split
   ·exact ⟨rfl, rfl⟩
   ·simp
  rw [HT.out.1, HT.out.2]
  go_enter Tryz.func205, Tryz.ntmps205
  go_wp2_with fail
  go_quiet (fail)
  go_wp2_with fail
  go_ret
  exact ⟨_, rfl, Own.nil_ _ _, (HBAD.out _).1, (HBAD.out _).2⟩
 | false =>
  obtain ⟨q, hq⟩ : ∃ q, l - p = q := ⟨_, rfl⟩
  have hqi : (l : Int) - (p : Int) = (q : Int) := by omega
  have hqw : IntKind.i64.wrap (q : Int) = (q : Int) := by rw [IntKind.wrap_i64]; omega
  have hqw2 : IntKind.i64.wrap ((l : Int) - (p : Int)) = (q : Int) := by rw [hqi]; exact hqw
  have HQ := Lib.hid hq
  have HDL : Hid ((bs.drop p).length = q) := by unfold Hid; rw [List.length_drop, HL.out, hq]
  clear hq
  by_cases hs : q < n
  ·have HT : Hid ((takeR (absR bs p false) n).1 = [] ∧ (takeR (absR bs p false) n).2 = ([], true)) := by
    unfold Hid
    rw [absR_ok]
    unfold takeR
    rw [if_pos (by show (bs.drop p).length < n; rw [HDL.out]; exact hs)]
    exact ⟨rfl, rfl⟩
   rw [HT.out.1, HT.out.2]
   have d1 : decide ((q : Int) < (n : Int)) = true := by simp; omega
   have d1' : decide (q < n) = true := by simp; omega
   clear hs
   go_enter Tryz.func205, Tryz.ntmps205
   go_wp2_with fail
   go_quiet (fail)
   go_wp2_with fail
   go_ret
   exact ⟨_, rfl, Own.nil_ _ _, (HBAD.out _).1, (HBAD.out _).2⟩
  ·obtain ⟨m, hm⟩ : ∃ m, p + n = m := ⟨_, rfl⟩
   have hmi : (p : Int) + (n : Int) = (m : Int) := by omega
   have hml : m ≤ l := by have := HQ.out; omega
   have hmw : IntKind.i64.wrap (m : Int) = (m : Int) := by rw [IntKind.wrap_i64]; omega
   have hmw2 : IntKind.i64.wrap ((p : Int) + (n : Int)) = (m : Int) := by rw [hmi]; exact hmw
   have hmid := fun W : World => run_mid A l c p n (by omega) W
   have HMID : Hid (Sl w0 (.slice (if c = p then A else A.map (·.add p)) n (c - p)) ((bs.drop p).take n)) := sl_mid H2.out p n (by rw [HL.out]; omega)
   rw [hm] at hmid
   obtain ⟨A2, hA2⟩ : ∃ A2, (if c = p then A else A.map (·.add p)) = A2 := ⟨_, rfl⟩
   rw [hA2] at hmid HMID
   have HT : Hid ((takeR (absR bs p false) n).1 = (bs.drop p).take n ∧ (takeR (absR bs p false) n).2 = (bs.drop m, false)) := by
    unfold Hid
    rw [absR_ok]
    unfold takeR
    rw [if_neg (by show ¬ (bs.drop p).length < n; rw [HDL.out]; exact hs)]
    refine ⟨rfl, ?_⟩
    show ((bs.drop p).drop n, false) = _
    rw [List.drop_drop, hm]
   rw [HT.out.1, HT.out.2]
   have HLN : Hid (((bs.drop p).take n).length = n) := by unfold Hid; rw [List.length_take, HDL.out]; omega
   have HNL : Hid (n ≤ 1000000) := by have h9 := H4.out; have h8 := hml; unfold Hid; omega
   have d1 : decide ((q : Int) < (n : Int)) = false := by simp; omega
   have d1' : decide (q < n) = false := by simp; omega
   have HGO : Hid (∀ k, RfAt w0 ((w.drewN k).setCell ⟨g, 1, none⟩ (.int .i64 (m : Int))) g (bs.drop m, false) ∧ Upd g w ((w.drewN k).setCell ⟨g, 1, none⟩ (.int .i64 (m : Int)))) := fun k => by
    have hu : Upd g w ((w.drewN k).setCell ⟨g, 1, none⟩ (.int .i64 (m : Int))) := (show Upd g w (w.drewN k) from ⟨rfl, rfl, rfl, Nat.le_refl _, fun _ _ _ => rfl⟩).set_ 1 _
    refine ⟨⟨A, c, bs, m, false, ?_, H2.out, by rw [HL.out]; exact hml, by rw [HL.out]; exact H4.out, rfl, H6.out, H7.out.trans (hu.below H6.out H7.out.size)⟩, hu⟩
    rw [HL.out]
    have hb : Blk (w.drewN k) g 297 #[.slice A l c, .int .i64 (p : Int), .bool false] := H1.out
    simpa using hb.set_ 1 (.int .i64 (m : Int))
   have HKEY : Hid (∀ k, Sl ((w.drewN k).setCell ⟨g, 1, none⟩ (.int .i64 (m : Int))) (.slice A2 n (c - p)) ((bs.drop p).take n) ∧ RfAt w0 ((w.drewN k).setCell ⟨g, 1, none⟩ (.int .i64 (m : Int))) g (bs.drop m, false) ∧ Upd g w ((w.drewN k).setCell ⟨g, 1, none⟩ (.int .i64 (m : Int)))) := fun k => by
    have h9 := HGO.out k
    obtain ⟨_, _, _, _, _, _, _, _, _, _, _, hbl⟩ := h9.1
    exact ⟨HMID.out.below hbl, h9⟩
   clear hs hA2 hm
   go_enter Tryz.func205, Tryz.ntmps205
   go_wp2_with fail
   go_quiet (fail)
   go_wp2_with fail
   go_quiet (fail)
   go_wp2_with fail
   refine (copyb_any (.slice A2 n (c - p)) ((bs.drop p).take n) _ (HKEY.out _).1 (by rw [HLN.out]; have := HNL.out; omega)).mono ?_
   rintro e w3 ⟨u, rfl, hu, hb⟩
   have HU := Lib.hid (Own.based hu (HKEY.out _).2.2.size)
   have HR := Lib.hid ((HKEY.out _).2.1.below hb)
   have HP := Lib.hid ((HKEY.out _).2.2.trans (Upd.of_below hb))
   clear hu hb
   go_wp2_with fail
   go_ret
   exact ⟨u, rfl, HU.out, HR.out, HP.out⟩
set_option maxRecDepth 100000 in
set_option maxHeartbeats 800000 in
theorem rbyte_any (w0 w : World) (g : Nat) (s : Rdr) (h : RfAt w0 w g s) : Calls Tryz.prog 207 #[.pointer (some ⟨g, 0, none⟩)] w (RNum w0 w g (octR s).1 (octR s).2) := by
 have HS := Lib.hid h
 obtain ⟨x, hx⟩ : ∃ x, (takeR s 1).1 = x := ⟨_, rfl⟩
 obtain ⟨s', hs'⟩ : ∃ s', (takeR s 1).2 = s' := ⟨_, rfl⟩
 have hlen := (takeR_len s 1).1
 rw [hx] at hlen
 have HE : Hid (octR s = ((x.headD 0).toNat, s')) := by unfold Hid; rw [octR_eq, hx, hs']
 have HX := Lib.hid hx
 have HS' := Lib.hid hs'
 clear h hx hs'
 rw [HE.out]
 go_enter Tryz.func207, Tryz.ntmps207
 go_wp2_with fail
 refine (rtake_any w0 w g 1 s HS.out (by decide)).mono ?_
 rw [HX.out, HS'.out]
 rintro e w1 ⟨u, rfl, hu, hr, hup⟩
 have HR := Lib.hid hr
 have HUP := Lib.hid hup
 cases x with
 | nil =>
  obtain ⟨A, c, rfl, _⟩ := hu.sl.len
  clear hr hup hu
  go_wp2_with fail
  go_ret
  exact ⟨rfl, HR.out, HUP.out⟩
 | cons y t =>
  have ht : t = [] := List.eq_nil_of_length_eq_zero (by rw [List.length_cons] at hlen; omega)
  subst ht
  obtain ⟨A, c, rfl, hlc, hcm, hI⟩ := hu.sl.len
  obtain ⟨ad, rfl, hc⟩ := hI.at_ 0 (by simp)
  have hc0 : w1.cell? ad = some (.int .u8 (bi y)) := by
   rw [show ad.add 0 = ad from by simp [Addr.add]] at hc
   exact hc
  have hw : IntKind.i64.wrap (bi y) = bi y := by
   have := bi_lt y
   rw [IntKind.wrap_i64]
   omega
  have HY : Hid (bi y = ((([y] : List UInt8).headD 0).toNat : Int)) := by unfold Hid bi; rfl
  unfold maxLen at hcm
  clear hup hu hI hc hr
  go_wp2_with fail
  go_ret
  exact ⟨by rw [← HY.out]; rfl, HR.out, HUP.out⟩
end Go.Proofs.YtpfjlhpahmhkhaaGreat.Ob
/- The document's Reader: Num. -/
namespace Go.Proofs.YtpfjlhpahmhkhaaGreat.Ob
open Go.RowKit Go.Proofs.YtpfjlhpahmhkhaaGreat.Sh
open Go.Proofs.YtpfjlhpahmhkhaaGreat.Tx (OwnV SlV sv bl nameB reads_at texts_at toList_ne')
theorem numA_ok {bs : List UInt8} {p : Nat} (hp : p ≤ bs.length) {a b : Int} (h : getR bs (p : Int) = (a, b, 0)) : ∃ n m : Nat, a = n ∧ b = m ∧ m ≤ bs.length ∧ numR (bs.drop p, false) = (n, (bs.drop m, false)) := by
 rw [getR_in hp] at h
 by_cases h0 : (getE (bs.drop p)).2.2 = 0
 ·rw [if_pos h0] at h
  injection h with h1 h
  injection h with h2 _
  refine ⟨(getE (bs.drop p)).1, p + (getE (bs.drop p)).2.1, h1.symm, by rw [← h2]; simp, ?_, ?_⟩
  ·have hl : (bs.drop p).length = bs.length - p := List.length_drop
   unfold getE at h0 ⊢
   split at h0
   ·cases h0
   ·rename_i hne
    have := cont_le (bs.drop p)
    rw [if_neg hne]
    split
    ·show p + (cont (bs.drop p) + 1) ≤ bs.length; omega
    ·show p + 0 ≤ bs.length; omega
  ·unfold numR
   rw [if_pos h0]
   show ((getE (bs.drop p)).1, ((bs.drop p).drop (getE (bs.drop p)).2.1, false)) = _
   rw [List.drop_drop]
 ·rw [if_neg h0] at h
  injection h with h1 h
  injection h with h2 h3
  exfalso
  exact h0 (by omega)
theorem numA_bad {bs : List UInt8} {p : Nat} (hp : p ≤ bs.length) {a b c : Int} (h : getR bs (p : Int) = (a, b, c)) (hc : c ≠ 0) : numR (bs.drop p, false) = (0, ([], true)) := by
 rw [getR_in hp] at h
 unfold numR
 by_cases h0 : (getE (bs.drop p)).2.2 = 0
 ·rw [if_pos h0] at h
  injection h with h1 h
  injection h with h2 h3
  exact absurd h3.symm hc
 ·rw [if_neg h0]
theorem numR_failed : numR ([], true) = (0, ([], true)) := by
 unfold numR
 split
 ·rename_i h
  revert h
  decide
 ·rfl
set_option maxRecDepth 100000 in
set_option maxHeartbeats 3200000 in
theorem rnum_any (w0 w : World) (g : Nat) (s : Rdr) (h : RfAt w0 w g s) : Calls Tryz.prog 206 #[.pointer (some ⟨g, 0, none⟩)] w (RNum w0 w g (numR s).1 (numR s).2) := by
 obtain ⟨A, c, bs, p, bad, h1, h2, h3, h4, rfl, h6, h7⟩ := h
 obtain ⟨x0, x1, x2, f1, f2⟩ := three_cells h1
 obtain ⟨l, hl⟩ : ∃ l, bs.length = l := ⟨_, rfl⟩
 obtain ⟨⟨a, b, k⟩, hr⟩ : ∃ q, getR bs (p : Int) = q := ⟨_, rfl⟩
 have HRR := Lib.hid hr
 have H1 := Lib.hid h1
 have H2 := Lib.hid h2
 have H3 := Lib.hid h3
 have H4 := Lib.hid h4
 have H6 := Lib.hid h6
 have H7 := Lib.hid h7
 have HL := Lib.hid hl
 rw [hl] at x0
 clear h1 h2 h3 h4 h6 h7 hl hr
 have HSL : Hid (∀ W, Below w.heap.size w W → Sl W (.slice A l c) bs) := fun W hW => by
  have := H2.out.below (H7.out.trans (hW.mono H7.out.size))
  rw [HL.out] at this
  exact this
 have HFIN : Hid (∀ W (q : Nat) (bd : Bool) (i : Nat) (u : Value), Below w.heap.size w W → (i = 2 ∧ u = .bool bd ∧ q = p ∨ i = 1 ∧ u = .int .i64 (q : Int) ∧ bd = bad) → q ≤ l → RfAt w0 (W.setCell ⟨g, i, none⟩ u) g (absR bs q bd) ∧ Upd g w (W.setCell ⟨g, i, none⟩ u)) := fun W q bd i u hW hc hq => by
  have hu : Upd g w (W.setCell ⟨g, i, none⟩ u) := (Upd.of_below hW).set_ i u
  refine ⟨⟨A, c, bs, q, bd, ?_, H2.out, by rw [HL.out]; exact hq, H4.out, rfl, H6.out, H7.out.trans (hu.below H6.out H7.out.size)⟩, hu⟩
  have hb := H1.out.below hW H1.out.lt
  rcases hc with ⟨rfl, rfl, rfl⟩ | ⟨rfl, rfl, rfl⟩
  ·simpa using hb.set_ 2 (.bool bd)
  ·simpa using hb.set_ 1 (.int .i64 (q : Int))
 have HCL : Hid (∀ W, Below w.heap.size w W → W.cell? ⟨g, 0, none⟩ = some (.slice A l c) ∧ W.cell? ⟨g, 1, none⟩ = some (.int .i64 (p : Int)) ∧ W.cell? ⟨g, 2, none⟩ = some (.bool bad) ∧ W.frozen? ⟨g, 1, none⟩ = false ∧ W.frozen? ⟨g, 2, none⟩ = false) := fun W hW => by
  have hb := H1.out.below hW H1.out.lt
  rw [HL.out] at hb
  exact three_cells hb
 have hpl : p ≤ l := by rw [← HL.out]; exact H3.out
 have HPL := Lib.hid hpl
 have k00 : (0 : Int) ≤ (p : Int) := by omega
 clear hpl x0 x1 x2 f1 f2
 have go1 : ∀ (t : Bool), (bad = t) → Calls Tryz.prog 206 #[.pointer (some ⟨g, 0, none⟩)] w (RNum w0 w g (numR (absR bs p bad)).1 (numR (absR bs p bad)).2) := by
  intro t ht
  subst ht
  cases bad with
  | true =>
   have HT : Hid (numR (absR bs p true) = (0, ([], true))) := numR_failed
   rw [HT.out]
   go_enter Tryz.func206, Tryz.ntmps206
   go_wp2_with fail
   go_region_held3 (fun W : World => W.cell? ⟨g, 0, none⟩ = some (.slice A l c) ∧ W.cell? ⟨g, 1, none⟩ = some (.int .i64 (p : Int)))
    (first | exact ⟨(HCL.out _ HB3.out).1, (HCL.out _ HB3.out).2.1⟩ | exact ⟨(HCL.out _ (Below.refl _ _).drew).1, (HCL.out _ (Below.refl _ _).drew).2.1⟩)
    (first | (go_at_call 188; refine (rget_any _ bs _ a b k _ (HSL.out _ (Below.refl _ _).drew) HRR.out).mono ?_; rintro e w3 ⟨rfl, hb3⟩; have HB3 := Lib.hid (show Below w.heap.size w w3 from ⟨hb3.os, hb3.tape, hb3.output, hb3.size, hb3.block⟩); clear hb3))
   obtain ⟨y0, y1, y2, f1, f2⟩ := HCL.out _ HB3.out
   go_wp2_with fail
   go_ret
   have h9 := HFIN.out w3 p true 2 (.bool true) HB3.out (.inl ⟨rfl, rfl, rfl⟩) HPL.out
   exact ⟨rfl, h9.1, h9.2⟩
  | false =>
   rw [absR_ok]
   by_cases hk : k = 0
   ·subst hk
    obtain ⟨n, m, rfl, rfl, hm, hnum⟩ := numA_ok H3.out HRR.out
    rw [HL.out] at hm
    have HN := Lib.hid hnum
    have HM := Lib.hid hm
    clear hnum hm
    rw [HN.out]
    go_enter Tryz.func206, Tryz.ntmps206
    go_wp2_with fail
    go_region_held3 (fun W : World => W.cell? ⟨g, 0, none⟩ = some (.slice A l c) ∧ W.cell? ⟨g, 1, none⟩ = some (.int .i64 (p : Int)))
     (first | exact ⟨(HCL.out _ HB3.out).1, (HCL.out _ HB3.out).2.1⟩ | exact ⟨(HCL.out _ (Below.refl _ _).drew).1, (HCL.out _ (Below.refl _ _).drew).2.1⟩)
     (first | (go_at_call 188; refine (rget_any _ bs _ n m 0 _ (HSL.out _ (Below.refl _ _).drew) HRR.out).mono ?_; rintro e w3 ⟨rfl, hb3⟩; have HB3 := Lib.hid (show Below w.heap.size w w3 from ⟨hb3.os, hb3.tape, hb3.output, hb3.size, hb3.block⟩); clear hb3))
    obtain ⟨y0, y1, y2, f1, f2⟩ := HCL.out _ HB3.out
    go_wp2_with fail
    go_ret
    have h9 := HFIN.out w3 m false 1 (.int .i64 (m : Int)) HB3.out (.inr ⟨rfl, rfl, rfl⟩) HM.out
    rw [absR_ok] at h9
    exact ⟨rfl, h9.1, h9.2⟩
   ·have HN := Lib.hid (numA_bad H3.out HRR.out hk)
    rw [HN.out]
    have ek : (k == 0) = false := beq_eq_false_iff_ne.2 hk
    have ek' : (k != 0) = true := by simpa using hk
    clear hk
    go_enter Tryz.func206, Tryz.ntmps206
    go_wp2_with fail
    go_region_held3 (fun W : World => W.cell? ⟨g, 0, none⟩ = some (.slice A l c) ∧ W.cell? ⟨g, 1, none⟩ = some (.int .i64 (p : Int)))
     (first | exact ⟨(HCL.out _ HB3.out).1, (HCL.out _ HB3.out).2.1⟩ | exact ⟨(HCL.out _ (Below.refl _ _).drew).1, (HCL.out _ (Below.refl _ _).drew).2.1⟩)
     (first | (go_at_call 188; refine (rget_any _ bs _ a b k _ (HSL.out _ (Below.refl _ _).drew) HRR.out).mono ?_; rintro e w3 ⟨rfl, hb3⟩; have HB3 := Lib.hid (show Below w.heap.size w w3 from ⟨hb3.os, hb3.tape, hb3.output, hb3.size, hb3.block⟩); clear hb3))
    obtain ⟨y0, y1, y2, f1, f2⟩ := HCL.out _ HB3.out
    go_wp2_with fail
    go_ret
    have h9 := HFIN.out w3 p true 2 (.bool true) HB3.out (.inl ⟨rfl, rfl, rfl⟩) HPL.out
    exact ⟨rfl, h9.1, h9.2⟩
 exact go1 _ rfl
end Go.Proofs.YtpfjlhpahmhkhaaGreat.Ob
/- The document's reader of objects, plain: where it takes bytes to be an object, the program does, and it is the same one. -/
namespace Go.Proofs.YtpfjlhpahmhkhaaGreat.Ob
open Go.Proofs.YtpfjlhpahmhkhaaGreat.Sh
open Go.Proofs.YtpfjlhpahmhkhaaGreat.Tx (nameB bl)
def idsR2 : Nat → Rdr → List (List UInt8) × Rdr
 | 0, s => ([], s)
 | n + 1, s => if s.2 = true then ([], s) else ((hashR s).1 :: (idsR2 n (hashR s).2).1, (idsR2 n (hashR s).2).2)
theorem idsR2_fail (n : Nat) (s : Rdr) (h : s.2 = true) : idsR2 n s = ([], s) := by
 cases n with
 | zero => rfl
 | succ n => rw [idsR2, if_pos h]
theorem idsR2_step (n : Nat) (s : Rdr) (h : s.2 = false) : idsR2 (n + 1) s = ((hashR s).1 :: (idsR2 n (hashR s).2).1, (idsR2 n (hashR s).2).2) := by
 rw [idsR2, if_neg (by rw [h]; decide)]
theorem idsR2_eq (n : Nat) : ∀ s : Rdr, (idsR n s).2.2 = false → idsR2 n s = idsR n s := by
 induction n with
 | zero => intro s _; rfl
 | succ n ih =>
  intro s h
  rw [idsR] at h
  replace h : (idsR n (hashR s).2).2.2 = false := h
  have h1 := (idsR_back n (pe _) h).1
  have h2 := (hashR_back (pe (hashR s)) h1).1
  rw [idsR2_step n s h2, ih _ h]
  rfl
theorem idsR2_len (n : Nat) : ∀ s : Rdr, (idsR2 n s).1.length ≤ n := by
 induction n with
 | zero => intro s; simp [idsR2]
 | succ n ih =>
  intro s
  rw [idsR2]
  split
  ·simp
  ·have := ih (hashR s).2
   simp only [List.length_cons]
   omega
def commP2 (t : List UInt8) (s : Rdr) : ComM × Rdr := commS t (idsR2 (octR s).1 (octR s).2).1 (idsR2 (octR s).1 (octR s).2).2
def commR2 (s : Rdr) : ComM × Rdr := commP2 (hashR s).1 (hashR s).2
theorem commS_flag {t : List UInt8} {ids : List (List UInt8)} {s : Rdr} (h : (commS t ids s).2.2 = false) : s.2 = false := by
 unfold commS at h
 obtain ⟨st, s4, e4⟩ : ∃ st s4, numR s = (st, s4) := ⟨_, _, pe _⟩
 rw [e4] at h
 unfold commA at h
 simp only at h
 obtain ⟨au, s5, e5⟩ : ∃ au s5, numR s4 = (au, s5) := ⟨_, _, pe _⟩
 rw [e5] at h
 unfold commM at h
 simp only at h
 obtain ⟨ms, s6, e6⟩ : ∃ ms s6, textR s5 = (ms, s6) := ⟨_, _, pe _⟩
 rw [e6] at h
 simp only at h
 obtain ⟨f1, _⟩ := textR_back e6 h
 obtain ⟨g1, _, _⟩ := numR_back e5 f1
 exact (numR_back e4 g1).1
theorem commR2_eq {s : Rdr} (h : (commR s).2.2 = false) : commR2 s = commR s := by
 unfold commR at h
 unfold commR commR2
 obtain ⟨t, s1, e1⟩ : ∃ t s1, hashR s = (t, s1) := ⟨_, _, pe _⟩
 rw [e1] at h ⊢
 unfold commP at h
 unfold commP commP2
 simp only at h ⊢
 obtain ⟨k, s2, e2⟩ : ∃ k s2, octR s1 = (k, s2) := ⟨_, _, pe _⟩
 rw [e2] at h ⊢
 simp only at h ⊢
 have h1 : (idsR k s2).2.2 = false := commS_flag h
 rw [idsR2_eq k s2 h1]
def objS2 (k : Nat) (s : Rdr) : ObM × Rdr :=
 if k = 1 then (⟨1, (takeR s s.1.length).1, [], [], [], 0, 0, []⟩, (takeR s s.1.length).2)
 else if k = 2 then (⟨2, [], (itemsR (numR s).1 (numR s).2).1, [], [], 0, 0, []⟩, (itemsR (numR s).1 (numR s).2).2)
 else if k = 3 then (⟨3, [], [], (commR2 s).1.tree, (commR2 s).1.parents, (commR2 s).1.stamp, (commR2 s).1.author, (commR2 s).1.msg⟩, (commR2 s).2)
 else (objK k, s)
theorem objS2_eq {k : Nat} {s : Rdr} (h : (objS k s).2.2 = false) : objS2 k s = objS k s := by
 unfold objS2 objS
 unfold objS at h
 by_cases h1 : k = 1
 ·rw [if_pos h1, if_pos h1]
  have e : takeR s s.1.length = (s.1, ([], s.2)) := by
   unfold takeR
   rw [if_neg (by omega)]
   simp
  rw [e]
 ·rw [if_neg h1] at h
  rw [if_neg h1, if_neg h1]
  by_cases h2 : k = 2
  ·rw [if_pos h2, if_pos h2]
  ·rw [if_neg h2] at h
   rw [if_neg h2, if_neg h2]
   by_cases h3 : k = 3
   ·rw [if_pos h3] at h
    simp only at h
    rw [if_pos h3, if_pos h3, commR2_eq h]
   ·rw [if_neg h3, if_neg h3]
def objR2 (b : List UInt8) : ObM × Rdr := objS2 (octR (b, false)).1 (octR (b, false)).2
def okR2 (b : List UInt8) : Bool := !(objR2 b).2.2 && mayB (objR2 b).1 && (encL (objR2 b).1 == b)
theorem objR2_of {b : List UInt8} (h : decB b = true) : objR2 b = objR b := by
 have hf : (objR b).2.2 = false := by
  unfold decB at h
  rw [Bool.and_eq_true, Bool.and_eq_true, Bool.not_eq_true'] at h
  exact h.1.1
 unfold objR at hf ⊢
 unfold objR2
 obtain ⟨k, s, hk⟩ : ∃ k s, octR (b, false) = (k, s) := ⟨_, _, pe _⟩
 rw [hk] at hf ⊢
 exact objS2_eq hf
theorem okR2_eq (b : List UInt8) : okR2 b = decB b := by
 cases hd : decB b with
 | true =>
  unfold okR2
  rw [objR2_of hd, enc_objR hd]
  unfold decB at hd
  rw [Bool.and_eq_true, Bool.and_eq_true] at hd
  rw [hd.1.1, hd.2]
  simp
 | false =>
  cases ho : okR2 b with
  | false => rfl
  | true =>
   unfold okR2 at ho
   rw [Bool.and_eq_true, Bool.and_eq_true, beq_iff_eq] at ho
   have := decB_enc ho.1.2
   rw [ho.2, hd] at this
   cases this
end Go.Proofs.YtpfjlhpahmhkhaaGreat.Ob
/- The document's Decode: what it has read so far. -/
namespace Go.Proofs.YtpfjlhpahmhkhaaGreat.Ob
open Go.RowKit Go.Proofs.YtpfjlhpahmhkhaaGreat.Sh
open Go.Proofs.YtpfjlhpahmhkhaaGreat.Tx (OwnV SlV sv bl nameB reads_at texts_at toList_ne')
/-! How great it is. -/
theorem takeR_le (s : Rdr) (n : Nat) : (takeR s n).1.length ≤ s.1.length := by
 unfold takeR
 split
 ·simp
 ·simp; omega
theorem hashR_64 (s : Rdr) : (hashR s).1.length ≤ 64 := by
 unfold hashR
 rw [hexL_length]
 have := (takeR_len s 32).1
 omega
theorem textR_le (s : Rdr) : (textR s).1.length ≤ s.1.length := by
 unfold textR
 exact Nat.le_trans (takeR_le _ _) (numR_len s)
theorem itemsR_ids (n : Nat) : ∀ (s : Rdr), ∀ x ∈ (itemsR n s).1, x.2.2.length ≤ 64 := by
 induction n with
 | zero => intro s x hx; simp [itemsR] at hx
 | succ n ih =>
  intro s x hx
  rw [itemsR] at hx
  split at hx
  ·simp at hx
  ·rcases List.mem_cons.1 hx with h | h
   ·subst h
    exact hashR_64 _
   ·exact ih _ x h
theorem itemsR_le (n : Nat) : ∀ (s : Rdr), (itemsR n s).1.length ≤ s.1.length + 1 := by
 induction n with
 | zero => intro s; simp [itemsR]
 | succ n ih =>
  intro s
  rw [itemsR]
  split
  ·simp
  ·rw [List.length_cons]
   have h1 := itemR_len s
   cases hf : (itemR s).2.2 with
   | false =>
    have := h1.2 hf
    have := ih (itemR s).2
    omega
   | true =>
    rw [itemsR_fail n _ hf]
    simp
theorem idsR2_64 (n : Nat) : ∀ (s : Rdr), ∀ x ∈ (idsR2 n s).1, x.length ≤ 64 := by
 induction n with
 | zero => intro s x hx; simp [idsR2] at hx
 | succ n ih =>
  intro s x hx
  rw [idsR2] at hx
  split at hx
  ·simp at hx
  ·rcases List.mem_cons.1 hx with h | h
   ·subst h
    exact hashR_64 _
   ·exact ih _ x h
theorem idsR2_snoc (n : Nat) : ∀ s : Rdr, (idsR2 n s).2.2 = false → idsR2 (n + 1) s = ((idsR2 n s).1 ++ [(hashR (idsR2 n s).2).1], (hashR (idsR2 n s).2).2) := by
 induction n with
 | zero =>
  intro s h
  replace h : s.2 = false := h
  rw [idsR2_step 0 s h]
  rfl
 | succ n ih =>
  intro s h
  cases hs : s.2 with
  | true =>
   rw [idsR2_fail _ s hs] at h
   rw [hs] at h
   cases h
  | false =>
   rw [idsR2_step n s hs] at h
   rw [idsR2_step (n + 1) s hs, ih _ h, idsR2_step n s hs]
   rfl
theorem idsR2_stop (n : Nat) : ∀ s : Rdr, (idsR2 n s).2.2 = true → idsR2 (n + 1) s = idsR2 n s := by
 induction n with
 | zero =>
  intro s h
  replace h : s.2 = true := h
  rw [idsR2_fail _ s h, idsR2_fail _ s h]
 | succ n ih =>
  intro s h
  cases hs : s.2 with
  | true => rw [idsR2_fail _ s hs, idsR2_fail _ s hs]
  | false =>
   rw [idsR2_step n s hs] at h
   rw [idsR2_step (n + 1) s hs, ih _ h, idsR2_step n s hs]
theorem idsR2_more {n m : Nat} (h : n ≤ m) (s : Rdr) (hf : (idsR2 n s).2.2 = true) : idsR2 m s = idsR2 n s := by
 induction m with
 | zero => rw [show n = 0 from by omega]
 | succ m ih =>
  rcases Nat.eq_or_lt_of_le h with h1 | h1
  ·rw [h1]
  ·have h2 := ih (by omega)
   rw [idsR2_stop m s (by rw [h2]; exact hf), h2]
theorem tok_read {b : List UInt8} (h : b.length ≤ 1000000) : TOk (objR2 b).1 := by
 have hk : (octR (b, false)).2.1.length ≤ 1000000 := Nat.le_trans (octR_len _) h
 unfold objR2
 generalize (octR (b, false)).1 = k at *
 generalize (octR (b, false)).2 = s at *
 unfold objS2
 by_cases h1 : k = 1
 ·rw [if_pos h1]
  exact ⟨by simp, fun x hx => by simp at hx, fun x hx => by simp at hx, by simp, by have := takeR_le s s.1.length; simp; omega, by simp⟩
 ·rw [if_neg h1]
  by_cases h2 : k = 2
  ·rw [if_pos h2]
   have hn := numR_len s
   refine ⟨by simp, fun x hx => by simp at hx, fun x hx => ?_, by simp, by simp, ?_⟩
   ·have := itemsR_ids _ _ x hx
    omega
   ·have := itemsR_le (numR s).1 (numR s).2
    show (itemsR (numR s).1 (numR s).2).1.length ≤ _
    omega
  ·rw [if_neg h2]
   by_cases h3 : k = 3
   ·rw [if_pos h3]
    have g1 := hashR_64 s
    have hil : ∀ (n : Nat) (q : Rdr), (idsR2 n q).2.1.length ≤ q.1.length := by
     intro n
     induction n with
     | zero => intro q; exact Nat.le_refl _
     | succ n ih =>
      intro q
      rw [idsR2]
      split
      ·exact Nat.le_refl _
      ·exact Nat.le_trans (ih _) (hashR_len q)
    have l1 := hashR_len s
    unfold commR2
    obtain ⟨t, s1, e1⟩ : ∃ t s1, hashR s = (t, s1) := ⟨_, _, pe _⟩
    rw [e1] at g1 l1 ⊢
    have l2 := octR_len s1
    unfold commP2
    obtain ⟨m, s2, e2⟩ : ∃ m s2, octR s1 = (m, s2) := ⟨_, _, pe _⟩
    simp only at g1 l1 ⊢
    rw [e2] at l2 ⊢
    simp only at l2 ⊢
    have g3 := idsR2_64 m s2
    have l3 := hil m s2
    obtain ⟨ids, s3, e3⟩ : ∃ ids s3, idsR2 m s2 = (ids, s3) := ⟨_, _, pe _⟩
    rw [e3] at g3 l3 ⊢
    simp only at g3 l3 ⊢
    unfold commS
    have l4 := numR_len s3
    obtain ⟨st, s4, e4⟩ : ∃ st s4, numR s3 = (st, s4) := ⟨_, _, pe _⟩
    rw [e4] at l4 ⊢
    unfold commA
    simp only at l4 ⊢
    have l5 := numR_len s4
    obtain ⟨au, s5, e5⟩ : ∃ au s5, numR s4 = (au, s5) := ⟨_, _, pe _⟩
    rw [e5] at l5 ⊢
    unfold commM
    simp only at l5 ⊢
    have l6 := textR_le s5
    obtain ⟨ms, s6, e6⟩ : ∃ ms s6, textR s5 = (ms, s6) := ⟨_, _, pe _⟩
    rw [e6] at l6 ⊢
    simp only at l6 ⊢
    refine ⟨?_, fun x hx => ?_, fun x hx => by simp at hx, ?_, by simp, by simp⟩
    ·simp only; omega
    ·have := g3 x hx
     omega
    ·simp only; omega
   ·rw [if_neg h3]
    exact ⟨by simp [objK], fun x hx => by simp [objK] at hx, fun x hx => by simp [objK] at hx, by simp [objK], by simp [objK], by simp [objK]⟩
/-! In memory. -/
theorem RfAt.flag {w0 w : World} {g : Nat} {s : Rdr} (h : RfAt w0 w g s) : w.cell? ⟨g, 2, none⟩ = some (.bool s.2) := by
 obtain ⟨A, c, bs, p, bad, h1, _, _, _, h5, _, _⟩ := h
 have := h1.cell 2
 subst h5
 cases bad <;> exact this
def zero6 : Array Value := #[.int .i64 0, .slice none 0 0, .slice none 0 0, .string ⟨#[]⟩, .slice none 0 0, .int .i64 0, .int .i64 0, .string ⟨#[]⟩]
structure OdX (w wx : World) (R b : Nat) (o : ObM) (A : Option Addr) (n c : Nat) (A2 : Option Addr) (n2 c2 : Nat) (A3 : Option Addr) (n3 c3 : Nat) : Prop where
 blk : Blk wx b 199 #[.int .i64 o.kind, .slice A n c, .slice A2 n2 c2, .string (str o.tree), .slice A3 n3 c3, .int .i64 o.stamp, .int .i64 o.author, .string (str o.msg)]
 data : Own wx w.heap.size (.slice A n c) o.data
 items : OwnI 300 wx w.heap.size (.slice A2 n2 c2) o.items
 pars : Tx.OwnV 9 wx w.heap.size (.slice A3 n3 c3) ((o.parents.map str).map Tx.sv)
 below : Below w.heap.size w wx
 res : Blk wx R 199 zero6
 apart : R ≠ b
 lowb : w.heap.size ≤ b
section
variable {w wx wy : World} {R b g : Nat} {o : ObM} {A A2 A3 : Option Addr} {n c n2 c2 n3 c3 : Nat}
theorem OdX.upd (h : OdX w wx R b o A n c A2 n2 c2 A3 n3 c3) {cs : Array Value} (hg : Blk wx g 297 cs) (hu : Upd g wx wy) (hz : w.heap.size ≤ g) : OdX w wy R b o A n c A2 n2 c2 A3 n3 c3 :=
 ⟨hu.blk h.blk (Blk.ne_ h.blk hg (by decide)), row_upd h.data hg (by decide) hu, row_upd h.items hg (by decide) hu, row_upd h.pars hg (by decide) hu, h.below.trans (hu.below hz h.below.size), hu.blk h.res (Blk.ne_ h.res hg (by decide)), h.apart, h.lowb⟩
theorem OdX.still (h : OdX w wx R b o A n c A2 n2 c2 A3 n3 c3) (hb : Below wx.heap.size wx wy) : OdX w wy R b o A n c A2 n2 c2 A3 n3 c3 :=
 ⟨h.blk.below hb h.blk.lt, h.data.below hb, h.items.below hb, Tx.OwnV.below h.pars hb, h.below.trans (hb.mono h.below.size), h.res.below hb h.res.lt, h.apart, h.lowb⟩
theorem OdX.wrote (h : OdX w wx R b o A n c A2 n2 c2 A3 n3 c3) (i : Nat) (u : Value) : Below w.heap.size w (wx.setCell ⟨b, i, none⟩ u) ∧ Own (wx.setCell ⟨b, i, none⟩ u) w.heap.size (.slice A n c) o.data ∧ OwnI 300 (wx.setCell ⟨b, i, none⟩ u) w.heap.size (.slice A2 n2 c2) o.items ∧ Tx.OwnV 9 (wx.setCell ⟨b, i, none⟩ u) w.heap.size (.slice A3 n3 c3) ((o.parents.map str).map Tx.sv) ∧ Blk (wx.setCell ⟨b, i, none⟩ u) R 199 zero6 := by
 have hu := (Upd.refl b wx).set_ i u
 exact ⟨h.below.trans (hu.below h.lowb h.below.size), row_upd h.data h.blk (by decide) hu, row_upd h.items h.blk (by decide) hu, row_upd h.pars h.blk (by decide) hu, hu.blk h.res h.apart⟩
theorem OdX.setTree (h : OdX w wx R b o A n c A2 n2 c2 A3 n3 c3) (t : List UInt8) : OdX w (wx.setCell ⟨b, 3, none⟩ (.string (str t))) R b { o with tree := t } A n c A2 n2 c2 A3 n3 c3 := by
 obtain ⟨h1, h2, h3, h4, h5⟩ := h.wrote 3 (.string (str t))
 exact ⟨by simpa using h.blk.set_ 3 (.string (str t)), h2, h3, h4, h1, h5, h.apart, h.lowb⟩
theorem OdX.setStamp (h : OdX w wx R b o A n c A2 n2 c2 A3 n3 c3) (k : Int) : OdX w (wx.setCell ⟨b, 5, none⟩ (.int .i64 k)) R b { o with stamp := k } A n c A2 n2 c2 A3 n3 c3 := by
 obtain ⟨h1, h2, h3, h4, h5⟩ := h.wrote 5 (.int .i64 k)
 exact ⟨by simpa using h.blk.set_ 5 (.int .i64 k), h2, h3, h4, h1, h5, h.apart, h.lowb⟩
theorem OdX.setAuthor (h : OdX w wx R b o A n c A2 n2 c2 A3 n3 c3) (k : Int) : OdX w (wx.setCell ⟨b, 6, none⟩ (.int .i64 k)) R b { o with author := k } A n c A2 n2 c2 A3 n3 c3 := by
 obtain ⟨h1, h2, h3, h4, h5⟩ := h.wrote 6 (.int .i64 k)
 exact ⟨by simpa using h.blk.set_ 6 (.int .i64 k), h2, h3, h4, h1, h5, h.apart, h.lowb⟩
theorem OdX.setMsg (h : OdX w wx R b o A n c A2 n2 c2 A3 n3 c3) (t : List UInt8) : OdX w (wx.setCell ⟨b, 7, none⟩ (.string (str t))) R b { o with msg := t } A n c A2 n2 c2 A3 n3 c3 := by
 obtain ⟨h1, h2, h3, h4, h5⟩ := h.wrote 7 (.string (str t))
 exact ⟨by simpa using h.blk.set_ 7 (.string (str t)), h2, h3, h4, h1, h5, h.apart, h.lowb⟩
theorem OdX.setData (h : OdX w wx R b o A n c A2 n2 c2 A3 n3 c3) {A' : Option Addr} {n' c' : Nat} {d : List UInt8} (hd : Own wx w.heap.size (.slice A' n' c') d) : OdX w (wx.setCell ⟨b, 1, none⟩ (.slice A' n' c')) R b { o with data := d } A' n' c' A2 n2 c2 A3 n3 c3 := by
 obtain ⟨h1, h2, h3, h4, h5⟩ := h.wrote 1 (.slice A' n' c')
 exact ⟨by simpa using h.blk.set_ 1 (.slice A' n' c'), row_upd hd h.blk (by decide) ((Upd.refl b wx).set_ 1 _), h3, h4, h1, h5, h.apart, h.lowb⟩
end
end Go.Proofs.YtpfjlhpahmhkhaaGreat.Ob
