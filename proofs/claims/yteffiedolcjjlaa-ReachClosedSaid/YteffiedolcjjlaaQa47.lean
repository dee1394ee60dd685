/- Texts put together: YRo9. -/
import Derived.Test.YteffiedolcjjlaaQa46
import Derived.Test.YteffiedolcjjlaaQa28
/- The document's Reader: Take, Byte, Num. -/
namespace Go.Proofs.Yteffiedolcjjlaa.Ob
open Go.RowKit Go.Proofs.Yteffiedolcjjlaa.Sh
open Go.Proofs.Yteffiedolcjjlaa.Tx (OwnV SlV sv bl nameB reads_at texts_at toList_ne')

def absR (bs : List UInt8) (p : Nat) (bad : Bool) : Rdr := if bad = true then ([], true) else (bs.drop p, false)
theorem absR_ok (bs : List UInt8) (p : Nat) : absR bs p false = (bs.drop p, false) := by unfold absR; rw [if_neg (by decide)]
/-- Block g is the document's reader, of bytes that lie in w0. -/
def RfAt (w0 w : World) (g : Nat) (s : Rdr) : Prop := ∃ A c bs p bad, Blk w g 81 #[.slice A bs.length c, .int .i64 ((p : Nat) : Int), .bool bad] ∧ Sl w0 (.slice A bs.length c) bs ∧ p ≤ bs.length ∧ bs.length ≤ 1000000 ∧ s = absR bs p bad ∧ w0.heap.size ≤ g ∧ Below w0.heap.size w0 w
theorem RfAt.below {w0 w w' : World} {g : Nat} {s : Rdr} (h : RfAt w0 w g s) (hu : Below w.heap.size w w') : RfAt w0 w' g s := by
  obtain ⟨A, c, bs, p, bad, h1, h2, h3, h4, h5, h6, h7⟩ := h
  exact ⟨A, c, bs, p, bad, h1.below hu h1.lt, h2, h3, h4, h5, h6, h7.trans (hu.mono h7.size)⟩
theorem RfAt.blk {w0 w : World} {g : Nat} {s : Rdr} (h : RfAt w0 w g s) : ∃ cs, Blk w g 81 cs := by
  obtain ⟨A, c, bs, p, bad, h1, _⟩ := h
  exact ⟨_, h1⟩
theorem RfAt.row {w0 w w1 : World} {g : Nat} {s : Rdr} (h : RfAt w0 w g s) {T : TypeId} {B sz n : Nat} {v : Value} {xs : List Value} (ho : w.ownsRow B T sz v n xs) (hT : 81 ≠ T) (hg : w.grownBy w1 v.ownBlock) (hB : w0.heap.size ≤ B) (hB2 : B ≤ w.heap.size) : RfAt w0 w1 g s := by
  obtain ⟨A, c, bs, p, bad, h1, h2, h3, h4, h5, h6, h7⟩ := h
  have hbl : Below B w w1 := (Below.refl _ _).grown hg hB2 (fun k hk => (ho.lt k hk).1)
  exact ⟨A, c, bs, p, bad, h1.grown hg (row_sep ho h1 hT), h2, h3, h4, h5, h6, h7.trans (hbl.mono hB)⟩
theorem RfAt.upd {w0 w w' : World} {g b : Nat} {s : Rdr} (h : RfAt w0 w g s) (hu : Upd b w w') (hn : g ≠ b) (hb : w0.heap.size ≤ b) : RfAt w0 w' g s := by
  obtain ⟨A, c, bs, p, bad, h1, h2, h3, h4, h5, h6, h7⟩ := h
  exact ⟨A, c, bs, p, bad, hu.blk h1 hn, h2, h3, h4, h5, h6, h7.trans (hu.below hb h7.size)⟩
theorem RfAt.set_ {w0 w : World} {g b i : Nat} {s : Rdr} {T : TypeId} {cs : Array Value} (h : RfAt w0 w g s) (hb : Blk w b T cs) (hT : T ≠ 81) (hz : w0.heap.size ≤ b) (u : Value) : RfAt w0 (w.setCell ⟨b, i, none⟩ u) g s := by
  have hn : b ≠ g := by
    obtain ⟨_, hg⟩ := h.blk
    exact Blk.ne_ hb hg hT
  exact h.upd ((Upd.refl b w).set_ i u) (fun e => hn e.symm) hz
def RTake (w0 w : World) (g : Nat) (x : List UInt8) (s : Rdr) (e : Ending) (w' : World) : Prop := ∃ u, e = .returned u ∧ Own w' w.heap.size u x ∧ RfAt w0 w' g s ∧ Upd g w w'
def RNum (w0 w : World) (g : Nat) (n : Nat) (s : Rdr) (e : Ending) (w' : World) : Prop := e = .returned (.int .i64 (n : Int)) ∧ RfAt w0 w' g s ∧ Upd g w w'
theorem three_cells {w : World} {b : Nat} {T : TypeId} {c0 c1 c2 : Value} (h : Blk w b T #[c0, c1, c2]) : w.cell? ⟨b, 0, none⟩ = some c0 ∧ w.cell? ⟨b, 1, none⟩ = some c1 ∧ w.cell? ⟨b, 2, none⟩ = some c2 ∧ w.frozen? ⟨b, 1, none⟩ = false ∧ w.frozen? ⟨b, 2, none⟩ = false := ⟨h.cell 0, h.cell 1, h.cell 2, h.frozen 1, h.frozen 2⟩
set_option maxRecDepth 100000 in
theorem run_mid (A : Option Addr) (l c p n : Nat) (h : p + n ≤ c) (w : World) :
    (Instr.slice 34 (.slice A l c) (some (.int .i64 (p : Int))) (some (.int .i64 ((p + n : Nat) : Int))) none).run Try.prog w = .ok (.slice (if c = p then A else A.map (·.add p)) n (c - p)) w := by
  rw [run_slice_lh w 34 A l c Try.underlying34 .i64 .i64 (p : Int) ((p + n : Nat) : Int) (by omega) (by omega) (by omega), size5_]
  show Result.ok (Value.slice (if c = p then A else A.map (·.add (p * 1))) (p + n - p) (c - p)) _ = _
  rw [Nat.mul_one, Nat.add_sub_cancel_left]
theorem sl_mid {w : World} {A : Option Addr} {c : Nat} {bs : List UInt8} (h : Sl w (.slice A bs.length c) bs) (p n : Nat) (hk : p + n ≤ bs.length) : Sl w (.slice (if c = p then A else A.map (·.add p)) n (c - p)) ((bs.drop p).take n) := by
  have h1 := sl_back h p (by omega)
  have hl : (bs.drop p).length = bs.length - p := List.length_drop
  rw [← hl] at h1
  have h2 := sl_front h1 n (by omega)
  obtain ⟨A', c', he, hlc, hm, hi, hn⟩ := h2
  injection he with e1 e2 e3
  refine ⟨_, _, by rw [← e2], by rw [← e2]; rw [← e2] at hlc; have := h.len; obtain ⟨_, _, hv, g1, _⟩ := this; injection hv with f1 f2 f3; omega, ?_, ?_, ?_⟩
  · obtain ⟨_, _, hv, g1, g2, _⟩ := h.len
    injection hv with f1 f2 f3
    omega
  · rw [← e1] at hi
    have : (if c - p = 0 then (if c = p then A else A.map (·.add p)) else (if c = p then A else A.map (·.add p)).map (·.add 0)) = (if c = p then A else A.map (·.add p)) := by
      split
      · rfl
      · cases (if c = p then A else A.map (·.add p)) with
        | none => rfl
        | some x => show some (x.add 0) = some x; simp [Addr.add]
    rw [this] at hi
    exact hi
  · intro hA
    rw [← e1] at hn
    refine hn ?_
    rw [hA]
    split <;> rfl
set_option maxRecDepth 100000 in
set_option maxHeartbeats 3200000 in
theorem rtake_any (w0 w : World) (g n : Nat) (s : Rdr) (h : RfAt w0 w g s) (hn : n ≤ 72057594037927936) : Calls Try.prog 50 #[.pointer (some ⟨g, 0, none⟩), .int .i64 (n : Int)] w (RTake w0 w g (takeR s n).1 (takeR s n).2) := by
  obtain ⟨A, c, bs, p, bad, h1, h2, h3, h4, rfl, h6, h7⟩ := h
  obtain ⟨x0, x1, x2, f1, f2⟩ := three_cells h1
  obtain ⟨A', c', hv, hlc, hcm, _⟩ := h2.len
  injection hv with e1 e2 e3
  subst e1 e3
  unfold maxLen at hcm
  clear e2
  obtain ⟨l, hl⟩ : ∃ l, bs.length = l := ⟨_, rfl⟩
  have H1 := Lib.hid h1
  have H2 := Lib.hid h2
  have H6 := Lib.hid h6
  have H7 := Lib.hid h7
  have HL := Lib.hid hl
  rw [hl] at x0 hlc h3 h4 H1
  have H3 := Lib.hid h3
  have H4 := Lib.hid h4
  clear h1 h2 h6 h7 hl
  have HBAD : Hid (∀ k, RfAt w0 ((w.drewN k).setCell ⟨g, 2, none⟩ (.bool true)) g ([], true) ∧ Upd g w ((w.drewN k).setCell ⟨g, 2, none⟩ (.bool true))) := fun k => by
    have hu : Upd g w ((w.drewN k).setCell ⟨g, 2, none⟩ (.bool true)) := (show Upd g w (w.drewN k) from ⟨rfl, rfl, rfl, Nat.le_refl _, fun _ _ _ => rfl⟩).set_ 2 _
    refine ⟨⟨A, c, bs, p, true, ?_, H2.out, by rw [HL.out]; exact H3.out, by rw [HL.out]; exact H4.out, rfl, H6.out, H7.out.trans (hu.below H6.out H7.out.size)⟩, hu⟩
    rw [HL.out]
    have hb : Blk (w.drewN k) g 81 #[.slice A l c, .int .i64 (p : Int), .bool bad] := H1.out
    simpa using hb.set_ 2 (.bool true)
  have n0 : ¬ ((n : Int) < 0) := by omega
  have n0' : decide ((n : Int) < 0) = false := by simp
  cases bad with
  | true =>
    have HT : Hid ((takeR (absR bs p true) n).1 = [] ∧ (takeR (absR bs p true) n).2 = ([], true)) := by
      unfold Hid absR takeR
      rw [if_pos rfl]
      split
      · exact ⟨rfl, rfl⟩
      · simp
    rw [HT.out.1, HT.out.2]
    go_enter Try.func50, Try.ntmps50
    go_wp2_with fail
    go_quiet (fail)
    go_wp2_with fail
    go_ret
    exact ⟨_, rfl, Own.nil_ _ _, (HBAD.out _).1, (HBAD.out _).2⟩
  | false =>
    obtain ⟨q, hq⟩ : ∃ q, l - p = q := ⟨_, rfl⟩
    have hqi : (l : Int) - (p : Int) = (q : Int) := by omega
    have hqw : IntKind.i64.wrap (q : Int) = (q : Int) := by rw [IntKind.wrap_i64]; omega
    have hqw2 : IntKind.i64.wrap ((l : Int) - (p : Int)) = (q : Int) := by rw [hqi]; exact hqw
    have HQ := Lib.hid hq
    have HDL : Hid ((bs.drop p).length = q) := by unfold Hid; rw [List.length_drop, HL.out, hq]
    clear hq
    by_cases hs : q < n
    · have HT : Hid ((takeR (absR bs p false) n).1 = [] ∧ (takeR (absR bs p false) n).2 = ([], true)) := by
        unfold Hid
        rw [absR_ok]
        unfold takeR
        rw [if_pos (by show (bs.drop p).length < n; rw [HDL.out]; exact hs)]
        exact ⟨rfl, rfl⟩
      rw [HT.out.1, HT.out.2]
      have d1 : decide ((q : Int) < (n : Int)) = true := by simp; omega
      have d1' : decide (q < n) = true := by simp; omega
      clear hs
      go_enter Try.func50, Try.ntmps50
      go_wp2_with fail
      go_quiet (fail)
      go_wp2_with fail
      go_ret
      exact ⟨_, rfl, Own.nil_ _ _, (HBAD.out _).1, (HBAD.out _).2⟩
    · obtain ⟨m, hm⟩ : ∃ m, p + n = m := ⟨_, rfl⟩
      have hmi : (p : Int) + (n : Int) = (m : Int) := by omega
      have hml : m ≤ l := by have := HQ.out; omega
      have hmw : IntKind.i64.wrap (m : Int) = (m : Int) := by rw [IntKind.wrap_i64]; omega
      have hmw2 : IntKind.i64.wrap ((p : Int) + (n : Int)) = (m : Int) := by rw [hmi]; exact hmw
      have hmid := fun W : World => run_mid A l c p n (by omega) W
      have HMID : Hid (Sl w0 (.slice (if c = p then A else A.map (·.add p)) n (c - p)) ((bs.drop p).take n)) := sl_mid H2.out p n (by rw [HL.out]; omega)
      rw [hm] at hmid
      obtain ⟨A2, hA2⟩ : ∃ A2, (if c = p then A else A.map (·.add p)) = A2 := ⟨_, rfl⟩
      rw [hA2] at hmid HMID
      have HT : Hid ((takeR (absR bs p false) n).1 = (bs.drop p).take n ∧ (takeR (absR bs p false) n).2 = (bs.drop m, false)) := by
        unfold Hid
        rw [absR_ok]
        unfold takeR
        rw [if_neg (by show ¬ (bs.drop p).length < n; rw [HDL.out]; exact hs)]
        refine ⟨rfl, ?_⟩
        show ((bs.drop p).drop n, false) = _
        rw [List.drop_drop, hm]
      rw [HT.out.1, HT.out.2]
      have HLN : Hid (((bs.drop p).take n).length = n) := by unfold Hid; rw [List.length_take, HDL.out]; omega
      have HNL : Hid (n ≤ 1000000) := by have h9 := H4.out; have h8 := hml; unfold Hid; omega
      have d1 : decide ((q : Int) < (n : Int)) = false := by simp; omega
      have d1' : decide (q < n) = false := by simp; omega
      have HGO : Hid (∀ k, RfAt w0 ((w.drewN k).setCell ⟨g, 1, none⟩ (.int .i64 (m : Int))) g (bs.drop m, false) ∧ Upd g w ((w.drewN k).setCell ⟨g, 1, none⟩ (.int .i64 (m : Int)))) := fun k => by
        have hu : Upd g w ((w.drewN k).setCell ⟨g, 1, none⟩ (.int .i64 (m : Int))) := (show Upd g w (w.drewN k) from ⟨rfl, rfl, rfl, Nat.le_refl _, fun _ _ _ => rfl⟩).set_ 1 _
        refine ⟨⟨A, c, bs, m, false, ?_, H2.out, by rw [HL.out]; exact hml, by rw [HL.out]; exact H4.out, rfl, H6.out, H7.out.trans (hu.below H6.out H7.out.size)⟩, hu⟩
        rw [HL.out]
        have hb : Blk (w.drewN k) g 81 #[.slice A l c, .int .i64 (p : Int), .bool false] := H1.out
        simpa using hb.set_ 1 (.int .i64 (m : Int))
      have HKEY : Hid (∀ k, Sl ((w.drewN k).setCell ⟨g, 1, none⟩ (.int .i64 (m : Int))) (.slice A2 n (c - p)) ((bs.drop p).take n) ∧ RfAt w0 ((w.drewN k).setCell ⟨g, 1, none⟩ (.int .i64 (m : Int))) g (bs.drop m, false) ∧ Upd g w ((w.drewN k).setCell ⟨g, 1, none⟩ (.int .i64 (m : Int)))) := fun k => by
        have h9 := HGO.out k
        obtain ⟨_, _, _, _, _, _, _, _, _, _, _, hbl⟩ := h9.1
        exact ⟨HMID.out.below hbl, h9⟩
      clear hs hA2 hm
      go_enter Try.func50, Try.ntmps50
      go_wp2_with fail
      go_quiet (fail)
      go_wp2_with fail
      go_quiet (fail)
      go_wp2_with fail
      refine (copyb_any (.slice A2 n (c - p)) ((bs.drop p).take n) _ (HKEY.out _).1 (by rw [HLN.out]; have := HNL.out; omega)).mono ?_
      rintro e w3 ⟨u, rfl, hu, hb⟩
      have HU := Lib.hid (Own.based hu (HKEY.out _).2.2.size)
      have HR := Lib.hid ((HKEY.out _).2.1.below hb)
      have HP := Lib.hid ((HKEY.out _).2.2.trans (Upd.of_below hb))
      clear hu hb
      go_wp2_with fail
      go_ret
      exact ⟨u, rfl, HU.out, HR.out, HP.out⟩
set_option maxRecDepth 100000 in
set_option maxHeartbeats 800000 in
theorem rbyte_any (w0 w : World) (g : Nat) (s : Rdr) (h : RfAt w0 w g s) : Calls Try.prog 52 #[.pointer (some ⟨g, 0, none⟩)] w (RNum w0 w g (octR s).1 (octR s).2) := by
  have HS := Lib.hid h
  obtain ⟨x, hx⟩ : ∃ x, (takeR s 1).1 = x := ⟨_, rfl⟩
  obtain ⟨s', hs'⟩ : ∃ s', (takeR s 1).2 = s' := ⟨_, rfl⟩
  have hlen := (takeR_len s 1).1
  rw [hx] at hlen
  have HE : Hid (octR s = ((x.headD 0).toNat, s')) := by unfold Hid; rw [octR_eq, hx, hs']
  have HX := Lib.hid hx
  have HS' := Lib.hid hs'
  clear h hx hs'
  rw [HE.out]
  go_enter Try.func52, Try.ntmps52
  go_wp2_with fail
  refine (rtake_any w0 w g 1 s HS.out (by decide)).mono ?_
  rw [HX.out, HS'.out]
  rintro e w1 ⟨u, rfl, hu, hr, hup⟩
  have HR := Lib.hid hr
  have HUP := Lib.hid hup
  cases x with
  | nil =>
    obtain ⟨A, c, rfl, _⟩ := hu.sl.len
    clear hr hup hu
    go_wp2_with fail
    go_ret
    exact ⟨rfl, HR.out, HUP.out⟩
  | cons y t =>
    have ht : t = [] := List.eq_nil_of_length_eq_zero (by rw [List.length_cons] at hlen; omega)
    subst ht
    obtain ⟨A, c, rfl, hlc, hcm, hI⟩ := hu.sl.len
    obtain ⟨ad, rfl, hc⟩ := hI.at_ 0 (by simp)
    have hc0 : w1.cell? ad = some (.int .u8 (bi y)) := by
      rw [show ad.add 0 = ad from by simp [Addr.add]] at hc
      exact hc
    have hw : IntKind.i64.wrap (bi y) = bi y := by
      have := bi_lt y
      rw [IntKind.wrap_i64]
      omega
    have HY : Hid (bi y = ((([y] : List UInt8).headD 0).toNat : Int)) := by unfold Hid bi; rfl
    unfold maxLen at hcm
    clear hup hu hI hc hr
    go_wp2_with fail
    go_ret
    exact ⟨by rw [← HY.out]; rfl, HR.out, HUP.out⟩
end Go.Proofs.Yteffiedolcjjlaa.Ob
