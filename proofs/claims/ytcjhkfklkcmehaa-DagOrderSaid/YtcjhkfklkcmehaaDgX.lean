/- Package dag: Order. -/
import Derived.Test.YtcjhkfklkcmehaaDgW
set_option linter.unusedVariables false
set_option linter.unusedSimpArgs false
namespace Go.Proofs.Ytcjhkfklkcmehaa.Tx
open Go.RowKit Go.Maps Go.Proofs.Ytcjhkfklkcmehaa.Sh Go.Shelf Go.Lib
open Classical

/-- What Order hands back. -/
def OrdPost (w : World) (G : GR) (xs : List ByteArray) (e : Ending) (w' : World) : Prop :=
  RowKit.Below w.heap.size w w' ∧ ((allG G xs = true ∧ ∃ (v : Value) (os : List Nat), e = .returned (.tuple #[v, .int .i64 0]) ∧ OrdG G xs os ∧ OwnV 9 w' w.heap.size v ((os.map (idAt G)).map sv)) ∨ (allG G xs = false ∧ e = .returned (.tuple #[.slice none 0 0, .int .i64 7])))

set_option maxRecDepth 100000 in
set_option maxHeartbeats 3200000 in
theorem gorder_any (Z : Nat → Prop) (g : Nat) (G : GR) (v : Value) (xs : List ByteArray) (w : World) (h : GAt Z w g G) (hw : GW G) (hs : GS G) (hv : SlV w v (xs.map sv)) (hsz : ∀ s ∈ xs, s.size ≤ 1000000) (hn : xs.length ≤ 2000) :
    Calls Try.prog 29 #[.pointer (some ⟨g, 0, none⟩), v] w (OrdPost w G xs) := by
  have hlen := hs.len
  have han : (ancL (parAt G) G.length (plsL G xs)).length ≤ 2000 := Nat.le_trans anc_len hlen
  have hpl := fun (W : World) (hW : RowKit.Below w.heap.size w W) => gplaces_any Z g G v xs W (h.below hW) (hv.below hW) hsz (by omega)
  have hanc := fun (W : World) (u : Value) (hW : RowKit.Below w.heap.size w W) (hu : SlV W u ((plsL G xs).map nv)) (hall : allG G xs = true) => ganc_any Z g G u (plsL G xs) W (h.below hW) hw hs hu (pls_lt hall) (by rw [pls_len]; omega)
  have hids := fun (W : World) (u : Value) (os : List Nat) (hW : RowKit.Below w.heap.size w W) (hp : os.Perm (ancL (parAt G) G.length (plsL G xs))) (hu : SlV W u (os.map nv)) => gids_any Z g G u os W (h.below hW) hu (fun k hk => anc_all k (hp.mem_iff.1 hk)) (by rw [hp.length_eq]; omega)
  have hsort : ∀ (bg B : Nat) (u : Value) (W : World), RowKit.Below w.heap.size w W → Blk W bg 25 #[.pointer (some ⟨g, 0, none⟩)] → OwnV 3 W B u ((ancL (parAt G) G.length (plsL G xs)).map nv) → w.heap.size ≤ B → bg < B →
      Calls Try.prog 47 #[u, .func (.func 48) #[] #[.pointer (some ⟨bg, 0, none⟩)]] W fun e w' => e = .returned (.tuple #[]) ∧ ∃ os : List Nat, OwnV 3 w' B u (os.map nv) ∧ os.Perm (ancL (parAt G) G.length (plsL G xs)) ∧ os.Pairwise (befG G) ∧ RowKit.Below B W w' := by
    intro bg B u W hW hbg ho hB hbB
    obtain ⟨F, bm, vr, hx⟩ := h
    exact gsort_any Z F g bm bg B vr u G _ W (hx.below hW) hw hbg ho anc_all anc_nodup (by omega) (fun k hk => Nat.lt_of_lt_of_le (hx.zl k hk) hB) hbB
  have HPL := Lib.hid hpl
  have HANC := Lib.hid hanc
  have HIDS := Lib.hid hids
  have HSORT := Lib.hid hsort
  clear h hw hs hv hsz hn hpl hanc hids hsort han hlen
  obtain ⟨wx, hwx⟩ : ∃ wx, wx = w.alloc (.cells #[.pointer (some ⟨g, 0, none⟩)] 25) := ⟨_, rfl⟩
  have hbx : RowKit.Below w.heap.size w wx := by rw [hwx]; exact (RowKit.Below.refl _ _).alloc (Nat.le_refl _) _
  have hzx : wx.heap.size = w.heap.size + 1 := by rw [hwx]; simp
  have hblk : Blk wx w.heap.size 25 #[.pointer (some ⟨g, 0, none⟩)] := by rw [hwx]; exact Blk.new _ _ _
  have HCP := Lib.hid (HPL.out wx hbx)
  have HWX := Lib.hid hwx
  have HBX := Lib.hid hbx
  have HZX := Lib.hid hzx
  have HBLK := Lib.hid hblk
  clear hwx hbx hzx hblk
  go_enter Try.func29, Try.ntmps29
  go_wp2_with fail
  rw [← HWX.out]
  refine (HCP.out).mono ?_
  rintro e w1 ⟨hb1, ⟨hall, vp, rfl, ho1⟩ | ⟨hall, rfl⟩⟩
  case inr =>
    have HB1 := Lib.hid (HBX.out.trans (hb1.mono HBX.out.size))
    have HALL := Lib.hid hall
    clear hb1 hall
    go_wp2_with fail
    go_ret2
    exact ⟨HB1.out, .inr ⟨HALL.out, rfl⟩⟩
  have hz := HZX.out
  have HB1 := Lib.hid (HBX.out.trans (hb1.mono HBX.out.size))
  have HBLK1 := Lib.hid (HBLK.out.below hb1 (by omega))
  have cb : w1.cell? ⟨w.heap.size, 0, none⟩ = some (.pointer (some ⟨g, 0, none⟩)) := HBLK1.out.cell 0
  have HZ1 := Lib.hid (hb1.size)
  have HALL := Lib.hid hall
  have HCA := Lib.hid (HANC.out w1 vp HB1.out ho1.slv hall)
  clear hb1 hall ho1 hz
  go_wp2_with fail
  refine (HCA.out).mono ?_
  rintro e w2 ⟨v2, rfl, ho2, hb2⟩
  have hz := HZX.out
  have hz1 := HZ1.out
  have HB2 := Lib.hid (HB1.out.trans (hb2.mono HB1.out.size))
  have HBLK2 := Lib.hid (HBLK1.out.below hb2 (by omega))
  have HCS := Lib.hid (HSORT.out w.heap.size w1.heap.size v2 w2 HB2.out HBLK2.out ho2 HB1.out.size (by omega))
  clear ho2 hb2 hz hz1 cb
  go_wp2_with fail
  refine (HCS.out).mono ?_
  rintro e w3 ⟨rfl, os, ho3, hpm, hpw, hb3⟩
  have hz := HZX.out
  have hz1 := HZ1.out
  have cb : w3.cell? ⟨w.heap.size, 0, none⟩ = some (.pointer (some ⟨g, 0, none⟩)) := (HBLK2.out.below hb3 (by omega)).cell 0
  have HB3 := Lib.hid (HB2.out.trans (hb3.mono HB1.out.size))
  have HORD := Lib.hid ((⟨hpm, hpw⟩ : OrdG G xs os))
  have HCI := Lib.hid (HIDS.out w3 v2 os HB3.out hpm ho3.slv)
  clear ho3 hpm hpw hb3 hz hz1
  go_wp2_with fail
  refine (HCI.out).mono ?_
  rintro e w4 ⟨v4, rfl, ho4, hb4⟩
  have HB4 := Lib.hid (HB3.out.trans (hb4.mono HB3.out.size))
  have HO4 := Lib.hid (ho4.base HB3.out.size)
  clear ho4 hb4
  go_wp2_with fail
  go_ret2
  exact ⟨HB4.out, .inl ⟨HALL.out, v4, os, rfl, HORD.out, HO4.out⟩⟩
end Go.Proofs.Ytcjhkfklkcmehaa.Tx
