/- Texts put together: DgX, DgS. -/
import Derived.Test.YtecpedecgcaeoaaQg35
import Derived.Test.YtecpedecgcaeoaaQg10
/- Package dag: Order. -/
set_option linter.unusedVariables false
set_option linter.unusedSimpArgs false
namespace Go.Proofs.Ytecpedecgcaeoaa.Tx
open Go.RowKit Go.Maps Go.Proofs.Ytecpedecgcaeoaa.Sh Go.Shelf Go.Lib
open Classical

/-- What Order hands back. -/
def OrdPost (w : World) (G : GR) (xs : List ByteArray) (e : Ending) (w' : World) : Prop :=
  RowKit.Below w.heap.size w w' ∧ ((allG G xs = true ∧ ∃ (v : Value) (os : List Nat), e = .returned (.tuple #[v, .int .i64 0]) ∧ OrdG G xs os ∧ OwnV 9 w' w.heap.size v ((os.map (idAt G)).map sv)) ∨ (allG G xs = false ∧ e = .returned (.tuple #[.slice none 0 0, .int .i64 7])))

set_option maxRecDepth 100000 in
set_option maxHeartbeats 3200000 in
theorem gorder_any (Z : Nat → Prop) (g : Nat) (G : GR) (v : Value) (xs : List ByteArray) (w : World) (h : GAt Z w g G) (hw : GW G) (hs : GS G) (hv : SlV w v (xs.map sv)) (hsz : ∀ s ∈ xs, s.size ≤ 1000000) (hn : xs.length ≤ 2000) :
    Calls Try.prog 25 #[.pointer (some ⟨g, 0, none⟩), v] w (OrdPost w G xs) := by
  have hlen := hs.len
  have han : (ancL (parAt G) G.length (plsL G xs)).length ≤ 2000 := Nat.le_trans anc_len hlen
  have hpl := fun (W : World) (hW : RowKit.Below w.heap.size w W) => gplaces_any Z g G v xs W (h.below hW) (hv.below hW) hsz (by omega)
  have hanc := fun (W : World) (u : Value) (hW : RowKit.Below w.heap.size w W) (hu : SlV W u ((plsL G xs).map nv)) (hall : allG G xs = true) => ganc_any Z g G u (plsL G xs) W (h.below hW) hw hs hu (pls_lt hall) (by rw [pls_len]; omega)
  have hids := fun (W : World) (u : Value) (os : List Nat) (hW : RowKit.Below w.heap.size w W) (hp : os.Perm (ancL (parAt G) G.length (plsL G xs))) (hu : SlV W u (os.map nv)) => gids_any Z g G u os W (h.below hW) hu (fun k hk => anc_all k (hp.mem_iff.1 hk)) (by rw [hp.length_eq]; omega)
  have hsort : ∀ (bg B : Nat) (u : Value) (W : World), RowKit.Below w.heap.size w W → Blk W bg 25 #[.pointer (some ⟨g, 0, none⟩)] → OwnV 3 W B u ((ancL (parAt G) G.length (plsL G xs)).map nv) → w.heap.size ≤ B → bg < B →
      Calls Try.prog 42 #[u, .func (.func 43) #[] #[.pointer (some ⟨bg, 0, none⟩)]] W fun e w' => e = .returned (.tuple #[]) ∧ ∃ os : List Nat, OwnV 3 w' B u (os.map nv) ∧ os.Perm (ancL (parAt G) G.length (plsL G xs)) ∧ os.Pairwise (befG G) ∧ RowKit.Below B W w' := by
    intro bg B u W hW hbg ho hB hbB
    obtain ⟨F, bm, vr, hx⟩ := h
    exact gsort_any Z F g bm bg B vr u G _ W (hx.below hW) hw hbg ho anc_all anc_nodup (by omega) (fun k hk => Nat.lt_of_lt_of_le (hx.zl k hk) hB) hbB
  have HPL := Lib.hid hpl
  have HANC := Lib.hid hanc
  have HIDS := Lib.hid hids
  have HSORT := Lib.hid hsort
  clear h hw hs hv hsz hn hpl hanc hids hsort han hlen
  obtain ⟨wx, hwx⟩ : ∃ wx, wx = w.alloc (.cells #[.pointer (some ⟨g, 0, none⟩)] 25) := ⟨_, rfl⟩
  have hbx : RowKit.Below w.heap.size w wx := by rw [hwx]; exact (RowKit.Below.refl _ _).alloc (Nat.le_refl _) _
  have hzx : wx.heap.size = w.heap.size + 1 := by rw [hwx]; simp
  have hblk : Blk wx w.heap.size 25 #[.pointer (some ⟨g, 0, none⟩)] := by rw [hwx]; exact Blk.new _ _ _
  have HCP := Lib.hid (HPL.out wx hbx)
  have HWX := Lib.hid hwx
  have HBX := Lib.hid hbx
  have HZX := Lib.hid hzx
  have HBLK := Lib.hid hblk
  clear hwx hbx hzx hblk
  go_enter Try.func25, Try.ntmps25
  go_wp2_with fail
  rw [← HWX.out]
  refine (HCP.out).mono ?_
  rintro e w1 ⟨hb1, ⟨hall, vp, rfl, ho1⟩ | ⟨hall, rfl⟩⟩
  case inr =>
    have HB1 := Lib.hid (HBX.out.trans (hb1.mono HBX.out.size))
    have HALL := Lib.hid hall
    clear hb1 hall
    go_wp2_with fail
    go_ret2
    exact ⟨HB1.out, .inr ⟨HALL.out, rfl⟩⟩
  have hz := HZX.out
  have HB1 := Lib.hid (HBX.out.trans (hb1.mono HBX.out.size))
  have HBLK1 := Lib.hid (HBLK.out.below hb1 (by omega))
  have cb : w1.cell? ⟨w.heap.size, 0, none⟩ = some (.pointer (some ⟨g, 0, none⟩)) := HBLK1.out.cell 0
  have HZ1 := Lib.hid (hb1.size)
  have HALL := Lib.hid hall
  have HCA := Lib.hid (HANC.out w1 vp HB1.out ho1.slv hall)
  clear hb1 hall ho1 hz
  go_wp2_with fail
  refine (HCA.out).mono ?_
  rintro e w2 ⟨v2, rfl, ho2, hb2⟩
  have hz := HZX.out
  have hz1 := HZ1.out
  have HB2 := Lib.hid (HB1.out.trans (hb2.mono HB1.out.size))
  have HBLK2 := Lib.hid (HBLK1.out.below hb2 (by omega))
  have HCS := Lib.hid (HSORT.out w.heap.size w1.heap.size v2 w2 HB2.out HBLK2.out ho2 HB1.out.size (by omega))
  clear ho2 hb2 hz hz1 cb
  go_wp2_with fail
  refine (HCS.out).mono ?_
  rintro e w3 ⟨rfl, os, ho3, hpm, hpw, hb3⟩
  have hz := HZX.out
  have hz1 := HZ1.out
  have cb : w3.cell? ⟨w.heap.size, 0, none⟩ = some (.pointer (some ⟨g, 0, none⟩)) := (HBLK2.out.below hb3 (by omega)).cell 0
  have HB3 := Lib.hid (HB2.out.trans (hb3.mono HB1.out.size))
  have HORD := Lib.hid ((⟨hpm, hpw⟩ : OrdG G xs os))
  have HCI := Lib.hid (HIDS.out w3 v2 os HB3.out hpm ho3.slv)
  clear ho3 hpm hpw hb3 hz hz1
  go_wp2_with fail
  refine (HCI.out).mono ?_
  rintro e w4 ⟨v4, rfl, ho4, hb4⟩
  have HB4 := Lib.hid (HB3.out.trans (hb4.mono HB3.out.size))
  have HO4 := Lib.hid (ho4.base HB3.out.size)
  clear ho4 hb4
  go_wp2_with fail
  go_ret2
  exact ⟨HB4.out, .inl ⟨HALL.out, v4, os, rfl, HORD.out, HO4.out⟩⟩
end Go.Proofs.Ytecpedecgcaeoaa.Tx
/- What follows of an order, plainly. (No package's code in it.) -/
set_option linter.unusedVariables false
set_option linter.unusedSimpArgs false
namespace Go.Proofs.Ytecpedecgcaeoaa.Tx
open Classical

section
variable {G : GR} {xs : List ByteArray} {os : List Nat} {a b s : ByteArray} {i j k : Nat}
theorem ord_mem (h : OrdG G xs os) : k ∈ os ↔ k < G.length ∧ RS (parAt G) (plsL G xs) k := by rw [h.1.mem_iff, mem_anc]
theorem ord_len (h : OrdG G xs os) : (os.map (idAt G)).length = (ancT G xs).length := by
  unfold ancT
  rw [sortT_length, List.length_map, List.length_map, h.1.length_eq]
theorem ord_memT (h : OrdG G xs os) : s ∈ os.map (idAt G) ↔ s ∈ ancT G xs := by
  rw [anc_memT, List.mem_map]
  constructor
  · rintro ⟨k, hk, rfl⟩
    have := (ord_mem h).1 hk
    exact ⟨k, this.1, this.2, rfl⟩
  · rintro ⟨k, h1, h2, rfl⟩
    exact ⟨k, (ord_mem h).2 ⟨h1, h2⟩, rfl⟩
theorem ancT_nodup (hw : GW G) : (ancT G xs).Nodup := by
  unfold ancT
  refine (sortT_perm _).nodup_iff.2 ?_
  refine List.pairwise_map.2 (anc_nodup.imp_of_mem fun {x y} hx hy hne e => hne (hw.inj x y (mem_anc.1 hx).1 (mem_anc.1 hy).1 e))
theorem ancT_strict (hw : GW G) : Strict (ancT G xs) := by
  have h1 : Sorted (ancT G xs) := sortT_sorted _
  have h2 := ancT_nodup (xs := xs) hw
  refine (List.Pairwise.and h1 h2).imp ?_
  rintro x y ⟨p, q⟩
  rcases bl_tri x.toList y.toList with r | r | r
  · exact r
  · exact absurd (ba_ext r) q
  · unfold tle at p; have r2 := bl_asymm _ _ r; unfold bl at r2; rw [r2, Bool.false_or, beq_iff_eq] at p; exact absurd (ba_ext p) q
/-- Each once. -/
theorem ord_uniq (hw : GW G) (h : OrdG G xs os) : uniqT (os.map (idAt G)) = ancT G xs := (uniqT_eq (ancT_strict hw) fun x => (ord_memT h).symm).symm
/-- Each parent stands behind. -/
theorem ord_behind (hw : GW G) (hall : allG G xs = true) (h : OrdG G xs os) (hk : os[i]? = some k) {p : Nat} (hp : p ∈ parAt G k) : idAt G p ∈ (os.map (idAt G)).drop (i + 1) := by
  have hkm := (ord_mem h).1 (List.mem_of_getElem? hk)
  have hpk := hw.par k p hp
  have hpm : p ∈ os := (ord_mem h).2 ⟨by omega, hkm.2.step hp⟩
  obtain ⟨j, hj, he⟩ := List.getElem_of_mem hpm
  obtain ⟨hi, hki⟩ := List.getElem?_eq_some_iff.1 hk
  have hpw := List.pairwise_iff_getElem.1 h.2
  have hbf : befG G k p := .inl hpk.2
  have hno : ¬ befG G p k := by
    rintro (h1 | ⟨h1, _⟩)
    · have := hpk.2; omega
    · have := hpk.2; omega
  have hij : i < j := by
    rcases Nat.lt_trichotomy i j with h1 | h1 | h1
    · exact h1
    · subst h1
      rw [he] at hki
      omega
    · have := hpw j i hj hi h1
      rw [he, hki] at this
      exact absurd this hno
  refine List.mem_drop_iff_getElem.2 ⟨j - (i + 1), by rw [List.length_map]; omega, ?_⟩
  rw [List.getElem_map]
  simp only [show i + 1 + (j - (i + 1)) = j by omega, he]
theorem ord_at (h : OrdG G xs os) (hs : (os.map (idAt G))[i]? = some s) : ∃ k, os[i]? = some k ∧ k < G.length ∧ s = idAt G k := by
  rw [List.getElem?_map] at hs
  cases hk : os[i]? with
  | none => rw [hk] at hs; cases hs
  | some k => rw [hk] at hs; cases hs; exact ⟨k, rfl, ((ord_mem h).1 (List.mem_of_getElem? hk)).1, rfl⟩
theorem par_is (hw : GW G) (hk : k < G.length) {p : Nat} (hp : p ∈ parAt G k) : isG G (idAt G p) (idAt G k) = true ∧ isG G (idAt G k) (idAt G p) = false ∧ stAt G p < stAt G k := by
  have h1 := hw.par k p hp
  have hpl : p < G.length := by omega
  refine ⟨?_, ?_, h1.2⟩
  · rw [isG_ids hw hpl hk]
    exact decide_eq_true ((RS.self k).step hp)
  · rw [isG_ids hw hk hpl, decide_eq_false_iff_not]
    intro h
    have := h.le hw.down
    omega
theorem anc_own (hw : GW G) (hall : allG G xs = true) (hs : s ∈ xs) : s ∈ ancT G xs := by
  have hin := all_iff.1 hall s hs
  refine anc_memT.2 ⟨pl G s, pl_lt hin, .here (List.mem_map.2 ⟨s, hs, rfl⟩), (id_pl hin).symm⟩
end
end Go.Proofs.Ytecpedecgcaeoaa.Tx
