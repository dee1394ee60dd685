/- Texts put together: Ro4. -/
import Derived.Test.YtcmlofgkcalhnaaQo25
import Derived.Test.YtcmlofgkcalhnaaQo27
import Derived.Test.YtcmlofgkcalhnaaQo28
import Derived.Test.YtcmlofgkcalhnaaQo42
/- The document's num, raw; marlaw6.Plain. -/
namespace Go.Proofs.Ytcmlofgkcalhnaa.Ob
open Go.RowKit Go.Proofs.Ytcmlofgkcalhnaa.Sh
open Go.Proofs.Ytcmlofgkcalhnaa.Tx (OwnV SlV sv bl nameB reads_at texts_at toList_ne')

set_option maxRecDepth 100000 in
set_option maxHeartbeats 400000 in
theorem num_any (n : Nat) (w : World) (hn : n ≤ 72057594037927936) : Calls Try.prog 34 #[.int .i64 (n : Int)] w (OwnPost w (putL n)) := by
  go_enter Try.func34, Try.ntmps34
  go_wp2_with fail
  refine (rput_any n w hn).mono ?_
  rintro e w1 ⟨u, rfl, hu, hb⟩
  have HU := Lib.hid hu
  have HB := Lib.hid hb
  clear hu hb
  go_wp2_with fail
  go_ret
  exact ⟨u, rfl, HU.out, HB.out⟩
set_option maxRecDepth 100000 in
set_option maxHeartbeats 400000 in
theorem raw_any (id : List UInt8) (w : World) (hn : validB id = true) : Calls Try.prog 35 #[.string (str id)] w (OwnPost w (unhexL id)) := by
  have hv := Lib.hid (validB_len hn)
  go_enter Try.func35, Try.ntmps35
  go_wp2_with fail
  refine (runhex_yes id w hv.out.2 (by have := hv.out.1; omega)).mono ?_
  rintro e w1 ⟨u, rfl, hu, hb⟩
  have HU := Lib.hid hu
  have HB := Lib.hid hb
  clear hu hb
  go_wp2_with fail
  go_ret
  exact ⟨u, rfl, HU.out, HB.out⟩

theorem info_item6 : (Try.prog.info? 58).map (fun i => (i.zero, i.size, i.bytes)) = some (some (.agg #[.int .i64 0, .string ⟨#[]⟩, .string ⟨#[]⟩]), 3, 40) := by kernel_rfl
theorem item_reads (w : World) (T : TypeId) (x : ItM) : Reads (w.alloc (.cells #[.int .i64 x.1, .string (str x.2.1), .string (str x.2.2)] T)) (w.heap.size + 1) 3 (some ⟨w.heap.size, 0, none⟩) 1 ([x].flatMap itC) := by
  refine ⟨rfl, fun _ => ⟨_, rfl, by simp, fun j v hv => ?_⟩⟩
  rw [Addr.add_mid, cell_of_row _ _ _ _ T (0, 0) (heap_alloc_new w _), Nat.zero_add, ← hv]
  simp [itC]
theorem items_snoc {l : List ItM} {k : Nat} {x : ItM} (h : l[k]? = some x) : l.take (k + 1) = l.take k ++ [x] := by
  obtain ⟨hk, e⟩ := List.getElem?_eq_some_iff.1 h
  rw [List.take_succ_eq_append_getElem hk, e]
/-- What a call that answers an object leaves. -/
def ObjIs (w : World) (o : ObM) (e : Ending) (w' : World) : Prop := ∃ v, e = .returned v ∧ ObV w' v o ∧ Below w.heap.size w w'
set_option linter.unusedSimpArgs false in
set_option maxRecDepth 100000 in
set_option maxHeartbeats 6400000 in
theorem plain_any (v : Value) (o : ObM) (w : World) (h : ObV w v o) (hn : o.items.length ≤ 1000001) : Calls Try.prog 16 #[v] w (ObjIs w o) := by
  obtain ⟨d, it, ps, rfl, hd, hi, hp⟩ := h
  obtain ⟨k0, D, I, T, P, st, au, ms⟩ := o
  replace hd : Sl w d D := hd
  replace hi : SlI w it I := hi
  replace hp : SlV w ps ((P.map str).map sv) := hp
  replace hn : I.length ≤ 1000001 := hn
  have HD := Lib.hid hd
  have HP := Lib.hid hp
  obtain ⟨A, c, rfl, hlc, hcm, _⟩ := hd
  obtain ⟨A2, c2, rfl, hlc2, hcm2, _, hR⟩ := hi
  obtain ⟨A3, c3, rfl, hlc3, hcm3, _⟩ := hp
  unfold maxLen at hcm hcm2 hcm3
  simp only [List.length_map] at hlc3 HP ⊢
  obtain ⟨l, hl⟩ : ∃ l, D.length = l := ⟨_, rfl⟩
  obtain ⟨l2, hl2⟩ : ∃ l, I.length = l := ⟨_, rfl⟩
  obtain ⟨l3, hl3⟩ : ∃ l, P.length = l := ⟨_, rfl⟩
  rw [hl] at hlc HD ⊢
  rw [hl2] at hlc2 hR hn ⊢
  rw [hl3] at hlc3 HP ⊢
  have HR := Lib.hid hR
  have HL2 := Lib.hid hl2
  clear hl hl2 hl3 hR
  have HW0 : Hid (Below w.heap.size w (((w.alloc (.cells #[.int .i64 k0, .slice A l c, .slice A2 l2 c2, .string (str T), .slice A3 l3 c3, .int .i64 st, .int .i64 au, .string (str ms)] 32)).alloc (.cells #[.int .i64 0, .slice none 0 0, .slice none 0 0, .string ⟨#[]⟩, .slice none 0 0, .int .i64 0, .int .i64 0, .string ⟨#[]⟩] 40)).alloc (.cells #[.int .i64 k0, .slice A l c, .slice none 0 0, .string (str T), .slice A3 l3 c3, .int .i64 st, .int .i64 au, .string (str ms)] 40))) := (((Below.refl _ _).alloc (Nat.le_refl _) _).alloc (by simp) _).alloc (by simp; omega) _
  have HK0 : Hid (Blk (((w.alloc (.cells #[.int .i64 k0, .slice A l c, .slice A2 l2 c2, .string (str T), .slice A3 l3 c3, .int .i64 st, .int .i64 au, .string (str ms)] 32)).alloc (.cells #[.int .i64 0, .slice none 0 0, .slice none 0 0, .string ⟨#[]⟩, .slice none 0 0, .int .i64 0, .int .i64 0, .string ⟨#[]⟩] 40)).alloc (.cells #[.int .i64 k0, .slice A l c, .slice none 0 0, .string (str T), .slice A3 l3 c3, .int .i64 st, .int .i64 au, .string (str ms)] 40)) w.heap.size 32 #[.int .i64 k0, .slice A l c, .slice A2 l2 c2, .string (str T), .slice A3 l3 c3, .int .i64 st, .int .i64 au, .string (str ms)]) := ((Blk.new w _ _).alloc _).alloc _
  have HK1 : Hid (Blk (((w.alloc (.cells #[.int .i64 k0, .slice A l c, .slice A2 l2 c2, .string (str T), .slice A3 l3 c3, .int .i64 st, .int .i64 au, .string (str ms)] 32)).alloc (.cells #[.int .i64 0, .slice none 0 0, .slice none 0 0, .string ⟨#[]⟩, .slice none 0 0, .int .i64 0, .int .i64 0, .string ⟨#[]⟩] 40)).alloc (.cells #[.int .i64 k0, .slice A l c, .slice none 0 0, .string (str T), .slice A3 l3 c3, .int .i64 st, .int .i64 au, .string (str ms)] 40)) (w.heap.size + 1) 40 #[.int .i64 0, .slice none 0 0, .slice none 0 0, .string ⟨#[]⟩, .slice none 0 0, .int .i64 0, .int .i64 0, .string ⟨#[]⟩]) := by
    unfold Hid
    rw [show w.heap.size + 1 = (w.alloc (.cells #[.int .i64 k0, .slice A l c, .slice A2 l2 c2, .string (str T), .slice A3 l3 c3, .int .i64 st, .int .i64 au, .string (str ms)] 32)).heap.size from by simp]
    exact (Blk.new _ _ _).alloc _
  have HK2 : Hid (Blk (((w.alloc (.cells #[.int .i64 k0, .slice A l c, .slice A2 l2 c2, .string (str T), .slice A3 l3 c3, .int .i64 st, .int .i64 au, .string (str ms)] 32)).alloc (.cells #[.int .i64 0, .slice none 0 0, .slice none 0 0, .string ⟨#[]⟩, .slice none 0 0, .int .i64 0, .int .i64 0, .string ⟨#[]⟩] 40)).alloc (.cells #[.int .i64 k0, .slice A l c, .slice none 0 0, .string (str T), .slice A3 l3 c3, .int .i64 st, .int .i64 au, .string (str ms)] 40)) (w.heap.size + 1 + 1) 40 #[.int .i64 k0, .slice A l c, .slice none 0 0, .string (str T), .slice A3 l3 c3, .int .i64 st, .int .i64 au, .string (str ms)]) := by
    unfold Hid
    rw [show w.heap.size + 1 + 1 = ((w.alloc (.cells #[.int .i64 k0, .slice A l c, .slice A2 l2 c2, .string (str T), .slice A3 l3 c3, .int .i64 st, .int .i64 au, .string (str ms)] 32)).alloc (.cells #[.int .i64 0, .slice none 0 0, .slice none 0 0, .string ⟨#[]⟩, .slice none 0 0, .int .i64 0, .int .i64 0, .string ⟨#[]⟩] 40)).heap.size from by simp]
    exact Blk.new _ _ _
  go_enter Try.func16, Try.ntmps16
  go_wp2_with fail
  obtain ⟨wz, hwz⟩ : ∃ W, W = (((w.alloc (.cells #[.int .i64 k0, .slice A l c, .slice A2 l2 c2, .string (str T), .slice A3 l3 c3, .int .i64 st, .int .i64 au, .string (str ms)] 32)).alloc (.cells #[.int .i64 0, .slice none 0 0, .slice none 0 0, .string ⟨#[]⟩, .slice none 0 0, .int .i64 0, .int .i64 0, .string ⟨#[]⟩] 40)).alloc (.cells #[.int .i64 k0, .slice A l c, .slice none 0 0, .string (str T), .slice A3 l3 c3, .int .i64 st, .int .i64 au, .string (str ms)] 40)) := ⟨_, rfl⟩
  rw [← hwz] at HW0 HK0 HK1 HK2 ⊢
  clear hwz
  go_loopw [4] (fun i wr => ∃ (k n : Nat) (B : Option Addr) (cc : Nat), k ≤ l2 ∧ i = .int .i64 k ∧ Below w.heap.size w wr ∧ Blk wr w.heap.size 32 #[.int .i64 k0, .slice A l c, .slice A2 l2 c2, .string (str T), .slice A3 l3 c3, .int .i64 st, .int .i64 au, .string (str ms)] ∧ Blk wr (w.heap.size + 1) 40 #[.int .i64 0, .slice none 0 0, .slice none 0 0, .string ⟨#[]⟩, .slice none 0 0, .int .i64 0, .int .i64 0, .string ⟨#[]⟩] ∧ Blk wr (w.heap.size + 1 + 1) 40 #[.int .i64 k0, .slice A l c, .slice B n cc, .string (str T), .slice A3 l3 c3, .int .i64 st, .int .i64 au, .string (str ms)] ∧ OwnI 58 wr w.heap.size (.slice B n cc) (I.take k)) (fun i _ => l2 - (intOf i).toNat)
  case atStart => exact ⟨0, 0, none, 0, Nat.zero_le _, rfl, HW0.out, HK0.out, HK1.out, HK2.out, OwnI.nil_ _ _ _⟩
  case round =>
    obtain ⟨k, n, B, cc, hk, rfl, hb, hk0, hk1, hk2, ho⟩ := hrel
    have HB := Lib.hid hb
    have HK0 := Lib.hid hk0
    have HK1 := Lib.hid hk1
    have HK2 := Lib.hid hk2
    have HO := Lib.hid ho
    have hwz := hb.size
    have k0' : (0 : Int) ≤ (k : Int) := by omega
    obtain ⟨x0, x1, x2, x3, x4, x5, x6, x7⟩ := box_cells hk0
    clear hb hk0 hk1 ho
    by_cases hlt : k < l2
    · have k1 : (k : Int) < (l2 : Int) := by omega
      have hkl : k < I.length := by rw [HL2.out]; exact hlt
      obtain ⟨x, hx⟩ : ∃ x, I[k]? = some x := ⟨_, List.getElem?_eq_getElem hkl⟩
      obtain ⟨ad, rfl, c0, c1, c2'⟩ := items_at (HR.out.below HB.out) HL2.out.symm k x hx
      have HSN := Lib.hid (items_snoc hx)
      obtain ⟨ad9, had9, d0, d1, d2⟩ := items_at HR.out HL2.out.symm k x hx
      injection had9 with had9
      subst had9
      have HADL : Hid ((ad.add (k * 3)).block < w.heap.size) := World.block_lt_of_cell? w (ad.add (k * 3)) d0
      have HC0 := Lib.hid d0
      have HC1 := Lib.hid d1
      have HC2 := Lib.hid d2
      clear d0 d1 d2
      obtain ⟨m, nm, id⟩ := x
      replace c0 : wr.cell? (ad.add (k * 3)) = some (.int .i64 m) := c0
      replace c1 : wr.cell? ⟨(ad.add (k * 3)).block, (ad.add (k * 3)).off + 1, none⟩ = some (.string (str nm)) := c1
      replace c2' : wr.cell? ⟨(ad.add (k * 3)).block, (ad.add (k * 3)).off + 2, none⟩ = some (.string (str id)) := c2'
      have y2 := hk2.cell 2
      have g2 := hk2.frozen 2
      have hnk : n = k := by
        obtain ⟨A', c', hv, _⟩ := HO.out.slI
        injection hv with _ e _
        rw [e, List.length_take, HL2.out]
        omega
      subst hnk
      obtain ⟨i0, hi, hz0, hz1, hz2⟩ := info_parts info_item6
      have hnb : n ≤ 1000001 := by omega
      have HIT : Hid (Try.prog.info? 58 = some i0) := hi
      have HOWA : Hid ((wr.drew.alloc (.cells #[.int .i64 m, .string (str nm), .string (str id)] 58)).ownsRow w.heap.size 58 3 (.slice B n cc) n ((I.take n).flatMap itC)) := by
        have h9 := (HO.out.drew).alloc (.cells #[.int .i64 m, .string (str nm), .string (str id)] 58)
        unfold OwnI at h9
        rw [List.length_take, HL2.out, Nat.min_eq_left (by omega)] at h9
        exact h9
      have HRA : Hid (Reads (wr.drew.alloc (.cells #[.int .i64 m, .string (str nm), .string (str id)] 58)) (wr.drew.heap.size + 1) 3 (some ⟨wr.drew.heap.size, 0, none⟩) 1 ([((m, nm, id) : ItM)].flatMap itC)) := item_reads wr.drew _ (m, nm, id)
      have HZA : Hid (w.heap.size ≤ (wr.drew.alloc (.cells #[.int .i64 m, .string (str nm), .string (str id)] 58)).heap.size) := by
        unfold Hid
        have : wr.drew.heap.size = wr.heap.size := rfl
        simp
        omega
      have HKA0 : Hid (Blk (wr.drew.alloc (.cells #[.int .i64 m, .string (str nm), .string (str id)] 58)) w.heap.size 32 #[.int .i64 k0, .slice A l c, .slice (some ad) l2 c2, .string (str T), .slice A3 l3 c3, .int .i64 st, .int .i64 au, .string (str ms)]) := (HK0.out.below (Below.refl _ _).drew HK0.out.lt).alloc _
      have HKA1 : Hid (Blk (wr.drew.alloc (.cells #[.int .i64 m, .string (str nm), .string (str id)] 58)) (w.heap.size + 1) 40 #[.int .i64 0, .slice none 0 0, .slice none 0 0, .string ⟨#[]⟩, .slice none 0 0, .int .i64 0, .int .i64 0, .string ⟨#[]⟩]) := (HK1.out.below (Below.refl _ _).drew HK1.out.lt).alloc _
      have HKA2 : Hid (Blk (wr.drew.alloc (.cells #[.int .i64 m, .string (str nm), .string (str id)] 58)) (w.heap.size + 1 + 1) 40 #[.int .i64 k0, .slice A l c, .slice B n cc, .string (str T), .slice A3 l3 c3, .int .i64 st, .int .i64 au, .string (str ms)]) := (HK2.out.below (Below.refl _ _).drew HK2.out.lt).alloc _
      have HNV0 : Hid (some w.heap.size ≠ (Value.slice B n cc).ownBlock) := row_sep HOWA.out HKA0.out (by decide)
      have HNV1 : Hid (some (w.heap.size + 1) ≠ (Value.slice B n cc).ownBlock) := row_sep HOWA.out HKA1.out (by decide)
      have HNV2 : Hid (some (w.heap.size + 1 + 1) ≠ (Value.slice B n cc).ownBlock) := row_sep HOWA.out HKA2.out (by decide)
      have HDB : Hid (Below w.heap.size w (wr.drew.alloc (.cells #[.int .i64 m, .string (str nm), .string (str id)] 58))) := (HB.out.trans ((Below.refl _ _).drew.mono hwz)).alloc (by have : wr.drew.heap.size = wr.heap.size := rfl; omega) _
      clear hk2 hx hkl
      have HDR : Hid (Below w.heap.size w wr.drew) := HB.out.trans ((Below.refl _ _).drew.mono hwz)
      have HKD0 : Hid (Blk wr.drew w.heap.size 32 #[.int .i64 k0, .slice A l c, .slice (some ad) l2 c2, .string (str T), .slice A3 l3 c3, .int .i64 st, .int .i64 au, .string (str ms)]) := HK0.out.below (Below.refl _ _).drew HK0.out.lt
      have y2d : wr.drew.cell? ⟨w.heap.size + 1 + 1, 2, none⟩ = some (.slice B n cc) := y2
      have y2a := HKA2.out.cell 2
      have y2e : (wr.alloc (.cells #[.int .i64 m, .string (str nm), .string (str id)] 58)).drew.cell? ⟨w.heap.size + 1 + 1, 2, none⟩ = some (.slice B n cc) := y2a
      have HCL : Hid (∀ W, Below w.heap.size w W → Blk W w.heap.size 32 #[.int .i64 k0, .slice A l c, .slice (some ad) l2 c2, .string (str T), .slice A3 l3 c3, .int .i64 st, .int .i64 au, .string (str ms)] → (fun W : World => W.cell? ⟨w.heap.size, 2, none⟩ = some (.slice (some ad) l2 c2) ∧ W.cell? (ad.add (n * 3)) = some (.int .i64 m) ∧ W.cell? ⟨(ad.add (n * 3)).block, (ad.add (n * 3)).off + 1, none⟩ = some (.string (str nm)) ∧ W.cell? ⟨(ad.add (n * 3)).block, (ad.add (n * 3)).off + 2, none⟩ = some (.string (str id))) W) := fun W hW hk => ⟨hk.cell 2, (hW.cell HADL.out).trans HC0.out, (hW.cell (p := ⟨(ad.add (n * 3)).block, (ad.add (n * 3)).off + 1, none⟩) HADL.out).trans HC1.out, (hW.cell (p := ⟨(ad.add (n * 3)).block, (ad.add (n * 3)).off + 2, none⟩) HADL.out).trans HC2.out⟩
      go_wp2_with fail
      clear c0 c1 c2'
      refine wp_region_held_drew (S := (fun W : World => W.cell? ⟨w.heap.size, 2, none⟩ = some (.slice (some ad) l2 c2) ∧ W.cell? (ad.add (n * 3)) = some (.int .i64 m) ∧ W.cell? ⟨(ad.add (n * 3)).block, (ad.add (n * 3)).off + 1, none⟩ = some (.string (str nm)) ∧ W.cell? ⟨(ad.add (n * 3)).block, (ad.add (n * 3)).off + 2, none⟩ = some (.string (str id)))) (by kernel_rfl) ?_ (fun hHeld => ?_)
      · try dsimp only
        first | exact HCL.out _ HDB6.out HB60.out | exact HCL.out _ HDB5.out HB50.out | exact HCL.out _ HDB.out HKA0.out | exact HCL.out _ HDR.out HKD0.out
      refine take_at (i := 0) (d := 27) (v := ?_) rfl (by kernel_rfl) (by kernel_rfl) (by kernel_rfl) (by kernel_rfl) (fun _ _ _ h => h) (Or.inl ⟨by kernel_rfl, ?_⟩) (by assumption) ?_
      rotate_left
      · intro W hSw
        try dsimp only at hSw
        go_simp
        first | done | with_reducible rfl
      try simp only [Act.put, List.setIfInBounds_toArray, List.set_cons_zero, List.set_cons_succ]
      refine take_at (i := 2) (d := 29) (v := ?_) rfl (by kernel_rfl) (by kernel_rfl) (by kernel_rfl) (by kernel_rfl) (fun _ _ _ h => h) (Or.inl ⟨by kernel_rfl, ?_⟩) (by assumption) ?_
      rotate_left
      · intro W hSw
        try dsimp only at hSw
        go_simp
        first | done | with_reducible rfl
      try simp only [Act.put, List.setIfInBounds_toArray, List.set_cons_zero, List.set_cons_succ]
      refine take_at (i := 3) (d := 30) (v := ?_) rfl (by kernel_rfl) (by kernel_rfl) (by kernel_rfl) (by kernel_rfl) (fun _ _ _ h => h) (Or.inl ⟨by kernel_rfl, ?_⟩) (by assumption) ?_
      rotate_left
      · intro W hSw
        try dsimp only at hSw
        go_simp
        first | done | with_reducible rfl
      try simp only [Act.put, List.setIfInBounds_toArray, List.set_cons_zero, List.set_cons_succ]
      refine take_at (i := 4) (d := 31) (v := ?_) rfl (by kernel_rfl) (by kernel_rfl) (by kernel_rfl) (by kernel_rfl) (fun _ _ _ h => h) (Or.inl ⟨by kernel_rfl, ?_⟩) (by assumption) ?_
      rotate_left
      · intro W hSw
        try dsimp only at hSw
        go_simp
        first | done | with_reducible rfl
      try simp only [Act.put, List.setIfInBounds_toArray, List.set_cons_zero, List.set_cons_succ]
      refine take_at (i := 5) (d := 32) (v := ?_) rfl (by kernel_rfl) (by kernel_rfl) (by kernel_rfl) (by kernel_rfl) (fun _ _ _ h => h) (Or.inl ⟨by kernel_rfl, ?_⟩) (by assumption) ?_
      rotate_left
      · intro W hSw
        try dsimp only at hSw
        go_simp
        first | done | with_reducible rfl
      try simp only [Act.put, List.setIfInBounds_toArray, List.set_cons_zero, List.set_cons_succ]
      refine take_at (i := 6) (d := 33) (v := ?_) rfl (by kernel_rfl) (by kernel_rfl) (by kernel_rfl) (by kernel_rfl) (fun _ _ _ h => h) (Or.inl ⟨by kernel_rfl, ?_⟩) (by assumption) ?_
      rotate_left
      · intro W hSw
        try dsimp only at hSw
        go_simp
        first | done | with_reducible rfl
      try simp only [Act.put, List.setIfInBounds_toArray, List.set_cons_zero, List.set_cons_succ]
      refine take_at (i := 7) (d := 34) (v := ?_) rfl (by kernel_rfl) (by kernel_rfl) (by kernel_rfl) (by kernel_rfl) (fun _ _ _ h => h) (Or.inl ⟨by kernel_rfl, ?_⟩) (by assumption) ?_
      rotate_left
      · intro W hSw
        try dsimp only at hSw
        go_simp
        first | done | with_reducible rfl
      try simp only [Act.put, List.setIfInBounds_toArray, List.set_cons_zero, List.set_cons_succ]
      refine take_at (i := 8) (d := 35) (v := ?_) rfl (by kernel_rfl) (by kernel_rfl) (by kernel_rfl) (by kernel_rfl) (fun _ _ _ h => h) (Or.inl ⟨by kernel_rfl, ?_⟩) (by assumption) ?_
      rotate_left
      · intro W hSw
        try dsimp only at hSw
        go_simp
        first | done | with_reducible rfl
      try simp only [Act.put, List.setIfInBounds_toArray, List.set_cons_zero, List.set_cons_succ]
      refine take_at (i := 9) (d := 36) (v := ?_) rfl (by kernel_rfl) (by kernel_rfl) (by kernel_rfl) (by kernel_rfl) (fun _ _ _ h => h) (Or.inl ⟨by kernel_rfl, ?_⟩) (by assumption) ?_
      rotate_left
      · intro W hSw
        try dsimp only at hSw
        go_simp
        first | done | with_reducible rfl
      try simp only [Act.put, List.setIfInBounds_toArray, List.set_cons_zero, List.set_cons_succ]
      refine take_at (i := 10) (d := 37) (v := ?_) rfl (by kernel_rfl) (by kernel_rfl) (by kernel_rfl) (by kernel_rfl) (fun _ _ _ h => h) (Or.inl ⟨by kernel_rfl, ?_⟩) (by assumption) ?_
      rotate_left
      · intro W hSw
        try dsimp only at hSw
        go_simp
        first | done | with_reducible rfl
      try simp only [Act.put, List.setIfInBounds_toArray, List.set_cons_zero, List.set_cons_succ]
      refine take_at (i := 11) (d := 38) (v := ?_) rfl (by kernel_rfl) (by kernel_rfl) (by kernel_rfl) (by kernel_rfl) (fun _ _ _ h => h) (Or.inl ⟨by kernel_rfl, ?_⟩) (by assumption) ?_
      rotate_left
      · intro W hSw
        try dsimp only at hSw
        go_simp
        first | done | with_reducible rfl
      try simp only [Act.put, List.setIfInBounds_toArray, List.set_cons_zero, List.set_cons_succ]
      refine take_at (i := 12) (d := 39) (v := ?_) rfl (by kernel_rfl) (by kernel_rfl) (by kernel_rfl) (by kernel_rfl) (fun _ _ _ h => h) (Or.inl ⟨by kernel_rfl, ?_⟩) (by assumption) ?_
      rotate_left
      · intro W hSw
        try dsimp only at hSw
        go_simp
        first | done | with_reducible rfl
      try simp only [Act.put, List.setIfInBounds_toArray, List.set_cons_zero, List.set_cons_succ]
      refine take_at (i := 13) (d := 40) (v := ?_) rfl (by kernel_rfl) (by kernel_rfl) (by kernel_rfl) (by kernel_rfl) (fun _ _ _ h => h) (Or.inl ⟨by kernel_rfl, ?_⟩) (by assumption) ?_
      rotate_left
      · intro W hSw
        try dsimp only at hSw
        go_simp
        first | done | with_reducible rfl
      try simp only [Act.put, List.setIfInBounds_toArray, List.set_cons_zero, List.set_cons_succ]
      refine take_at (i := 14) (d := 41) (v := ?_) rfl (by kernel_rfl) (by kernel_rfl) (by kernel_rfl) (by kernel_rfl) (fun _ _ _ h => h) (Or.inl ⟨by kernel_rfl, ?_⟩) (by assumption) ?_
      rotate_left
      · intro W hSw
        try dsimp only at hSw
        go_simp
        first | done | with_reducible rfl
      try simp only [Act.put, List.setIfInBounds_toArray, List.set_cons_zero, List.set_cons_succ]
      refine take_at (i := 15) (d := 42) (v := ?_) rfl (by kernel_rfl) (by kernel_rfl) (by kernel_rfl) (by kernel_rfl) (fun _ _ _ h => h) (Or.inl ⟨by kernel_rfl, ?_⟩) (by assumption) ?_
      rotate_left
      · intro W hSw
        try dsimp only at hSw
        go_simp
        first | done | with_reducible rfl
      try simp only [Act.put, List.setIfInBounds_toArray, List.set_cons_zero, List.set_cons_succ]
      refine take_at (i := 16) (d := 43) (v := ?_) rfl (by kernel_rfl) (by kernel_rfl) (by kernel_rfl) (by kernel_rfl) (fun _ _ _ h => h) (Or.inl ⟨by kernel_rfl, ?_⟩) (by assumption) ?_
      rotate_left
      · intro W hSw
        try dsimp only at hSw
        go_simp
        first | done | with_reducible rfl
      try simp only [Act.put, List.setIfInBounds_toArray, List.set_cons_zero, List.set_cons_succ]
      refine take_at (i := 17) (d := 44) (v := ?_) rfl (by kernel_rfl) (by kernel_rfl) (by kernel_rfl) (by kernel_rfl) (fun _ _ _ h => h) (Or.inl ⟨by kernel_rfl, ?_⟩) (by assumption) ?_
      rotate_left
      · intro W hSw
        try dsimp only at hSw
        go_simp
        first | done | with_reducible rfl
      try simp only [Act.put, List.setIfInBounds_toArray, List.set_cons_zero, List.set_cons_succ]
      refine take_at (i := 18) (d := 45) (v := ?_) rfl (by kernel_rfl) (by kernel_rfl) (by kernel_rfl) (by kernel_rfl) (fun _ _ _ h => h) (Or.inl ⟨by kernel_rfl, ?_⟩) (by assumption) ?_
      rotate_left
      · intro W hSw
        try dsimp only at hSw
        go_simp
        first | done | with_reducible rfl
      try simp only [Act.put, List.setIfInBounds_toArray, List.set_cons_zero, List.set_cons_succ]
      refine take_at (i := 19) (d := 46) (v := ?_) rfl (by kernel_rfl) (by kernel_rfl) (by kernel_rfl) (by kernel_rfl) (fun _ _ _ h => h) (Or.inl ⟨by kernel_rfl, ?_⟩) (by assumption) ?_
      rotate_left
      · intro W hSw
        try dsimp only at hSw
        go_simp
        first | done | with_reducible rfl
      try simp only [Act.put, List.setIfInBounds_toArray, List.set_cons_zero, List.set_cons_succ]
      refine take_at (i := 20) (d := 47) (v := ?_) rfl (by kernel_rfl) (by kernel_rfl) (by kernel_rfl) (by kernel_rfl) (fun _ _ _ h => h) (Or.inl ⟨by kernel_rfl, ?_⟩) (by assumption) ?_
      rotate_left
      · intro W hSw
        try dsimp only at hSw
        go_simp
        first | done | with_reducible rfl
      try simp only [Act.put, List.setIfInBounds_toArray, List.set_cons_zero, List.set_cons_succ]
      refine wpAnyH_ready (rs := [1, 21]) (by kernel_rfl) (by simp) (AllReadyH.cons rfl (fun K hK => ?_) (AllReadyH.cons rfl (fun K hK => ?_) AllReadyH.nil))
      · go_simp
        try go_wp2_with fail
        refine hK.out _ _ ?_ (fun hHeld => ?_)
        · try dsimp only
          first | exact HCL.out _ HDB6.out HB60.out | exact HCL.out _ HDB5.out HB50.out | exact HCL.out _ HDB.out HKA0.out | exact HCL.out _ HDR.out HKD0.out
        clear hK K
        try simp only [Act.put, List.setIfInBounds_toArray, List.set_cons_zero, List.set_cons_succ]
        refine wpAnyH_ready (rs := [21]) (by kernel_rfl) (by simp) (AllReadyH.cons rfl (fun K hK => ?_) AllReadyH.nil)
        go_simp
        try go_wp2_with fail
        refine hK.out _ _ ?_ (fun hHeld => ?_)
        · try dsimp only
          first | exact HCL.out _ HDB6.out HB60.out | exact HCL.out _ HDB5.out HB50.out | exact HCL.out _ HDB.out HKA0.out | exact HCL.out _ HDR.out HKD0.out
        clear hK K
        try simp only [Act.put, List.setIfInBounds_toArray, List.set_cons_zero, List.set_cons_succ]
        refine wpAnyH_ready (rs := [22]) (by kernel_rfl) (by simp) (AllReadyH.cons rfl (fun K hK => ?_) AllReadyH.nil)
        refine step_append_any _ rfl (.tmp 28) (.tmp 48) 38 rfl w.heap.size 58 i0 (.agg #[.int .i64 0, .string ⟨#[]⟩, .string ⟨#[]⟩]) 3 40 Try.underlying38 HIT.out hz0 hz1 hz2 rfl (by decide) (.slice B n cc) n _ rfl (by exact HOWA.out) _ (some ⟨wr.heap.size, 0, none⟩) 1 1 ([((m, nm, id) : ItM)].flatMap itC) rfl (by exact HRA.out) (itC_one [(m, nm, id)]) (by unfold maxLen; omega) (by omega) (by exact HZA.out) ?_
        intro v5 w5 ho5 hg5 hk5
        have HG5 := Lib.hid hg5
        have HB50 := Lib.hid (HKA0.out.grown hg5 HNV0.out)
        have HB51 := Lib.hid (HKA1.out.grown hg5 HNV1.out)
        have HB52 := Lib.hid (HKA2.out.grown hg5 HNV2.out)
        have y2b := HB52.out.cell 2
        have g2b := HB52.out.frozen 2
        have HO5 : Hid (OwnI 58 w5 w.heap.size v5 (I.take (n + 1))) := (by unfold Hid OwnI; rw [HSN.out, List.length_append, List.length_take, HL2.out, Nat.min_eq_left (by omega), List.flatMap_append]; exact ho5)
        have HDB5 : Hid (Below w.heap.size w w5) := HDB.out.grown hg5 HZA.out (fun k hk => (World.ownsRow.lt HOWA.out k hk).1)
        obtain ⟨A5, c5, hv5, _⟩ := HO5.out.slI
        rw [List.length_take, HL2.out, Nat.min_eq_left (by omega)] at hv5
        subst hv5
        clear ho5 hg5 hk5
        have HDB6 : Hid (Below w.heap.size w (w5.setCell ⟨w.heap.size + 1 + 1, 2, none⟩ (.slice A5 (n + 1) c5))) := ((Upd.refl (w.heap.size + 1 + 1) w5).set_ 2 _).below (by omega) HDB5.out.size |> HDB5.out.trans
        have HB60 : Hid (Blk (w5.setCell ⟨w.heap.size + 1 + 1, 2, none⟩ (.slice A5 (n + 1) c5)) w.heap.size 32 #[.int .i64 k0, .slice A l c, .slice (some ad) l2 c2, .string (str T), .slice A3 l3 c3, .int .i64 st, .int .i64 au, .string (str ms)]) := ((Upd.refl (w.heap.size + 1 + 1) w5).set_ 2 _).blk HB50.out (by omega)
        try go_wp2_with fail
        refine hK.out _ _ ?_ (fun hHeld => ?_)
        · try dsimp only
          first | exact HCL.out _ HDB6.out HB60.out | exact HCL.out _ HDB5.out HB50.out | exact HCL.out _ HDB.out HKA0.out | exact HCL.out _ HDR.out HKD0.out
        clear hK K
        try simp only [Act.put, List.setIfInBounds_toArray, List.set_cons_zero, List.set_cons_succ]
        refine take_at (i := 23) (d := 50) (v := ?_) rfl (by kernel_rfl) (by kernel_rfl) (by kernel_rfl) (by kernel_rfl) (fun _ _ _ h => h) (Or.inl ⟨by kernel_rfl, ?_⟩) (by assumption) ?_
        rotate_left
        · intro W hSw
          try dsimp only at hSw
          go_simp
          first | done | with_reducible rfl
        try simp only [Act.put, List.setIfInBounds_toArray, List.set_cons_zero, List.set_cons_succ]
        refine wpAnyH_ready (rs := [24]) (by kernel_rfl) (by simp) (AllReadyH.cons rfl (fun K hK => ?_) AllReadyH.nil)
        go_simp
        try go_wp2_with fail
        refine hK.out _ _ ?_ (fun hHeld => ?_)
        · try dsimp only
          first | exact HCL.out _ HDB6.out HB60.out | exact HCL.out _ HDB5.out HB50.out | exact HCL.out _ HDB.out HKA0.out | exact HCL.out _ HDR.out HKD0.out
        clear hK K
        refine wpAnyH_done (by kernel_rfl) ?_ _
        go_wp2_with fail
        go_roundw
        case rel =>
          refine ⟨n + 1, n + 1, A5, c5, by omega, by go_num, HDB6.out, HB60.out, ?_, ?_, ?_⟩
          · exact ((Upd.refl (w.heap.size + 1 + 1) w5).set_ 2 _).blk HB51.out (by omega)
          · simpa using HB52.out.set_ 2 (.slice A5 (n + 1) c5)
          · exact row_upd HO5.out HB52.out (by decide) ((Upd.refl (w.heap.size + 1 + 1) w5).set_ 2 _)
        case measure => simp [intOf]; omega
      · go_simp
        try go_wp2_with fail
        refine hK.out _ _ ?_ (fun hHeld => ?_)
        · try dsimp only
          first | exact HCL.out _ HDB6.out HB60.out | exact HCL.out _ HDB5.out HB50.out | exact HCL.out _ HDB.out HKA0.out | exact HCL.out _ HDR.out HKD0.out
        clear hK K
        try simp only [Act.put, List.setIfInBounds_toArray, List.set_cons_zero, List.set_cons_succ]
        refine wpAnyH_ready (rs := [1]) (by kernel_rfl) (by simp) (AllReadyH.cons rfl (fun K hK => ?_) AllReadyH.nil)
        go_simp
        try go_wp2_with fail
        refine hK.out _ _ ?_ (fun hHeld => ?_)
        · try dsimp only
          first | exact HCL.out _ HDB6.out HB60.out | exact HCL.out _ HDB5.out HB50.out | exact HCL.out _ HDB.out HKA0.out | exact HCL.out _ HDR.out HKD0.out
        clear hK K
        try simp only [Act.put, List.setIfInBounds_toArray, List.set_cons_zero, List.set_cons_succ]
        refine wpAnyH_ready (rs := [22]) (by kernel_rfl) (by simp) (AllReadyH.cons rfl (fun K hK => ?_) AllReadyH.nil)
        refine step_append_any _ rfl (.tmp 28) (.tmp 48) 38 rfl w.heap.size 58 i0 (.agg #[.int .i64 0, .string ⟨#[]⟩, .string ⟨#[]⟩]) 3 40 Try.underlying38 HIT.out hz0 hz1 hz2 rfl (by decide) (.slice B n cc) n _ rfl (by exact HOWA.out) _ (some ⟨wr.heap.size, 0, none⟩) 1 1 ([((m, nm, id) : ItM)].flatMap itC) rfl (by exact HRA.out) (itC_one [(m, nm, id)]) (by unfold maxLen; omega) (by omega) (by exact HZA.out) ?_
        intro v5 w5 ho5 hg5 hk5
        have HG5 := Lib.hid hg5
        have HB50 := Lib.hid (HKA0.out.grown hg5 HNV0.out)
        have HB51 := Lib.hid (HKA1.out.grown hg5 HNV1.out)
        have HB52 := Lib.hid (HKA2.out.grown hg5 HNV2.out)
        have y2b := HB52.out.cell 2
        have g2b := HB52.out.frozen 2
        have HO5 : Hid (OwnI 58 w5 w.heap.size v5 (I.take (n + 1))) := (by unfold Hid OwnI; rw [HSN.out, List.length_append, List.length_take, HL2.out, Nat.min_eq_left (by omega), List.flatMap_append]; exact ho5)
        have HDB5 : Hid (Below w.heap.size w w5) := HDB.out.grown hg5 HZA.out (fun k hk => (World.ownsRow.lt HOWA.out k hk).1)
        obtain ⟨A5, c5, hv5, _⟩ := HO5.out.slI
        rw [List.length_take, HL2.out, Nat.min_eq_left (by omega)] at hv5
        subst hv5
        clear ho5 hg5 hk5
        have HDB6 : Hid (Below w.heap.size w (w5.setCell ⟨w.heap.size + 1 + 1, 2, none⟩ (.slice A5 (n + 1) c5))) := ((Upd.refl (w.heap.size + 1 + 1) w5).set_ 2 _).below (by omega) HDB5.out.size |> HDB5.out.trans
        have HB60 : Hid (Blk (w5.setCell ⟨w.heap.size + 1 + 1, 2, none⟩ (.slice A5 (n + 1) c5)) w.heap.size 32 #[.int .i64 k0, .slice A l c, .slice (some ad) l2 c2, .string (str T), .slice A3 l3 c3, .int .i64 st, .int .i64 au, .string (str ms)]) := ((Upd.refl (w.heap.size + 1 + 1) w5).set_ 2 _).blk HB50.out (by omega)
        try go_wp2_with fail
        refine hK.out _ _ ?_ (fun hHeld => ?_)
        · try dsimp only
          first | exact HCL.out _ HDB6.out HB60.out | exact HCL.out _ HDB5.out HB50.out | exact HCL.out _ HDB.out HKA0.out | exact HCL.out _ HDR.out HKD0.out
        clear hK K
        try simp only [Act.put, List.setIfInBounds_toArray, List.set_cons_zero, List.set_cons_succ]
        refine take_at (i := 23) (d := 50) (v := ?_) rfl (by kernel_rfl) (by kernel_rfl) (by kernel_rfl) (by kernel_rfl) (fun _ _ _ h => h) (Or.inl ⟨by kernel_rfl, ?_⟩) (by assumption) ?_
        rotate_left
        · intro W hSw
          try dsimp only at hSw
          go_simp
          first | done | with_reducible rfl
        try simp only [Act.put, List.setIfInBounds_toArray, List.set_cons_zero, List.set_cons_succ]
        refine wpAnyH_ready (rs := [24]) (by kernel_rfl) (by simp) (AllReadyH.cons rfl (fun K hK => ?_) AllReadyH.nil)
        go_simp
        try go_wp2_with fail
        refine hK.out _ _ ?_ (fun hHeld => ?_)
        · try dsimp only
          first | exact HCL.out _ HDB6.out HB60.out | exact HCL.out _ HDB5.out HB50.out | exact HCL.out _ HDB.out HKA0.out | exact HCL.out _ HDR.out HKD0.out
        clear hK K
        refine wpAnyH_done (by kernel_rfl) ?_ _
        go_wp2_with fail
        go_roundw
        case rel =>
          refine ⟨n + 1, n + 1, A5, c5, by omega, by go_num, HDB6.out, HB60.out, ?_, ?_, ?_⟩
          · exact ((Upd.refl (w.heap.size + 1 + 1) w5).set_ 2 _).blk HB51.out (by omega)
          · simpa using HB52.out.set_ 2 (.slice A5 (n + 1) c5)
          · exact row_upd HO5.out HB52.out (by decide) ((Upd.refl (w.heap.size + 1 + 1) w5).set_ 2 _)
        case measure => simp [intOf]; omega
    · obtain rfl : k = l2 := by omega
      obtain ⟨y0, y1, y2, y3, y4, y5, y6, y7⟩ := box_cells hk2
      obtain ⟨z0, z1, z2, z3, z4, z5, z6, z7⟩ := box_cells HK1.out
      obtain ⟨f0, f1, f2, f3, f4, f5, f6, f7⟩ := cells8 HK1.out
      clear hk2
      go_wp2_with fail
      change bodyPost _ _ _ _ _ (set8 wr (w.heap.size + 1) (.int .i64 k0) (.slice A l c) (.slice B n cc) (.string (str T)) (.slice A3 l3 c3) (.int .i64 st) (.int .i64 au) (.string (str ms)))
      have hb8 := set8_blk HK1.out (.int .i64 k0) (.slice A l c) (.slice B n cc) (.string (str T)) (.slice A3 l3 c3) (.int .i64 st) (.int .i64 au) (.string (str ms))
      have hu8 := set8_upd wr (w.heap.size + 1) (.int .i64 k0) (.slice A l c) (.slice B n cc) (.string (str T)) (.slice A3 l3 c3) (.int .i64 st) (.int .i64 au) (.string (str ms))
      obtain ⟨wc, hwc⟩ : ∃ wc, wc = set8 wr (w.heap.size + 1) (.int .i64 k0) (.slice A l c) (.slice B n cc) (.string (str T)) (.slice A3 l3 c3) (.int .i64 st) (.int .i64 au) (.string (str ms)) := ⟨_, rfl⟩
      rw [← hwc] at hb8 hu8 ⊢
      obtain ⟨q0, q1, q2, q3, q4, q5, q6, q7⟩ := box_cells hb8
      refine bodyPost_ret (v := .agg #[.int .i64 k0, .slice A l c, .slice B n cc, .string (str T), .slice A3 l3 c3, .int .i64 st, .int .i64 au, .string (str ms)]) (by simp [results, Try.results16, go_sem, q0, q1, q2, q3, q4, q5, q6, q7]) rfl ?_
      have hbw : Below w.heap.size w wc := HB.out.trans (hu8.below (by omega) HB.out.size)
      refine ⟨_, rfl, ⟨_, _, _, rfl, HD.out.below hbw, ?_, HP.out.below hbw⟩, hbw⟩
      have h9 : OwnI 58 wc w.heap.size (.slice B n cc) (I.take k) := row_upd HO.out HK1.out (by decide) hu8
      have h8 := h9.slI
      rw [List.take_of_length_le (by rw [HL2.out]; exact Nat.le_refl _)] at h8
      exact h8
end Go.Proofs.Ytcmlofgkcalhnaa.Ob
