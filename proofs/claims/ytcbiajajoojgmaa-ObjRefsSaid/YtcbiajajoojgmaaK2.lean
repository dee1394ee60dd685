/- Texts put together: Ob10, Ob11, Ob12, Ob13, Ob14, Ob16, Ob17, Ob18, Ob19, Ob20, St0, ObIn, OCp. -/
import Derived.Test.YtcbiajajoojgmaaK1
import Derived.IntWalk
import Derived.Deep.Slices
import Derived.Deep.Fields
import Derived.ChangeSame
import Derived.OpenShut
import Derived.ShutString
import Derived.ChangeOld
import Derived.WideShapes
/- obj: Encode. -/
namespace Go.Proofs.Ytcbiajajoojgmaa.Ob
open Go.RowKit Go.Proofs.Ytcbiajajoojgmaa.Sh
open Go.Proofs.Ytcbiajajoojgmaa.Tx (OwnV SlV sv bl nameB reads_at texts_at toList_ne')

def encL (o : ObM) : List UInt8 := [UInt8.ofNat o.kind.toNat] ++ (if o.kind = 1 then o.data else if o.kind = 2 then encIs o.items else encC o)
def EncPost (w : World) (o : ObM) (e : Ending) (w' : World) : Prop :=
  (mayB o = true → ∃ u, e = .returned (.tuple #[u, .int .i64 0]) ∧ Own w' w.heap.size u (encL o)) ∧ (mayB o = false → e = .returned (.tuple #[.slice none 0 0, .int .i64 1])) ∧ Below w.heap.size w w'
theorem own_one (w : World) (k : Int) (u : UInt8) (hu : bi u = k) : Own (w.alloc (.cells #[.int .u8 k] 5)) w.heap.size (.slice (some ⟨w.heap.size, 0, none⟩) 1 1) [u] := by
  subst hu
  refine ⟨rfl, .inr ⟨w.heap.size, 1, _, rfl, Nat.le_refl _, heap_alloc_new w _, Nat.le_refl _, by unfold maxLen; omega, rfl, rfl⟩⟩
theorem blobB_of {o : ObM} (h : blobB o = true) : o.data.length ≤ 20000 ∧ { o with data := [] } = objK 1 := by
  unfold blobB at h
  rw [Bool.and_eq_true, decide_eq_true_eq, sameB_iff] at h
  exact h
theorem treeB_of {o : ObM} (h : treeB o = true) : itemsB o.items = true ∧ { o with items := [] } = objK 2 := by
  unfold treeB at h
  rw [Bool.and_eq_true, sameB_iff] at h
  exact h
theorem mayB_kind {o : ObM} (h : mayB o = true) : (o.kind = 1 ∧ blobB o = true) ∨ (o.kind = 2 ∧ treeB o = true) ∨ (o.kind = 3 ∧ commB o = true) := by
  unfold mayB at h
  split at h
  · exact .inl ⟨by assumption, h⟩
  · split at h
    · exact .inr (.inl ⟨by assumption, h⟩)
    · split at h
      · exact .inr (.inr ⟨by assumption, h⟩)
      · cases h
theorem bi_1 : bi 1 = 1 := by unfold bi; rfl
theorem bi_2 : bi 2 = 2 := by unfold bi; rfl
theorem bi_3 : bi 3 = 3 := by unfold bi; rfl
set_option maxRecDepth 100000 in
set_option maxHeartbeats 3200000 in
theorem encode_any (v : Value) (o : ObM) (w : World) (h : ObV w v o) : Calls Try.prog 12 #[v] w (EncPost w o) := by
  obtain ⟨d, it, ps, rfl, hd, hi, hp⟩ := h
  obtain ⟨k, D, I, T, P, st, au, ms⟩ := o
  replace hd : Sl w d D := hd
  replace hi : SlI w it I := hi
  replace hp : SlV w ps ((P.map str).map sv) := hp
  have HD := Lib.hid hd
  have HI := Lib.hid hi
  have HP := Lib.hid hp
  obtain ⟨A, c, rfl, hlc, hcm, _⟩ := hd
  obtain ⟨A2, c2, rfl, hlc2, hcm2, _⟩ := hi
  obtain ⟨A3, c3, rfl, hlc3, hcm3, _⟩ := hp
  unfold maxLen at hcm hcm2 hcm3
  simp only [List.length_map] at hlc3 HP ⊢
  obtain ⟨l, hl⟩ : ∃ l, D.length = l := ⟨_, rfl⟩
  obtain ⟨l2, hl2⟩ : ∃ l, I.length = l := ⟨_, rfl⟩
  obtain ⟨l3, hl3⟩ : ∃ l, P.length = l := ⟨_, rfl⟩
  rw [hl] at hlc HD ⊢
  rw [hl2] at hlc2 HI ⊢
  rw [hl3] at hlc3 HP ⊢
  have HL := Lib.hid hl
  clear hl hl2 hl3
  have HB1 : Hid (Below w.heap.size w (w.alloc (.cells #[.int .i64 k, .slice A l c, .slice A2 l2 c2, .string (str T), .slice A3 l3 c3, .int .i64 st, .int .i64 au, .string (str ms)] 26))) := (Below.refl _ _).alloc (Nat.le_refl _) _
  have HK1 : Hid (Blk (w.alloc (.cells #[.int .i64 k, .slice A l c, .slice A2 l2 c2, .string (str T), .slice A3 l3 c3, .int .i64 st, .int .i64 au, .string (str ms)] 26)) w.heap.size 26 #[.int .i64 k, .slice A l c, .slice A2 l2 c2, .string (str T), .slice A3 l3 c3, .int .i64 st, .int .i64 au, .string (str ms)]) := Blk.new _ _ _
  have HV : Hid (ObV w (.agg #[.int .i64 k, .slice A l c, .slice A2 l2 c2, .string (str T), .slice A3 l3 c3, .int .i64 st, .int .i64 au, .string (str ms)]) ⟨k, D, I, T, P, st, au, ms⟩) := ⟨_, _, _, rfl, HD.out, HI.out, HP.out⟩
  obtain ⟨t, ht⟩ : ∃ t, mayB ⟨k, D, I, T, P, st, au, ms⟩ = t := ⟨_, rfl⟩
  have HT := Lib.hid ht
  clear ht
  go_enter Try.func12, Try.ntmps12
  go_wp2_with fail
  refine (may_any _ ⟨k, D, I, T, P, st, au, ms⟩ _ (HV.out.below HB1.out)).mono ?_
  rw [HT.out]
  rintro e w1 ⟨rfl, hb1⟩
  have HB2 := Lib.hid (Below.after HB1.out hb1)
  have HK2 := Lib.hid (HK1.out.below hb1 HK1.out.lt)
  have hwz : w.heap.size ≤ w1.heap.size := HB2.out.size
  clear hb1
  cases t with
  | false =>
    go_wp2_with fail
    go_ret2
    exact ⟨fun h => by rw [HT.out] at h; (cases h), fun _ => rfl, HB2.out⟩
  | true =>
    have hkd := mayB_kind HT.out
    obtain ⟨x0, x1, x2, x3, x4, x5, x6, x7⟩ := box_cells HK2.out
    rcases hkd with ⟨rfl, hkb⟩ | ⟨rfl, hkb⟩ | ⟨rfl, hkb⟩
    · have hlen := (blobB_of hkb).1
      have hsm : [(1 : UInt8)].length + l ≤ 140737488355328 := by
        have : D.length ≤ 20000 := hlen
        rw [HL.out] at this
        rw [List.length_singleton]
        omega
      have HO2 : Hid (Own (w1.alloc (.cells #[.int .u8 1] 5)) w1.heap.size (.slice (some ⟨w1.heap.size, 0, none⟩) 1 1) [1]) := own_one w1 1 1 bi_1
      have HK3 : Hid (Blk (w1.alloc (.cells #[.int .u8 1] 5)) w.heap.size 26 #[.int .i64 1, .slice A l c, .slice A2 l2 c2, .string (str T), .slice A3 l3 c3, .int .i64 st, .int .i64 au, .string (str ms)]) := HK2.out.alloc _
      obtain ⟨y0, y1, y2, y3, y4, y5, y6, y7⟩ := box_cells HK3.out
      have HA2 : Hid (Below w.heap.size w (w1.alloc (.cells #[.int .u8 1] 5))) := HB2.out.alloc hwz _
      have HR : Hid (Reads (w1.alloc (.cells #[.int .u8 1] 5)) (w1.alloc (.cells #[.int .u8 1] 5)).heap.size 1 A l (D.map bv)) := by
        obtain ⟨A', c', hv, _, _, hI, _⟩ := HD.out.below HA2.out
        injection hv with e1 e2 e3
        subst e1
        have := hI.reads
        rw [HL.out] at this
        exact this
      have hz : w1.heap.size ≤ (w1.alloc (.cells #[.int .u8 1] 5)).heap.size := by simp
      have HKB := Lib.hid hkb
      clear hkb hlen
      go_wp2_with (at_builtin; refine app_bytes rfl (.tmp 16) (.tmp 18) rfl _ w1.heap.size _ [1] rfl HO2.out _ A l c D rfl HR.out hsm hz ?_; intro v3 w3 ho3 hb3; have HO3 := Lib.hid ho3; have HB3 := Lib.hid hb3; clear ho3 hb3)
      go_ret2
      refine ⟨fun _ => ⟨v3, rfl, ?_⟩, (fun h => by rw [HT.out] at h; cases h), HA2.out.trans (HB3.out.below.mono hwz)⟩
      exact Own.based HO3.out hwz
    · have HKB := Lib.hid hkb
      have HO2 : Hid (Own (w1.alloc (.cells #[.int .u8 2] 5)) w1.heap.size (.slice (some ⟨w1.heap.size, 0, none⟩) 1 1) [2]) := own_one w1 2 2 bi_2
      have HK3 : Hid (Blk (w1.alloc (.cells #[.int .u8 2] 5)) w.heap.size 26 #[.int .i64 2, .slice A l c, .slice A2 l2 c2, .string (str T), .slice A3 l3 c3, .int .i64 st, .int .i64 au, .string (str ms)]) := HK2.out.alloc _
      obtain ⟨y0, y1, y2, y3, y4, y5, y6, y7⟩ := box_cells HK3.out
      have HA2 : Hid (Below w.heap.size w (w1.alloc (.cells #[.int .u8 2] 5))) := HB2.out.alloc hwz _
      have HA1 : Hid (Below w1.heap.size w1 (w1.alloc (.cells #[.int .u8 2] 5))) := (Below.refl _ _).alloc (Nat.le_refl _) _
      have hz : w1.heap.size ≤ (w1.alloc (.cells #[.int .u8 2] 5)).heap.size := by simp
      clear hkb
      go_wp2_with fail
      refine (putItems_any _ _ [2] I w1.heap.size w1 _ HO2.out (HI.out.below HB2.out) HA1.out (Nat.le_refl _) hz (treeB_of HKB.out).1 (by decide)).mono ?_
      rintro e w3 ⟨v3, rfl, ho3, hk3⟩
      have HO3 := Lib.hid ho3
      have HB3 := Lib.hid hk3
      clear ho3 hk3 x0 x1 x2 x3 x4 x5 x6 x7 y0 y1 y2 y3 y4 y5 y6 y7
      go_wp2_with fail
      go_ret2
      refine ⟨fun _ => ⟨v3, rfl, ?_⟩, (fun h => by rw [HT.out] at h; cases h), HA2.out.trans (HB3.out.below.mono hwz)⟩
      exact Own.based HO3.out hwz
    · have HKB := Lib.hid hkb
      have HO2 : Hid (Own (w1.alloc (.cells #[.int .u8 3] 5)) w1.heap.size (.slice (some ⟨w1.heap.size, 0, none⟩) 1 1) [3]) := own_one w1 3 3 bi_3
      have HK3 : Hid (Blk (w1.alloc (.cells #[.int .u8 3] 5)) w.heap.size 26 #[.int .i64 3, .slice A l c, .slice A2 l2 c2, .string (str T), .slice A3 l3 c3, .int .i64 st, .int .i64 au, .string (str ms)]) := HK2.out.alloc _
      obtain ⟨y0, y1, y2, y3, y4, y5, y6, y7⟩ := box_cells HK3.out
      have HA2 : Hid (Below w.heap.size w (w1.alloc (.cells #[.int .u8 3] 5))) := HB2.out.alloc hwz _
      have HA1 : Hid (Below w1.heap.size w1 (w1.alloc (.cells #[.int .u8 3] 5))) := (Below.refl _ _).alloc (Nat.le_refl _) _
      have hz : w1.heap.size ≤ (w1.alloc (.cells #[.int .u8 3] 5)).heap.size := by simp
      clear hkb
      go_wp2_with fail
      refine (putCommit_any _ _ [3] ⟨3, D, I, T, P, st, au, ms⟩ w1.heap.size w1 _ HO2.out (HV.out.below HB2.out) HA1.out (Nat.le_refl _) hz (commB_of HKB.out).2.2 (by decide)).mono ?_
      rintro e w3 ⟨v3, rfl, ho3, hk3⟩
      have HO3 := Lib.hid ho3
      have HB3 := Lib.hid hk3
      clear ho3 hk3 x0 x1 x2 x3 x4 x5 x6 x7 y0 y1 y2 y3 y4 y5 y6 y7
      go_wp2_with fail
      go_ret2
      refine ⟨fun _ => ⟨v3, rfl, ?_⟩, (fun h => by rw [HT.out] at h; cases h), HA2.out.trans (HB3.out.below.mono hwz)⟩
      exact Own.based HO3.out hwz
end Go.Proofs.Ytcbiajajoojgmaa.Ob
/- marlaw6: Few. -/
namespace Go.Proofs.Ytcbiajajoojgmaa.Ob
open Go.RowKit Go.Proofs.Ytcbiajajoojgmaa.Sh
open Go.Proofs.Ytcbiajajoojgmaa.Tx (OwnV SlV sv bl nameB reads_at texts_at toList_ne')

structure FewOk (o : ObM) : Prop where
  items : o.items.length ≤ 400
  parents : o.parents.length ≤ 400
  data : o.data.length ≤ 30000
  tree : o.tree.length ≤ 30000
  msg : o.msg.length ≤ 30000
def FewPost (w : World) (o : ObM) (e : Ending) (w' : World) : Prop := ∃ t, e = .returned (.bool t) ∧ (t = true → FewOk o) ∧ Below w.heap.size w w'
set_option maxRecDepth 100000 in
set_option maxHeartbeats 3200000 in
theorem few_any (v : Value) (o : ObM) (w : World) (h : ObV w v o) : Calls Try.prog 10 #[v] w (FewPost w o) := by
  obtain ⟨d, it, ps, rfl, hd, hi, hp⟩ := h
  obtain ⟨k0, D, I, T, P, st, au, ms⟩ := o
  replace hd : Sl w d D := hd
  replace hi : SlI w it I := hi
  replace hp : SlV w ps ((P.map str).map sv) := hp
  obtain ⟨A, c, rfl, hlc, hcm, _⟩ := hd
  obtain ⟨A2, c2, rfl, hlc2, hcm2, _, hRI⟩ := hi
  obtain ⟨A3, c3, rfl, hlc3, hcm3, hRP⟩ := hp.len
  unfold maxLen at hcm hcm2 hcm3
  simp only [List.length_map] at hlc3 hRP ⊢
  obtain ⟨l, hl⟩ : ∃ l, D.length = l := ⟨_, rfl⟩
  obtain ⟨l2, hl2⟩ : ∃ l, I.length = l := ⟨_, rfl⟩
  obtain ⟨l3, hl3⟩ : ∃ l, P.length = l := ⟨_, rfl⟩
  rw [hl] at hlc ⊢
  rw [hl2] at hlc2 ⊢
  rw [hl3] at hlc3 ⊢
  have hT := str_size T
  have hM := str_size ms
  obtain ⟨lt, hlt⟩ : ∃ l, T.length = l := ⟨_, rfl⟩
  obtain ⟨lm, hlm⟩ : ∃ l, ms.length = l := ⟨_, rfl⟩
  rw [hlt] at hT
  rw [hlm] at hM
  have HF : Hid (l2 ≤ 400 → l3 ≤ 400 → l ≤ 30000 → lt ≤ 30000 → lm ≤ 30000 → FewOk ⟨k0, D, I, T, P, st, au, ms⟩) := fun h1 h2 h3 h4 h5 => ⟨by show I.length ≤ 400; omega, by show P.length ≤ 400; omega, by show D.length ≤ 30000; omega, by show T.length ≤ 30000; omega, by show ms.length ≤ 30000; omega⟩
  have HRI := Lib.hid hRI
  have HRP := Lib.hid hRP
  have HL2 := Lib.hid hl2
  have HL3 := Lib.hid hl3
  have HB1 : Hid (Below w.heap.size w (w.alloc (.cells #[.int .i64 k0, .slice A l c, .slice A2 l2 c2, .string (str T), .slice A3 l3 c3, .int .i64 st, .int .i64 au, .string (str ms)] 26))) := (Below.refl _ _).alloc (Nat.le_refl _) _
  have HK1 : Hid (Blk (w.alloc (.cells #[.int .i64 k0, .slice A l c, .slice A2 l2 c2, .string (str T), .slice A3 l3 c3, .int .i64 st, .int .i64 au, .string (str ms)] 26)) w.heap.size 26 #[.int .i64 k0, .slice A l c, .slice A2 l2 c2, .string (str T), .slice A3 l3 c3, .int .i64 st, .int .i64 au, .string (str ms)]) := Blk.new _ _ _
  clear hl hl2 hl3 hlt hlm hRI hRP hp
  go_enter Try.func10, Try.ntmps10
  go_wp2_with fail
  go_loopw [3, 4] (fun s i wr => ∃ (k : Nat) (z : Int), k ≤ l2 ∧ k ≤ 400 ∧ i = .int .i64 k ∧ s = .int .i64 z ∧ 0 ≤ z ∧ z ≤ 120000 ∧ Below w.heap.size w wr ∧ Blk wr w.heap.size 26 #[.int .i64 k0, .slice A l c, .slice A2 l2 c2, .string (str T), .slice A3 l3 c3, .int .i64 st, .int .i64 au, .string (str ms)]) (fun _ i _ => l2 - (intOf i).toNat)
  case atStart => exact ⟨0, 0, Nat.zero_le _, Nat.zero_le _, rfl, rfl, by omega, by omega, HB1.out, HK1.out⟩
  case round =>
    obtain ⟨k, z, hk, hk4, rfl, rfl, hz0, hz1, hb, hbk⟩ := hrel
    have HB := Lib.hid hb
    have HBK := Lib.hid hbk
    clear hb hbk
    have p0 : (0 : Int) ≤ (k : Int) := by omega
    obtain ⟨-, -, x2, -, -, -, -, -⟩ := box_cells HBK.out
    by_cases hlt : k < l2
    · by_cases h400 : k < 400
      · have hkl : k < I.length := by rw [HL2.out]; exact hlt
        obtain ⟨x, hx⟩ : ∃ x, I[k]? = some x := ⟨_, List.getElem?_eq_getElem hkl⟩
        obtain ⟨ad, rfl, c0, c1, c2'⟩ := items_at (HRI.out.below HB.out) rfl k x hx
        clear c0 hx hkl
        obtain ⟨m, nm, id⟩ := x
        replace c1 : wr.cell? ⟨(ad.add (k * 3)).block, (ad.add (k * 3)).off + 1, none⟩ = some (.string (str nm)) := c1
        replace c2' : wr.cell? ⟨(ad.add (k * 3)).block, (ad.add (k * 3)).off + 2, none⟩ = some (.string (str id)) := c2'
        have p1 : (k : Int) < (l2 : Int) := by omega
        have p2 : (k : Int) < 400 := by omega
        generalize str nm = xn at *
        generalize str id = xi at *
        obtain ⟨nl, hnl⟩ : ∃ nl, xn.size = nl := ⟨_, rfl⟩
        obtain ⟨il, hil⟩ : ∃ il, xi.size = il := ⟨_, rfl⟩
        have hm0 : (0 : Int) ≤ min (nl : Int) 30000 ∧ min (nl : Int) 30000 ≤ 30000 := by omega
        have hm1 : (0 : Int) ≤ min (il : Int) 30000 ∧ min (il : Int) 30000 ≤ 30000 := by omega
        have w1 : IntKind.i64.wrap (z + min (nl : Int) 30000) = z + min (nl : Int) 30000 := IntWalk.i64_in _ (by omega)
        have w2 : IntKind.i64.wrap (z + min (nl : Int) 30000 + min (il : Int) 30000) = z + min (nl : Int) 30000 + min (il : Int) 30000 := IntWalk.i64_in _ (by omega)
        go_wp2_with fail
        go_quiet (fail)
        go_wp2_with fail
        go_roundw
        case rel => exact ⟨k + 1, min (z + min (nl : Int) 30000 + min (il : Int) 30000) 120000, by omega, by omega, by go_num, by go_num, by omega, by omega, below_drewN HB.out _, HBK.out.drewN _⟩
        case measure => simp [intOf]; omega
      · have e4 : decide ((k : Int) < 400) = false := by simp; omega
        have p1 : (k : Int) < (l2 : Int) := by omega
        go_wp2_with fail
        obtain ⟨wo, hwo⟩ : ∃ wo, wo = wr := ⟨_, rfl⟩
        subst hwo
        clear x2
        go_loopw [3, 5] (fun s i wr => ∃ (j : Nat) (z : Int), j ≤ l3 ∧ j ≤ 400 ∧ i = .int .i64 j ∧ s = .int .i64 z ∧ 0 ≤ z ∧ z ≤ 120000 ∧ Below w.heap.size w wr ∧ Blk wr w.heap.size 26 #[.int .i64 k0, .slice A l c, .slice A2 l2 c2, .string (str T), .slice A3 l3 c3, .int .i64 st, .int .i64 au, .string (str ms)]) (fun _ i _ => l3 - (intOf i).toNat)
        case atStart => exact ⟨0, z, Nat.zero_le _, Nat.zero_le _, rfl, rfl, by omega, by omega, HB.out, HBK.out⟩
        case round =>
          obtain ⟨j, y, hj, hj4, rfl, rfl, hy0, hy1, hb, hbk⟩ := hrel
          have HB2 := Lib.hid hb
          have HBK2 := Lib.hid hbk
          clear hb hbk
          have q0 : (0 : Int) ≤ (j : Int) := by omega
          obtain ⟨-, x1, x2, x3, x4, -, -, x7⟩ := box_cells HBK2.out
          by_cases hlt2 : j < l3
          · by_cases h402 : j < 400
            · have hjl : j < P.length := by rw [HL3.out]; exact hlt2
              obtain ⟨ad, rfl, cc⟩ := par_at (HRP.out.below HB2.out) j hjl
              clear hjl
              generalize str (P.getD j []) = xn at *
              obtain ⟨nl, hnl⟩ : ∃ nl, xn.size = nl := ⟨_, rfl⟩
              have q1 : (j : Int) < (l3 : Int) := by omega
              have q2 : (j : Int) < 400 := by omega
              have hm0 : (0 : Int) ≤ min (nl : Int) 30000 ∧ min (nl : Int) 30000 ≤ 30000 := by omega
              have w1 : IntKind.i64.wrap (y + min (nl : Int) 30000) = y + min (nl : Int) 30000 := IntWalk.i64_in _ (by omega)
              clear x1 x2 x3 x7
              go_wp2_with fail
              go_roundw
              case rel => exact ⟨j + 1, min (y + min (nl : Int) 30000) 120000, by omega, by omega, by go_num, by go_num, by omega, by omega, HB2.out, HBK2.out⟩
              case measure => simp [intOf]; omega
            · have HFF : Hid (∀ t : Bool, (t = true → l2 ≤ 400 ∧ l3 ≤ 400 ∧ l ≤ 30000 ∧ lt ≤ 30000 ∧ lm ≤ 30000) → t = true → FewOk ⟨k0, D, I, T, P, st, au, ms⟩) := fun t h1 h2 => HF.out (h1 h2).1 (h1 h2).2.1 (h1 h2).2.2.1 (h1 h2).2.2.2.1 (h1 h2).2.2.2.2
              go_wp2_with fail
              all_goals
                go_ret
                exact ⟨_, rfl, HFF.out _ (fun h => by simp at h <;> omega), HB2.out⟩
          · have HFF : Hid (∀ t : Bool, (t = true → l2 ≤ 400 ∧ l3 ≤ 400 ∧ l ≤ 30000 ∧ lt ≤ 30000 ∧ lm ≤ 30000) → t = true → FewOk ⟨k0, D, I, T, P, st, au, ms⟩) := fun t h1 h2 => HF.out (h1 h2).1 (h1 h2).2.1 (h1 h2).2.2.1 (h1 h2).2.2.2.1 (h1 h2).2.2.2.2
            go_wp2_with fail
            all_goals
              go_ret
              exact ⟨_, rfl, HFF.out _ (fun h => by simp at h <;> omega), HB2.out⟩
    · have p1 : (l2 : Int) ≤ (k : Int) := by omega
      go_wp2_with fail
      obtain ⟨wo, hwo⟩ : ∃ wo, wo = wr := ⟨_, rfl⟩
      subst hwo
      clear x2
      go_loopw [3, 5] (fun s i wr => ∃ (j : Nat) (z : Int), j ≤ l3 ∧ j ≤ 400 ∧ i = .int .i64 j ∧ s = .int .i64 z ∧ 0 ≤ z ∧ z ≤ 120000 ∧ Below w.heap.size w wr ∧ Blk wr w.heap.size 26 #[.int .i64 k0, .slice A l c, .slice A2 l2 c2, .string (str T), .slice A3 l3 c3, .int .i64 st, .int .i64 au, .string (str ms)]) (fun _ i _ => l3 - (intOf i).toNat)
      case atStart => exact ⟨0, z, Nat.zero_le _, Nat.zero_le _, rfl, rfl, by omega, by omega, HB.out, HBK.out⟩
      case round =>
        obtain ⟨j, y, hj, hj4, rfl, rfl, hy0, hy1, hb, hbk⟩ := hrel
        have HB2 := Lib.hid hb
        have HBK2 := Lib.hid hbk
        clear hb hbk
        have q0 : (0 : Int) ≤ (j : Int) := by omega
        obtain ⟨-, x1, x2, x3, x4, -, -, x7⟩ := box_cells HBK2.out
        by_cases hlt2 : j < l3
        · by_cases h402 : j < 400
          · have hjl : j < P.length := by rw [HL3.out]; exact hlt2
            obtain ⟨ad, rfl, cc⟩ := par_at (HRP.out.below HB2.out) j hjl
            clear hjl
            generalize str (P.getD j []) = xn at *
            obtain ⟨nl, hnl⟩ : ∃ nl, xn.size = nl := ⟨_, rfl⟩
            have q1 : (j : Int) < (l3 : Int) := by omega
            have q2 : (j : Int) < 400 := by omega
            have hm0 : (0 : Int) ≤ min (nl : Int) 30000 ∧ min (nl : Int) 30000 ≤ 30000 := by omega
            have w1 : IntKind.i64.wrap (y + min (nl : Int) 30000) = y + min (nl : Int) 30000 := IntWalk.i64_in _ (by omega)
            clear x1 x2 x3 x7
            go_wp2_with fail
            go_roundw
            case rel => exact ⟨j + 1, min (y + min (nl : Int) 30000) 120000, by omega, by omega, by go_num, by go_num, by omega, by omega, HB2.out, HBK2.out⟩
            case measure => simp [intOf]; omega
          · have HFF : Hid (∀ t : Bool, (t = true → l2 ≤ 400 ∧ l3 ≤ 400 ∧ l ≤ 30000 ∧ lt ≤ 30000 ∧ lm ≤ 30000) → t = true → FewOk ⟨k0, D, I, T, P, st, au, ms⟩) := fun t h1 h2 => HF.out (h1 h2).1 (h1 h2).2.1 (h1 h2).2.2.1 (h1 h2).2.2.2.1 (h1 h2).2.2.2.2
            go_wp2_with fail
            all_goals
              go_ret
              exact ⟨_, rfl, HFF.out _ (fun h => by simp at h <;> omega), HB2.out⟩
        · have HFF : Hid (∀ t : Bool, (t = true → l2 ≤ 400 ∧ l3 ≤ 400 ∧ l ≤ 30000 ∧ lt ≤ 30000 ∧ lm ≤ 30000) → t = true → FewOk ⟨k0, D, I, T, P, st, au, ms⟩) := fun t h1 h2 => HF.out (h1 h2).1 (h1 h2).2.1 (h1 h2).2.2.1 (h1 h2).2.2.2.1 (h1 h2).2.2.2.2
          go_wp2_with fail
          all_goals
            go_ret
            exact ⟨_, rfl, HFF.out _ (fun h => by simp at h <;> omega), HB2.out⟩
end Go.Proofs.Ytcbiajajoojgmaa.Ob
/- obj: ID, Refs; marlaw6: first. -/
namespace Go.Proofs.Ytcbiajajoojgmaa.Ob
open Go.RowKit Go.Proofs.Ytcbiajajoojgmaa.Sh
open Go.Proofs.Ytcbiajajoojgmaa.Tx (OwnV SlV sv bl nameB reads_at texts_at toList_ne')

def Yes (w : World) (e : Ending) (w' : World) : Prop := e = .returned (.bool true) ∧ Below w.heap.size w w'
theorem sl_hi (w : World) : Sl (w.alloc (.cells #[.int .u8 104, .int .u8 105] 5 (2, 3))) (.slice (some ⟨w.heap.size, 0, none⟩) 2 2) [104, 105] := by
  refine ⟨_, _, rfl, by decide, by unfold maxLen; omega, fun _ => ⟨_, rfl, by simp, fun j hj => ?_⟩, fun h => by cases h⟩
  have h := heap_alloc_new w (.cells #[.int .u8 104, .int .u8 105] 5 (2, 3))
  rw [Addr.add_mid, cell_of_row _ _ _ _ _ _ h, Nat.zero_add]
  have hj' : j = 0 ∨ j = 1 := by simp at hj; omega
  rcases hj' with rfl | rfl <;> (unfold bi; rfl)
theorem enc_hi : encL ⟨1, [104, 105], [], [], [], 0, 0, []⟩ = [1, 104, 105] := rfl
theorem enc_t0 : encL (objK 2) = [2, 0] := by
  unfold encL encIs objK
  rw [if_neg (by decide), if_pos rfl, show ([] : List ItM).length = 0 from rfl, putL_lt (by decide)]
  rfl
theorem may_hi : mayB ⟨1, [104, 105], [], [], [], 0, 0, []⟩ = true := by decide
theorem may_t0 : mayB (objK 2) = true := by decide
set_option maxRecDepth 100000 in
set_option maxHeartbeats 1600000 in
theorem first_any (w : World) : Calls Try.prog 9 #[] w (Yes w) := by
  have kc := fun (w : World) (C : Array Value) (n c : Nat) => Lib.run_convert_bytes_const (P := Try.prog) w 22 5 C n c Try.underlying22 Try.underlying5
  have HB0 : Hid (Below w.heap.size w (w.alloc (.cells #[.int .u8 104, .int .u8 105] 5 (2, 3)))) := (Below.refl _ _).alloc (Nat.le_refl _) _
  have HV0 : Hid (ObV (w.alloc (.cells #[.int .u8 104, .int .u8 105] 5 (2, 3))) (.agg #[.int .i64 1, .slice (some ⟨w.heap.size, 0, none⟩) 2 2, .slice none 0 0, .string ⟨#[]⟩, .slice none 0 0, .int .i64 0, .int .i64 0, .string ⟨#[]⟩]) ⟨1, [104, 105], [], [], [], 0, 0, []⟩) := ⟨_, _, _, rfl, sl_hi w, SlI.nil_ _, SlV.nil_ _⟩
  go_enter Try.func9, Try.ntmps9
  go_wp2_with fail
  refine (encode_any _ ⟨1, [104, 105], [], [], [], 0, 0, []⟩ _ HV0.out).mono ?_
  rintro e w1 ⟨hy, -, hb1⟩
  obtain ⟨u, rfl, hu⟩ := hy may_hi
  rw [enc_hi] at hu
  have HB1 := Lib.hid (Below.after HB0.out hb1)
  have HU := Lib.hid hu.sl
  clear hy hb1 hu kc
  go_wp2_with fail
  refine (encode_any _ (objK 2) w1 (objK_v 2 _)).mono ?_
  rintro e w2 ⟨hy, -, hb2⟩
  obtain ⟨u2, rfl, hu2⟩ := hy may_t0
  rw [enc_t0] at hu2
  have HB2 := Lib.hid (Below.after HB1.out hb2)
  obtain ⟨A, c, rfl, _, _, hI, hA⟩ := HU.out.below hb2
  obtain ⟨A2, c2, rfl, _, _, hI2, hA2⟩ := hu2.sl
  have k1 : (convert 22 9 (.slice A 3 c)).run Try.prog w2 = .ok (.string (str [1, 104, 105])) w2 := conv_str w2 A [1, 104, 105] c hI hA
  have k2 : (convert 22 9 (.slice A2 2 c2)).run Try.prog w2 = .ok (.string (str [2, 0])) w2 := conv_str w2 A2 [2, 0] c2 hI2 hA2
  have t1 := str_toList [1, 104, 105]
  have t2 := str_toList [2, 0]
  clear hy hb2 hu2 hI hA hI2 hA2
  go_wp2_with fail
  go_ret
  exact ⟨rfl, HB2.out⟩
def IDPost (w : World) (o : ObM) (e : Ending) (w' : World) : Prop :=
  (mayB o = true → e = .returned (.tuple #[.string (str (hexL (sumOf (encL o)))), .int .i64 0])) ∧ (mayB o = false → e = .returned (.tuple #[.string (str []), .int .i64 1])) ∧ Below w.heap.size w w'
theorem encC_len {o : ObM} (h : CommOk o.tree o.parents o.stamp o.author o.msg) : (encC o).length ≤ 400 := by
  have h1 := (validB_len h.tree).1
  have h2 := flat_ids_len (parB_of h.par).2
  have h3 := (parB_of h.par).1
  have h4 := putL_len9 (show o.stamp.toNat ≤ 72057594037927936 from by have := h.st1; omega)
  have h5 := putL_len9 (show o.author.toNat ≤ 72057594037927936 from by have := h.au1; omega)
  have h6 := msgB_len h.msg
  have h7 := putL_len9 (show o.msg.length ≤ 72057594037927936 from by omega)
  unfold encC
  simp only [List.length_append, List.length_singleton, unhexL_length]
  omega
theorem encL_len {o : ObM} (h : mayB o = true) : (encL o).length ≤ 40000 := by
  unfold encL
  rcases mayB_kind h with ⟨h1, h2⟩ | ⟨h1, h2⟩ | ⟨h1, h2⟩
  · have := (blobB_of h2).1
    rw [if_pos h1, List.length_append, List.length_singleton]
    omega
  · have h3 := itemsB_of (treeB_of h2).1
    have h4 := encIs_len h3.2
    have h5 := putL_len9 (show o.items.length ≤ 72057594037927936 from by omega)
    rw [if_neg (by omega), if_pos h1]
    unfold encIs
    rw [List.length_append, List.length_append, List.length_singleton]
    omega
  · have := encC_len (commB_of h2).2.2
    rw [if_neg (by omega), if_neg (by omega), List.length_append, List.length_singleton]
    omega
set_option maxRecDepth 100000 in
set_option maxHeartbeats 1600000 in
theorem objID_any (v : Value) (o : ObM) (w : World) (h : ObV w v o) : Calls Try.prog 25 #[v] w (IDPost w o) := by
  have HV := Lib.hid h
  obtain ⟨d, it, ps, rfl, hd, hi, hp⟩ := h
  have HB1 : Hid (Below w.heap.size w (w.alloc (.cells #[.int .i64 o.kind, d, it, .string (str o.tree), ps, .int .i64 o.stamp, .int .i64 o.author, .string (str o.msg)] 26))) := (Below.refl _ _).alloc (Nat.le_refl _) _
  clear hd hi hp
  obtain ⟨t, ht⟩ : ∃ t, mayB o = t := ⟨_, rfl⟩
  have HT := Lib.hid ht
  clear ht
  go_enter Try.func25, Try.ntmps25
  go_wp2_with fail
  refine (encode_any _ o _ (HV.out.below HB1.out)).mono ?_
  rintro e w1 ⟨hy, hn, hb1⟩
  have HB2 := Lib.hid (Below.after HB1.out hb1)
  cases t with
  | false =>
    obtain rfl := hn HT.out
    clear hy hn hb1
    go_wp2_with fail
    go_ret2
    exact ⟨fun h => by rw [HT.out] at h; (cases h), fun _ => rfl, HB2.out⟩
  | true =>
    obtain ⟨u, rfl, hu⟩ := hy HT.out
    have HU := Lib.hid hu.sl
    clear hy hn hb1 hu
    go_wp2_with fail
    refine (id_any u (encL o) w1 HU.out (by have := encL_len HT.out; omega)).mono ?_
    rintro e w2 ⟨rfl, hb2⟩
    have HB3 := Lib.hid (Below.after HB2.out hb2)
    clear hb2
    go_wp2_with fail
    go_ret2
    exact ⟨fun _ => rfl, fun h => by rw [HT.out] at h; (cases h), HB3.out⟩
end Go.Proofs.Ytcbiajajoojgmaa.Ob
/- The reader of an object's bytes, plain: what it reads of what was written, and what was written where it read. -/
namespace Go.Proofs.Ytcbiajajoojgmaa.Ob
open Go.Proofs.Ytcbiajajoojgmaa.Sh
open Go.Proofs.Ytcbiajajoojgmaa.Tx (nameB bl)

/-- What is left; has it failed? -/
abbrev Rdr := List UInt8 × Bool
def takeR (s : Rdr) (n : Nat) : List UInt8 × Rdr := if s.1.length < n then ([], ([], true)) else (s.1.take n, (s.1.drop n, s.2))
def octR (s : Rdr) : Nat × Rdr := (((takeR s 1).1.headD 0).toNat, (takeR s 1).2)
def numR (s : Rdr) : Nat × Rdr := if (getE s.1).2.2 = 0 then ((getE s.1).1, (s.1.drop (getE s.1).2.1, s.2)) else (0, ([], true))
def textR (s : Rdr) : List UInt8 × Rdr := takeR (numR s).2 (numR s).1
def hashR (s : Rdr) : List UInt8 × Rdr := (hexL (takeR s 32).1, (takeR s 32).2)
def itemR (s : Rdr) : ItM × Rdr := ((((octR s).1 : Int), (textR (octR s).2).1, (hashR (textR (octR s).2).2).1), (hashR (textR (octR s).2).2).2)
def itemsR : Nat → Rdr → List ItM × Rdr
  | 0, s => ([], s)
  | n + 1, s => if s.2 = true then ([], s) else ((itemR s).1 :: (itemsR n (itemR s).2).1, (itemsR n (itemR s).2).2)
def idsR : Nat → Rdr → List (List UInt8) × Rdr
  | 0, s => ([], s)
  | n + 1, s => ((hashR s).1 :: (idsR n (hashR s).2).1, (idsR n (hashR s).2).2)
structure ComM where
  tree : List UInt8
  parents : List (List UInt8)
  stamp : Nat
  author : Nat
  msg : List UInt8
def commM (t : List UInt8) (ids : List (List UInt8)) (st au : Nat) (s : Rdr) : ComM × Rdr := (⟨t, ids, st, au, (textR s).1⟩, (textR s).2)
def commA (t : List UInt8) (ids : List (List UInt8)) (st : Nat) (s : Rdr) : ComM × Rdr := commM t ids st (numR s).1 (numR s).2
def commS (t : List UInt8) (ids : List (List UInt8)) (s : Rdr) : ComM × Rdr := commA t ids (numR s).1 (numR s).2
def commP (t : List UInt8) (s : Rdr) : ComM × Rdr := commS t (idsR (octR s).1 (octR s).2).1 (idsR (octR s).1 (octR s).2).2
def commR (s : Rdr) : ComM × Rdr := commP (hashR s).1 (hashR s).2
def objS (k : Nat) (s : Rdr) : ObM × Rdr :=
  if k = 1 then (⟨1, s.1, [], [], [], 0, 0, []⟩, ([], s.2))
  else if k = 2 then (⟨2, [], (itemsR (numR s).1 (numR s).2).1, [], [], 0, 0, []⟩, (itemsR (numR s).1 (numR s).2).2)
  else if k = 3 then (⟨3, [], [], (commR s).1.tree, (commR s).1.parents, (commR s).1.stamp, (commR s).1.author, (commR s).1.msg⟩, (commR s).2)
  else (objK k, s)
def objR (b : List UInt8) : ObM × Rdr := objS (octR (b, false)).1 (octR (b, false)).2
theorem pe {α β : Type} (p : α × β) : p = (p.1, p.2) := rfl
def decB (b : List UInt8) : Bool := !(objR b).2.2 && (objR b).2.1.isEmpty && mayB (objR b).1

/-! There. -/
theorem takeR_app (x r : List UInt8) (f : Bool) (n : Nat) (hn : x.length = n) : takeR (x ++ r, f) n = (x, (r, f)) := by
  subst hn
  unfold takeR
  rw [if_neg (by simp)]
  simp
theorem octR_cons (c : UInt8) (r : List UInt8) (f : Bool) : octR (c :: r, f) = (c.toNat, (r, f)) := by
  unfold octR
  rw [show (c :: r) = [c] ++ r from rfl, takeR_app [c] r f 1 rfl]
  rfl
theorem numR_app {n : Nat} (h : n ≤ 72057594037927936) (r : List UInt8) (f : Bool) : numR (putL n ++ r, f) = (n, (r, f)) := by
  unfold numR
  rw [getE_putL h r, if_pos rfl]
  simp
theorem textR_app {t : List UInt8} (h : t.length ≤ 72057594037927936) (r : List UInt8) (f : Bool) : textR (putL t.length ++ t ++ r, f) = (t, (r, f)) := by
  unfold textR
  rw [List.append_assoc, numR_app h]
  exact takeR_app t r f _ rfl
theorem hashR_app {id : List UInt8} (h : validB id = true) (r : List UInt8) (f : Bool) : hashR (unhexL id ++ r, f) = (id, (r, f)) := by
  obtain ⟨h1, h2⟩ := validB_len h
  unfold hashR
  rw [takeR_app (unhexL id) r f 32 (by rw [unhexL_length, h1])]
  simp only [hexL_unhexL id h2]
theorem itemR_app {x : ItM} (h : itB x = true) (r : List UInt8) (f : Bool) : itemR (encI x ++ r, f) = (x, (r, f)) := by
  obtain ⟨h1, h2, h3, h4⟩ := itB_of h
  have hl := nameB_len h3
  unfold itemR encI
  rw [show [UInt8.ofNat x.1.toNat] ++ (putL x.2.1.length ++ x.2.1) ++ unhexL x.2.2 ++ r = UInt8.ofNat x.1.toNat :: (putL x.2.1.length ++ x.2.1 ++ (unhexL x.2.2 ++ r)) from by simp]
  rw [octR_cons]
  simp only
  rw [textR_app (by omega)]
  simp only
  rw [hashR_app h4]
  have e : (((UInt8.ofNat x.1.toNat).toNat : Nat) : Int) = x.1 := by
    rw [UInt8.toNat_ofNat']
    omega
  rw [e]
theorem itemsR_app {l : List ItM} (h : ∀ x ∈ l, itB x = true) (r : List UInt8) : itemsR l.length (l.flatMap encI ++ r, false) = (l, (r, false)) := by
  induction l with
  | nil => rfl
  | cons x l ih =>
    rw [List.length_cons, itemsR, if_neg (by simp), List.flatMap_cons, List.append_assoc, itemR_app (h x (by simp))]
    simp only
    rw [ih (fun y hy => h y (by simp [hy]))]
theorem idsR_app {l : List (List UInt8)} (h : ∀ x ∈ l, validB x = true) (r : List UInt8) (f : Bool) : idsR l.length (l.flatMap unhexL ++ r, f) = (l, (r, f)) := by
  induction l with
  | nil => rfl
  | cons x l ih =>
    rw [List.length_cons, idsR, List.flatMap_cons, List.append_assoc, hashR_app (h x (by simp))]
    simp only
    rw [ih (fun y hy => h y (by simp [hy]))]
theorem mem_of_at {α : Type} {l : List α} {P : α → Prop} (h : ∀ (k : Nat) (x : α), l[k]? = some x → P x) : ∀ x ∈ l, P x := by
  intro x hx
  obtain ⟨k, hk, e⟩ := List.getElem_of_mem hx
  exact h k x (by rw [List.getElem?_eq_getElem hk, e])
theorem commR_app {o : ObM} (h : CommOk o.tree o.parents o.stamp o.author o.msg) : commR (encC o, false) = (⟨o.tree, o.parents, o.stamp.toNat, o.author.toNat, o.msg⟩, ([], false)) := by
  have hp := parB_of h.par
  have hm := msgB_len h.msg
  have e : encC o = unhexL o.tree ++ (UInt8.ofNat o.parents.length :: (o.parents.flatMap unhexL ++ (putL o.stamp.toNat ++ (putL o.author.toNat ++ (putL o.msg.length ++ o.msg ++ []))))) := by
    unfold encC
    simp
  rw [e]
  unfold commR
  rw [hashR_app h.tree]
  unfold commP
  rw [octR_cons]
  rw [show (UInt8.ofNat o.parents.length).toNat = o.parents.length from by rw [UInt8.toNat_ofNat']; omega]
  rw [idsR_app (mem_of_at hp.2)]
  unfold commS
  rw [numR_app (by have := h.st1; omega)]
  unfold commA
  rw [numR_app (by have := h.au1; omega)]
  unfold commM
  rw [textR_app (by omega)]
theorem obm_eq {o p : ObM} (h1 : o.kind = p.kind) (h2 : o.data = p.data) (h3 : o.items = p.items) (h4 : o.tree = p.tree) (h5 : o.parents = p.parents) (h6 : o.stamp = p.stamp) (h7 : o.author = p.author) (h8 : o.msg = p.msg) : o = p := by
  cases o; cases p; simp_all
theorem objR_enc {o : ObM} (h : mayB o = true) : objR (encL o) = (o, ([], false)) := by
  unfold objR
  rcases mayB_kind h with ⟨hk, hb⟩ | ⟨hk, hb⟩ | ⟨hk, hb⟩
  · have e : encL o = UInt8.ofNat 1 :: o.data := by
      unfold encL
      rw [if_pos hk, hk]
      rfl
    rw [e, octR_cons]
    show objS 1 (o.data, false) = _
    unfold objS
    rw [if_pos rfl]
    have h2 := (blobB_of hb).2
    unfold objK at h2
    injection h2 with a1 a2 a3 a4 a5 a6 a7 a8
    congr 1
    exact obm_eq a1.symm rfl a3.symm a4.symm a5.symm a6.symm a7.symm a8.symm
  · have e : encL o = UInt8.ofNat 2 :: (putL o.items.length ++ (o.items.flatMap encI ++ [])) := by
      unfold encL
      rw [if_neg (by omega), if_pos hk, hk]
      unfold encIs
      simp
    have hi := itemsB_of (treeB_of hb).1
    rw [e, octR_cons]
    show objS 2 (putL o.items.length ++ (o.items.flatMap encI ++ []), false) = _
    unfold objS
    rw [if_neg (by decide), if_pos rfl, numR_app (by omega)]
    rw [itemsR_app (mem_of_at hi.2)]
    have h2 := (treeB_of hb).2
    unfold objK at h2
    injection h2 with a1 a2 a3 a4 a5 a6 a7 a8
    congr 1
    exact obm_eq a1.symm a2.symm rfl a4.symm a5.symm a6.symm a7.symm a8.symm
  · have e : encL o = UInt8.ofNat 3 :: encC o := by
      unfold encL
      rw [if_neg (by omega), if_neg (by omega), hk]
      rfl
    obtain ⟨c1, c2, c3⟩ := commB_of hb
    rw [e, octR_cons]
    show objS 3 (encC o, false) = _
    unfold objS
    rw [if_neg (by decide), if_neg (by decide), if_pos rfl, commR_app c3]
    congr 1
    exact obm_eq hk.symm c1.symm c2.symm rfl rfl (by show ((o.stamp.toNat : Nat) : Int) = o.stamp; have := c3.st0; omega) (by show ((o.author.toNat : Nat) : Int) = o.author; have := c3.au0; omega) rfl
theorem encL_inj {o p : ObM} (h : mayB o = true) (h' : mayB p = true) (e : encL o = encL p) : o = p := by
  have h1 := objR_enc h
  rw [e, objR_enc h'] at h1
  exact (congrArg Prod.fst h1).symm
theorem decB_enc {o : ObM} (h : mayB o = true) : decB (encL o) = true := by
  unfold decB
  rw [objR_enc h]
  simp [h]

/-! And back. -/
theorem takeR_back {s s' : Rdr} {n : Nat} {x : List UInt8} (h : takeR s n = (x, s')) (hf : s'.2 = false) : s.2 = false ∧ s.1 = x ++ s'.1 ∧ x.length = n := by
  unfold takeR at h
  split at h
  · injection h with h1 h2
    subst h2
    cases hf
  · injection h with h1 h2
    subst h1 h2
    exact ⟨hf, (List.take_append_drop n s.1).symm, by rw [List.length_take]; omega⟩
theorem octR_back {s s' : Rdr} {n : Nat} (h : octR s = (n, s')) (hf : s'.2 = false) : s.2 = false ∧ s.1 = UInt8.ofNat n :: s'.1 ∧ n < 256 := by
  unfold octR at h
  injection h with h1 h2
  obtain ⟨g1, g2, g3⟩ := takeR_back (s := s) (n := 1) (x := (takeR s 1).1) (s' := s') (by rw [← h2]) hf
  obtain ⟨c, hc⟩ : ∃ c, (takeR s 1).1 = [c] := by
    cases hx : (takeR s 1).1 with
    | nil => rw [hx] at g3; simp at g3
    | cons c r =>
      rw [hx] at g3
      have : r = [] := List.eq_nil_of_length_eq_zero (by simpa using g3)
      exact ⟨c, by rw [this]⟩
  rw [hc] at h1 g2
  have e : c.toNat = n := h1
  have := c.toNat_lt
  refine ⟨g1, ?_, by omega⟩
  rw [g2, ← e]
  simp
theorem getE_back {t : List UInt8} {n m : Nat} (h : getE t = (n, m, 0)) : t = putL n ++ t.drop m ∧ n ≤ 72057594037927936 := by
  unfold getE at h
  split at h
  · injection h with _ h; injection h with _ h; cases h
  · rename_i hne
    split at h
    · rename_i hok
      injection h with h1 h
      injection h with h2 _
      have hc := cont_le t
      unfold okL at hok
      rw [Bool.and_eq_true, beq_iff_eq, decide_eq_true_eq, h1] at hok
      rw [hok.1, ← h2]
      exact ⟨(List.take_append_drop _ t).symm, hok.2⟩
    · injection h with _ h; injection h with _ h; cases h
theorem numR_back {s s' : Rdr} {n : Nat} (h : numR s = (n, s')) (hf : s'.2 = false) : s.2 = false ∧ s.1 = putL n ++ s'.1 ∧ n ≤ 72057594037927936 := by
  unfold numR at h
  split at h
  · rename_i h0
    injection h with h1 h2
    subst h2
    obtain ⟨g1, g2⟩ := getE_back (t := s.1) (n := n) (m := (getE s.1).2.1) (by rw [← h1, ← h0])
    exact ⟨hf, g1, g2⟩
  · injection h with _ h2
    subst h2
    cases hf
theorem textR_back {s s' : Rdr} {t : List UInt8} (h : textR s = (t, s')) (hf : s'.2 = false) : s.2 = false ∧ s.1 = putL t.length ++ t ++ s'.1 := by
  unfold textR at h
  obtain ⟨g1, g2, g3⟩ := takeR_back h hf
  obtain ⟨f1, f2, _⟩ := numR_back (s := s) (n := (numR s).1) (s' := (numR s).2) (pe _) g1
  exact ⟨f1, by rw [f2, g2, g3, List.append_assoc]⟩
theorem hashR_back {s s' : Rdr} {h : List UInt8} (e : hashR s = (h, s')) (hf : s'.2 = false) : s.2 = false ∧ s.1 = unhexL h ++ s'.1 := by
  unfold hashR at e
  injection e with e1 e2
  obtain ⟨g1, g2, _⟩ := takeR_back (s := s) (n := 32) (x := (takeR s 32).1) (s' := s') (by rw [← e2]) hf
  refine ⟨g1, ?_⟩
  rw [← e1, unhexL_hexL]
  exact g2
theorem itemR_back {s s' : Rdr} {x : ItM} (h : itemR s = (x, s')) (hf : s'.2 = false) : s.2 = false ∧ s.1 = encI x ++ s'.1 := by
  unfold itemR at h
  injection h with h1 h2
  obtain ⟨m, s1, e1⟩ : ∃ m s1, octR s = (m, s1) := ⟨_, _, pe _⟩
  rw [e1] at h1 h2
  obtain ⟨t, s2, e2⟩ : ∃ t s2, textR s1 = (t, s2) := ⟨_, _, pe _⟩
  rw [e2] at h1 h2
  obtain ⟨u, s3, e3⟩ : ∃ u s3, hashR s2 = (u, s3) := ⟨_, _, pe _⟩
  rw [e3] at h1 h2
  subst h1 h2
  obtain ⟨c1, c2⟩ := hashR_back e3 hf
  obtain ⟨b1, b2⟩ := textR_back e2 c1
  obtain ⟨a1, a2, _⟩ := octR_back e1 b1
  refine ⟨a1, ?_⟩
  show s.1 = [UInt8.ofNat ((m : Int)).toNat] ++ (putL t.length ++ t) ++ unhexL u ++ s3.1
  rw [a2, b2, c2]
  simp
theorem itemsR_back (n : Nat) : ∀ {s s' : Rdr} {l : List ItM}, itemsR n s = (l, s') → s'.2 = false → s.2 = false ∧ s.1 = l.flatMap encI ++ s'.1 ∧ l.length = n := by
  induction n with
  | zero =>
    intro s s' l h hf
    unfold itemsR at h
    injection h with h1 h2
    subst h1 h2
    exact ⟨hf, by simp, rfl⟩
  | succ n ih =>
    intro s s' l h hf
    unfold itemsR at h
    split at h
    · rename_i ht
      injection h with h1 h2
      subst h2
      rw [ht] at hf
      cases hf
    · injection h with h1 h2
      obtain ⟨x, s1, e1⟩ : ∃ x s1, itemR s = (x, s1) := ⟨_, _, pe _⟩
      rw [e1] at h1 h2
      obtain ⟨q, s2, e2⟩ : ∃ q s2, itemsR n s1 = (q, s2) := ⟨_, _, pe _⟩
      rw [e2] at h1 h2
      subst h1 h2
      obtain ⟨g1, g2, g3⟩ := ih e2 hf
      obtain ⟨f1, f2⟩ := itemR_back e1 g1
      refine ⟨f1, ?_, ?_⟩
      · rw [f2, g2, List.flatMap_cons, List.append_assoc]
      · rw [List.length_cons, g3]
theorem idsR_back (n : Nat) : ∀ {s s' : Rdr} {l : List (List UInt8)}, idsR n s = (l, s') → s'.2 = false → s.2 = false ∧ s.1 = l.flatMap unhexL ++ s'.1 ∧ l.length = n := by
  induction n with
  | zero =>
    intro s s' l h hf
    unfold idsR at h
    injection h with h1 h2
    subst h1 h2
    exact ⟨hf, by simp, rfl⟩
  | succ n ih =>
    intro s s' l h hf
    unfold idsR at h
    injection h with h1 h2
    obtain ⟨x, s1, e1⟩ : ∃ x s1, hashR s = (x, s1) := ⟨_, _, pe _⟩
    rw [e1] at h1 h2
    obtain ⟨q, s2, e2⟩ : ∃ q s2, idsR n s1 = (q, s2) := ⟨_, _, pe _⟩
    rw [e2] at h1 h2
    subst h1 h2
    obtain ⟨g1, g2, g3⟩ := ih e2 hf
    obtain ⟨f1, f2⟩ := hashR_back e1 g1
    refine ⟨f1, ?_, ?_⟩
    · rw [f2, g2, List.flatMap_cons, List.append_assoc]
    · rw [List.length_cons, g3]
theorem idsR_len (n : Nat) : ∀ s : Rdr, (idsR n s).1.length = n := by
  induction n with
  | zero => intro s; rfl
  | succ n ih => intro s; rw [idsR, List.length_cons, ih]
theorem commR_back {s s' : Rdr} {c : ComM} (h : commR s = (c, s')) (hf : s'.2 = false) : s.2 = false ∧ s.1 = unhexL c.tree ++ [UInt8.ofNat c.parents.length] ++ c.parents.flatMap unhexL ++ putL c.stamp ++ putL c.author ++ (putL c.msg.length ++ c.msg) ++ s'.1 := by
  unfold commR at h
  obtain ⟨t, s1, e1⟩ : ∃ t s1, hashR s = (t, s1) := ⟨_, _, pe _⟩
  rw [e1] at h
  unfold commP at h
  simp only at h
  obtain ⟨k, s2, e2⟩ : ∃ k s2, octR s1 = (k, s2) := ⟨_, _, pe _⟩
  rw [e2] at h
  simp only at h
  obtain ⟨ids, s3, e3⟩ : ∃ ids s3, idsR k s2 = (ids, s3) := ⟨_, _, pe _⟩
  rw [e3] at h
  unfold commS at h
  simp only at h
  obtain ⟨st, s4, e4⟩ : ∃ st s4, numR s3 = (st, s4) := ⟨_, _, pe _⟩
  rw [e4] at h
  unfold commA at h
  simp only at h
  obtain ⟨au, s5, e5⟩ : ∃ au s5, numR s4 = (au, s5) := ⟨_, _, pe _⟩
  rw [e5] at h
  unfold commM at h
  simp only at h
  obtain ⟨ms, s6, e6⟩ : ∃ ms s6, textR s5 = (ms, s6) := ⟨_, _, pe _⟩
  rw [e6] at h
  injection h with h1 h2
  subst h1 h2
  obtain ⟨f1, f2⟩ := textR_back e6 hf
  obtain ⟨g1, g2, _⟩ := numR_back e5 f1
  obtain ⟨d1, d2, _⟩ := numR_back e4 g1
  obtain ⟨c1, c2, c3⟩ := idsR_back k e3 d1
  obtain ⟨b1, b2, _⟩ := octR_back e2 c1
  obtain ⟨a1, a2⟩ := hashR_back e1 b1
  refine ⟨a1, ?_⟩
  show s.1 = unhexL t ++ [UInt8.ofNat ids.length] ++ ids.flatMap unhexL ++ putL st ++ putL au ++ (putL ms.length ++ ms) ++ s6.1
  rw [a2, b2, c2, d2, g2, f2, c3]
  simp
/-- Bytes that are an object are its bytes. -/
theorem enc_objR {b : List UInt8} (h : decB b = true) : encL (objR b).1 = b := by
  unfold decB at h
  rw [Bool.and_eq_true, Bool.and_eq_true, Bool.not_eq_true', List.isEmpty_iff] at h
  obtain ⟨⟨hf, he⟩, hm⟩ := h
  unfold objR at hf he hm ⊢
  obtain ⟨k, s, hk⟩ : ∃ k s, octR (b, false) = (k, s) := ⟨_, _, pe _⟩
  rw [hk] at hf he hm ⊢
  replace hf : (objS k s).2.2 = false := hf
  replace he : (objS k s).2.1 = [] := he
  replace hm : mayB (objS k s).1 = true := hm
  show encL (objS k s).1 = b
  unfold objS at hf he hm ⊢
  by_cases h1 : k = 1
  · rw [if_pos h1] at hf he hm ⊢
    subst h1
    obtain ⟨_, g2, _⟩ := octR_back hk hf
    exact g2.symm
  · rw [if_neg h1] at hf he hm ⊢
    by_cases h2 : k = 2
    · rw [if_pos h2] at hf he hm ⊢
      subst h2
      obtain ⟨n, s1, e1⟩ : ∃ n s1, numR s = (n, s1) := ⟨_, _, pe _⟩
      rw [e1] at hf he ⊢
      obtain ⟨q, s2, e2⟩ : ∃ q s2, itemsR n s1 = (q, s2) := ⟨_, _, pe _⟩
      rw [e2] at hf he ⊢
      obtain ⟨c1, c2, c3⟩ := itemsR_back n e2 hf
      obtain ⟨b1, b2, _⟩ := numR_back e1 c1
      obtain ⟨_, g2, _⟩ := octR_back hk b1
      replace he : s2.1 = [] := he
      have e : b = UInt8.ofNat 2 :: s.1 := g2
      show [UInt8.ofNat 2] ++ encIs q = b
      unfold encIs
      rw [e, b2, c2, c3, he]
      simp
    · rw [if_neg h2] at hf he hm ⊢
      by_cases h3 : k = 3
      · rw [if_pos h3] at hf he hm ⊢
        subst h3
        obtain ⟨c, s1, e1⟩ : ∃ c s1, commR s = (c, s1) := ⟨_, _, pe _⟩
        rw [e1] at hf he ⊢
        obtain ⟨a1, a2⟩ := commR_back e1 hf
        obtain ⟨_, g2, _⟩ := octR_back hk a1
        replace he : s1.1 = [] := he
        have e : b = UInt8.ofNat 3 :: s.1 := g2
        rw [e, a2, he, List.append_nil]
        show [UInt8.ofNat 3] ++ encC ⟨3, [], [], c.tree, c.parents, c.stamp, c.author, c.msg⟩ = _
        unfold encC
        simp
      · rw [if_neg h3] at hm
        have hk' := mayB_kind hm
        exfalso
        have hkk : (objK (k : Int)).kind = (k : Int) := rfl
        rw [hkk] at hk'
        rcases hk' with ⟨h4, _⟩ | ⟨h4, _⟩ | ⟨h4, _⟩ <;> omega
end Go.Proofs.Ytcbiajajoojgmaa.Ob
/- obj's reader: fail, take, octet, number, text, hash. -/
namespace Go.Proofs.Ytcbiajajoojgmaa.Ob
open Go.RowKit Go.Proofs.Ytcbiajajoojgmaa.Sh
open Go.Proofs.Ytcbiajajoojgmaa.Tx (OwnV SlV sv bl nameB reads_at texts_at toList_ne')

theorem in_take {w : World} {A : Option Addr} {bs : List UInt8} (h : In w A bs) (k : Nat) : In w A (bs.take k) := by
  intro h0
  rw [List.length_take] at h0
  obtain ⟨ad, hA, hlt, hc⟩ := h (by omega)
  refine ⟨ad, hA, hlt, fun j hj => ?_⟩
  rw [List.length_take] at hj
  rw [hc j (by omega)]
  simp only [List.getD_eq_getElem?_getD, List.getElem?_take, if_pos (show j < k from by omega)]
theorem in_drop {w : World} {A : Option Addr} {bs : List UInt8} (h : In w A bs) (k : Nat) : In w (A.map (·.add k)) (bs.drop k) := by
  intro h0
  rw [List.length_drop] at h0
  obtain ⟨ad, rfl, hlt, hc⟩ := h (by omega)
  refine ⟨ad.add k, rfl, by rw [block_of_add]; exact hlt, fun j hj => ?_⟩
  rw [List.length_drop] at hj
  rw [add_of_add, hc (k + j) (by omega)]
  simp only [List.getD_eq_getElem?_getD, List.getElem?_drop]
theorem size5_ (w : World) : (sizeOf (Try.prog.elem 22)).run Try.prog w = .ok 1 w := by kernel_rfl
set_option maxRecDepth 100000 in
theorem run_front (A : Option Addr) (l c k : Nat) (hkc : k ≤ c) (w : World) :
    (Instr.slice 22 (.slice A l c) none (some (.int .i64 (k : Int))) none).run Try.prog w = .ok (.slice (if c = 0 then A else A.map (·.add 0)) k c) w := by
  rw [run_slice_h w 22 A l c Try.underlying22 .i64 k (by omega) (by omega), size5_]
  rfl
set_option maxRecDepth 100000 in
theorem run_back (A : Option Addr) (l c k : Nat) (hkl : k ≤ l) (w : World) :
    (Instr.slice 22 (.slice A l c) (some (.int .i64 (k : Int))) none none).run Try.prog w = .ok (.slice (if c = k then A else A.map (·.add k)) (l - k) (c - k)) w := by
  rw [run_slice_l w 22 A l c Try.underlying22 .i64 k (by omega) (by omega), size5_]
  show Result.ok (Value.slice (if c = k then A else A.map (·.add (k * 1))) _ _) _ = _
  rw [Nat.mul_one]
  rfl
theorem sl_front {w : World} {A : Option Addr} {c : Nat} {bs : List UInt8} (h : Sl w (.slice A bs.length c) bs) (k : Nat) (hk : k ≤ bs.length) : Sl w (.slice (if c = 0 then A else A.map (·.add 0)) k c) (bs.take k) := by
  obtain ⟨A', c', he, hl, hm, hi, hn⟩ := h
  injection he with e1 e2 e3
  subst e1 e3
  have hlk : (bs.take k).length = k := by rw [List.length_take]; omega
  have hA0 : (if c = 0 then A else A.map (·.add 0)) = A := by
    split
    · rfl
    · cases A with
      | none => rfl
      | some x => show some (x.add 0) = some x; simp [Addr.add]
  rw [hA0]
  refine ⟨A, c, by rw [hlk], by omega, hm, in_take hi k, fun h => by rw [hn h]; simp⟩
theorem sl_back {w : World} {A : Option Addr} {c : Nat} {bs : List UInt8} (h : Sl w (.slice A bs.length c) bs) (k : Nat) (hk : k ≤ bs.length) : Sl w (.slice (if c = k then A else A.map (·.add k)) (bs.length - k) (c - k)) (bs.drop k) := by
  obtain ⟨A', c', he, hl, hm, hi, hn⟩ := h
  injection he with e1 e2 e3
  subst e1 e3
  have hlk : (bs.drop k).length = bs.length - k := by rw [List.length_drop]
  by_cases h0 : c = k
  · rw [if_pos h0]
    have h1 : bs.drop k = [] := List.drop_eq_nil_of_le (by omega)
    refine ⟨A, c - k, by rw [hlk], by omega, by omega, by rw [h1]; exact In.nil w A, fun _ => h1⟩
  · rw [if_neg h0]
    refine ⟨A.map (·.add k), c - k, by rw [hlk], by omega, by omega, in_drop hi k, fun h => ?_⟩
    cases A with
    | none => rw [hn rfl]; simp
    | some x => cases h

/-- But for block g, and for new ones, all is as it was. -/
structure Upd (g : Nat) (w w' : World) : Prop where
  os : w'.os = w.os
  tape : w'.tape = w.tape
  output : w'.output = w.output
  size : w.heap.size ≤ w'.heap.size
  block : ∀ k, k < w.heap.size → k ≠ g → w'.heap[k]? = w.heap[k]?
section
variable {g : Nat} {w w' w2 : World}
theorem Upd.refl (g : Nat) (w : World) : Upd g w w := ⟨rfl, rfl, rfl, Nat.le_refl _, fun _ _ _ => rfl⟩
theorem Upd.trans (h : Upd g w w') (h2 : Upd g w' w2) : Upd g w w2 := ⟨h2.os.trans h.os, h2.tape.trans h.tape, h2.output.trans h.output, Nat.le_trans h.size h2.size, fun k hk hn => (h2.block k (Nat.lt_of_lt_of_le hk h.size) hn).trans (h.block k hk hn)⟩
theorem Upd.of_below (h : Below w.heap.size w w') : Upd g w w' := ⟨h.os, h.tape, h.output, h.size, fun k hk _ => h.block k hk⟩
theorem Upd.set_ (h : Upd g w w') (i : Nat) (u : Value) : Upd g w (w'.setCell ⟨g, i, none⟩ u) := ⟨h.os, h.tape, h.output, by simpa [World.setCell] using h.size, fun k hk hn => (Below.heap_setCell w' ⟨g, i, none⟩ u k hn).trans (h.block k hk hn)⟩
theorem Upd.alloc (h : Upd g w w') (o : Obj) : Upd g w (w'.alloc o) := h.trans (Upd.of_below ((Below.refl _ _).alloc (Nat.le_refl _) o))
theorem Upd.drew (h : Upd g w w') : Upd g w w'.drew := ⟨h.os, h.tape, h.output, h.size, h.block⟩
theorem Upd.below (h : Upd g w w') {B : Nat} (hB : B ≤ g) (hB2 : B ≤ w.heap.size) : Below B w w' := ⟨h.os, h.tape, h.output, h.size, fun k hk => h.block k (by omega) (by omega)⟩
theorem Upd.blk (h : Upd g w w') {b : Nat} {t : TypeId} {cs : Array Value} (hb : Blk w b t cs) (hn : b ≠ g) : Blk w' b t cs := (h.block b hb.lt hn).trans hb
end
/-- Block g is a reader, of bytes that lie in w0. -/
def RdAt (w0 w : World) (g : Nat) (s : Rdr) : Prop := ∃ A c, Blk w g 63 #[.slice A s.1.length c, .bool s.2] ∧ Sl w0 (.slice A s.1.length c) s.1 ∧ w0.heap.size ≤ g ∧ Below w0.heap.size w0 w
theorem RdAt.upd {w0 w w' : World} {g b : Nat} {s : Rdr} (h : RdAt w0 w g s) (hu : Upd b w w') (hn : g ≠ b) (hb : w0.heap.size ≤ b) : RdAt w0 w' g s := by
  obtain ⟨A, c, h1, h2, h3, h4⟩ := h
  exact ⟨A, c, hu.blk h1 hn, h2, h3, h4.trans (hu.below hb h4.size)⟩
theorem RdAt.below {w0 w w' : World} {g : Nat} {s : Rdr} (h : RdAt w0 w g s) (hu : Below w.heap.size w w') : RdAt w0 w' g s := by
  obtain ⟨A, c, h1, h2, h3, h4⟩ := h
  exact ⟨A, c, h1.below hu h1.lt, h2, h3, h4.trans (hu.mono h4.size)⟩
def DonePost (w0 w : World) (g : Nat) (s : Rdr) (w' : World) : Prop := RdAt w0 w' g s ∧ Upd g w w'
def TakePost (w0 w : World) (g : Nat) (x : List UInt8) (s : Rdr) (e : Ending) (w' : World) : Prop := ∃ u, e = .returned u ∧ Sl w0 u x ∧ RdAt w0 w' g s ∧ Upd g w w'
def NumPost (w0 w : World) (g : Nat) (n : Nat) (s : Rdr) (e : Ending) (w' : World) : Prop := e = .returned (.int .i64 (n : Int)) ∧ RdAt w0 w' g s ∧ Upd g w w'
def TxtPost (w0 w : World) (g : Nat) (x : List UInt8) (s : Rdr) (e : Ending) (w' : World) : Prop := e = .returned (.string (str x)) ∧ RdAt w0 w' g s ∧ Upd g w w'
theorem two_cells {w : World} {b : Nat} {T : TypeId} {c0 c1 : Value} (h : Blk w b T #[c0, c1]) : w.cell? ⟨b, 0, none⟩ = some c0 ∧ w.cell? ⟨b, 1, none⟩ = some c1 ∧ w.frozen? ⟨b, 0, none⟩ = false ∧ w.frozen? ⟨b, 1, none⟩ = false := ⟨h.cell 0, h.cell 1, h.frozen 0, h.frozen 1⟩
set_option maxRecDepth 100000 in
set_option maxHeartbeats 800000 in
theorem fail_any (w0 w : World) (g : Nat) (s : Rdr) (h : RdAt w0 w g s) : Calls Try.prog 73 #[.pointer (some ⟨g, 0, none⟩)] w fun e w' => e = .returned (.tuple #[]) ∧ DonePost w0 w g ([], true) w' := by
  obtain ⟨A, c, h1, h2, h3, h4⟩ := h
  obtain ⟨x0, x1, f0, f1⟩ := two_cells h1
  have HB := Lib.hid (h1.set_ 0 (.slice none 0 0))
  have HU : Hid (Upd g w ((w.setCell ⟨g, 0, none⟩ (.slice none 0 0)).setCell ⟨g, 1, none⟩ (.bool true))) := ((Upd.refl g w).set_ 0 _).set_ 1 _
  have HD : Hid (RdAt w0 ((w.setCell ⟨g, 0, none⟩ (.slice none 0 0)).setCell ⟨g, 1, none⟩ (.bool true)) g ([], true)) := by
    refine ⟨none, 0, ?_, Sl.nil_ w0, h3, h4.trans (HU.out.below h3 h4.size)⟩
    have := HB.out.set_ 1 (.bool true)
    simpa using this
  clear h1 h2 h3 h4
  go_enter Try.func73, Try.ntmps73
  go_wp2_with fail
  go_end0
  exact ⟨rfl, HD.out, HU.out⟩
set_option maxRecDepth 100000 in
set_option maxHeartbeats 1600000 in
theorem take_any (w0 w : World) (g n : Nat) (s : Rdr) (h : RdAt w0 w g s) : Calls Try.prog 58 #[.pointer (some ⟨g, 0, none⟩), .int .i64 (n : Int)] w (TakePost w0 w g (takeR s n).1 (takeR s n).2) := by
  have HS := Lib.hid h
  obtain ⟨bs, f⟩ := s
  obtain ⟨A, c, h1, h2, h3, h4⟩ := h
  replace h1 : Blk w g 63 #[.slice A bs.length c, .bool f] := h1
  replace h2 : Sl w0 (.slice A bs.length c) bs := h2
  obtain ⟨A', c', hv, hlc, hcm, _⟩ := h2.len
  injection hv with e1 e2 e3
  subst e1 e3
  unfold maxLen at hcm
  clear e2
  obtain ⟨x0, x1, f0, f1⟩ := two_cells h1
  obtain ⟨l, hl⟩ : ∃ l, bs.length = l := ⟨_, rfl⟩
  have HL := Lib.hid hl
  have H2 := Lib.hid h2
  have H3 := Lib.hid h3
  have H4 := Lib.hid h4
  have H1 := Lib.hid h1
  rw [hl] at x0 hlc
  clear h1 h2 h3 h4 hl
  by_cases hn : l < n
  · have hn' : (l : Int) < (n : Int) := by omega
    have HT : Hid (takeR (bs, f) n = ([], ([], true))) := by
      unfold Hid takeR
      rw [if_pos (by show bs.length < n; rw [HL.out]; exact hn)]
    clear hn
    rw [HT.out]
    go_enter Try.func58, Try.ntmps58
    go_wp2_with fail
    refine (fail_any w0 w g _ HS.out).mono ?_
    rintro e w1 ⟨rfl, hr, hu⟩
    have HR := Lib.hid hr
    have HU := Lib.hid hu
    clear hr hu x0 x1 f0 f1
    go_wp2_with fail
    go_ret
    exact ⟨_, rfl, Sl.nil_ w0, HR.out, HU.out⟩
  · have hn' : (n : Int) ≤ (l : Int) := by omega
    have hnl : n ≤ l := by omega
    have HT : Hid (takeR (bs, f) n = (bs.take n, (bs.drop n, f))) := by
      unfold Hid takeR
      rw [if_neg (by show ¬ bs.length < n; rw [HL.out]; exact hn)]
    have hfr := fun W : World => run_front A l c n (by omega) W
    have hbk := fun W : World => run_back A l c n hnl W
    have HF : Hid (Sl w0 (.slice (if c = 0 then A else A.map (·.add 0)) n c) (bs.take n)) := sl_front H2.out n (by rw [HL.out]; exact hnl)
    have HBK : Hid (Sl w0 (.slice (if c = n then A else A.map (·.add n)) (l - n) (c - n)) (bs.drop n)) := by have := sl_back H2.out n (by rw [HL.out]; exact hnl); rw [HL.out] at this; exact this
    obtain ⟨A1, hA1⟩ : ∃ A1, (if c = 0 then A else A.map (·.add 0)) = A1 := ⟨_, rfl⟩
    obtain ⟨A2, hA2⟩ : ∃ A2, (if c = n then A else A.map (·.add n)) = A2 := ⟨_, rfl⟩
    rw [hA1] at hfr HF
    rw [hA2] at hbk HBK
    clear hA1 hA2 hn
    rw [HT.out]
    have HU : Hid (Upd g w (w.setCell ⟨g, 0, none⟩ (.slice A2 (l - n) (c - n)))) := (Upd.refl g w).set_ 0 _
    have HD : Hid (RdAt w0 (w.setCell ⟨g, 0, none⟩ (.slice A2 (l - n) (c - n))) g (bs.drop n, f)) := by
      have hdl : (bs.drop n).length = l - n := by rw [List.length_drop, HL.out]
      refine ⟨A2, c - n, ?_, by show Sl w0 (.slice A2 (bs.drop n).length (c - n)) (bs.drop n); rw [hdl]; exact HBK.out, H3.out, H4.out.trans (HU.out.below H3.out H4.out.size)⟩
      show Blk _ g _ #[.slice A2 (bs.drop n).length (c - n), .bool f]
      rw [hdl]
      have := H1.out.set_ 0 (.slice A2 (l - n) (c - n))
      simpa using this
    go_enter Try.func58, Try.ntmps58
    go_wp2_with fail
    go_ret
    exact ⟨_, rfl, HF.out, HD.out, HU.out⟩
end Go.Proofs.Ytcbiajajoojgmaa.Ob
/- obj's reader: octet, number, text, hash; slices.Clone of bytes. -/
namespace Go.Proofs.Ytcbiajajoojgmaa.Ob
open Go.RowKit Go.Proofs.Ytcbiajajoojgmaa.Sh
open Go.Proofs.Ytcbiajajoojgmaa.Tx (OwnV SlV sv bl nameB reads_at texts_at toList_ne')

theorem takeR_len (s : Rdr) (n : Nat) : (takeR s n).1.length ≤ n ∧ (takeR s n).2.1.length ≤ s.1.length := by
  unfold takeR
  split
  · simp
  · simp; omega
theorem octR_eq (s : Rdr) : octR s = (((takeR s 1).1.headD 0).toNat, (takeR s 1).2) := rfl
set_option maxRecDepth 100000 in
set_option maxHeartbeats 800000 in
theorem octet_any (w0 w : World) (g : Nat) (s : Rdr) (h : RdAt w0 w g s) : Calls Try.prog 56 #[.pointer (some ⟨g, 0, none⟩)] w (NumPost w0 w g (octR s).1 (octR s).2) := by
  have HS := Lib.hid h
  obtain ⟨x, hx⟩ : ∃ x, (takeR s 1).1 = x := ⟨_, rfl⟩
  obtain ⟨s', hs'⟩ : ∃ s', (takeR s 1).2 = s' := ⟨_, rfl⟩
  have hlen := (takeR_len s 1).1
  rw [hx] at hlen
  have HE : Hid (octR s = ((x.headD 0).toNat, s')) := by unfold Hid; rw [octR_eq, hx, hs']
  have HX := Lib.hid hx
  have HS' := Lib.hid hs'
  clear h hx hs'
  rw [HE.out]
  go_enter Try.func56, Try.ntmps56
  go_wp2_with fail
  refine (take_any w0 w g 1 s HS.out).mono ?_
  rw [HX.out, HS'.out]
  rintro e w1 ⟨u, rfl, hu, hr, hup⟩
  have HR := Lib.hid hr
  have HUP := Lib.hid hup
  cases x with
  | nil =>
    obtain ⟨A, c, rfl, _⟩ := hu.len
    clear hr hup hu
    go_wp2_with fail
    go_ret
    exact ⟨rfl, HR.out, HUP.out⟩
  | cons y t =>
    have ht : t = [] := List.eq_nil_of_length_eq_zero (by rw [List.length_cons] at hlen; omega)
    subst ht
    obtain ⟨_, _, _, _, _, h4⟩ := hr
    obtain ⟨A, c, rfl, hlc, hcm, hI⟩ := (hu.below h4).len
    obtain ⟨ad, rfl, hc⟩ := hI.at_ 0 (by simp)
    have hc0 : w1.cell? ad = some (.int .u8 (bi y)) := by
      rw [show ad.add 0 = ad from by simp [Addr.add]] at hc
      exact hc
    have hw : IntKind.i64.wrap (bi y) = bi y := by
      have := bi_lt y
      rw [IntKind.wrap_i64]
      omega
    have HY : Hid (bi y = ((([y] : List UInt8).headD 0).toNat : Int)) := by unfold Hid bi; rfl
    unfold maxLen at hcm
    clear hup hu hI hc h4
    go_wp2_with fail
    go_ret
    exact ⟨by rw [← HY.out]; rfl, HR.out, HUP.out⟩
theorem numR_ok {s : Rdr} {a b : Int} (h : getR s.1 ((0 : Nat) : Int) = (a, b, 0)) : ∃ n m : Nat, a = n ∧ b = m ∧ m ≤ s.1.length ∧ numR s = (n, (s.1.drop m, s.2)) := by
  rw [getR_in (Nat.zero_le _), List.drop_zero] at h
  unfold numR
  by_cases h0 : (getE s.1).2.2 = 0
  · rw [if_pos h0] at h ⊢
    injection h with h1 h
    injection h with h2 _
    refine ⟨(getE s.1).1, (getE s.1).2.1, h1.symm, by rw [← h2]; simp, ?_, rfl⟩
    unfold getE at h0 ⊢
    split at h0
    · cases h0
    · rename_i hne
      have := cont_le s.1
      rw [if_neg hne]
      split
      · show cont s.1 + 1 ≤ s.1.length; omega
      · exact Nat.zero_le _
  · rw [if_neg h0] at h
    injection h with h1 h
    injection h with h2 h3
    exfalso
    exact h0 (by omega)
theorem numR_bad {s : Rdr} {a b c : Int} (h : getR s.1 ((0 : Nat) : Int) = (a, b, c)) (hc : c ≠ 0) : numR s = (0, ([], true)) := by
  rw [getR_in (Nat.zero_le _), List.drop_zero] at h
  unfold numR
  by_cases h0 : (getE s.1).2.2 = 0
  · rw [if_pos h0] at h
    injection h with h1 h
    injection h with h2 h3
    exact absurd h3.symm hc
  · rw [if_neg h0]
set_option maxRecDepth 100000 in
set_option maxHeartbeats 800000 in
theorem number_any (w0 w : World) (g : Nat) (s : Rdr) (h : RdAt w0 w g s) : Calls Try.prog 74 #[.pointer (some ⟨g, 0, none⟩)] w (NumPost w0 w g (numR s).1 (numR s).2) := by
  have HS := Lib.hid h
  obtain ⟨A, c, h1, h2, h3, h4⟩ := h
  obtain ⟨x0, x1, f0, f1⟩ := two_cells h1
  obtain ⟨l, hl⟩ : ∃ l, s.1.length = l := ⟨_, rfl⟩
  obtain ⟨A', c', hv, hlc, hcm, _⟩ := h2.len
  injection hv with e1 e2 e3
  subst e1 e3
  unfold maxLen at hcm
  clear e2
  obtain ⟨⟨a, b, k⟩, hr⟩ : ∃ p, getR s.1 ((0 : Nat) : Int) = p := ⟨_, rfl⟩
  have HRR := Lib.hid hr
  have H1 := Lib.hid h1
  have H2 := Lib.hid h2
  have H3 := Lib.hid h3
  have H4 := Lib.hid h4
  have HL := Lib.hid hl
  rw [hl] at x0 hlc
  clear h1 h2 h3 h4 hl hr
  have HSL : Hid (Sl w (.slice A l c) s.1) := by have := H2.out.below H4.out; rw [HL.out] at this; exact this
  by_cases hk : k = 0
  · subst hk
    obtain ⟨n, m, rfl, rfl, hm, hnum⟩ := numR_ok HRR.out
    rw [HL.out] at hm
    have HN := Lib.hid hnum
    have hbk := fun W : World => run_back A l c m hm W
    have HBK : Hid (Sl w0 (.slice (if c = m then A else A.map (·.add m)) (l - m) (c - m)) (s.1.drop m)) := by have := sl_back H2.out m (by rw [HL.out]; exact hm); rw [HL.out] at this; exact this
    obtain ⟨A2, hA2⟩ : ∃ A2, (if c = m then A else A.map (·.add m)) = A2 := ⟨_, rfl⟩
    rw [hA2] at hbk HBK
    clear hA2 hnum
    rw [HN.out]
    have HU : Hid (Upd g w (w.setCell ⟨g, 0, none⟩ (.slice A2 (l - m) (c - m)))) := (Upd.refl g w).set_ 0 _
    have HD : Hid (RdAt w0 (w.setCell ⟨g, 0, none⟩ (.slice A2 (l - m) (c - m))) g (s.1.drop m, s.2)) := by
      have hdl : (s.1.drop m).length = l - m := by rw [List.length_drop, HL.out]
      refine ⟨A2, c - m, ?_, by show Sl w0 (.slice A2 (s.1.drop m).length (c - m)) (s.1.drop m); rw [hdl]; exact HBK.out, H3.out, H4.out.trans (HU.out.below H3.out H4.out.size)⟩
      show Blk _ g _ #[.slice A2 (s.1.drop m).length (c - m), .bool s.2]
      rw [hdl]
      have := H1.out.set_ 0 (.slice A2 (l - m) (c - m))
      simpa using this
    go_enter Try.func74, Try.ntmps74
    go_wp2_with fail
    refine (get_any _ s.1 0 _ _ _ w HSL.out HRR.out).mono ?_
    rintro e w1 ⟨rfl, rfl⟩
    go_wp2_with fail
    go_ret
    exact ⟨rfl, HD.out, HU.out⟩
  · have HN := Lib.hid (numR_bad HRR.out hk)
    have ek : (k == 0) = false := beq_eq_false_iff_ne.2 hk
    clear hk
    rw [HN.out]
    go_enter Try.func74, Try.ntmps74
    go_wp2_with fail
    refine (get_any _ s.1 0 _ _ _ w HSL.out HRR.out).mono ?_
    rintro e w1 ⟨rfl, rfl⟩
    go_wp2_with fail
    refine (fail_any w0 w g _ HS.out).mono ?_
    rintro e w2 ⟨rfl, hr2, hu2⟩
    have HR2 := Lib.hid hr2
    have HU2 := Lib.hid hu2
    clear hr2 hu2 x0 x1 f0 f1
    go_wp2_with fail
    go_ret
    exact ⟨rfl, HR2.out, HU2.out⟩
set_option maxRecDepth 100000 in
set_option maxHeartbeats 800000 in
theorem text_any (w0 w : World) (g : Nat) (s : Rdr) (h : RdAt w0 w g s) : Calls Try.prog 75 #[.pointer (some ⟨g, 0, none⟩)] w (TxtPost w0 w g (textR s).1 (textR s).2) := by
  have HS := Lib.hid h
  clear h
  unfold textR
  go_enter Try.func75, Try.ntmps75
  go_wp2_with fail
  refine (number_any w0 w g s HS.out).mono ?_
  rintro e w1 ⟨rfl, hr1, hu1⟩
  have HR1 := Lib.hid hr1
  have HU1 := Lib.hid hu1
  clear hr1 hu1
  go_wp2_with fail
  refine (take_any w0 w1 g _ _ HR1.out).mono ?_
  rintro e w2 ⟨u, rfl, hu, hr2, hu2⟩
  have HR2 := Lib.hid hr2
  have HU2 := Lib.hid (HU1.out.trans hu2)
  obtain ⟨_, _, _, _, _, h4⟩ := hr2
  obtain ⟨A, c, rfl, _, _, hI, hA⟩ := hu.below h4
  have hc := conv_str w2 A _ c hI hA
  clear hu hu2 h4 hI hA
  go_wp2_with fail
  go_ret
  exact ⟨rfl, HR2.out, HU2.out⟩
set_option maxRecDepth 100000 in
set_option maxHeartbeats 800000 in
theorem hash_any (w0 w : World) (g : Nat) (s : Rdr) (h : RdAt w0 w g s) : Calls Try.prog 76 #[.pointer (some ⟨g, 0, none⟩)] w (TxtPost w0 w g (hashR s).1 (hashR s).2) := by
  have HS := Lib.hid h
  clear h
  unfold hashR
  have hlen := (takeR_len s 32).1
  have HLN := Lib.hid hlen
  clear hlen
  go_enter Try.func76, Try.ntmps76
  go_wp2_with fail
  refine (take_any w0 w g 32 s HS.out).mono ?_
  rintro e w1 ⟨u, rfl, hu, hr1, hu1⟩
  have HR1 := Lib.hid hr1
  have HU1 := Lib.hid hu1
  obtain ⟨_, _, _, _, _, h4⟩ := hr1
  have HU := Lib.hid (hu.below h4)
  clear hu hu1 h4
  go_wp2_with fail
  refine (hex_any u _ w1 HU.out (by have := HLN.out; omega)).mono ?_
  rintro e w2 ⟨rfl, hb2⟩
  have HR2 := Lib.hid (HR1.out.below hb2)
  have HU2 := Lib.hid (HU1.out.trans (Upd.of_below hb2))
  clear hb2
  go_wp2_with fail
  go_ret
  exact ⟨rfl, HR2.out, HU2.out⟩
end Go.Proofs.Ytcbiajajoojgmaa.Ob
/- obj's reader: items; slices.Clone of bytes. -/
namespace Go.Proofs.Ytcbiajajoojgmaa.Ob
open Go.RowKit Go.Proofs.Ytcbiajajoojgmaa.Sh
open Go.Proofs.Ytcbiajajoojgmaa.Tx (OwnV SlV sv bl nameB reads_at texts_at toList_ne')

theorem Upd.then_below {g : Nat} {w w1 w2 : World} (h : Upd g w w1) (h2 : Below w.heap.size w1 w2) : Upd g w w2 := ⟨h2.os.trans h.os, h2.tape.trans h.tape, h2.output.trans h.output, Nat.le_trans h.size h2.size, fun k hk hn => (h2.block k hk).trans (h.block k hk hn)⟩
theorem Upd.grownBy {g : Nat} {w w1 : World} (h : Upd g w w1) : w.grownBy w1 (some g) := ⟨h.os, h.tape, h.output, h.size, fun k hk hn => h.block k hk (fun e => hn (by rw [e]))⟩
theorem row_ne {w : World} {T T' : TypeId} {B sz n g : Nat} {v : Value} {xs : List Value} {cs : Array Value} (h : w.ownsRow B T sz v n xs) (hg : Blk w g T' cs) (hT : T' ≠ T) : v.ownBlock = none ∨ v.ownBlock ≠ some g := by
  rcases h.2 with ⟨rfl, _⟩ | ⟨g', cap, cur, rfl, _, hb, _⟩
  · exact .inl rfl
  · right
    intro e
    have e' : g' = g := by simpa [Value.ownBlock] using e
    subst e'
    exact Blk.ne_ hg hb hT rfl
theorem OwnI.upd {T T' : TypeId} {w w1 : World} {B g : Nat} {v : Value} {l : List ItM} {cs : Array Value} (h : OwnI T w B v l) (hg : Blk w g T' cs) (hT : T' ≠ T) (hu : Upd g w w1) : OwnI T w1 B v l :=
  World.ownsRow.kept h hu.grownBy (row_ne h hg hT)
theorem RdAt.blk {w0 w : World} {g : Nat} {s : Rdr} (h : RdAt w0 w g s) : ∃ cs, Blk w g 63 cs := by
  obtain ⟨A, c, h1, _⟩ := h
  exact ⟨_, h1⟩
/-- A reader stays where a row of another type is written to. -/
theorem RdAt.row {w0 w w1 : World} {g : Nat} {s : Rdr} (h : RdAt w0 w g s) {T : TypeId} {B sz n : Nat} {v : Value} {xs : List Value} (ho : w.ownsRow B T sz v n xs) (hT : 63 ≠ T) (hg : w.grownBy w1 v.ownBlock) (hB : w0.heap.size ≤ B) (hB2 : B ≤ w.heap.size) : RdAt w0 w1 g s := by
  obtain ⟨A, c, h1, h2, h3, h4⟩ := h
  have hne := row_ne ho h1 hT
  have hbl : Below B w w1 := (Below.refl _ _).grown hg hB2 (fun k hk => (ho.lt k hk).1)
  refine ⟨A, c, h1.grown hg ?_, h2, h3, h4.trans (hbl.mono hB)⟩
  rcases hne with hn | hn
  · rw [hn]; simp
  · exact fun e => hn e.symm
theorem info_item : (Try.prog.info? 56).map (fun i => (i.zero, i.size, i.bytes)) = some (some (.agg #[.int .i64 0, .string ⟨#[]⟩, .string ⟨#[]⟩]), 3, 40) := by kernel_rfl
set_option maxRecDepth 100000 in
set_option maxHeartbeats 1600000 in
theorem app_item {ops : Array Oper} {rest : List Oper} {o : Oper} {a : Act} {Q : Exit → Act → World → Prop} (hgd : o.guard = none) (s x : Operand)
    (ho : o.op = .call { callee := .builtin .append, args := #[s, x], argTypes := #[23, 23] }) (w : World) (B : Nat) (v : Value) (ls : List ItM) (hs : a.eval s = v) (hown : OwnI 56 w B v ls)
    (it : ItM) (g : Nat) (hg : w.heap.size = g) (hx : a.eval x = .slice (some ⟨g, 0, none⟩) 1 1) (hsmall : ls.length + 1 ≤ 2000000) (hB : B ≤ w.heap.size)
    (h : ∀ v' w', OwnI 56 w' B v' (ls ++ [it]) → (w.alloc (.cells #[.int .i64 it.1, .string (str it.2.1), .string (str it.2.2)] 56)).grownBy w' v.ownBlock → wpList Try.prog ops Q rest (a.put o.dst v') w') :
    wpList Try.prog ops Q (o :: rest) a (w.alloc (.cells #[.int .i64 it.1, .string (str it.2.1), .string (str it.2.2)] 56)) := by
  subst hg
  obtain ⟨i0, hi, hz0, hz1, hz2⟩ := info_parts info_item
  have hr : Reads (w.alloc (.cells #[.int .i64 it.1, .string (str it.2.1), .string (str it.2.2)] 56)) (w.heap.size + 1) 3 (some ⟨w.heap.size, 0, none⟩) 1 ([it].flatMap itC) := by
    refine ⟨rfl, fun _ => ⟨_, rfl, by simp, fun j v hv => ?_⟩⟩
    rw [Addr.add_mid, cell_of_row _ _ _ _ 56 (0, 0) (heap_alloc_new w _), Nat.zero_add, ← hv]
    simp [itC]
  refine wpList_append_any _ hgd s x 23 ho B 56 i0 (.agg #[.int .i64 0, .string ⟨#[]⟩, .string ⟨#[]⟩]) 3 40 Try.underlying23 hi hz0 hz1 hz2 rfl (by decide) v ls.length _ hs (hown.alloc _) _ _ 1 1 _ hx hr (itC_one [it]) (by unfold maxLen; omega) (by omega) (by simp; omega) ?_
  intro v' w' h1 h2 _
  refine h v' w' ?_ h2
  unfold OwnI
  rw [List.length_append, List.flatMap_append]
  exact h1
theorem itemsR_zero (s : Rdr) : itemsR 0 s = ([], s) := rfl
theorem itemsR_fail (n : Nat) (s : Rdr) (h : s.2 = true) : itemsR n s = ([], s) := by
  cases n with
  | zero => rfl
  | succ n => rw [itemsR, if_pos h]
theorem itemsR_step (n : Nat) (s : Rdr) (h : s.2 = false) : itemsR (n + 1) s = ((itemR s).1 :: (itemsR n (itemR s).2).1, (itemsR n (itemR s).2).2) := by
  rw [itemsR, if_neg (by rw [h]; decide)]
theorem octR_len (s : Rdr) : (octR s).2.1.length ≤ s.1.length := by unfold octR; exact (takeR_len s 1).2
theorem numR_len (s : Rdr) : (numR s).2.1.length ≤ s.1.length := by
  unfold numR
  split
  · simp
  · simp
theorem textR_len (s : Rdr) : (textR s).2.1.length ≤ s.1.length := by unfold textR; exact Nat.le_trans (takeR_len _ _).2 (numR_len s)
theorem hashR_len (s : Rdr) : (hashR s).2.1.length ≤ s.1.length := by unfold hashR; exact (takeR_len s 32).2
theorem itemR_len (s : Rdr) : (itemR s).2.1.length ≤ s.1.length ∧ ((itemR s).2.2 = false → (itemR s).2.1.length + 1 ≤ s.1.length) := by
  refine ⟨by unfold itemR; exact Nat.le_trans (hashR_len _) (Nat.le_trans (textR_len _) (octR_len s)), ?_⟩
  obtain ⟨x, s', e⟩ : ∃ x s', itemR s = (x, s') := ⟨_, _, pe _⟩
  rw [e]
  intro hf
  obtain ⟨_, h2⟩ := itemR_back e hf
  rw [h2]
  unfold encI
  simp only [List.length_append, List.length_singleton]
  omega
theorem numR_le (s : Rdr) : (numR s).1 ≤ 72057594037927936 := by
  unfold numR
  split
  · rename_i h0
    exact (getE_back (t := s.1) (n := (getE s.1).1) (m := (getE s.1).2.1) (by rw [← h0])).2
  · simp
def ItemsPost (w0 w : World) (g : Nat) (l : List ItM) (s : Rdr) (e : Ending) (w' : World) : Prop := ∃ v, e = .returned v ∧ OwnI 56 w' w.heap.size v l ∧ RdAt w0 w' g s ∧ Upd g w w'
set_option maxRecDepth 100000 in
set_option maxHeartbeats 1600000 in
theorem ritems_any (w0 w : World) (g : Nat) (s : Rdr) (h : RdAt w0 w g s) (hlen : s.1.length ≤ 1000000) : Calls Try.prog 59 #[.pointer (some ⟨g, 0, none⟩)] w (ItemsPost w0 w g (itemsR (numR s).1 (numR s).2).1 (itemsR (numR s).1 (numR s).2).2) := by
  have HS := Lib.hid h
  have hnl : (numR s).2.1.length ≤ s.1.length := by
    unfold numR
    split
    · simp
    · simp
  obtain ⟨N, s0, e0⟩ : ∃ N s0, numR s = (N, s0) := ⟨_, _, pe _⟩
  have hw0 : w0.heap.size ≤ w.heap.size := by obtain ⟨_, _, _, _, _, h4⟩ := h; exact h4.size
  rw [e0] at hnl ⊢
  replace hnl : s0.1.length ≤ 1000000 := Nat.le_trans hnl hlen
  show Calls _ _ _ w (ItemsPost w0 w g (itemsR N s0).1 (itemsR N s0).2)
  have hnb := numR_le s
  rw [e0] at hnb
  have HNB : Hid (N ≤ 72057594037927936) := hnb
  have HE0 := Lib.hid e0
  have HNL := Lib.hid hnl
  clear h e0 hnl hlen hnb
  go_enter Try.func59, Try.ntmps59
  go_wp2_with fail
  refine (number_any w0 w g s HS.out).mono ?_
  rw [HE0.out]
  rintro e w1 ⟨rfl, hr1, hu1⟩
  have HR1 := Lib.hid hr1
  have HU1 := Lib.hid hu1
  clear hr1 hu1
  go_wp2_with fail
  go_loopw [3, 4] (fun b i wr => ∃ (n : Nat) (acc : List ItM) (q : Rdr), i = .int .i64 n ∧ OwnI 56 wr w.heap.size b acc ∧ RdAt w0 wr g q ∧ Upd g w wr ∧ itemsR N s0 = (acc ++ (itemsR n q).1, (itemsR n q).2) ∧ (q.2 = false → acc.length + q.1.length ≤ 1000000) ∧ acc.length ≤ 1000001 ∧ n ≤ 72057594037927936) (fun _ i _ => (intOf i).toNat)
  case atStart => exact ⟨N, [], s0, rfl, OwnI.nil_ _ _ _, HR1.out, HU1.out, by simp, fun _ => by simpa using HNL.out, by simp, HNB.out⟩
  case round =>
    obtain ⟨n, acc, q, rfl, ho, hr, hu, he, hb1, hb2, hb3⟩ := hrel
    have HO := Lib.hid ho
    have HR := Lib.hid hr
    have HU := Lib.hid hu
    have HE := Lib.hid he
    have HB1 := Lib.hid hb1
    have HB2 := Lib.hid hb2
    obtain ⟨A, c, h1, _⟩ := hr
    obtain ⟨x0, x1, _, _⟩ := two_cells h1
    obtain ⟨f, hf⟩ : ∃ f, q.2 = f := ⟨_, rfl⟩
    rw [hf] at x1
    have HF := Lib.hid hf
    clear ho hu he hb1 hb2 h1 hf x0
    rcases Nat.eq_zero_or_pos n with h0 | h0
    · have hn0 : (n : Int) ≤ 0 := by omega
      have HZ : Hid (itemsR N s0 = (acc, q)) := by
        unfold Hid
        have := HE.out
        rw [h0, itemsR_zero] at this
        simpa using this
      clear h0
      go_wp2_with fail
      go_ret
      rw [HZ.out]
      exact ⟨u3, rfl, HO.out, HR.out, HU.out⟩
    · have hn1 : (0 : Int) < (n : Int) := by omega
      cases f with
      | true =>
        have HZ : Hid (itemsR N s0 = (acc, q)) := by
          unfold Hid
          have := HE.out
          rw [itemsR_fail n q HF.out] at this
          simpa using this
        clear h0
        go_wp2_with fail
        go_ret
        rw [HZ.out]
        exact ⟨u3, rfl, HO.out, HR.out, HU.out⟩
      | false =>
        obtain ⟨m, hm⟩ : ∃ m, n = m + 1 := ⟨n - 1, by omega⟩
        have hwm : IntKind.i64.wrap ((n : Int) - 1) = (m : Int) := by rw [IntKind.wrap_i64]; omega
        have hn2 : (n : Int) ≤ 72057594037927936 := by omega
        have hn3 : (n : Int) - 1 = (m : Int) := by omega
        have HST : Hid (itemsR N s0 = ((acc ++ [(itemR q).1]) ++ (itemsR m (itemR q).2).1, (itemsR m (itemR q).2).2)) := by
          have := HE.out
          rw [hm, itemsR_step m q HF.out] at this
          unfold Hid
          rw [this]
          simp
        have HLN := Lib.hid (itemR_len q)
        have HM := Lib.hid hm
        clear hm h0
        have hw0' := hw0
        go_wp2_with fail
        refine (octet_any w0 wr g q HR.out).mono ?_
        rintro e w2 ⟨rfl, hr2, hu2⟩
        have HR2 := Lib.hid hr2
        have HU2 := Lib.hid (HU.out.trans hu2)
        obtain ⟨cs, hcs⟩ := HR.out.blk
        have HO2 := Lib.hid (HO.out.upd hcs (by decide) hu2)
        clear hr2 hu2 hcs x1
        go_wp2_with fail
        refine (text_any w0 w2 g _ HR2.out).mono ?_
        rintro e w3 ⟨rfl, hr3, hu3⟩
        have HR3 := Lib.hid hr3
        have HU3 := Lib.hid (HU2.out.trans hu3)
        obtain ⟨cs, hcs⟩ := HR2.out.blk
        have HO3 := Lib.hid (HO2.out.upd hcs (by decide) hu3)
        clear hr3 hu3 hcs
        go_wp2_with fail
        refine (hash_any w0 w3 g _ HR3.out).mono ?_
        rintro e w4 ⟨rfl, hr4, hu4⟩
        have HR4 := Lib.hid hr4
        have HU4 := Lib.hid (HU3.out.trans hu4)
        obtain ⟨cs, hcs⟩ := HR3.out.blk
        have HO4 := Lib.hid (HO3.out.upd hcs (by decide) hu4)
        have hz4 : w.heap.size ≤ w4.heap.size := HU4.out.size
        have hsm : acc.length + 1 ≤ 2000000 := by have := HB2.out; omega
        clear hr4 hu4 hcs
        go_wp2_with (at_builtin; refine app_item rfl (.tmp 18) (.tmp 26) rfl w4 w.heap.size u3 acc rfl HO4.out (itemR q).1 _ rfl rfl hsm hz4 ?_; intro v5 w5 ho5 hg5; have HO5 := Lib.hid ho5; have HG5 := Lib.hid hg5; clear ho5 hg5)
        go_roundw
        case rel =>
          have hA : RdAt w0 (w4.alloc (.cells #[.int .i64 (itemR q).1.1, .string (str (itemR q).1.2.1), .string (str (itemR q).1.2.2)] 56)) g (itemR q).2 := HR4.out.below ((Below.refl _ _).alloc (Nat.le_refl _) _)
          have hrow := World.ownsRow.alloc HO4.out (.cells #[.int .i64 (itemR q).1.1, .string (str (itemR q).1.2.1), .string (str (itemR q).1.2.2)] 56)
          have hz5 : w.heap.size ≤ (w4.alloc (.cells #[.int .i64 (itemR q).1.1, .string (str (itemR q).1.2.1), .string (str (itemR q).1.2.2)] 56)).heap.size := by simp; omega
          have hb5 : Below w.heap.size w4 w5 := ((Below.refl _ _).alloc hz4 _).grown HG5.out hz5 (fun k hk => (World.ownsRow.lt HO4.out k hk).1)
          refine ⟨m, acc ++ [(itemR q).1], (itemR q).2, by go_num, HO5.out, hA.row hrow (by decide) HG5.out hw0 hz5, HU4.out.then_below hb5, HST.out, fun hf => ?_, ?_, by omega⟩
          · have h1 := HB1.out HF.out
            have h2 := HLN.out.2 hf
            rw [List.length_append, List.length_singleton]
            omega
          · have h1 := HB1.out HF.out
            rw [List.length_append, List.length_singleton]
            omega
        case measure => have := HM.out; simp [intOf]; omega
end Go.Proofs.Ytcbiajajoojgmaa.Ob
/- obj's reader: commit; slices.Clone of bytes. -/
namespace Go.Proofs.Ytcbiajajoojgmaa.Ob
open Go.RowKit Go.Proofs.Ytcbiajajoojgmaa.Sh
open Go.Proofs.Ytcbiajajoojgmaa.Tx (OwnV SlV sv bl nameB reads_at texts_at toList_ne')

set_option maxRecDepth 100000 in
set_option maxHeartbeats 800000 in
theorem clone_any (v : Value) (bs : List UInt8) (w : World) (h : Sl w v bs) (hn : bs.length ≤ 140737488351232) : Calls Try.prog 57 #[v] w (OwnPost w bs) := by
  obtain ⟨A, c, rfl, hlc, hcm, hI, hA⟩ := h
  unfold maxLen at hcm
  have hnil := fun (w : World) => Lib.run_eql_slice_nil (P := Try.prog) w 22 5 A bs.length c 0 0 Try.underlying22
  cases A with
  | none =>
    have hb : bs = [] := hA rfl
    subst hb
    simp only [List.length_nil, Option.isNone] at hnil ⊢
    go_enter Try.func57, Try.ntmps57
    go_wp2_with fail
    go_ret
    exact ⟨_, rfl, Own.nil_ _ _, Below.refl _ _⟩
  | some ad =>
    simp only [Option.isNone] at hnil
    have hI1 : In (w.alloc (.cells #[] 5)) (some ad) bs := hI.below ((Below.refl _ _).alloc (Nat.le_refl _) _)
    have hr := hI1.reads
    have hown : Own (w.alloc (.cells #[] 5)) w.heap.size (.slice (some ⟨w.heap.size, 0, none⟩) 0 0) [] :=
      World.ownsRow_made w #[] 0 (Nat.le_refl _) (by unfold maxLen; omega) rfl
    obtain ⟨l, hl⟩ : ∃ l, bs.length = l := ⟨_, rfl⟩
    rw [hl] at hr hn hnil ⊢
    have hsm : ([] : List UInt8).length + l ≤ 140737488355328 := by rw [List.length_nil]; omega
    have hz : w.heap.size ≤ (w.alloc (.cells #[] 5)).heap.size := by simp
    have HR := Lib.hid hr
    have HOWN := Lib.hid hown
    have HZ := Lib.hid hz
    clear hl hr hown hz hI hI1 hA hlc
    go_enter Try.func57, Try.ntmps57
    go_wp2_with (at_builtin; refine append_bytes rfl (.tmp 5) (.tmp 6) rfl _ w.heap.size (.slice (some ⟨w.heap.size, 0, none⟩) 0 0) [] rfl HOWN.out _ (some ad) l c bs rfl HR.out hsm HZ.out ?_; intro v3 w3 ho3 hb3; have HO := Lib.hid ho3; have HB := Lib.hid hb3; clear ho3 hb3)
    go_ret
    refine ⟨v3, rfl, ?_, ((Below.refl _ _).alloc (Nat.le_refl _) _).trans HB.out⟩
    simpa using HO.out
theorem OwnV.upd {T T' : TypeId} {w w1 : World} {B g : Nat} {v : Value} {l : List Value} {cs : Array Value} (h : OwnV T w B v l) (hg : Blk w g T' cs) (hT : T' ≠ T) (hu : Upd g w w1) : OwnV T w1 B v l :=
  World.ownsRow.kept h hu.grownBy (row_ne h hg hT)
/-- What stands in an object's block while a commit is read into it. -/
def ComAt (w : World) (b B : Nat) (k : Int) (T : List UInt8) (P : List (List UInt8)) (st au : Int) (ms : List UInt8) : Prop :=
  ∃ A n c, Blk w b 26 #[.int .i64 k, .slice none 0 0, .slice none 0 0, .string (str T), .slice A n c, .int .i64 st, .int .i64 au, .string (str ms)] ∧ OwnV 9 w B (.slice A n c) ((P.map str).map sv)
/-- But for blocks g and b, and for new ones, all is as it was. -/
structure Upd2 (g b : Nat) (w w' : World) : Prop where
  os : w'.os = w.os
  tape : w'.tape = w.tape
  output : w'.output = w.output
  size : w.heap.size ≤ w'.heap.size
  block : ∀ k, k < w.heap.size → k ≠ g → k ≠ b → w'.heap[k]? = w.heap[k]?
theorem Upd.two {g b : Nat} {w w' : World} (h : Upd g w w') : Upd2 g b w w' := ⟨h.os, h.tape, h.output, h.size, fun k hk hn _ => h.block k hk hn⟩
theorem Upd2.refl (g b : Nat) (w : World) : Upd2 g b w w := ⟨rfl, rfl, rfl, Nat.le_refl _, fun _ _ _ _ => rfl⟩
theorem Upd2.trans {g b : Nat} {w w' w2 : World} (h : Upd2 g b w w') (h2 : Upd2 g b w' w2) : Upd2 g b w w2 := ⟨h2.os.trans h.os, h2.tape.trans h.tape, h2.output.trans h.output, Nat.le_trans h.size h2.size, fun k hk hn hm => (h2.block k (Nat.lt_of_lt_of_le hk h.size) hn hm).trans (h.block k hk hn hm)⟩
theorem Upd2.set_ {g b : Nat} {w w' : World} (h : Upd2 g b w w') (i : Nat) (u : Value) : Upd2 g b w (w'.setCell ⟨b, i, none⟩ u) := ⟨h.os, h.tape, h.output, by simpa [World.setCell] using h.size, fun k hk hn hm => (Below.heap_setCell w' ⟨b, i, none⟩ u k hm).trans (h.block k hk hn hm)⟩
theorem Upd2.then_below {g b : Nat} {w w1 w2 : World} (h : Upd2 g b w w1) (h2 : Below w.heap.size w1 w2) : Upd2 g b w w2 := ⟨h2.os.trans h.os, h2.tape.trans h.tape, h2.output.trans h.output, Nat.le_trans h.size h2.size, fun k hk hn hm => (h2.block k hk).trans (h.block k hk hn hm)⟩
theorem ComAt.upd {w w' : World} {b B g : Nat} {k st au : Int} {T ms : List UInt8} {P : List (List UInt8)} {cs : Array Value} (h : ComAt w b B k T P st au ms) (hg : Blk w g 63 cs) (hu : Upd g w w') : ComAt w' b B k T P st au ms := by
  obtain ⟨A, n, c, h1, h2⟩ := h
  exact ⟨A, n, c, hu.blk h1 (Blk.ne_ h1 hg (by decide)), OwnV.upd h2 hg (by decide) hu⟩
theorem RdAt.set_ {w0 w : World} {g b i : Nat} {s : Rdr} {T : TypeId} {cs : Array Value} (h : RdAt w0 w g s) (hb : Blk w b T cs) (hT : T ≠ 63) (hz : w0.heap.size ≤ b) (u : Value) : RdAt w0 (w.setCell ⟨b, i, none⟩ u) g s := by
  have hn : b ≠ g := by
    obtain ⟨_, hg⟩ := h.blk
    exact Blk.ne_ hb hg hT
  exact h.upd ((Upd.refl b w).set_ i u) (fun e => hn e.symm) hz
theorem own_set {T T' : TypeId} {w : World} {B b i : Nat} {v : Value} {l : List Value} {cs : Array Value} (h : OwnV T w B v l) (hb : Blk w b T' cs) (hT : T' ≠ T) (u : Value) : OwnV T (w.setCell ⟨b, i, none⟩ u) B v l := OwnV.upd h hb hT ((Upd.refl b w).set_ i u)
theorem idsR_snoc (n : Nat) : ∀ s : Rdr, idsR (n + 1) s = ((idsR n s).1 ++ [(hashR (idsR n s).2).1], (hashR (idsR n s).2).2) := by
  induction n with
  | zero => intro s; rfl
  | succ n ih =>
    intro s
    rw [idsR, ih]
    conv => rhs; rw [idsR]
    rfl
theorem call_step {P : Program} {ops : Array Oper} {o : Oper} {a : Act} {w : World} {Kk : Act → World → Prop} {Q : Exit → Act → World → Prop} {E : Prop} (hgd : o.guard = none) (f : FuncId) (vs : Array Value) {R : Ending → World → Prop} (hrun : (execOp a.eval o).run P w = .ok (.enter f vs) w)
    (hc : Calls P f vs w R) (hR : ∀ e w', R e w' → ∃ v, e = .returned v ∧ Kk (a.put o.dst v) w') : if Region.wanted o (yielded ops a.tmps) = true then Oper.wp P o a w Kk Q else E := by
  have hw : Region.wanted o (yielded ops a.tmps) = true := by simp [Region.wanted, hgd]
  rw [if_pos hw]
  unfold Oper.wp
  rw [hrun, Oper.upon_enter]
  refine hc.mono ?_
  intro e w' h
  obtain ⟨v, rfl, hk⟩ := hR e w' h
  exact hk
theorem row_sep {w : World} {T T' : TypeId} {B sz n g : Nat} {v : Value} {xs : List Value} {cs : Array Value} (h : w.ownsRow B T sz v n xs) (hg : Blk w g T' cs) (hT : T' ≠ T) : some g ≠ v.ownBlock := by
  rcases row_ne h hg hT with h9 | h9
  · rw [h9]; simp
  · exact fun e => h9 e.symm
theorem reads_one (w : World) (u : ByteArray) : Reads (w.alloc (.cells #[.string u] 9)) (w.heap.size + 1) 1 (some ⟨w.heap.size, 0, none⟩) 1 [sv u] := by
  refine ⟨rfl, fun _ => ⟨_, rfl, by simp, fun j v hv => ?_⟩⟩
  rw [Addr.add_mid, cell_of_row _ _ _ _ 9 (0, 0) (heap_alloc_new w _), Nat.zero_add, ← hv]
  simp [sv]
def CommitPost (w0 w : World) (g b : Nat) (k : Int) (c : ComM) (s : Rdr) (e : Ending) (w' : World) : Prop := e = .returned (.tuple #[]) ∧ ComAt w' b w.heap.size k c.tree c.parents c.stamp c.author c.msg ∧ RdAt w0 w' g s ∧ Upd2 g b w w'
set_option maxRecDepth 100000 in
set_option maxHeartbeats 6400000 in
theorem commit_any (w0 w : World) (g b : Nat) (k : Int) (s : Rdr) (h : RdAt w0 w g s) (hb : Blk w b 26 #[.int .i64 k, .slice none 0 0, .slice none 0 0, .string (str []), .slice none 0 0, .int .i64 0, .int .i64 0, .string (str [])]) (hz : w0.heap.size ≤ b) :
    Calls Try.prog 60 #[.pointer (some ⟨g, 0, none⟩), .pointer (some ⟨b, 0, none⟩)] w (CommitPost w0 w g b k (commR s).1 (commR s).2) := by
  have hww : w0.heap.size ≤ w.heap.size := by obtain ⟨_, _, _, _, _, h4⟩ := h; exact h4.size
  obtain ⟨t, s1, e1⟩ : ∃ t s1, hashR s = (t, s1) := ⟨_, _, pe _⟩
  obtain ⟨n, s2, e2⟩ : ∃ n s2, octR s1 = (n, s2) := ⟨_, _, pe _⟩
  obtain ⟨ids, s3, e3⟩ : ∃ ids s3, idsR n s2 = (ids, s3) := ⟨_, _, pe _⟩
  obtain ⟨st, s4, e4⟩ : ∃ st s4, numR s3 = (st, s4) := ⟨_, _, pe _⟩
  obtain ⟨au, s5, e5⟩ : ∃ au s5, numR s4 = (au, s5) := ⟨_, _, pe _⟩
  obtain ⟨ms, s6, e6⟩ : ∃ ms s6, textR s5 = (ms, s6) := ⟨_, _, pe _⟩
  have hcom : commR s = (⟨t, ids, st, au, ms⟩, s6) := by
    unfold commR
    rw [e1]
    unfold commP
    simp only
    rw [e2]
    simp only
    rw [e3]
    unfold commS
    simp only
    rw [e4]
    unfold commA
    simp only
    rw [e5]
    unfold commM
    rw [e6]
  have hn255 : n ≤ 255 := by
    have : n = ((takeR s1 1).1.headD 0).toNat := by have := congrArg Prod.fst e2; rw [octR_eq] at this; exact this.symm
    rw [this]
    have := ((takeR s1 1).1.headD 0).toNat_lt
    omega
  have HN := Lib.hid hn255
  have E1 := Lib.hid e1
  have E2 := Lib.hid e2
  have E3 := Lib.hid e3
  have E4 := Lib.hid e4
  have E5 := Lib.hid e5
  have E6 := Lib.hid e6
  have HS := Lib.hid h
  have HB := Lib.hid hb
  rw [hcom]
  clear h hb e1 e2 e3 e4 e5 e6 hcom hn255
  go_enter Try.func60, Try.ntmps60
  go_wp2_with fail
  refine (hash_any w0 w g s HS.out).mono ?_
  rw [E1.out]
  rintro e w1 ⟨rfl, hr1, hu1⟩
  obtain ⟨cs, hcs⟩ := HS.out.blk
  have hb1 := hu1.blk HB.out (Blk.ne_ HB.out hcs (by decide))
  obtain ⟨-, -, -, x3, -, -, -, -⟩ := box_cells hb1
  have f3 := hb1.frozen 3
  have hb1' := hb1.set_ 3 (.string (str t))
  have HR1' : Hid (RdAt w0 (w1.setCell ⟨b, 3, none⟩ (.string (str t))) g s1) := hr1.set_ hb1 (by decide) hz _
  have HC1 : Hid (ComAt (w1.setCell ⟨b, 3, none⟩ (.string (str t))) b w.heap.size k t [] 0 0 []) := ⟨none, 0, 0, by simpa using hb1', OwnV.nil_ _ _⟩
  have HU1 : Hid (Upd2 g b w (w1.setCell ⟨b, 3, none⟩ (.string (str t)))) := hu1.two.set_ 3 _
  clear hr1 hu1 hcs hb1 hb1'
  go_wp2_with fail
  obtain ⟨W1, hW1⟩ : ∃ W, W = w1.setCell ⟨b, 3, none⟩ (.string (str t)) := ⟨_, rfl⟩
  rw [← hW1] at HR1' HC1 HU1 ⊢
  clear hW1 x3 f3
  refine (octet_any w0 W1 g s1 HR1'.out).mono ?_
  rw [E2.out]
  rintro e w2 ⟨rfl, hr2, hu2⟩
  obtain ⟨cs, hcs⟩ := HR1'.out.blk
  have HR2 := Lib.hid hr2
  have HC2 := Lib.hid (HC1.out.upd hcs hu2)
  have HU2 := Lib.hid (HU1.out.trans hu2.two)
  clear hr2 hu2 hcs
  go_wp2_with fail
  go_loopw [11] (fun i wr => ∃ (j : Nat), j ≤ n ∧ i = .int .i64 j ∧ ComAt wr b w.heap.size k t (idsR j s2).1 0 0 [] ∧ RdAt w0 wr g (idsR j s2).2 ∧ Upd2 g b w wr) (fun i _ => n - (intOf i).toNat)
  case atStart => exact ⟨0, Nat.zero_le _, rfl, HC2.out, HR2.out, HU2.out⟩
  case round =>
    obtain ⟨j, hj, rfl, hc, hr, hu⟩ := hrel
    have HC := Lib.hid hc
    have HR := Lib.hid hr
    have HU := Lib.hid hu
    have j0 : (0 : Int) ≤ (j : Int) := by omega
    by_cases hlt : j < n
    · have j1 : (j : Int) < (n : Int) := by omega
      have hzr : w.heap.size ≤ wr.heap.size := HU.out.size
      have hpl := idsR_len j s2
      have HPL := Lib.hid hpl
      obtain ⟨i0, hi, hz0, hz1, hz2⟩ := info_parts Tx.info_str
      obtain ⟨A, pn, c, hbk, hown⟩ := hc
      have hpn : pn = j := by
        obtain ⟨A', c', hv, _⟩ := hown.length
        injection hv with _ e _
        rw [e, List.length_map, List.length_map, hpl]
      subst hpn
      have x4 := hbk.cell 4
      have f4 := hbk.frozen 4
      have HBK := Lib.hid hbk
      have HOWN := Lib.hid hown
      obtain ⟨cs, hcs⟩ := hr.blk
      have HCS := Lib.hid hcs
      have HNE : Hid (b ≠ g) := Blk.ne_ hbk hcs (by decide)
      obtain ⟨y, q, eq⟩ : ∃ y q, hashR (idsR pn s2).2 = (y, q) := ⟨_, _, pe _⟩
      have EQ := Lib.hid eq
      have HSN : Hid (idsR (pn + 1) s2 = ((idsR pn s2).1 ++ [y], q)) := by
        unfold Hid
        rw [idsR_snoc, EQ.out]
      have HRD : Hid (RdAt w0 wr.drew g (idsR pn s2).2) := HR.out.below (Below.refl _ _).drew
      clear hr hu hbk hown hcs hpl eq
      go_wp2_with fail
      have hpn9 : pn ≤ 255 := by have := HN.out; omega
      go_region_law (first
        | (have _ := N3; refine step_append_any _ rfl (.tmp 17) (.tmp 20) 24 rfl w.heap.size 9 i0 (.string ⟨#[]⟩) 1 16 Try.underlying24 hi hz0 hz1 hz2 rfl (by decide) (.slice A pn c) pn _ rfl (by exact HOWA.out) _ (some ⟨w3.heap.size, 0, none⟩) 1 1 [sv (str y)] rfl (by exact HRA.out) (Tx.sv_one [str y]) (by unfold maxLen; omega) (by omega) (by exact HZA.out) ?_; intro v5 w5 ho5 hg5 hk5; have HG5 := Lib.hid hg5; have hb5 := HBKA.out.grown hg5 HNV.out; have x4b := hb5.cell 4; have f4b := hb5.frozen 4; have HB5 := Lib.hid hb5; have HO5 : Hid (OwnV 9 w5 w.heap.size v5 ((((idsR pn s2).1 ++ [y]).map str).map sv)) := (by unfold Hid OwnV; rw [List.length_map, List.length_map, List.length_append, HPL.out, List.map_append, List.map_append]; exact ho5); obtain ⟨A5, c5, hv5, _, _⟩ := HO5.out.length; subst hv5; clear ho5 hg5 hk5 hb5)
        | (refine call_step rfl 76 #[.pointer (some ⟨g, 0, none⟩)] (by go_simp) (hash_any w0 _ g _ (by exact HRD.out)) ?_; rw [EQ.out]; rintro e w3 ⟨rfl, hr3, hu3⟩; refine ⟨_, rfl, ?_⟩; have N3 : True := trivial; have HR3 := Lib.hid hr3; have HU3 : Hid (Upd g wr w3) := ⟨hu3.os, hu3.tape, hu3.output, hu3.size, hu3.block⟩; have HBK3 := Lib.hid (HU3.out.blk HBK.out HNE.out); have x4' := HBK3.out.cell 4; have f4' := HBK3.out.frozen 4; have HOW3 := Lib.hid (OwnV.upd HOWN.out HCS.out (by decide) HU3.out); have HZ3 : Hid (w.heap.size ≤ w3.heap.size) := Nat.le_trans hzr HU3.out.size; have HBKA : Hid (Blk (w3.alloc (.cells #[.string (str y)] 9)) b 26 _) := HBK3.out.alloc _; have x4a := HBKA.out.cell 4; have f4a := HBKA.out.frozen 4; have HOWA : Hid ((w3.alloc (.cells #[.string (str y)] 9)).ownsRow w.heap.size 9 1 (.slice A pn c) pn (((idsR pn s2).1.map str).map sv)) := (by have h9 := HOW3.out.alloc (.cells #[.string (str y)] 9); unfold OwnV at h9; rw [List.length_map, List.length_map, HPL.out] at h9; exact h9); have HNV : Hid (some b ≠ (Value.slice A pn c).ownBlock) := row_sep HOWA.out HBKA.out (by decide); have HRA : Hid (Reads (w3.alloc (.cells #[.string (str y)] 9)) (w3.heap.size + 1) 1 (some ⟨w3.heap.size, 0, none⟩) 1 [sv (str y)]) := reads_one w3 (str y); have HZA : Hid (w.heap.size ≤ (w3.alloc (.cells #[.string (str y)] 9)).heap.size) := (by unfold Hid; have := HZ3.out; simp; omega); clear hr3 hu3))
      all_goals
        go_wp2_with fail
        go_roundw
        case rel =>
          have hrow : RdAt w0 w5 g q := (HR3.out.below ((Below.refl _ _).alloc (Nat.le_refl _) _)).row HOWA.out (by decide) HG5.out hww HZA.out
          have hb5 : Below w.heap.size w3 w5 := ((Below.refl _ _).alloc HZ3.out _).grown HG5.out HZA.out (fun k hk => (World.ownsRow.lt HOWA.out k hk).1)
          refine ⟨pn + 1, by omega, by go_num, ?_, ?_, ?_⟩
          · rw [HSN.out]
            refine ⟨A5, _, c5, ?_, own_set HO5.out HB5.out (by decide) _⟩
            have h9 := HB5.out.set_ 4 (.slice A5 ((((idsR pn s2).1 ++ [y]).map str).map sv).length c5)
            simpa using h9
          · rw [HSN.out]
            exact hrow.set_ HB5.out (by decide) hz _
          · exact ((HU.out.trans HU3.out.two).then_below hb5).set_ 4 _
        case measure => simp [intOf]; omega
    · obtain rfl : j = n := by omega
      have HCn : Hid (ComAt wr b w.heap.size k t ids 0 0 []) := by unfold Hid; have := HC.out; rw [E3.out] at this; exact this
      have HRn : Hid (RdAt w0 wr g s3) := by unfold Hid; have := HR.out; rw [E3.out] at this; exact this
      obtain ⟨W3, hW3⟩ : ∃ W, W = wr := ⟨_, rfl⟩
      subst hW3
      clear hc hr hu HC HR
      go_wp2_with fail
      refine (number_any w0 W3 g s3 HRn.out).mono ?_
      rw [E4.out]
      rintro e w4 ⟨rfl, hr4, hu4⟩
      obtain ⟨cs, hcs⟩ := HRn.out.blk
      obtain ⟨A, pn, c, hb4, ho4⟩ := HCn.out.upd hcs hu4
      have HU4 := Lib.hid (HU.out.trans hu4.two)
      have x5 := hb4.cell 5
      have f5 := hb4.frozen 5
      have HR4 : Hid (RdAt w0 (w4.setCell ⟨b, 5, none⟩ (.int .i64 (st : Int))) g s4) := hr4.set_ hb4 (by decide) hz _
      have HC4 : Hid (ComAt (w4.setCell ⟨b, 5, none⟩ (.int .i64 (st : Int))) b w.heap.size k t ids st 0 []) := ⟨A, pn, c, by simpa using hb4.set_ 5 (.int .i64 (st : Int)), own_set ho4 hb4 (by decide) _⟩
      have HU4' : Hid (Upd2 g b w (w4.setCell ⟨b, 5, none⟩ (.int .i64 (st : Int)))) := HU4.out.set_ 5 _
      clear hr4 hu4 hcs hb4 ho4
      go_wp2_with fail
      obtain ⟨W4, hW4⟩ : ∃ W, W = w4.setCell ⟨b, 5, none⟩ (.int .i64 (st : Int)) := ⟨_, rfl⟩
      rw [← hW4] at HR4 HC4 HU4' ⊢
      clear hW4 x5 f5
      refine (number_any w0 W4 g s4 HR4.out).mono ?_
      rw [E5.out]
      rintro e w5 ⟨rfl, hr5, hu5⟩
      obtain ⟨cs, hcs⟩ := HR4.out.blk
      obtain ⟨A, pn, c, hb5, ho5⟩ := HC4.out.upd hcs hu5
      have HU5 := Lib.hid (HU4'.out.trans hu5.two)
      have x6 := hb5.cell 6
      have f6 := hb5.frozen 6
      have HR5 : Hid (RdAt w0 (w5.setCell ⟨b, 6, none⟩ (.int .i64 (au : Int))) g s5) := hr5.set_ hb5 (by decide) hz _
      have HC5 : Hid (ComAt (w5.setCell ⟨b, 6, none⟩ (.int .i64 (au : Int))) b w.heap.size k t ids st au []) := ⟨A, pn, c, by simpa using hb5.set_ 6 (.int .i64 (au : Int)), own_set ho5 hb5 (by decide) _⟩
      have HU5' : Hid (Upd2 g b w (w5.setCell ⟨b, 6, none⟩ (.int .i64 (au : Int)))) := HU5.out.set_ 6 _
      clear hr5 hu5 hcs hb5 ho5
      go_wp2_with fail
      obtain ⟨W5, hW5⟩ : ∃ W, W = w5.setCell ⟨b, 6, none⟩ (.int .i64 (au : Int)) := ⟨_, rfl⟩
      rw [← hW5] at HR5 HC5 HU5' ⊢
      clear hW5 x6 f6
      refine (text_any w0 W5 g s5 HR5.out).mono ?_
      rw [E6.out]
      rintro e w6 ⟨rfl, hr6, hu6⟩
      obtain ⟨cs, hcs⟩ := HR5.out.blk
      obtain ⟨A, pn, c, hb6, ho6⟩ := HC5.out.upd hcs hu6
      have HU6 := Lib.hid (HU5'.out.trans hu6.two)
      have x7 := hb6.cell 7
      have f7 := hb6.frozen 7
      have HR6 : Hid (RdAt w0 (w6.setCell ⟨b, 7, none⟩ (.string (str ms))) g s6) := hr6.set_ hb6 (by decide) hz _
      have HC6 : Hid (ComAt (w6.setCell ⟨b, 7, none⟩ (.string (str ms))) b w.heap.size k t ids st au ms) := ⟨A, pn, c, by simpa using hb6.set_ 7 (.string (str ms)), own_set ho6 hb6 (by decide) _⟩
      have HU6' : Hid (Upd2 g b w (w6.setCell ⟨b, 7, none⟩ (.string (str ms)))) := HU6.out.set_ 7 _
      clear hr6 hu6 hcs hb6 ho6
      go_wp2_with fail
      go_end0
      exact ⟨rfl, HC6.out, HR6.out, HU6'.out⟩
end Go.Proofs.Ytcbiajajoojgmaa.Ob
/- obj's reader: object. -/
namespace Go.Proofs.Ytcbiajajoojgmaa.Ob
open Go.RowKit Go.Proofs.Ytcbiajajoojgmaa.Sh
open Go.Proofs.Ytcbiajajoojgmaa.Tx (OwnV SlV sv bl nameB reads_at texts_at toList_ne')

/-- An object's value, all of whose slices are the call's own. -/
def ObO (w : World) (B : Nat) (v : Value) (o : ObM) : Prop := ∃ A n c A2 n2 c2 A3 n3 c3, v = .agg #[.int .i64 o.kind, .slice A n c, .slice A2 n2 c2, .string (str o.tree), .slice A3 n3 c3, .int .i64 o.stamp, .int .i64 o.author, .string (str o.msg)] ∧ Own w B (.slice A n c) o.data ∧ OwnI 56 w B (.slice A2 n2 c2) o.items ∧ OwnV 9 w B (.slice A3 n3 c3) ((o.parents.map str).map sv)
theorem ObO.obV {w : World} {B : Nat} {v : Value} {o : ObM} (h : ObO w B v o) : ObV w v o := by
  obtain ⟨A, n, c, A2, n2, c2, A3, n3, c3, rfl, h1, h2, h3⟩ := h
  exact ⟨_, _, _, rfl, h1.sl, h2.slI, h3.slv⟩
def set8 (w : World) (b : Nat) (c0 c1 c2 c3 c4 c5 c6 c7 : Value) : World := (((((((w.setCell ⟨b, 0, none⟩ c0).setCell ⟨b, 1, none⟩ c1).setCell ⟨b, 2, none⟩ c2).setCell ⟨b, 3, none⟩ c3).setCell ⟨b, 4, none⟩ c4).setCell ⟨b, 5, none⟩ c5).setCell ⟨b, 6, none⟩ c6).setCell ⟨b, 7, none⟩ c7
theorem set8_blk {w : World} {b : Nat} {T : TypeId} {d0 d1 d2 d3 d4 d5 d6 d7 : Value} (h : Blk w b T #[d0, d1, d2, d3, d4, d5, d6, d7]) (c0 c1 c2 c3 c4 c5 c6 c7 : Value) : Blk (set8 w b c0 c1 c2 c3 c4 c5 c6 c7) b T #[c0, c1, c2, c3, c4, c5, c6, c7] := by
  have := (((((((h.set_ 0 c0).set_ 1 c1).set_ 2 c2).set_ 3 c3).set_ 4 c4).set_ 5 c5).set_ 6 c6).set_ 7 c7
  simpa [set8] using this
theorem set8_upd (w : World) (b : Nat) (c0 c1 c2 c3 c4 c5 c6 c7 : Value) : Upd b w (set8 w b c0 c1 c2 c3 c4 c5 c6 c7) :=
  ((((((((Upd.refl b w).set_ 0 c0).set_ 1 c1).set_ 2 c2).set_ 3 c3).set_ 4 c4).set_ 5 c5).set_ 6 c6).set_ 7 c7
theorem row_upd {w w1 : World} {T T' : TypeId} {B sz n g : Nat} {v : Value} {xs : List Value} {cs : Array Value} (h : w.ownsRow B T sz v n xs) (hg : Blk w g T' cs) (hT : T' ≠ T) (hu : Upd g w w1) : w1.ownsRow B T sz v n xs := World.ownsRow.kept h hu.grownBy (row_ne h hg hT)
/-- All is laid into the answer's block. -/
theorem obj_fin {w0 w wz : World} {g b : Nat} {s : Rdr} {d0 d1 d2 d3 d4 d5 d6 d7 : Value} (hb : Blk wz b 26 #[d0, d1, d2, d3, d4, d5, d6, d7]) (hz : w0.heap.size ≤ b) (hw : w.heap.size ≤ b) (hr : RdAt w0 wz g s) (hu : Upd g w wz)
    {o : ObM} {A A2 A3 : Option Addr} {n c n2 c2 n3 c3 : Nat} (h1 : Own wz w.heap.size (.slice A n c) o.data) (h2 : OwnI 56 wz w.heap.size (.slice A2 n2 c2) o.items) (h3 : OwnV 9 wz w.heap.size (.slice A3 n3 c3) ((o.parents.map str).map sv)) :
    Blk (set8 wz b (.int .i64 o.kind) (.slice A n c) (.slice A2 n2 c2) (.string (str o.tree)) (.slice A3 n3 c3) (.int .i64 o.stamp) (.int .i64 o.author) (.string (str o.msg))) b 26 #[.int .i64 o.kind, .slice A n c, .slice A2 n2 c2, .string (str o.tree), .slice A3 n3 c3, .int .i64 o.stamp, .int .i64 o.author, .string (str o.msg)] ∧
    ObO (set8 wz b (.int .i64 o.kind) (.slice A n c) (.slice A2 n2 c2) (.string (str o.tree)) (.slice A3 n3 c3) (.int .i64 o.stamp) (.int .i64 o.author) (.string (str o.msg))) w.heap.size (.agg #[.int .i64 o.kind, .slice A n c, .slice A2 n2 c2, .string (str o.tree), .slice A3 n3 c3, .int .i64 o.stamp, .int .i64 o.author, .string (str o.msg)]) o ∧
    RdAt w0 (set8 wz b (.int .i64 o.kind) (.slice A n c) (.slice A2 n2 c2) (.string (str o.tree)) (.slice A3 n3 c3) (.int .i64 o.stamp) (.int .i64 o.author) (.string (str o.msg))) g s ∧
    Upd g w (set8 wz b (.int .i64 o.kind) (.slice A n c) (.slice A2 n2 c2) (.string (str o.tree)) (.slice A3 n3 c3) (.int .i64 o.stamp) (.int .i64 o.author) (.string (str o.msg))) := by
  have hu8 := set8_upd wz b (.int .i64 o.kind) (.slice A n c) (.slice A2 n2 c2) (.string (str o.tree)) (.slice A3 n3 c3) (.int .i64 o.stamp) (.int .i64 o.author) (.string (str o.msg))
  have hne : g ≠ b := by
    obtain ⟨_, hg⟩ := hr.blk
    exact Blk.ne_ hg hb (by decide)
  refine ⟨set8_blk hb _ _ _ _ _ _ _ _, ⟨A, n, c, A2, n2, c2, A3, n3, c3, rfl, row_upd h1 hb (by decide) hu8, row_upd h2 hb (by decide) hu8, row_upd h3 hb (by decide) hu8⟩, hr.upd hu8 hne hz, hu.then_below (hu8.below hw hu.size)⟩
theorem cells8 {w : World} {b : Nat} {T : TypeId} {c0 c1 c2 c3 c4 c5 c6 c7 : Value} (h : Blk w b T #[c0, c1, c2, c3, c4, c5, c6, c7]) :
    (w.frozen? ⟨b, 0, none⟩ = false ∧ w.frozen? ⟨b, 1, none⟩ = false ∧ w.frozen? ⟨b, 2, none⟩ = false ∧ w.frozen? ⟨b, 3, none⟩ = false ∧ w.frozen? ⟨b, 4, none⟩ = false ∧ w.frozen? ⟨b, 5, none⟩ = false ∧ w.frozen? ⟨b, 6, none⟩ = false ∧ w.frozen? ⟨b, 7, none⟩ = false) :=
  ⟨h.frozen 0, h.frozen 1, h.frozen 2, h.frozen 3, h.frozen 4, h.frozen 5, h.frozen 6, h.frozen 7⟩
theorem takeR_all (s : Rdr) : takeR s s.1.length = (s.1, ([], s.2)) := by
  unfold takeR
  rw [if_neg (by omega)]
  simp
def ObjPost (w0 w : World) (g : Nat) (o : ObM) (s : Rdr) (e : Ending) (w' : World) : Prop := ∃ v, e = .returned v ∧ ObO w' w.heap.size v o ∧ RdAt w0 w' g s ∧ Upd g w w'
set_option maxRecDepth 100000 in
set_option maxHeartbeats 6400000 in
theorem object_any (w0 w : World) (g : Nat) (s : Rdr) (h : RdAt w0 w g s) (hlen : s.1.length ≤ 1000000) : Calls Try.prog 32 #[.pointer (some ⟨g, 0, none⟩)] w (ObjPost w0 w g (objS (octR s).1 (octR s).2).1 (objS (octR s).1 (octR s).2).2) := by
  have hww : w0.heap.size ≤ w.heap.size := by obtain ⟨_, _, _, _, _, h4⟩ := h; exact h4.size
  obtain ⟨k, s1, e1⟩ : ∃ k s1, octR s = (k, s1) := ⟨_, _, pe _⟩
  have hl1 : s1.1.length ≤ 1000000 := by have := octR_len s; rw [e1] at this; exact Nat.le_trans this hlen
  rw [e1]
  have E1 := Lib.hid e1
  have HS : Hid (RdAt w0 (w.alloc (.cells #[.int .i64 0, .slice none 0 0, .slice none 0 0, .string ⟨#[]⟩, .slice none 0 0, .int .i64 0, .int .i64 0, .string ⟨#[]⟩] 26)) g s) := h.below ((Below.refl _ _).alloc (Nat.le_refl _) _)
  have HU0 : Hid (Upd g w (w.alloc (.cells #[.int .i64 0, .slice none 0 0, .slice none 0 0, .string ⟨#[]⟩, .slice none 0 0, .int .i64 0, .int .i64 0, .string ⟨#[]⟩] 26))) := (Upd.refl g w).alloc _
  have HZ0 : Hid (Blk (w.alloc (.cells #[.int .i64 0, .slice none 0 0, .slice none 0 0, .string ⟨#[]⟩, .slice none 0 0, .int .i64 0, .int .i64 0, .string ⟨#[]⟩] 26)) w.heap.size 26 #[.int .i64 0, .slice none 0 0, .slice none 0 0, .string ⟨#[]⟩, .slice none 0 0, .int .i64 0, .int .i64 0, .string ⟨#[]⟩]) := Blk.new _ _ _
  have HL1 := Lib.hid hl1
  clear h e1 hlen hl1
  go_enter Try.func32, Try.ntmps32
  go_wp2_with fail
  refine (octet_any w0 _ g s HS.out).mono ?_
  rw [E1.out]
  rintro e w1 ⟨rfl, hr1, hu1⟩
  obtain ⟨cs, hcs⟩ := HS.out.blk
  have HZ1 := Lib.hid (hu1.blk HZ0.out (Blk.ne_ HZ0.out hcs (by decide)))
  have HR1 : Hid (RdAt w0 (w1.alloc (.cells #[.int .i64 (k : Int), .slice none 0 0, .slice none 0 0, .string ⟨#[]⟩, .slice none 0 0, .int .i64 0, .int .i64 0, .string ⟨#[]⟩] 26)) g s1) := hr1.below ((Below.refl _ _).alloc (Nat.le_refl _) _)
  have HU1 : Hid (Upd g w (w1.alloc (.cells #[.int .i64 (k : Int), .slice none 0 0, .slice none 0 0, .string ⟨#[]⟩, .slice none 0 0, .int .i64 0, .int .i64 0, .string ⟨#[]⟩] 26))) := (HU0.out.trans hu1).alloc _
  have hz1 : w.heap.size ≤ w1.heap.size := (HU0.out.trans hu1).size
  have HB1 : Hid (Blk (w1.alloc (.cells #[.int .i64 (k : Int), .slice none 0 0, .slice none 0 0, .string ⟨#[]⟩, .slice none 0 0, .int .i64 0, .int .i64 0, .string ⟨#[]⟩] 26)) w1.heap.size 26 #[.int .i64 (k : Int), .slice none 0 0, .slice none 0 0, .string ⟨#[]⟩, .slice none 0 0, .int .i64 0, .int .i64 0, .string ⟨#[]⟩]) := Blk.new _ _ _
  have HY1 : Hid (Blk (w1.alloc (.cells #[.int .i64 (k : Int), .slice none 0 0, .slice none 0 0, .string ⟨#[]⟩, .slice none 0 0, .int .i64 0, .int .i64 0, .string ⟨#[]⟩] 26)) w.heap.size 26 #[.int .i64 0, .slice none 0 0, .slice none 0 0, .string ⟨#[]⟩, .slice none 0 0, .int .i64 0, .int .i64 0, .string ⟨#[]⟩]) := HZ1.out.alloc _
  have hlt1 : w.heap.size < w1.heap.size := HZ1.out.lt
  have HN23 : Hid (w1.heap.size ≠ w.heap.size) := by unfold Hid; omega
  have HZB : Hid (w.heap.size ≤ w1.heap.size) := hz1
  clear hr1 hu1 hcs hlt1 hz1
  by_cases h1 : k = 1
  · subst h1
    have HM : Hid (objS 1 s1 = (⟨1, s1.1, [], [], [], 0, 0, []⟩, ([], s1.2))) := by unfold Hid objS; rw [if_pos rfl]
    rw [show ((1 : Nat) : Int) = 1 from rfl] at *
    obtain ⟨RA, rc, hrb, _⟩ := HR1.out
    obtain ⟨r0, r1, _, _⟩ := two_cells hrb
    obtain ⟨l, hl⟩ : ∃ l, s1.1.length = l := ⟨_, rfl⟩
    have HLL := Lib.hid hl
    rw [hl] at r0
    clear hrb hl
    go_wp2_with fail
    clear r0 r1
    refine (take_any w0 _ g l s1 HR1.out).mono ?_
    rw [show takeR s1 l = (s1.1, ([], s1.2)) from by rw [← HLL.out]; exact takeR_all s1]
    rintro e w2 ⟨u, rfl, hsl, hr2, hu2⟩
    obtain ⟨cs, hcs⟩ := HR1.out.blk
    have HB2 := Lib.hid (hu2.blk HB1.out (Blk.ne_ HB1.out hcs (by decide)))
    have HY2 := Lib.hid (hu2.blk HY1.out (Blk.ne_ HY1.out hcs (by decide)))
    have HR2 := Lib.hid hr2
    have HU2 := Lib.hid (HU1.out.trans hu2)
    have HSL : Hid (Sl w2 u s1.1) := by obtain ⟨_, _, _, _, _, h4⟩ := hr2; exact hsl.below h4
    clear hsl hr2 hu2 hcs
    go_wp2_with fail
    refine (clone_any u s1.1 w2 HSL.out (by have := HL1.out; omega)).mono ?_
    rintro e w3 ⟨dv, rfl, ho3, hb3⟩
    have HB3 := Lib.hid (HB2.out.below hb3 HB2.out.lt)
    have HY3 := Lib.hid (HY2.out.below hb3 HY2.out.lt)
    have HR3 := Lib.hid (HR2.out.below hb3)
    have HU3 := Lib.hid (HU2.out.trans (Upd.of_below hb3))
    have HO3 : Hid (Own w3 w.heap.size dv s1.1) := Own.based ho3 HU2.out.size
    obtain ⟨DA, dc, hdv, _, _⟩ := Own.length ho3
    subst hdv
    clear ho3 hb3
    obtain ⟨dn, hdn⟩ : ∃ dn, s1.1.length = dn := ⟨_, rfl⟩
    rw [hdn] at HO3 ⊢
    clear hdn
    have xb := HB3.out.cell 1
    have fb := HB3.out.frozen 1
    have HB4 : Hid (Blk (w3.setCell ⟨w1.heap.size, 1, none⟩ (.slice DA dn dc)) w1.heap.size 26 #[.int .i64 1, .slice DA dn dc, .slice none 0 0, .string ⟨#[]⟩, .slice none 0 0, .int .i64 0, .int .i64 0, .string ⟨#[]⟩]) := by unfold Hid; simpa using HB3.out.set_ 1 (.slice DA dn dc)
    have HY4 : Hid (Blk (w3.setCell ⟨w1.heap.size, 1, none⟩ (.slice DA dn dc)) w.heap.size 26 #[.int .i64 0, .slice none 0 0, .slice none 0 0, .string ⟨#[]⟩, .slice none 0 0, .int .i64 0, .int .i64 0, .string ⟨#[]⟩]) := HY3.out.far (fun e => HN23.out e.symm) _
    have HR4 : Hid (RdAt w0 (w3.setCell ⟨w1.heap.size, 1, none⟩ (.slice DA dn dc)) g ([], s1.2)) := HR3.out.set_ HB3.out (by decide) (Nat.le_trans hww HZB.out) _
    have HU4 : Hid (Upd g w (w3.setCell ⟨w1.heap.size, 1, none⟩ (.slice DA dn dc))) := HU3.out.then_below ((Below.refl _ _).setCell (p := ⟨w1.heap.size, 1, none⟩) HZB.out _)
    have HO4 : Hid (Own (w3.setCell ⟨w1.heap.size, 1, none⟩ (.slice DA dn dc)) w.heap.size (.slice DA dn dc) s1.1) := row_upd HO3.out HB3.out (by decide) ((Upd.refl _ _).set_ 1 _)
    obtain ⟨y0, y1, y2, y3, y4, y5, y6, y7⟩ := box_cells HB4.out
    obtain ⟨z0, z1, z2, z3, z4, z5, z6, z7⟩ := box_cells HY4.out
    obtain ⟨f0, f1, f2, f3, f4, f5, f6, f7⟩ := cells8 HY4.out
    go_wp2_with fail
    obtain ⟨wz, hwz⟩ : ∃ W, W = w3.setCell ⟨w1.heap.size, 1, none⟩ (.slice DA dn dc) := ⟨_, rfl⟩
    have HWZ := Lib.hid hwz
    rw [← hwz]
    have HYZ : Hid (Blk wz w.heap.size 26 #[.int .i64 0, .slice none 0 0, .slice none 0 0, .string ⟨#[]⟩, .slice none 0 0, .int .i64 0, .int .i64 0, .string ⟨#[]⟩]) := by unfold Hid; rw [hwz]; exact HY4.out
    have HRZ : Hid (RdAt w0 wz g ([], s1.2)) := by unfold Hid; rw [hwz]; exact HR4.out
    have HUZ : Hid (Upd g w wz) := by unfold Hid; rw [hwz]; exact HU4.out
    have HOZ : Hid (Own wz w.heap.size (.slice DA dn dc) s1.1) := by unfold Hid; rw [hwz]; exact HO4.out
    have hfin := obj_fin (w := w) (o := (⟨1, s1.1, [], [], [], 0, 0, []⟩ : ObM)) HYZ.out hww (Nat.le_refl _) HRZ.out HUZ.out HOZ.out (OwnI.nil_ _ _ _) (OwnV.nil_ _ _)
    clear hwz z0 z1 z2 z3 z4 z5 z6 z7 f0 f1 f2 f3 f4 f5 f6 f7
    obtain ⟨wc, hwc⟩ : ∃ wc, wc = set8 wz w.heap.size (.int .i64 1) (.slice DA dn dc) (.slice none 0 0) (.string (str [])) (.slice none 0 0) (.int .i64 0) (.int .i64 0) (.string (str [])) := ⟨_, rfl⟩
    change bodyPost _ _ _ _ _ (set8 wz w.heap.size (.int .i64 1) (.slice DA dn dc) (.slice none 0 0) (.string (str [])) (.slice none 0 0) (.int .i64 0) (.int .i64 0) (.string (str [])))
    rw [← hwc]
    obtain ⟨g1, g2, g3, g4⟩ := hfin
    obtain ⟨q0, q1, q2, q3, q4, q5, q6, q7⟩ : wc.cell? ⟨w.heap.size, 0, none⟩ = _ ∧ wc.cell? ⟨w.heap.size, 1, none⟩ = _ ∧ wc.cell? ⟨w.heap.size, 2, none⟩ = _ ∧ wc.cell? ⟨w.heap.size, 3, none⟩ = _ ∧ wc.cell? ⟨w.heap.size, 4, none⟩ = _ ∧ wc.cell? ⟨w.heap.size, 5, none⟩ = _ ∧ wc.cell? ⟨w.heap.size, 6, none⟩ = _ ∧ wc.cell? ⟨w.heap.size, 7, none⟩ = _ := by
      rw [hwc]
      exact box_cells g1
    refine bodyPost_ret (v := .agg #[.int .i64 1, .slice DA dn dc, .slice none 0 0, .string (str []), .slice none 0 0, .int .i64 0, .int .i64 0, .string (str [])]) (by simp [results, Try.results32, go_sem, q0, q1, q2, q3, q4, q5, q6, q7]) rfl ?_
    rw [hwc]
    rw [HM.out]
    exact ⟨_, rfl, g2, g3, g4⟩
  · by_cases h2 : k = 2
    · subst h2
      have HM : Hid (objS 2 s1 = (⟨2, [], (itemsR (numR s1).1 (numR s1).2).1, [], [], 0, 0, []⟩, (itemsR (numR s1).1 (numR s1).2).2)) := by unfold Hid objS; rw [if_neg (by decide), if_pos rfl]
      rw [show ((2 : Nat) : Int) = 2 from rfl] at *
      clear h1
      obtain ⟨L, sL, hLs⟩ : ∃ L sL, itemsR (numR s1).1 (numR s1).2 = (L, sL) := ⟨_, _, pe _⟩
      have HLs := Lib.hid hLs
      clear hLs
      go_wp2_with fail
      refine (ritems_any w0 _ g s1 HR1.out HL1.out).mono ?_
      rw [HLs.out]
      rintro e w3 ⟨dv, rfl, ho3, hr3, hu3⟩
      obtain ⟨cs, hcs⟩ := HR1.out.blk
      have HB3 := Lib.hid (hu3.blk HB1.out (Blk.ne_ HB1.out hcs (by decide)))
      have HY3 := Lib.hid (hu3.blk HY1.out (Blk.ne_ HY1.out hcs (by decide)))
      have HR3 := Lib.hid hr3
      have HU3 := Lib.hid (HU1.out.trans hu3)
      have HO3 : Hid (OwnI 56 w3 w.heap.size dv L) := OwnI.base ho3 HU1.out.size
      obtain ⟨DA, dc, hdv, _, _⟩ : ∃ A c, dv = .slice A L.length c ∧ True ∧ True := by
        rcases ho3.2 with ⟨rfl, h0⟩ | ⟨gg, cap, cur, rfl, _⟩
        · exact ⟨none, 0, by rw [h0], trivial, trivial⟩
        · exact ⟨_, _, rfl, trivial, trivial⟩
      subst hdv
      clear ho3 hr3 hu3 hcs
      obtain ⟨dn, hdn⟩ : ∃ dn, L.length = dn := ⟨_, rfl⟩
      rw [hdn] at HO3 ⊢
      clear hdn
      have xb := HB3.out.cell 2
      have fb := HB3.out.frozen 2
      have HB4 : Hid (Blk (w3.setCell ⟨w1.heap.size, 2, none⟩ (.slice DA dn dc)) w1.heap.size 26 #[.int .i64 2, .slice none 0 0, .slice DA dn dc, .string ⟨#[]⟩, .slice none 0 0, .int .i64 0, .int .i64 0, .string ⟨#[]⟩]) := by unfold Hid; simpa using HB3.out.set_ 2 (.slice DA dn dc)
      have HY4 : Hid (Blk (w3.setCell ⟨w1.heap.size, 2, none⟩ (.slice DA dn dc)) w.heap.size 26 #[.int .i64 0, .slice none 0 0, .slice none 0 0, .string ⟨#[]⟩, .slice none 0 0, .int .i64 0, .int .i64 0, .string ⟨#[]⟩]) := HY3.out.far (fun e => HN23.out e.symm) _
      have HR4 : Hid (RdAt w0 (w3.setCell ⟨w1.heap.size, 2, none⟩ (.slice DA dn dc)) g sL) := HR3.out.set_ HB3.out (by decide) (Nat.le_trans hww HZB.out) _
      have HU4 : Hid (Upd g w (w3.setCell ⟨w1.heap.size, 2, none⟩ (.slice DA dn dc))) := HU3.out.then_below ((Below.refl _ _).setCell (p := ⟨w1.heap.size, 2, none⟩) HZB.out _)
      have HO4 : Hid (OwnI 56 (w3.setCell ⟨w1.heap.size, 2, none⟩ (.slice DA dn dc)) w.heap.size (.slice DA dn dc) L) := row_upd HO3.out HB3.out (by decide) ((Upd.refl _ _).set_ 2 _)
      obtain ⟨y0, y1, y2, y3, y4, y5, y6, y7⟩ := box_cells HB4.out
      obtain ⟨z0, z1, z2, z3, z4, z5, z6, z7⟩ := box_cells HY4.out
      obtain ⟨f0, f1, f2, f3, f4, f5, f6, f7⟩ := cells8 HY4.out
      go_wp2_with fail
      obtain ⟨wz, hwz⟩ : ∃ W, W = w3.setCell ⟨w1.heap.size, 2, none⟩ (.slice DA dn dc) := ⟨_, rfl⟩
      have HWZ := Lib.hid hwz
      rw [← hwz]
      have HYZ : Hid (Blk wz w.heap.size 26 #[.int .i64 0, .slice none 0 0, .slice none 0 0, .string ⟨#[]⟩, .slice none 0 0, .int .i64 0, .int .i64 0, .string ⟨#[]⟩]) := by unfold Hid; rw [hwz]; exact HY4.out
      have HRZ : Hid (RdAt w0 wz g sL) := by unfold Hid; rw [hwz]; exact HR4.out
      have HUZ : Hid (Upd g w wz) := by unfold Hid; rw [hwz]; exact HU4.out
      have HOZ : Hid (OwnI 56 wz w.heap.size (.slice DA dn dc) L) := by unfold Hid; rw [hwz]; exact HO4.out
      have hfin := obj_fin (w := w) (o := (⟨2, [], L, [], [], 0, 0, []⟩ : ObM)) HYZ.out hww (Nat.le_refl _) HRZ.out HUZ.out (Own.nil_ _ _) HOZ.out (OwnV.nil_ _ _)
      clear hwz z0 z1 z2 z3 z4 z5 z6 z7 f0 f1 f2 f3 f4 f5 f6 f7
      obtain ⟨wc, hwc⟩ : ∃ wc, wc = set8 wz w.heap.size (.int .i64 2) (.slice none 0 0) (.slice DA dn dc) (.string (str [])) (.slice none 0 0) (.int .i64 0) (.int .i64 0) (.string (str [])) := ⟨_, rfl⟩
      change bodyPost _ _ _ _ _ (set8 wz w.heap.size (.int .i64 2) (.slice none 0 0) (.slice DA dn dc) (.string (str [])) (.slice none 0 0) (.int .i64 0) (.int .i64 0) (.string (str [])))
      rw [← hwc]
      obtain ⟨g1, g2, g3, g4⟩ := hfin
      obtain ⟨q0, q1, q2, q3, q4, q5, q6, q7⟩ : wc.cell? ⟨w.heap.size, 0, none⟩ = _ ∧ wc.cell? ⟨w.heap.size, 1, none⟩ = _ ∧ wc.cell? ⟨w.heap.size, 2, none⟩ = _ ∧ wc.cell? ⟨w.heap.size, 3, none⟩ = _ ∧ wc.cell? ⟨w.heap.size, 4, none⟩ = _ ∧ wc.cell? ⟨w.heap.size, 5, none⟩ = _ ∧ wc.cell? ⟨w.heap.size, 6, none⟩ = _ ∧ wc.cell? ⟨w.heap.size, 7, none⟩ = _ := by
        rw [hwc]
        exact box_cells g1
      refine bodyPost_ret (v := .agg #[.int .i64 2, .slice none 0 0, .slice DA dn dc, .string (str []), .slice none 0 0, .int .i64 0, .int .i64 0, .string (str [])]) (by simp [results, Try.results32, go_sem, q0, q1, q2, q3, q4, q5, q6, q7]) rfl ?_
      rw [hwc]
      rw [HM.out, HLs.out]
      exact ⟨_, rfl, g2, g3, g4⟩
    · by_cases h3 : k = 3
      · subst h3
        have HM : Hid (objS 3 s1 = (⟨3, [], [], (commR s1).1.tree, (commR s1).1.parents, (commR s1).1.stamp, (commR s1).1.author, (commR s1).1.msg⟩, (commR s1).2)) := by unfold Hid objS; rw [if_neg (by decide), if_neg (by decide), if_pos rfl]
        rw [show ((3 : Nat) : Int) = 3 from rfl] at *
        clear h1 h2
        obtain ⟨C, sL, hLs⟩ : ∃ C sL, commR s1 = (C, sL) := ⟨_, _, pe _⟩
        have HLs := Lib.hid hLs
        clear hLs
        go_wp2_with fail
        refine (commit_any w0 _ g w1.heap.size 3 s1 HR1.out HB1.out (Nat.le_trans hww HZB.out)).mono ?_
        rw [HLs.out]
        rintro e w3 ⟨rfl, hc3, hr3, hu3⟩
        obtain ⟨t, ids, st, au, ms⟩ := C
        obtain ⟨DA, dn, dc, hb3, ho3⟩ := hc3
        obtain ⟨cs, hcs⟩ := HR1.out.blk
        have HB3 := Lib.hid hb3
        have HY3 : Hid (Blk w3 w.heap.size 26 #[.int .i64 0, .slice none 0 0, .slice none 0 0, .string ⟨#[]⟩, .slice none 0 0, .int .i64 0, .int .i64 0, .string ⟨#[]⟩]) := (hu3.block w.heap.size HY1.out.lt (Blk.ne_ HY1.out hcs (by decide)) (fun e => HN23.out e.symm)).trans HY1.out
        have HR3 := Lib.hid hr3
        have HU3 : Hid (Upd g w w3) := ⟨hu3.os.trans HU1.out.os, hu3.tape.trans HU1.out.tape, hu3.output.trans HU1.out.output, Nat.le_trans HU1.out.size hu3.size, fun k hk hn => (hu3.block k (Nat.lt_of_lt_of_le hk HU1.out.size) hn (by have := HZB.out; omega)).trans (HU1.out.block k hk hn)⟩
        have HO3 : Hid (OwnV 9 w3 w.heap.size (.slice DA dn dc) ((ids.map str).map sv)) := OwnV.base ho3 HU1.out.size
        clear hr3 hu3 hcs hb3 ho3
        obtain ⟨y0, y1, y2, y3, y4, y5, y6, y7⟩ := box_cells HB3.out
        obtain ⟨z0, z1, z2, z3, z4, z5, z6, z7⟩ := box_cells HY3.out
        obtain ⟨f0, f1, f2, f3, f4, f5, f6, f7⟩ := cells8 HY3.out
        go_wp2_with fail
        obtain ⟨wz, hwz⟩ : ∃ W, W = w3 := ⟨_, rfl⟩
        have HWZ := Lib.hid hwz
        rw [← hwz]
        have HYZ : Hid (Blk wz w.heap.size 26 #[.int .i64 0, .slice none 0 0, .slice none 0 0, .string ⟨#[]⟩, .slice none 0 0, .int .i64 0, .int .i64 0, .string ⟨#[]⟩]) := by unfold Hid; rw [hwz]; exact HY3.out
        have HRZ : Hid (RdAt w0 wz g sL) := by unfold Hid; rw [hwz]; exact HR3.out
        have HUZ : Hid (Upd g w wz) := by unfold Hid; rw [hwz]; exact HU3.out
        have HOZ : Hid (OwnV 9 wz w.heap.size (.slice DA dn dc) ((ids.map str).map sv)) := by unfold Hid; rw [hwz]; exact HO3.out
        have hfin := obj_fin (w := w) (o := (⟨3, [], [], t, ids, (st : Int), (au : Int), ms⟩ : ObM)) HYZ.out hww (Nat.le_refl _) HRZ.out HUZ.out (Own.nil_ _ _) (OwnI.nil_ _ _ _) HOZ.out
        clear hwz z0 z1 z2 z3 z4 z5 z6 z7 f0 f1 f2 f3 f4 f5 f6 f7
        obtain ⟨wc, hwc⟩ : ∃ wc, wc = set8 wz w.heap.size (.int .i64 3) (.slice none 0 0) (.slice none 0 0) (.string (str t)) (.slice DA dn dc) (.int .i64 (st : Int)) (.int .i64 (au : Int)) (.string (str ms)) := ⟨_, rfl⟩
        change bodyPost _ _ _ _ _ (set8 wz w.heap.size (.int .i64 3) (.slice none 0 0) (.slice none 0 0) (.string (str t)) (.slice DA dn dc) (.int .i64 (st : Int)) (.int .i64 (au : Int)) (.string (str ms)))
        rw [← hwc]
        obtain ⟨g1, g2, g3, g4⟩ := hfin
        obtain ⟨q0, q1, q2, q3, q4, q5, q6, q7⟩ : wc.cell? ⟨w.heap.size, 0, none⟩ = _ ∧ wc.cell? ⟨w.heap.size, 1, none⟩ = _ ∧ wc.cell? ⟨w.heap.size, 2, none⟩ = _ ∧ wc.cell? ⟨w.heap.size, 3, none⟩ = _ ∧ wc.cell? ⟨w.heap.size, 4, none⟩ = _ ∧ wc.cell? ⟨w.heap.size, 5, none⟩ = _ ∧ wc.cell? ⟨w.heap.size, 6, none⟩ = _ ∧ wc.cell? ⟨w.heap.size, 7, none⟩ = _ := by
          rw [hwc]
          exact box_cells g1
        refine bodyPost_ret (v := .agg #[.int .i64 3, .slice none 0 0, .slice none 0 0, .string (str t), .slice DA dn dc, .int .i64 (st : Int), .int .i64 (au : Int), .string (str ms)]) (by simp [results, Try.results32, go_sem, q0, q1, q2, q3, q4, q5, q6, q7]) rfl ?_
        rw [hwc]
        rw [HM.out, HLs.out]
        exact ⟨_, rfl, g2, g3, g4⟩
      · have hm : objS k s1 = (objK k, s1) := by unfold objS; rw [if_neg h1, if_neg h2, if_neg h3]
        have HM := Lib.hid hm
        have e1' : ((k : Int) == 1) = false := beq_eq_false_iff_ne.2 (by omega)
        have e2' : ((k : Int) == 2) = false := beq_eq_false_iff_ne.2 (by omega)
        have e3' : ((k : Int) == 3) = false := beq_eq_false_iff_ne.2 (by omega)
        clear h1 h2 h3 hm
        obtain ⟨z0, z1, z2, z3, z4, z5, z6, z7⟩ := box_cells HY1.out
        obtain ⟨f0, f1, f2, f3, f4, f5, f6, f7⟩ := cells8 HY1.out
        go_wp2_with fail
        obtain ⟨wz, hwz⟩ : ∃ W, W = (w1.alloc (.cells #[.int .i64 (k : Int), .slice none 0 0, .slice none 0 0, .string ⟨#[]⟩, .slice none 0 0, .int .i64 0, .int .i64 0, .string ⟨#[]⟩] 26)) := ⟨_, rfl⟩
        have HWZ := Lib.hid hwz
        rw [← hwz]
        have HYZ : Hid (Blk wz w.heap.size 26 #[.int .i64 0, .slice none 0 0, .slice none 0 0, .string ⟨#[]⟩, .slice none 0 0, .int .i64 0, .int .i64 0, .string ⟨#[]⟩]) := by unfold Hid; rw [hwz]; exact HY1.out
        have HRZ : Hid (RdAt w0 wz g s1) := by unfold Hid; rw [hwz]; exact HR1.out
        have HUZ : Hid (Upd g w wz) := by unfold Hid; rw [hwz]; exact HU1.out
        have hfin := obj_fin (w := w) (o := (⟨k, [], [], [], [], 0, 0, []⟩ : ObM)) HYZ.out hww (Nat.le_refl _) HRZ.out HUZ.out (Own.nil_ _ _) (OwnI.nil_ _ _ _) (OwnV.nil_ _ _)
        clear hwz z0 z1 z2 z3 z4 z5 z6 z7 f0 f1 f2 f3 f4 f5 f6 f7
        obtain ⟨wc, hwc⟩ : ∃ wc, wc = set8 wz w.heap.size (.int .i64 (k : Int)) (.slice none 0 0) (.slice none 0 0) (.string (str [])) (.slice none 0 0) (.int .i64 0) (.int .i64 0) (.string (str [])) := ⟨_, rfl⟩
        change bodyPost _ _ _ _ _ (set8 wz w.heap.size (.int .i64 (k : Int)) (.slice none 0 0) (.slice none 0 0) (.string (str [])) (.slice none 0 0) (.int .i64 0) (.int .i64 0) (.string (str [])))
        rw [← hwc]
        obtain ⟨g1, g2, g3, g4⟩ := hfin
        obtain ⟨q0, q1, q2, q3, q4, q5, q6, q7⟩ : wc.cell? ⟨w.heap.size, 0, none⟩ = _ ∧ wc.cell? ⟨w.heap.size, 1, none⟩ = _ ∧ wc.cell? ⟨w.heap.size, 2, none⟩ = _ ∧ wc.cell? ⟨w.heap.size, 3, none⟩ = _ ∧ wc.cell? ⟨w.heap.size, 4, none⟩ = _ ∧ wc.cell? ⟨w.heap.size, 5, none⟩ = _ ∧ wc.cell? ⟨w.heap.size, 6, none⟩ = _ ∧ wc.cell? ⟨w.heap.size, 7, none⟩ = _ := by
          rw [hwc]
          exact box_cells g1
        refine bodyPost_ret (v := .agg #[.int .i64 (k : Int), .slice none 0 0, .slice none 0 0, .string (str []), .slice none 0 0, .int .i64 0, .int .i64 0, .string (str [])]) (by simp [results, Try.results32, go_sem, q0, q1, q2, q3, q4, q5, q6, q7]) rfl ?_
        rw [hwc]
        rw [HM.out]
        exact ⟨_, rfl, g2, g3, g4⟩
end Go.Proofs.Ytcbiajajoojgmaa.Ob
/- obj.Decode. -/
namespace Go.Proofs.Ytcbiajajoojgmaa.Ob
open Go.RowKit Go.Proofs.Ytcbiajajoojgmaa.Sh
open Go.Proofs.Ytcbiajajoojgmaa.Tx (OwnV SlV sv bl nameB reads_at texts_at toList_ne')

theorem fin8 {w wz : World} {d0 d1 d2 d3 d4 d5 d6 d7 : Value} (hb : Blk wz w.heap.size 26 #[d0, d1, d2, d3, d4, d5, d6, d7]) (hu : Upd (w.heap.size + 1) w wz)
    {o : ObM} {A A2 A3 : Option Addr} {n c n2 c2 n3 c3 : Nat} (h1 : Own wz w.heap.size (.slice A n c) o.data) (h2 : OwnI 56 wz w.heap.size (.slice A2 n2 c2) o.items) (h3 : OwnV 9 wz w.heap.size (.slice A3 n3 c3) ((o.parents.map str).map sv)) :
    Blk (set8 wz w.heap.size (.int .i64 o.kind) (.slice A n c) (.slice A2 n2 c2) (.string (str o.tree)) (.slice A3 n3 c3) (.int .i64 o.stamp) (.int .i64 o.author) (.string (str o.msg))) w.heap.size 26 #[.int .i64 o.kind, .slice A n c, .slice A2 n2 c2, .string (str o.tree), .slice A3 n3 c3, .int .i64 o.stamp, .int .i64 o.author, .string (str o.msg)] ∧
    ObO (set8 wz w.heap.size (.int .i64 o.kind) (.slice A n c) (.slice A2 n2 c2) (.string (str o.tree)) (.slice A3 n3 c3) (.int .i64 o.stamp) (.int .i64 o.author) (.string (str o.msg))) w.heap.size (.agg #[.int .i64 o.kind, .slice A n c, .slice A2 n2 c2, .string (str o.tree), .slice A3 n3 c3, .int .i64 o.stamp, .int .i64 o.author, .string (str o.msg)]) o ∧
    Upd (w.heap.size + 1) w (set8 wz w.heap.size (.int .i64 o.kind) (.slice A n c) (.slice A2 n2 c2) (.string (str o.tree)) (.slice A3 n3 c3) (.int .i64 o.stamp) (.int .i64 o.author) (.string (str o.msg))) := by
  have hu8 := set8_upd wz w.heap.size (.int .i64 o.kind) (.slice A n c) (.slice A2 n2 c2) (.string (str o.tree)) (.slice A3 n3 c3) (.int .i64 o.stamp) (.int .i64 o.author) (.string (str o.msg))
  refine ⟨set8_blk hb _ _ _ _ _ _ _ _, ⟨A, n, c, A2, n2, c2, A3, n3, c3, rfl, row_upd h1 hb (by decide) hu8, row_upd h2 hb (by decide) hu8, row_upd h3 hb (by decide) hu8⟩, hu.then_below (hu8.below (Nat.le_refl _) hu.size)⟩
/-- What Decode leaves: the object, or none and an error. -/
structure DecIs (w : World) (bs : List UInt8) (v : Value) (k : Int) (w' : World) : Prop where
  yes : decB bs = true → k = 0 ∧ ObO w' w.heap.size v (objR bs).1
  no : decB bs = false → ObO w' w.heap.size v (objK 0)
  short : bs = [] → k = 2
  form : bs ≠ [] → decB bs = false → k = 4
def DecPost (w : World) (bs : List UInt8) (e : Ending) (w' : World) : Prop := ∃ v k, e = .returned (.tuple #[v, .int .i64 k]) ∧ DecIs w bs v k w' ∧ Below w.heap.size w w'
theorem decB_nil : decB [] = false := by
  unfold decB objR
  rw [show octR (([] : List UInt8), false) = (0, ([], true)) from rfl]
  rfl
theorem dec_ok {w w' : World} {bs : List UInt8} {v : Value} {o : ObM} (h : decB bs = true) (hb : bs ≠ []) (hr : (objR bs).1 = o) (ho : ObO w' w.heap.size v o) : DecIs w bs v 0 w' :=
  ⟨fun _ => ⟨rfl, by rw [hr]; exact ho⟩, (fun h2 => by rw [h] at h2; cases h2), fun h2 => absurd h2 hb, fun _ h2 => by rw [h] at h2; cases h2⟩
theorem dec_no {w w' : World} {bs : List UInt8} {v : Value} (h : decB bs = false) (hb : bs ≠ []) (ho : ObO w' w.heap.size v ⟨0, [], [], [], [], 0, 0, []⟩) : DecIs w bs v 4 w' :=
  ⟨(fun h2 => by rw [h] at h2; cases h2), fun _ => ho, fun h2 => absurd h2 hb, fun _ _ => rfl⟩
theorem dec_nil {w w' : World} {v : Value} (ho : ObO w' w.heap.size v ⟨0, [], [], [], [], 0, 0, []⟩) : DecIs w [] v 2 w' :=
  ⟨(fun h2 => by rw [decB_nil] at h2; cases h2), fun _ => ho, fun _ => rfl, fun h2 => absurd rfl h2⟩
set_option maxRecDepth 100000 in
set_option maxHeartbeats 2000000 in
theorem decode_any (v : Value) (bs : List UInt8) (w : World) (h : Sl w v bs) (hlen : bs.length ≤ 1000000) : Calls Try.prog 15 #[v] w (DecPost w bs) := by
  have HSL := Lib.hid h
  obtain ⟨A, c, rfl, hlc, hcm, _⟩ := h.len
  unfold maxLen at hcm
  have HY0 : Hid (Blk (w.alloc (.cells #[.int .i64 0, .slice none 0 0, .slice none 0 0, .string ⟨#[]⟩, .slice none 0 0, .int .i64 0, .int .i64 0, .string ⟨#[]⟩] 26)) w.heap.size 26 #[.int .i64 0, .slice none 0 0, .slice none 0 0, .string ⟨#[]⟩, .slice none 0 0, .int .i64 0, .int .i64 0, .string ⟨#[]⟩]) := Blk.new _ _ _
  have HU0 : Hid (Upd (w.heap.size + 1) w (w.alloc (.cells #[.int .i64 0, .slice none 0 0, .slice none 0 0, .string ⟨#[]⟩, .slice none 0 0, .int .i64 0, .int .i64 0, .string ⟨#[]⟩] 26))) := (Upd.refl _ w).alloc _
  cases bs with
  | nil =>
    clear h
    simp only [List.length_nil] at hlc ⊢
    go_enter Try.func15, Try.ntmps15
    obtain ⟨z0, z1, z2, z3, z4, z5, z6, z7⟩ := box_cells HY0.out
    obtain ⟨f0, f1, f2, f3, f4, f5, f6, f7⟩ := cells8 HY0.out
    go_wp2_with fail
    obtain ⟨wz, hwz⟩ : ∃ W, W = (w.alloc (.cells #[.int .i64 0, .slice none 0 0, .slice none 0 0, .string ⟨#[]⟩, .slice none 0 0, .int .i64 0, .int .i64 0, .string ⟨#[]⟩] 26)) := ⟨_, rfl⟩
    rw [← hwz] at z0 z1 z2 z3 z4 z5 z6 z7 ⊢
    refine bodyPost_ret (v := .tuple #[.agg #[.int .i64 0, .slice none 0 0, .slice none 0 0, .string (str []), .slice none 0 0, .int .i64 0, .int .i64 0, .string (str [])], .int .i64 2]) (by simp [results, Try.results15, go_sem, z0, z1, z2, z3, z4, z5, z6, z7]; try rfl) rfl ?_
    rw [hwz]
    exact ⟨_, _, rfl, dec_nil ⟨none, 0, 0, none, 0, 0, none, 0, 0, rfl, Own.nil_ _ _, OwnI.nil_ _ _ _, OwnV.nil_ _ _⟩, HU0.out.below (Nat.le_succ _) (Nat.le_refl _)⟩
  | cons b0 t =>
    obtain ⟨bs, hbs⟩ : ∃ bs, b0 :: t = bs := ⟨_, rfl⟩
    have hne : bs ≠ [] := by rw [← hbs]; simp
    have hl0 : 0 < bs.length := by rw [← hbs]; simp
    rw [hbs] at HSL hlc hlen ⊢
    have HNE := Lib.hid hne
    have HLN := Lib.hid hlen
    have HR1 : Hid (RdAt w ((w.alloc (.cells #[.int .i64 0, .slice none 0 0, .slice none 0 0, .string ⟨#[]⟩, .slice none 0 0, .int .i64 0, .int .i64 0, .string ⟨#[]⟩] 26)).alloc (.cells #[.slice A bs.length c, .bool false] 63)) (w.heap.size + 1) (bs, false)) := by
      refine ⟨A, c, ?_, HSL.out, Nat.le_succ _, ((Below.refl _ _).alloc (Nat.le_refl _) _).alloc (by simp) _⟩
      show Blk _ (w.heap.size + 1) _ #[.slice A bs.length c, .bool false]
      rw [show w.heap.size + 1 = (w.alloc (.cells #[.int .i64 0, .slice none 0 0, .slice none 0 0, .string ⟨#[]⟩, .slice none 0 0, .int .i64 0, .int .i64 0, .string ⟨#[]⟩] 26)).heap.size from by simp]
      exact Blk.new _ _ _
    have HU1 : Hid (Upd (w.heap.size + 1) w ((w.alloc (.cells #[.int .i64 0, .slice none 0 0, .slice none 0 0, .string ⟨#[]⟩, .slice none 0 0, .int .i64 0, .int .i64 0, .string ⟨#[]⟩] 26)).alloc (.cells #[.slice A bs.length c, .bool false] 63))) := HU0.out.alloc _
    have HY1 : Hid (Blk ((w.alloc (.cells #[.int .i64 0, .slice none 0 0, .slice none 0 0, .string ⟨#[]⟩, .slice none 0 0, .int .i64 0, .int .i64 0, .string ⟨#[]⟩] 26)).alloc (.cells #[.slice A bs.length c, .bool false] 63)) w.heap.size 26 #[.int .i64 0, .slice none 0 0, .slice none 0 0, .string ⟨#[]⟩, .slice none 0 0, .int .i64 0, .int .i64 0, .string ⟨#[]⟩]) := HY0.out.alloc _
    obtain ⟨l, hl⟩ : ∃ l, bs.length = l := ⟨_, rfl⟩
    have HL := Lib.hid hl
    rw [hl] at hlc hl0 HR1 HU1 HY1 ⊢
    have e0 : ((l : Int) == 0) = false := beq_eq_false_iff_ne.2 (by omega)
    obtain ⟨o, s', hos⟩ : ∃ o s', objS (octR (bs, false)).1 (octR (bs, false)).2 = (o, s') := ⟨_, _, pe _⟩
    have hobj : objR bs = (o, s') := hos
    have HOBJ := Lib.hid hobj
    have HOS := Lib.hid hos
    clear h hne hl hlen hbs hos hobj hl0
    go_enter Try.func15, Try.ntmps15
    go_wp2_with fail
    refine (object_any w _ (w.heap.size + 1) (bs, false) HR1.out HLN.out).mono ?_
    rw [HOS.out]
    rintro e w2 ⟨v, rfl, ho2, hr2, hu2⟩
    obtain ⟨cs, hcs⟩ := HR1.out.blk
    have HY2 := Lib.hid (hu2.blk HY1.out (Blk.ne_ HY1.out hcs (by decide)))
    have HU2 := Lib.hid (HU1.out.trans hu2)
    have hz2 : w.heap.size ≤ w2.heap.size := HU2.out.size
    obtain ⟨VA, vn, vc, VA2, vn2, vc2, VA3, vn3, vc3, rfl, o1, o2, o3⟩ := ho2
    have HO1 := Lib.hid (Own.based o1 HU1.out.size)
    have HO2 := Lib.hid (OwnI.base o2 HU1.out.size)
    have HO3 := Lib.hid (OwnV.base o3 HU1.out.size)
    obtain ⟨rA, rc, hrb, _⟩ := hr2
    have HRB := Lib.hid (hrb.alloc (.cells #[.int .i64 o.kind, .slice VA vn vc, .slice VA2 vn2 vc2, .string (str o.tree), .slice VA3 vn3 vc3, .int .i64 o.stamp, .int .i64 o.author, .string (str o.msg)] 26))
    have HY3 : Hid (Blk (w2.alloc (.cells #[.int .i64 o.kind, .slice VA vn vc, .slice VA2 vn2 vc2, .string (str o.tree), .slice VA3 vn3 vc3, .int .i64 o.stamp, .int .i64 o.author, .string (str o.msg)] 26)) w.heap.size 26 #[.int .i64 0, .slice none 0 0, .slice none 0 0, .string ⟨#[]⟩, .slice none 0 0, .int .i64 0, .int .i64 0, .string ⟨#[]⟩]) := HY2.out.alloc _
    have HU3 : Hid (Upd (w.heap.size + 1) w (w2.alloc (.cells #[.int .i64 o.kind, .slice VA vn vc, .slice VA2 vn2 vc2, .string (str o.tree), .slice VA3 vn3 vc3, .int .i64 o.stamp, .int .i64 o.author, .string (str o.msg)] 26))) := HU2.out.alloc _
    have HK3 : Hid (Blk (w2.alloc (.cells #[.int .i64 o.kind, .slice VA vn vc, .slice VA2 vn2 vc2, .string (str o.tree), .slice VA3 vn3 vc3, .int .i64 o.stamp, .int .i64 o.author, .string (str o.msg)] 26)) w2.heap.size 26 #[.int .i64 o.kind, .slice VA vn vc, .slice VA2 vn2 vc2, .string (str o.tree), .slice VA3 vn3 vc3, .int .i64 o.stamp, .int .i64 o.author, .string (str o.msg)]) := Blk.new _ _ _
    obtain ⟨fl, hfl⟩ : ∃ f, s'.2 = f := ⟨_, rfl⟩
    obtain ⟨rn, hrn⟩ : ∃ n, s'.1.length = n := ⟨_, rfl⟩
    rw [hfl, hrn] at HRB
    obtain ⟨r0, r1, _, _⟩ := two_cells HRB.out
    have HFL := Lib.hid hfl
    have HRN := Lib.hid hrn
    clear hu2 hcs o1 o2 o3 hrb hfl hrn
    have HDB : Hid (decB bs = (!fl && (rn == 0) && mayB o)) := by
      unfold Hid decB
      rw [HOBJ.out]
      show (!s'.2 && s'.1.isEmpty && mayB o) = _
      rw [HFL.out, ← HRN.out]
      congr 2
      cases s'.1 <;> rfl
    cases fl with
    | true =>
      have HD : Hid (decB bs = false) := by unfold Hid; rw [HDB.out]; rfl
      obtain ⟨z0, z1, z2, z3, z4, z5, z6, z7⟩ := box_cells HY3.out
      obtain ⟨f0, f1, f2, f3, f4, f5, f6, f7⟩ := cells8 HY3.out
      go_wp2_with fail
      obtain ⟨wz, hwz⟩ : ∃ W, W = (w2.alloc (.cells #[.int .i64 o.kind, .slice VA vn vc, .slice VA2 vn2 vc2, .string (str o.tree), .slice VA3 vn3 vc3, .int .i64 o.stamp, .int .i64 o.author, .string (str o.msg)] 26)) := ⟨_, rfl⟩
      rw [← hwz]
      have HYZ : Hid (Blk wz w.heap.size 26 #[.int .i64 0, .slice none 0 0, .slice none 0 0, .string ⟨#[]⟩, .slice none 0 0, .int .i64 0, .int .i64 0, .string ⟨#[]⟩]) := by unfold Hid; rw [hwz]; exact HY3.out
      have HUZ : Hid (Upd (w.heap.size + 1) w wz) := by unfold Hid; rw [hwz]; exact HU3.out
      have hfin := fin8 (w := w) (o := (⟨0, [], [], [], [], 0, 0, []⟩ : ObM)) HYZ.out HUZ.out (Own.nil_ _ _) (OwnI.nil_ _ _ _) (OwnV.nil_ _ _)
      clear hwz z0 z1 z2 z3 z4 z5 z6 z7 f0 f1 f2 f3 f4 f5 f6 f7
      obtain ⟨wc, hwc⟩ : ∃ wc, wc = set8 wz w.heap.size (.int .i64 0) (.slice none 0 0) (.slice none 0 0) (.string (str [])) (.slice none 0 0) (.int .i64 0) (.int .i64 0) (.string (str [])) := ⟨_, rfl⟩
      change bodyPost _ _ _ _ _ (set8 wz w.heap.size (.int .i64 0) (.slice none 0 0) (.slice none 0 0) (.string (str [])) (.slice none 0 0) (.int .i64 0) (.int .i64 0) (.string (str [])))
      rw [← hwc]
      obtain ⟨g1, g2, g4⟩ := hfin
      obtain ⟨q0, q1, q2, q3, q4, q5, q6, q7⟩ : wc.cell? ⟨w.heap.size, 0, none⟩ = _ ∧ wc.cell? ⟨w.heap.size, 1, none⟩ = _ ∧ wc.cell? ⟨w.heap.size, 2, none⟩ = _ ∧ wc.cell? ⟨w.heap.size, 3, none⟩ = _ ∧ wc.cell? ⟨w.heap.size, 4, none⟩ = _ ∧ wc.cell? ⟨w.heap.size, 5, none⟩ = _ ∧ wc.cell? ⟨w.heap.size, 6, none⟩ = _ ∧ wc.cell? ⟨w.heap.size, 7, none⟩ = _ := by
        rw [hwc]
        exact box_cells g1
      refine bodyPost_ret (v := .tuple #[.agg #[.int .i64 0, .slice none 0 0, .slice none 0 0, .string (str []), .slice none 0 0, .int .i64 0, .int .i64 0, .string (str [])], .int .i64 4]) (by simp [results, Try.results15, go_sem, q0, q1, q2, q3, q4, q5, q6, q7]) rfl ?_
      rw [hwc]
      exact ⟨_, _, rfl, dec_no HD.out HNE.out g2, g4.below (Nat.le_succ _) (Nat.le_refl _)⟩
    | false =>
      by_cases hr0 : 0 < rn
      · have HD : Hid (decB bs = false) := by
          unfold Hid
          rw [HDB.out, show (rn == 0) = false from beq_eq_false_iff_ne.2 (by omega)]
          rfl
        have hr0' : (0 : Int) < (rn : Int) := by omega
        obtain ⟨z0, z1, z2, z3, z4, z5, z6, z7⟩ := box_cells HY3.out
        obtain ⟨f0, f1, f2, f3, f4, f5, f6, f7⟩ := cells8 HY3.out
        go_wp2_with fail
        obtain ⟨wz, hwz⟩ : ∃ W, W = (w2.alloc (.cells #[.int .i64 o.kind, .slice VA vn vc, .slice VA2 vn2 vc2, .string (str o.tree), .slice VA3 vn3 vc3, .int .i64 o.stamp, .int .i64 o.author, .string (str o.msg)] 26)) := ⟨_, rfl⟩
        rw [← hwz]
        have HYZ : Hid (Blk wz w.heap.size 26 #[.int .i64 0, .slice none 0 0, .slice none 0 0, .string ⟨#[]⟩, .slice none 0 0, .int .i64 0, .int .i64 0, .string ⟨#[]⟩]) := by unfold Hid; rw [hwz]; exact HY3.out
        have HUZ : Hid (Upd (w.heap.size + 1) w wz) := by unfold Hid; rw [hwz]; exact HU3.out
        have hfin := fin8 (w := w) (o := (⟨0, [], [], [], [], 0, 0, []⟩ : ObM)) HYZ.out HUZ.out (Own.nil_ _ _) (OwnI.nil_ _ _ _) (OwnV.nil_ _ _)
        clear hwz z0 z1 z2 z3 z4 z5 z6 z7 f0 f1 f2 f3 f4 f5 f6 f7
        obtain ⟨wc, hwc⟩ : ∃ wc, wc = set8 wz w.heap.size (.int .i64 0) (.slice none 0 0) (.slice none 0 0) (.string (str [])) (.slice none 0 0) (.int .i64 0) (.int .i64 0) (.string (str [])) := ⟨_, rfl⟩
        change bodyPost _ _ _ _ _ (set8 wz w.heap.size (.int .i64 0) (.slice none 0 0) (.slice none 0 0) (.string (str [])) (.slice none 0 0) (.int .i64 0) (.int .i64 0) (.string (str [])))
        rw [← hwc]
        obtain ⟨g1, g2, g4⟩ := hfin
        obtain ⟨q0, q1, q2, q3, q4, q5, q6, q7⟩ : wc.cell? ⟨w.heap.size, 0, none⟩ = _ ∧ wc.cell? ⟨w.heap.size, 1, none⟩ = _ ∧ wc.cell? ⟨w.heap.size, 2, none⟩ = _ ∧ wc.cell? ⟨w.heap.size, 3, none⟩ = _ ∧ wc.cell? ⟨w.heap.size, 4, none⟩ = _ ∧ wc.cell? ⟨w.heap.size, 5, none⟩ = _ ∧ wc.cell? ⟨w.heap.size, 6, none⟩ = _ ∧ wc.cell? ⟨w.heap.size, 7, none⟩ = _ := by
          rw [hwc]
          exact box_cells g1
        refine bodyPost_ret (v := .tuple #[.agg #[.int .i64 0, .slice none 0 0, .slice none 0 0, .string (str []), .slice none 0 0, .int .i64 0, .int .i64 0, .string (str [])], .int .i64 4]) (by simp [results, Try.results15, go_sem, q0, q1, q2, q3, q4, q5, q6, q7]) rfl ?_
        rw [hwc]
        exact ⟨_, _, rfl, dec_no HD.out HNE.out g2, g4.below (Nat.le_succ _) (Nat.le_refl _)⟩
      · have hr0' : (rn : Int) ≤ 0 := by omega
        have hrz : rn = 0 := by omega
        obtain ⟨m, hm⟩ : ∃ m, mayB o = m := ⟨_, rfl⟩
        have HM := Lib.hid hm
        have HD : Hid (decB bs = m) := by
          unfold Hid
          rw [HDB.out, hrz, hm]
          rfl
        have HBO2 : Hid (Below w2.heap.size w2 (w2.alloc (.cells #[.int .i64 o.kind, .slice VA vn vc, .slice VA2 vn2 vc2, .string (str o.tree), .slice VA3 vn3 vc3, .int .i64 o.stamp, .int .i64 o.author, .string (str o.msg)] 26))) := (Below.refl _ _).alloc (Nat.le_refl _) _
        clear hm hr0 hrz
        go_wp2_with fail
        refine (may_any _ o _ ⟨_, _, _, rfl, (HO1.out.sl).below HBO2.out, (HO2.out.slI).below HBO2.out, (HO3.out.slv).below HBO2.out⟩).mono ?_
        rw [HM.out]
        rintro e w4 ⟨rfl, hb4⟩
        have HY4 := Lib.hid (HY3.out.below hb4 HY3.out.lt)
        have HU4 := Lib.hid (HU3.out.trans (Upd.of_below hb4))
        have HK4 := Lib.hid (HK3.out.below hb4 HK3.out.lt)
        have HB24 := Lib.hid (Below.after HBO2.out hb4)
        clear hb4 r0 r1
        cases m with
        | false =>
          obtain ⟨z0, z1, z2, z3, z4, z5, z6, z7⟩ := box_cells HY4.out
          obtain ⟨f0, f1, f2, f3, f4, f5, f6, f7⟩ := cells8 HY4.out
          go_wp2_with fail
          obtain ⟨wz, hwz⟩ : ∃ W, W = w4 := ⟨_, rfl⟩
          rw [← hwz]
          have HYZ : Hid (Blk wz w.heap.size 26 #[.int .i64 0, .slice none 0 0, .slice none 0 0, .string ⟨#[]⟩, .slice none 0 0, .int .i64 0, .int .i64 0, .string ⟨#[]⟩]) := by unfold Hid; rw [hwz]; exact HY4.out
          have HUZ : Hid (Upd (w.heap.size + 1) w wz) := by unfold Hid; rw [hwz]; exact HU4.out
          have hfin := fin8 (w := w) (o := (⟨0, [], [], [], [], 0, 0, []⟩ : ObM)) HYZ.out HUZ.out (Own.nil_ _ _) (OwnI.nil_ _ _ _) (OwnV.nil_ _ _)
          clear hwz z0 z1 z2 z3 z4 z5 z6 z7 f0 f1 f2 f3 f4 f5 f6 f7
          obtain ⟨wc, hwc⟩ : ∃ wc, wc = set8 wz w.heap.size (.int .i64 0) (.slice none 0 0) (.slice none 0 0) (.string (str [])) (.slice none 0 0) (.int .i64 0) (.int .i64 0) (.string (str [])) := ⟨_, rfl⟩
          change bodyPost _ _ _ _ _ (set8 wz w.heap.size (.int .i64 0) (.slice none 0 0) (.slice none 0 0) (.string (str [])) (.slice none 0 0) (.int .i64 0) (.int .i64 0) (.string (str [])))
          rw [← hwc]
          obtain ⟨g1, g2, g4⟩ := hfin
          obtain ⟨q0, q1, q2, q3, q4, q5, q6, q7⟩ : wc.cell? ⟨w.heap.size, 0, none⟩ = _ ∧ wc.cell? ⟨w.heap.size, 1, none⟩ = _ ∧ wc.cell? ⟨w.heap.size, 2, none⟩ = _ ∧ wc.cell? ⟨w.heap.size, 3, none⟩ = _ ∧ wc.cell? ⟨w.heap.size, 4, none⟩ = _ ∧ wc.cell? ⟨w.heap.size, 5, none⟩ = _ ∧ wc.cell? ⟨w.heap.size, 6, none⟩ = _ ∧ wc.cell? ⟨w.heap.size, 7, none⟩ = _ := by
            rw [hwc]
            exact box_cells g1
          refine bodyPost_ret (v := .tuple #[.agg #[.int .i64 0, .slice none 0 0, .slice none 0 0, .string (str []), .slice none 0 0, .int .i64 0, .int .i64 0, .string (str [])], .int .i64 4]) (by simp [results, Try.results15, go_sem, q0, q1, q2, q3, q4, q5, q6, q7]) rfl ?_
          rw [hwc]
          exact ⟨_, _, rfl, dec_no HD.out HNE.out g2, g4.below (Nat.le_succ _) (Nat.le_refl _)⟩
        | true =>
          obtain ⟨y0, y1, y2, y3, y4, y5, y6, y7⟩ := box_cells HK4.out
          obtain ⟨z0, z1, z2, z3, z4, z5, z6, z7⟩ := box_cells HY4.out
          obtain ⟨f0, f1, f2, f3, f4, f5, f6, f7⟩ := cells8 HY4.out
          go_wp2_with fail
          obtain ⟨wz, hwz⟩ : ∃ W, W = w4 := ⟨_, rfl⟩
          rw [← hwz]
          have HYZ : Hid (Blk wz w.heap.size 26 #[.int .i64 0, .slice none 0 0, .slice none 0 0, .string ⟨#[]⟩, .slice none 0 0, .int .i64 0, .int .i64 0, .string ⟨#[]⟩]) := by unfold Hid; rw [hwz]; exact HY4.out
          have HUZ : Hid (Upd (w.heap.size + 1) w wz) := by unfold Hid; rw [hwz]; exact HU4.out
          have HZ1 : Hid (Own wz w.heap.size (.slice VA vn vc) o.data) := by unfold Hid; rw [hwz]; exact HO1.out.below HB24.out
          have HZ2 : Hid (OwnI 56 wz w.heap.size (.slice VA2 vn2 vc2) o.items) := by unfold Hid; rw [hwz]; exact HO2.out.below HB24.out
          have HZ3 : Hid (OwnV 9 wz w.heap.size (.slice VA3 vn3 vc3) ((o.parents.map str).map sv)) := by unfold Hid; rw [hwz]; exact HO3.out.below HB24.out
          have hfin := fin8 (w := w) (o := o) HYZ.out HUZ.out HZ1.out HZ2.out HZ3.out
          clear hwz z0 z1 z2 z3 z4 z5 z6 z7 f0 f1 f2 f3 f4 f5 f6 f7
          obtain ⟨wc, hwc⟩ : ∃ wc, wc = set8 wz w.heap.size (.int .i64 o.kind) (.slice VA vn vc) (.slice VA2 vn2 vc2) (.string (str o.tree)) (.slice VA3 vn3 vc3) (.int .i64 o.stamp) (.int .i64 o.author) (.string (str o.msg)) := ⟨_, rfl⟩
          change bodyPost _ _ _ _ _ (set8 wz w.heap.size (.int .i64 o.kind) (.slice VA vn vc) (.slice VA2 vn2 vc2) (.string (str o.tree)) (.slice VA3 vn3 vc3) (.int .i64 o.stamp) (.int .i64 o.author) (.string (str o.msg)))
          rw [← hwc]
          obtain ⟨g1, g2, g4⟩ := hfin
          obtain ⟨q0, q1, q2, q3, q4, q5, q6, q7⟩ : wc.cell? ⟨w.heap.size, 0, none⟩ = _ ∧ wc.cell? ⟨w.heap.size, 1, none⟩ = _ ∧ wc.cell? ⟨w.heap.size, 2, none⟩ = _ ∧ wc.cell? ⟨w.heap.size, 3, none⟩ = _ ∧ wc.cell? ⟨w.heap.size, 4, none⟩ = _ ∧ wc.cell? ⟨w.heap.size, 5, none⟩ = _ ∧ wc.cell? ⟨w.heap.size, 6, none⟩ = _ ∧ wc.cell? ⟨w.heap.size, 7, none⟩ = _ := by
            rw [hwc]
            exact box_cells g1
          refine bodyPost_ret (v := .tuple #[.agg #[.int .i64 o.kind, .slice VA vn vc, .slice VA2 vn2 vc2, .string (str o.tree), .slice VA3 vn3 vc3, .int .i64 o.stamp, .int .i64 o.author, .string (str o.msg)], .int .i64 0]) (by simp [results, Try.results15, go_sem, q0, q1, q2, q3, q4, q5, q6, q7]) rfl ?_
          rw [hwc]
          exact ⟨_, _, rfl, dec_ok HD.out HNE.out (by rw [HOBJ.out]) g2, g4.below (Nat.le_succ _) (Nat.le_refl _)⟩
end Go.Proofs.Ytcbiajajoojgmaa.Ob
/- Slices of structs that came in: what their cells hold. -/
namespace Go.Proofs.Ytcbiajajoojgmaa.Sh
open Go.ChangeShapes Go.WideShapes Go.Deep

/-- Each field of each struct of a slice that was opened: its cell, and that this reads as the field's type. -/
theorem structs_in {H : Type} {enc : TypeId × Value → H} {P : Program} {w : World} {base : Nat} {spare : Nat → Bool} {held : Bool} {t e : TypeId} {fs : Array Field} {fuel : Nat} {a : Option Addr} {len cap : Nat} {x : DataW H × List MemPlace}
    (ht : P.underlying t = some (.slice e)) (he : P.underlying e = some (.struct fs)) (hone : oneCellFields P fs = true) (hC : P.cellsOf e = fs.size) (h : DataW.trod enc P w base spare held fuel t [.slice a len cap] = some x) :
    (a = none ∧ len = 0 ∧ cap = 0) ∨ ∃ ad, a = some ad ∧ len ≤ cap ∧ cap ≤ maxLen ∧ ∀ i, i < len → ∀ (j : Nat) (f : Field), fs[j]? = some f →
      ∃ (v : Value) (n : Nat) (y : DataW H × List MemPlace), w.cell? (ad.add (i * fs.size + j)) = some v ∧ DataW.trod enc P w base spare held n f.type [v] = some y := by
  rcases open_slice ht h with ⟨h0, _⟩ | ⟨ad, l, c, m, k, D, Pl, h0, _, hl, hm, hmm, _, hi⟩
  · left
    simp at h0
    exact h0
  · right
    simp at h0
    obtain ⟨rfl, rfl, rfl⟩ := h0
    refine ⟨ad, rfl, hl, hm, fun i hil j f hj => ?_⟩
    obtain ⟨cs, hc, ht'⟩ := hi i (by rw [hmm]; split <;> omega)
    obtain ⟨_, hcl, hat⟩ := World.cells?_some hc
    obtain ⟨ys, n, _, _, _, hyl, hf⟩ := DataW.trod_struct he ht'
    obtain ⟨ho, hk⟩ := hone_of hone j f hj
    have hjl : j < fs.size := (Array.getElem?_eq_some_iff.1 hj).1
    have hjc : j < cs.length := by omega
    have hg := hf j f hj
    rw [ho, hk, List.drop_eq_getElem_cons hjc, List.getElem?_eq_getElem (by omega)] at hg
    have hcell := hat j (by omega)
    rw [hC, Go.Deep.add_add, List.getElem?_eq_getElem hjc] at hcell
    exact ⟨_, n, _, hcell, hg⟩
end Go.Proofs.Ytcbiajajoojgmaa.Sh
/- An object that came in: what its cells hold. -/
namespace Go.Proofs.Ytcbiajajoojgmaa.Ob
open Go.ChangeShapes Go.WideShapes Go.RowKit Go.Deep Go.Proofs.Ytcbiajajoojgmaa.Sh
open Go.Proofs.Ytcbiajajoojgmaa.Tx (OwnV SlV sv bl nameB reads_at texts_at toList_ne')

/-- Each field of a struct that was read: its cell, and that this reads as the field's type. -/
theorem fields_in {H : Type} {enc : TypeId × Value → H} {P : Program} {w : World} {base : Nat} {spare : Nat → Bool} {held : Bool} {t : TypeId} {fs : Array Field} {fuel : Nat} {cs : List Value} {x : DataW H × List MemPlace}
    (he : P.underlying t = some (.struct fs)) (hone : oneCellFields P fs = true) (hC : P.cellsOf t = fs.size) (h : DataW.trod enc P w base spare held fuel t cs = some x) (j : Nat) (f : Field) (hj : fs[j]? = some f) :
    ∃ (v : Value) (n : Nat) (y : DataW H × List MemPlace), cs[j]? = some v ∧ DataW.trod enc P w base spare held n f.type [v] = some y := by
  obtain ⟨ys, n, _, _, hcl, hyl, hf⟩ := DataW.trod_struct he h
  obtain ⟨ho, hk⟩ := hone_of hone j f hj
  have hjl : j < fs.size := (Array.getElem?_eq_some_iff.1 hj).1
  have hjc : j < cs.length := by omega
  have hg := hf j f hj
  rw [ho, hk, List.drop_eq_getElem_cons hjc, List.getElem?_eq_getElem (by omega)] at hg
  exact ⟨_, n, _, List.getElem?_eq_getElem hjc, hg⟩
theorem str_of (s : ByteArray) : str s.data.toList = s := by
  unfold str
  cases s
  simp
section
variable {H : Type} {enc : TypeId × Value → H} {w : World} {base n : Nat} {held : Bool} {v : Value} {y : DataW H × List MemPlace}
theorem int_in (h : DataW.trod enc Try.prog w base (fun _ => true) held n 3 [v] = some y) : ∃ k, v = .int .i64 k := by
  obtain ⟨k, hv, _, _⟩ := DataW.trod_int Try.underlying3 h
  simp at hv
  exact ⟨k, hv⟩
theorem str_in (h : DataW.trod enc Try.prog w base (fun _ => true) held n 9 [v] = some y) : ∃ s, v = .string (str s) := by
  obtain ⟨s, hv, _, _⟩ := DataW.trod_string Try.underlying9 h
  simp at hv
  exact ⟨s.data.toList, by rw [str_of, hv]⟩
theorem bytes_in (h : DataW.trod enc Try.prog w base (fun _ => true) held n 22 [v] = some y) : ∃ bs, Sl w v bs := by
  rcases open_ints Try.underlying22 Try.underlying5 (by kernel_rfl) h with ⟨hcs, _⟩ | ⟨x, l, c, zs, hcs, _, hl, hm, hz, _, hcell, hwz⟩
  · simp at hcs
    subst hcs
    exact ⟨[], Sl.nil_ w⟩
  · simp at hcs
    subst hcs
    obtain ⟨bs, _, hs⟩ := IsRow.sl (w := w) (a := some x) (len := l) (cap := c) (zs := zs) (.inr ⟨_, rfl, hl, hm, by simpa using hz, hcell, hwz⟩)
    exact ⟨bs, hs⟩
theorem texts_in (h : DataW.trod enc Try.prog w base (fun _ => true) held n 24 [v] = some y) : ∃ ts : List (List UInt8), SlV w v ((ts.map str).map sv) := by
  have key : ∃ ts : List ByteArray, SlV w v (ts.map sv) := by
    rcases open_strings Try.underlying24 Try.underlying9 (by kernel_rfl) h with ⟨hcs, _⟩ | ⟨x, l, c, zs, hcs, _, hl, hm, hz, _, hcell, hwz⟩
    · simp at hcs
      subst hcs
      exact ⟨[], SlV.nil_ w⟩
    · simp at hcs
      subst hcs
      obtain ⟨ts, _, hs, _⟩ := Tx.IsTexts.slv (w := w) (a := some x) (len := l) (cap := c) (ss := zs) (.inr ⟨_, rfl, hl, hm, by simpa using hz, hcell, hwz⟩)
      exact ⟨ts, hs⟩
  obtain ⟨ts, hs⟩ := key
  refine ⟨ts.map (fun s => s.data.toList), ?_⟩
  have e0 : (str ∘ fun s : ByteArray => s.data.toList) = id := funext str_of
  have e : (ts.map (fun s => s.data.toList)).map str = ts := by rw [List.map_map, e0, List.map_id]
  rw [e]
  exact hs
end
section
variable {H : Type} {enc : TypeId × Value → H} {w : World} {base n : Nat} {held : Bool} {v : Value} {y : DataW H × List MemPlace}
set_option maxRecDepth 100000 in
theorem items_in (h : DataW.trod enc Try.prog w base (fun _ => true) held n 23 [v] = some y) : ∃ l, SlI w v l := by
  have hsl : ∃ a len cap, v = .slice a len cap := by
    rcases DataW.trod_slice Try.underlying23 h with ⟨hcs, _⟩ | ⟨a, len, cap, _, _, _, _, hcs, _⟩
    · simp at hcs; exact ⟨_, _, _, hcs⟩
    · simp at hcs; exact ⟨_, _, _, hcs⟩
  obtain ⟨a, len, cap, rfl⟩ := hsl
  rcases structs_in Try.underlying23 Try.underlying56 (by kernel_rfl) (by kernel_rfl) h with ⟨rfl, rfl, rfl⟩ | ⟨ad, rfl, hl, hm, hat⟩
  · exact ⟨[], SlI.nil_ w⟩
  · have key : ∀ i : Nat, ∃ x : ItM, i < len → w.cell? (ad.add (i * 3)) = some (.int .i64 x.1) ∧ w.cell? (ad.add (i * 3 + 1)) = some (.string (str x.2.1)) ∧ w.cell? (ad.add (i * 3 + 2)) = some (.string (str x.2.2)) := by
      intro i
      by_cases hi : i < len
      · obtain ⟨v0, n0, y0, e0, t0⟩ := hat i hi 0 _ rfl
        obtain ⟨v1, n1, y1, e1, t1⟩ := hat i hi 1 _ rfl
        obtain ⟨v2, n2, y2, e2, t2⟩ := hat i hi 2 _ rfl
        obtain ⟨k, rfl⟩ := int_in t0
        obtain ⟨s1, rfl⟩ := str_in t1
        obtain ⟨s2, rfl⟩ := str_in t2
        exact ⟨(k, s1, s2), fun _ => ⟨e0, e1, e2⟩⟩
      · exact ⟨(0, [], []), fun h => absurd h hi⟩
    obtain ⟨f, hf⟩ := Classical.axiomOfChoice key
    have hlen : ((List.range len).map f).length = len := by simp
    refine ⟨(List.range len).map f, some ad, cap, by rw [hlen], by rw [hlen]; exact hl, hm, (fun e => by cases e), ?_⟩
    rw [hlen]
    have hfl := itC_length ((List.range len).map f)
    rw [hlen] at hfl
    refine ⟨hfl, fun h0 => ⟨ad, rfl, ?_, fun j u hj => ?_⟩⟩
    · have := World.block_lt_of_cell? w _ (hf 0 h0).1
      rw [block_of_add] at this
      exact this
    · have hjl := (List.getElem?_eq_some_iff.1 hj).1
      rw [hfl] at hjl
      obtain ⟨q, r, rfl, hr⟩ : ∃ q r, j = q * 3 + r ∧ r < 3 := ⟨j / 3, j % 3, by omega, by omega⟩
      have hk : q < len := by omega
      have hx : ((List.range len).map f)[q]? = some (f q) := by simp [hk]
      obtain ⟨a0, a1, a2⟩ := itC_at _ _ _ hx
      obtain ⟨g0, g1, g2⟩ := hf q hk
      have hr' : r = 0 ∨ r = 1 ∨ r = 2 := by omega
      rcases hr' with rfl | rfl | rfl
      · have hj' : ((List.range len).map f |>.flatMap itC)[q * 3]? = some u := hj
        rw [a0] at hj'
        show w.cell? (ad.add (q * 3)) = some u
        rw [g0, hj']
      · rw [a1] at hj
        rw [g1, hj]
      · rw [a2] at hj
        rw [g2, hj]
end
set_option maxRecDepth 100000 in
theorem obV_of {H : Type} {enc : TypeId × Value → H} {w : World} {base b0 : Nat} {held : Bool} {r : Reach} {v : Value} {d : DataW H} {p : List MemPlace}
    (hv : Value.okWide Try.prog w r b0 26 v) (h : DataW.Trod enc Try.prog w base (fun _ => true) held 26 v d p) : ∃ o, ObV w v o := by
  obtain ⟨cs, rfl, hsz⟩ := okWide_struct Try.underlying26 hv
  obtain ⟨fuel, hf⟩ := h
  have hc8 : Try.prog.cellsOf 26 = 8 := by kernel_rfl
  rw [hc8] at hsz
  have F := fun j f hj => fields_in (fs := _) Try.underlying26 (by kernel_rfl) (by kernel_rfl) hf j f hj
  obtain ⟨v0, n0, y0, e0, t0⟩ := F 0 _ rfl
  obtain ⟨v1, n1, y1, e1, t1⟩ := F 1 _ rfl
  obtain ⟨v2, n2, y2, e2, t2⟩ := F 2 _ rfl
  obtain ⟨v3, n3, y3, e3, t3⟩ := F 3 _ rfl
  obtain ⟨v4, n4, y4, e4, t4⟩ := F 4 _ rfl
  obtain ⟨v5, n5, y5, e5, t5⟩ := F 5 _ rfl
  obtain ⟨v6, n6, y6, e6, t6⟩ := F 6 _ rfl
  obtain ⟨v7, n7, y7, e7, t7⟩ := F 7 _ rfl
  obtain ⟨k, rfl⟩ := int_in t0
  obtain ⟨D, hD⟩ := bytes_in t1
  obtain ⟨I, hI⟩ := items_in t2
  obtain ⟨T, rfl⟩ := str_in t3
  obtain ⟨P, hP⟩ := texts_in t4
  obtain ⟨st, rfl⟩ := int_in t5
  obtain ⟨au, rfl⟩ := int_in t6
  obtain ⟨ms, rfl⟩ := str_in t7
  refine ⟨⟨k, D, I, T, P, st, au, ms⟩, v1, v2, v4, ?_, hD, hI, hP⟩
  obtain ⟨l⟩ := cs
  match l, hsz with
  | [c0, c1, c2, c3, c4, c5, c6, c7], _ =>
    simp [Value.cells] at e0 e1 e2 e3 e4 e5 e6 e7
    subst e0 e1 e2 e3 e4 e5 e6 e7
    rfl
end Go.Proofs.Ytcbiajajoojgmaa.Ob
/- What is cut off, or longer: plain. -/
namespace Go.Proofs.Ytcbiajajoojgmaa.Ob
open Go.Proofs.Ytcbiajajoojgmaa.Sh
open Go.Proofs.Ytcbiajajoojgmaa.Tx (nameB bl)

theorem commR_app2 {o : ObM} (h : CommOk o.tree o.parents o.stamp o.author o.msg) (r : List UInt8) : commR (encC o ++ r, false) = (⟨o.tree, o.parents, o.stamp.toNat, o.author.toNat, o.msg⟩, (r, false)) := by
  have hp := parB_of h.par
  have hm := msgB_len h.msg
  have e : encC o ++ r = unhexL o.tree ++ (UInt8.ofNat o.parents.length :: (o.parents.flatMap unhexL ++ (putL o.stamp.toNat ++ (putL o.author.toNat ++ (putL o.msg.length ++ o.msg ++ r))))) := by
    unfold encC
    simp
  rw [e]
  unfold commR
  rw [hashR_app h.tree]
  unfold commP
  rw [octR_cons]
  rw [show (UInt8.ofNat o.parents.length).toNat = o.parents.length from by rw [UInt8.toNat_ofNat']; omega]
  rw [idsR_app (mem_of_at hp.2)]
  unfold commS
  rw [numR_app (by have := h.st1; omega)]
  unfold commA
  rw [numR_app (by have := h.au1; omega)]
  unfold commM
  rw [textR_app (by omega)]
/-- A tree's bytes, or a commit's, tell where they end. -/
theorem objR_app {o : ObM} (h : mayB o = true) (h1 : o.kind ≠ 1) (r : List UInt8) : objR (encL o ++ r) = (o, (r, false)) := by
  unfold objR
  rcases mayB_kind h with ⟨hk, hb⟩ | ⟨hk, hb⟩ | ⟨hk, hb⟩
  · exact absurd hk h1
  · have e : encL o ++ r = UInt8.ofNat 2 :: (putL o.items.length ++ (o.items.flatMap encI ++ r)) := by
      unfold encL
      rw [if_neg (by omega), if_pos hk, hk]
      unfold encIs
      simp
    have hi := itemsB_of (treeB_of hb).1
    rw [e, octR_cons]
    show objS 2 (putL o.items.length ++ (o.items.flatMap encI ++ r), false) = _
    unfold objS
    rw [if_neg (by decide), if_pos rfl, numR_app (by omega)]
    rw [itemsR_app (mem_of_at hi.2)]
    have h2 := (treeB_of hb).2
    unfold objK at h2
    injection h2 with a1 a2 a3 a4 a5 a6 a7 a8
    congr 1
    exact obm_eq a1.symm a2.symm rfl a4.symm a5.symm a6.symm a7.symm a8.symm
  · have e : encL o ++ r = UInt8.ofNat 3 :: (encC o ++ r) := by
      unfold encL
      rw [if_neg (by omega), if_neg (by omega), hk]
      rfl
    obtain ⟨c1, c2, c3⟩ := commB_of hb
    rw [e, octR_cons]
    show objS 3 (encC o ++ r, false) = _
    unfold objS
    rw [if_neg (by decide), if_neg (by decide), if_pos rfl, commR_app2 c3]
    congr 1
    exact obm_eq hk.symm c1.symm c2.symm rfl rfl (by show ((o.stamp.toNat : Nat) : Int) = o.stamp; have := c3.st0; omega) (by show ((o.author.toNat : Nat) : Int) = o.author; have := c3.au0; omega) rfl
theorem encL_cons (o : ObM) : ∃ t, encL o = UInt8.ofNat o.kind.toNat :: t := ⟨_, rfl⟩
theorem kind_le {o : ObM} (h : mayB o = true) : 1 ≤ o.kind ∧ o.kind ≤ 3 := by
  rcases mayB_kind h with ⟨hk, _⟩ | ⟨hk, _⟩ | ⟨hk, _⟩ <;> omega
theorem dec_more {o : ObM} (h : mayB o = true) (h1 : o.kind ≠ 1) (m : UInt8) : decB (encL o ++ [m]) = false := by
  unfold decB
  rw [objR_app h h1]
  rfl
theorem dec_cut {o : ObM} (h : mayB o = true) (h1 : o.kind ≠ 1) {n : Nat} (hn : n < (encL o).length) : decB ((encL o).take n) = false := by
  cases hd : decB ((encL o).take n) with
  | false => rfl
  | true =>
    exfalso
    have he := enc_objR hd
    have hm : mayB (objR ((encL o).take n)).1 = true := by
      unfold decB at hd
      rw [Bool.and_eq_true] at hd
      exact hd.2
    obtain ⟨p, hp⟩ : ∃ p, (objR ((encL o).take n)).1 = p := ⟨_, rfl⟩
    rw [hp] at he hm
    obtain ⟨t, ht⟩ := encL_cons o
    obtain ⟨t', ht'⟩ := encL_cons p
    have hk : p.kind = o.kind := by
      rw [ht', ht] at he
      cases n with
      | zero => simp at he
      | succ n =>
        rw [List.take_succ_cons] at he
        injection he with e1 _
        have g1 := kind_le h
        have g2 := kind_le hm
        have e2 := congrArg UInt8.toNat e1
        rw [UInt8.toNat_ofNat', UInt8.toNat_ofNat'] at e2
        omega
    have e3 := objR_app hm (by rw [hk]; exact h1) ((encL o).drop n)
    rw [he, List.take_append_drop, objR_enc h] at e3
    have e4 : ([] : List UInt8) = (encL o).drop n := congrArg (fun q : ObM × Rdr => q.2.1) e3
    have e5 := congrArg List.length e4
    rw [List.length_drop] at e5
    simp at e5
    omega
end Go.Proofs.Ytcbiajajoojgmaa.Ob
