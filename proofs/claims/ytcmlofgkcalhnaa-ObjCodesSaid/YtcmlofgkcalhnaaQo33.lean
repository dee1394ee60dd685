/- Texts put together: Ob10. -/
import Derived.Test.YtcmlofgkcalhnaaQo32
/- obj: Encode. -/
namespace Go.Proofs.Ytcmlofgkcalhnaa.Ob
open Go.RowKit Go.Proofs.Ytcmlofgkcalhnaa.Sh
open Go.Proofs.Ytcmlofgkcalhnaa.Tx (OwnV SlV sv bl nameB reads_at texts_at toList_ne')

def encL (o : ObM) : List UInt8 := [UInt8.ofNat o.kind.toNat] ++ (if o.kind = 1 then o.data else if o.kind = 2 then encIs o.items else encC o)
def EncPost (w : World) (o : ObM) (e : Ending) (w' : World) : Prop :=
  (mayB o = true → ∃ u, e = .returned (.tuple #[u, .int .i64 0]) ∧ Own w' w.heap.size u (encL o)) ∧ (mayB o = false → e = .returned (.tuple #[.slice none 0 0, .int .i64 1])) ∧ Below w.heap.size w w'
theorem own_one (w : World) (k : Int) (u : UInt8) (hu : bi u = k) : Own (w.alloc (.cells #[.int .u8 k] 5)) w.heap.size (.slice (some ⟨w.heap.size, 0, none⟩) 1 1) [u] := by
  subst hu
  refine ⟨rfl, .inr ⟨w.heap.size, 1, _, rfl, Nat.le_refl _, heap_alloc_new w _, Nat.le_refl _, by unfold maxLen; omega, rfl, rfl⟩⟩
theorem blobB_of {o : ObM} (h : blobB o = true) : o.data.length ≤ 20000 ∧ { o with data := [] } = objK 1 := by
  unfold blobB at h
  rw [Bool.and_eq_true, decide_eq_true_eq, sameB_iff] at h
  exact h
theorem treeB_of {o : ObM} (h : treeB o = true) : itemsB o.items = true ∧ { o with items := [] } = objK 2 := by
  unfold treeB at h
  rw [Bool.and_eq_true, sameB_iff] at h
  exact h
theorem mayB_kind {o : ObM} (h : mayB o = true) : (o.kind = 1 ∧ blobB o = true) ∨ (o.kind = 2 ∧ treeB o = true) ∨ (o.kind = 3 ∧ commB o = true) := by
  unfold mayB at h
  split at h
  · exact .inl ⟨by assumption, h⟩
  · split at h
    · exact .inr (.inl ⟨by assumption, h⟩)
    · split at h
      · exact .inr (.inr ⟨by assumption, h⟩)
      · cases h
theorem bi_1 : bi 1 = 1 := by unfold bi; rfl
theorem bi_2 : bi 2 = 2 := by unfold bi; rfl
theorem bi_3 : bi 3 = 3 := by unfold bi; rfl
set_option maxRecDepth 100000 in
set_option maxHeartbeats 3200000 in
theorem encode_any (v : Value) (o : ObM) (w : World) (h : ObV w v o) : Calls Try.prog 15 #[v] w (EncPost w o) := by
  obtain ⟨d, it, ps, rfl, hd, hi, hp⟩ := h
  obtain ⟨k, D, I, T, P, st, au, ms⟩ := o
  replace hd : Sl w d D := hd
  replace hi : SlI w it I := hi
  replace hp : SlV w ps ((P.map str).map sv) := hp
  have HD := Lib.hid hd
  have HI := Lib.hid hi
  have HP := Lib.hid hp
  obtain ⟨A, c, rfl, hlc, hcm, _⟩ := hd
  obtain ⟨A2, c2, rfl, hlc2, hcm2, _⟩ := hi
  obtain ⟨A3, c3, rfl, hlc3, hcm3, _⟩ := hp
  unfold maxLen at hcm hcm2 hcm3
  simp only [List.length_map] at hlc3 HP ⊢
  obtain ⟨l, hl⟩ : ∃ l, D.length = l := ⟨_, rfl⟩
  obtain ⟨l2, hl2⟩ : ∃ l, I.length = l := ⟨_, rfl⟩
  obtain ⟨l3, hl3⟩ : ∃ l, P.length = l := ⟨_, rfl⟩
  rw [hl] at hlc HD ⊢
  rw [hl2] at hlc2 HI ⊢
  rw [hl3] at hlc3 HP ⊢
  have HL := Lib.hid hl
  clear hl hl2 hl3
  have HB1 : Hid (Below w.heap.size w (w.alloc (.cells #[.int .i64 k, .slice A l c, .slice A2 l2 c2, .string (str T), .slice A3 l3 c3, .int .i64 st, .int .i64 au, .string (str ms)] 32))) := (Below.refl _ _).alloc (Nat.le_refl _) _
  have HK1 : Hid (Blk (w.alloc (.cells #[.int .i64 k, .slice A l c, .slice A2 l2 c2, .string (str T), .slice A3 l3 c3, .int .i64 st, .int .i64 au, .string (str ms)] 32)) w.heap.size 32 #[.int .i64 k, .slice A l c, .slice A2 l2 c2, .string (str T), .slice A3 l3 c3, .int .i64 st, .int .i64 au, .string (str ms)]) := Blk.new _ _ _
  have HV : Hid (ObV w (.agg #[.int .i64 k, .slice A l c, .slice A2 l2 c2, .string (str T), .slice A3 l3 c3, .int .i64 st, .int .i64 au, .string (str ms)]) ⟨k, D, I, T, P, st, au, ms⟩) := ⟨_, _, _, rfl, HD.out, HI.out, HP.out⟩
  obtain ⟨t, ht⟩ : ∃ t, mayB ⟨k, D, I, T, P, st, au, ms⟩ = t := ⟨_, rfl⟩
  have HT := Lib.hid ht
  clear ht
  go_enter Try.func15, Try.ntmps15
  go_wp2_with fail
  refine (may_any _ ⟨k, D, I, T, P, st, au, ms⟩ _ (HV.out.below HB1.out)).mono ?_
  rw [HT.out]
  rintro e w1 ⟨rfl, hb1⟩
  have HB2 := Lib.hid (Below.after HB1.out hb1)
  have HK2 := Lib.hid (HK1.out.below hb1 HK1.out.lt)
  have hwz : w.heap.size ≤ w1.heap.size := HB2.out.size
  clear hb1
  cases t with
  | false =>
    go_wp2_with fail
    go_ret2
    exact ⟨fun h => by rw [HT.out] at h; (cases h), fun _ => rfl, HB2.out⟩
  | true =>
    have hkd := mayB_kind HT.out
    obtain ⟨x0, x1, x2, x3, x4, x5, x6, x7⟩ := box_cells HK2.out
    rcases hkd with ⟨rfl, hkb⟩ | ⟨rfl, hkb⟩ | ⟨rfl, hkb⟩
    · have hlen := (blobB_of hkb).1
      have hsm : [(1 : UInt8)].length + l ≤ 140737488355328 := by
        have : D.length ≤ 20000 := hlen
        rw [HL.out] at this
        rw [List.length_singleton]
        omega
      have HO2 : Hid (Own (w1.alloc (.cells #[.int .u8 1] 5)) w1.heap.size (.slice (some ⟨w1.heap.size, 0, none⟩) 1 1) [1]) := own_one w1 1 1 bi_1
      have HK3 : Hid (Blk (w1.alloc (.cells #[.int .u8 1] 5)) w.heap.size 32 #[.int .i64 1, .slice A l c, .slice A2 l2 c2, .string (str T), .slice A3 l3 c3, .int .i64 st, .int .i64 au, .string (str ms)]) := HK2.out.alloc _
      obtain ⟨y0, y1, y2, y3, y4, y5, y6, y7⟩ := box_cells HK3.out
      have HA2 : Hid (Below w.heap.size w (w1.alloc (.cells #[.int .u8 1] 5))) := HB2.out.alloc hwz _
      have HR : Hid (Reads (w1.alloc (.cells #[.int .u8 1] 5)) (w1.alloc (.cells #[.int .u8 1] 5)).heap.size 1 A l (D.map bv)) := by
        obtain ⟨A', c', hv, _, _, hI, _⟩ := HD.out.below HA2.out
        injection hv with e1 e2 e3
        subst e1
        have := hI.reads
        rw [HL.out] at this
        exact this
      have hz : w1.heap.size ≤ (w1.alloc (.cells #[.int .u8 1] 5)).heap.size := by simp
      have HKB := Lib.hid hkb
      clear hkb hlen
      go_wp2_with (at_builtin; refine app_bytes rfl (.tmp 16) (.tmp 18) rfl _ w1.heap.size _ [1] rfl HO2.out _ A l c D rfl HR.out hsm hz ?_; intro v3 w3 ho3 hb3; have HO3 := Lib.hid ho3; have HB3 := Lib.hid hb3; clear ho3 hb3)
      go_ret2
      refine ⟨fun _ => ⟨v3, rfl, ?_⟩, (fun h => by rw [HT.out] at h; cases h), HA2.out.trans (HB3.out.below.mono hwz)⟩
      exact Own.based HO3.out hwz
    · have HKB := Lib.hid hkb
      have HO2 : Hid (Own (w1.alloc (.cells #[.int .u8 2] 5)) w1.heap.size (.slice (some ⟨w1.heap.size, 0, none⟩) 1 1) [2]) := own_one w1 2 2 bi_2
      have HK3 : Hid (Blk (w1.alloc (.cells #[.int .u8 2] 5)) w.heap.size 32 #[.int .i64 2, .slice A l c, .slice A2 l2 c2, .string (str T), .slice A3 l3 c3, .int .i64 st, .int .i64 au, .string (str ms)]) := HK2.out.alloc _
      obtain ⟨y0, y1, y2, y3, y4, y5, y6, y7⟩ := box_cells HK3.out
      have HA2 : Hid (Below w.heap.size w (w1.alloc (.cells #[.int .u8 2] 5))) := HB2.out.alloc hwz _
      have HA1 : Hid (Below w1.heap.size w1 (w1.alloc (.cells #[.int .u8 2] 5))) := (Below.refl _ _).alloc (Nat.le_refl _) _
      have hz : w1.heap.size ≤ (w1.alloc (.cells #[.int .u8 2] 5)).heap.size := by simp
      clear hkb
      go_wp2_with fail
      refine (putItems_any _ _ [2] I w1.heap.size w1 _ HO2.out (HI.out.below HB2.out) HA1.out (Nat.le_refl _) hz (treeB_of HKB.out).1 (by decide)).mono ?_
      rintro e w3 ⟨v3, rfl, ho3, hk3⟩
      have HO3 := Lib.hid ho3
      have HB3 := Lib.hid hk3
      clear ho3 hk3 x0 x1 x2 x3 x4 x5 x6 x7 y0 y1 y2 y3 y4 y5 y6 y7
      go_wp2_with fail
      go_ret2
      refine ⟨fun _ => ⟨v3, rfl, ?_⟩, (fun h => by rw [HT.out] at h; cases h), HA2.out.trans (HB3.out.below.mono hwz)⟩
      exact Own.based HO3.out hwz
    · have HKB := Lib.hid hkb
      have HO2 : Hid (Own (w1.alloc (.cells #[.int .u8 3] 5)) w1.heap.size (.slice (some ⟨w1.heap.size, 0, none⟩) 1 1) [3]) := own_one w1 3 3 bi_3
      have HK3 : Hid (Blk (w1.alloc (.cells #[.int .u8 3] 5)) w.heap.size 32 #[.int .i64 3, .slice A l c, .slice A2 l2 c2, .string (str T), .slice A3 l3 c3, .int .i64 st, .int .i64 au, .string (str ms)]) := HK2.out.alloc _
      obtain ⟨y0, y1, y2, y3, y4, y5, y6, y7⟩ := box_cells HK3.out
      have HA2 : Hid (Below w.heap.size w (w1.alloc (.cells #[.int .u8 3] 5))) := HB2.out.alloc hwz _
      have HA1 : Hid (Below w1.heap.size w1 (w1.alloc (.cells #[.int .u8 3] 5))) := (Below.refl _ _).alloc (Nat.le_refl _) _
      have hz : w1.heap.size ≤ (w1.alloc (.cells #[.int .u8 3] 5)).heap.size := by simp
      clear hkb
      go_wp2_with fail
      refine (putCommit_any _ _ [3] ⟨3, D, I, T, P, st, au, ms⟩ w1.heap.size w1 _ HO2.out (HV.out.below HB2.out) HA1.out (Nat.le_refl _) hz (commB_of HKB.out).2.2 (by decide)).mono ?_
      rintro e w3 ⟨v3, rfl, ho3, hk3⟩
      have HO3 := Lib.hid ho3
      have HB3 := Lib.hid hk3
      clear ho3 hk3 x0 x1 x2 x3 x4 x5 x6 x7 y0 y1 y2 y3 y4 y5 y6 y7
      go_wp2_with fail
      go_ret2
      refine ⟨fun _ => ⟨v3, rfl, ?_⟩, (fun h => by rw [HT.out] at h; cases h), HA2.out.trans (HB3.out.below.mono hwz)⟩
      exact Own.based HO3.out hwz
end Go.Proofs.Ytcmlofgkcalhnaa.Ob
