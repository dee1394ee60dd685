/- Texts put together: YOb6. -/
import Derived.Test.YteffiedolcjjlaaGreatQw14
/- obj: mayBlob, mayTree, mayCommit, May. -/
namespace Go.Proofs.YteffiedolcjjlaaGreat.Ob
open Go.RowKit Go.Proofs.YteffiedolcjjlaaGreat.Sh
open Go.Proofs.YteffiedolcjjlaaGreat.Tx (OwnV SlV sv bl nameB reads_at texts_at toList_ne')

def objK (k : Int) : ObM := ⟨k, [], [], [], [], 0, 0, []⟩
theorem objK_v (k : Int) (w : World) : ObV w (.agg #[.int .i64 k, .slice none 0 0, .slice none 0 0, .string ⟨#[]⟩, .slice none 0 0, .int .i64 0, .int .i64 0, .string ⟨#[]⟩]) (objK k) :=
  ⟨_, _, _, rfl, Sl.nil_ w, SlI.nil_ w, SlV.nil_ w⟩
def blobB (o : ObM) : Bool := decide (o.data.length ≤ 20000) && sameB { o with data := [] } (objK 1)
def treeB (o : ObM) : Bool := itemsB o.items && sameB { o with items := [] } (objK 2)
def commB (o : ObM) : Bool := decide (o.data.length = 0) && decide (o.items.length = 0) && validB o.tree && parB o.parents && decide (0 ≤ o.stamp) && decide (o.stamp ≤ 1099511627776) && decide (0 ≤ o.author) && decide (o.author ≤ 255) && msgB o.msg
def mayB (o : ObM) : Bool := if o.kind = 1 then blobB o else if o.kind = 2 then treeB o else if o.kind = 3 then commB o else false
set_option maxRecDepth 100000 in
set_option maxHeartbeats 1600000 in
theorem mayBlob_any (v : Value) (o : ObM) (w : World) (h : ObV w v o) : Calls Tryz.prog 95 #[v] w (BoolPost w (blobB o)) := by
  obtain ⟨d, it, ps, rfl, hd, hi, hp⟩ := h
  obtain ⟨k, D, I, T, P, st, au, ms⟩ := o
  replace hd : Sl w d D := hd
  replace hi : SlI w it I := hi
  replace hp : SlV w ps ((P.map str).map sv) := hp
  have HD := Lib.hid hd
  have HI := Lib.hid hi
  have HP := Lib.hid hp
  obtain ⟨A, c, rfl, hlc, hcm, _⟩ := hd
  obtain ⟨A2, c2, rfl, hlc2, hcm2, _⟩ := hi
  obtain ⟨A3, c3, rfl, hlc3, hcm3, _⟩ := hp
  unfold maxLen at hcm hcm2 hcm3
  simp only [List.length_map] at hlc3 HP ⊢
  obtain ⟨l, hl⟩ : ∃ l, D.length = l := ⟨_, rfl⟩
  obtain ⟨l2, hl2⟩ : ∃ l, I.length = l := ⟨_, rfl⟩
  obtain ⟨l3, hl3⟩ : ∃ l, P.length = l := ⟨_, rfl⟩
  rw [hl] at hlc HD ⊢
  rw [hl2] at hlc2 HI ⊢
  rw [hl3] at hlc3 HP ⊢
  have HL := Lib.hid hl
  have HL2 := Lib.hid hl2
  clear hl hl2 hl3
  have HB1 : Hid (Below w.heap.size w (w.alloc (.cells #[.int .i64 k, .slice A l c, .slice A2 l2 c2, .string (str T), .slice A3 l3 c3, .int .i64 st, .int .i64 au, .string (str ms)] 73))) := (Below.refl _ _).alloc (Nat.le_refl _) _
  have HB2 : Hid (Below w.heap.size w ((w.alloc (.cells #[.int .i64 k, .slice A l c, .slice A2 l2 c2, .string (str T), .slice A3 l3 c3, .int .i64 st, .int .i64 au, .string (str ms)] 73)).alloc (.cells #[.int .i64 k, .slice none 0 0, .slice A2 l2 c2, .string (str T), .slice A3 l3 c3, .int .i64 st, .int .i64 au, .string (str ms)] 73))) := HB1.out.alloc (by simp) _
  by_cases hc : l ≤ 20000
  · have hB : blobB ⟨k, D, I, T, P, st, au, ms⟩ = sameB ⟨k, [], I, T, P, st, au, ms⟩ (objK 1) := by
      unfold blobB
      rw [HL.out]
      simp [hc]
    rw [hB]
    have hc' : (l : Int) ≤ 20000 := by omega
    clear hB
    go_enter Tryz.func95, Tryz.ntmps95
    go_wp2_with fail
    refine (same_any _ _ ⟨k, [], I, T, P, st, au, ms⟩ (objK 1) ((w.alloc (.cells #[.int .i64 k, .slice A l c, .slice A2 l2 c2, .string (str T), .slice A3 l3 c3, .int .i64 st, .int .i64 au, .string (str ms)] 73)).alloc (.cells #[.int .i64 k, .slice none 0 0, .slice A2 l2 c2, .string (str T), .slice A3 l3 c3, .int .i64 st, .int .i64 au, .string (str ms)] 73)) ⟨_, _, _, rfl, Sl.nil_ _, HI.out.below HB2.out, HP.out.below HB2.out⟩ (objK_v 1 _)).mono ?_
    rintro e w3 ⟨rfl, hb3⟩
    have H3 := Lib.hid (Below.after HB2.out hb3)
    clear hb3
    go_wp2_with fail
    go_ret
    exact ⟨rfl, H3.out⟩
  · have hB : blobB ⟨k, D, I, T, P, st, au, ms⟩ = false := by
      unfold blobB
      rw [HL.out]
      simp [hc]
    rw [hB]
    have hc' : (20000 : Int) < (l : Int) := by omega
    clear hB
    go_enter Tryz.func95, Tryz.ntmps95
    go_wp2_with fail
    go_ret
    exact ⟨rfl, HB2.out⟩
set_option maxRecDepth 100000 in
set_option maxHeartbeats 1600000 in
theorem mayTree_any (v : Value) (o : ObM) (w : World) (h : ObV w v o) : Calls Tryz.prog 96 #[v] w (BoolPost w (treeB o)) := by
  obtain ⟨d, it, ps, rfl, hd, hi, hp⟩ := h
  obtain ⟨k, D, I, T, P, st, au, ms⟩ := o
  replace hd : Sl w d D := hd
  replace hi : SlI w it I := hi
  replace hp : SlV w ps ((P.map str).map sv) := hp
  have HD := Lib.hid hd
  have HI := Lib.hid hi
  have HP := Lib.hid hp
  obtain ⟨A, c, rfl, hlc, hcm, _⟩ := hd
  obtain ⟨A2, c2, rfl, hlc2, hcm2, _⟩ := hi
  obtain ⟨A3, c3, rfl, hlc3, hcm3, _⟩ := hp
  unfold maxLen at hcm hcm2 hcm3
  simp only [List.length_map] at hlc3 HP ⊢
  obtain ⟨l, hl⟩ : ∃ l, D.length = l := ⟨_, rfl⟩
  obtain ⟨l2, hl2⟩ : ∃ l, I.length = l := ⟨_, rfl⟩
  obtain ⟨l3, hl3⟩ : ∃ l, P.length = l := ⟨_, rfl⟩
  rw [hl] at hlc HD ⊢
  rw [hl2] at hlc2 HI ⊢
  rw [hl3] at hlc3 HP ⊢
  have HL := Lib.hid hl
  have HL2 := Lib.hid hl2
  clear hl hl2 hl3
  have HB1 : Hid (Below w.heap.size w (w.alloc (.cells #[.int .i64 k, .slice A l c, .slice A2 l2 c2, .string (str T), .slice A3 l3 c3, .int .i64 st, .int .i64 au, .string (str ms)] 73))) := (Below.refl _ _).alloc (Nat.le_refl _) _
  have HB2 : Hid (Below w.heap.size w ((w.alloc (.cells #[.int .i64 k, .slice A l c, .slice A2 l2 c2, .string (str T), .slice A3 l3 c3, .int .i64 st, .int .i64 au, .string (str ms)] 73)).alloc (.cells #[.int .i64 k, .slice A l c, .slice none 0 0, .string (str T), .slice A3 l3 c3, .int .i64 st, .int .i64 au, .string (str ms)] 73))) := HB1.out.alloc (by simp) _
  obtain ⟨b, hb⟩ : ∃ b, itemsB I = b := ⟨_, rfl⟩
  have HBI := Lib.hid hb
  clear hb
  have HK : Hid (Blk ((w.alloc (.cells #[.int .i64 k, .slice A l c, .slice A2 l2 c2, .string (str T), .slice A3 l3 c3, .int .i64 st, .int .i64 au, .string (str ms)] 73)).alloc (.cells #[.int .i64 k, .slice A l c, .slice none 0 0, .string (str T), .slice A3 l3 c3, .int .i64 st, .int .i64 au, .string (str ms)] 73)) (w.heap.size + 1) 73 #[.int .i64 k, .slice A l c, .slice none 0 0, .string (str T), .slice A3 l3 c3, .int .i64 st, .int .i64 au, .string (str ms)]) := by
    unfold Hid
    rw [show w.heap.size + 1 = (w.alloc (.cells #[.int .i64 k, .slice A l c, .slice A2 l2 c2, .string (str T), .slice A3 l3 c3, .int .i64 st, .int .i64 au, .string (str ms)] 73)).heap.size from by simp]
    exact Blk.new _ _ _
  go_enter Tryz.func96, Tryz.ntmps96
  go_wp2_with fail
  refine (items_any _ I ((w.alloc (.cells #[.int .i64 k, .slice A l c, .slice A2 l2 c2, .string (str T), .slice A3 l3 c3, .int .i64 st, .int .i64 au, .string (str ms)] 73)).alloc (.cells #[.int .i64 k, .slice A l c, .slice none 0 0, .string (str T), .slice A3 l3 c3, .int .i64 st, .int .i64 au, .string (str ms)] 73)) (HI.out.below HB2.out)).mono ?_
  rw [HBI.out]
  rintro e w3 ⟨rfl, hb3⟩
  have H3 := Lib.hid (Below.after HB2.out hb3)
  have HK3 := Lib.hid (HK.out.below hb3 HK.out.lt)
  clear hb3
  cases b with
  | false =>
    have hB : treeB ⟨k, D, I, T, P, st, au, ms⟩ = false := by
      unfold treeB
      rw [HBI.out]
      rfl
    have HBB := Lib.hid hB
    clear hB
    go_wp2_with fail
    go_ret
    exact ⟨by rw [HBB.out]; rfl, H3.out⟩
  | true =>
    have hB : treeB ⟨k, D, I, T, P, st, au, ms⟩ = sameB ⟨k, D, [], T, P, st, au, ms⟩ (objK 2) := by
      unfold treeB
      rw [HBI.out]
      rfl
    have HBB := Lib.hid hB
    clear hB
    obtain ⟨x0, x1, x2, x3, x4, x5, x6, x7⟩ := box_cells HK3.out
    go_wp2_with fail
    clear x0 x1 x2 x3 x4 x5 x6 x7
    refine (same_any _ _ ⟨k, D, [], T, P, st, au, ms⟩ (objK 2) w3 ⟨_, _, _, rfl, HD.out.below H3.out, SlI.nil_ _, HP.out.below H3.out⟩ (objK_v 2 _)).mono ?_
    rintro e w4 ⟨rfl, hb4⟩
    have H4 := Lib.hid (Below.after H3.out hb4)
    clear hb4
    go_wp2_with fail
    go_ret
    exact ⟨by rw [HBB.out]; rfl, H4.out⟩
set_option maxRecDepth 100000 in
set_option maxHeartbeats 1600000 in
theorem mayCommit_any (v : Value) (o : ObM) (w : World) (h : ObV w v o) : Calls Tryz.prog 97 #[v] w (BoolPost w (commB o)) := by
  obtain ⟨d, it, ps, rfl, hd, hi, hp⟩ := h
  obtain ⟨k, D, I, T, P, st, au, ms⟩ := o
  replace hd : Sl w d D := hd
  replace hi : SlI w it I := hi
  replace hp : SlV w ps ((P.map str).map sv) := hp
  have HD := Lib.hid hd
  have HI := Lib.hid hi
  have HP := Lib.hid hp
  obtain ⟨A, c, rfl, hlc, hcm, _⟩ := hd
  obtain ⟨A2, c2, rfl, hlc2, hcm2, _⟩ := hi
  obtain ⟨A3, c3, rfl, hlc3, hcm3, _⟩ := hp
  unfold maxLen at hcm hcm2 hcm3
  simp only [List.length_map] at hlc3 HP ⊢
  obtain ⟨l, hl⟩ : ∃ l, D.length = l := ⟨_, rfl⟩
  obtain ⟨l2, hl2⟩ : ∃ l, I.length = l := ⟨_, rfl⟩
  obtain ⟨l3, hl3⟩ : ∃ l, P.length = l := ⟨_, rfl⟩
  rw [hl] at hlc HD ⊢
  rw [hl2] at hlc2 HI ⊢
  rw [hl3] at hlc3 HP ⊢
  have HL := Lib.hid hl
  have HL2 := Lib.hid hl2
  clear hl hl2 hl3
  have HB1 : Hid (Below w.heap.size w (w.alloc (.cells #[.int .i64 k, .slice A l c, .slice A2 l2 c2, .string (str T), .slice A3 l3 c3, .int .i64 st, .int .i64 au, .string (str ms)] 73))) := (Below.refl _ _).alloc (Nat.le_refl _) _
  by_cases h : l = 0
  · have hT0 := Lib.hid h
    clear h
    by_cases h : l2 = 0
    · have hT1 := Lib.hid h
      clear h
      by_cases h : validB T = true
      · have hT2 := Lib.hid h
        clear h
        by_cases h : parB P = true
        · have hT3 := Lib.hid h
          clear h
          by_cases h : 0 ≤ st
          · have hT4 := Lib.hid h
            clear h
            by_cases h : st ≤ 1099511627776
            · have hT5 := Lib.hid h
              clear h
              by_cases h : 0 ≤ au
              · have hT6 := Lib.hid h
                clear h
                by_cases h : au ≤ 255
                · have hT7 := Lib.hid h
                  clear h
                  by_cases h : msgB ms = true
                  · have hT8 := Lib.hid h
                    clear h
                    have hB : commB ⟨k, D, I, T, P, st, au, ms⟩ = true := by
                      unfold commB
                      rw [HL.out, HL2.out]
                      simp [hT0.out, hT1.out, hT2.out, hT3.out, hT4.out, hT5.out, hT6.out, hT7.out, hT8.out]
                    rw [hB]
                    clear hB
                    have z0 : ((l : Int) == 0) = true := by simp; have := hT0.out; omega
                    have z1 : ((l2 : Int) == 0) = true := by simp; have := hT1.out; omega
                    have y4 := hT4.out
                    have y5 := hT5.out
                    have y6 := hT6.out
                    have y7 := hT7.out
                    go_enter Tryz.func97, Tryz.ntmps97
                    go_wp2_with fail
                    refine (valid_all T _).mono ?_
                    rw [hT2.out]
                    rintro e w' ⟨rfl, rfl⟩
                    go_wp2_with fail
                    refine (par_any _ P _ (HP.out.below HB1.out)).mono ?_
                    rw [hT3.out]
                    rintro e w' ⟨rfl, rfl⟩
                    go_wp2_with fail
                    refine (msg_any ms _).mono ?_
                    rw [hT8.out]
                    rintro e w' ⟨rfl, rfl⟩
                    go_wp2_with fail
                    go_ret
                    exact ⟨rfl, HB1.out⟩
                  · have hT8 := Lib.hid h
                    clear h
                    have F8 : Hid (msgB ms = false) := by unfold Hid; simpa using hT8.out
                    have hB : commB ⟨k, D, I, T, P, st, au, ms⟩ = false := by
                      unfold commB
                      rw [HL.out, HL2.out]
                      simp [hT0.out, hT1.out, hT2.out, hT3.out, hT4.out, hT5.out, hT6.out, hT7.out, hT8.out]
                    rw [hB]
                    clear hB
                    have z0 : ((l : Int) == 0) = true := by simp; have := hT0.out; omega
                    have z1 : ((l2 : Int) == 0) = true := by simp; have := hT1.out; omega
                    have y4 := hT4.out
                    have y5 := hT5.out
                    have y6 := hT6.out
                    have y7 := hT7.out
                    go_enter Tryz.func97, Tryz.ntmps97
                    go_wp2_with fail
                    refine (valid_all T _).mono ?_
                    rw [hT2.out]
                    rintro e w' ⟨rfl, rfl⟩
                    go_wp2_with fail
                    refine (par_any _ P _ (HP.out.below HB1.out)).mono ?_
                    rw [hT3.out]
                    rintro e w' ⟨rfl, rfl⟩
                    go_wp2_with fail
                    refine (msg_any ms _).mono ?_
                    rw [F8.out]
                    rintro e w' ⟨rfl, rfl⟩
                    go_wp2_with fail
                    go_ret
                    exact ⟨rfl, HB1.out⟩
                · have hT7 := Lib.hid h
                  clear h
                  have hB : commB ⟨k, D, I, T, P, st, au, ms⟩ = false := by
                    unfold commB
                    rw [HL.out, HL2.out]
                    simp [hT0.out, hT1.out, hT2.out, hT3.out, hT4.out, hT5.out, hT6.out, hT7.out]
                  rw [hB]
                  clear hB
                  have z0 : ((l : Int) == 0) = true := by simp; have := hT0.out; omega
                  have z1 : ((l2 : Int) == 0) = true := by simp; have := hT1.out; omega
                  have y4 := hT4.out
                  have y5 := hT5.out
                  have y6 := hT6.out
                  have n7 : 255 < au := by have := hT7.out; omega
                  go_enter Tryz.func97, Tryz.ntmps97
                  go_wp2_with fail
                  refine (valid_all T _).mono ?_
                  rw [hT2.out]
                  rintro e w' ⟨rfl, rfl⟩
                  go_wp2_with fail
                  refine (par_any _ P _ (HP.out.below HB1.out)).mono ?_
                  rw [hT3.out]
                  rintro e w' ⟨rfl, rfl⟩
                  go_wp2_with fail
                  go_ret
                  exact ⟨rfl, HB1.out⟩
              · have hT6 := Lib.hid h
                clear h
                have hB : commB ⟨k, D, I, T, P, st, au, ms⟩ = false := by
                  unfold commB
                  rw [HL.out, HL2.out]
                  simp [hT0.out, hT1.out, hT2.out, hT3.out, hT4.out, hT5.out, hT6.out]
                rw [hB]
                clear hB
                have z0 : ((l : Int) == 0) = true := by simp; have := hT0.out; omega
                have z1 : ((l2 : Int) == 0) = true := by simp; have := hT1.out; omega
                have y4 := hT4.out
                have y5 := hT5.out
                have n6 : au < 0 := by have := hT6.out; omega
                go_enter Tryz.func97, Tryz.ntmps97
                go_wp2_with fail
                refine (valid_all T _).mono ?_
                rw [hT2.out]
                rintro e w' ⟨rfl, rfl⟩
                go_wp2_with fail
                refine (par_any _ P _ (HP.out.below HB1.out)).mono ?_
                rw [hT3.out]
                rintro e w' ⟨rfl, rfl⟩
                go_wp2_with fail
                go_ret
                exact ⟨rfl, HB1.out⟩
            · have hT5 := Lib.hid h
              clear h
              have hB : commB ⟨k, D, I, T, P, st, au, ms⟩ = false := by
                unfold commB
                rw [HL.out, HL2.out]
                simp [hT0.out, hT1.out, hT2.out, hT3.out, hT4.out, hT5.out]
              rw [hB]
              clear hB
              have z0 : ((l : Int) == 0) = true := by simp; have := hT0.out; omega
              have z1 : ((l2 : Int) == 0) = true := by simp; have := hT1.out; omega
              have y4 := hT4.out
              have n5 : 1099511627776 < st := by have := hT5.out; omega
              go_enter Tryz.func97, Tryz.ntmps97
              go_wp2_with fail
              refine (valid_all T _).mono ?_
              rw [hT2.out]
              rintro e w' ⟨rfl, rfl⟩
              go_wp2_with fail
              refine (par_any _ P _ (HP.out.below HB1.out)).mono ?_
              rw [hT3.out]
              rintro e w' ⟨rfl, rfl⟩
              go_wp2_with fail
              go_ret
              exact ⟨rfl, HB1.out⟩
          · have hT4 := Lib.hid h
            clear h
            have hB : commB ⟨k, D, I, T, P, st, au, ms⟩ = false := by
              unfold commB
              rw [HL.out, HL2.out]
              simp [hT0.out, hT1.out, hT2.out, hT3.out, hT4.out]
            rw [hB]
            clear hB
            have z0 : ((l : Int) == 0) = true := by simp; have := hT0.out; omega
            have z1 : ((l2 : Int) == 0) = true := by simp; have := hT1.out; omega
            have n4 : st < 0 := by have := hT4.out; omega
            go_enter Tryz.func97, Tryz.ntmps97
            go_wp2_with fail
            refine (valid_all T _).mono ?_
            rw [hT2.out]
            rintro e w' ⟨rfl, rfl⟩
            go_wp2_with fail
            refine (par_any _ P _ (HP.out.below HB1.out)).mono ?_
            rw [hT3.out]
            rintro e w' ⟨rfl, rfl⟩
            go_wp2_with fail
            go_ret
            exact ⟨rfl, HB1.out⟩
        · have hT3 := Lib.hid h
          clear h
          have F3 : Hid (parB P = false) := by unfold Hid; simpa using hT3.out
          have hB : commB ⟨k, D, I, T, P, st, au, ms⟩ = false := by
            unfold commB
            rw [HL.out, HL2.out]
            simp [hT0.out, hT1.out, hT2.out, hT3.out]
          rw [hB]
          clear hB
          have z0 : ((l : Int) == 0) = true := by simp; have := hT0.out; omega
          have z1 : ((l2 : Int) == 0) = true := by simp; have := hT1.out; omega
          go_enter Tryz.func97, Tryz.ntmps97
          go_wp2_with fail
          refine (valid_all T _).mono ?_
          rw [hT2.out]
          rintro e w' ⟨rfl, rfl⟩
          go_wp2_with fail
          refine (par_any _ P _ (HP.out.below HB1.out)).mono ?_
          rw [F3.out]
          rintro e w' ⟨rfl, rfl⟩
          go_wp2_with fail
          go_ret
          exact ⟨rfl, HB1.out⟩
      · have hT2 := Lib.hid h
        clear h
        have F2 : Hid (validB T = false) := by unfold Hid; simpa using hT2.out
        have hB : commB ⟨k, D, I, T, P, st, au, ms⟩ = false := by
          unfold commB
          rw [HL.out, HL2.out]
          simp [hT0.out, hT1.out, hT2.out]
        rw [hB]
        clear hB
        have z0 : ((l : Int) == 0) = true := by simp; have := hT0.out; omega
        have z1 : ((l2 : Int) == 0) = true := by simp; have := hT1.out; omega
        go_enter Tryz.func97, Tryz.ntmps97
        go_wp2_with fail
        refine (valid_all T _).mono ?_
        rw [F2.out]
        rintro e w' ⟨rfl, rfl⟩
        go_wp2_with fail
        go_ret
        exact ⟨rfl, HB1.out⟩
    · have hT1 := Lib.hid h
      clear h
      have hB : commB ⟨k, D, I, T, P, st, au, ms⟩ = false := by
        unfold commB
        rw [HL.out, HL2.out]
        simp [hT0.out, hT1.out]
      rw [hB]
      clear hB
      have z0 : ((l : Int) == 0) = true := by simp; have := hT0.out; omega
      have z1 : ((l2 : Int) == 0) = false := by simp; have := hT1.out; omega
      go_enter Tryz.func97, Tryz.ntmps97
      go_wp2_with fail
      go_ret
      exact ⟨rfl, HB1.out⟩
  · have hT0 := Lib.hid h
    clear h
    have hB : commB ⟨k, D, I, T, P, st, au, ms⟩ = false := by
      unfold commB
      rw [HL.out, HL2.out]
      simp [hT0.out]
    rw [hB]
    clear hB
    have z0 : ((l : Int) == 0) = false := by simp; have := hT0.out; omega
    go_enter Tryz.func97, Tryz.ntmps97
    go_wp2_with fail
    go_ret
    exact ⟨rfl, HB1.out⟩
set_option maxRecDepth 100000 in
set_option maxHeartbeats 1600000 in
theorem may_any (v : Value) (o : ObM) (w : World) (h : ObV w v o) : Calls Tryz.prog 57 #[v] w (BoolPost w (mayB o)) := by
  obtain ⟨d, it, ps, rfl, hd, hi, hp⟩ := h
  obtain ⟨k, D, I, T, P, st, au, ms⟩ := o
  replace hd : Sl w d D := hd
  replace hi : SlI w it I := hi
  replace hp : SlV w ps ((P.map str).map sv) := hp
  have HD := Lib.hid hd
  have HI := Lib.hid hi
  have HP := Lib.hid hp
  obtain ⟨A, c, rfl, hlc, hcm, _⟩ := hd
  obtain ⟨A2, c2, rfl, hlc2, hcm2, _⟩ := hi
  obtain ⟨A3, c3, rfl, hlc3, hcm3, _⟩ := hp
  unfold maxLen at hcm hcm2 hcm3
  simp only [List.length_map] at hlc3 HP ⊢
  obtain ⟨l, hl⟩ : ∃ l, D.length = l := ⟨_, rfl⟩
  obtain ⟨l2, hl2⟩ : ∃ l, I.length = l := ⟨_, rfl⟩
  obtain ⟨l3, hl3⟩ : ∃ l, P.length = l := ⟨_, rfl⟩
  rw [hl] at hlc HD ⊢
  rw [hl2] at hlc2 HI ⊢
  rw [hl3] at hlc3 HP ⊢
  have HL := Lib.hid hl
  have HL2 := Lib.hid hl2
  clear hl hl2 hl3
  have HB1 : Hid (Below w.heap.size w (w.alloc (.cells #[.int .i64 k, .slice A l c, .slice A2 l2 c2, .string (str T), .slice A3 l3 c3, .int .i64 st, .int .i64 au, .string (str ms)] 73))) := (Below.refl _ _).alloc (Nat.le_refl _) _
  have HV : Hid (ObV (w.alloc (.cells #[.int .i64 k, .slice A l c, .slice A2 l2 c2, .string (str T), .slice A3 l3 c3, .int .i64 st, .int .i64 au, .string (str ms)] 73)) (.agg #[.int .i64 k, .slice A l c, .slice A2 l2 c2, .string (str T), .slice A3 l3 c3, .int .i64 st, .int .i64 au, .string (str ms)]) ⟨k, D, I, T, P, st, au, ms⟩) := ⟨_, _, _, rfl, HD.out.below HB1.out, HI.out.below HB1.out, HP.out.below HB1.out⟩
  by_cases h0 : k = 1
  · have e0 : (k == 1) = true := beq_iff_eq.2 h0
    have hB : mayB ⟨k, D, I, T, P, st, au, ms⟩ = blobB ⟨k, D, I, T, P, st, au, ms⟩ := by unfold mayB; simp [h0]
    rw [hB]
    clear hB h0
    go_enter Tryz.func57, Tryz.ntmps57
    go_wp2_with fail
    refine (mayBlob_any _ _ _ HV.out).mono ?_
    rintro e w3 ⟨rfl, hb3⟩
    have H3 := Lib.hid (Below.after HB1.out hb3)
    clear hb3
    go_wp2_with fail
    go_ret
    exact ⟨rfl, H3.out⟩
  · have e0 : (k == 1) = false := beq_eq_false_iff_ne.2 h0
    by_cases h1 : k = 2
    · have e1 : (k == 2) = true := beq_iff_eq.2 h1
      have hB : mayB ⟨k, D, I, T, P, st, au, ms⟩ = treeB ⟨k, D, I, T, P, st, au, ms⟩ := by unfold mayB; simp [h1]
      rw [hB]
      clear hB h1
      go_enter Tryz.func57, Tryz.ntmps57
      go_wp2_with fail
      refine (mayTree_any _ _ _ HV.out).mono ?_
      rintro e w3 ⟨rfl, hb3⟩
      have H3 := Lib.hid (Below.after HB1.out hb3)
      clear hb3
      go_wp2_with fail
      go_ret
      exact ⟨rfl, H3.out⟩
    · have e1 : (k == 2) = false := beq_eq_false_iff_ne.2 h1
      by_cases h2 : k = 3
      · have e2 : (k == 3) = true := beq_iff_eq.2 h2
        have hB : mayB ⟨k, D, I, T, P, st, au, ms⟩ = commB ⟨k, D, I, T, P, st, au, ms⟩ := by unfold mayB; simp [h2]
        rw [hB]
        clear hB h2
        go_enter Tryz.func57, Tryz.ntmps57
        go_wp2_with fail
        refine (mayCommit_any _ _ _ HV.out).mono ?_
        rintro e w3 ⟨rfl, hb3⟩
        have H3 := Lib.hid (Below.after HB1.out hb3)
        clear hb3
        go_wp2_with fail
        go_ret
        exact ⟨rfl, H3.out⟩
      · have e2 : (k == 3) = false := beq_eq_false_iff_ne.2 h2
        have hB : mayB ⟨k, D, I, T, P, st, au, ms⟩ = false := by unfold mayB; simp [h0, h1, h2]
        rw [hB]
        clear hB h0 h1 h2
        go_enter Tryz.func57, Tryz.ntmps57
        go_wp2_with fail
        go_ret
        exact ⟨rfl, HB1.out⟩
end Go.Proofs.YteffiedolcjjlaaGreat.Ob
