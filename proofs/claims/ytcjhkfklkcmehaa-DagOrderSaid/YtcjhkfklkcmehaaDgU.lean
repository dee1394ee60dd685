/- DagBases: the law's walk. -/
import Derived.Test.YtcjhkfklkcmehaaDgT
import Derived.Test.YtcjhkfklkcmehaaDgQ
set_option linter.unusedVariables false
set_option linter.unusedSimpArgs false
namespace Go.Proofs.Ytcjhkfklkcmehaa.Tx
open Go.RowKit Go.Maps Go.Proofs.Ytcjhkfklkcmehaa.Sh

/-- The calls of a graph g that stands in v. -/
structure GCalls (v : World) (g : Nat) (G : GR) : Prop where
  w : GW G
  s : GS G
  is_ : ∀ (W : World) (a b : ByteArray), Below v.heap.size v W → a.size ≤ 1000000 → b.size ≤ 1000000 → Calls Try.prog 31 #[.pointer (some ⟨g, 0, none⟩), .string a, .string b] W fun e w' => e = .returned (.bool (isG G a b)) ∧ Below W.heap.size W w'
  has : ∀ (W : World) (a : ByteArray), Below v.heap.size v W → a.size ≤ 1000000 → Calls Try.prog 17 #[.pointer (some ⟨g, 0, none⟩), .string a] W fun e w' => e = .returned (.bool (inG G a)) ∧ W = w'
  bas : ∀ (W : World) (a b : ByteArray), Below v.heap.size v W → a.size ≤ 1000000 → b.size ≤ 1000000 → Calls Try.prog 25 #[.pointer (some ⟨g, 0, none⟩), .slice (some ⟨W.heap.size, 0, none⟩) 1 1, .string b] (W.alloc (.cells #[.string a] 9)) (AskPost W (inG G a && inG G b) (basT G [a] b))
  anc1 : ∀ (W : World) (a : ByteArray), Below v.heap.size v W → a.size ≤ 1000000 → Calls Try.prog 23 #[.pointer (some ⟨g, 0, none⟩), .slice (some ⟨W.heap.size, 0, none⟩) 1 1] (W.alloc (.cells #[.string a] 9)) (AskPost W (inG G a) (ancT G [a]))
  len : ∀ W : World, Below v.heap.size v W → Calls Try.prog 16 #[.pointer (some ⟨g, 0, none⟩)] W fun e w' => e = .returned (.int .i64 (G.length : Int)) ∧ W = w'
theorem AskPost.alloc {w w' : World} {o : Obj} {ok : Bool} {ts : List ByteArray} {e : Ending} (h : AskPost (w.alloc o) ok ts e w') : AskPost w ok ts e w' := by
  obtain ⟨hb, h⟩ := h
  have hz : w.heap.size ≤ (w.alloc o).heap.size := by simp
  refine ⟨(alloc_b w o).trans (hb.mono hz), h.imp (fun ⟨h1, v, h2, h3⟩ => ⟨h1, v, h2, h3.base hz⟩) id⟩
theorem all_one (G : GR) (a : ByteArray) : allG G [a] = inG G a := by unfold allG; simp
theorem GCalls.mk_ {v : World} {g : Nat} {G : GR} {Z : Nat → Prop} (h : GAt Z v g G) (hw : GW G) (hs : GS G) : GCalls v g G where
  w := hw
  s := hs
  is_ := fun W a b hW ha hb => gis_any Z g G a b W (h.below hW) hw hs ha hb
  has := fun W a hW ha => ghas_any Z g G a W (h.below hW) ha
  bas := fun W a b hW ha hb => by
    have := gbases_any Z g G _ [a] b (W.alloc (.cells #[.string a] 9)) (h.below (hW.alloc hW.size _)) hw hs (one_text W a) (fun s hs' => by rw [List.mem_singleton.1 hs']; exact ha) (by simp) hb
    rw [all_one] at this
    exact this.mono fun e w' hp => hp.alloc
  anc1 := fun W a hW ha => by
    have := gancs_any Z g G _ [a] (W.alloc (.cells #[.string a] 9)) (h.below (hW.alloc hW.size _)) hw hs (one_text W a) (fun s hs' => by rw [List.mem_singleton.1 hs']; exact ha) (by simp)
    rw [all_one] at this
    exact this.mono fun e w' hp => hp.alloc
  len := fun W hW => glen_any Z g G W (h.below hW)
theorem GO.calls {w v : World} {g : Nat} {G : GR} {k : Nat} (h : GO w v g G) (hk : GK G k) (hk2 : k ≤ 2000) : GCalls v g G := by
  obtain ⟨⟨Z, h1, _⟩, _⟩ := h
  exact .mk_ h1 hk.w (hk.gs hk2)

set_option maxRecDepth 100000 in
set_option maxHeartbeats 12800000 in
theorem dagBases_walk (a0 : Option Addr) (len0 cap0 : Nat) (a b : ByteArray) (w : World) (w0 : IsNodes w a0 len0 cap0) (w1 : a.size ≤ maxLen) (w2 : b.size ≤ maxLen) :
    Calls Try.prog 4 #[.slice a0 len0 cap0, .string a, .string b] w (Yes w) := by
  obtain ⟨l, hln, hsn, hst⟩ := w0
  have hmade := fun (W : World) (hW : Below w.heap.size w W) => gmade_any _ l W (hln.below hW) hsn hst
  have HMADE := Lib.hid hmade
  have HSTN := Lib.hid hst
  unfold maxLen at w1 w2
  clear hln hsn hst hmade
  have sa0 : (0 : Int) ≤ (a.size : Int) := by omega
  have sa1 : (a.size : Int) ≤ 9223372036854775807 := by omega
  have sb0 : (0 : Int) ≤ (b.size : Int) := by omega
  have sb1 : (b.size : Int) ≤ 9223372036854775807 := by omega
  go_enter Try.func4, Try.ntmps4
  go_wp2_with fail
  refine (gfirst_any w).mono ?_
  rintro e v1 ⟨rfl, hb1⟩
  have HB1 := Lib.hid hb1
  have HC1 := Lib.hid (HMADE.out v1 hb1)
  clear hb1
  go_wp2_with fail
  refine (HC1.out).mono ?_
  rintro e v2 (⟨g, rfl, hgo, hfn⟩ | ⟨rfl, hb2⟩)
  case inr =>
    have HF := Lib.hid (first_then (HB1.out.trans (hb2.mono HB1.out.size)))
    clear hb2
    go_wp2_with fail
    refine (HF.out).mono ?_
    rintro e v3 ⟨rfl, hb3⟩
    have HB3 := Lib.hid hb3
    clear hb3
    go_wp2_with fail
    go_ret
    exact ⟨rfl, HB3.out⟩
  have hb2 : Below w.heap.size w v2 := HB1.out.trans (hgo.b.mono HB1.out.size)
  have HB2 := Lib.hid hb2
  have hgc := hgo.calls (gk_whole hfn HSTN.out) (by omega)
  have HG40 : Hid ((madeG l).length ≤ 40) := (gk_whole hfn HSTN.out).len
  obtain ⟨G, hG⟩ : ∃ G, madeG l = G := ⟨_, rfl⟩
  rw [hG] at hgc HG40
  have HGC := Lib.hid hgc
  clear hb2 hgo hfn hgc hG
  by_cases ha : a.size ≤ 100
  case neg =>
    have s2 : (100 : Int) < (a.size : Int) := by omega
    have HF := Lib.hid (first_then HB2.out)
    go_wp2_with fail
    refine (HF.out).mono ?_
    rintro e v3 ⟨rfl, hb3⟩
    have HB3 := Lib.hid hb3
    clear hb3
    go_wp2_with fail
    go_ret
    exact ⟨rfl, HB3.out⟩
  have s2 : (a.size : Int) ≤ 100 := by omega
  by_cases hbz : b.size ≤ 100
  case neg =>
    have s3 : (100 : Int) < (b.size : Int) := by omega
    have HF := Lib.hid (first_then HB2.out)
    go_wp2_with fail
    refine (HF.out).mono ?_
    rintro e v3 ⟨rfl, hb3⟩
    have HB3 := Lib.hid hb3
    clear hb3
    go_wp2_with fail
    go_ret
    exact ⟨rfl, HB3.out⟩
  have s3 : (b.size : Int) ≤ 100 := by omega
  have HA : Hid (a.size ≤ 1000000) := by unfold Hid; omega
  have HBZ : Hid (b.size ≤ 1000000) := by unfold Hid; omega
  have HC3 := Lib.hid (HGC.out.bas v2 a b (Below.refl _ _) HA.out HBZ.out)
  go_wp2_with fail
  refine (HC3.out).mono ?_
  rintro e v3 ⟨hb3, hc3⟩
  have HB3 := Lib.hid hb3
  have HBW3 := Lib.hid (HB2.out.trans (hb3.mono HB2.out.size))
  have HC4 := Lib.hid (HGC.out.bas v3 b a hb3 HBZ.out HA.out)
  clear hb3
  cases hin : (inG G a && inG G b) with
  | false =>
    rcases hc3 with ⟨hx, _⟩ | ⟨_, rfl⟩
    · rw [hin] at hx; cases hx
    go_wp2_with fail
    refine (HC4.out).mono ?_
    rintro e v4 ⟨hb4, ⟨hx, _⟩ | ⟨_, rfl⟩⟩
    · rw [Bool.and_comm, hin] at hx; cases hx
    have hb24 := HB3.out.trans (hb4.mono HB3.out.size)
    have HCA := Lib.hid (HGC.out.has v4 a hb24 HA.out)
    have HCB := Lib.hid (HGC.out.has v4 b hb24 HBZ.out)
    have HF := Lib.hid (first_then (HBW3.out.trans (hb4.mono HBW3.out.size)))
    clear hb4 hb24
    cases hia : inG G a with
    | false =>
      rw [hia] at HCA
      clear hin hia
      go_wp2_with fail
      refine (HCA.out).mono ?_
      rintro e v5 ⟨rfl, rfl⟩
      go_wp2_with fail
      refine (HF.out).mono ?_
      rintro e v5 ⟨rfl, hb5⟩
      have HB5 := Lib.hid hb5
      clear hb5
      go_wp2_with fail
      go_ret
      exact ⟨rfl, HB5.out⟩
    | true =>
      rw [hia, Bool.true_and] at hin
      rw [hia] at HCA
      rw [hin] at HCB
      clear hin hia
      go_wp2_with fail
      refine (HCA.out).mono ?_
      rintro e v5 ⟨rfl, rfl⟩
      go_wp2_with fail
      refine (HCB.out).mono ?_
      rintro e v5 ⟨rfl, rfl⟩
      go_wp2_with fail
      refine (HF.out).mono ?_
      rintro e v5 ⟨rfl, hb5⟩
      have HB5 := Lib.hid hb5
      clear hb5
      go_wp2_with fail
      go_ret
      exact ⟨rfl, HB5.out⟩
  | true =>
  have hab : inG G a = true ∧ inG G b = true := by simpa using hin
  rcases hc3 with ⟨_, vx, rfl, hox⟩ | ⟨hx, _⟩
  case inr => rw [hin] at hx; cases hx
  have HOX := Lib.hid hox.slv
  have HIA := Lib.hid hab.1
  have HIB := Lib.hid hab.2
  clear hox hab
  go_wp2_with fail
  refine (HC4.out).mono ?_
  rintro e v4 ⟨hb4, ⟨_, vy, rfl, hoy⟩ | ⟨hx, _⟩⟩
  case inr => rw [Bool.and_comm, hin] at hx; cases hx
  have hb24 := HB3.out.trans (hb4.mono HB3.out.size)
  have HB24 := Lib.hid hb24
  have HB4 := Lib.hid (HB2.out.trans (hb24.mono HB2.out.size))
  have hca := HGC.out.has v4 a hb24 HA.out
  have hcb := HGC.out.has v4 b hb24 HBZ.out
  rw [HIA.out] at hca
  rw [HIB.out] at hcb
  have HCA := Lib.hid hca
  have HCB := Lib.hid hcb
  rw [bas_swap] at hoy
  obtain ⟨xs, hxs⟩ : ∃ xs, basT G [a] b = xs := ⟨_, rfl⟩
  rw [hxs] at hoy HOX
  have hsx := HOX.out.below hb4
  have HSAME := Lib.hid (texts_same vx vy xs v4 hsx hoy.slv)
  have hw := HGC.out.w
  have HBI : Hid (∀ s ∈ xs, isG G s a = true ∧ isG G s b = true) := fun s hs => bas_is hw HIA.out HIB.out (by rw [hxs]; exact hs)
  have HBA : Hid (∀ i j x y, xs[i]? = some x → xs[j]? = some y → i ≠ j → isG G x y = false) := fun i j x y hx hy hij => bas_apart (a := a) (b := b) hw (by rw [hxs]; exact hx) (by rw [hxs]; exact hy) hij
  have HOV : Hid (∀ s ∈ ancT G [a], ((!isG G s b) || xs.any (isG G s)) = true) := fun s hs => by rw [← hxs]; exact bas_over hw HIA.out HIB.out hs
  have HOWN : Hid (isG G a b = true → xs = [a]) := fun h => by rw [← hxs]; exact bas_own hw HIA.out HIB.out h
  have HXZ : Hid (∀ s ∈ xs, s.size ≤ 1000000) := fun s hs => basT_sz (a := a) (b := b) hw (by rw [hxs]; exact hs)
  have hm40 : xs.length ≤ 40 := by have := basT_len (G := G) (a := a) (b := b); rw [hxs] at this; have := HG40.out; omega
  obtain ⟨Ax, cx, hvx, hmx, hcx, hRx⟩ := hsx.len
  rw [List.length_map] at hvx hmx hRx
  obtain ⟨m, hm⟩ : ∃ m, xs.length = m := ⟨_, rfl⟩
  rw [hm] at hvx hmx hm40
  subst hvx
  have HM := Lib.hid hm
  have HRX := Lib.hid hRx
  have HSX := Lib.hid hsx
  unfold maxLen at hcx
  clear hca hcb hb4 hb24 hoy hxs hsx hw hm hRx hin
  go_wp2_with fail
  refine (HCA.out).mono ?_
  rintro e v5 ⟨rfl, rfl⟩
  go_wp2_with fail
  refine (HCB.out).mono ?_
  rintro e v5 ⟨rfl, rfl⟩
  go_wp2_with fail
  refine (HSAME.out).mono ?_
  rintro e v5 ⟨rfl, hb5⟩
  have HB45 := Lib.hid hb5
  have HB5 := Lib.hid (HB4.out.trans (hb5.mono HB4.out.size))
  have HB25 := Lib.hid (HB24.out.trans (hb5.mono HB24.out.size))
  have HR5 : Hid (∀ W : World, Below v5.heap.size v5 W → Reads W W.heap.size 1 Ax xs.length (xs.map sv)) := fun W hW => (HRX.out.below (hb5.trans (hW.mono hb5.size))).more (Nat.le_trans hb5.size hW.size)
  clear hb5
  go_wp2_with fail
  go_loopw [12, 13] (fun i _ wr => ∃ k : Nat, k ≤ m ∧ i = .int .i64 k ∧ Below v5.heap.size v5 wr) (fun i _ _ => m - (intOf i).toNat)
  case atStart => exact ⟨0, Nat.zero_le _, rfl, Below.refl _ _⟩
  case round =>
    obtain ⟨p, hp, rfl, hbw⟩ := hrel
    have HBO := Lib.hid hbw
    have x0 : (0 : Int) ≤ (p : Int) := by omega
    by_cases hpm : p < m
    · have x1 : (p : Int) < (m : Int) := by omega
      have hpl : p < xs.length := by rw [HM.out]; exact hpm
      obtain ⟨y, hy⟩ : ∃ y, xs[p]? = some y := ⟨_, List.getElem?_eq_getElem hpl⟩
      have hpm' : y ∈ xs := List.mem_of_getElem? hy
      have HPZ := Lib.hid (HXZ.out _ hpm')
      have HPT := Lib.hid hy
      obtain ⟨ax, rfl, hct⟩ := texts_at (HR5.out wr hbw) p hpl
      rw [(List.getElem?_eq_some_iff.1 hy).2] at hct
      have HBI2 := Lib.hid (HBI.out y hpm')
      have hbk := World.block_lt_of_cell? wr _ hct
      have hcall := HGC.out.is_ wr y a (HB25.out.trans (hbw.mono HB25.out.size)) HPZ.out HA.out
      rw [HBI2.out.1] at hcall
      have HCI := Lib.hid hcall
      have HBK := Lib.hid hbk
      have HCT := Lib.hid hct
      obtain ⟨wo, hwo⟩ : ∃ wo, wo = wr := ⟨_, rfl⟩
      subst hwo
      clear hpm' hy hpl hcall hbw hbk
      go_wp2_with fail
      refine (HCI.out).mono ?_
      rintro e v6 ⟨rfl, hb6⟩
      have hb56 := HBO.out.trans (hb6.mono HBO.out.size)
      have HB56 := Lib.hid hb56
      have hct6 : v6.cell? (ax.add p) = some (.string y) := (hb6.cell HBK.out).trans HCT.out
      have hcall := HGC.out.is_ v6 y b (HB25.out.trans (hb56.mono HB25.out.size)) HPZ.out HBZ.out
      rw [HBI2.out.2] at hcall
      have HCJ := Lib.hid hcall
      clear hb6 hb56 hcall hct
      go_wp2_with fail
      refine (HCJ.out).mono ?_
      rintro e v7 ⟨rfl, hb7⟩
      have HB57 := Lib.hid (HB56.out.trans (hb7.mono HB56.out.size))
      clear hb7 hct6
      go_wp2_with fail
      go_loopw [13] (fun k wr => ∃ j : Nat, j ≤ m ∧ k = .int .i64 j ∧ Below v5.heap.size v5 wr) (fun k _ => m - (intOf k).toNat)
      case atStart => exact ⟨0, Nat.zero_le _, rfl, HB57.out⟩
      case round =>
        obtain ⟨j, hj, rfl, hbw⟩ := hrel
        have HBI := Lib.hid hbw
        have y0 : (0 : Int) ≤ (j : Int) := by omega
        by_cases hjm : j < m
        · have y1 : (j : Int) < (m : Int) := by omega
          have hjl : j < xs.length := by rw [HM.out]; exact hjm
          have hpl : p < xs.length := by rw [HM.out]; exact hpm
          obtain ⟨at_, he, hct⟩ := texts_at (HR5.out wr hbw) j hjl
          injection he with he
          subst he
          obtain ⟨at2, he2, hct2⟩ := texts_at (HR5.out wr hbw) p hpl
          injection he2 with he2
          subst he2
          rw [(List.getElem?_eq_some_iff.1 HPT.out).2] at hct2
          have hyz := HXZ.out xs[j] (List.getElem_mem hjl)
          have hjt : xs[j]? = some xs[j] := List.getElem?_eq_getElem hjl
          generalize xs[j] = z at *
          have q1 : wr.cell? (ax.add p) = some (.string y) := hct2
          have q0 : wr.cell? (ax.add j) = some (.string z) := hct
          have hbk2 := World.block_lt_of_cell? wr _ hct
          have hbk1 := World.block_lt_of_cell? wr _ hct2
          have HBK2 := Lib.hid hbk2
          have HBK1 := Lib.hid hbk1
          by_cases hpj : p = j
          · subst hpj
            have t0 : ((p : Int) != (p : Int)) = false := bne_self_eq_false _
            clear hct hct2 hbw hjl hyz hbk2 hbk1 hjt hpl q0
            go_wp2_with fail
            go_quiet (fail)
            go_wp2_with fail
            go_roundw
            case rel => exact ⟨p + 1, by omega, by go_num, below_drewN HBI.out _⟩
            case measure => simp [intOf]; omega
          · have t0 : ((p : Int) != (j : Int)) = true := by rw [bne_iff_ne]; omega
            have hf := HBA.out p j y z HPT.out hjt hpj
            have hcall := HGC.out.is_ wr.drew y z ((HB25.out.trans (hbw.mono HB25.out.size)).drew) HPZ.out hyz
            rw [hf] at hcall
            have HC := Lib.hid hcall
            clear hct hct2 hbw hjl hyz hbk2 hbk1 hjt hpl hf hcall
            go_wp2_with fail
            go_region_held3 (fun W => W.cell? (ax.add j) = some (.string z) ∧ W.cell? (ax.add p) = some (.string y)) (first | exact q2 | exact ⟨q0, q1⟩) (first
              | (go_at_call 31; refine (HC.out).mono ?_; rintro e w5 ⟨rfl, hb5⟩; have HB5 := Lib.hid (HBI.out.drew.trans (hb5.mono HBI.out.size)); have q2 : w5.cell? (ax.add j) = some (.string z) ∧ w5.cell? (ax.add p) = some (.string y) := ⟨(hb5.cell (p := ax.add j) HBK2.out).trans q0, (hb5.cell (p := ax.add p) HBK1.out).trans q1⟩; clear hb5))
            go_wp2_with fail
            go_roundw
            case rel => exact ⟨j + 1, by omega, by go_num, HB5.out⟩
            case measure => simp [intOf]; omega
        · obtain rfl : j = m := by omega
          clear hbw
          go_wp2_with fail
          go_roundw
          case rel => exact ⟨p + 1, by omega, by go_num, HBI.out⟩
          case measure => simp [intOf]; omega
    · obtain rfl : p = m := by omega
      have hcanc := HGC.out.anc1 wr a (HB25.out.trans (hbw.mono HB25.out.size)) HA.out
      rw [HIA.out] at hcanc
      have HCANC := Lib.hid hcanc
      obtain ⟨vq, hvq⟩ : ∃ vq, vq = wr := ⟨_, rfl⟩
      subst hvq
      clear hcanc hbw hpm x0 hp
      go_wp2_with fail
      refine (HCANC.out).mono ?_
      rintro e v8 ⟨hb8, ⟨_, vu, rfl, hou⟩ | ⟨hx, _⟩⟩
      case inr => cases hx
      have hb58 : Below v5.heap.size v5 v8 := HBO.out.trans (hb8.mono HBO.out.size)
      have HB58 := Lib.hid hb58
      have HB28 := Lib.hid (HB25.out.trans (hb58.mono HB25.out.size))
      have HB8 := Lib.hid (HB5.out.trans (hb58.mono HB5.out.size))
      have hsu := hou.slv
      obtain ⟨us, hus⟩ : ∃ us, ancT G [a] = us := ⟨_, rfl⟩
      have HUZ : Hid (∀ s ∈ us, s.size ≤ 1000000) := fun s hs => ancT_sz (xs := [a]) HGC.out.w (by rw [hus]; exact hs)
      have hn40 : us.length ≤ 40 := by have := ancT_len (G := G) (xs := [a]); rw [hus] at this; have := HG40.out; omega
      rw [hus] at hsu HOV
      obtain ⟨Au, cu, hvu, hnu, hcu, hRu⟩ := hsu.len
      rw [List.length_map] at hvu hnu hRu
      obtain ⟨n, hn⟩ : ∃ n, us.length = n := ⟨_, rfl⟩
      rw [hn] at hvu hnu hn40
      subst hvu
      have HN := Lib.hid hn
      have HRU := Lib.hid hRu
      unfold maxLen at hcu
      clear hb8 hou hb58 hsu hus hn hRu
      go_wp2_with fail
      go_loopw [16, 17, 18] (fun i _ _ wr => ∃ k : Nat, k ≤ n ∧ i = .int .i64 k ∧ Below v8.heap.size v8 wr) (fun i _ _ _ => n - (intOf i).toNat)
      case atStart => exact ⟨0, Nat.zero_le _, rfl, Below.refl _ _⟩
      case round =>
        obtain ⟨i, hi, rfl, hbw⟩ := hrel
        have HBW := Lib.hid hbw
        have z0 : (0 : Int) ≤ (i : Int) := by omega
        by_cases hlt : i < n
        · have z1 : (i : Int) < (n : Int) := by omega
          have hil : i < us.length := by rw [HN.out]; exact hlt
          obtain ⟨ad, rfl, hcell⟩ := texts_at ((HRU.out.below hbw).more hbw.size) i hil
          have hxm : us[i] ∈ us := List.getElem_mem hil
          have hxz := HUZ.out _ hxm
          have HANY := Lib.hid (HOV.out _ hxm)
          have hbk := World.block_lt_of_cell? wr _ hcell
          generalize us[i] = u at *
          have HXC : Hid (∀ W : World, Below wr.heap.size wr W → W.cell? (ad.add i) = some (.string u)) := fun W hW => (hW.cell hbk).trans hcell
          have HUU := Lib.hid hxz
          have hcall := HGC.out.is_ wr u b (HB28.out.trans (hbw.mono HB28.out.size)) hxz HBZ.out
          have HCU := Lib.hid hcall
          obtain ⟨wo, hwo⟩ : ∃ wo, wo = wr := ⟨_, rfl⟩
          subst hwo
          clear hil hxm hxz hbk hcall hbw
          go_wp2_with fail
          refine (HCU.out).mono ?_
          rintro e v9 ⟨rfl, hb9⟩
          have HBo9 := Lib.hid hb9
          have HB89 := Lib.hid (HBW.out.trans (hb9.mono HBW.out.size))
          clear hb9 hcell
          obtain ⟨b0, hb0⟩ : ∃ b0, isG G u b = b0 := ⟨_, rfl⟩
          rw [hb0] at HANY ⊢
          clear hb0
          go_wp2_with fail
          go_loopw [17, 18] (fun t k wr => ∃ j : Nat, j ≤ p ∧ k = .int .i64 j ∧ t = .bool ((!b0) || (xs.take j).any (isG G u)) ∧ Below v9.heap.size v9 wr) (fun _ k _ => p - (intOf k).toNat)
          case atStart => exact ⟨0, Nat.zero_le _, rfl, (by rw [show (xs.take 0).any (isG G u) = false from rfl, Bool.or_false]), Below.refl _ _⟩
          case round =>
            obtain ⟨j, hj, rfl, rfl, hbw⟩ := hrel
            have HBI := Lib.hid hbw
            have y0 : (0 : Int) ≤ (j : Int) := by omega
            obtain ⟨t, ht⟩ : ∃ t, ((!b0) || (xs.take j).any (isG G u)) = t := ⟨_, rfl⟩
            rw [ht]
            have hb5w : Below v5.heap.size v5 wr := HB58.out.trans ((HB89.out.trans (hbw.mono HB89.out.size)).mono HB58.out.size)
            by_cases hjm : j < p
            · have y1 : (j : Int) < (p : Int) := by omega
              have hjl : j < xs.length := by rw [HM.out]; exact hjm
              have hsucc : ((!b0) || (xs.take (j + 1)).any (isG G u)) = (t || isG G u xs[j]) := by rw [any_take (isG G u) xs j hjl, ← Bool.or_assoc, ht]
              obtain ⟨ax, rfl, hct⟩ := texts_at (HR5.out wr hb5w) j hjl
              have hyz2 : xs[j].size ≤ 1000000 := HXZ.out xs[j] (List.getElem_mem hjl)
              generalize xs[j] = z at *
              have HSU := Lib.hid hsucc
              cases t with
              | true =>
                clear ht hsucc hct hbw hjl hyz2 hb5w
                go_wp2_with fail
                go_quiet (fail)
                go_wp2_with fail
                go_roundw
                case rel => exact ⟨j + 1, by omega, by go_num, by rw [HSU.out]; rfl, below_drewN HBI.out _⟩
                case measure => simp [intOf]; omega
              | false =>
                have hbo : Below wo.heap.size wo wr := HBo9.out.trans (hbw.mono HBo9.out.size)
                have q0 : wr.cell? (ad.add i) = some (.string u) := HXC.out wr hbo
                have q1 : wr.cell? (ax.add j) = some (.string z) := hct
                have HC := Lib.hid (HGC.out.is_ wr.drew u z ((HB28.out.trans ((HB89.out.trans (hbw.mono HB89.out.size)).mono HB28.out.size)).drew) HUU.out hyz2)
                have HBK1 := Lib.hid (World.block_lt_of_cell? wr _ q0)
                have HBK2 := Lib.hid (World.block_lt_of_cell? wr _ hct)
                clear ht hsucc hct hbw hjl hyz2 hb5w hbo
                go_wp2_with fail
                go_region_held3 (fun W => W.cell? (ad.add i) = some (.string u) ∧ W.cell? (ax.add j) = some (.string z)) (first | exact q2 | exact ⟨q0, q1⟩) (first
                  | (go_at_call 31; refine (HC.out).mono ?_; rintro e w5 ⟨rfl, hb5⟩; have HBq := Lib.hid (HBI.out.drew.trans (hb5.mono HBI.out.size)); have q2 : w5.cell? (ad.add i) = some (.string u) ∧ w5.cell? (ax.add j) = some (.string z) := ⟨(hb5.cell (p := ad.add i) HBK1.out).trans q0, (hb5.cell (p := ax.add j) HBK2.out).trans q1⟩; clear hb5))
                go_wp2_with fail
                go_roundw
                case rel => exact ⟨j + 1, by omega, by go_num, by rw [HSU.out]; rfl, HBq.out⟩
                case measure => simp [intOf]; omega
            · obtain rfl : j = p := by omega
              have e1 : t = true := by
                rw [← ht, List.take_of_length_le (by rw [HM.out]; omega)]
                exact HANY.out
              subst e1
              clear ht hbw hb5w
              go_wp2_with fail
              go_roundw
              case rel => exact ⟨i + 1, by omega, by go_num, HB89.out.trans (HBI.out.mono HB89.out.size)⟩
              case measure => simp [intOf]; omega
        · obtain rfl : i = n := by omega
          have HBf := Lib.hid (HB8.out.trans (hbw.mono HB8.out.size))
          have HB2f := Lib.hid (HB28.out.trans (hbw.mono HB28.out.size))
          have HB5f := Lib.hid (HB58.out.trans (hbw.mono HB58.out.size))
          clear hlt z0 hi hbw
          go_wp2_with fail
          refine (gfirst_any wr).mono ?_
          rintro e v10 ⟨rfl, hb10⟩
          have hb2t := HB2f.out.trans (hb10.mono HB2f.out.size)
          have HCF := Lib.hid (HGC.out.is_ v10 a b hb2t HA.out HBZ.out)
          have HB10 := Lib.hid (HBf.out.trans (hb10.mono HBf.out.size))
          have HB510 := Lib.hid (HB5f.out.trans (hb10.mono HB5f.out.size))
          clear hb10 hb2t
          cases hab : isG G a b with
          | false =>
            rw [hab] at HCF
            clear hab
            go_wp2_with fail
            refine (HCF.out).mono ?_
            rintro e v11 ⟨rfl, hb11⟩
            have HB11 := Lib.hid (HB10.out.trans (hb11.mono HB10.out.size))
            clear hb11
            go_wp2_with fail
            go_ret
            exact ⟨rfl, HB11.out⟩
          | true =>
            have hxa := HOWN.out hab
            rw [hab] at HCF
            clear hab
            go_wp2_with fail
            refine (HCF.out).mono ?_
            rintro e v11 ⟨rfl, hb11⟩
            have hb511 := HB510.out.trans (hb11.mono HB510.out.size)
            have hsx : SlV (v11.alloc (.cells #[.string a] 9)) (.slice Ax p cx) ([a].map sv) := by
              have := (HSX.out.below HB45.out).below (hb511.alloc hb511.size (.cells #[.string a] 9))
              rwa [hxa] at this
            have HS := Lib.hid (texts_same _ _ [a] _ hsx (one_text v11 a))
            have HB11 := Lib.hid (HB10.out.trans (hb11.mono HB10.out.size))
            clear hb11 hb511 hsx hxa
            go_wp2_with fail
            refine (HS.out).mono ?_
            rintro e v12 ⟨rfl, hb12⟩
            have HB12 := Lib.hid ((HB11.out.alloc HB11.out.size _).trans (hb12.mono (Nat.le_trans HB11.out.size (by simp))))
            clear hb12
            go_wp2_with fail
            go_ret
            exact ⟨rfl, HB12.out⟩
end Go.Proofs.Ytcjhkfklkcmehaa.Tx
