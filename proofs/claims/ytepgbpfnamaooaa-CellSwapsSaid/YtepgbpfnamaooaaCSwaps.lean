/- The walk of CellSwaps. -/
import Derived.Test.YtepgbpfnamaooaaCCounts
import Derived.Deep.RegionHeld3
namespace Go.Proofs.Ytepgbpfnamaooaa.Ce
open Go.RowKit Go.Proofs.Ytepgbpfnamaooaa.Sh Go.ChangeShapes Go.WideShapes

/-- A slice of Puts that came in. -/
def IsPuts (w : World) (a : Option Addr) (len cap : Nat) : Prop :=
  (a = none ∧ len = 0 ∧ cap = 0) ∨
  ∃ x, a = some x ∧ len ≤ cap ∧ cap ≤ maxLen ∧ ∀ i, i < len → ∃ (q : Bool) (s t : ByteArray), w.cell? (x.add (i * 3)) = some (.bool q) ∧ w.cell? (x.add (i * 3 + 1)) = some (.string s) ∧ w.cell? (x.add (i * 3 + 2)) = some (.string t) ∧ s.size ≤ maxLen ∧ t.size ≤ maxLen
theorem isPuts_of {H : Type} {enc : TypeId × Value → H} {w : World} {base : Nat} {spare : Nat → Bool} {held : Bool} {fuel : Nat} {a : Option Addr} {len cap : Nat} {x : Go.DataW H × List MemPlace}
    (h : DataW.trod enc Try.prog w base spare held fuel 41 [.slice a len cap] = some x) : IsPuts w a len cap := by
  rcases structs_in Try.underlying41 Try.underlying43 (by kernel_rfl) (by kernel_rfl) h with h0 | ⟨ad, rfl, hl, hm, hi⟩
  · exact .inl h0
  · refine .inr ⟨ad, rfl, hl, hm, fun i hil => ?_⟩
    obtain ⟨v0, n0, y0, c0, t0⟩ := hi i hil 0 _ rfl
    obtain ⟨v1, n1, y1, c1, t1⟩ := hi i hil 1 _ rfl
    obtain ⟨v2, n2, y2, c2, t2⟩ := hi i hil 2 _ rfl
    obtain ⟨q, e0, _⟩ := DataW.trod_bool Try.underlying4 t0
    obtain ⟨s, e1, _, z1⟩ := DataW.trod_string Try.underlying9 t1
    obtain ⟨t, e2, _, z2⟩ := DataW.trod_string Try.underlying9 t2
    simp at e0 e1 e2
    subst e0
    subst e1
    subst e2
    exact ⟨q, s, t, c0, c1, c2, z1, z2⟩
theorem IsPuts.at_ {w w' : World} {a : Option Addr} {len cap : Nat} (h : IsPuts w a len cap) (hb : Below w.heap.size w w') {i : Nat} (hi : i < len) :
    ∃ (x : Addr) (q : Bool) (s t : ByteArray), a = some x ∧ (x.add (i * 3)).block < w.heap.size ∧ w'.cell? (x.add (i * 3)) = some (.bool q) ∧ w'.cell? ⟨(x.add (i * 3)).block, (x.add (i * 3)).off + 1, none⟩ = some (.string s) ∧
      w'.cell? ⟨(x.add (i * 3)).block, (x.add (i * 3)).off + 2, none⟩ = some (.string t) ∧ s.size ≤ maxLen ∧ t.size ≤ maxLen := by
  rcases h with ⟨_, rfl, _⟩ | ⟨x, rfl, _, _, hall⟩
  · omega
  · obtain ⟨q, s, t, c0, c1, c2, z1, z2⟩ := hall i hi
    have l0 := World.block_lt_of_cell? w _ c0
    rw [add_field _ _ 1 (by omega)] at c1
    rw [add_field _ _ 2 (by omega)] at c2
    exact ⟨x, q, s, t, rfl, l0, (hb.cell l0).trans c0, (hb.cell (p := ⟨(x.add (i * 3)).block, _, none⟩) l0).trans c1, (hb.cell (p := ⟨(x.add (i * 3)).block, _, none⟩) l0).trans c2, z1, z2⟩
theorem IsPuts.small {w : World} {a : Option Addr} {len cap : Nat} (h : IsPuts w a len cap) : len ≤ maxLen := by
  rcases h with ⟨_, rfl, _⟩ | ⟨x, _, h1, h2, _⟩
  · exact Nat.zero_le _
  · omega
theorem eswap_hit (b : Nat) (s n : ByteArray) (w : World) (h : CE w b s) : Calls Try.prog 21 #[.pointer (some ⟨b, 0, none⟩), .string s, .string n] w fun e w' => e = .returned (.bool true) ∧ CE w' b n ∧ w.grownBy w' (some b) :=
  (eswap_any b s s n w h).mono fun e w' ⟨hp, hg⟩ => by
    rcases hp with ⟨_, he, hc⟩ | ⟨hne, _⟩
    · exact ⟨he, hc, hg⟩
    · exact absurd rfl hne
theorem eswap_miss (b : Nat) (s old n : ByteArray) (w : World) (h : CE w b s) (hne : s ≠ old) : Calls Try.prog 21 #[.pointer (some ⟨b, 0, none⟩), .string old, .string n] w fun e w' => e = .returned (.bool false) ∧ CE w' b s ∧ w.grownBy w' (some b) :=
  (eswap_any b s old n w h).mono fun e w' ⟨hp, hg⟩ => by
    rcases hp with ⟨he, _⟩ | ⟨_, he, hc⟩
    · exact absurd he hne
    · exact ⟨he, hc, hg⟩

set_option maxRecDepth 100000 in
set_option maxHeartbeats 6400000 in
theorem cellSwaps_walk (s : ByteArray) (a : Option Addr) (len cap : Nat) (w : World) (_ : s.size ≤ maxLen) (h : IsPuts w a len cap) :
    Calls Try.prog 5 #[.string s, .slice a len cap] w (Yes w) := by
  have hlm := h.small
  unfold maxLen at hlm
  have l1 : (len : Int) ≤ 9223372036854775807 := by omega
  have HI := Lib.hid h
  clear h hlm
  go_enter Try.func5, Try.ntmps5
  go_wp2_with fail
  refine (first_then (Below.refl _ _)).mono ?_
  rintro e w1 ⟨rfl, hb1⟩
  have HB1 := Lib.hid hb1
  clear hb1
  go_wp2_with fail
  go_loopw [5, 6] (fun n i wr => ∃ (k : Nat) (m : Int), k ≤ len ∧ k ≤ 300 ∧ i = .int .i64 k ∧ n = .int .i64 m ∧ Below w.heap.size w wr) (fun _ i _ => len - (intOf i).toNat)
  case atStart => exact ⟨0, s.size, by omega, by omega, rfl, rfl, HB1.out⟩
  case round =>
    obtain ⟨k, m, hk, hk3, rfl, rfl, hB⟩ := hrel
    have HB := Lib.hid hB
    clear hB
    have z0 : (0 : Int) ≤ (k : Int) := by omega
    by_cases hlt : k < len
    · have z1 : (k : Int) < (len : Int) := by omega
      by_cases h300 : k < 300
      · have z2 : (k : Int) < 300 := by omega
        obtain ⟨ad, q, x, y, rfl, _, hq, hx, hy, bx, by'⟩ := HI.out.at_ HB.out hlt
        unfold maxLen at bx by'
        have x0 : (0 : Int) ≤ (x.size : Int) := by omega
        have y0 : (0 : Int) ≤ (y.size : Int) := by omega
        have x1 : (x.size : Int) ≤ 9223372036854775807 := by omega
        have y1 : (y.size : Int) ≤ 9223372036854775807 := by omega
        clear hq bx by'
        by_cases hx6 : (x.size : Int) ≤ 6000
        all_goals
          by_cases hy6 : (y.size : Int) ≤ 6000
        all_goals
          go_wp2_with fail
          go_quiet (fail)
          all_goals
            go_wp2
            go_roundw
            case rel => exact ⟨k + 1, _, by omega, by omega, by go_num, rfl, below_drewN HB.out _⟩
            case measure => simp [intOf]; omega
      · obtain rfl : k = 300 := by omega
        have z3 : (300 : Int) < (len : Int) := by omega
        rw [show ((300 : Nat) : Int) = 300 from rfl]
        go_wp2_with fail
        refine (newe_any _ _).mono ?_
        rintro e w2 ⟨c, rfl, _, _, hb2⟩
        have HB2 := Lib.hid (HB.out.trans (hb2.mono HB.out.size))
        clear hb2
        go_wp2_with fail
        refine (first_then HB2.out).mono ?_
        rintro e w3 ⟨rfl, hb3⟩
        have HB3 := Lib.hid hb3
        clear hb3
        go_wp2_with fail
        go_ret
        exact ⟨rfl, HB3.out⟩
    · obtain rfl : k = len := by omega
      have z3 : (k : Int) ≤ 300 := by omega
      go_wp2_with fail
      refine (newe_any _ _).mono ?_
      rintro e w2 ⟨c, rfl, hC, hcb, hb2⟩
      have hwc : w.heap.size ≤ c := by have := HB.out.size; omega
      have HB2 := Lib.hid (HB.out.trans (hb2.mono HB.out.size))
      have HC2 := Lib.hid hC
      clear hb2 hC hcb
      by_cases hm6 : 6000 < m
      · go_wp2_with fail
        refine (first_then HB2.out).mono ?_
        rintro e w3 ⟨rfl, hb3⟩
        have HB3 := Lib.hid hb3
        clear hb3
        go_wp2_with fail
        go_ret
        exact ⟨rfl, HB3.out⟩
      · have hm7 : m ≤ 6000 := by omega
        go_wp2_with fail
        clear HB HB1
        go_loopw [0, 8] (fun sv i wr => ∃ (j : Nat) (t : ByteArray), j ≤ k ∧ i = .int .i64 j ∧ sv = .string t ∧ CE wr c t ∧ Below w.heap.size w wr) (fun _ i _ => k - (intOf i).toNat)
        case atStart => exact ⟨0, s, by omega, rfl, rfl, HC2.out, HB2.out⟩
        case round =>
          clear HC2 HB2
          obtain ⟨j, t, hk, rfl, rfl, hC, hB⟩ := hrel
          have HB := Lib.hid hB
          have HC := Lib.hid hC
          have hBz := hB.size
          clear hB hC
          by_cases hlt : j < k
          · obtain ⟨ad, q, x, y, rfl, hl0, hq, hx, hy, _, _⟩ := HI.out.at_ HB.out hlt
            have hlw : (ad.add (j * 3)).block < wr.heap.size := by omega
            have hlc : (ad.add (j * 3)).block ≠ c := by omega
            cases q with
            | true =>
              by_cases hxt : t = x
              · subst hxt
                have e1 := bytes_same t
                go_wp2_with fail
                go_region_held3 (fun w' => w'.cell? ⟨(ad.add (j * 3)).block, (ad.add (j * 3)).off + 1, none⟩ = some (.string t) ∧ w'.cell? ⟨(ad.add (j * 3)).block, (ad.add (j * 3)).off + 2, none⟩ = some (.string y))
                  (first | exact ⟨hx, hy⟩ | exact ⟨hx4, hy4⟩)
                  (first | (go_at_call 21; refine (eswap_hit c t y _ (by exact HC.out)).mono ?_; rintro e w4 ⟨rfl, hc4, hg4⟩; have hx4 := (only_cell hg4 (p := ⟨(ad.add (j * 3)).block, (ad.add (j * 3)).off + 1, none⟩) (by exact hlw) (by exact hlc)).trans hx; have hy4 := (only_cell hg4 (p := ⟨(ad.add (j * 3)).block, (ad.add (j * 3)).off + 2, none⟩) (by exact hlw) (by exact hlc)).trans hy; have HC4 := Lib.hid hc4; have HG4 := Lib.hid hg4; clear hc4))
                clear hg4
                go_wp2_with fail
                refine (eget_any c y _ HC4.out).mono ?_
                rintro e w5 ⟨rfl, rfl⟩
                have e2 := bytes_same y
                go_wp2
                go_roundw
                case rel => exact ⟨j + 1, y, by omega, by go_num, rfl, HC4.out, HB.out.drew.trans (below_of_only HG4.out hwc hBz)⟩
                case measure => simp [intOf]; omega
              · obtain ⟨e1, e1'⟩ := bytes_other hxt
                go_wp2_with fail
                go_region_held3 (fun w' => w'.cell? ⟨(ad.add (j * 3)).block, (ad.add (j * 3)).off + 1, none⟩ = some (.string x) ∧ w'.cell? ⟨(ad.add (j * 3)).block, (ad.add (j * 3)).off + 2, none⟩ = some (.string y))
                  (first | exact ⟨hx, hy⟩ | exact ⟨hx4, hy4⟩)
                  (first | (go_at_call 21; refine (eswap_miss c t x y _ (by exact HC.out) hxt).mono ?_; rintro e w4 ⟨rfl, hc4, hg4⟩; have hx4 := (only_cell hg4 (p := ⟨(ad.add (j * 3)).block, (ad.add (j * 3)).off + 1, none⟩) (by exact hlw) (by exact hlc)).trans hx; have hy4 := (only_cell hg4 (p := ⟨(ad.add (j * 3)).block, (ad.add (j * 3)).off + 2, none⟩) (by exact hlw) (by exact hlc)).trans hy; have HC4 := Lib.hid hc4; have HG4 := Lib.hid hg4; clear hc4))
                clear hg4
                go_wp2_with fail
                refine (eget_any c t _ HC4.out).mono ?_
                rintro e w5 ⟨rfl, rfl⟩
                have e2 := bytes_same t
                go_wp2
                go_roundw
                case rel => exact ⟨j + 1, t, by omega, by go_num, rfl, HC4.out, HB.out.drew.trans (below_of_only HG4.out hwc hBz)⟩
                case measure => simp [intOf]; omega
            | false =>
              go_wp2_with fail
              refine (eset_any c t y _ HC.out).mono ?_
              rintro e w4 ⟨rfl, hc4, hg4⟩
              have hy4 := (only_cell hg4 (p := ⟨(ad.add (j * 3)).block, (ad.add (j * 3)).off + 2, none⟩) (by exact hlw) (by exact hlc)).trans hy
              have HC4 := Lib.hid hc4
              have HG4 := Lib.hid hg4
              have e1 := bytes_same t
              clear hc4 hg4
              go_wp2_with fail
              refine (eget_any c y _ HC4.out).mono ?_
              rintro e w5 ⟨rfl, rfl⟩
              have e2 := bytes_same y
              go_wp2
              go_roundw
              case rel => exact ⟨j + 1, y, by omega, by go_num, rfl, HC4.out, HB.out.trans (below_of_only HG4.out hwc hBz)⟩
              case measure => simp [intOf]; omega
          · obtain rfl : j = k := by omega
            go_wp2_with fail
            refine (first_then HB.out).mono ?_
            rintro e w3 ⟨rfl, hb3⟩
            have HB3 := Lib.hid hb3
            clear hb3
            go_wp2_with fail
            go_ret
            exact ⟨rfl, HB3.out⟩
end Go.Proofs.Ytepgbpfnamaooaa.Ce
