/- A Hasher, used: Write, Sum; sha.Sum. -/
import Derived.Test.YtcbiajajoojgmaaShW10
namespace Go.Proofs.Ytcbiajajoojgmaa.Sh
open Go.RowKit

theorem write_any (b : Nat) (all bs : List UInt8) (A : Option Addr) (cap : Nat) (w : World) (h : HH w b all) (hs : Src w b A bs) (hlc : bs.length ≤ cap) (hcm : cap ≤ maxLen) (hn : all.length + bs.length < 2 ^ 60) :
    Calls Try.prog 67 #[.pointer (some ⟨b, 0, none⟩), .slice A bs.length cap] w fun e w' => e = .returned (.tuple #[]) ∧ HH w' b (all ++ bs) ∧ w.grownBy w' (some b) := by
  by_cases h0 : all.length % 64 = 0
  · exact write_zero b all bs A cap w h hs hlc hcm hn h0
  · by_cases h1 : all.length % 64 + bs.length < 64
    · exact write_few b all bs A cap w h hs hlc hcm hn (by omega) h1
    · exact write_fill b all bs A cap w h hs hlc hcm hn (by omega) (by omega)

/-- The Hasher's Sum. -/
def HSum (b : Nat) (all : List UInt8) (w : World) (e : Ending) (w' : World) : Prop :=
  ∃ v, e = .returned v ∧ Own w' w.heap.size v (sumOf all) ∧ HH w' b all ∧ w.grownBy w' (some b)
theorem hsum_any (b : Nat) (all : List UInt8) (w : World) (h : HH w b all) (hn : all.length < 2 ^ 60) : Calls Try.prog 68 #[.pointer (some ⟨b, 0, none⟩)] w (HSum b all w) := by
  obtain ⟨s, rest, d, ad, hB, hm, hst, hta⟩ := h
  refine (sum_any b s rest all.length d ad w hB hm hn).mono ?_
  rintro e w' ⟨v, he, ho, hB', hg⟩
  refine ⟨v, he, ?_, ⟨s, rest, 1, kv, hB', .inr ⟨rfl, rfl⟩, hst, hta⟩, hg⟩
  rw [sumOf_eq, ← hst, ← hta]
  exact ho
theorem new_hh {w : World} {e : Ending} {w' : World} (h : NewPost w e w') : ∃ b, e = .returned (.pointer (some ⟨b, 0, none⟩)) ∧ HH w' b [] ∧ w.heap.size ≤ b ∧ Below w.heap.size w w' := by
  obtain ⟨b, ad, he, hB, hb, hw⟩ := h
  refine ⟨b, he, ⟨St.first, _, 0, ad, hB, .inl rfl, ?_, ?_⟩, hb, hw⟩
  · rw [full_eq]; exact (blocks_zero _ _).symm
  · rfl

/-- The bytes bs, read by a slice. -/
def In (w : World) (A : Option Addr) (bs : List UInt8) : Prop :=
  0 < bs.length → ∃ ad, A = some ad ∧ ad.block < w.heap.size ∧ ∀ j, j < bs.length → w.cell? (ad.add j) = some (.int .u8 (bi (bs.getD j 0)))
theorem In.nil (w : World) (A : Option Addr) : In w A [] := fun h => absurd h (by simp)
theorem In.below {w w' : World} {A : Option Addr} {bs : List UInt8} (h : In w A bs) (hb : Below w.heap.size w w') : In w' A bs := by
  intro h0
  obtain ⟨ad, hA, hlt, hc⟩ := h h0
  exact ⟨ad, hA, Nat.lt_of_lt_of_le hlt hb.size, fun j hj => (hb.cell (p := ad.add j) (by rw [block_of_add]; exact hlt)).trans (hc j hj)⟩
theorem In.src {w w' : World} {A : Option Addr} {bs : List UInt8} (h : In w A bs) (hb : Below w.heap.size w w') {b : Nat} (hbb : w.heap.size ≤ b) : Src w' b A bs := by
  intro h0
  obtain ⟨ad, hA, hlt, hc⟩ := h h0
  exact ⟨ad, hA, by omega, Nat.lt_of_lt_of_le hlt hb.size, fun j hj => (hb.cell (p := ad.add j) (by rw [block_of_add]; exact hlt)).trans (hc j hj)⟩
theorem Own.in_ {w : World} {B : Nat} {v : Value} {bs : List UInt8} (h : Own w B v bs) : ∃ A c, v = .slice A bs.length c ∧ bs.length ≤ c ∧ c ≤ maxLen ∧ In w A bs ∧ (0 < bs.length → ∃ g, A = some ⟨g, 0, none⟩ ∧ B ≤ g ∧ g < w.heap.size) := by
  rcases h.2 with ⟨rfl, h0⟩ | ⟨g, cap, cur, rfl, hb, hg, hc, hm, hcs, htk⟩
  · exact ⟨none, 0, by rw [h0], by omega, by unfold maxLen; omega, fun h1 => by omega, fun h1 => by omega⟩
  · have hlt : g < w.heap.size := (Array.getElem?_eq_some_iff.1 hg).1
    refine ⟨some ⟨g, 0, none⟩, cap, rfl, hc, hm, fun _ => ⟨_, rfl, hlt, fun j hj => ?_⟩, fun _ => ⟨g, rfl, hb, hlt⟩⟩
    rw [Addr.add_mid, cell_of_row _ _ _ _ _ _ hg, Nat.zero_add]
    have : (cur.toList.take (bs.length * 1))[j]? = (bs.map bv)[j]? := by rw [htk]
    rw [List.getElem?_take, if_pos (by omega), List.getElem?_map, List.getElem?_eq_getElem hj] at this
    rw [List.getD_eq_getElem?_getD, List.getElem?_eq_getElem hj]
    simpa [bv] using this

def OwnPost (w : World) (bs : List UInt8) (e : Ending) (w' : World) : Prop := ∃ v, e = .returned v ∧ Own w' w.heap.size v bs ∧ Below w.heap.size w w'

set_option maxRecDepth 100000 in
set_option maxHeartbeats 800000 in
/-- sha.Sum -/
theorem ssum_any (A : Option Addr) (bs : List UInt8) (cap : Nat) (w : World) (h : In w A bs) (hlc : bs.length ≤ cap) (hcm : cap ≤ maxLen) (hn : bs.length < 2 ^ 60) :
    Calls Try.prog 49 #[.slice A bs.length cap] w (OwnPost w (sumOf bs)) := by
  have HI := Lib.hid h
  obtain ⟨l, hl⟩ : ∃ l, bs.length = l := ⟨_, rfl⟩
  have HL := Lib.hid hl
  rw [hl]
  clear h hl
  go_enter Try.func49, Try.ntmps49
  go_wp2_with fail
  refine (new_any _).mono ?_
  intro e w1 hnew
  obtain ⟨b, rfl, hH, hb, hw1⟩ := new_hh hnew
  clear hnew
  have HH1 := Lib.hid hH
  have HW1 := Lib.hid hw1
  clear hH hw1
  go_wp2_with fail
  have hw := write_any b [] bs A cap w1 HH1.out (HI.out.src HW1.out hb) hlc hcm (by simpa using hn)
  rw [HL.out] at hw
  refine hw.mono ?_
  rintro e w2 ⟨rfl, hH2, hg2⟩
  clear hw
  rw [List.nil_append] at hH2
  have HH2 := Lib.hid hH2
  have HG2 := Lib.hid hg2
  clear hH2 hg2
  go_wp2_with fail
  refine (hsum_any b bs _ HH2.out hn).mono ?_
  rintro e w3 ⟨v, rfl, ho, hH3, hg3⟩
  have hz := HG2.out.size
  have hz1 := HW1.out.size
  have HO := Lib.hid (ho.base (show w.heap.size ≤ w2.heap.size by omega))
  have HF := Lib.hid (HW1.out.trans (below_of_only (only_then HG2.out hg3) hb hz1))
  clear ho hH3 hg3
  go_wp2_with fail
  go_ret
  exact ⟨v, rfl, HO.out, HF.out⟩
end Go.Proofs.Ytcbiajajoojgmaa.Sh
