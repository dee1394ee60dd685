/- What the laws of chapter 3 share: their examples. -/
import Derived.Test.YtepgbpfnamaooaaCe1
import Derived.Test.YtepgbpfnamaooaaCe2
namespace Go.Proofs.Ytepgbpfnamaooaa.Ce
open Go.RowKit Go.Proofs.Ytepgbpfnamaooaa.Sh

theorem below_only {b : Nat} {a w w' : World} (h : Below a.heap.size a w) (hg : w.grownBy w' (some b)) (hB : a.heap.size ≤ b) : Below a.heap.size a w' := h.trans (below_of_only hg hB h.size)
theorem LZ.blk {w : World} {B b : Nat} {bs : List UInt8} {q : Bool} (h : LZ w B b bs q) : ∃ cs, Blk w b 70 cs := by
  obtain ⟨_, k, _, h2⟩ := h
  cases q <;> exact ⟨_, h2⟩
theorem CE.only {w w' : World} {c b : Nat} {s : ByteArray} {t : TypeId} {cs : Array Value} (h : CE w c s) (hb : Blk w b t cs) (h1 : 83 ≠ t) (h2 : 9 ≠ t) (hg : w.grownBy w' (some b)) : CE w' c s := by
  obtain ⟨g, e1, e2⟩ := h
  exact ⟨g, e1.grown hg (fun e => Blk.ne_ e1 hb h1 (by injection e)), e2.grown hg (fun e => Blk.ne_ e2 hb h2 (by injection e))⟩

def Yes (w : World) (e : Ending) (w' : World) : Prop := e = .returned (.bool true) ∧ Below w.heap.size w w'

set_option maxRecDepth 100000 in
set_option maxHeartbeats 1600000 in
theorem first_any (w : World) : Calls Try.prog 8 #[] w (Yes w) := by
  have kc := fun (w : World) (C : Array Value) (n c : Nat) => Lib.run_convert_bytes_const (P := Try.prog) w 22 5 C n c Try.underlying22 Try.underlying5
  have hself := bytes_same (idOf [97, 98, 99])
  have hcc := bytes_same ⟨#[99]⟩
  go_enter Try.func8, Try.ntmps8
  go_wp2_with fail
  refine (newl_any _ [97, 98, 99] _ (sl_abc w) (by simp)).mono ?_
  rintro e w1 ⟨b, rfl, hL1, hb1⟩
  have hB1 := ((Below.refl w.heap.size w).alloc (Nat.le_refl _) (.cells #[.int .u8 97, .int .u8 98, .int .u8 99] 5 (3, 4))).trans (hb1.mono (by simp))
  have hwb : w.heap.size ≤ b := by have := hL1.1; simp at this; omega
  have HL1 := Lib.hid hL1
  have HB1 := Lib.hid hB1
  clear hL1 hB1 hb1 kc
  go_wp2_with fail
  refine (newe_any _ _).mono ?_
  rintro e w2 ⟨c, rfl, hC2, hc2, hb2⟩
  have hz1 := HB1.out.size
  have hwc : w.heap.size ≤ c := by omega
  have HL2 := Lib.hid (HL1.out.below hb2)
  have HB2 := Lib.hid (HB1.out.trans (hb2.mono hz1))
  have HC2 := Lib.hid hC2
  clear hC2 hb2 hc2 hz1 HL1 HB1
  go_wp2_with fail
  refine (ltimes_any _ b _ false _ HL2.out).mono ?_
  rintro e w2' ⟨rfl, rfl⟩
  rw [show LTimes false = 0 from rfl]
  go_wp2_with fail
  refine (lid_any _ b _ false _ HL2.out (by simp)).mono ?_
  rintro e w3 ⟨rfl, hL3, hg3⟩
  obtain ⟨cs2, hcs2⟩ := HL2.out.blk
  have HC3 := Lib.hid (HC2.out.only hcs2 (by decide) (by decide) hg3)
  have HB3 := Lib.hid (below_only HB2.out hg3 hwb)
  have HL3 := Lib.hid hL3
  clear hL3 hg3 hcs2 HL2 HC2 HB2
  go_wp2_with fail
  refine (lid_any _ b _ true _ HL3.out (by simp)).mono ?_
  rintro e w4 ⟨rfl, hL4, hg4⟩
  obtain ⟨cs3, hcs3⟩ := HL3.out.blk
  have HC4 := Lib.hid (HC3.out.only hcs3 (by decide) (by decide) hg4)
  have HB4 := Lib.hid (below_only HB3.out hg4 hwb)
  have HL4 := Lib.hid hL4
  clear hL4 hg4 hcs3 HL3 HC3 HB3
  generalize idOf [97, 98, 99] = t at *
  go_wp2_with fail
  refine (ltimes_any _ b _ true _ HL4.out).mono ?_
  rintro e w4' ⟨rfl, rfl⟩
  rw [show LTimes true = 1 from rfl]
  go_wp2_with fail
  refine (eswap_any c _ _ _ _ HC4.out).mono ?_
  rintro e w5 ⟨⟨he, _⟩ | ⟨_, rfl, hC5⟩, hg5⟩
  · exact absurd he (by decide)
  have HC5 := Lib.hid hC5
  have HB5 := Lib.hid (below_only HB4.out hg5 hwc)
  clear hC5 hg5 HC4 HB4
  go_wp2_with fail
  refine (eswap_any c _ _ _ _ HC5.out).mono ?_
  rintro e w6 ⟨h6 | ⟨he, _⟩, hg6⟩
  rotate_left
  · exact absurd rfl he
  obtain ⟨_, rfl, hC6⟩ := h6
  have HC6 := Lib.hid hC6
  have HB6 := Lib.hid (below_only HB5.out hg6 hwc)
  clear hC6 hg6 HC5 HB5
  go_wp2_with fail
  refine (eget_any c _ _ HC6.out).mono ?_
  rintro e w7 ⟨rfl, rfl⟩
  go_wp2_with fail
  go_ret
  exact ⟨rfl, HB6.out⟩
end Go.Proofs.Ytepgbpfnamaooaa.Ce
