/- The reference's takes. -/
import Derived.Test.YtpbmdeohccdiaaaTn4

namespace Go.Proofs.Ytpbmdeohccdiaaa.Tx
open Go.RowKit Go.Proofs.Ytpbmdeohccdiaaa.Sh

/-- Does a pattern take a name? -/
def takesB (fr : List UInt8) (star : Bool) (bk s : List UInt8) : Bool := if star = true then decide (fr.length + bk.length ≤ s.length) && (s.take fr.length == fr) && (s.drop (s.length - bk.length) == bk) else s == fr
theorem same_texts (a b : List UInt8) : ((str a).toList == (str b).toList) = (a == b) := by rw [str_toList, str_toList]

set_option maxRecDepth 100000 in
set_option maxHeartbeats 1600000 in
theorem rtakes_any (fr bk cs : List UInt8) (star : Bool) (w : World) (h1 : fr.length ≤ 1000000) (h2 : bk.length ≤ 1000000) (h3 : cs.length ≤ 1000000) :
    Calls Try.prog 38 #[.string (str fr), .bool star, .string (str bk), .string (str cs)] w fun e w' => e = .returned (.bool (takesB fr star bk cs)) ∧ w = w' := by
  cases star with
  | false =>
    obtain ⟨t, ht⟩ : ∃ t, (cs == fr) = t := ⟨_, rfl⟩
    have HR : Hid (takesB fr false bk cs = t) := by unfold Hid takesB; rw [if_neg (by decide)]; exact ht
    have e1 : ((str cs).toList == (str fr).toList) = t := by rw [same_texts, ht]
    clear ht
    go_enter Try.func38, Try.ntmps38
    go_wp2
    go_ret
    exact ⟨by rw [HR.out]; rfl, rfl⟩
  | true =>
    have hz1 := str_size fr
    have hz2 := str_size bk
    have hz3 := str_size cs
    have HU : Hid (takesB fr true bk cs = (decide (fr.length + bk.length ≤ cs.length) && (cs.take fr.length == fr) && (cs.drop (cs.length - bk.length) == bk))) := by unfold Hid takesB; rw [if_pos rfl]
    have hs1 := slice_str cs 0 fr.length
    have hs2 := slice_str cs (cs.length - bk.length) cs.length
    rw [List.drop_zero] at hs1
    rw [List.take_of_length_le (Nat.le_refl _)] at hs2
    have q1 := same_texts (cs.take fr.length) fr
    have q2 := same_texts (cs.drop (cs.length - bk.length)) bk
    obtain ⟨f, hf⟩ : ∃ f, fr.length = f := ⟨_, rfl⟩
    obtain ⟨b, hb⟩ : ∃ b, bk.length = b := ⟨_, rfl⟩
    obtain ⟨l, hl⟩ : ∃ l, cs.length = l := ⟨_, rfl⟩
    rw [hf] at hz1 h1 HU hs1 q1
    rw [hb] at hz2 h2 HU hs2 q2
    rw [hl] at hz3 h3 HU hs2 q2
    clear hf hb hl
    obtain ⟨t1, ht1⟩ : ∃ t, (cs.take f == fr) = t := ⟨_, rfl⟩
    obtain ⟨t2, ht2⟩ : ∃ t, (cs.drop (l - b) == bk) = t := ⟨_, rfl⟩
    rw [ht1, ht2] at HU
    rw [ht1, ← hs1] at q1
    rw [ht2, ← hs2] at q2
    clear ht1 ht2 hs1 hs2
    have f0 : (0 : Int) ≤ (f : Int) := by omega
    have b0 : (0 : Int) ≤ (b : Int) := by omega
    have l0 : (0 : Int) ≤ (l : Int) := by omega
    have f1 : (f : Int) ≤ 1000000 := by omega
    have b1 : (b : Int) ≤ 1000000 := by omega
    have l1 : (l : Int) ≤ 1000000 := by omega
    by_cases hle : f + b ≤ l
    · have z1 : (f : Int) + (b : Int) ≤ (l : Int) := by omega
      have z2 : (f : Int) ≤ (l : Int) := by omega
      have z3 : (b : Int) ≤ (l : Int) := by omega
      obtain ⟨d, hd⟩ : ∃ d, l - b = d := ⟨_, rfl⟩
      have hdi : (l : Int) - (b : Int) = (d : Int) := by omega
      have d0 : (0 : Int) ≤ (d : Int) := by omega
      have d1 : (d : Int) ≤ (l : Int) := by omega
      rw [hd] at q2
      have HU2 : Hid (takesB fr true bk cs = (t1 && t2)) := by unfold Hid; rw [HU.out]; simp [hle]
      clear hd
      cases t1
      all_goals
        go_enter Try.func38, Try.ntmps38
        go_wp2
        go_ret
        exact ⟨by rw [HU2.out]; rfl, rfl⟩
    · have z1 : (l : Int) < (f : Int) + (b : Int) := by omega
      have HU2 : Hid (takesB fr true bk cs = false) := by unfold Hid; rw [HU.out]; simp [hle]
      clear q1 q2
      go_enter Try.func38, Try.ntmps38
      go_wp2
      go_ret
      exact ⟨by rw [HU2.out]; rfl, rfl⟩
end Go.Proofs.Ytpbmdeohccdiaaa.Tx
