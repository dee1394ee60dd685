/- Package names: Copy. -/
import Derived.Test.YtcmlofgkcalhnaaNc2
import Derived.Test.YtcmlofgkcalhnaaRep
namespace Go.Proofs.Ytcmlofgkcalhnaa.Tx
open Go.RowKit Go.Proofs.Ytcmlofgkcalhnaa.Sh

def TextPost (w : World) (s : List UInt8) (e : Ending) (w' : World) : Prop := e = .returned (.string (str s)) ∧ Below w.heap.size w w'
theorem below_of_drew {w w' : World} (h : Below w.drew.heap.size w.drew w') : Below w.heap.size w w' := ⟨h.os, h.tape, h.output, h.size, h.block⟩
theorem repeat_one (u : UInt8) : ∀ N : Nat, Lib.repeatL (str [u]).data.toList N = List.replicate N u
  | 0 => rfl
  | N + 1 => by
    have := repeat_one u N
    simp [Lib.repeatL, str] at this ⊢
    rw [this, List.replicate_succ]
theorem tilde_repeat (N : Nat) (x : Int) (w : World) (hx : x = (N : Int)) (h : N ≤ 100) : Calls Try.prog 54 #[.string (str [126]), .int .i64 x] w fun e w' => e = .returned (.string (str (List.replicate N 126))) ∧ Below w.heap.size w w' := by
  subst hx
  refine (Try.strings_Repeat (str [126]) N w (by omega) (by rw [str_size]; simp; omega)).mono ?_
  rintro e w' ⟨rfl, hb⟩
  rw [repeat_one]
  exact ⟨rfl, hb⟩

set_option maxRecDepth 100000 in
set_option maxHeartbeats 1600000 in
theorem ncopy_any (cs ids : List UInt8) (n : Int) (w : World) (hn : cs.length ≤ 1000000) (hi : ids.length ≤ 1000000) :
    Calls Try.prog 28 #[.string (str cs), .string (str ids), .int .i64 n] w (TextPost w (copyL cs ids n)) := by
  have hsz := str_size cs
  have hiz := str_size ids
  obtain ⟨N, hN⟩ : ∃ N, (min n 100).toNat = N := ⟨_, rfl⟩
  have hN100 : N ≤ 100 := by omega
  have HN := Lib.hid hN
  have hbase : Hid (str cs ++ ⟨#[126]⟩ ++ (str ids).extract 0 (min ids.length 8) ++ str (List.replicate N 126) = str (copyL cs ids n)) := by
    unfold Hid copyL
    rw [show (⟨#[126]⟩ : ByteArray) = str [126] from rfl, str_append, slice_str, str_append, List.drop_zero, hN, str_append]
    congr 3
    rcases Nat.le_total ids.length 8 with h | h
    · rw [Nat.min_eq_left h, List.take_of_length_le (Nat.le_refl _), List.take_of_length_le h]
    · rw [Nat.min_eq_right h]
  obtain ⟨li, hli⟩ : ∃ li, ids.length = li := ⟨_, rfl⟩
  rw [hli] at hiz hi hbase
  obtain ⟨lc, hlc⟩ : ∃ lc, cs.length = lc := ⟨_, rfl⟩
  rw [hlc] at hsz hn
  clear hli hlc
  have hmm : min (max n 0) 100 = (N : Int) := by omega
  obtain ⟨m, hm⟩ : ∃ m, min li 8 = m := ⟨_, rfl⟩
  have hmi : min (li : Int) 8 = (m : Int) := by omega
  obtain ⟨x, hx⟩ : ∃ x, str (List.replicate N 126) = x := ⟨_, rfl⟩
  have hxz : x.size = N := by rw [← hx, str_size, List.length_replicate]
  rw [hm, hx] at hbase
  have HX := Lib.hid hx
  have m0 : (0 : Int) ≤ (m : Int) := by omega
  have m1 : (m : Int) ≤ (li : Int) := by omega
  have m8 : m ≤ 8 := by omega
  have z1 : ¬ 9223372036854775807 < lc + 1 := by omega
  have z2 : ¬ 9223372036854775807 < lc + 1 + min m li := by omega
  have z3 : ¬ 9223372036854775807 < lc + 1 + min m li + N := by omega
  have HB0 := Lib.hid hbase.out
  have HL := Lib.hid hN100
  clear hN hm hx hbase hN100 hn hi m8
  go_enter Try.func28, Try.ntmps28
  go_wp2_with fail
  go_region_with ((go_at_call 54; refine (tilde_repeat N _ _ rfl HL.out).mono ?_; rintro e w1 ⟨rfl, hb1⟩; rw [HX.out]; have HB1 := Lib.hid hb1; clear hb1))
  all_goals
    go_wp2
    go_ret
    exact ⟨by rw [← HB0.out]; rfl, below_of_drew HB1.out⟩
end Go.Proofs.Ytcmlofgkcalhnaa.Tx
