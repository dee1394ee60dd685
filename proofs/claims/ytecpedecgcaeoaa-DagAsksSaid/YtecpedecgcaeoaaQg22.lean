/- Texts put together: Dg3. -/
import Derived.Test.YtecpedecgcaeoaaQg21
/- Package dag: New, Len, Has, Stamp; places, ids. -/
set_option linter.unusedVariables false
set_option linter.unusedSimpArgs false
namespace Go.Proofs.Ytecpedecgcaeoaa.Tx
open Go.RowKit Go.Maps Go.Proofs.Ytecpedecgcaeoaa.Sh

set_option maxRecDepth 100000 in
theorem gnew_any (w : World) : Calls Try.prog 5 #[] w fun e w' => ∃ g, e = .returned (.pointer (some ⟨g, 0, none⟩)) ∧ GAt (fun k => w.heap.size ≤ k ∧ k < w'.heap.size) w' g [] ∧ Below w.heap.size w w' := by
  have hmm := @run_makeMap Try.prog
  go_enter Try.func5, Try.ntmps5
  go_wp2
  go_ret
  have b1 : RowKit.Below w.heap.size w (w.alloc (.map #[] 0)) := (Below.refl _ _).alloc (Nat.le_refl _) _
  have z1 : (w.alloc (.map #[] 0)).heap.size = w.heap.size + 1 := by simp
  obtain ⟨w', hw'⟩ : ∃ w', w' = (w.alloc (.map #[] 0)).alloc (.cells #[.map (some w.heap.size), .slice none 0 0] 52) := ⟨_, rfl⟩
  have b2 : RowKit.Below w.heap.size w w' := by rw [hw']; exact b1.alloc b1.size _
  have z2 : w'.heap.size = w.heap.size + 1 + 1 := by rw [hw']; simp
  rw [← hw']
  refine ⟨w.heap.size + 1, rfl, ⟨fun _ => False, w.heap.size, .slice none 0 0, ⟨?_, OwnS.nil_ _ _ _ _ _, ⟨.map [], ?_, PlOK.nil_⟩, fun k hk => hk.elim, ⟨by omega, by omega⟩, ⟨Nat.le_refl _, by omega⟩, fun k hk => (by cases hk), fun k hk => hk.2⟩⟩, b2⟩
  · have := Blk.new (w.alloc (.map #[] 0)) 52 #[.map (some w.heap.size), .slice none 0 0]
    rw [z1, ← hw'] at this
    exact this
  · rw [hw']
    exact (World.ownsMap_made (H := Unit) w Try.prog 9 (plainElem Try.prog 3)).alloc _

set_option maxRecDepth 100000 in
theorem glen_any (Z : Nat → Prop) (g : Nat) (G : GR) (w : World) (h : GAt Z w g G) : Calls Try.prog 12 #[.pointer (some ⟨g, 0, none⟩)] w fun e w' => e = .returned (.int .i64 (G.length : Int)) ∧ w = w' := by
  obtain ⟨F, bm, v, hx⟩ := h
  obtain ⟨A, c, rfl, _, _⟩ := hx.slice
  have c1 := hx.c1
  obtain ⟨l, hl⟩ : ∃ l, G.length = l := ⟨_, rfl⟩
  rw [hl] at c1 ⊢
  clear hx hl
  go_enter Try.func12, Try.ntmps12
  go_wp2
  go_ret
  exact ⟨rfl, rfl⟩

set_option maxRecDepth 100000 in
set_option maxHeartbeats 800000 in
theorem ghas_any (Z : Nat → Prop) (g : Nat) (G : GR) (s : ByteArray) (w : World) (h : GAt Z w g G) (hs : s.size ≤ 1000000) : Calls Try.prog 13 #[.pointer (some ⟨g, 0, none⟩), .string s] w fun e w' => e = .returned (.bool (inG G s)) ∧ w = w' := by
  obtain ⟨F, bm, v, hx⟩ := h
  have c0 := hx.c0
  obtain ⟨D, hown, hpl⟩ := hx.map
  have HOWN := Lib.hid hown
  have HKEY := Lib.hid (key_ba s hs)
  have HLOOK := Lib.hid (hpl.look s)
  clear hx hown hpl
  go_enter Try.func13, Try.ntmps13
  go_wp2_with (at_lookup; refine wpList_lookup_own_ok_int _ rfl _ _ 49 rfl 9 3 .i64 lawS Try.underlying49 Try.underlying3 (zeroI _) bm _ D rfl (by exact HOWN.out) _ _ rfl (by exact HKEY.out) ?_; intro c hat hwc; rw [HLOOK.out.1]; clear hat hwc)
  go_ret
  exact ⟨rfl, rfl⟩

set_option maxRecDepth 100000 in
set_option maxHeartbeats 800000 in
theorem gstamp_any (Z : Nat → Prop) (g : Nat) (G : GR) (s : ByteArray) (w : World) (h : GAt Z w g G) (hs : s.size ≤ 1000000) : Calls Try.prog 15 #[.pointer (some ⟨g, 0, none⟩), .string s] w fun e w' => e = .returned (.int .i64 (if inG G s then stAt G (pl G s) else -1)) ∧ w = w' := by
  obtain ⟨F, bm, v, hx⟩ := h
  obtain ⟨A, c, rfl, hlc, hcm⟩ := hx.slice
  have c0 := hx.c0
  have c1 := hx.c1
  obtain ⟨D, hown, hpl⟩ := hx.map
  have HOWN := Lib.hid hown
  have HKEY := Lib.hid (key_ba s hs)
  have HLOOK := Lib.hid (hpl.look s)
  have hat := fun k hk => hx.at_ k hk
  obtain ⟨p, hp⟩ : ∃ p, pl G s = p := ⟨_, rfl⟩
  cases hin : inG G s with
  | false =>
    have HIN := Lib.hid hin
    obtain ⟨l, hl⟩ : ∃ l, G.length = l := ⟨_, rfl⟩
    rw [hl] at c1
    clear hx hown hpl hat hin hl hlc hp
    go_enter Try.func15, Try.ntmps15
    go_wp2_with (at_lookup; refine wpList_lookup_own_ok_int _ rfl _ _ 49 rfl 9 3 .i64 lawS Try.underlying49 Try.underlying3 (zeroI _) bm _ D rfl (by exact HOWN.out) _ _ rfl (by exact HKEY.out) ?_; intro c hat hwc; rw [HLOOK.out.1, HIN.out]; clear hat hwc)
    go_ret
    exact ⟨rfl, rfl⟩
  | true =>
    have HIN := Lib.hid hin
    have hlt := pl_lt hin
    obtain ⟨ad, d, rfl, _, _, _, _, k2⟩ := hat _ hlt
    rw [hp] at hlt k2 HLOOK ⊢
    obtain ⟨l, hl⟩ : ∃ l, G.length = l := ⟨_, rfl⟩
    rw [hl] at c1 hlt hlc
    have z0 : (0 : Int) ≤ (p : Int) := by omega
    have z1 : (p : Int) < (l : Int) := by omega
    obtain ⟨t, ht⟩ : ∃ t, stAt G p = t := ⟨_, rfl⟩
    rw [ht] at k2 ⊢
    clear hx hown hpl hat hin hl hlc hp hlt ht
    go_enter Try.func15, Try.ntmps15
    go_wp2_with (at_lookup; refine wpList_lookup_own_ok_int _ rfl _ _ 49 rfl 9 3 .i64 lawS Try.underlying49 Try.underlying3 (zeroI _) bm _ D rfl (by exact HOWN.out) _ _ rfl (by exact HKEY.out) ?_; intro c hat hwc; obtain rfl : c = (p : Int) := (by have h := hat.symm.trans HLOOK.out.2; injection h with h; injection h with h); rw [HLOOK.out.1, HIN.out]; clear hat hwc)
    go_ret
    exact ⟨rfl, rfl⟩
end Go.Proofs.Ytecpedecgcaeoaa.Tx
