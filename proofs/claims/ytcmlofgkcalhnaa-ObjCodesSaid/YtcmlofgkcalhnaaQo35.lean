/- Texts put together: Ob12. -/
import Derived.Test.YtcmlofgkcalhnaaQo34
/- obj: ID, Refs; marlaw6: first. -/
namespace Go.Proofs.Ytcmlofgkcalhnaa.Ob
open Go.RowKit Go.Proofs.Ytcmlofgkcalhnaa.Sh
open Go.Proofs.Ytcmlofgkcalhnaa.Tx (OwnV SlV sv bl nameB reads_at texts_at toList_ne')

def Yes (w : World) (e : Ending) (w' : World) : Prop := e = .returned (.bool true) ∧ Below w.heap.size w w'
theorem sl_hi (w : World) : Sl (w.alloc (.cells #[.int .u8 104, .int .u8 105] 5 (2, 3))) (.slice (some ⟨w.heap.size, 0, none⟩) 2 2) [104, 105] := by
  refine ⟨_, _, rfl, by decide, by unfold maxLen; omega, fun _ => ⟨_, rfl, by simp, fun j hj => ?_⟩, fun h => by cases h⟩
  have h := heap_alloc_new w (.cells #[.int .u8 104, .int .u8 105] 5 (2, 3))
  rw [Addr.add_mid, cell_of_row _ _ _ _ _ _ h, Nat.zero_add]
  have hj' : j = 0 ∨ j = 1 := by simp at hj; omega
  rcases hj' with rfl | rfl <;> (unfold bi; rfl)
theorem enc_hi : encL ⟨1, [104, 105], [], [], [], 0, 0, []⟩ = [1, 104, 105] := rfl
theorem enc_t0 : encL (objK 2) = [2, 0] := by
  unfold encL encIs objK
  rw [if_neg (by decide), if_pos rfl, show ([] : List ItM).length = 0 from rfl, putL_lt (by decide)]
  rfl
theorem may_hi : mayB ⟨1, [104, 105], [], [], [], 0, 0, []⟩ = true := by decide
theorem may_t0 : mayB (objK 2) = true := by decide
set_option maxRecDepth 100000 in
set_option maxHeartbeats 1600000 in
theorem first_any (w : World) : Calls Try.prog 12 #[] w (Yes w) := by
  have kc := fun (w : World) (C : Array Value) (n c : Nat) => Lib.run_convert_bytes_const (P := Try.prog) w 29 5 C n c Try.underlying29 Try.underlying5
  have HB0 : Hid (Below w.heap.size w (w.alloc (.cells #[.int .u8 104, .int .u8 105] 5 (2, 3)))) := (Below.refl _ _).alloc (Nat.le_refl _) _
  have HV0 : Hid (ObV (w.alloc (.cells #[.int .u8 104, .int .u8 105] 5 (2, 3))) (.agg #[.int .i64 1, .slice (some ⟨w.heap.size, 0, none⟩) 2 2, .slice none 0 0, .string ⟨#[]⟩, .slice none 0 0, .int .i64 0, .int .i64 0, .string ⟨#[]⟩]) ⟨1, [104, 105], [], [], [], 0, 0, []⟩) := ⟨_, _, _, rfl, sl_hi w, SlI.nil_ _, SlV.nil_ _⟩
  go_enter Try.func12, Try.ntmps12
  go_wp2_with fail
  refine (encode_any _ ⟨1, [104, 105], [], [], [], 0, 0, []⟩ _ HV0.out).mono ?_
  rintro e w1 ⟨hy, -, hb1⟩
  obtain ⟨u, rfl, hu⟩ := hy may_hi
  rw [enc_hi] at hu
  have HB1 := Lib.hid (Below.after HB0.out hb1)
  have HU := Lib.hid hu.sl
  clear hy hb1 hu kc
  go_wp2_with fail
  refine (encode_any _ (objK 2) w1 (objK_v 2 _)).mono ?_
  rintro e w2 ⟨hy, -, hb2⟩
  obtain ⟨u2, rfl, hu2⟩ := hy may_t0
  rw [enc_t0] at hu2
  have HB2 := Lib.hid (Below.after HB1.out hb2)
  obtain ⟨A, c, rfl, _, _, hI, hA⟩ := HU.out.below hb2
  obtain ⟨A2, c2, rfl, _, _, hI2, hA2⟩ := hu2.sl
  have k1 : (convert 29 9 (.slice A 3 c)).run Try.prog w2 = .ok (.string (str [1, 104, 105])) w2 := conv_str w2 A [1, 104, 105] c hI hA
  have k2 : (convert 29 9 (.slice A2 2 c2)).run Try.prog w2 = .ok (.string (str [2, 0])) w2 := conv_str w2 A2 [2, 0] c2 hI2 hA2
  have t1 := str_toList [1, 104, 105]
  have t2 := str_toList [2, 0]
  clear hy hb2 hu2 hI hA hI2 hA2
  go_wp2_with fail
  go_ret
  exact ⟨rfl, HB2.out⟩
def IDPost (w : World) (o : ObM) (e : Ending) (w' : World) : Prop :=
  (mayB o = true → e = .returned (.tuple #[.string (str (hexL (sumOf (encL o)))), .int .i64 0])) ∧ (mayB o = false → e = .returned (.tuple #[.string (str []), .int .i64 1])) ∧ Below w.heap.size w w'
theorem encC_len {o : ObM} (h : CommOk o.tree o.parents o.stamp o.author o.msg) : (encC o).length ≤ 400 := by
  have h1 := (validB_len h.tree).1
  have h2 := flat_ids_len (parB_of h.par).2
  have h3 := (parB_of h.par).1
  have h4 := putL_len9 (show o.stamp.toNat ≤ 72057594037927936 from by have := h.st1; omega)
  have h5 := putL_len9 (show o.author.toNat ≤ 72057594037927936 from by have := h.au1; omega)
  have h6 := msgB_len h.msg
  have h7 := putL_len9 (show o.msg.length ≤ 72057594037927936 from by omega)
  unfold encC
  simp only [List.length_append, List.length_singleton, unhexL_length]
  omega
theorem encL_len {o : ObM} (h : mayB o = true) : (encL o).length ≤ 40000 := by
  unfold encL
  rcases mayB_kind h with ⟨h1, h2⟩ | ⟨h1, h2⟩ | ⟨h1, h2⟩
  · have := (blobB_of h2).1
    rw [if_pos h1, List.length_append, List.length_singleton]
    omega
  · have h3 := itemsB_of (treeB_of h2).1
    have h4 := encIs_len h3.2
    have h5 := putL_len9 (show o.items.length ≤ 72057594037927936 from by omega)
    rw [if_neg (by omega), if_pos h1]
    unfold encIs
    rw [List.length_append, List.length_append, List.length_singleton]
    omega
  · have := encC_len (commB_of h2).2.2
    rw [if_neg (by omega), if_neg (by omega), List.length_append, List.length_singleton]
    omega
end Go.Proofs.Ytcmlofgkcalhnaa.Ob
