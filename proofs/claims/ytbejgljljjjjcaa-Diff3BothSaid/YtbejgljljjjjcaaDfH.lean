/- Texts made bytes; marlaw15's tell. -/
import Derived.Test.YtbejgljljjjjcaaDfG
import Derived.Test.YtbejgljljjjjcaaLnR
import Derived.Lib.ConvBytes
import Derived.Laws.AppendOwn
set_option linter.unusedVariables false
set_option linter.unusedSimpArgs false
namespace Go.Proofs.Ytbejgljljjjjcaa.Ln
open Go.RowKit Go.Proofs.Ytbejgljljjjjcaa.Sh Go.Proofs.Ytbejgljljjjjcaa.Tx

theorem str_cat (a b : List UInt8) : Tx.str a ++ Tx.str b = Tx.str (a ++ b) := by
  unfold Tx.str
  apply ByteArray.ext
  rw [ByteArray.data_append]
  simp
theorem bytes_cv (w : World) (bs : List UInt8) (hs : bs.length ≤ 1000000) : ∃ wn cap, (convert 9 36 (.string (Tx.str bs))).run Try.prog w = .ok (.slice (some ⟨w.heap.size, 0, none⟩) bs.length cap) wn ∧ Below w.heap.size w wn ∧ w.heap.size < wn.heap.size ∧ SlV wn (.slice (some ⟨w.heap.size, 0, none⟩) bs.length cap) (bs.map bv) := by
  have hsz := Tx.str_size bs
  refine ⟨Lib.bytesWorld w 5 (Tx.str bs), grownCap w bs.length 0 5, ?_, ?_, by rw [Lib.bytesWorld_size]; omega, ?_⟩
  · have := Lib.run_convert_string_bytes (P := Try.prog) w 9 36 5 (Tx.str bs) Try.underlying9 Try.underlying36 Try.underlying5
    rw [hsz] at this
    exact this
  · refine ⟨?_, ?_, ?_, by rw [Lib.bytesWorld_size]; omega, fun k hk => Lib.bytesWorld_at_old w _ _ k hk⟩ <;>
      simp [Lib.bytesWorld, World.freeze, World.alloc, World.drew, -World.alloc_eq, -World.drew_eq]
  · refine ⟨some ⟨w.heap.size, 0, none⟩, _, by rw [List.length_map], by rw [List.length_map]; exact grownCap_ge _ _ _ _, grownCap_le_maxLen _ _ _ _ (by unfold maxLen; omega), ⟨by simp, fun _ => ⟨_, rfl, by rw [Lib.bytesWorld_size]; show w.heap.size < _; omega, fun j u hu => ?_⟩⟩, fun h => by cases h⟩
    have hj : j < bs.length := by have := (List.getElem?_eq_some_iff.1 hu).1; simpa using this
    rw [Addr.add_mid, Nat.zero_add, Lib.bytesWorld_cell w 5 (Tx.str bs) j (by rw [hsz]; exact hj), ← hu]
    have e1 : (Tx.str bs).data.toList = bs := by unfold Tx.str; simp
    rw [e1]
    simp [bv, bi, hj]
/-- A line that tells a byte and its place. -/
def lineT (s : UInt8) (k : Nat) (c : UInt8) : List UInt8 := [s, UInt8.ofNat (48 + k / 10), UInt8.ofNat (48 + k % 10), UInt8.ofNat (97 + c.toNat % 26), 10]
def tellT (s : UInt8) : Nat → List UInt8 → List (List UInt8)
  | _, [] => []
  | k, c :: bs => lineT s k c :: tellT s (k + 1) bs
theorem tellT_snoc (s : UInt8) : ∀ (k : Nat) (bs : List UInt8) (c : UInt8), tellT s k (bs ++ [c]) = tellT s k bs ++ [lineT s (k + bs.length) c]
  | k, [], c => rfl
  | k, x :: bs, c => by
    show lineT s k x :: tellT s (k + 1) (bs ++ [c]) = _
    rw [tellT_snoc s (k + 1) bs c, List.length_cons, show k + 1 + bs.length = k + (bs.length + 1) by omega]
    rfl
def tellB (s : UInt8) (bs : List UInt8) : List UInt8 := (tellT s 0 bs).flatten
theorem tellB_snoc (s : UInt8) (bs : List UInt8) (c : UInt8) : tellB s (bs ++ [c]) = tellB s bs ++ lineT s bs.length c := by
  unfold tellB
  rw [tellT_snoc, List.flatten_append, List.flatten_singleton, Nat.zero_add]
theorem tellT_len (s : UInt8) : ∀ (k : Nat) (bs : List UInt8), (tellT s k bs).flatten.length = 5 * bs.length
  | k, [] => rfl
  | k, c :: bs => by
    show (lineT s k c ++ (tellT s (k + 1) bs).flatten).length = _
    rw [List.length_append, tellT_len s (k + 1) bs, List.length_cons]
    show 5 + _ = _
    omega
theorem tellB_len (s : UInt8) (bs : List UInt8) : (tellB s bs).length = 5 * bs.length := tellT_len s 0 bs
theorem bi_of (n : Nat) (h : n < 256) : bi (UInt8.ofNat n) = (n : Int) := by
  rw [bi_nat]
  have : (UInt8.ofNat n).toNat = n := by rw [UInt8.toNat_ofNat']; omega
  rw [this]
/-- Bytes just laid. -/
theorem bytes_lay (w : World) (l : List UInt8) (hl : l.length ≤ 100) : SlV (w.alloc (.cells (l.map bv).toArray 5)) (.slice (some ⟨w.heap.size, 0, none⟩) l.length l.length) (l.map bv) := by
  have hg := Blk.new w 5 (l.map bv).toArray
  refine ⟨some ⟨w.heap.size, 0, none⟩, l.length, by rw [List.length_map], by rw [List.length_map]; exact Nat.le_refl _, by unfold maxLen; omega, ⟨by simp, fun _ => ⟨_, rfl, hg.lt, fun j u hu => ?_⟩⟩, fun e => by cases e⟩
  rw [Addr.add_mid, Nat.zero_add, hg.cell j, ← hu]
  simp
theorem bi_to (u : UInt8) : bi u = (u.toNat : Int) := bi_nat u
theorem line_cells (s : UInt8) (si : Int) (h : si = bi s) (k : Nat) (u : UInt8) (hk : k < 100) : ((lineT s k u).map bv).toArray = #[.int .u8 si, .int .u8 (48 + (k : Int) / 10), .int .u8 (48 + (k : Int) % 10), .int .u8 ((97 + (bi u).tmod 26) % 256), .int .u8 10] := by
  have e1 : bi (UInt8.ofNat (48 + k / 10)) = 48 + (k : Int) / 10 := by rw [bi_of _ (by omega)]; omega
  have e2 : bi (UInt8.ofNat (48 + k % 10)) = 48 + (k : Int) % 10 := by rw [bi_of _ (by omega)]; omega
  have e3 : bi (UInt8.ofNat (97 + u.toNat % 26)) = (97 + (bi u).tmod 26) % 256 := by
    rw [bi_of _ (by omega), bi_to u, Int.tmod_eq_emod_of_nonneg (by omega)]
    omega
  unfold lineT bv
  simp only [List.map_cons, List.map_nil]
  rw [e1, e2, e3, bi10, h]
set_option maxRecDepth 100000 in
set_option maxHeartbeats 3200000 in
theorem tell_any (s : UInt8) (v : Value) (bs : List UInt8) (w : World) (h : SlV w v (bs.map bv)) (hn : bs.length ≤ 60) (si : Int) (hsi : si = bi s) : Calls Try.prog 20 #[.int .u8 si, v] w fun e w' => e = .returned (.string (Tx.str (tellB s bs))) ∧ Below w.heap.size w w' := by
  obtain ⟨A, c, rfl, hl, hm, _⟩ := h.len
  rw [List.length_map] at h hl ⊢
  unfold maxLen at hm
  have H := Lib.hid (fun W (hW : Below w.heap.size w W) => h.below hW)
  obtain ⟨n, hnn⟩ : ∃ n, bs.length = n := ⟨_, rfl⟩
  have HN := Lib.hid hnn
  rw [hnn] at H hl hn ⊢
  have HSI := Lib.hid hsi
  clear h hnn hsi
  go_enter Try.func20, Try.ntmps20
  go_wp2_with fail
  go_loopw [5, 6] (fun x q wr => ∃ i : Nat, i ≤ n ∧ q = .int .i64 (i : Int) ∧ x = .string (Tx.str (tellB s (bs.take i))) ∧ Below w.heap.size w wr) (fun _ q _ => n - (intOf q).toNat)
  case atStart => exact ⟨0, Nat.zero_le _, rfl, rfl, Below.refl _ _⟩
  case round =>
    obtain ⟨i, hi, rfl, rfl, hb⟩ := hrel
    have HB := Lib.hid hb
    clear hb
    have z0 : (0 : Int) ≤ (i : Int) := by omega
    by_cases hlt : i < n
    · have z1 : (i : Int) < (n : Int) := by omega
      have hil : i < bs.length := by rw [HN.out]; exact hlt
      obtain ⟨u, hu⟩ : ∃ u, bs[i]? = some u := ⟨_, List.getElem?_eq_getElem hil⟩
      obtain ⟨ad, rfl, x0⟩ := byte_cell (H.out wr HB.out) i u hu
      have HTK : Hid (bs.take (i + 1) = bs.take i ++ [u]) := by unfold Hid; rw [List.take_add_one, hu]; rfl
      have HLT : Hid ((bs.take i).length = i) := by unfold Hid; rw [List.length_take]; omega
      clear hu hil
      have hcv := conv_str _ _ (lineT s i u) 5 5 rfl (bytes_lay wr (lineT s i u) (by show 5 ≤ 100; omega))
      rw [line_cells s si HSI.out i u (by omega)] at hcv
      have hsz : ¬ 9223372036854775807 < (Tx.str (tellB s (bs.take i))).size + (Tx.str (lineT s i u)).size := by rw [Tx.str_size, Tx.str_size, tellB_len, HLT.out]; show ¬ _ < _ + 5; omega
      have HAL : Hid (∀ o, Below w.heap.size w (wr.alloc o)) := fun o => HB.out.alloc HB.out.size o
      go_wp2_with fail
      go_roundw
      case rel => exact ⟨i + 1, by omega, by go_num, by rw [HTK.out, tellB_snoc, HLT.out, ← str_cat], HAL.out _⟩
      case measure => simp [intOf]; omega
    · obtain rfl : i = n := by omega
      have z1 : ¬ (i : Int) < (i : Int) := by omega
      have HT : Hid (bs.take i = bs) := List.take_of_length_le (by rw [HN.out]; exact Nat.le_refl _)
      go_wp2_with fail
      go_ret
      have := HT.out
      refine ⟨?_, HB.out⟩
      show Ending.returned (.string (Tx.str (tellB s (bs.take i)))) = _
      rw [HT.out]
end Go.Proofs.Ytbejgljljjjjcaa.Ln
