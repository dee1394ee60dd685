/- Bytes as a text; CopyBytes, Bytes. -/
import Derived.Test.YtcbiajajoojgmaaShW11
import Derived.Laws.BytesString
namespace Go.Proofs.Ytcbiajajoojgmaa.Sh
open Go.RowKit

/-- Bytes as a string. -/
def str (bs : List UInt8) : ByteArray := ⟨bs.toArray⟩
theorem str_inj {a b : List UInt8} (h : str a = str b) : a = b := by
  unfold str at h
  injection h with h
  simpa using congrArg Array.toList h
theorem str_push (bs : List UInt8) : ∀ (acc : List UInt8), (bs.map bi).foldl (fun (r : ByteArray) n => r.push (UInt8.ofNat n.toNat)) (str acc) = str (acc ++ bs) := by
  induction bs with
  | nil => intro acc; simp
  | cons x r ih =>
    intro acc
    have e : (str acc).push (UInt8.ofNat (bi x).toNat) = str (acc ++ [x]) := by
      have : UInt8.ofNat (bi x).toNat = x := by unfold bi; simp
      rw [this]
      unfold str ByteArray.push
      simp
    rw [List.map_cons, List.foldl_cons, e, ih]
    simp
theorem load_in {w : World} {ad : Addr} {bs : List UInt8} (h : ∀ j, j < bs.length → w.cell? (ad.add j) = some (.int .u8 (bi (bs.getD j 0)))) :
    (loadCells ad bs.length).run Try.prog w = .ok ((bs.map bi).map (Value.int .u8)).toArray w := by
  have := run_loadCells_list (P := Try.prog) w ad ((bs.map bi).map (Value.int .u8)) (fun j v hv => by
    have hj : j < bs.length := by
      have := (List.getElem?_eq_some_iff.1 hv).1
      simpa using this
    rw [h j hj, ← hv, List.getElem?_map, List.getElem?_map, List.getElem?_eq_getElem hj, List.getD_eq_getElem?_getD, List.getElem?_eq_getElem hj]
    rfl)
  simpa using this
theorem conv_str (w : World) (A : Option Addr) (bs : List UInt8) (c : Nat) (h : In w A bs) (hA : A = none → bs = []) :
    (convert 22 9 (.slice A bs.length c)).run Try.prog w = .ok (.string (str bs)) w := by
  rw [run_convert_bytes_string w 22 9 5 A bs.length c Try.underlying22 Try.underlying5 Try.underlying9]
  rcases A with _ | ad
  · obtain rfl := hA rfl
    simp [Conv.bytesToString, Sem.run_pure, str]
    rfl
  · have hl : (loadCells ad bs.length).run Try.prog w = .ok ((bs.map bi).map (Value.int .u8)).toArray w := by
      rcases Nat.eq_zero_or_pos bs.length with h0 | h0
      · exact load_in (fun j hj => by omega)
      · obtain ⟨ad', e, _, hc⟩ := h h0
        injection e with e
        subst e
        exact load_in hc
    rw [run_bytesToString w ad bs.length c _ hl]
    have := str_push bs []
    rw [List.nil_append] at this
    have e0 : ByteArray.empty = str [] := rfl
    rw [e0, this]

/-- v is a slice that reads as the bytes bs. -/
def Sl (w : World) (v : Value) (bs : List UInt8) : Prop := ∃ A c, v = .slice A bs.length c ∧ bs.length ≤ c ∧ c ≤ maxLen ∧ In w A bs ∧ (A = none → bs = [])
theorem Sl.below {w w' : World} {v : Value} {bs : List UInt8} (h : Sl w v bs) (hb : Below w.heap.size w w') : Sl w' v bs := by
  obtain ⟨A, c, hv, h1, h2, h3, h4⟩ := h
  exact ⟨A, c, hv, h1, h2, h3.below hb, h4⟩
theorem Own.sl {w : World} {B : Nat} {v : Value} {bs : List UInt8} (h : Own w B v bs) : Sl w v bs := by
  obtain ⟨A, c, hv, h1, h2, h3, h4⟩ := h.in_
  refine ⟨A, c, hv, h1, h2, h3, fun hA => ?_⟩
  rcases Nat.eq_zero_or_pos bs.length with h0 | h0
  · exact List.eq_nil_of_length_eq_zero h0
  · obtain ⟨g, e, _⟩ := h4 h0
    rw [hA] at e
    cases e
theorem Sl.nil_ (w : World) : Sl w (.slice none 0 0) [] := ⟨none, 0, rfl, by simp, by unfold maxLen; omega, In.nil w none, fun _ => rfl⟩
theorem In.reads {w : World} {A : Option Addr} {bs : List UInt8} (h : In w A bs) : Reads w w.heap.size 1 A bs.length (bs.map bv) := by
  refine ⟨by simp, fun h0 => ?_⟩
  obtain ⟨ad, hA, hlt, hc⟩ := h h0
  refine ⟨ad, hA, hlt, fun j u hu => ?_⟩
  have hj : j < bs.length := by
    have := (List.getElem?_eq_some_iff.1 hu).1
    simpa using this
  rw [hc j hj, ← hu, List.getElem?_map, List.getElem?_eq_getElem hj, List.getD_eq_getElem?_getD, List.getElem?_eq_getElem hj]
  rfl
theorem str_toList (bs : List UInt8) : (str bs).toList = bs := by
  rw [ByteArray.toList_eq]
  rfl

set_option maxRecDepth 100000 in
set_option maxHeartbeats 400000 in
/-- marref.Bytes -/
theorem bytes_any (v1 v2 : Value) (bs cs : List UInt8) (w : World) (h1 : Sl w v1 bs) (h2 : Sl w v2 cs) (t : Bool) (ht : (bs == cs) = t) :
    Calls Try.prog 17 #[v1, v2] w fun e w' => e = .returned (.bool t) ∧ w = w' := by
  obtain ⟨A, c, rfl, _, _, h, hA⟩ := h1
  obtain ⟨A2, c2, rfl, _, _, h2, hA2⟩ := h2
  have k1 := conv_str w A bs c h hA
  have k2 := conv_str w A2 cs c2 h2 hA2
  have HT := Lib.hid ht
  clear ht h hA h2 hA2
  go_enter Try.func17, Try.ntmps17
  go_wp2_with fail
  go_ret
  refine ⟨?_, rfl⟩
  show Ending.returned (.bool ((str bs).toList == (str cs).toList)) = _
  rw [str_toList, str_toList, HT.out]

set_option maxRecDepth 100000 in
set_option maxHeartbeats 400000 in
/-- marref.CopyBytes -/
theorem copyb_any (v : Value) (bs : List UInt8) (w : World) (h : Sl w v bs) (hn : bs.length ≤ 140737488355328) : Calls Try.prog 11 #[v] w (OwnPost w bs) := by
  obtain ⟨A, c, rfl, hlc, hcm, hI, hA⟩ := h
  have hI1 : In (w.alloc (.cells #[] 5)) A bs := hI.below ((Below.refl _ _).alloc (Nat.le_refl _) _)
  have hr := hI1.reads
  have hown : Own (w.alloc (.cells #[] 5)) w.heap.size (.slice (some ⟨w.heap.size, 0, none⟩) 0 0) [] :=
    World.ownsRow_made w #[] 0 (Nat.le_refl _) (by unfold maxLen; omega) rfl
  obtain ⟨l, hl⟩ : ∃ l, bs.length = l := ⟨_, rfl⟩
  rw [hl] at hr hn ⊢
  have hsm : ([] : List UInt8).length + l ≤ 140737488355328 := by simpa using hn
  have hz : w.heap.size ≤ (w.alloc (.cells #[] 5)).heap.size := by simp
  have HR := Lib.hid hr
  have HOWN := Lib.hid hown
  have HZ := Lib.hid hz
  clear hl hr hown hz hI hI1 hA hlc hcm
  go_enter Try.func11, Try.ntmps11
  go_wp2_with (at_builtin; refine append_bytes rfl (.tmp 3) (.tmp 4) rfl _ w.heap.size (.slice (some ⟨w.heap.size, 0, none⟩) 0 0) [] rfl HOWN.out _ A l c bs rfl HR.out hsm HZ.out ?_; intro v3 w3 ho3 hb3; have HO := Lib.hid ho3; have HB := Lib.hid hb3; clear ho3 hb3)
  go_ret
  refine ⟨v3, rfl, ?_, ((Below.refl _ _).alloc (Nat.le_refl _) _).trans HB.out⟩
  simpa using HO.out
end Go.Proofs.Ytcbiajajoojgmaa.Sh
