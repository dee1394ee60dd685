/- Texts put together: YShW11, YShW12. -/
import Derived.Test.YtodlaikemoedfaaQp12
import Derived.Laws.BytesString
/- A Hasher, used: Write, Sum; sha.Sum. -/
namespace Go.Proofs.Ytodlaikemoedfaa.Sh
open Go.RowKit

theorem write_any (b : Nat) (all bs : List UInt8) (A : Option Addr) (cap : Nat) (w : World) (h : HH w b all) (hs : Src w b A bs) (hlc : bs.length ≤ cap) (hcm : cap ≤ maxLen) (hn : all.length + bs.length < 2 ^ 60) :
    Calls Try.prog 17 #[.pointer (some ⟨b, 0, none⟩), .slice A bs.length cap] w fun e w' => e = .returned (.tuple #[]) ∧ HH w' b (all ++ bs) ∧ w.grownBy w' (some b) := by
  by_cases h0 : all.length % 64 = 0
  · exact write_zero b all bs A cap w h hs hlc hcm hn h0
  · by_cases h1 : all.length % 64 + bs.length < 64
    · exact write_few b all bs A cap w h hs hlc hcm hn (by omega) h1
    · exact write_fill b all bs A cap w h hs hlc hcm hn (by omega) (by omega)

/-- The Hasher's Sum. -/
def HSum (b : Nat) (all : List UInt8) (w : World) (e : Ending) (w' : World) : Prop :=
  ∃ v, e = .returned v ∧ Own w' w.heap.size v (sumOf all) ∧ HH w' b all ∧ w.grownBy w' (some b)
theorem hsum_any (b : Nat) (all : List UInt8) (w : World) (h : HH w b all) (hn : all.length < 2 ^ 60) : Calls Try.prog 18 #[.pointer (some ⟨b, 0, none⟩)] w (HSum b all w) := by
  obtain ⟨s, rest, d, ad, hB, hm, hst, hta⟩ := h
  refine (sum_any b s rest all.length d ad w hB hm hn).mono ?_
  rintro e w' ⟨v, he, ho, hB', hg⟩
  refine ⟨v, he, ?_, ⟨s, rest, 1, kv, hB', .inr ⟨rfl, rfl⟩, hst, hta⟩, hg⟩
  rw [sumOf_eq, ← hst, ← hta]
  exact ho
theorem new_hh {w : World} {e : Ending} {w' : World} (h : NewPost w e w') : ∃ b, e = .returned (.pointer (some ⟨b, 0, none⟩)) ∧ HH w' b [] ∧ w.heap.size ≤ b ∧ Below w.heap.size w w' := by
  obtain ⟨b, ad, he, hB, hb, hw⟩ := h
  refine ⟨b, he, ⟨St.first, _, 0, ad, hB, .inl rfl, ?_, ?_⟩, hb, hw⟩
  · rw [full_eq]; exact (blocks_zero _ _).symm
  · rfl

/-- The bytes bs, read by a slice. -/
def In (w : World) (A : Option Addr) (bs : List UInt8) : Prop :=
  0 < bs.length → ∃ ad, A = some ad ∧ ad.block < w.heap.size ∧ ∀ j, j < bs.length → w.cell? (ad.add j) = some (.int .u8 (bi (bs.getD j 0)))
theorem In.nil (w : World) (A : Option Addr) : In w A [] := fun h => absurd h (by simp)
theorem In.below {w w' : World} {A : Option Addr} {bs : List UInt8} (h : In w A bs) (hb : Below w.heap.size w w') : In w' A bs := by
  intro h0
  obtain ⟨ad, hA, hlt, hc⟩ := h h0
  exact ⟨ad, hA, Nat.lt_of_lt_of_le hlt hb.size, fun j hj => (hb.cell (p := ad.add j) (by rw [block_of_add]; exact hlt)).trans (hc j hj)⟩
theorem In.src {w w' : World} {A : Option Addr} {bs : List UInt8} (h : In w A bs) (hb : Below w.heap.size w w') {b : Nat} (hbb : w.heap.size ≤ b) : Src w' b A bs := by
  intro h0
  obtain ⟨ad, hA, hlt, hc⟩ := h h0
  exact ⟨ad, hA, by omega, Nat.lt_of_lt_of_le hlt hb.size, fun j hj => (hb.cell (p := ad.add j) (by rw [block_of_add]; exact hlt)).trans (hc j hj)⟩
theorem Own.in_ {w : World} {B : Nat} {v : Value} {bs : List UInt8} (h : Own w B v bs) : ∃ A c, v = .slice A bs.length c ∧ bs.length ≤ c ∧ c ≤ maxLen ∧ In w A bs ∧ (0 < bs.length → ∃ g, A = some ⟨g, 0, none⟩ ∧ B ≤ g ∧ g < w.heap.size) := by
  rcases h.2 with ⟨rfl, h0⟩ | ⟨g, cap, cur, rfl, hb, hg, hc, hm, hcs, htk⟩
  · exact ⟨none, 0, by rw [h0], by omega, by unfold maxLen; omega, fun h1 => by omega, fun h1 => by omega⟩
  · have hlt : g < w.heap.size := (Array.getElem?_eq_some_iff.1 hg).1
    refine ⟨some ⟨g, 0, none⟩, cap, rfl, hc, hm, fun _ => ⟨_, rfl, hlt, fun j hj => ?_⟩, fun _ => ⟨g, rfl, hb, hlt⟩⟩
    rw [Addr.add_mid, cell_of_row _ _ _ _ _ _ hg, Nat.zero_add]
    have : (cur.toList.take (bs.length * 1))[j]? = (bs.map bv)[j]? := by rw [htk]
    rw [List.getElem?_take, if_pos (by omega), List.getElem?_map, List.getElem?_eq_getElem hj] at this
    rw [List.getD_eq_getElem?_getD, List.getElem?_eq_getElem hj]
    simpa [bv] using this

def OwnPost (w : World) (bs : List UInt8) (e : Ending) (w' : World) : Prop := ∃ v, e = .returned v ∧ Own w' w.heap.size v bs ∧ Below w.heap.size w w'

set_option maxRecDepth 100000 in
set_option maxHeartbeats 800000 in
/-- sha.Sum -/
theorem ssum_any (A : Option Addr) (bs : List UInt8) (cap : Nat) (w : World) (h : In w A bs) (hlc : bs.length ≤ cap) (hcm : cap ≤ maxLen) (hn : bs.length < 2 ^ 60) :
    Calls Try.prog 10 #[.slice A bs.length cap] w (OwnPost w (sumOf bs)) := by
  have HI := Lib.hid h
  obtain ⟨l, hl⟩ : ∃ l, bs.length = l := ⟨_, rfl⟩
  have HL := Lib.hid hl
  rw [hl]
  clear h hl
  go_enter Try.func10, Try.ntmps10
  go_wp2_with fail
  refine (new_any _).mono ?_
  intro e w1 hnew
  obtain ⟨b, rfl, hH, hb, hw1⟩ := new_hh hnew
  clear hnew
  have HH1 := Lib.hid hH
  have HW1 := Lib.hid hw1
  clear hH hw1
  go_wp2_with fail
  have hw := write_any b [] bs A cap w1 HH1.out (HI.out.src HW1.out hb) hlc hcm (by simpa using hn)
  rw [HL.out] at hw
  refine hw.mono ?_
  rintro e w2 ⟨rfl, hH2, hg2⟩
  clear hw
  rw [List.nil_append] at hH2
  have HH2 := Lib.hid hH2
  have HG2 := Lib.hid hg2
  clear hH2 hg2
  go_wp2_with fail
  refine (hsum_any b bs _ HH2.out hn).mono ?_
  rintro e w3 ⟨v, rfl, ho, hH3, hg3⟩
  have hz := HG2.out.size
  have hz1 := HW1.out.size
  have HO := Lib.hid (ho.base (show w.heap.size ≤ w2.heap.size by omega))
  have HF := Lib.hid (HW1.out.trans (below_of_only (only_then HG2.out hg3) hb hz1))
  clear ho hH3 hg3
  go_wp2_with fail
  go_ret
  exact ⟨v, rfl, HO.out, HF.out⟩
end Go.Proofs.Ytodlaikemoedfaa.Sh
/- Bytes as a text; CopyBytes, Bytes. -/
namespace Go.Proofs.Ytodlaikemoedfaa.Sh
open Go.RowKit

/-- Bytes as a string. -/
def str (bs : List UInt8) : ByteArray := ⟨bs.toArray⟩
theorem str_inj {a b : List UInt8} (h : str a = str b) : a = b := by
  unfold str at h
  injection h with h
  simpa using congrArg Array.toList h
theorem str_push (bs : List UInt8) : ∀ (acc : List UInt8), (bs.map bi).foldl (fun (r : ByteArray) n => r.push (UInt8.ofNat n.toNat)) (str acc) = str (acc ++ bs) := by
  induction bs with
  | nil => intro acc; simp
  | cons x r ih =>
    intro acc
    have e : (str acc).push (UInt8.ofNat (bi x).toNat) = str (acc ++ [x]) := by
      have : UInt8.ofNat (bi x).toNat = x := by unfold bi; simp
      rw [this]
      unfold str ByteArray.push
      simp
    rw [List.map_cons, List.foldl_cons, e, ih]
    simp
theorem load_in {w : World} {ad : Addr} {bs : List UInt8} (h : ∀ j, j < bs.length → w.cell? (ad.add j) = some (.int .u8 (bi (bs.getD j 0)))) :
    (loadCells ad bs.length).run Try.prog w = .ok ((bs.map bi).map (Value.int .u8)).toArray w := by
  have := run_loadCells_list (P := Try.prog) w ad ((bs.map bi).map (Value.int .u8)) (fun j v hv => by
    have hj : j < bs.length := by
      have := (List.getElem?_eq_some_iff.1 hv).1
      simpa using this
    rw [h j hj, ← hv, List.getElem?_map, List.getElem?_map, List.getElem?_eq_getElem hj, List.getD_eq_getElem?_getD, List.getElem?_eq_getElem hj]
    rfl)
  simpa using this
theorem conv_str (w : World) (A : Option Addr) (bs : List UInt8) (c : Nat) (h : In w A bs) (hA : A = none → bs = []) :
    (convert 25 9 (.slice A bs.length c)).run Try.prog w = .ok (.string (str bs)) w := by
  rw [run_convert_bytes_string w 25 9 5 A bs.length c Try.underlying25 Try.underlying5 Try.underlying9]
  rcases A with _ | ad
  · obtain rfl := hA rfl
    simp [Conv.bytesToString, Sem.run_pure, str]
    rfl
  · have hl : (loadCells ad bs.length).run Try.prog w = .ok ((bs.map bi).map (Value.int .u8)).toArray w := by
      rcases Nat.eq_zero_or_pos bs.length with h0 | h0
      · exact load_in (fun j hj => by omega)
      · obtain ⟨ad', e, _, hc⟩ := h h0
        injection e with e
        subst e
        exact load_in hc
    rw [run_bytesToString w ad bs.length c _ hl]
    have := str_push bs []
    rw [List.nil_append] at this
    have e0 : ByteArray.empty = str [] := rfl
    rw [e0, this]

/-- v is a slice that reads as the bytes bs. -/
def Sl (w : World) (v : Value) (bs : List UInt8) : Prop := ∃ A c, v = .slice A bs.length c ∧ bs.length ≤ c ∧ c ≤ maxLen ∧ In w A bs ∧ (A = none → bs = [])
theorem Sl.below {w w' : World} {v : Value} {bs : List UInt8} (h : Sl w v bs) (hb : Below w.heap.size w w') : Sl w' v bs := by
  obtain ⟨A, c, hv, h1, h2, h3, h4⟩ := h
  exact ⟨A, c, hv, h1, h2, h3.below hb, h4⟩
theorem Own.sl {w : World} {B : Nat} {v : Value} {bs : List UInt8} (h : Own w B v bs) : Sl w v bs := by
  obtain ⟨A, c, hv, h1, h2, h3, h4⟩ := h.in_
  refine ⟨A, c, hv, h1, h2, h3, fun hA => ?_⟩
  rcases Nat.eq_zero_or_pos bs.length with h0 | h0
  · exact List.eq_nil_of_length_eq_zero h0
  · obtain ⟨g, e, _⟩ := h4 h0
    rw [hA] at e
    cases e
theorem Sl.nil_ (w : World) : Sl w (.slice none 0 0) [] := ⟨none, 0, rfl, by simp, by unfold maxLen; omega, In.nil w none, fun _ => rfl⟩
theorem In.reads {w : World} {A : Option Addr} {bs : List UInt8} (h : In w A bs) : Reads w w.heap.size 1 A bs.length (bs.map bv) := by
  refine ⟨by simp, fun h0 => ?_⟩
  obtain ⟨ad, hA, hlt, hc⟩ := h h0
  refine ⟨ad, hA, hlt, fun j u hu => ?_⟩
  have hj : j < bs.length := by
    have := (List.getElem?_eq_some_iff.1 hu).1
    simpa using this
  rw [hc j hj, ← hu, List.getElem?_map, List.getElem?_eq_getElem hj, List.getD_eq_getElem?_getD, List.getElem?_eq_getElem hj]
  rfl
theorem str_toList (bs : List UInt8) : (str bs).toList = bs := by
  rw [ByteArray.toList_eq]
  rfl

end Go.Proofs.Ytodlaikemoedfaa.Sh
