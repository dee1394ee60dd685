/- Texts put together: YTq0, YTn0, YTn1, YOb1. -/
import Derived.Test.YtodlaikemoedfaaQp17
/- Texts cut at a sign, and joined: plain lists, no Go in it. -/
namespace Go.Proofs.Ytodlaikemoedfaa.Tx

/-- A text cut at every such sign: one piece at least. -/
def splitL (g : UInt8) : List UInt8 → List (List UInt8)
  | [] => [[]]
  | c :: r => if c = g then [] :: splitL g r else match splitL g r with
    | [] => [[c]]
    | p :: ps => (c :: p) :: ps
/-- Texts with a sign between. -/
def joinL (g : UInt8) : List (List UInt8) → List UInt8
  | [] => []
  | [p] => p
  | p :: q :: r => p ++ g :: joinL g (q :: r)
/-- A name. -/
def nameB (s : List UInt8) : Bool := decide (1 ≤ s.length) && decide (s.length ≤ 64) && !(s == [46]) && !(s == [46, 46]) && s.all fun c => decide (33 ≤ c.toNat) && decide (c.toNat ≤ 126) && !(c == 47)
/-- A path. -/
def pathB (s : List UInt8) : Bool := decide (s.length ≤ 200) && (splitL 47 s).all nameB && decide ((splitL 47 s).length ≤ 8)
end Go.Proofs.Ytodlaikemoedfaa.Tx
/- marref.Split. -/
namespace Go.Proofs.Ytodlaikemoedfaa.Tx
open Go.RowKit Go.Proofs.Ytodlaikemoedfaa.Sh

end Go.Proofs.Ytodlaikemoedfaa.Tx
/- The reference's Name, Path, Split. -/
namespace Go.Proofs.Ytodlaikemoedfaa.Tx
open Go.RowKit Go.Proofs.Ytodlaikemoedfaa.Sh

def okc (c : UInt8) : Bool := decide (33 ≤ c.toNat) && decide (c.toNat ≤ 126) && !(c == 47)
theorem nameB_eq (s : List UInt8) : nameB s = (decide (1 ≤ s.length) && decide (s.length ≤ 64) && !(s == [46]) && !(s == [46, 46]) && s.all okc) := rfl
theorem nameB_bad {s : List UInt8} {k : Nat} {c : UInt8} (h : s[k]? = some c) (hc : okc c = false) : nameB s = false := by
  rw [nameB_eq]
  have : s.all okc = false := by
    rw [List.all_eq_false]
    exact ⟨c, List.mem_of_getElem? h, by rw [hc]; decide⟩
  rw [this, Bool.and_false]
theorem nameB_good {s : List UInt8} (h1 : 1 ≤ s.length) (h2 : s.length ≤ 64) (h3 : (s == [46]) = false) (h4 : (s == [46, 46]) = false) (h : ∀ (j : Nat) (c : UInt8), s[j]? = some c → okc c = true) : nameB s = true := by
  rw [nameB_eq, h3, h4]
  have : s.all okc = true := by
    rw [List.all_eq_true]
    intro x hx
    obtain ⟨i, hi⟩ := List.getElem?_of_mem hx
    exact h i x hi
  rw [this]
  simp [h1, h2]
theorem okc_cases (c : UInt8) : (okc c = false ∧ bi c < 33) ∨ (okc c = false ∧ 33 ≤ bi c ∧ 126 < bi c) ∨ (okc c = false ∧ 33 ≤ bi c ∧ bi c ≤ 126 ∧ c = 47) ∨ (okc c = true ∧ 33 ≤ bi c ∧ bi c ≤ 126 ∧ (bi c == 47) = false) := by
  have e : bi c = (c.toNat : Int) := by unfold bi; rfl
  rw [e]
  unfold okc
  by_cases h1 : c.toNat < 33
  · left; constructor
    · simp; omega
    · omega
  · by_cases h2 : 126 < c.toNat
    · right; left; refine ⟨by simp; omega, by omega, by omega⟩
    · by_cases h3 : c = 47
      · right; right; left; subst h3; exact ⟨by decide, by decide, by decide, rfl⟩
      · right; right; right
        refine ⟨by simp; exact ⟨⟨by omega, by omega⟩, h3⟩, by omega, by omega, ?_⟩
        rw [beq_eq_false_iff_ne]
        intro h
        exact h3 (UInt8.toNat_inj.1 (by show c.toNat = 47; omega))
end Go.Proofs.Ytodlaikemoedfaa.Tx
/- Package names: Name; wire.Has. -/
namespace Go.Proofs.Ytodlaikemoedfaa.Tx
open Go.RowKit Go.Proofs.Ytodlaikemoedfaa.Sh

theorem list_other_ {a b : List UInt8} (h : a ≠ b) : (a == b) = false := by simpa using h
theorem text_there_ {b : List UInt8} (h : 0 < b.length) : (str b).toList.isEmpty = false ∧ ((str b).toList == []) = false := by
  rw [str_toList]
  cases b with
  | nil => simp at h
  | cons c r => exact ⟨rfl, rfl⟩
set_option maxRecDepth 100000 in
set_option maxHeartbeats 1600000 in
theorem cname_any (cs : List UInt8) (w : World) : Calls Try.prog 68 #[.string (str cs)] w fun e w' => e = .returned (.bool (nameB cs)) ∧ w = w' := by
  have hsz := str_size cs
  have htl := str_toList cs
  obtain ⟨l, hL⟩ : ∃ l, cs.length = l := ⟨_, rfl⟩
  rw [hL] at hsz
  have HL := Lib.hid hL
  have n0 : (0 : Int) ≤ (l : Int) := by omega
  clear hL
  rcases Nat.eq_zero_or_pos l with h1 | h1
  · have HR : Hid (nameB cs = false) := by
      unfold Hid
      rw [nameB_eq, HL.out]
      simp [h1]
    have e0 : (str cs).toList.isEmpty = true := by
      have : cs = [] := List.eq_nil_of_length_eq_zero (by rw [HL.out]; exact h1)
      rw [htl, this]; rfl
    have e0' : ((str cs).toList == []) = true := by
      have : cs = [] := List.eq_nil_of_length_eq_zero (by rw [HL.out]; exact h1)
      rw [htl, this]; rfl
    clear htl h1 n0
    go_enter Try.func68, Try.ntmps68
    go_wp2
    go_ret
    exact ⟨by rw [HR.out]; rfl, rfl⟩
  · obtain ⟨e0, e0'⟩ : (str cs).toList.isEmpty = false ∧ ((str cs).toList == []) = false := text_there_ (by rw [HL.out]; exact h1)
    have z1 : (1 : Int) ≤ (l : Int) := by omega
    by_cases h3 : cs = [46]
    · have HR : Hid (nameB cs = false) := by subst h3; rfl
      have e1 : ((str cs).toList == [46]) = true := by rw [htl, h3]; rfl
      clear htl h3
      go_enter Try.func68, Try.ntmps68
      go_wp2
      go_ret
      exact ⟨by rw [HR.out]; rfl, rfl⟩
    · have e1 : ((str cs).toList == [46]) = false := by rw [htl]; exact list_other_ h3
      by_cases h4 : cs = [46, 46]
      · have HR : Hid (nameB cs = false) := by subst h4; rfl
        have e2 : ((str cs).toList == [46, 46]) = true := by rw [htl, h4]; rfl
        clear htl h3 h4
        go_enter Try.func68, Try.ntmps68
        go_wp2
        go_ret
        exact ⟨by rw [HR.out]; rfl, rfl⟩
      · have e2 : ((str cs).toList == [46, 46]) = false := by rw [htl]; exact list_other_ h4
        have H3 := Lib.hid h3
        have H4 := Lib.hid h4
        clear htl h3 h4
        by_cases h2 : 64 < l
        · have HR : Hid (nameB cs = false) := by
            unfold Hid
            rw [nameB_eq, HL.out]
            simp [show ¬ (l ≤ 64) from by omega]
          have z2 : (64 : Int) < (l : Int) := by omega
          go_enter Try.func68, Try.ntmps68
          go_wp2
          go_ret
          exact ⟨by rw [HR.out]; rfl, rfl⟩
        · have z2 : (l : Int) ≤ 64 := by omega
          go_enter Try.func68, Try.ntmps68
          go_wp2
          clear e0 e0' e1 e2
          go_loop [21] (fun i => ∃ k : Nat, k ≤ l ∧ i = .int .i64 k ∧ ∀ (j : Nat) (c : UInt8), j < k → cs[j]? = some c → okc c = true) (fun i => l - (intOf i).toNat)
          case atStart => exact ⟨0, by omega, rfl, fun j c hj => by omega⟩
          case round =>
            obtain ⟨k, hk, rfl, hok⟩ := hrel
            have HOK := Lib.hid hok
            clear hok
            have k0 : (0 : Int) ≤ (k : Int) := by omega
            by_cases hlt : k < l
            · have k1 : (k : Int) < (l : Int) := by omega
              have hkc : k < cs.length := by rw [HL.out]; exact hlt
              have hix := index_str cs k hkc
              obtain ⟨x, hx⟩ : ∃ x, cs.getD k 0 = x := ⟨_, rfl⟩
              have hx' : cs[k]? = some x := by rw [← hx, List.getD_eq_getElem?_getD, List.getElem?_eq_getElem hkc]; rfl
              rw [hx] at hix
              have HX := Lib.hid hx'
              clear hx hx' hkc
              rcases okc_cases x with ⟨ho, c1⟩ | ⟨ho, c1, c2⟩ | ⟨ho, c1, c2, c3⟩ | ⟨ho, c1, c2, c3⟩
              · have HR : Hid (nameB cs = false) := nameB_bad HX.out ho
                clear ho
                generalize bi x = y at *
                go_wp2
                go_ret
                exact ⟨by rw [HR.out]; rfl, rfl⟩
              · have HR : Hid (nameB cs = false) := nameB_bad HX.out ho
                clear ho
                generalize bi x = y at *
                go_wp2
                go_ret
                exact ⟨by rw [HR.out]; rfl, rfl⟩
              · have HR : Hid (nameB cs = false) := nameB_bad HX.out ho
                have hy : bi x = 47 := by subst c3; unfold bi; rfl
                rw [hy] at hix c1 c2
                clear ho c3 hy
                go_wp2
                go_ret
                exact ⟨by rw [HR.out]; rfl, rfl⟩
              · have HO := Lib.hid ho
                clear ho
                generalize bi x = y at *
                go_wp2
                go_round
                case rel =>
                  refine ⟨k + 1, by omega, by go_num, fun j c hj hc => ?_⟩
                  by_cases e : j = k
                  · subst e; rw [HX.out] at hc; injection hc with hc; subst hc; exact HO.out
                  · exact HOK.out j c (by omega) hc
                case measure => simp [intOf]; omega
            · have HR : Hid (nameB cs = true) := by
                unfold Hid
                refine nameB_good (by rw [HL.out]; omega) (by rw [HL.out]; omega) (list_other_ H3.out) (list_other_ H4.out) (fun j c hc => HOK.out j c ?_ hc)
                have := (List.getElem?_eq_some_iff.1 hc).1
                rw [HL.out] at this
                omega
              obtain rfl : k = l := by omega
              go_wp2
              go_ret
              exact ⟨by rw [HR.out]; rfl, rfl⟩
theorem add_field' (x : Addr) (m j : Nat) (hj : 0 < j) : x.add (m + j) = ⟨(x.add m).block, (x.add m).off + j, none⟩ := by
  unfold Addr.add
  by_cases hm : m = 0
  · subst hm
    rw [if_neg (by omega)]
    simp
  · rw [if_neg (by omega), if_neg hm]
    simp [Nat.add_assoc]
theorem toList_ne' {s t : ByteArray} (h : t ≠ s) : (t.toList == s.toList) = false := by
  rw [beq_eq_false_iff_ne]
  intro e
  rw [ByteArray.toList_eq, ByteArray.toList_eq] at e
  exact h (ByteArray.ext (Array.toList_inj.1 e))
end Go.Proofs.Ytodlaikemoedfaa.Tx
