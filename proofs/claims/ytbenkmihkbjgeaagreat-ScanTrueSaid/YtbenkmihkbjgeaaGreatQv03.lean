/- Texts put together: VTq0, VTn0, VTn1, VTn2. -/
import Derived.Test.YtbenkmihkbjgeaaGreatQv01
/- Texts cut at a sign, and joined: plain lists, no Go in it. -/
namespace Go.Proofs.YtbenkmihkbjgeaaGreat.Tx
def splitL (g : UInt8) : List UInt8 → List (List UInt8)
 | [] => [[]]
 | c :: r => if c = g then [] :: splitL g r else match splitL g r with
  | [] => [[c]]
  | p :: ps => (c :: p) :: ps
theorem splitL_ne (g : UInt8) (s : List UInt8) : splitL g s ≠ [] := by
 cases s with
 | nil => simp [splitL]
 | cons c r =>
  unfold splitL
  split
  ·simp
  ·split <;> simp
theorem splitL_cons_ne {g c : UInt8} (h : c ≠ g) (r : List UInt8) : ∃ p ps, splitL g r = p :: ps ∧ splitL g (c :: r) = (c :: p) :: ps := by
 obtain ⟨p, ps, e⟩ : ∃ p ps, splitL g r = p :: ps := by
  cases hr : splitL g r with
  | nil => exact absurd hr (splitL_ne g r)
  | cons p ps => exact ⟨p, ps, rfl⟩
 refine ⟨p, ps, e, ?_⟩
 rw [splitL, if_neg h, e]
theorem splitL_sign (g : UInt8) (r : List UInt8) : splitL g (g :: r) = [] :: splitL g r := by rw [splitL, if_pos rfl]
theorem splitL_none {g : UInt8} : ∀ {l : List UInt8}, g ∉ l → splitL g l = [l]
 | [], _ => rfl
 | c :: r, h => by
  have hc : c ≠ g := fun e => h (by rw [e]; exact List.mem_cons_self)
  obtain ⟨p, ps, e1, e2⟩ := splitL_cons_ne hc r
  have := splitL_none (l := r) (fun hm => h (List.mem_cons_of_mem _ hm))
  rw [this] at e1
  injection e1 with e3 e4
  rw [e2, ← e3, ← e4]
theorem splitL_cut {g : UInt8} : ∀ {a : List UInt8}, g ∉ a → ∀ b, splitL g (a ++ g :: b) = a :: splitL g b
 | [], _, b => splitL_sign g b
 | c :: r, h, b => by
  have hc : c ≠ g := fun e => h (by rw [e]; exact List.mem_cons_self)
  obtain ⟨p, ps, e1, e2⟩ := splitL_cons_ne hc (r ++ g :: b)
  rw [splitL_cut (a := r) (fun hm => h (List.mem_cons_of_mem _ hm)) b] at e1
  injection e1 with e3 e4
  rw [List.cons_append, e2, ← e3, ← e4]
theorem splitL_mem {g : UInt8} : ∀ {s p : List UInt8}, p ∈ splitL g s → g ∉ p
 | [], p, h => by simp [splitL] at h; subst h; simp
 | c :: r, p, h => by
  by_cases hc : c = g
  ·subst hc
   rw [splitL_sign] at h
   rcases List.mem_cons.1 h with rfl | h
   ·simp
   ·exact splitL_mem h
  ·obtain ⟨q, qs, e1, e2⟩ := splitL_cons_ne hc r
   rw [e2] at h
   rcases List.mem_cons.1 h with rfl | h
   ·intro hm
    rcases List.mem_cons.1 hm with e | hm
    ·exact hc e.symm
    ·exact splitL_mem (s := r) (by rw [e1]; exact List.mem_cons_self) hm
   ·exact splitL_mem (s := r) (by rw [e1]; exact List.mem_cons_of_mem _ h)
theorem splitL_length (g : UInt8) : ∀ s : List UInt8, (splitL g s).length = s.count g + 1
 | [] => rfl
 | c :: r => by
  by_cases hc : c = g
  ·subst hc
   rw [splitL_sign, List.length_cons, splitL_length c r, List.count_cons_self]
  ·obtain ⟨q, qs, e1, e2⟩ := splitL_cons_ne hc r
   have := splitL_length g r
   rw [e1] at this
   rw [e2, List.length_cons, List.count_cons_of_ne hc]
   simpa using this
theorem splitL_length_le (g : UInt8) (s : List UInt8) : (splitL g s).length ≤ s.length + 1 := by
 rw [splitL_length]
 have := List.count_le_length (a := g) (l := s)
 omega
def joinL (g : UInt8) : List (List UInt8) → List UInt8
 | [] => []
 | [p] => p
 | p :: q :: r => p ++ g :: joinL g (q :: r)
theorem joinL_cons {g : UInt8} {p : List UInt8} {ps : List (List UInt8)} (h : ps ≠ []) : joinL g (p :: ps) = p ++ g :: joinL g ps := by
 cases ps with
 | nil => exact absurd rfl h
 | cons q r => rfl
theorem joinL_splitL (g : UInt8) : ∀ s : List UInt8, joinL g (splitL g s) = s
 | [] => rfl
 | c :: r => by
  by_cases hc : c = g
  ·subst hc
   rw [splitL_sign, joinL_cons (splitL_ne _ _), joinL_splitL c r]
   rfl
  ·obtain ⟨q, qs, e1, e2⟩ := splitL_cons_ne hc r
   have := joinL_splitL g r
   rw [e1] at this
   rw [e2]
   cases qs with
   | nil => simp [joinL] at this ⊢; exact this
   | cons t ts =>
    rw [joinL_cons (by simp)] at this ⊢
    rw [List.cons_append, this]
theorem drop_cut (s : List UInt8) (fr k : Nat) (h1 : fr ≤ k) (h2 : k < s.length) : s.drop fr = (s.take k).drop fr ++ s[k] :: s.drop (k + 1) := by
 have e : s = s.take k ++ s[k] :: s.drop (k + 1) := by
  rw [← List.drop_eq_getElem_cons h2, List.take_append_drop]
 have hl : fr ≤ (s.take k).length := by simp; omega
 conv => lhs; rw [e]
 rw [List.drop_append_of_le_length hl]
theorem not_mem_cut {s : List UInt8} {g : UInt8} {fr k : Nat} (h : ∀ j, fr ≤ j → j < k → s[j]? ≠ some g) : g ∉ (s.take k).drop fr := by
 intro hm
 obtain ⟨i, hi, e⟩ := List.getElem_of_mem hm
 have hi' : fr + i < (s.take k).length := by simp at hi ⊢; omega
 have e2 : (s.take k)[fr + i]'hi' = g := by rw [← e, List.getElem_drop]
 have hk : fr + i < k := by simp at hi'; omega
 refine h (fr + i) (by omega) hk ?_
 rw [List.getElem_take] at e2
 rw [List.getElem?_eq_getElem (by simp at hi'; omega), e2]
def nameB (s : List UInt8) : Bool := decide (1 ≤ s.length) && decide (s.length ≤ 64) && !(s == [46]) && !(s == [46, 46]) && s.all fun c => decide (33 ≤ c.toNat) && decide (c.toNat ≤ 126) && !(c == 47)
def pathB (s : List UInt8) : Bool := decide (s.length ≤ 200) && (splitL 47 s).all nameB && decide ((splitL 47 s).length ≤ 8)
end Go.Proofs.YtbenkmihkbjgeaaGreat.Tx
/- marref.Split. -/
namespace Go.Proofs.YtbenkmihkbjgeaaGreat.Tx
open Go.RowKit Go.Proofs.YtbenkmihkbjgeaaGreat.Sh
theorem slice_str (cs : List UInt8) (a b : Nat) : (str cs).extract a b = str ((cs.take b).drop a) := by
 unfold str
 apply ByteArray.ext
 rw [ByteArray.data_extract]
 apply Array.ext'
 rw [Array.toList_extract, List.extract_eq_take_drop, List.drop_take]
set_option maxRecDepth 100000 in
set_option maxHeartbeats 800000 in
theorem rsplit_any (cs : List UInt8) (g : UInt8) (w : World) (hn : cs.length ≤ 1000000) : Calls Tryz.prog 142 #[.string (str cs), .int .u8 (bi g)] w (TextsPost w ((splitL g cs).map str)) := by
 have hsz := str_size cs
 obtain ⟨l, hL⟩ : ∃ l, cs.length = l := ⟨_, rfl⟩
 rw [hL] at hsz hn
 have HL := Lib.hid hL
 clear hL
 go_enter Tryz.func142, Tryz.ntmps142
 go_wp2_with fail
 go_loopw [5, 6, 7] (fun v fr i wr => ∃ (k f : Nat) (ps : List (List UInt8)), k ≤ l + 1 ∧ f ≤ k ∧ ps.length ≤ f ∧ i = .int .i64 k ∧ fr = .int .i64 f ∧ (∀ j, f ≤ j → j < k → cs[j]? ≠ some g) ∧
   ((k ≤ l ∧ splitL g cs = ps ++ splitL g (cs.drop f)) ∨ (k = l + 1 ∧ f = k ∧ splitL g cs = ps)) ∧ OwnV 9 wr w.heap.size v ((ps.map str).map sv) ∧ Below w.heap.size w wr) (fun _ _ i _ => l + 1 - (intOf i).toNat)
 case atStart => exact ⟨0, 0, [], by omega, by omega, by simp, rfl, rfl, fun j h1 h2 => by omega, .inl ⟨by omega, by simp⟩, OwnV.nil_ _ _, Below.refl _ _⟩
 case round =>
  obtain ⟨k, f, ps, hk, hf, hpl, rfl, rfl, hno, hst, ho, hb⟩ := hrel
  have HO := Lib.hid ho
  have HB := Lib.hid hb
  have HNO := Lib.hid hno
  have hwz := hb.size
  clear ho hb hno
  have k0 : (0 : Int) ≤ (k : Int) := by omega
  have f0 : (0 : Int) ≤ (f : Int) := by omega
  have fk : (f : Int) ≤ (k : Int) := by omega
  by_cases hlt : k < l
  ·have k1 : (k : Int) < (l : Int) := by omega
   have k2 : (k : Int) ≤ (l : Int) := by omega
   have k3 : ((k : Int) == (l : Int)) = false := by rw [beq_eq_false_iff_ne]; omega
   have hkc : k < cs.length := by rw [HL.out]; exact hlt
   have hix := index_str cs k hkc
   obtain ⟨x, hx⟩ : ∃ x, cs.getD k 0 = x := ⟨_, rfl⟩
   have hx' : cs[k]? = some x := by rw [← hx, List.getD_eq_getElem?_getD, List.getElem?_eq_getElem hkc]; rfl
   rw [hx] at hix
   have HX := Lib.hid hx'
   obtain ⟨_, hs⟩ | ⟨h0, _⟩ := hst
   rotate_left
   ·omega
   have HS := Lib.hid hs
   clear hs hx hx' hkc
   by_cases hg : x = g
   ·subst hg
    have e1 : (bi x == bi x) = true := beq_self_eq_true _
    have hsm : (ps.map str).length + 1 ≤ 2000000 := by rw [List.length_map]; omega
    go_wp2_with (at_builtin; refine append_text rfl (.tmp 25) (.tmp 30) rfl wr w.heap.size u5 (ps.map str) rfl HO.out ((str cs).extract f k) rfl hsm hwz ?_; intro v3 w3 ho3 hb3; have HO3 := Lib.hid ho3; have HB3 := Lib.hid hb3; clear ho3 hb3)
    go_roundw
    case rel =>
     have hlk : k < cs.length := by rw [HL.out]; exact hlt
     refine ⟨k + 1, k + 1, ps ++ [(cs.take k).drop f], by omega, by omega, by simp; omega, by go_num, by go_num, fun j h1 h2 => by omega, .inl ⟨by omega, ?_⟩, ?_, HB.out.trans (HB3.out.mono (Nat.le_refl _))⟩
     ·rw [HS.out, drop_cut cs f k hf hlk]
      have hx2 : cs[k] = x := by have := HX.out; rw [List.getElem?_eq_getElem hlk] at this; injection this
      rw [hx2, splitL_cut (not_mem_cut HNO.out), List.append_assoc]
      rfl
     ·have := HO3.out
      rw [slice_str] at this
      simpa using this
    case measure => simp [intOf]; omega
   ·have e1 : (bi x == bi g) = false := by rw [beq_eq_false_iff_ne]; exact fun e => hg (bi_inj e)
    go_wp2
    go_roundw
    case rel =>
     refine ⟨k + 1, f, ps, by omega, by omega, hpl, by go_num, rfl, fun j h1 h2 => ?_, .inl ⟨by omega, HS.out⟩, HO.out, HB.out⟩
     by_cases hj : j = k
     ·subst hj; rw [HX.out]; exact fun e => hg (by injection e)
     ·exact HNO.out j h1 (by omega)
    case measure => simp [intOf]; omega
  ·by_cases hl2 : k = l
   ·subst hl2
    have k2 : (k : Int) ≤ (k : Int) := Int.le_refl _
    have k3 : ((k : Int) == (k : Int)) = true := beq_self_eq_true _
    obtain ⟨_, hs⟩ | ⟨h0, _⟩ := hst
    rotate_left
    ·omega
    have HS := Lib.hid hs
    clear hs
    have hsm : (ps.map str).length + 1 ≤ 2000000 := by rw [List.length_map]; omega
    go_wp2_with (at_builtin; refine append_text rfl (.tmp 25) (.tmp 30) rfl wr w.heap.size u5 (ps.map str) rfl HO.out ((str cs).extract f k) rfl hsm hwz ?_; intro v3 w3 ho3 hb3; have HO3 := Lib.hid ho3; have HB3 := Lib.hid hb3; clear ho3 hb3)
    go_roundw
    case rel =>
     refine ⟨k + 1, k + 1, ps ++ [(cs.take k).drop f], by omega, by omega, by simp; omega, by go_num, by go_num, fun j h1 h2 => by omega, .inr ⟨rfl, rfl, ?_⟩, ?_, HB.out.trans (HB3.out.mono (Nat.le_refl _))⟩
     ·rw [HS.out]
      have h1 := not_mem_cut HNO.out
      rw [List.take_of_length_le (by rw [HL.out]; exact Nat.le_refl _)] at h1 ⊢
      rw [splitL_none h1]
     ·have := HO3.out
      rw [slice_str] at this
      simpa using this
    case measure => simp [intOf]
   ·obtain ⟨h0, _⟩ | ⟨h0, h1, hs⟩ := hst
    ·omega
    subst h0
    have HS := Lib.hid hs
    have k2 : ¬ (((l + 1 : Nat) : Int) ≤ (l : Int)) := by omega
    have k3 : (l : Int) < ((l + 1 : Nat) : Int) := by omega
    clear hs h1
    go_wp2
    go_ret
    exact ⟨u5, rfl, by rw [HS.out]; exact HO.out, HB.out⟩
end Go.Proofs.YtbenkmihkbjgeaaGreat.Tx
/- The reference's Name, Path, Split. -/
namespace Go.Proofs.YtbenkmihkbjgeaaGreat.Tx
open Go.RowKit Go.Proofs.YtbenkmihkbjgeaaGreat.Sh
def okc (c : UInt8) : Bool := decide (33 ≤ c.toNat) && decide (c.toNat ≤ 126) && !(c == 47)
theorem nameB_eq (s : List UInt8) : nameB s = (decide (1 ≤ s.length) && decide (s.length ≤ 64) && !(s == [46]) && !(s == [46, 46]) && s.all okc) := rfl
theorem nameB_bad {s : List UInt8} {k : Nat} {c : UInt8} (h : s[k]? = some c) (hc : okc c = false) : nameB s = false := by
 rw [nameB_eq]
 have : s.all okc = false := by
  rw [List.all_eq_false]
  exact ⟨c, List.mem_of_getElem? h, by rw [hc]; decide⟩
 rw [this, Bool.and_false]
theorem nameB_good {s : List UInt8} (h1 : 1 ≤ s.length) (h2 : s.length ≤ 64) (h3 : (s == [46]) = false) (h4 : (s == [46, 46]) = false) (h : ∀ (j : Nat) (c : UInt8), s[j]? = some c → okc c = true) : nameB s = true := by
 rw [nameB_eq, h3, h4]
 have : s.all okc = true := by
  rw [List.all_eq_true]
  intro x hx
  obtain ⟨i, hi⟩ := List.getElem?_of_mem hx
  exact h i x hi
 rw [this]
 simp [h1, h2]
theorem okc_cases (c : UInt8) : (okc c = false ∧ bi c < 33) ∨ (okc c = false ∧ 33 ≤ bi c ∧ 126 < bi c) ∨ (okc c = false ∧ 33 ≤ bi c ∧ bi c ≤ 126 ∧ c = 47) ∨ (okc c = true ∧ 33 ≤ bi c ∧ bi c ≤ 126 ∧ (bi c == 47) = false) := by
 have e : bi c = (c.toNat : Int) := by unfold bi; rfl
 rw [e]
 unfold okc
 by_cases h1 : c.toNat < 33
 ·left; constructor
  ·simp; omega
  ·omega
 ·by_cases h2 : 126 < c.toNat
  ·right; left; refine ⟨by simp; omega, by omega, by omega⟩
  ·by_cases h3 : c = 47
   ·right; right; left; subst h3; exact ⟨by decide, by decide, by decide, rfl⟩
   ·right; right; right
    refine ⟨by simp; exact ⟨⟨by omega, by omega⟩, h3⟩, by omega, by omega, ?_⟩
    rw [beq_eq_false_iff_ne]
    intro h
    exact h3 (UInt8.toNat_inj.1 (by show c.toNat = 47; omega))
theorem list_other {a b : List UInt8} (h : a ≠ b) : (a == b) = false := by simpa using h
set_option maxRecDepth 100000 in
set_option maxHeartbeats 1600000 in
theorem rname_any (cs : List UInt8) (w : World) (hn : cs.length ≤ 1000000) : Calls Tryz.prog 143 #[.string (str cs)] w fun e w' => e = .returned (.bool (nameB cs)) ∧ w = w' := by
 have hsz := str_size cs
 have htl := str_toList cs
 obtain ⟨l, hL⟩ : ∃ l, cs.length = l := ⟨_, rfl⟩
 rw [hL] at hsz hn
 have HL := Lib.hid hL
 have n0 : (0 : Int) ≤ (l : Int) := by omega
 clear hL
 by_cases h1 : l < 1
 ·have HR : Hid (nameB cs = false) := by
   unfold Hid
   rw [nameB_eq, HL.out]
   simp [show ¬ (1 ≤ l) from by omega]
  obtain rfl : l = 0 := by omega
  clear htl h1 n0
  go_enter Tryz.func143, Tryz.ntmps143
  go_wp2
  go_ret
  exact ⟨by rw [HR.out]; rfl, rfl⟩
 ·by_cases h2 : 64 < l
  ·have HR : Hid (nameB cs = false) := by
    unfold Hid
    rw [nameB_eq, HL.out]
    simp [show ¬ (l ≤ 64) from by omega]
   have z1 : (1 : Int) ≤ (l : Int) := by omega
   have z2 : (64 : Int) < (l : Int) := by omega
   clear htl
   go_enter Tryz.func143, Tryz.ntmps143
   go_wp2
   go_ret
   exact ⟨by rw [HR.out]; rfl, rfl⟩
  ·have z1 : (1 : Int) ≤ (l : Int) := by omega
   have z2 : (l : Int) ≤ 64 := by omega
   by_cases h3 : cs = [46]
   ·have HR : Hid (nameB cs = false) := by subst h3; rfl
    have e1 : ((str cs).toList == [46]) = true := by rw [htl, h3]; rfl
    clear htl h3
    go_enter Tryz.func143, Tryz.ntmps143
    go_wp2
    go_ret
    exact ⟨by rw [HR.out]; rfl, rfl⟩
   ·have e1 : ((str cs).toList == [46]) = false := by rw [htl]; exact list_other h3
    by_cases h4 : cs = [46, 46]
    ·have HR : Hid (nameB cs = false) := by subst h4; rfl
     have e2 : ((str cs).toList == [46, 46]) = true := by rw [htl, h4]; rfl
     clear htl h3 h4
     go_enter Tryz.func143, Tryz.ntmps143
     go_wp2
     go_ret
     exact ⟨by rw [HR.out]; rfl, rfl⟩
    ·have e2 : ((str cs).toList == [46, 46]) = false := by rw [htl]; exact list_other h4
     have H3 := Lib.hid h3
     have H4 := Lib.hid h4
     clear htl h3 h4
     go_enter Tryz.func143, Tryz.ntmps143
     go_wp2
     clear e1 e2
     go_loop [3] (fun i => ∃ k : Nat, k ≤ l ∧ i = .int .i64 k ∧ ∀ (j : Nat) (c : UInt8), j < k → cs[j]? = some c → okc c = true) (fun i => l - (intOf i).toNat)
     case atStart => exact ⟨0, by omega, rfl, fun j c hj => by omega⟩
     case round =>
      obtain ⟨k, hk, rfl, hok⟩ := hrel
      have HOK := Lib.hid hok
      clear hok
      have k0 : (0 : Int) ≤ (k : Int) := by omega
      by_cases hlt : k < l
      ·have k1 : (k : Int) < (l : Int) := by omega
       have hkc : k < cs.length := by rw [HL.out]; exact hlt
       have hix := index_str cs k hkc
       obtain ⟨x, hx⟩ : ∃ x, cs.getD k 0 = x := ⟨_, rfl⟩
       have hx' : cs[k]? = some x := by rw [← hx, List.getD_eq_getElem?_getD, List.getElem?_eq_getElem hkc]; rfl
       rw [hx] at hix
       have HX := Lib.hid hx'
       clear hx hx' hkc
       rcases okc_cases x with ⟨ho, c1⟩ | ⟨ho, c1, c2⟩ | ⟨ho, c1, c2, c3⟩ | ⟨ho, c1, c2, c3⟩
       ·have HR : Hid (nameB cs = false) := nameB_bad HX.out ho
        clear ho
        generalize bi x = y at *
        go_wp2
        go_ret
        exact ⟨by rw [HR.out]; rfl, rfl⟩
       ·have HR : Hid (nameB cs = false) := nameB_bad HX.out ho
        clear ho
        generalize bi x = y at *
        go_wp2
        go_ret
        exact ⟨by rw [HR.out]; rfl, rfl⟩
       ·have HR : Hid (nameB cs = false) := nameB_bad HX.out ho
        have hy : bi x = 47 := by subst c3; unfold bi; rfl
        rw [hy] at hix c1 c2
        clear ho c3 hy
        go_wp2
        go_ret
        exact ⟨by rw [HR.out]; rfl, rfl⟩
       ·have HO := Lib.hid ho
        clear ho
        generalize bi x = y at *
        go_wp2
        go_round
        case rel =>
         refine ⟨k + 1, by omega, by go_num, fun j c hj hc => ?_⟩
         by_cases e : j = k
         ·subst e; rw [HX.out] at hc; injection hc with hc; subst hc; exact HO.out
         ·exact HOK.out j c (by omega) hc
        case measure => simp [intOf]; omega
      ·have HR : Hid (nameB cs = true) := by
        unfold Hid
        refine nameB_good (by rw [HL.out]; omega) (by rw [HL.out]; omega) (list_other H3.out) (list_other H4.out) (fun j c hc => HOK.out j c ?_ hc)
        have := (List.getElem?_eq_some_iff.1 hc).1
        rw [HL.out] at this
        omega
       obtain rfl : k = l := by omega
       go_wp2
       go_ret
       exact ⟨by rw [HR.out]; rfl, rfl⟩
end Go.Proofs.YtbenkmihkbjgeaaGreat.Tx
/- The reference's Path, Split. -/
namespace Go.Proofs.YtbenkmihkbjgeaaGreat.Tx
open Go.RowKit Go.Proofs.YtbenkmihkbjgeaaGreat.Sh
def BoolPost (w : World) (t : Bool) (e : Ending) (w' : World) : Prop := e = .returned (.bool t) ∧ Below w.heap.size w w'
theorem piece_len {g : UInt8} : ∀ {s p : List UInt8}, p ∈ splitL g s → p.length ≤ s.length
 | [], p, h => by simp [splitL] at h; subst h; simp
 | c :: r, p, h => by
  by_cases hc : c = g
  ·subst hc
   rw [splitL_sign] at h
   rcases List.mem_cons.1 h with rfl | h
   ·simp
   ·have := piece_len h; simp; omega
  ·obtain ⟨q, qs, e1, e2⟩ := splitL_cons_ne hc r
   rw [e2] at h
   rcases List.mem_cons.1 h with rfl | h
   ·have := piece_len (s := r) (p := q) (by rw [e1]; exact List.mem_cons_self)
    simp; omega
   ·have := piece_len (s := r) (p := p) (by rw [e1]; exact List.mem_cons_of_mem _ h)
    simp; omega
theorem pathB_long {s : List UInt8} (h : 200 < s.length) : pathB s = false := by
 unfold pathB
 simp [show ¬ (s.length ≤ 200) from by omega]
theorem pathB_bad {s : List UInt8} {k : Nat} (hk : k < (splitL 47 s).length) (h : nameB (splitL 47 s)[k] = false) : pathB s = false := by
 unfold pathB
 have : (splitL 47 s).all nameB = false := by
  rw [List.all_eq_false]
  exact ⟨_, List.getElem_mem hk, by rw [h]; decide⟩
 rw [this, Bool.and_false, Bool.false_and]
theorem pathB_good {s : List UInt8} (h1 : s.length ≤ 200) (h : ∀ (k : Nat) (hk : k < (splitL 47 s).length), nameB (splitL 47 s)[k] = true) : pathB s = decide ((splitL 47 s).length ≤ 8) := by
 unfold pathB
 have : (splitL 47 s).all nameB = true := by
  rw [List.all_eq_true]
  intro x hx
  obtain ⟨i, hi, rfl⟩ := List.getElem_of_mem hx
  exact h i hi
 rw [this]
 simp [h1]
theorem pathB_len {s : List UInt8} (h : pathB s = true) : s.length ≤ 200 := by
 unfold pathB at h
 simp at h
 exact h.1.1
theorem bi47 : bi 47 = 47 := by unfold bi; rfl
theorem sign47 (cs : List UInt8) (w : World) (hn : cs.length ≤ 1000000) : Calls Tryz.prog 142 #[.string (str cs), .int .u8 47] w (TextsPost w ((splitL 47 cs).map str)) := by
 have h := rsplit_any cs 47 w hn
 rw [bi47] at h
 exact h
theorem piece_at {w : World} {B : Nat} {ps : List (List UInt8)} {A : Option Addr} {n c : Nat} (h : OwnV 9 w B (.slice A n c) ((ps.map str).map sv)) (k : Nat) (hk : k < ps.length) : ∃ ad, A = some ad ∧ w.cell? (ad.add k) = some (.string (str ps[k])) := by
 obtain ⟨A', c', hv, _, _, hr⟩ := h.slv.len
 injection hv with e1 e2 e3
 subst e1
 obtain ⟨ad, h1, h2⟩ := reads_at hr k (sv (str ps[k])) (by rw [List.map_map, List.getElem?_map, List.getElem?_eq_getElem hk]; rfl)
 exact ⟨ad, h1, h2⟩
set_option maxRecDepth 100000 in
set_option maxHeartbeats 1600000 in
theorem rpath_any (cs : List UInt8) (w : World) (hn : cs.length ≤ 1000000) : Calls Tryz.prog 93 #[.string (str cs)] w (BoolPost w (pathB cs)) := by
 have hsz := str_size cs
 obtain ⟨l, hL⟩ : ∃ l, cs.length = l := ⟨_, rfl⟩
 rw [hL] at hsz hn
 have HL := Lib.hid hL
 have n0 : (0 : Int) ≤ (l : Int) := by omega
 clear hL
 by_cases h1 : 200 < l
 ·have HR : Hid (pathB cs = false) := pathB_long (by rw [HL.out]; exact h1)
  have z1 : (200 : Int) < (l : Int) := by omega
  go_enter Tryz.func93, Tryz.ntmps93
  go_wp2
  go_ret
  exact ⟨by rw [HR.out]; rfl, Below.refl _ _⟩
 ·have z1 : (l : Int) ≤ 200 := by omega
  have h200 : l ≤ 200 := by omega
  clear h1
  go_enter Tryz.func93, Tryz.ntmps93
  go_wp2_with fail
  refine (sign47 cs _ (by rw [HL.out]; exact hn)).mono ?_
  rintro e w1 ⟨v, rfl, ho, hb⟩
  obtain ⟨A, c, rfl, hlc, hcm⟩ := ho.length
  obtain ⟨n, hN⟩ : ∃ n, (splitL 47 cs).length = n := ⟨_, rfl⟩
  rw [List.length_map, List.length_map, hN] at ho hlc ⊢
  unfold maxLen at hcm
  have hn201 : n ≤ 201 := by rw [← hN]; have := splitL_length_le 47 cs; rw [HL.out] at this; omega
  have HN := Lib.hid hN
  have HO := Lib.hid ho
  have HB := Lib.hid hb
  clear ho hb hN
  go_wp2_with fail
  go_loop [4] (fun i => ∃ k : Nat, k ≤ n ∧ i = .int .i64 k ∧ ∀ (j : Nat) (hj : j < (splitL 47 cs).length), j < k → nameB (splitL 47 cs)[j] = true) (fun i => n - (intOf i).toNat)
  case atStart => exact ⟨0, by omega, rfl, fun j _ hj => by omega⟩
  case round =>
   obtain ⟨k, hk, rfl, hok⟩ := hrel
   have HOK := Lib.hid hok
   clear hok
   have k0 : (0 : Int) ≤ (k : Int) := by omega
   by_cases hlt : k < n
   ·have k1 : (k : Int) < (n : Int) := by omega
    have hkp : k < (splitL 47 cs).length := by rw [HN.out]; exact hlt
    obtain ⟨ad, rfl, hcell⟩ := piece_at HO.out k hkp
    have hpl := piece_len (List.getElem_mem hkp)
    obtain ⟨p, hp⟩ : ∃ p, (splitL 47 cs)[k] = p := ⟨_, rfl⟩
    rw [hp] at hcell hpl
    have HP := Lib.hid hp
    rw [HL.out] at hpl
    clear hp
    go_wp2_with fail
    refine (rname_any p _ (by omega)).mono ?_
    rintro e w2 ⟨rfl, rfl⟩
    obtain ⟨t, ht⟩ : ∃ t, nameB p = t := ⟨_, rfl⟩
    rw [ht]
    have HT := Lib.hid ht
    clear ht
    cases t with
    | false =>
     have HR : Hid (pathB cs = false) := pathB_bad hkp (by rw [HP.out]; exact HT.out)
     go_wp2
     go_ret
     exact ⟨by rw [HR.out]; rfl, HB.out⟩
    | true =>
     go_wp2
     go_round
     case rel =>
      refine ⟨k + 1, by omega, by go_num, fun j hj hjk => ?_⟩
      by_cases e : j = k
      ·subst e; rw [HP.out]; exact HT.out
      ·exact HOK.out j hj (by omega)
     case measure => simp [intOf]; omega
   ·obtain rfl : k = n := by omega
    have HR : Hid (pathB cs = decide (k ≤ 8)) := by
     unfold Hid
     rw [pathB_good (by rw [HL.out]; exact h200) (fun j hj => HOK.out j hj (by rw [HN.out] at hj; exact hj)), HN.out]
    by_cases h8 : k ≤ 8
    ·have z8 : (k : Int) ≤ 8 := by omega
     go_wp2
     go_ret
     exact ⟨by rw [HR.out]; simp [h8], HB.out⟩
    ·have z8 : (8 : Int) < (k : Int) := by omega
     go_wp2
     go_ret
     exact ⟨by rw [HR.out]; simp [h8]; omega, HB.out⟩
set_option maxRecDepth 100000 in
set_option maxHeartbeats 400000 in
theorem rnames_any (cs : List UInt8) (w : World) (hn : cs.length ≤ 1000000) : Calls Tryz.prog 113 #[.string (str cs)] w (TextsPost w (if pathB cs = true then (splitL 47 cs).map str else [])) := by
 obtain ⟨t, ht⟩ : ∃ t, pathB cs = t := ⟨_, rfl⟩
 have HT := Lib.hid ht
 rw [ht]
 clear ht
 cases t with
 | false =>
  go_enter Tryz.func113, Tryz.ntmps113
  go_wp2_with fail
  refine (rpath_any cs _ hn).mono ?_
  rintro e w1 ⟨rfl, hb⟩
  rw [HT.out]
  have HB := Lib.hid hb
  clear hb
  go_wp2_with fail
  go_ret
  exact ⟨_, rfl, OwnV.nil_ _ _, HB.out⟩
 | true =>
  go_enter Tryz.func113, Tryz.ntmps113
  go_wp2_with fail
  refine (rpath_any cs _ hn).mono ?_
  rintro e w1 ⟨rfl, hb⟩
  rw [HT.out]
  have HB := Lib.hid hb
  clear hb
  go_wp2_with fail
  refine (sign47 cs _ hn).mono ?_
  rintro e w2 ⟨v, rfl, ho, hb⟩
  have HO := Lib.hid (ho.base HB.out.size)
  have HB2 := Lib.hid (HB.out.trans (hb.mono HB.out.size))
  clear ho hb
  go_wp2_with fail
  go_ret
  exact ⟨v, rfl, HO.out, HB2.out⟩
end Go.Proofs.YtbenkmihkbjgeaaGreat.Tx
