/- Texts put together: USr7, UShQ0, UShR0, UShR1, UShN0, UShN1, UShN2, UShN3, UOb1, UOb0, UOb2, UOb3. -/
import Derived.Test.YtbenkmihkbjgeaaGreatQu27
import Derived.Test.YtbenkmihkbjgeaaGreatQu29
import Derived.Test.YtbenkmihkbjgeaaGreatQu26
import Derived.Test.YtbenkmihkbjgeaaGreatQu30
import Derived.Test.YtbenkmihkbjgeaaGreatQu32
import Derived.Test.YtbenkmihkbjgeaaGreatQu01
import Derived.Test.YtbenkmihkbjgeaaGreatQu23
import Derived.IntWalk
import Derived.Test.YtbenkmihkbjgeaaGreatQu03
/- What a store's caller keeps beside it: a slice of texts of its own; the file system's calls beside. -/
set_option linter.unusedVariables false
set_option linter.unusedSimpArgs false
namespace Go.Proofs.YtbenkmihkbjgeaaGreat.Tx
open Go.RowKit Go.Maps Go.Proofs.YtbenkmihkbjgeaaGreat.Sh
abbrev domS {A B : Prop} (_ : A → B) : Prop := A
section
variable {w w1 : World} {b : Nat} {c : CSt}
end
section
variable {w w1 w2 : World} {b g i s : Nat} {c c' : CSt} {Z Z' M : Nat → Prop}
theorem MineP.grow (h : MineP w w1 b c Z) (ho : Only M w1 w2) (hM : ∀ k, M k → Z k ∧ w.heap.size ≤ k) (hz : ∀ k, Z' k → Z k ∨ (w1.heap.size ≤ k ∧ k < w2.heap.size)) : MineP w w2 b c Z' := by
 obtain ⟨F, Mf, h1, h2, h3, h4⟩ := h
 refine ⟨F, Mf, h1.only ho (fun k hk e => (h4 k (hM k e).1).1 hk) (fun k hk e => (h4 k (hM k e).1).2.1 hk), h2, ((Only.of_below (M := fun _ => False) h3).trans ho (fun k hk => .inr (hM k hk).2)).below, fun k hk => ?_⟩
 rcases hz k hk with hk | ⟨k1, k2⟩
 ·exact ⟨(h4 k hk).1, (h4 k hk).2.1, Nat.lt_of_lt_of_le (h4 k hk).2.2 ho.size⟩
 ·refine ⟨fun hf => ?_, fun hm => ?_, k2⟩
  ·have := h1.low _ hf; omega
  ·have := h1.lt _ hm; omega
def Told (w w1 : World) (b : Nat) (c : CSt) (s : Nat) (v : Value) (ts : List (List UInt8)) : Prop :=
 StAt w w1 b c s (fun k => v.ownBlock = some k) ∧ OwnV 9 w1 w.heap.size v ((ts.map str).map sv)
end
end Go.Proofs.YtbenkmihkbjgeaaGreat.Tx
/- Numbers in groups of seven bits: plain lists, no Go in it. -/
namespace Go.Proofs.YtbenkmihkbjgeaaGreat.Sh
def putL (n : Nat) : List UInt8 := if n < 128 then [UInt8.ofNat n] else UInt8.ofNat (n % 128 + 128) :: putL (n / 128)
termination_by n
decreasing_by omega
theorem putL_lt {n : Nat} (h : n < 128) : putL n = [UInt8.ofNat n] := by rw [putL, if_pos h]
theorem putL_ge {n : Nat} (h : 128 ≤ n) : putL n = UInt8.ofNat (n % 128 + 128) :: putL (n / 128) := by rw [putL, if_neg (by omega)]
theorem putL_pos (n : Nat) : 0 < (putL n).length := by
 by_cases h : n < 128
 ·rw [putL_lt h]; simp
 ·rw [putL_ge (by omega)]; simp
theorem putL_len (k : Nat) : ∀ n, n < 128 ^ (k + 1) → (putL n).length ≤ k + 1 := by
 induction k with
 | zero => intro n h; rw [putL_lt (by simpa using h)]; simp
 | succ k ih =>
  intro n h
  by_cases h1 : n < 128
  ·rw [putL_lt h1]; simp
  ·rw [putL_ge (by omega), List.length_cons]
   have : n / 128 < 128 ^ (k + 1) := by
    rw [Nat.div_lt_iff_lt_mul (by omega), ← Nat.pow_succ]; exact h
   have := ih _ this
   omega
theorem putL_len9 {n : Nat} (h : n ≤ 72057594037927936) : (putL n).length ≤ 9 := putL_len 8 n (by
 have : (128 : Nat) ^ (8 + 1) = 9223372036854775808 := by decide
 omega)
def valL : List UInt8 → Nat
 | [] => 0
 | c :: r => c.toNat % 128 + 128 * valL r
def cont : List UInt8 → Nat
 | [] => 0
 | c :: r => if 128 ≤ c.toNat then cont r + 1 else 0
def shapeL (g : List UInt8) : Prop := g ≠ [] ∧ (∀ i, i + 1 < g.length → 128 ≤ (g.getD i 0).toNat) ∧ (g.getD (g.length - 1) 0).toNat < 128
def okL (g : List UInt8) : Bool := putL (valL g) == g && decide (valL g ≤ 72057594037927936)
def getE (t : List UInt8) : Nat × Nat × Nat :=
 if cont t = t.length then (0, 0, 2) else if okL (t.take (cont t + 1)) = true then (valL (t.take (cont t + 1)), cont t + 1, 0) else (0, 0, 4)
def getR (bs : List UInt8) (at_ : Int) : Int × Int × Int :=
 if at_ < 0 ∨ (bs.length : Int) < at_ then (0, 0, 1) else
  if (getE (bs.drop at_.toNat)).2.2 = 0 then (((getE (bs.drop at_.toNat)).1 : Int), at_ + ((getE (bs.drop at_.toNat)).2.1 : Int), 0) else (0, 0, ((getE (bs.drop at_.toNat)).2.2 : Int))
end Go.Proofs.YtbenkmihkbjgeaaGreat.Sh
/- The reference: turn, digit, the constants. -/
namespace Go.Proofs.YtbenkmihkbjgeaaGreat.Sh
open Go.RowKit
def KPost (w : World) (e : Ending) (w' : World) : Prop := ∃ g, e = .returned (.slice (some ⟨g, 0, none⟩) 64 64) ∧ Blk w' g 262 kv.toArray ∧ w.heap.size ≤ g ∧ Below w.heap.size w w'
end Go.Proofs.YtbenkmihkbjgeaaGreat.Sh
/- The reference: Hex, Unhex, Valid. -/
namespace Go.Proofs.YtbenkmihkbjgeaaGreat.Sh
open Go.RowKit
theorem Own.nil_ (w : World) (B : Nat) : Own w B (.slice none 0 0) [] := World.ownsRow_nil w B 5 1
end Go.Proofs.YtbenkmihkbjgeaaGreat.Sh
/- Put, both. -/
namespace Go.Proofs.YtbenkmihkbjgeaaGreat.Sh
open Go.RowKit
def PutPost (w : World) (n : Nat) (e : Ending) (w' : World) : Prop := ∃ v, e = .returned (.tuple #[v, .int .i64 0]) ∧ Own w' w.heap.size v (putL n) ∧ Below w.heap.size w w'
theorem nat_or128 (x : Nat) (h : x < 128) : x ||| 128 = x + 128 := by
 have := Nat.two_pow_add_eq_or_of_lt (i := 7) (b := x) (by simpa using h) 1
 rw [Nat.or_comm]
 simp at this
 omega
theorem or128 (m : Int) (k : Nat) (h : m = (k : Int)) (hk : k < 128) : bits .or .u8 m 128 = bi (UInt8.ofNat (k + 128)) := by
 subst h
 rw [show (128 : Int) = ((128 : Nat) : Int) from rfl, u8_or_nat _ _ (by omega) (by omega), nat_or128 k hk]
 unfold bi
 rw [UInt8.toNat_ofNat']
 omega
theorem bi_nat (m : Nat) (h : m < 256) : bi (UInt8.ofNat m) = (m : Int) := by
 unfold bi
 rw [UInt8.toNat_ofNat']
 omega
set_option maxRecDepth 100000 in
set_option maxHeartbeats 800000 in
theorem put_any (n : Nat) (w : World) (h : n ≤ 72057594037927936) : Calls Tryz.prog 219 #[.int .i64 (n : Int)] w (PutPost w n) := by
 have h0 : (0 : Int) ≤ (n : Int) := by omega
 have h1 : (n : Int) ≤ 72057594037927936 := by omega
 have hlen := putL_len9 h
 have HLEN := Lib.hid hlen
 clear hlen
 obtain ⟨n0, hn0⟩ : ∃ n0, n0 = n := ⟨_, rfl⟩
 rw [← hn0] at HLEN
 have HN := Lib.hid hn0
 have hpost : PutPost w n = PutPost w n0 := by rw [hn0]
 rw [hpost]
 clear hn0 hpost
 go_enter Tryz.func219, Tryz.ntmps219
 go_wp2
 go_loopw [0, 4] (fun x v wr => ∃ (m : Nat) (bs : List UInt8), m ≤ 72057594037927936 ∧ x = .int .i64 m ∧ Own wr w.heap.size v bs ∧ putL n0 = bs ++ putL m ∧ Below w.heap.size w wr) (fun x _ _ => (intOf x).toNat)
 case atStart => exact ⟨n, [], h, rfl, Own.nil_ _ _, by rw [HN.out]; rfl, Below.refl _ _⟩
 case round =>
  obtain ⟨m, bs, hm, rfl, ho, hput, hbw⟩ := hrel
  have hwz := hbw.size
  have hlen : bs.length + 1 ≤ 9 := by
   have := HLEN.out
   rw [hput, List.length_append] at this
   have := putL_pos m
   omega
  have hsm : bs.length + 1 ≤ 140737488355328 := by omega
  have HO := Lib.hid ho
  have HP := Lib.hid hput
  have HBW := Lib.hid hbw
  clear ho hput hbw
  have hm0 : (0 : Int) ≤ (m : Int) := by omega
  have hm1 : (m : Int) ≤ 72057594037927936 := by omega
  by_cases hlt : m < 128
  ·have hm2 : (m : Int) < 128 := by omega
   go_wp2_with (at_builtin; refine append_byte rfl (.tmp 22) (.tmp 25) rfl wr w.heap.size u4 bs rfl HO.out _ (UInt8.ofNat m) (bi_nat m (by omega)) rfl hsm hwz ?_; intro v3 w3 ho3 hb3; have HO3 := Lib.hid ho3; have HB3 := Lib.hid hb3; clear ho3 hb3)
   go_ret2
   refine ⟨v3, rfl, ?_, HBW.out.trans HB3.out⟩
   rw [HP.out, putL_lt hlt]
   exact HO3.out
  ·have hm2 : (128 : Int) ≤ (m : Int) := by omega
   have hor := or128 ((m : Int) % 128) (m % 128) (by omega) (by omega)
   obtain ⟨y, hy⟩ : ∃ y, UInt8.ofNat (m % 128 + 128) = y := ⟨_, rfl⟩
   rw [hy] at hor
   have HY := Lib.hid hy
   clear hy
   go_wp2_with (at_builtin; refine append_byte rfl (.tmp 13) (.tmp 18) rfl wr w.heap.size u4 bs rfl HO.out _ y rfl rfl hsm hwz ?_; intro v3 w3 ho3 hb3; have HO3 := Lib.hid ho3; have HB3 := Lib.hid hb3; clear ho3 hb3)
   refine ⟨⟨m / 128, bs ++ [y], by omega, ?_, HO3.out, ?_, HBW.out.trans HB3.out⟩, ?_⟩
   ·congr 1
   ·rw [HP.out, putL_ge (show 128 ≤ m by omega), HY.out, List.append_assoc]; rfl
   ·simp [intOf]; omega
end Go.Proofs.YtbenkmihkbjgeaaGreat.Sh
/- wire's Get. -/
namespace Go.Proofs.YtbenkmihkbjgeaaGreat.Sh
open Go.RowKit
theorem Sl.len {w : World} {v : Value} {bs : List UInt8} (h : Sl w v bs) : ∃ A c, v = .slice A bs.length c ∧ bs.length ≤ c ∧ c ≤ maxLen ∧ In w A bs := by
 obtain ⟨A, c, hv, h1, h2, h3, _⟩ := h
 exact ⟨A, c, hv, h1, h2, h3⟩
theorem In.at_ {w : World} {A : Option Addr} {bs : List UInt8} (h : In w A bs) (k : Nat) (hk : k < bs.length) : ∃ ad, A = some ad ∧ w.cell? (ad.add k) = some (.int .u8 (bi (bs.getD k 0))) := by
 obtain ⟨ad, e, _, hc⟩ := h (by omega)
 exact ⟨ad, e, hc k hk⟩
end Go.Proofs.YtbenkmihkbjgeaaGreat.Sh
/- wire's readNumber. -/
namespace Go.Proofs.YtbenkmihkbjgeaaGreat.Sh
open Go.RowKit
def fits (g : List UInt8) : Prop := 1 ≤ g.length ∧ g.length ≤ 9 ∧ (g.length = 1 ∨ g.getD (g.length - 1) 0 ≠ 0)
end Go.Proofs.YtbenkmihkbjgeaaGreat.Sh
/- wire's Get, whole. -/
namespace Go.Proofs.YtbenkmihkbjgeaaGreat.Sh
open Go.RowKit
end Go.Proofs.YtbenkmihkbjgeaaGreat.Sh
/- Package names: Name; wire.Has. -/
namespace Go.Proofs.YtbenkmihkbjgeaaGreat.Tx
open Go.RowKit Go.Proofs.YtbenkmihkbjgeaaGreat.Sh
theorem list_other_ {a b : List UInt8} (h : a ≠ b) : (a == b) = false := by simpa using h
theorem text_there_ {b : List UInt8} (h : 0 < b.length) : (str b).toList.isEmpty = false ∧ ((str b).toList == []) = false := by
 rw [str_toList]
 cases b with
 | nil => simp at h
 | cons c r => exact ⟨rfl, rfl⟩
set_option maxRecDepth 100000 in
set_option maxHeartbeats 1600000 in
theorem cname_all (cs : List UInt8) (w : World) : Calls Tryz.prog 157 #[.string (str cs)] w fun e w' => e = .returned (.bool (nameB cs)) ∧ w = w' := by
 have hsz := str_size cs
 have htl := str_toList cs
 obtain ⟨l, hL⟩ : ∃ l, cs.length = l := ⟨_, rfl⟩
 rw [hL] at hsz
 have HL := Lib.hid hL
 have n0 : (0 : Int) ≤ (l : Int) := by omega
 clear hL
 rcases Nat.eq_zero_or_pos l with h1 | h1
 ·have HR : Hid (nameB cs = false) := by
   unfold Hid
   rw [nameB_eq, HL.out]
   simp [h1]
  have e0 : (str cs).toList.isEmpty = true := by
   have : cs = [] := List.eq_nil_of_length_eq_zero (by rw [HL.out]; exact h1)
   rw [htl, this]; rfl
  have e0' : ((str cs).toList == []) = true := by
   have : cs = [] := List.eq_nil_of_length_eq_zero (by rw [HL.out]; exact h1)
   rw [htl, this]; rfl
  clear htl h1 n0
  go_enter Tryz.func157, Tryz.ntmps157
  go_wp2
  go_ret
  exact ⟨by rw [HR.out]; rfl, rfl⟩
 ·obtain ⟨e0, e0'⟩ : (str cs).toList.isEmpty = false ∧ ((str cs).toList == []) = false := text_there_ (by rw [HL.out]; exact h1)
  have z1 : (1 : Int) ≤ (l : Int) := by omega
  by_cases h3 : cs = [46]
  ·have HR : Hid (nameB cs = false) := by subst h3; rfl
   have e1 : ((str cs).toList == [46]) = true := by rw [htl, h3]; rfl
   clear htl h3
   go_enter Tryz.func157, Tryz.ntmps157
   go_wp2
   go_ret
   exact ⟨by rw [HR.out]; rfl, rfl⟩
  ·have e1 : ((str cs).toList == [46]) = false := by rw [htl]; exact list_other_ h3
   by_cases h4 : cs = [46, 46]
   ·have HR : Hid (nameB cs = false) := by subst h4; rfl
    have e2 : ((str cs).toList == [46, 46]) = true := by rw [htl, h4]; rfl
    clear htl h3 h4
    go_enter Tryz.func157, Tryz.ntmps157
    go_wp2
    go_ret
    exact ⟨by rw [HR.out]; rfl, rfl⟩
   ·have e2 : ((str cs).toList == [46, 46]) = false := by rw [htl]; exact list_other_ h4
    have H3 := Lib.hid h3
    have H4 := Lib.hid h4
    clear htl h3 h4
    by_cases h2 : 64 < l
    ·have HR : Hid (nameB cs = false) := by
      unfold Hid
      rw [nameB_eq, HL.out]
      simp [show ¬ (l ≤ 64) from by omega]
     have z2 : (64 : Int) < (l : Int) := by omega
     go_enter Tryz.func157, Tryz.ntmps157
     go_wp2
     go_ret
     exact ⟨by rw [HR.out]; rfl, rfl⟩
    ·have z2 : (l : Int) ≤ 64 := by omega
     go_enter Tryz.func157, Tryz.ntmps157
     go_wp2
     clear e0 e0' e1 e2
     go_loop [21] (fun i => ∃ k : Nat, k ≤ l ∧ i = .int .i64 k ∧ ∀ (j : Nat) (c : UInt8), j < k → cs[j]? = some c → okc c = true) (fun i => l - (intOf i).toNat)
     case atStart => exact ⟨0, by omega, rfl, fun j c hj => by omega⟩
     case round =>
      obtain ⟨k, hk, rfl, hok⟩ := hrel
      have HOK := Lib.hid hok
      clear hok
      have k0 : (0 : Int) ≤ (k : Int) := by omega
      by_cases hlt : k < l
      ·have k1 : (k : Int) < (l : Int) := by omega
       have hkc : k < cs.length := by rw [HL.out]; exact hlt
       have hix := index_str cs k hkc
       obtain ⟨x, hx⟩ : ∃ x, cs.getD k 0 = x := ⟨_, rfl⟩
       have hx' : cs[k]? = some x := by rw [← hx, List.getD_eq_getElem?_getD, List.getElem?_eq_getElem hkc]; rfl
       rw [hx] at hix
       have HX := Lib.hid hx'
       clear hx hx' hkc
       rcases okc_cases x with ⟨ho, c1⟩ | ⟨ho, c1, c2⟩ | ⟨ho, c1, c2, c3⟩ | ⟨ho, c1, c2, c3⟩
       ·have HR : Hid (nameB cs = false) := nameB_bad HX.out ho
        clear ho
        generalize bi x = y at *
        go_wp2
        go_ret
        exact ⟨by rw [HR.out]; rfl, rfl⟩
       ·have HR : Hid (nameB cs = false) := nameB_bad HX.out ho
        clear ho
        generalize bi x = y at *
        go_wp2
        go_ret
        exact ⟨by rw [HR.out]; rfl, rfl⟩
       ·have HR : Hid (nameB cs = false) := nameB_bad HX.out ho
        have hy : bi x = 47 := by subst c3; unfold bi; rfl
        rw [hy] at hix c1 c2
        clear ho c3 hy
        go_wp2
        go_ret
        exact ⟨by rw [HR.out]; rfl, rfl⟩
       ·have HO := Lib.hid ho
        clear ho
        generalize bi x = y at *
        go_wp2
        go_round
        case rel =>
         refine ⟨k + 1, by omega, by go_num, fun j c hj hc => ?_⟩
         by_cases e : j = k
         ·subst e; rw [HX.out] at hc; injection hc with hc; subst hc; exact HO.out
         ·exact HOK.out j c (by omega) hc
        case measure => simp [intOf]; omega
      ·have HR : Hid (nameB cs = true) := by
        unfold Hid
        refine nameB_good (by rw [HL.out]; omega) (by rw [HL.out]; omega) (list_other_ H3.out) (list_other_ H4.out) (fun j c hc => HOK.out j c ?_ hc)
        have := (List.getElem?_eq_some_iff.1 hc).1
        rw [HL.out] at this
        omega
       obtain rfl : k = l := by omega
       go_wp2
       go_ret
       exact ⟨by rw [HR.out]; rfl, rfl⟩
theorem add_field' (x : Addr) (m j : Nat) (hj : 0 < j) : x.add (m + j) = ⟨(x.add m).block, (x.add m).off + j, none⟩ := by
 unfold Addr.add
 by_cases hm : m = 0
 ·subst hm
  rw [if_neg (by omega)]
  simp
 ·rw [if_neg (by omega), if_neg hm]
  simp [Nat.add_assoc]
theorem toList_ne' {s t : ByteArray} (h : t ≠ s) : (t.toList == s.toList) = false := by
 rw [beq_eq_false_iff_ne]
 intro e
 rw [ByteArray.toList_eq, ByteArray.toList_eq] at e
 exact h (ByteArray.ext (Array.toList_inj.1 e))
end Go.Proofs.YtbenkmihkbjgeaaGreat.Tx
/- Objects: plain, and as values. -/
namespace Go.Proofs.YtbenkmihkbjgeaaGreat.Ob
open Go.RowKit Go.Proofs.YtbenkmihkbjgeaaGreat.Sh
open Go.Proofs.YtbenkmihkbjgeaaGreat.Tx (OwnV SlV sv bl nameB reads_at texts_at toList_ne')
abbrev ItM := Int × List UInt8 × List UInt8
structure ObM where
 kind : Int
 data : List UInt8
 items : List ItM
 tree : List UInt8
 parents : List (List UInt8)
 stamp : Int
 author : Int
 msg : List UInt8
def itC (x : ItM) : List Value := [.int .i64 x.1, .string (str x.2.1), .string (str x.2.2)]
theorem itC_at (l : List ItM) : ∀ (k : Nat) (x : ItM), l[k]? = some x → (l.flatMap itC)[k * 3]? = some (.int .i64 x.1) ∧ (l.flatMap itC)[k * 3 + 1]? = some (.string (str x.2.1)) ∧ (l.flatMap itC)[k * 3 + 2]? = some (.string (str x.2.2)) := by
 induction l with
 | nil => intro k x h; simp at h
 | cons y l ih =>
  intro k x h
  cases k with
  | zero =>
   simp at h
   subst h
   exact ⟨rfl, rfl, rfl⟩
  | succ k =>
   obtain ⟨h0, h1, h2⟩ := ih k x (by simpa using h)
   have e : ∀ j, ((y :: l).flatMap itC)[(k + 1) * 3 + j]? = (l.flatMap itC)[k * 3 + j]? := by
    intro j
    rw [List.flatMap_cons, List.getElem?_append_right (by simp [itC]; omega)]
    congr 1
    simp [itC]
    omega
   exact ⟨(e 0).trans h0, (e 1).trans h1, (e 2).trans h2⟩
def SlI (w : World) (v : Value) (l : List ItM) : Prop := ∃ A c, v = .slice A l.length c ∧ l.length ≤ c ∧ c ≤ maxLen ∧ (A = none → l = []) ∧ Reads w w.heap.size 3 A l.length (l.flatMap itC)
def OwnI (T : TypeId) (w : World) (B : Nat) (v : Value) (l : List ItM) : Prop := w.ownsRow B T 3 v l.length (l.flatMap itC)
section
variable {T : TypeId} {w w' : World} {B : Nat} {v : Value} {l : List ItM}
theorem SlI.below (h : SlI w v l) (hb : Below w.heap.size w w') : SlI w' v l := by
 obtain ⟨A, c, hv, h1, h2, h3, h4⟩ := h
 exact ⟨A, c, hv, h1, h2, h3, (h4.below hb).more hb.size⟩
theorem SlI.nil_ (w : World) : SlI w (.slice none 0 0) [] := ⟨none, 0, rfl, by simp, by unfold maxLen; omega, fun _ => rfl, ⟨by simp, fun h => absurd h (by simp)⟩⟩
theorem items_at {A : Option Addr} {n : Nat} (h : Reads w B 3 A n (l.flatMap itC)) (hn : n = l.length) (k : Nat) (x : ItM) (hk : l[k]? = some x) :
  ∃ ad, A = some ad ∧ w.cell? (ad.add (k * 3)) = some (.int .i64 x.1) ∧ w.cell? ⟨(ad.add (k * 3)).block, (ad.add (k * 3)).off + 1, none⟩ = some (.string (str x.2.1)) ∧ w.cell? ⟨(ad.add (k * 3)).block, (ad.add (k * 3)).off + 2, none⟩ = some (.string (str x.2.2)) := by
 have hl : k < l.length := (List.getElem?_eq_some_iff.1 hk).1
 obtain ⟨ad, e, _, hc⟩ := h.2 (by omega)
 obtain ⟨h0, h1, h2⟩ := itC_at l k x hk
 refine ⟨ad, e, hc _ _ h0, ?_, ?_⟩
 ·rw [← Tx.add_field' ad (k * 3) 1 (by omega)]
  exact hc _ _ h1
 ·rw [← Tx.add_field' ad (k * 3) 2 (by omega)]
  exact hc _ _ h2
end
def ObV (w : World) (v : Value) (o : ObM) : Prop := ∃ d it ps, v = .agg #[.int .i64 o.kind, d, it, .string (str o.tree), ps, .int .i64 o.stamp, .int .i64 o.author, .string (str o.msg)] ∧ Sl w d o.data ∧ SlI w it o.items ∧ SlV w ps ((o.parents.map str).map sv)
theorem ObV.below {w w' : World} {v : Value} {o : ObM} (h : ObV w v o) (hb : Below w.heap.size w w') : ObV w' v o := by
 obtain ⟨d, it, ps, hv, h1, h2, h3⟩ := h
 exact ⟨d, it, ps, hv, h1.below hb, h2.below hb, h3.below hb⟩
def BoolPost (w : World) (t : Bool) (e : Ending) (w' : World) : Prop := e = .returned (.bool t) ∧ Below w.heap.size w w'
end Go.Proofs.YtbenkmihkbjgeaaGreat.Ob
/- slices.Equal (of bytes, of texts, of items). -/
namespace Go.Proofs.YtbenkmihkbjgeaaGreat.Ob
open Go.RowKit Go.Proofs.YtbenkmihkbjgeaaGreat.Sh
open Go.Proofs.YtbenkmihkbjgeaaGreat.Tx (OwnV SlV sv bl nameB reads_at texts_at toList_ne')
theorem take_snoc {α : Type} [Inhabited α] {xs ys : List α} {k : Nat} (h1 : k < xs.length) (h2 : k < ys.length) (ht : xs.take k = ys.take k) (he : xs[k] = ys[k]) : xs.take (k + 1) = ys.take (k + 1) := by
 rw [List.take_succ_eq_append_getElem h1, List.take_succ_eq_append_getElem h2, ht, he]
set_option maxRecDepth 100000 in
set_option maxHeartbeats 800000 in
theorem eqb_any (v v' : Value) (xs ys : List UInt8) (w : World) (h : Sl w v xs) (h' : Sl w v' ys) : Calls Tryz.prog 233 #[v, v'] w (BoolPost w (xs == ys)) := by
 obtain ⟨A, c, rfl, hlc, hcm, hR⟩ := h.len
 obtain ⟨A', c', rfl, hlc', hcm', hR'⟩ := h'.len
 unfold maxLen at hcm hcm'
 have HR := Lib.hid hR
 have HR' := Lib.hid hR'
 obtain ⟨l, hl⟩ : ∃ l, xs.length = l := ⟨_, rfl⟩
 obtain ⟨m, hm⟩ : ∃ m, ys.length = m := ⟨_, rfl⟩
 obtain ⟨t, ht⟩ : ∃ t, (xs == ys) = t := ⟨_, rfl⟩
 rw [hl] at hlc ⊢
 rw [hm] at hlc' ⊢
 rw [ht]
 have HL := Lib.hid hl
 have HM := Lib.hid hm
 have HT := Lib.hid ht
 clear h h' hR hR' hl hm ht
 by_cases hlm : l = m
 ·subst hlm
  go_enter Tryz.func233, Tryz.ntmps233
  go_wp2
  go_loopw [13] (fun i wr => ∃ k : Nat, k ≤ l ∧ i = .int .i64 k ∧ Below w.heap.size w wr ∧ xs.take k = ys.take k) (fun i _ => l - (intOf i).toNat)
  case atStart => exact ⟨0, Nat.zero_le _, rfl, Below.refl _ _, rfl⟩
  case round =>
   obtain ⟨k, hk, rfl, hb, htk⟩ := hrel
   have HB := Lib.hid hb
   have HTK := Lib.hid htk
   clear hb htk
   by_cases hlt : k < l
   ·have hkl : k < xs.length := by rw [HL.out]; exact hlt
    have hkm : k < ys.length := by rw [HM.out]; exact hlt
    obtain ⟨ad, rfl, hcell⟩ := (HR.out.below HB.out).at_ k hkl
    obtain ⟨ad', rfl, hcell'⟩ := (HR'.out.below HB.out).at_ k hkm
    rw [List.getD_eq_getElem?_getD, List.getElem?_eq_getElem hkl] at hcell
    rw [List.getD_eq_getElem?_getD, List.getElem?_eq_getElem hkm] at hcell'
    have z0 : (0 : Int) ≤ (k : Int) := by omega
    have z1 : (k : Int) < (l : Int) := by omega
    by_cases he : xs[k] = ys[k]
    ·have HS := Lib.hid (take_snoc hkl hkm HTK.out he)
     rw [← he] at hcell'
     clear he
     replace hcell : wr.cell? (ad.add k) = some (.int .u8 (bi xs[k])) := hcell
     replace hcell' : wr.cell? (ad'.add k) = some (.int .u8 (bi xs[k])) := hcell'
     generalize bi xs[k] = x at *
     clear hkl hkm
     go_wp2_with fail
     go_quiet (fail)
     go_wp2
     go_roundw
     case rel => exact ⟨k + 1, by omega, by go_num, below_drewN HB.out _, HS.out⟩
     case measure => simp [intOf]; omega
    ·have htt : t = false := by
      rw [← HT.out, beq_eq_false_iff_ne]
      rintro rfl
      exact he rfl
     subst htt
     have hne : bi xs[k] ≠ bi ys[k] := fun e => he (bi_inj e)
     clear he
     replace hcell : wr.cell? (ad.add k) = some (.int .u8 (bi xs[k])) := hcell
     replace hcell' : wr.cell? (ad'.add k) = some (.int .u8 (bi ys[k])) := hcell'
     generalize bi xs[k] = x at *
     generalize bi ys[k] = y at *
     clear hkl hkm
     have hne' : (x == y) = false := beq_eq_false_iff_ne.2 hne
     clear hne
     go_wp2_with fail
     go_quiet (fail)
     go_wp2
     go_ret
     exact ⟨rfl, below_drewN HB.out _⟩
   ·have htt : t = true := by
     rw [← HT.out, beq_iff_eq]
     have := HTK.out
     rwa [List.take_of_length_le (by rw [HL.out]; omega), List.take_of_length_le (by rw [HM.out]; omega)] at this
    subst htt
    go_wp2
    go_ret
    exact ⟨rfl, HB.out⟩
 ·have htt : t = false := by
   rw [← HT.out, beq_eq_false_iff_ne]
   rintro rfl
   exact hlm (HL.out.symm.trans HM.out)
  subst htt
  have hne : ((l : Int) == (m : Int)) = false := beq_eq_false_iff_ne.2 (by omega)
  clear hlm
  go_enter Tryz.func233, Tryz.ntmps233
  go_wp2
  go_ret
  exact ⟨rfl, Below.refl _ _⟩
set_option maxRecDepth 100000 in
set_option maxHeartbeats 800000 in
theorem eqt_any (v v' : Value) (xs ys : List (List UInt8)) (w : World) (h : SlV w v ((xs.map str).map sv)) (h' : SlV w v' ((ys.map str).map sv)) : Calls Tryz.prog 235 #[v, v'] w (BoolPost w (xs == ys)) := by
 obtain ⟨A, c, rfl, hlc, hcm, hR⟩ := h.len
 obtain ⟨A', c', rfl, hlc', hcm', hR'⟩ := h'.len
 simp only [List.length_map] at hlc hR hlc' hR' ⊢
 unfold maxLen at hcm hcm'
 have HR := Lib.hid hR
 have HR' := Lib.hid hR'
 obtain ⟨l, hl⟩ : ∃ l, xs.length = l := ⟨_, rfl⟩
 obtain ⟨m, hm⟩ : ∃ m, ys.length = m := ⟨_, rfl⟩
 obtain ⟨t, ht⟩ : ∃ t, (xs == ys) = t := ⟨_, rfl⟩
 rw [hl] at hlc ⊢
 rw [hm] at hlc' ⊢
 rw [ht]
 have HL := Lib.hid hl
 have HM := Lib.hid hm
 have HT := Lib.hid ht
 clear h h' hR hR' hl hm ht
 by_cases hlm : l = m
 ·subst hlm
  go_enter Tryz.func235, Tryz.ntmps235
  go_wp2
  go_loopw [13] (fun i wr => ∃ k : Nat, k ≤ l ∧ i = .int .i64 k ∧ Below w.heap.size w wr ∧ xs.take k = ys.take k) (fun i _ => l - (intOf i).toNat)
  case atStart => exact ⟨0, Nat.zero_le _, rfl, Below.refl _ _, rfl⟩
  case round =>
   obtain ⟨k, hk, rfl, hb, htk⟩ := hrel
   have HB := Lib.hid hb
   have HTK := Lib.hid htk
   clear hb htk
   by_cases hlt : k < l
   ·have hkl : k < xs.length := by rw [HL.out]; exact hlt
    have hkm : k < ys.length := by rw [HM.out]; exact hlt
    obtain ⟨ad, rfl, hcell⟩ := reads_at ((HR.out.below HB.out).more HB.out.size) k (sv (str xs[k])) (by rw [List.map_map, List.getElem?_map, List.getElem?_eq_getElem hkl]; rfl)
    obtain ⟨ad', rfl, hcell'⟩ := reads_at ((HR'.out.below HB.out).more HB.out.size) k (sv (str ys[k])) (by rw [List.map_map, List.getElem?_map, List.getElem?_eq_getElem hkm]; rfl)
    have z0 : (0 : Int) ≤ (k : Int) := by omega
    have z1 : (k : Int) < (l : Int) := by omega
    by_cases he : xs[k] = ys[k]
    ·have HS := Lib.hid (take_snoc hkl hkm HTK.out he)
     rw [← he] at hcell'
     clear he
     replace hcell : wr.cell? (ad.add k) = some (.string (str xs[k])) := hcell
     replace hcell' : wr.cell? (ad'.add k) = some (.string (str xs[k])) := hcell'
     generalize str xs[k] = x at *
     clear hkl hkm
     go_wp2_with fail
     go_quiet (fail)
     go_wp2
     go_roundw
     case rel => exact ⟨k + 1, by omega, by go_num, below_drewN HB.out _, HS.out⟩
     case measure => simp [intOf]; omega
    ·have htt : t = false := by
      rw [← HT.out, beq_eq_false_iff_ne]
      rintro rfl
      exact he rfl
     subst htt
     have hne : str xs[k] ≠ str ys[k] := fun e => he (str_inj e)
     clear he
     replace hcell : wr.cell? (ad.add k) = some (.string (str xs[k])) := hcell
     replace hcell' : wr.cell? (ad'.add k) = some (.string (str ys[k])) := hcell'
     generalize str xs[k] = x at *
     generalize str ys[k] = y at *
     clear hkl hkm
     have hne' := toList_ne' hne
     clear hne
     go_wp2_with fail
     go_quiet (fail)
     go_wp2
     go_ret
     exact ⟨rfl, below_drewN HB.out _⟩
   ·have htt : t = true := by
     rw [← HT.out, beq_iff_eq]
     have := HTK.out
     rwa [List.take_of_length_le (by rw [HL.out]; omega), List.take_of_length_le (by rw [HM.out]; omega)] at this
    subst htt
    go_wp2
    go_ret
    exact ⟨rfl, HB.out⟩
 ·have htt : t = false := by
   rw [← HT.out, beq_eq_false_iff_ne]
   rintro rfl
   exact hlm (HL.out.symm.trans HM.out)
  subst htt
  have hne : ((l : Int) == (m : Int)) = false := beq_eq_false_iff_ne.2 (by omega)
  clear hlm
  go_enter Tryz.func235, Tryz.ntmps235
  go_wp2
  go_ret
  exact ⟨rfl, Below.refl _ _⟩
set_option maxRecDepth 100000 in
set_option maxHeartbeats 800000 in
theorem eqi_any (v v' : Value) (xs ys : List ItM) (w : World) (h : SlI w v xs) (h' : SlI w v' ys) : Calls Tryz.prog 234 #[v, v'] w (BoolPost w (xs == ys)) := by
 obtain ⟨A, c, rfl, hlc, hcm, _, hR⟩ := h
 obtain ⟨A', c', rfl, hlc', hcm', _, hR'⟩ := h'
 unfold maxLen at hcm hcm'
 have HR := Lib.hid hR
 have HR' := Lib.hid hR'
 obtain ⟨l, hl⟩ : ∃ l, xs.length = l := ⟨_, rfl⟩
 obtain ⟨m, hm⟩ : ∃ m, ys.length = m := ⟨_, rfl⟩
 obtain ⟨t, ht⟩ : ∃ t, (xs == ys) = t := ⟨_, rfl⟩
 rw [hl] at hlc ⊢
 rw [hm] at hlc' ⊢
 rw [ht]
 have HL := Lib.hid hl
 have HM := Lib.hid hm
 have HT := Lib.hid ht
 clear hR hR' hl hm ht
 by_cases hlm : l = m
 ·subst hlm
  go_enter Tryz.func234, Tryz.ntmps234
  go_wp2
  go_loopw [13] (fun i wr => ∃ k : Nat, k ≤ l ∧ i = .int .i64 k ∧ Below w.heap.size w wr ∧ xs.take k = ys.take k) (fun i _ => l - (intOf i).toNat)
  case atStart => exact ⟨0, Nat.zero_le _, rfl, Below.refl _ _, rfl⟩
  case round =>
   obtain ⟨k, hk, rfl, hb, htk⟩ := hrel
   have HB := Lib.hid hb
   have HTK := Lib.hid htk
   clear hb htk
   by_cases hlt : k < l
   ·have hkl : k < xs.length := by rw [HL.out]; exact hlt
    have hkm : k < ys.length := by rw [HM.out]; exact hlt
    obtain ⟨ad, rfl, c0, c1, c2⟩ := items_at (HR.out.below HB.out) rfl k xs[k] (List.getElem?_eq_getElem hkl)
    obtain ⟨ad', rfl, d0, d1, d2⟩ := items_at (HR'.out.below HB.out) rfl k ys[k] (List.getElem?_eq_getElem hkm)
    have z0 : (0 : Int) ≤ (k : Int) := by omega
    have z1 : (k : Int) < (l : Int) := by omega
    obtain ⟨p, hp⟩ : ∃ p, xs[k] = p := ⟨_, rfl⟩
    obtain ⟨q, hq⟩ : ∃ q, ys[k] = q := ⟨_, rfl⟩
    obtain ⟨r, hr⟩ : ∃ r, (p == q) = r := ⟨_, rfl⟩
    have HS : Hid (r = true → xs.take (k + 1) = ys.take (k + 1)) := fun e => take_snoc hkl hkm HTK.out (by rw [hp, hq]; rw [e] at hr; exact beq_iff_eq.1 hr)
    have HN : Hid (r = false → t = false) := fun e => by
     rw [← HT.out, beq_eq_false_iff_ne]
     rintro rfl
     rw [e] at hr
     exact (beq_eq_false_iff_ne.1 hr) (hp.symm.trans hq)
    rw [hp] at c0 c1 c2
    rw [hq] at d0 d1 d2
    clear hp hq hkl hkm
    cases r with
    | true =>
     have HSS := Lib.hid (HS.out rfl)
     obtain rfl : p = q := beq_iff_eq.1 hr
     clear hr HS HN
     generalize p.1 = x0 at *
     generalize str p.2.1 = x1 at *
     generalize str p.2.2 = x2 at *
     go_wp2_with fail
     go_quiet (fail)
     go_wp2
     go_roundw
     case rel => exact ⟨k + 1, by omega, by go_num, below_drewN HB.out _, HSS.out⟩
     case measure => simp [intOf]; omega
    | false =>
     obtain rfl := HN.out rfl
     clear HS HN
     obtain ⟨p0, p1, p2⟩ := p
     obtain ⟨q0, q1, q2⟩ := q
     replace c0 : wr.cell? (ad.add (k * 3)) = some (.int .i64 p0) := c0
     replace c1 : wr.cell? ⟨(ad.add (k * 3)).block, (ad.add (k * 3)).off + 1, none⟩ = some (.string (str p1)) := c1
     replace c2 : wr.cell? ⟨(ad.add (k * 3)).block, (ad.add (k * 3)).off + 2, none⟩ = some (.string (str p2)) := c2
     replace d0 : wr.cell? (ad'.add (k * 3)) = some (.int .i64 q0) := d0
     replace d1 : wr.cell? ⟨(ad'.add (k * 3)).block, (ad'.add (k * 3)).off + 1, none⟩ = some (.string (str q1)) := d1
     replace d2 : wr.cell? ⟨(ad'.add (k * 3)).block, (ad'.add (k * 3)).off + 2, none⟩ = some (.string (str q2)) := d2
     by_cases e0 : p0 = q0
     ·subst e0
      by_cases e1 : p1 = q1
      ·subst e1
       have hne := toList_ne' (fun e => (beq_eq_false_iff_ne.1 hr) (by rw [str_inj e]) : str p2 ≠ str q2)
       clear hr
       generalize str p1 = x1 at *
       generalize str p2 = x2 at *
       generalize str q2 = y2 at *
       go_wp2_with fail
       go_quiet (fail)
       go_wp2
       go_ret
       exact ⟨rfl, below_drewN HB.out _⟩
      ·have hne := toList_ne' (fun e => e1 (str_inj e) : str p1 ≠ str q1)
       clear hr e1
       generalize str p1 = x1 at *
       generalize str q1 = y1 at *
       generalize str p2 = x2 at *
       generalize str q2 = y2 at *
       go_wp2_with fail
       go_quiet (fail)
       go_wp2
       go_ret
       exact ⟨rfl, below_drewN HB.out _⟩
     ·have hne : (p0 == q0) = false := beq_eq_false_iff_ne.2 e0
      clear hr e0
      generalize str p1 = x1 at *
      generalize str q1 = y1 at *
      generalize str p2 = x2 at *
      generalize str q2 = y2 at *
      go_wp2_with fail
      go_quiet (fail)
      go_wp2
      go_ret
      exact ⟨rfl, below_drewN HB.out _⟩
   ·have htt : t = true := by
     rw [← HT.out, beq_iff_eq]
     have := HTK.out
     rwa [List.take_of_length_le (by rw [HL.out]; omega), List.take_of_length_le (by rw [HM.out]; omega)] at this
    subst htt
    go_wp2
    go_ret
    exact ⟨rfl, HB.out⟩
 ·have htt : t = false := by
   rw [← HT.out, beq_eq_false_iff_ne]
   rintro rfl
   exact hlm (HL.out.symm.trans HM.out)
  subst htt
  have hne : ((l : Int) == (m : Int)) = false := beq_eq_false_iff_ne.2 (by omega)
  clear hlm
  go_enter Tryz.func234, Tryz.ntmps234
  go_wp2
  go_ret
  exact ⟨rfl, Below.refl _ _⟩
end Go.Proofs.YtbenkmihkbjgeaaGreat.Ob
/- obj: what may be of a message, of parents. -/
namespace Go.Proofs.YtbenkmihkbjgeaaGreat.Ob
open Go.RowKit Go.Proofs.YtbenkmihkbjgeaaGreat.Sh
open Go.Proofs.YtbenkmihkbjgeaaGreat.Tx (OwnV SlV sv bl nameB reads_at texts_at toList_ne')
theorem all_bad {f : Nat → Bool} {n k : Nat} (hk : k < n) (h : f k = false) : (List.range n).all f = false := by
 rw [List.all_eq_false]
 exact ⟨k, List.mem_range.2 hk, by rw [h]; simp⟩
theorem all_next {f : Nat → Bool} {k : Nat} (h : (List.range k).all f = true) (hk : f k = true) : (List.range (k + 1)).all f = true := by
 rw [List.range_succ, List.all_append, h]
 simp [hk]
def validB (cs : List UInt8) : Bool := cs.length == 64 && hexOk cs
theorem valid_all (cs : List UInt8) (w : World) : Calls Tryz.prog 180 #[.string (str cs)] w fun e w' => e = .returned (.bool (validB cs)) ∧ w = w' := by
 by_cases h64 : cs.length = 64
 ·exact valid_any cs _ rfl w (by omega)
 ·have hb : validB cs = false := by unfold validB; rw [beq_eq_false_iff_ne.2 h64]; rfl
  rw [hb]
  have hsz := str_size cs
  obtain ⟨l, hL⟩ : ∃ l, cs.length = l := ⟨_, rfl⟩
  rw [hL] at hsz h64
  have e1 : ((l : Int) == 64) = false := beq_eq_false_iff_ne.2 (by omega)
  clear hL
  go_enter Tryz.func180, Tryz.ntmps180
  go_wp2_with fail
  go_ret
  exact ⟨rfl, rfl⟩
theorem name_all (cs : List UInt8) (w : World) : Calls Tryz.prog 157 #[.string (str cs)] w fun e w' => e = .returned (.bool (nameB cs)) ∧ w = w' := Tx.cname_all cs w
def okm (c : UInt8) : Bool := decide (32 ≤ bi c) && decide (bi c ≤ 126)
def msgB (s : List UInt8) : Bool := decide (s.length ≤ 200) && (List.range s.length).all fun j => okm (s.getD j 0)
set_option maxRecDepth 100000 in
set_option maxHeartbeats 800000 in
theorem msg_any (cs : List UInt8) (w : World) : Calls Tryz.prog 218 #[.string (str cs)] w fun e w' => e = .returned (.bool (msgB cs)) ∧ w = w' := by
 have hsz := str_size cs
 obtain ⟨l, hL⟩ : ∃ l, cs.length = l := ⟨_, rfl⟩
 obtain ⟨t, ht⟩ : ∃ t, msgB cs = t := ⟨_, rfl⟩
 rw [ht]
 unfold msgB at ht
 rw [hL] at hsz ht
 have HL := Lib.hid hL
 have HT := Lib.hid ht
 have n0 : (0 : Int) ≤ (l : Int) := by omega
 clear hL ht
 by_cases h2 : 200 < l
 ·have htt : t = false := by
   rw [← HT.out]
   simp [show ¬ (l ≤ 200) from by omega]
  subst htt
  have l2 : (200 : Int) < (l : Int) := by omega
  clear h2
  go_enter Tryz.func218, Tryz.ntmps218
  go_wp2
  go_ret
  exact ⟨rfl, rfl⟩
 ·have l2 : (l : Int) ≤ 200 := by omega
  have HN := Lib.hid h2
  clear h2
  go_enter Tryz.func218, Tryz.ntmps218
  go_wp2
  go_loop [9] (fun i => ∃ k : Nat, k ≤ l ∧ i = .int .i64 k ∧ (List.range k).all (fun j => okm (cs.getD j 0)) = true) (fun i => l - (intOf i).toNat)
  case atStart => exact ⟨0, by omega, rfl, rfl⟩
  case round =>
   obtain ⟨k, hk, rfl, hok⟩ := hrel
   have HOK := Lib.hid hok
   clear hok
   have k0 : (0 : Int) ≤ (k : Int) := by omega
   by_cases hlt : k < l
   ·have k1 : (k : Int) < (l : Int) := by omega
    have hix := index_str cs k (by rw [HL.out]; exact hlt)
    obtain ⟨x, hx⟩ : ∃ x, cs.getD k 0 = x := ⟨_, rfl⟩
    rw [hx] at hix
    have HX := Lib.hid hx
    clear hx
    by_cases c1 : bi x < 32
    ·have htt : t = false := by
      rw [← HT.out, all_bad hlt (by rw [HX.out]; unfold okm; simp [show ¬ (32 ≤ bi x) from by omega])]
      simp
     subst htt
     generalize bi x = y at *
     go_wp2
     go_ret
     exact ⟨rfl, rfl⟩
    ·have c1' : 32 ≤ bi x := by omega
     clear c1
     by_cases c2 : 126 < bi x
     ·have htt : t = false := by
       rw [← HT.out, all_bad hlt (by rw [HX.out]; unfold okm; simp [show ¬ (bi x ≤ 126) from by omega])]
       simp
      subst htt
      generalize bi x = y at *
      go_wp2
      go_ret
      exact ⟨rfl, rfl⟩
     ·have c2' : bi x ≤ 126 := by omega
      have HO := Lib.hid (all_next HOK.out (show okm (cs.getD k 0) = true from by rw [HX.out]; unfold okm; simp [c1', c2']))
      clear c2
      generalize bi x = y at *
      go_wp2
      go_round
      case rel => exact ⟨k + 1, by omega, by go_num, HO.out⟩
      case measure => simp [intOf]; omega
   ·obtain rfl : k = l := by omega
    have htt : t = true := by
     rw [← HT.out, HOK.out]
     simp
     omega
    subst htt
    go_wp2
    go_ret
    exact ⟨rfl, rfl⟩
def parB (ids : List (List UInt8)) : Bool := decide (ids.length ≤ 2) && (List.range ids.length).all fun j => validB (ids.getD j []) && (decide (j = 0) || bl (ids.getD (j - 1) []) (ids.getD j []))
theorem par_at {w : World} {B : Nat} {ids : List (List UInt8)} {A : Option Addr} {n : Nat} (h : Reads w B 1 A n ((ids.map str).map sv)) (k : Nat) (hk : k < ids.length) : ∃ ad, A = some ad ∧ w.cell? (ad.add k) = some (.string (str (ids.getD k []))) := by
 have : ((ids.map str).map sv)[k]? = some (sv (str (ids.getD k []))) := by
  rw [List.map_map, List.getElem?_map, List.getElem?_eq_getElem hk, List.getD_eq_getElem?_getD, List.getElem?_eq_getElem hk]
  rfl
 exact reads_at h k _ this
set_option maxRecDepth 100000 in
set_option maxHeartbeats 800000 in
theorem par_any (v : Value) (ids : List (List UInt8)) (w : World) (h : SlV w v ((ids.map str).map sv)) : Calls Tryz.prog 217 #[v] w fun e w' => e = .returned (.bool (parB ids)) ∧ w = w' := by
 obtain ⟨A, c, rfl, hlc, hcm, hR⟩ := h.len
 rw [List.length_map, List.length_map] at hlc hR ⊢
 have HR := Lib.hid hR
 unfold maxLen at hcm
 obtain ⟨l, hL⟩ : ∃ l, ids.length = l := ⟨_, rfl⟩
 obtain ⟨t, ht⟩ : ∃ t, parB ids = t := ⟨_, rfl⟩
 rw [ht]
 unfold parB at ht
 rw [hL] at hlc ht ⊢
 have HL := Lib.hid hL
 have HT := Lib.hid ht
 clear hL ht h hR
 by_cases h2 : 2 < l
 ·have htt : t = false := by
   rw [← HT.out]
   simp [show ¬ (l ≤ 2) from by omega]
  subst htt
  have l2 : (2 : Int) < (l : Int) := by omega
  clear h2
  go_enter Tryz.func217, Tryz.ntmps217
  go_wp2
  go_ret
  exact ⟨rfl, rfl⟩
 ·have l2 : (l : Int) ≤ 2 := by omega
  have HN := Lib.hid h2
  clear h2
  go_enter Tryz.func217, Tryz.ntmps217
  go_wp2
  go_loop [10] (fun i => ∃ k : Nat, k ≤ l ∧ i = .int .i64 k ∧ (List.range k).all (fun j => validB (ids.getD j []) && (decide (j = 0) || bl (ids.getD (j - 1) []) (ids.getD j []))) = true) (fun i => l - (intOf i).toNat)
  case atStart => exact ⟨0, by omega, rfl, rfl⟩
  case round =>
   obtain ⟨k, hk, rfl, hok⟩ := hrel
   have HOK := Lib.hid hok
   clear hok
   have k0 : (0 : Int) ≤ (k : Int) := by omega
   by_cases hlt : k < l
   ·have k1 : (k : Int) < (l : Int) := by omega
    obtain ⟨ad, rfl, hcell⟩ := par_at HR.out k (by rw [HL.out]; exact hlt)
    obtain ⟨x, hx⟩ : ∃ x, ids.getD k [] = x := ⟨_, rfl⟩
    rw [hx] at hcell
    have HX := Lib.hid hx
    obtain ⟨b, hb⟩ : ∃ b, validB x = b := ⟨_, rfl⟩
    have HB := Lib.hid hb
    clear hx hb
    cases b with
    | false =>
     have htt : t = false := by
      rw [← HT.out, all_bad hlt (by rw [HX.out, HB.out]; rfl)]
      simp
     subst htt
     go_wp2_with fail
     refine (valid_all x _).mono ?_
     rw [HB.out]
     rintro e w' ⟨rfl, rfl⟩
     go_wp2
     go_ret
     exact ⟨rfl, rfl⟩
    | true =>
     rcases Nat.eq_zero_or_pos k with h0 | h0
     ·have HO := Lib.hid (all_next HOK.out (show (validB (ids.getD k []) && (decide (k = 0) || bl (ids.getD (k - 1) []) (ids.getD k []))) = true from by rw [HX.out, HB.out]; simp [h0]))
      have kz : (k : Int) ≤ 0 := by omega
      clear h0
      go_wp2_with fail
      refine (valid_all x _).mono ?_
      rw [HB.out]
      rintro e w' ⟨rfl, rfl⟩
      go_wp2
      go_round
      case rel => exact ⟨k + 1, by omega, by go_num, HO.out⟩
      case measure => simp [intOf]; omega
     ·obtain ⟨j, hj⟩ : ∃ j, k = j + 1 := ⟨k - 1, by omega⟩
      have hkj : (k : Int) - 1 = (j : Int) := by omega
      have hwj : IntKind.i64.wrap ((k : Int) - 1) = (j : Int) := by rw [IntKind.wrap_i64]; omega
      have kp : (0 : Int) < (k : Int) := by omega
      obtain ⟨ad', had, hcell'⟩ := par_at HR.out j (by rw [HL.out]; omega)
      injection had with had
      subst had
      obtain ⟨y, hy⟩ : ∃ y, ids.getD j [] = y := ⟨_, rfl⟩
      rw [hy] at hcell'
      obtain ⟨r, hr⟩ : ∃ r, Op.bytesLess (str y).toList (str x).toList = r := ⟨_, rfl⟩
      have hr' : bl y x = r := by rw [str_toList, str_toList] at hr; exact hr
      have j0 : (0 : Int) ≤ (j : Int) := by omega
      have j1 : (j : Int) < (l : Int) := by omega
      have HY := Lib.hid hy
      have HJ := Lib.hid hj
      have HRR := Lib.hid hr'
      clear hy hr' hj
      have hf : (validB (ids.getD k []) && (decide (k = 0) || bl (ids.getD (k - 1) []) (ids.getD k []))) = r := by
       rw [HX.out, HB.out, show k - 1 = j from by have := HJ.out; omega, HY.out, HRR.out]
       simp [show k ≠ 0 from by omega]
      have HF := Lib.hid hf
      clear hf h0
      cases r with
      | false =>
       have htt : t = false := by
        rw [← HT.out, all_bad hlt HF.out]
        simp
       subst htt
       go_wp2_with fail
       refine (valid_all x _).mono ?_
       rw [HB.out]
       rintro e w' ⟨rfl, rfl⟩
       go_wp2
       go_ret
       exact ⟨rfl, rfl⟩
      | true =>
       have HO := Lib.hid (all_next HOK.out HF.out)
       go_wp2_with fail
       refine (valid_all x _).mono ?_
       rw [HB.out]
       rintro e w' ⟨rfl, rfl⟩
       go_wp2
       go_round
       case rel => exact ⟨k + 1, by omega, by go_num, HO.out⟩
       case measure => simp [intOf]; omega
   ·obtain rfl : k = l := by omega
    have htt : t = true := by
     rw [← HT.out, HOK.out]
     simp
     omega
    subst htt
    go_wp2
    go_ret
    exact ⟨rfl, rfl⟩
end Go.Proofs.YtbenkmihkbjgeaaGreat.Ob
